/- Proved: the laws' own tests tell a copy, a list of copies and a work like themselves; they write nothing that was there. No condition. -/
import Derived.Test.YteiopndlakkeaaaWorkTo
import Derived.Test.YteiopndlakkeaaaEqEd
import Derived.StillTailTactics
namespace Go.Proofs.Yteiopndlakkeaaa
open Go.RowKit
set_option maxRecDepth 20000

/-- A row of one's own, read as copies. -/
theorem own_at {w : World} {base e g c : Nat} {l : List M.Cp} (h : w.ownsRow base e 5 (.slice (some ⟨g, 0, none⟩) l.length c) l.length (cellsOf cpL l)) : Cps w (some ⟨g, 0, none⟩) l := by
  obtain ⟨A, c', hv, _, hf⟩ := own_flat cpL_len h
  have hA : some ⟨g, 0, none⟩ = A := by injection hv
  rw [hA]; exact hf

set_option maxHeartbeats 1000000 in
theorem eqCopy_same (c : M.Cp) (w : World) :
    Calls Try.prog 86 #[cpV c, cpV c] w fun r w' => r = .returned (.bool true) ∧ Below w.heap.size w w' := by
  have h1 : (c.page.toList != c.page.toList) = false := by simp
  have h2 : (c.hidden != c.hidden) = false := by simp
  have b0 := ((Below.refl w.heap.size w).alloc (Nat.le_refl _) (.cells (cpV c).cells 119)).alloc (by simp) (.cells (cpV c).cells 119)
  go_enter Try.func86, Try.ntmps86
  go_wp2_with fail
  refine (eqEdition_same c.ed _).mono ?_
  rintro r w1 ⟨rfl, b1⟩
  obtain ⟨c1, f1⟩ := bcell b1
  go_wp2
  go_ret
  exact ⟨rfl, next b0 b1⟩

set_option maxHeartbeats 1000000 in
theorem eqCopyS_same (A B : Option Addr) (l : List M.Cp) (ca cb : Nat) (w : World) (ha : Cps w A l) (hb : Cps w B l) (hlen : l.length ≤ maxLen) :
    Calls Try.prog 75 #[.slice A l.length ca, .slice B l.length cb] w fun r w' => r = .returned (.bool true) ∧ Below w.heap.size w w' := by
  unfold maxLen at hlen
  have he : ((l.length : Int) != (l.length : Int)) = false := by simp
  go_enter Try.func75, Try.ntmps75
  go_wp2
  go_loopw [5] (fun i wr => ∃ j : Nat, i = .int .i64 j ∧ j ≤ l.length ∧ Below w.heap.size w wr) (fun i _ => l.length - (intOf i).toNat)
  case atStart => exact ⟨0, rfl, Nat.zero_le _, Below.refl _ _⟩
  case round =>
    obtain ⟨j, rfl, hj, hbl⟩ := hrel
    by_cases hlt : j < l.length
    · obtain ⟨b, o, rfl, _, c0, c1, c2, c3, c4⟩ := Cps_at (ha.below hbl) hlt
      obtain ⟨b', o', rfl, _, d0, d1, d2, d3, d4⟩ := Cps_at (hb.below hbl) hlt
      have HA := Lib.hid ha
      have HB := Lib.hid hb
      clear ha hb
      go_wp2_with fail
      go_still_tail 8, (by kernel_rfl)
      change wpList _ _ _ _ _ wr.drew
      go_wp2_with fail
      refine (eqCopy_same l[j] _).mono ?_
      rintro r w1 ⟨rfl, b1⟩
      go_wp2
      go_roundw
      case rel => exact ⟨j + 1, by go_num, by omega, next hbl.drew b1⟩
      case measure => simp [intOf]; omega
    · have hj' : j = l.length := by omega
      subst hj'
      go_wp2
      go_ret
      exact ⟨rfl, hbl⟩

set_option maxHeartbeats 1000000 in
theorem eqWork_same (name : ByteArray) (owner : Int) (A B : Option Addr) (l : List M.Cp) (ca cb : Nat) (w : World) (ha : Cps w A l) (hb : Cps w B l) (hlen : l.length ≤ maxLen) :
    Calls Try.prog 60 #[wkV name owner A l.length ca, wkV name owner B l.length cb] w fun r w' => r = .returned (.bool true) ∧ Below w.heap.size w w' := by
  have h1 : (name.toList != name.toList) = false := by simp
  have h2 : (owner != owner) = false := by simp
  have b0 := ((Below.refl w.heap.size w).alloc (Nat.le_refl _) (.cells (wkL name owner A l.length ca) 97)).alloc (by simp) (.cells (wkL name owner B l.length cb) 97)
  go_enter Try.func60, Try.ntmps60
  go_wp2_with fail
  refine (eqCopyS_same A B l ca cb _ ((ha.alloc _).alloc _) ((hb.alloc _).alloc _) hlen).mono ?_
  rintro r w1 ⟨rfl, b1⟩
  go_wp2
  go_ret
  exact ⟨rfl, next b0 b1⟩
end Go.Proofs.Yteiopndlakkeaaa
