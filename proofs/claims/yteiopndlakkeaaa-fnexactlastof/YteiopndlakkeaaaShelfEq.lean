/- Proved: the laws' own test tells two lists of works alike that are; it writes nothing that was there. No condition. -/
import Derived.Test.YteiopndlakkeaaaShelfMem
import Derived.Test.YteiopndlakkeaaaWorkEq
namespace Go.Proofs.Yteiopndlakkeaaa
open Go.RowKit
set_option maxRecDepth 20000

theorem wk_at {l m : List Wr} (h : l.map Wr.wk = m.map Wr.wk) {j : Nat} (hl : j < l.length) (hm : j < m.length) : l[j].name = m[j].name ∧ l[j].owner = m[j].owner ∧ l[j].cps = m[j].cps := by
  have h1 : (l.map Wr.wk)[j]'(by simpa using hl) = (m.map Wr.wk)[j]'(by simpa using hm) := by simp only [h]
  simp only [List.getElem_map, Wr.wk] at h1
  injection h1 with a b c
  exact ⟨a, b, c⟩

set_option maxHeartbeats 1000000 in
theorem eqWorkS_same (A B : Option Addr) (l m : List Wr) (ca cb : Nat) (w : World) (ha : Wks w A l) (hb : Wks w B m) (he : l.map Wr.wk = m.map Wr.wk) (hlen : l.length ≤ maxLen) (hp : WrsIn maxLen l) :
    Calls Try.prog 36 #[.slice A l.length ca, .slice B m.length cb] w fun r w' => r = .returned (.bool true) ∧ Below w.heap.size w w' := by
  have hml : m.length = l.length := by have := congrArg List.length he; simpa using this.symm
  rw [hml]
  unfold maxLen at hlen
  have HP := Lib.hid hp
  have HM := Lib.hid hml
  have HE := Lib.hid he
  clear hp hml he
  have he : ((l.length : Int) != (l.length : Int)) = false := by simp
  go_enter Try.func36, Try.ntmps36
  go_wp2
  go_loopw [5] (fun i wr => ∃ j : Nat, i = .int .i64 j ∧ j ≤ l.length ∧ Below w.heap.size w wr) (fun i _ => l.length - (intOf i).toNat)
  case atStart => exact ⟨0, rfl, Nat.zero_le _, Below.refl _ _⟩
  case round =>
    obtain ⟨j, rfl, hj, hbl⟩ := hrel
    by_cases hlt : j < l.length
    · have hltm : j < m.length := by have := HM.out; omega
      obtain ⟨b, o, rfl, _, c0, c1, c2, hc⟩ := Wks_at (ha.below hbl) hlt
      obtain ⟨b', o', rfl, _, d0, d1, d2, hd⟩ := Wks_at (hb.below hbl) hltm
      obtain ⟨e1, e2, e3⟩ := wk_at HE.out hlt hltm
      rw [← e1] at d0
      rw [← e2] at d1
      rw [← e3] at d2 hd
      have HA := Lib.hid ha
      have HB := Lib.hid hb
      have HC := Lib.hid hc
      have HD := Lib.hid hd
      clear ha hb hc hd e1 e2 e3
      go_wp2_with fail
      go_still_tail 8, (by kernel_rfl)
      change wpList _ _ _ _ _ wr.drew
      go_wp2_with fail
      refine (eqWork_same l[j].name l[j].owner l[j].ad m[j].ad l[j].cps l[j].cap m[j].cap _ (show Cps wr.drew _ _ from HC.out) (show Cps wr.drew _ _ from HD.out) (HP.out _ (List.getElem_mem hlt)).2.1).mono ?_
      rintro r w1 ⟨rfl, b1⟩
      go_wp2
      go_roundw
      case rel => exact ⟨j + 1, by go_num, by omega, next hbl.drew b1⟩
      case measure => simp [intOf]; omega
    · have hj' : j = l.length := by omega
      subst hj'
      go_wp2
      go_ret
      exact ⟨rfl, hbl⟩
end Go.Proofs.Yteiopndlakkeaaa
