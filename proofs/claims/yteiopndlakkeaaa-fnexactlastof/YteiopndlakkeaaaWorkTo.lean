/- Proved: the laws' helpers that make a work of the program's own types out of the laws' answer the same work, in new memory; they write nothing that was there. -/
import Derived.Test.YteiopndlakkeaaaWorkSz
import Derived.Test.YteiopndlakkeaaaDeedWalks
import Derived.OwnWalk
import Derived.Deep.Onto
namespace Go.Proofs.Yteiopndlakkeaaa
open Go.RowKit

theorem Own.below {w w' : World} {base e k n : Nat} {v : Value} {xs : List Value} (h : w.ownsRow base e k v n xs) (hb : Below w.heap.size w w') : w'.ownsRow base e k v n xs := by
  obtain ⟨hl, h | ⟨g, cap, cur, hv, h1, hh, h2⟩⟩ := h
  · exact ⟨hl, .inl h⟩
  · exact ⟨hl, .inr ⟨g, cap, cur, hv, h1, (hb.block g (Array.getElem?_eq_some_iff.1 hh).1).trans hh, h2⟩⟩

theorem infoCp : (Try.prog.info? 119).map (fun i => (i.zero, i.size, i.bytes)) = some (some (.agg #[.int .i64 0, .int .i64 0, .int .i64 0, .string ⟨#[]⟩, .bool false]), 5, 48) := by kernel_rfl

set_option maxHeartbeats 1000000 in
theorem toCopy_any (c : M.Cp) (w : World) :
    Calls Try.prog 81 #[cpV c] w fun r w' => r = .returned (cpV c) ∧ Below w.heap.size w w' := by
  go_enter Try.func81, Try.ntmps81
  go_wp2_with fail
  refine (toEdition_at c.ed _).mono ?_
  rintro r w1 ⟨rfl, rfl⟩
  go_wp2
  refine bodyPost_ret (v := cpV c) (by simp [results, Try.results81, go_sem]) rfl ⟨rfl, ?_⟩
  repeat (first | exact Below.refl _ _ | refine Below.alloc ?_ (by simp <;> omega) _)

theorem set5 (xs ys : List Value) (a b c d e f0 f1 f2 f3 f4 : Value) (n : Nat) (hn : n = xs.length) :
    (((((xs ++ a :: b :: c :: d :: e :: ys).set n f0).set (n + 1) f1).set (n + 2) f2).set (n + 3) f3).set (n + 4) f4 = xs ++ f0 :: f1 :: f2 :: f3 :: f4 :: ys := by
  subst hn; simp
theorem five_of {l : List Value} {n : Nat} (h : l.length = (n + 1) * 5) : ∃ a b c d e r, l = a :: b :: c :: d :: e :: r ∧ r.length = n * 5 := by
  match l, h with
  | a :: b :: c :: d :: e :: r, h => exact ⟨a, b, c, d, e, r, rfl, by simp at h; omega⟩
  | [], h => simp at h
  | [_], h => simp at h; omega
  | [_, _], h => simp at h; omega
  | [_, _, _], h => simp at h; omega
  | [_, _, _, _], h => simp at h; omega

/-- Five stores into a row. -/
theorem own_put5 {w : World} {base e g n cap j : Nat} {xs ys : List Value} {f0 f1 f2 f3 f4 : Value} {a b c d r : Value} (h : w.ownsRow base e 5 (.slice (some ⟨g, 0, none⟩) n cap) n (xs ++ a :: b :: c :: d :: r :: ys)) (hj : j = xs.length) :
    (((((w.setCell ⟨g, j, none⟩ f0).setCell ⟨g, j + 1, none⟩ f1).setCell ⟨g, j + 2, none⟩ f2).setCell ⟨g, j + 3, none⟩ f3).setCell ⟨g, j + 4, none⟩ f4).ownsRow base e 5 (.slice (some ⟨g, 0, none⟩) n cap) n (xs ++ f0 :: f1 :: f2 :: f3 :: f4 :: ys) := by
  have := ((((h.stored j f0).1.stored (j + 1) f1).1.stored (j + 2) f2).1.stored (j + 3) f3).1.stored (j + 4) f4
  rw [set5 xs ys a b c d r f0 f1 f2 f3 f4 j hj] at this
  exact this.1
theorem own_cells5 {w : World} {base e g n cap j : Nat} {xs ys : List Value} {a b c d r : Value} (h : w.ownsRow base e 5 (.slice (some ⟨g, 0, none⟩) n cap) n (xs ++ a :: b :: c :: d :: r :: ys)) (hj : j = xs.length) :
    (w.cell? ⟨g, j, none⟩ = some a ∧ w.cell? ⟨g, j + 1, none⟩ = some b ∧ w.cell? ⟨g, j + 2, none⟩ = some c ∧ w.cell? ⟨g, j + 3, none⟩ = some d ∧ w.cell? ⟨g, j + 4, none⟩ = some r) ∧
    (w.frozen? ⟨g, j, none⟩ = false ∧ w.frozen? ⟨g, j + 1, none⟩ = false ∧ w.frozen? ⟨g, j + 2, none⟩ = false ∧ w.frozen? ⟨g, j + 3, none⟩ = false ∧ w.frozen? ⟨g, j + 4, none⟩ = false) := by
  have hl := h.1
  simp at hl
  subst hj
  refine ⟨⟨?_, ?_, ?_, ?_, ?_⟩, h.frozenAt _, h.frozenAt _, h.frozenAt _, h.frozenAt _, h.frozenAt _⟩ <;> (rw [h.cellAt _ (by omega)]; simp)

set_option maxHeartbeats 1000000 in
theorem toCopyS_any (A : Option Addr) (l : List M.Cp) (cap : Nat) (w : World) (hl : Cps w A l) (hlen : l.length ≤ 1048576) :
    Calls Try.prog 70 #[.slice A l.length cap] w fun r w' => r = .returned (.slice (some ⟨w.heap.size, 0, none⟩) l.length l.length) ∧ w'.ownsRow w.heap.size 119 5 (.slice (some ⟨w.heap.size, 0, none⟩) l.length l.length) l.length (cellsOf cpL l) ∧ Below w.heap.size w w' := by
  obtain ⟨i0, hi, hz0, hz1, hz2⟩ := info_parts infoCp
  go_enter Try.func70, Try.ntmps70
  go_wp2_with (refine wpList_make_full _ rfl _ _ 95 rfl w.heap.size 119 i0 _ 5 Try.underlying95 hi hz0 hz1 .i64 .i64 _ _ l.length rfl rfl rfl rfl (by rw [hz2]; omega) (by unfold maxLen; omega) (Nat.le_refl _) ?_; intro w1 hown hgrow)
  have b1 : Below w.heap.size w w1 := (Below.refl _ _).grown hgrow (Nat.le_refl _) (fun k hk => by cases hk)
  go_loopw [4] (fun i wr => ∃ (j : Nat) (rest : List Value), i = .int .i64 j ∧ j ≤ l.length ∧ rest.length = (l.length - j) * 5 ∧ wr.ownsRow w.heap.size 119 5 (.slice (some ⟨w.heap.size, 0, none⟩) l.length l.length) l.length (cellsOf cpL (l.take j) ++ rest) ∧ Below w.heap.size w wr) (fun i _ => l.length - (intOf i).toNat)
  case atStart => exact ⟨0, _, rfl, Nat.zero_le _, hown.1, hown, b1⟩
  case round =>
    obtain ⟨j, rest, rfl, hj, hr, hown', hb⟩ := hrel
    by_cases hlt : j < l.length
    · obtain ⟨e0, e1, e2, e3, e4, rs, rfl, hrs⟩ := five_of (n := l.length - j - 1) (l := rest) (by rw [hr]; omega)
      have hz : j * 5 = (cellsOf cpL (l.take j)).length := by rw [cellsOf_len cpL_len, List.length_take, Nat.min_eq_left (by omega)]
      obtain ⟨b, o, rfl, hbl, c0, c1, c2, c3, c4⟩ := Cps_at (hl.below hb) hlt
      have HO := Lib.hid hown'
      have HL := Lib.hid hl
      have HZ := Lib.hid hz
      have HR := Lib.hid hrs
      clear hown hown' hl hz hrs hr
      go_wp2_with fail
      refine (toCopy_any l[j] _).mono ?_
      rintro r w2 ⟨rfl, b2⟩
      have ho2 := Own.below HO.out b2
      obtain ⟨⟨k0, k1, k2, k3, k4⟩, f0, f1, f2, f3, f4⟩ := own_cells5 ho2 HZ.out
      have HO2 := Lib.hid ho2
      clear ho2
      go_wp2
      go_roundw
      case rel =>
        refine ⟨j + 1, rs, by go_num, by omega, by rw [HR.out]; omega, ?_, ?_⟩
        · rw [List.take_succ_eq_append_getElem hlt, cellsOf_append, List.append_assoc]
          exact own_put5 HO2.out HZ.out
        · exact ((((((next hb b2).setCell (Nat.le_refl _) _).setCell (Nat.le_refl _) _).setCell (Nat.le_refl _) _).setCell (Nat.le_refl _) _).setCell (Nat.le_refl _) _)
      case measure => simp [intOf]; omega
    · have hj' : j = l.length := by omega
      subst hj'
      have hr0 : rest = [] := List.length_eq_zero_iff.1 (by rw [hr]; omega)
      subst hr0
      rw [List.take_length, List.append_nil] at hown'
      have HO := Lib.hid hown'
      clear hown hown' hr
      go_wp2
      go_ret
      exact ⟨rfl, HO.out, hb⟩

set_option maxHeartbeats 1000000 in
theorem toWork_any (name : ByteArray) (owner : Int) (A : Option Addr) (l : List M.Cp) (cap : Nat) (w : World) (hl : Cps w A l) (hlen : l.length ≤ 1048576) :
    Calls Try.prog 53 #[wkV name owner A l.length cap] w fun r w' => ∃ g, r = .returned (wkV name owner (some ⟨g, 0, none⟩) l.length l.length) ∧ w'.ownsRow w.heap.size 119 5 (.slice (some ⟨g, 0, none⟩) l.length l.length) l.length (cellsOf cpL l) ∧ Below w.heap.size w w' := by
  have b0 := (((Below.refl w.heap.size w).alloc (Nat.le_refl _) (.cells (wkL name owner A l.length cap) 89)).alloc (by simp) (.cells (wkL ⟨#[]⟩ 0 none 0 0) 97)).alloc (by simp; omega) (.cells (wkL name owner none 0 0) 97)
  go_enter Try.func53, Try.ntmps53
  go_wp2_with fail
  refine (toCopyS_any A l cap _ (((hl.alloc _).alloc _).alloc _) hlen).mono ?_
  rintro r w1 ⟨rfl, ho, b1⟩
  obtain ⟨c1, f1⟩ := bcell b1
  have HO := Lib.hid ho
  clear ho
  go_wp2
  have ho := HO.out
  simp only [World.size_alloc] at ho
  refine bodyPost_ret (v := wkV name owner (some ⟨w.heap.size + 1 + 1 + 1, 0, none⟩) l.length l.length) (by simp [results, Try.results53, go_sem, c1]) rfl ⟨_, rfl, ?_, ?_⟩
  · exact (ownsRow_setCell_below (ownsRow_setCell_below (ownsRow_setCell_below (ownsRow_setCell_below ho (by simp) _) (by simp) _) (by simp) _) (by simp) _).mono (by omega)
  · exact ((((next b0 b1).setCell (by simp; omega) _).setCell (by simp) _).setCell (by simp) _).setCell (by simp) _
end Go.Proofs.Yteiopndlakkeaaa
