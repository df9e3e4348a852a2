/- Proved, in parts: Proved: the laws' helper that writes a number as a text; what a change of one block leaves as it was. No condition. Proved: the laws' helpers that write marks into a list of records of the type Entry, and look whether they are there, do so and write nothing else. Condition: at most two million records. -/
import Derived.Test.YtkpbfocnokbmiaaPart08
import Derived.Test.YtkpbfocnokbmiaaPart02
import Derived.Test.YtkpbfocnokbmiaaPart03
import Derived.Test.YtkpbfocnokbmiaaPart10
import Derived.Test.YtkpbfocnokbmiaaPart09
namespace Go.Proofs.Ytkpbfocnokbmiaa
open Go.RowKit
set_option maxRecDepth 20000
def markB (n : Nat) : ByteArray := ⟨(109 :: M.digs n).toArray⟩
theorem mark_cat (l : List UInt8) : (⟨#[109]⟩ ++ ⟨l.toArray⟩ : ByteArray) = ⟨(109 :: l).toArray⟩ := cat_mk [109] l
set_option maxHeartbeats 1000000 in
theorem markText_any (N : Nat) (h0 : 0 < N) (hN : N < 9223372036854775808) (w : World) :
    Calls Try.prog 74 #[.int .i64 N] w fun e w' => e = .returned (.string (markB N)) ∧ Below w.heap.size w w' := by
  go_enter Try.func74, Try.ntmps74
  go_wp2
  go_loopw [0, 3] (fun n s wr => ∃ (m : Nat) (l : List UInt8), n = .int .i64 m ∧ s = .string ⟨l.toArray⟩ ∧ m ≤ N ∧ (m = 0 → l ≠ []) ∧ M.Irel N m l ∧ Below w.heap.size w wr) (fun n _ _ => (intOf n).toNat)
  case atStart => exact ⟨N, [], rfl, rfl, Nat.le_refl _, (fun h => by omega), M.Irel_start N, Below.refl _ _⟩
  case round =>
    obtain ⟨m, l, rfl, rfl, hm, hne, hir, hbel⟩ := hrel
    have hlen := hir.1
    have HI := Lib.hid hir
    have HN := Lib.hid hne
    clear hir hne
    by_cases hz : 0 < m
    · have HS := Lib.hid (M.Irel_step (by omega) hm HI.out (.inr (by omega)))
      have hb1 := one_byte wr (m % 10) (by omega) (48 + (m : Int) % 10) (by omega)
      go_wp2
      go_roundw
      case rel =>
        refine ⟨m / 10, _, ?_, ?_, ?_, ?_, HS.out, ?_⟩
        · go_num
        · exact congrArg Value.string (cat_mk [M.dig (m % 10)] l)
        · omega
        · simp
        · exact hbel.alloc hbel.size _
      case measure => simp [intOf]; omega
    · have hm0 : m = 0 := by omega
      subst hm0
      have HE := Lib.hid (M.Irel_end HI.out (HN.out rfl))
      go_wp2
      go_ret
      exact ⟨by rw [mark_cat, HE.out]; rfl, hbel⟩
theorem markText_at (x : Int) (N : Nat) (hx : x = (N : Int)) (h0 : 0 < N) (hN : N < 9223372036854775808) (w : World) :
    Calls Try.prog 74 #[.int .i64 x] w fun e w' => e = .returned (.string (markB N)) ∧ Below w.heap.size w w' := by
  subst hx; exact markText_any N h0 hN w
/-- Block g alone, of all that was there, may have changed. -/
structure Touch (g : Nat) (w w' : World) : Prop where
  size : w.heap.size ≤ w'.heap.size
  low : ∀ B, B ≤ g → Below B w w'
  block : ∀ k, k < w.heap.size → k ≠ g → w'.heap[k]? = w.heap[k]?
theorem Touch.refl (g : Nat) (w : World) : Touch g w w := ⟨Nat.le_refl _, fun _ _ => Below.refl _ _, fun _ _ _ => rfl⟩
theorem Touch.below {g : Nat} {w w1 w2 : World} (h : Touch g w w1) (hg : g < w1.heap.size) (hb : Below w1.heap.size w1 w2) : Touch g w w2 :=
  ⟨Nat.le_trans h.size hb.size, fun B hB => (h.low B hB).trans (hb.mono (by omega)), fun k hk hne => (hb.block k (Nat.lt_of_lt_of_le hk h.size)).trans (h.block k hk hne)⟩
theorem Touch.set {g : Nat} {w w1 : World} (h : Touch g w w1) (j : Nat) (v : Value) : Touch g w (w1.setCell ⟨g, j, none⟩ v) :=
  ⟨by simpa using h.size, fun B hB => (h.low B hB).setCell hB v, fun k hk hne => (Below.heap_setCell _ _ _ _ hne).trans (h.block k hk hne)⟩
theorem Touch.holds {g k : Nat} {w w1 : World} {C : Array Value} (h : Touch g w w1) (hC : Holds w k C) (hk : k ≠ g) : Holds w1 k C :=
  ⟨Nat.lt_of_lt_of_le hC.1 h.size, fun j v hj => (World.cell?_of_block (a := ⟨k, j, none⟩) (h.block k hC.1 hk)).trans (hC.2 j v hj)⟩
theorem Touch.before {g : Nat} {w w1 w2 : World} (h : Touch g w1 w2) (hb : Below w.heap.size w w1) (hg : g < w.heap.size) : Touch g w w2 :=
  ⟨Nat.le_trans hb.size h.size, fun B hB => (hb.mono (by omega)).trans (h.low B hB), fun k hk hne => (h.block k (Nat.lt_of_lt_of_le hk hb.size) hne).trans (hb.block k hk)⟩
/-- The block row alone, of all that was there, may have changed. -/
structure TouchO (row : Option Nat) (w w' : World) : Prop where
  size : w.heap.size ≤ w'.heap.size
  low : ∀ B, B ≤ w.heap.size → (∀ g, row = some g → B ≤ g) → Below B w w'
  block : ∀ k, k < w.heap.size → some k ≠ row → w'.heap[k]? = w.heap[k]?
theorem TouchO.holds {row : Option Nat} {k : Nat} {w w1 : World} {C : Array Value} (h : TouchO row w w1) (hC : Holds w k C) (hk : some k ≠ row) : Holds w1 k C :=
  ⟨Nat.lt_of_lt_of_le hC.1 h.size, fun j v hj => (World.cell?_of_block (a := ⟨k, j, none⟩) (h.block k hC.1 hk)).trans (hC.2 j v hj)⟩
/-- The blocks of S alone, of all that was there, may have changed. -/
structure TouchS (S : Nat → Prop) (w w' : World) : Prop where
  size : w.heap.size ≤ w'.heap.size
  low : ∀ B, B ≤ w.heap.size → (∀ g, S g → B ≤ g) → Below B w w'
  block : ∀ k, k < w.heap.size → ¬ S k → w'.heap[k]? = w.heap[k]?
theorem TouchS.refl (S : Nat → Prop) (w : World) : TouchS S w w := ⟨Nat.le_refl _, fun _ _ _ => Below.refl _ _, fun _ _ _ => rfl⟩
theorem TouchS.below {S : Nat → Prop} {w w1 w2 : World} (h : TouchS S w w1) (hb : Below w1.heap.size w1 w2) : TouchS S w w2 :=
  ⟨Nat.le_trans h.size hb.size, fun B hB hS => (h.low B hB hS).trans (hb.mono (Nat.le_trans hB h.size)), fun k hk hne => (hb.block k (Nat.lt_of_lt_of_le hk h.size)).trans (h.block k hk hne)⟩
theorem TouchS.set {S : Nat → Prop} {w w1 : World} {g : Nat} (h : TouchS S w w1) (hg : S g) (j : Nat) (v : Value) : TouchS S w (w1.setCell ⟨g, j, none⟩ v) :=
  ⟨by simpa using h.size, fun B hB hS => (h.low B hB hS).setCell (hS g hg) v, fun k hk hne => (Below.heap_setCell _ _ _ _ (fun e => hne (by rw [show k = g from e]; exact hg))).trans (h.block k hk hne)⟩
theorem TouchS.then {S : Nat → Prop} {w w1 w2 : World} {row : Option Nat} (h : TouchS S w w1) (ht : TouchO row w1 w2) (hr : ∀ g, row = some g → S g) : TouchS S w w2 :=
  ⟨Nat.le_trans h.size ht.size, fun B hB hS => (h.low B hB hS).trans (ht.low B (Nat.le_trans hB h.size) (fun g hg => hS g (hr g hg))), fun k hk hne => (ht.block k (Nat.lt_of_lt_of_le hk h.size) (fun e => hne (hr k e.symm))).trans (h.block k hk hne)⟩
theorem TouchS.holds {S : Nat → Prop} {k : Nat} {w w1 : World} {C : Array Value} (h : TouchS S w w1) (hC : Holds w k C) (hk : ¬ S k) : Holds w1 k C :=
  ⟨Nat.lt_of_lt_of_le hC.1 h.size, fun j v hj => (World.cell?_of_block (a := ⟨k, j, none⟩) (h.block k hC.1 hk)).trans (hC.2 j v hj)⟩
theorem TouchS.row {S : Nat → Prop} {B : Nat} {w w1 : World} {t : TypeId} {kk n : Nat} {v : Value} {C : List Value} (h : TouchS S w w1) (ho : w.ownsRow B t kk v n C) (hne : ∀ g, v.ownBlock = some g → ¬ S g) : w1.ownsRow B t kk v n C := by
  obtain ⟨hl, h0 | ⟨k, cap, cur, rfl, hb, hh, hr⟩⟩ := ho
  · exact ⟨hl, .inl h0⟩
  · have hk := hne k rfl
    have hlt : k < w.heap.size := (Array.getElem?_eq_some_iff.1 hh).1
    exact ⟨hl, .inr ⟨k, cap, cur, rfl, hb, (h.block k hlt hk).trans hh, hr⟩⟩
end Go.Proofs.Ytkpbfocnokbmiaa
namespace Go.Proofs.Ytkpbfocnokbmiaa
open Go.RowKit
set_option maxRecDepth 20000
def enmk (k : Nat) : M.En := ⟨(k : Int), ⟨(k : Int) + 1, (k : Int) + 1 + 1, ⟨(k : Int) + 1 + 1 + 1, markB (k + 4), ⟨(k : Int) + 1 + 1 + 1 + 1 + 1, (k : Int) + 1 + 1 + 1 + 1 + 1 + 1, (k : Int) + 1 + 1 + 1 + 1 + 1 + 1 + 1⟩, markB (k + 8), (k : Int) + 1 + 1 + 1 + 1 + 1 + 1 + 1 + 1 + 1⟩⟩⟩
def enmks (k : Nat) (j : Nat) : List M.En := (List.range j).map fun i => enmk (k + 10 * i)
theorem enmks_len (k j : Nat) : (enmks k j).length = j := by simp [enmks]
theorem enmks_succ (k j : Nat) : enmks k (j + 1) = enmks k j ++ [enmk (k + 10 * j)] := by simp [enmks, List.range_succ]
theorem enmks_at (k j n : Nat) (h : j < n) : (enmks k n)[j]'(by rw [enmks_len]; exact h) = enmk (k + 10 * j) := by simp [enmks]
set_option maxHeartbeats 4000000 in
theorem enmark_any (g : Nat) (l : List M.En) (cap k : Nat) (B : Nat) (w : World) (ho : EnsOwn B w (.slice (some ⟨g, 0, none⟩) l.length cap) l) (hk0 : 0 < k) (hk : k + 10 * l.length ≤ 20000000) :
    Calls Try.prog 42 #[.slice (some ⟨g, 0, none⟩) l.length cap, .int .i64 k] w fun r w' => r = .returned (.int .i64 (k + 10 * l.length : Nat)) ∧ EnsOwn B w' (.slice (some ⟨g, 0, none⟩) l.length cap) (enmks k l.length) ∧ Touch g w w' := by
  go_enter Try.func42, Try.ntmps42
  go_wp2
  go_loopw [1, 5] (fun x i wr => ∃ j : Nat, i = .int .i64 j ∧ j ≤ l.length ∧ x = .int .i64 (k + 10 * j : Nat) ∧ EnsOwn B wr (.slice (some ⟨g, 0, none⟩) l.length cap) (enmks k j ++ l.drop j) ∧ Touch g w wr) (fun _ i _ => l.length - (intOf i).toNat)
  case atStart => exact ⟨0, rfl, Nat.zero_le _, by simp, by simpa [enmks] using ho, Touch.refl _ _⟩
  case round =>
    obtain ⟨j, rfl, hj, rfl, hown, ht⟩ := hrel
    by_cases hlt : j < l.length
    · obtain ⟨K, hK⟩ : ∃ K, k + 10 * j = K := ⟨_, rfl⟩
      have hlen2 : (enmks k j ++ l.drop j).length = l.length := by rw [List.length_append, enmks_len, List.length_drop]; omega
      have hown2 : wr.ownsRow B 37 10 (.slice (some ⟨g, 0, none⟩) l.length cap) l.length (cellsOf enL (enmks k j) ++ (enL l[j] ++ cellsOf enL (l.drop (j + 1)))) := by
        have h := hown
        unfold EnsOwn at h
        rw [hlen2, cellsOf_append, List.drop_eq_getElem_cons hlt] at h
        exact h
      have hz : j * 10 = (cellsOf enL (enmks k j)).length := by rw [cellsOf_len enL_len, enmks_len]
      simp only [enL, List.cons_append, List.nil_append] at hown2
      obtain ⟨⟨c0, c1, c2, c3, c4, c5, c6, c7, c8, c9⟩, f0, f1, f2, f3, f4, f5, f6, f7, f8, f9⟩ := own_cellsEns hown2 hz
      have hgl : g < wr.heap.size := World.block_lt_of_cell? wr _ c0
      have hK1 : 0 < K := by omega
      have hK2 : K < 20000000 := by omega
      have HO0 := Lib.hid hown2
      have HZ := Lib.hid hz
      have HK := Lib.hid hK
      rw [hK]
      clear ho hown hown2 hz hlen2
      go_wp2_with fail
      refine (markText_at _ (K + 4) (by omega) (by omega) (by omega) _).mono ?_
      rintro r v1 ⟨rfl, b2⟩
      have ho2 := Own.below (((((((((HO0.out).stored (j * 10) (.int .i64 ((K : Int))))).1.stored (j * 10 + 1) (.int .i64 ((K : Int) + 1)))).1.stored (j * 10 + 2) (.int .i64 ((K : Int) + 1 + 1)))).1.stored (j * 10 + 3) (.int .i64 ((K : Int) + 1 + 1 + 1))).1) b2
      have ht1 := (((((((((ht).set (j * 10) (.int .i64 ((K : Int))))).set (j * 10 + 1) (.int .i64 ((K : Int) + 1)))).set (j * 10 + 2) (.int .i64 ((K : Int) + 1 + 1)))).set (j * 10 + 3) (.int .i64 ((K : Int) + 1 + 1 + 1)))).below (by simpa using hgl) b2
      have hg1 : g < v1.heap.size := Nat.lt_of_lt_of_le (by simpa using hgl) b2.size
      have hlt5 : j * 10 + 9 < l.length * 10 := by omega
      have d0_4 : v1.cell? ⟨g, j * 10 + 4, none⟩ = some (.string l[j].order.deed.name) := by
        rw [ho2.cellAt _ (by omega), HZ.out]; simp
      have e0_4 := ho2.frozenAt (j * 10 + 4)
      have d0_5 : v1.cell? ⟨g, j * 10 + 5, none⟩ = some (.int .i64 l[j].order.deed.ed.ma) := by
        rw [ho2.cellAt _ (by omega), HZ.out]; simp
      have e0_5 := ho2.frozenAt (j * 10 + 5)
      have d0_6 : v1.cell? ⟨g, j * 10 + 6, none⟩ = some (.int .i64 l[j].order.deed.ed.mi) := by
        rw [ho2.cellAt _ (by omega), HZ.out]; simp
      have e0_6 := ho2.frozenAt (j * 10 + 6)
      have d0_7 : v1.cell? ⟨g, j * 10 + 7, none⟩ = some (.int .i64 l[j].order.deed.ed.pa) := by
        rw [ho2.cellAt _ (by omega), HZ.out]; simp
      have e0_7 := ho2.frozenAt (j * 10 + 7)
      have d0_8 : v1.cell? ⟨g, j * 10 + 8, none⟩ = some (.string l[j].order.deed.page) := by
        rw [ho2.cellAt _ (by omega), HZ.out]; simp
      have e0_8 := ho2.frozenAt (j * 10 + 8)
      have d0_9 : v1.cell? ⟨g, j * 10 + 9, none⟩ = some (.int .i64 l[j].order.deed.who) := by
        rw [ho2.cellAt _ (by omega), HZ.out]; simp
      have e0_9 := ho2.frozenAt (j * 10 + 9)
      have HO1 := Lib.hid ho2
      clear c0 c1 c2 c3 c4 c5 c6 c7 c8 c9 f0 f1 f2 f3 f4 f5 f6 f7 f8 f9 ho2 HO0 b2 hK hlt5
      go_wp2_with fail
      refine (markText_at _ (K + 8) (by omega) (by omega) (by omega) _).mono ?_
      rintro r v2 ⟨rfl, b2⟩
      have ho2 := Own.below (((((((((HO1.out).stored (j * 10 + 4) (.string (markB (K + 4))))).1.stored (j * 10 + 5) (.int .i64 ((K : Int) + 1 + 1 + 1 + 1 + 1)))).1.stored (j * 10 + 6) (.int .i64 ((K : Int) + 1 + 1 + 1 + 1 + 1 + 1)))).1.stored (j * 10 + 7) (.int .i64 ((K : Int) + 1 + 1 + 1 + 1 + 1 + 1 + 1))).1) b2
      have ht2 := (((((((((ht1).set (j * 10 + 4) (.string (markB (K + 4))))).set (j * 10 + 5) (.int .i64 ((K : Int) + 1 + 1 + 1 + 1 + 1)))).set (j * 10 + 6) (.int .i64 ((K : Int) + 1 + 1 + 1 + 1 + 1 + 1)))).set (j * 10 + 7) (.int .i64 ((K : Int) + 1 + 1 + 1 + 1 + 1 + 1 + 1)))).below (by simpa using hg1) b2
      have hg2 : g < v2.heap.size := Nat.lt_of_lt_of_le (by simpa using hg1) b2.size
      have hlt5 : j * 10 + 9 < l.length * 10 := by omega
      have d1_8 : v2.cell? ⟨g, j * 10 + 8, none⟩ = some (.string l[j].order.deed.page) := by
        rw [ho2.cellAt _ (by omega), HZ.out]; simp
      have e1_8 := ho2.frozenAt (j * 10 + 8)
      have d1_9 : v2.cell? ⟨g, j * 10 + 9, none⟩ = some (.int .i64 l[j].order.deed.who) := by
        rw [ho2.cellAt _ (by omega), HZ.out]; simp
      have e1_9 := ho2.frozenAt (j * 10 + 9)
      have HO2 := Lib.hid ho2
      clear d0_4 e0_4 d0_5 e0_5 d0_6 e0_6 d0_7 e0_7 d0_8 e0_8 d0_9 e0_9 ho2 HO1 b2 hlt5
      go_wp2
      go_roundw
      case rel =>
        refine ⟨j + 1, by go_num, by omega, congrArg (Value.int .i64) (by rw [← HK.out]; omega), ?_, ((((ht2).set (j * 10 + 8) (.string (markB (K + 8))))).set (j * 10 + 9) (.int .i64 ((K : Int) + 1 + 1 + 1 + 1 + 1 + 1 + 1 + 1 + 1)))⟩
        have h5 := ((((HO2.out).stored (j * 10 + 8) (.string (markB (K + 8))))).1.stored (j * 10 + 9) (.int .i64 ((K : Int) + 1 + 1 + 1 + 1 + 1 + 1 + 1 + 1 + 1))).1
        rw [setEns (hn := HZ.out)] at h5
        have hl3 : (enmks k (j + 1) ++ l.drop (j + 1)).length = l.length := by rw [List.length_append, enmks_len, List.length_drop]; omega
        unfold EnsOwn
        rw [hl3, cellsOf_append, enmks_succ, cellsOf_append, HK.out, List.append_assoc]
        exact h5
      case measure => simp [intOf]; omega
    · have hj' : j = l.length := by omega
      subst hj'
      rw [List.drop_length, List.append_nil] at hown
      have HO := Lib.hid hown
      clear ho hown
      go_wp2
      go_ret
      exact ⟨rfl, by have h := HO.out; unfold EnsOwn at h ⊢; exact h, ht⟩

set_option maxHeartbeats 1000000 in
theorem enmark_none (A : Option Addr) (cap k : Nat) (w : World) :
    Calls Try.prog 42 #[.slice A 0 cap, .int .i64 k] w fun r w' => r = .returned (.int .i64 k) ∧ w = w' := by
  go_enter Try.func42, Try.ntmps42
  go_wp2
  go_loop [1, 5] (fun x i => x = .int .i64 k ∧ i = .int .i64 0) (fun _ _ => 0)
  case atStart => exact ⟨rfl, rfl⟩
  case round =>
    obtain ⟨rfl, rfl⟩ := hrel
    go_wp2
    go_ret
    exact ⟨rfl, rfl⟩
theorem enmark_own (A : Option Addr) (l : List M.En) (cap k : Nat) (B : Nat) (w : World) (ho : EnsOwn B w (.slice A l.length cap) l) (hk0 : 0 < k) (hk : k + 10 * l.length ≤ 20000000) :
    Calls Try.prog 42 #[.slice A l.length cap, .int .i64 k] w fun r w' => r = .returned (.int .i64 (k + 10 * l.length : Nat)) ∧ EnsOwn B w' (.slice A l.length cap) (enmks k l.length) ∧ TouchO (Value.slice A l.length cap).ownBlock w w' := by
  have ho' := ho
  obtain ⟨hl, ⟨h0, hz⟩ | ⟨g, cap', cur, hv, _⟩⟩ := ho'
  · have hl : l = [] := List.length_eq_zero_iff.1 hz
    subst hl
    injection h0 with hA _ hc
    subst hA hc
    refine (enmark_none none 0 k w).mono ?_
    rintro r w' ⟨rfl, rfl⟩
    exact ⟨rfl, World.ownsRow_nil _ _ _ _, Nat.le_refl _, fun B' hB _ => Below.refl _ _, fun k hk _ => rfl⟩
  · injection hv with hA _ _
    subst hA
    refine (enmark_any g l cap k B w ho hk0 hk).mono ?_
    rintro r w' ⟨rfl, ho', ht⟩
    exact ⟨rfl, ho', ht.size, fun B' _ hB => ht.low B' (hB g rfl), fun k hk hne => ht.block k hk (fun e => hne (by rw [e]; rfl))⟩

set_option maxHeartbeats 4000000 in
theorem enheld_any (A : Option Addr) (n cap k : Nat) (w : World) (hl : Ens w A (enmks k n)) (hk0 : 0 < k) (hk : k + 10 * n ≤ 20000000) :
    Calls Try.prog 43 #[.slice A n cap, .int .i64 k] w fun r w' => r = .returned (.int .i64 (k + 10 * n : Nat)) ∧ Below w.heap.size w w' := by
  go_enter Try.func43, Try.ntmps43
  go_wp2
  go_loopw [1, 5] (fun x i wr => ∃ j : Nat, i = .int .i64 j ∧ j ≤ n ∧ x = .int .i64 (k + 10 * j : Nat) ∧ Below w.heap.size w wr) (fun _ i _ => n - (intOf i).toNat)
  case atStart => exact ⟨0, rfl, Nat.zero_le _, by simp, Below.refl _ _⟩
  case round =>
    obtain ⟨j, rfl, hj, rfl, hb⟩ := hrel
    by_cases hlt : j < n
    · obtain ⟨kk, hK⟩ : ∃ kk, k + 10 * j = kk := ⟨_, rfl⟩
      obtain ⟨b, o, rfl, zb, c0, c1, c2, c3, c4, c5, c6, c7, c8, c9⟩ := Ens_at (hl.below hb) (i := j) (by rw [enmks_len]; exact hlt)
      rw [enmks_at k j n hlt, hK] at c0 c1 c2 c3 c4 c5 c6 c7 c8 c9
      have hK1 : 0 < kk := by omega
      have hK2 : kk < 20000000 := by omega
      have HL := Lib.hid hl
      have HK := Lib.hid hK
      rw [hK]
      clear hl hK
      simp only [enmk] at c0 c1 c2 c3 c4 c5 c6 c7 c8 c9
      have e0 : ((kk : Int) != (kk : Int)) = false := by simp
      have e1 : ((kk : Int) + 1 != (kk : Int) + 1) = false := by simp
      have e2 : ((kk : Int) + 1 + 1 != (kk : Int) + 1 + 1) = false := by simp
      have e3 : ((kk : Int) + 1 + 1 + 1 != (kk : Int) + 1 + 1 + 1) = false := by simp
      have e5 : ((kk : Int) + 1 + 1 + 1 + 1 + 1 != (kk : Int) + 1 + 1 + 1 + 1 + 1) = false := by simp
      have e6 : ((kk : Int) + 1 + 1 + 1 + 1 + 1 + 1 != (kk : Int) + 1 + 1 + 1 + 1 + 1 + 1) = false := by simp
      have e7 : ((kk : Int) + 1 + 1 + 1 + 1 + 1 + 1 + 1 != (kk : Int) + 1 + 1 + 1 + 1 + 1 + 1 + 1) = false := by simp
      have e9 : ((kk : Int) + 1 + 1 + 1 + 1 + 1 + 1 + 1 + 1 + 1 != (kk : Int) + 1 + 1 + 1 + 1 + 1 + 1 + 1 + 1 + 1) = false := by simp
      go_wp2_with fail
      refine wp_region_seq (fun w' => Below wr.heap.size wr w') [(0, true), (1, true), (2, true), (3, true), (4, true), (5, true), (6, true), (7, true), (8, false), (9, true)] (by kernel_rfl) (by kernel_rfl) (fun _ _ _ _ _ h => h) (by kernel_rfl) (by decide) (Below.refl _ _).drew ?_
      intro hHeld
      repeat (first
        | (refine seq_skip (by simp only [List.getElem?_toArray, List.getElem?_cons_succ, List.getElem?_cons_zero]; first | done | rfl) (by rfl) ?_; (try simp only [Act.put, List.setIfInBounds_toArray, List.set_cons_zero, List.set_cons_succ]))
        | (refine seq_reads (by simp only [List.getElem?_toArray, List.getElem?_cons_succ, List.getElem?_cons_zero]; first | done | rfl) (by rfl) ?_; apply Exists.intro; apply And.intro; (focus (intro w hSw; obtain ⟨hcS, -⟩ := bcell hSw; go_simp; (try with_reducible rfl); done)); (try simp only [Act.put, List.setIfInBounds_toArray, List.set_cons_zero, List.set_cons_succ]))
        | (refine seq_pass (by simp only [List.getElem?_toArray, List.getElem?_cons_succ, List.getElem?_cons_zero]; first | done | rfl) (by rfl) hHeld ?_; clear hHeld; intro hHeld; (try simp only [Act.put, List.setIfInBounds_toArray, List.set_cons_zero, List.set_cons_succ]))
        | (refine seq_call (by simp only [List.getElem?_toArray, List.getElem?_cons_succ, List.getElem?_cons_zero]; first | done | rfl) (by rfl) (fun K hK => ?_); go_simp; go_at_call 74; refine (markText_at _ (kk + 4) (by omega) (by omega) (by omega) _).mono ?_; rintro r v0 ⟨rfl, b1⟩; go_simp; refine hK.out _ _ (next hHeld b1) ?_; clear hK hHeld; intro hHeld; (try simp only [Act.put, List.setIfInBounds_toArray, List.set_cons_zero, List.set_cons_succ])))
      refine seq_end ?_
      replace c5 := (hHeld.cell (p := ⟨b, o + j * 10 + 5, none⟩) zb).trans c5
      replace c6 := (hHeld.cell (p := ⟨b, o + j * 10 + 6, none⟩) zb).trans c6
      replace c7 := (hHeld.cell (p := ⟨b, o + j * 10 + 7, none⟩) zb).trans c7
      replace c8 := (hHeld.cell (p := ⟨b, o + j * 10 + 8, none⟩) zb).trans c8
      replace c9 := (hHeld.cell (p := ⟨b, o + j * 10 + 9, none⟩) zb).trans c9
      have e4 : ((markB (kk + 4)).toList != (markB (kk + 4)).toList) = false := by simp
      have bb0 := next hb hHeld
      have zb0 := Nat.lt_of_lt_of_le zb hHeld.size
      clear c0 c1 c2 c3 c4 hHeld
      go_wp2_with fail
      refine wp_region_seq (fun w' => Below v0.heap.size v0 w') [(0, true), (1, true), (2, true), (3, true), (4, true), (5, true), (6, true), (7, true), (8, false), (9, true)] (by kernel_rfl) (by kernel_rfl) (fun _ _ _ _ _ h => h) (by kernel_rfl) (by decide) (Below.refl _ _).drew ?_
      intro hHeld
      repeat (first
        | (refine seq_skip (by simp only [List.getElem?_toArray, List.getElem?_cons_succ, List.getElem?_cons_zero]; first | done | rfl) (by rfl) ?_; (try simp only [Act.put, List.setIfInBounds_toArray, List.set_cons_zero, List.set_cons_succ]))
        | (refine seq_reads (by simp only [List.getElem?_toArray, List.getElem?_cons_succ, List.getElem?_cons_zero]; first | done | rfl) (by rfl) ?_; apply Exists.intro; apply And.intro; (focus (intro w hSw; obtain ⟨hcS, -⟩ := bcell hSw; go_simp; (try with_reducible rfl); done)); (try simp only [Act.put, List.setIfInBounds_toArray, List.set_cons_zero, List.set_cons_succ]))
        | (refine seq_pass (by simp only [List.getElem?_toArray, List.getElem?_cons_succ, List.getElem?_cons_zero]; first | done | rfl) (by rfl) hHeld ?_; clear hHeld; intro hHeld; (try simp only [Act.put, List.setIfInBounds_toArray, List.set_cons_zero, List.set_cons_succ]))
        | (refine seq_call (by simp only [List.getElem?_toArray, List.getElem?_cons_succ, List.getElem?_cons_zero]; first | done | rfl) (by rfl) (fun K hK => ?_); go_simp; go_at_call 74; refine (markText_at _ (kk + 8) (by omega) (by omega) (by omega) _).mono ?_; rintro r v1 ⟨rfl, b1⟩; go_simp; refine hK.out _ _ (next hHeld b1) ?_; clear hK hHeld; intro hHeld; (try simp only [Act.put, List.setIfInBounds_toArray, List.set_cons_zero, List.set_cons_succ])))
      refine seq_end ?_
      replace c9 := (hHeld.cell (p := ⟨b, o + j * 10 + 9, none⟩) zb0).trans c9
      have e8 : ((markB (kk + 8)).toList != (markB (kk + 8)).toList) = false := by simp
      have bb1 := next bb0 hHeld
      have zb1 := Nat.lt_of_lt_of_le zb0 hHeld.size
      clear c5 c6 c7 c8 hHeld
      go_wp2
      go_roundw
      case rel => exact ⟨j + 1, by go_num, by omega, congrArg (Value.int .i64) (by rw [← HK.out]; omega), bb1⟩
      case measure => simp [intOf]; omega
    · have hj' : j = n := by omega
      subst hj'
      go_wp2
      go_ret
      exact ⟨rfl, hb⟩
end Go.Proofs.Ytkpbfocnokbmiaa
