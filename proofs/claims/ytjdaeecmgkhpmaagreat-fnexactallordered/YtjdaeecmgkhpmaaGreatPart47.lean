/- Proved, in parts: Proved: the laws' helpers that write marks into a list of records of the type Order, and look whether they are there, do so and write nothing else. Condition: at most two million records. Proved: the laws' helpers that write marks into a list of records of the type Reply, and look whether they are there, do so and write nothing else. Condition: at most two million records. Proved: the contracts of AllOrdered at arguments that were copied; what many orders leave is small. Condition: texts and lists of at most a million. Proved: an argument that is a slice of records is a list of them, and an argument that is a work is its name, owner and copies; no program is named here. Proved: an argument that is a slice of works is a list of them, each with its copies; no program is named here. -/
import Derived.Test.YtjdaeecmgkhpmaaGreatPart31
import Derived.Test.YtjdaeecmgkhpmaaGreatPart27
import Derived.Test.YtjdaeecmgkhpmaaGreatPart45
import Derived.Test.YtjdaeecmgkhpmaaGreatPart46
import Derived.Test.YtjdaeecmgkhpmaaGreatPart04
import Derived.WalkKit
import Derived.Lib.SmallJoins
import Derived.Deep.Slices
import Derived.ChangeSame
import Derived.Test.YtjdaeecmgkhpmaaGreatPart05
namespace Go.Proofs.YtjdaeecmgkhpmaaGreat
open Go.RowKit
set_option maxRecDepth 20000
def ormk (k : Nat) : M.Or := ⟨(k : Int), (k : Int) + 1, ⟨(k : Int) + 1 + 1, markB (k + 3), ⟨(k : Int) + 1 + 1 + 1 + 1, (k : Int) + 1 + 1 + 1 + 1 + 1, (k : Int) + 1 + 1 + 1 + 1 + 1 + 1⟩, markB (k + 7), (k : Int) + 1 + 1 + 1 + 1 + 1 + 1 + 1 + 1⟩⟩
def ormks (k : Nat) (j : Nat) : List M.Or := (List.range j).map fun i => ormk (k + 9 * i)
theorem ormks_len (k j : Nat) : (ormks k j).length = j := by simp [ormks]
theorem ormks_succ (k j : Nat) : ormks k (j + 1) = ormks k j ++ [ormk (k + 9 * j)] := by simp [ormks, List.range_succ]
theorem ormks_at (k j n : Nat) (h : j < n) : (ormks k n)[j]'(by rw [ormks_len]; exact h) = ormk (k + 9 * j) := by simp [ormks]
set_option maxHeartbeats 4000000 in
theorem ormark_any (g : Nat) (l : List M.Or) (cap k : Nat) (B : Nat) (w : World) (ho : OrsOwn B w (.slice (some ⟨g, 0, none⟩) l.length cap) l) (hk0 : 0 < k) (hk : k + 9 * l.length ≤ 20000000) :
    Calls Tryz.prog 21 #[.slice (some ⟨g, 0, none⟩) l.length cap, .int .i64 k] w fun r w' => r = .returned (.int .i64 (k + 9 * l.length : Nat)) ∧ OrsOwn B w' (.slice (some ⟨g, 0, none⟩) l.length cap) (ormks k l.length) ∧ Touch g w w' := by
  go_enter Tryz.func21, Tryz.ntmps21
  go_wp2
  go_loopw [1, 5] (fun x i wr => ∃ j : Nat, i = .int .i64 j ∧ j ≤ l.length ∧ x = .int .i64 (k + 9 * j : Nat) ∧ OrsOwn B wr (.slice (some ⟨g, 0, none⟩) l.length cap) (ormks k j ++ l.drop j) ∧ Touch g w wr) (fun _ i _ => l.length - (intOf i).toNat)
  case atStart => exact ⟨0, rfl, Nat.zero_le _, by simp, by simpa [ormks] using ho, Touch.refl _ _⟩
  case round =>
    obtain ⟨j, rfl, hj, rfl, hown, ht⟩ := hrel
    by_cases hlt : j < l.length
    · obtain ⟨K, hK⟩ : ∃ K, k + 9 * j = K := ⟨_, rfl⟩
      have hlen2 : (ormks k j ++ l.drop j).length = l.length := by rw [List.length_append, ormks_len, List.length_drop]; omega
      have hown2 : wr.ownsRow B 47 9 (.slice (some ⟨g, 0, none⟩) l.length cap) l.length (cellsOf orL (ormks k j) ++ (orL l[j] ++ cellsOf orL (l.drop (j + 1)))) := by
        have h := hown
        unfold OrsOwn at h
        rw [hlen2, cellsOf_append, List.drop_eq_getElem_cons hlt] at h
        exact h
      have hz : j * 9 = (cellsOf orL (ormks k j)).length := by rw [cellsOf_len orL_len, ormks_len]
      simp only [orL, List.cons_append, List.nil_append] at hown2
      obtain ⟨⟨c0, c1, c2, c3, c4, c5, c6, c7, c8⟩, f0, f1, f2, f3, f4, f5, f6, f7, f8⟩ := own_cellsOrs hown2 hz
      have hgl : g < wr.heap.size := World.block_lt_of_cell? wr _ c0
      have hK1 : 0 < K := by omega
      have hK2 : K < 20000000 := by omega
      have HO0 := Lib.hid hown2
      have HZ := Lib.hid hz
      have HK := Lib.hid hK
      rw [hK]
      clear ho hown hown2 hz hlen2
      go_wp2_with fail
      refine (markText_at _ (K + 3) (by omega) (by omega) (by omega) _).mono ?_
      rintro r v1 ⟨rfl, b2⟩
      have ho2 := Own.below (((((((HO0.out).stored (j * 9) (.int .i64 ((K : Int))))).1.stored (j * 9 + 1) (.int .i64 ((K : Int) + 1)))).1.stored (j * 9 + 2) (.int .i64 ((K : Int) + 1 + 1))).1) b2
      have ht1 := (((((((ht).set (j * 9) (.int .i64 ((K : Int))))).set (j * 9 + 1) (.int .i64 ((K : Int) + 1)))).set (j * 9 + 2) (.int .i64 ((K : Int) + 1 + 1)))).below (by simpa using hgl) b2
      have hg1 : g < v1.heap.size := Nat.lt_of_lt_of_le (by simpa using hgl) b2.size
      have hlt5 : j * 9 + 8 < l.length * 9 := by omega
      have d0_3 : v1.cell? ⟨g, j * 9 + 3, none⟩ = some (.string l[j].deed.name) := by
        rw [ho2.cellAt _ (by omega), HZ.out]; simp
      have e0_3 := ho2.frozenAt (j * 9 + 3)
      have d0_4 : v1.cell? ⟨g, j * 9 + 4, none⟩ = some (.int .i64 l[j].deed.ed.ma) := by
        rw [ho2.cellAt _ (by omega), HZ.out]; simp
      have e0_4 := ho2.frozenAt (j * 9 + 4)
      have d0_5 : v1.cell? ⟨g, j * 9 + 5, none⟩ = some (.int .i64 l[j].deed.ed.mi) := by
        rw [ho2.cellAt _ (by omega), HZ.out]; simp
      have e0_5 := ho2.frozenAt (j * 9 + 5)
      have d0_6 : v1.cell? ⟨g, j * 9 + 6, none⟩ = some (.int .i64 l[j].deed.ed.pa) := by
        rw [ho2.cellAt _ (by omega), HZ.out]; simp
      have e0_6 := ho2.frozenAt (j * 9 + 6)
      have d0_7 : v1.cell? ⟨g, j * 9 + 7, none⟩ = some (.string l[j].deed.page) := by
        rw [ho2.cellAt _ (by omega), HZ.out]; simp
      have e0_7 := ho2.frozenAt (j * 9 + 7)
      have d0_8 : v1.cell? ⟨g, j * 9 + 8, none⟩ = some (.int .i64 l[j].deed.who) := by
        rw [ho2.cellAt _ (by omega), HZ.out]; simp
      have e0_8 := ho2.frozenAt (j * 9 + 8)
      have HO1 := Lib.hid ho2
      clear c0 c1 c2 c3 c4 c5 c6 c7 c8 f0 f1 f2 f3 f4 f5 f6 f7 f8 ho2 HO0 b2 hK hlt5
      go_wp2_with fail
      refine (markText_at _ (K + 7) (by omega) (by omega) (by omega) _).mono ?_
      rintro r v2 ⟨rfl, b2⟩
      have ho2 := Own.below (((((((((HO1.out).stored (j * 9 + 3) (.string (markB (K + 3))))).1.stored (j * 9 + 4) (.int .i64 ((K : Int) + 1 + 1 + 1 + 1)))).1.stored (j * 9 + 5) (.int .i64 ((K : Int) + 1 + 1 + 1 + 1 + 1)))).1.stored (j * 9 + 6) (.int .i64 ((K : Int) + 1 + 1 + 1 + 1 + 1 + 1))).1) b2
      have ht2 := (((((((((ht1).set (j * 9 + 3) (.string (markB (K + 3))))).set (j * 9 + 4) (.int .i64 ((K : Int) + 1 + 1 + 1 + 1)))).set (j * 9 + 5) (.int .i64 ((K : Int) + 1 + 1 + 1 + 1 + 1)))).set (j * 9 + 6) (.int .i64 ((K : Int) + 1 + 1 + 1 + 1 + 1 + 1)))).below (by simpa using hg1) b2
      have hg2 : g < v2.heap.size := Nat.lt_of_lt_of_le (by simpa using hg1) b2.size
      have hlt5 : j * 9 + 8 < l.length * 9 := by omega
      have d1_7 : v2.cell? ⟨g, j * 9 + 7, none⟩ = some (.string l[j].deed.page) := by
        rw [ho2.cellAt _ (by omega), HZ.out]; simp
      have e1_7 := ho2.frozenAt (j * 9 + 7)
      have d1_8 : v2.cell? ⟨g, j * 9 + 8, none⟩ = some (.int .i64 l[j].deed.who) := by
        rw [ho2.cellAt _ (by omega), HZ.out]; simp
      have e1_8 := ho2.frozenAt (j * 9 + 8)
      have HO2 := Lib.hid ho2
      clear d0_3 e0_3 d0_4 e0_4 d0_5 e0_5 d0_6 e0_6 d0_7 e0_7 d0_8 e0_8 ho2 HO1 b2 hlt5
      go_wp2
      go_roundw
      case rel =>
        refine ⟨j + 1, by go_num, by omega, congrArg (Value.int .i64) (by rw [← HK.out]; omega), ?_, ((((ht2).set (j * 9 + 7) (.string (markB (K + 7))))).set (j * 9 + 8) (.int .i64 ((K : Int) + 1 + 1 + 1 + 1 + 1 + 1 + 1 + 1)))⟩
        have h5 := ((((HO2.out).stored (j * 9 + 7) (.string (markB (K + 7))))).1.stored (j * 9 + 8) (.int .i64 ((K : Int) + 1 + 1 + 1 + 1 + 1 + 1 + 1 + 1))).1
        rw [setOrs (hn := HZ.out)] at h5
        have hl3 : (ormks k (j + 1) ++ l.drop (j + 1)).length = l.length := by rw [List.length_append, ormks_len, List.length_drop]; omega
        unfold OrsOwn
        rw [hl3, cellsOf_append, ormks_succ, cellsOf_append, HK.out, List.append_assoc]
        exact h5
      case measure => simp [intOf]; omega
    · have hj' : j = l.length := by omega
      subst hj'
      rw [List.drop_length, List.append_nil] at hown
      have HO := Lib.hid hown
      clear ho hown
      go_wp2
      go_ret
      exact ⟨rfl, by have h := HO.out; unfold OrsOwn at h ⊢; exact h, ht⟩

set_option maxHeartbeats 1000000 in
theorem ormark_none (A : Option Addr) (cap k : Nat) (w : World) :
    Calls Tryz.prog 21 #[.slice A 0 cap, .int .i64 k] w fun r w' => r = .returned (.int .i64 k) ∧ w = w' := by
  go_enter Tryz.func21, Tryz.ntmps21
  go_wp2
  go_loop [1, 5] (fun x i => x = .int .i64 k ∧ i = .int .i64 0) (fun _ _ => 0)
  case atStart => exact ⟨rfl, rfl⟩
  case round =>
    obtain ⟨rfl, rfl⟩ := hrel
    go_wp2
    go_ret
    exact ⟨rfl, rfl⟩
theorem ormark_own (A : Option Addr) (l : List M.Or) (cap k : Nat) (B : Nat) (w : World) (ho : OrsOwn B w (.slice A l.length cap) l) (hk0 : 0 < k) (hk : k + 9 * l.length ≤ 20000000) :
    Calls Tryz.prog 21 #[.slice A l.length cap, .int .i64 k] w fun r w' => r = .returned (.int .i64 (k + 9 * l.length : Nat)) ∧ OrsOwn B w' (.slice A l.length cap) (ormks k l.length) ∧ TouchO (Value.slice A l.length cap).ownBlock w w' := by
  have ho' := ho
  obtain ⟨hl, ⟨h0, hz⟩ | ⟨g, cap', cur, hv, _⟩⟩ := ho'
  · have hl : l = [] := List.length_eq_zero_iff.1 hz
    subst hl
    injection h0 with hA _ hc
    subst hA hc
    refine (ormark_none none 0 k w).mono ?_
    rintro r w' ⟨rfl, rfl⟩
    exact ⟨rfl, World.ownsRow_nil _ _ _ _, Nat.le_refl _, fun B' hB _ => Below.refl _ _, fun k hk _ => rfl⟩
  · injection hv with hA _ _
    subst hA
    refine (ormark_any g l cap k B w ho hk0 hk).mono ?_
    rintro r w' ⟨rfl, ho', ht⟩
    exact ⟨rfl, ho', ht.size, fun B' _ hB => ht.low B' (hB g rfl), fun k hk hne => ht.block k hk (fun e => hne (by rw [e]; rfl))⟩
end Go.Proofs.YtjdaeecmgkhpmaaGreat
namespace Go.Proofs.YtjdaeecmgkhpmaaGreat
open Go.RowKit
set_option maxRecDepth 20000
def rpmk (k : Nat) : M.Rp := ((k : Int), markB (k + 1))
def rpmks (k : Nat) (j : Nat) : List M.Rp := (List.range j).map fun i => rpmk (k + 2 * i)
theorem rpmks_len (k j : Nat) : (rpmks k j).length = j := by simp [rpmks]
theorem rpmks_succ (k j : Nat) : rpmks k (j + 1) = rpmks k j ++ [rpmk (k + 2 * j)] := by simp [rpmks, List.range_succ]
theorem rpmks_at (k j n : Nat) (h : j < n) : (rpmks k n)[j]'(by rw [rpmks_len]; exact h) = rpmk (k + 2 * j) := by simp [rpmks]
set_option maxHeartbeats 4000000 in
theorem rpmark_any (g : Nat) (l : List M.Rp) (cap k : Nat) (B : Nat) (w : World) (ho : RpsOwn B w (.slice (some ⟨g, 0, none⟩) l.length cap) l) (hk0 : 0 < k) (hk : k + 2 * l.length ≤ 20000000) :
    Calls Tryz.prog 22 #[.slice (some ⟨g, 0, none⟩) l.length cap, .int .i64 k] w fun r w' => r = .returned (.int .i64 (k + 2 * l.length : Nat)) ∧ RpsOwn B w' (.slice (some ⟨g, 0, none⟩) l.length cap) (rpmks k l.length) ∧ Touch g w w' := by
  go_enter Tryz.func22, Tryz.ntmps22
  go_wp2
  go_loopw [1, 5] (fun x i wr => ∃ j : Nat, i = .int .i64 j ∧ j ≤ l.length ∧ x = .int .i64 (k + 2 * j : Nat) ∧ RpsOwn B wr (.slice (some ⟨g, 0, none⟩) l.length cap) (rpmks k j ++ l.drop j) ∧ Touch g w wr) (fun _ i _ => l.length - (intOf i).toNat)
  case atStart => exact ⟨0, rfl, Nat.zero_le _, by simp, by simpa [rpmks] using ho, Touch.refl _ _⟩
  case round =>
    obtain ⟨j, rfl, hj, rfl, hown, ht⟩ := hrel
    by_cases hlt : j < l.length
    · obtain ⟨K, hK⟩ : ∃ K, k + 2 * j = K := ⟨_, rfl⟩
      have hlen2 : (rpmks k j ++ l.drop j).length = l.length := by rw [List.length_append, rpmks_len, List.length_drop]; omega
      have hown2 : wr.ownsRow B 39 2 (.slice (some ⟨g, 0, none⟩) l.length cap) l.length (cellsOf rpL (rpmks k j) ++ (rpL l[j] ++ cellsOf rpL (l.drop (j + 1)))) := by
        have h := hown
        unfold RpsOwn at h
        rw [hlen2, cellsOf_append, List.drop_eq_getElem_cons hlt] at h
        exact h
      have hz : j * 2 = (cellsOf rpL (rpmks k j)).length := by rw [cellsOf_len rpL_len, rpmks_len]
      simp only [rpL, List.cons_append, List.nil_append] at hown2
      obtain ⟨⟨c0, c1⟩, f0, f1⟩ := own_cellsRps hown2 hz
      have hgl : g < wr.heap.size := World.block_lt_of_cell? wr _ c0
      have hK1 : 0 < K := by omega
      have hK2 : K < 20000000 := by omega
      have HO0 := Lib.hid hown2
      have HZ := Lib.hid hz
      have HK := Lib.hid hK
      rw [hK]
      clear ho hown hown2 hz hlen2
      go_wp2_with fail
      refine (markText_at _ (K + 1) (by omega) (by omega) (by omega) _).mono ?_
      rintro r v1 ⟨rfl, b2⟩
      have ho2 := Own.below (((HO0.out).stored (j * 2) (.int .i64 ((K : Int)))).1) b2
      have ht1 := (((ht).set (j * 2) (.int .i64 ((K : Int))))).below (by simpa using hgl) b2
      have hg1 : g < v1.heap.size := Nat.lt_of_lt_of_le (by simpa using hgl) b2.size
      have hlt5 : j * 2 + 1 < l.length * 2 := by omega
      have d0_1 : v1.cell? ⟨g, j * 2 + 1, none⟩ = some (.string l[j].2) := by
        rw [ho2.cellAt _ (by omega), HZ.out]; simp
      have e0_1 := ho2.frozenAt (j * 2 + 1)
      have HO1 := Lib.hid ho2
      clear c0 c1 f0 f1 ho2 HO0 b2 hK hlt5
      go_wp2
      go_roundw
      case rel =>
        refine ⟨j + 1, by go_num, by omega, congrArg (Value.int .i64) (by rw [← HK.out]; omega), ?_, ((ht1).set (j * 2 + 1) (.string (markB (K + 1))))⟩
        have h5 := ((HO1.out).stored (j * 2 + 1) (.string (markB (K + 1)))).1
        rw [setRps (hn := HZ.out)] at h5
        have hl3 : (rpmks k (j + 1) ++ l.drop (j + 1)).length = l.length := by rw [List.length_append, rpmks_len, List.length_drop]; omega
        unfold RpsOwn
        rw [hl3, cellsOf_append, rpmks_succ, cellsOf_append, HK.out, List.append_assoc]
        exact h5
      case measure => simp [intOf]; omega
    · have hj' : j = l.length := by omega
      subst hj'
      rw [List.drop_length, List.append_nil] at hown
      have HO := Lib.hid hown
      clear ho hown
      go_wp2
      go_ret
      exact ⟨rfl, by have h := HO.out; unfold RpsOwn at h ⊢; exact h, ht⟩

set_option maxHeartbeats 1000000 in
theorem rpmark_none (A : Option Addr) (cap k : Nat) (w : World) :
    Calls Tryz.prog 22 #[.slice A 0 cap, .int .i64 k] w fun r w' => r = .returned (.int .i64 k) ∧ w = w' := by
  go_enter Tryz.func22, Tryz.ntmps22
  go_wp2
  go_loop [1, 5] (fun x i => x = .int .i64 k ∧ i = .int .i64 0) (fun _ _ => 0)
  case atStart => exact ⟨rfl, rfl⟩
  case round =>
    obtain ⟨rfl, rfl⟩ := hrel
    go_wp2
    go_ret
    exact ⟨rfl, rfl⟩
theorem rpmark_own (A : Option Addr) (l : List M.Rp) (cap k : Nat) (B : Nat) (w : World) (ho : RpsOwn B w (.slice A l.length cap) l) (hk0 : 0 < k) (hk : k + 2 * l.length ≤ 20000000) :
    Calls Tryz.prog 22 #[.slice A l.length cap, .int .i64 k] w fun r w' => r = .returned (.int .i64 (k + 2 * l.length : Nat)) ∧ RpsOwn B w' (.slice A l.length cap) (rpmks k l.length) ∧ TouchO (Value.slice A l.length cap).ownBlock w w' := by
  have ho' := ho
  obtain ⟨hl, ⟨h0, hz⟩ | ⟨g, cap', cur, hv, _⟩⟩ := ho'
  · have hl : l = [] := List.length_eq_zero_iff.1 hz
    subst hl
    injection h0 with hA _ hc
    subst hA hc
    refine (rpmark_none none 0 k w).mono ?_
    rintro r w' ⟨rfl, rfl⟩
    exact ⟨rfl, World.ownsRow_nil _ _ _ _, Nat.le_refl _, fun B' hB _ => Below.refl _ _, fun k hk _ => rfl⟩
  · injection hv with hA _ _
    subst hA
    refine (rpmark_any g l cap k B w ho hk0 hk).mono ?_
    rintro r w' ⟨rfl, ho', ht⟩
    exact ⟨rfl, ho', ht.size, fun B' _ hB => ht.low B' (hB g rfl), fun k hk hne => ht.block k hk (fun e => hne (by rw [e]; rfl))⟩

set_option maxHeartbeats 4000000 in
theorem rpheld_any (A : Option Addr) (n cap k : Nat) (w : World) (hl : Rps w A (rpmks k n)) (hk0 : 0 < k) (hk : k + 2 * n ≤ 20000000) :
    Calls Tryz.prog 23 #[.slice A n cap, .int .i64 k] w fun r w' => r = .returned (.int .i64 (k + 2 * n : Nat)) ∧ Below w.heap.size w w' := by
  go_enter Tryz.func23, Tryz.ntmps23
  go_wp2
  go_loopw [1, 5] (fun x i wr => ∃ j : Nat, i = .int .i64 j ∧ j ≤ n ∧ x = .int .i64 (k + 2 * j : Nat) ∧ Below w.heap.size w wr) (fun _ i _ => n - (intOf i).toNat)
  case atStart => exact ⟨0, rfl, Nat.zero_le _, by simp, Below.refl _ _⟩
  case round =>
    obtain ⟨j, rfl, hj, rfl, hb⟩ := hrel
    by_cases hlt : j < n
    · obtain ⟨kk, hK⟩ : ∃ kk, k + 2 * j = kk := ⟨_, rfl⟩
      obtain ⟨b, o, rfl, zb, c0, c1⟩ := Rps_at (hl.below hb) (i := j) (by rw [rpmks_len]; exact hlt)
      rw [rpmks_at k j n hlt, hK] at c0 c1
      have hK1 : 0 < kk := by omega
      have hK2 : kk < 20000000 := by omega
      have HL := Lib.hid hl
      have HK := Lib.hid hK
      rw [hK]
      clear hl hK
      simp only [rpmk] at c0 c1
      have e0 : ((kk : Int) != (kk : Int)) = false := by simp
      go_wp2_with fail
      refine wp_region_seq (fun w' => Below wr.heap.size wr w') [(0, true), (1, true), (2, true), (3, true), (4, true), (5, true), (6, false), (7, true)] (by kernel_rfl) (by kernel_rfl) (fun _ _ _ _ _ h => h) (by kernel_rfl) (by decide) (Below.refl _ _).drew ?_
      intro hHeld
      repeat (first
        | (refine seq_skip (by simp only [List.getElem?_toArray, List.getElem?_cons_succ, List.getElem?_cons_zero]; first | done | rfl) (by rfl) ?_; (try simp only [Act.put, List.setIfInBounds_toArray, List.set_cons_zero, List.set_cons_succ]))
        | (refine seq_reads (by simp only [List.getElem?_toArray, List.getElem?_cons_succ, List.getElem?_cons_zero]; first | done | rfl) (by rfl) ?_; apply Exists.intro; apply And.intro; (focus (intro w hSw; obtain ⟨hcS, -⟩ := bcell hSw; go_simp; (try with_reducible rfl); done)); (try simp only [Act.put, List.setIfInBounds_toArray, List.set_cons_zero, List.set_cons_succ]))
        | (refine seq_pass (by simp only [List.getElem?_toArray, List.getElem?_cons_succ, List.getElem?_cons_zero]; first | done | rfl) (by rfl) hHeld ?_; clear hHeld; intro hHeld; (try simp only [Act.put, List.setIfInBounds_toArray, List.set_cons_zero, List.set_cons_succ]))
        | (refine seq_call (by simp only [List.getElem?_toArray, List.getElem?_cons_succ, List.getElem?_cons_zero]; first | done | rfl) (by rfl) (fun K hK => ?_); go_simp; go_at_call 45; refine (markText_at _ (kk + 1) (by omega) (by omega) (by omega) _).mono ?_; rintro r v0 ⟨rfl, b1⟩; go_simp; refine hK.out _ _ (next hHeld b1) ?_; clear hK hHeld; intro hHeld; (try simp only [Act.put, List.setIfInBounds_toArray, List.set_cons_zero, List.set_cons_succ])))
      refine seq_end ?_
      have e1 : ((markB (kk + 1)).toList != (markB (kk + 1)).toList) = false := by simp
      have bb0 := next hb hHeld
      have zb0 := Nat.lt_of_lt_of_le zb hHeld.size
      clear c0 c1 hHeld
      go_wp2
      go_roundw
      case rel => exact ⟨j + 1, by go_num, by omega, congrArg (Value.int .i64) (by rw [← HK.out]; omega), bb0⟩
      case measure => simp [intOf]; omega
    · have hj' : j = n := by omega
      subst hj'
      go_wp2
      go_ret
      exact ⟨rfl, hb⟩
end Go.Proofs.YtjdaeecmgkhpmaaGreat
namespace Go.Proofs.YtjdaeecmgkhpmaaGreat
open Go.RowKit
set_option maxRecDepth 20000
theorem rps_of {w : World} {B m c : Nat} {A : Option Addr} {l : List M.Rp} (h : RpsOwn B w (.slice A m c) l) : Rps w A l := by
  obtain ⟨A', c', hv, _, hf⟩ := own_flat rpL_len h
  have hA : A = A' := by injection hv
  rw [hA]; exact hf
theorem ors_of {w : World} {B m c : Nat} {A : Option Addr} {l : List M.Or} (h : OrsOwn B w (.slice A m c) l) : Ors w A l := by
  obtain ⟨A', c', hv, _, hf⟩ := own_flat orL_len h
  have hA : A = A' := by injection hv
  rw [hA]; exact hf
namespace M
theorem all_ok (b : Bk) (l : List Or) : sfOk (allOrdered b l).1.1 = true ∧ (allOrdered b l).1.2.length ≤ 5 ∧ (allOrdered b l).2.length ≤ 400 := by
  unfold allOrdered
  split
  · rename_i h
    simp only [Bool.and_eq_true, decide_eq_true_eq] at h
    have h1 := ordTo_ok (b := b) h.1 l l.length
    have h2 := ordTo_len b l l.length (Nat.le_refl _)
    rw [List.take_length] at h1 h2
    simp only [bkOk, Bool.and_eq_true] at h1
    have := lasOk_len h1.2
    exact ⟨h1.1, by omega, by omega⟩
  · exact ⟨rfl, by show ([] : List La).length ≤ 5; simp, by show ([] : List Rp).length ≤ 400; simp⟩
end M
theorem all_small {b : M.Bk} {o : List M.Or} {r : List Wr} (h : r.map Wr.wk = (M.allOrdered b o).1.1) : r.length ≤ 5 ∧ WrsIn 12 r := wrs_ok (h ▸ (M.all_ok b o).1)
theorem implAllOrdered_at (l : List Wr) (m : List M.La) (AO : Option Addr) (os : List M.Or) (co : Nat) (v : Value) (w : World) (h : BkArg l m v w) (hlen : l.length ≤ 1048576) (hp : WrsIn 1048576 l) (hml : m.length ≤ 1048576) (hmp : ∀ c ∈ m, laIn 1048576 c) (ho : Ors w AO os) (hol : os.length ≤ 1048576) (hop : ∀ o ∈ os, orIn 1048576 o) :
    Calls Tryz.prog 18 #[v, .slice AO os.length co] w (AllRet w (M.allOrdered (l.map Wr.wk, m) os)) := by
  obtain ⟨rs, g1, g2, rfl, h1, h2, h3, h4, h5⟩ := h
  rw [← h1]
  exact implAllOrdered _ rs _ _ m _ AO os co w h4 (by omega) (wrs_eq h1 hp) h5 hml hmp ho hol hop
theorem specAllOrdered_at (l : List Wr) (m : List M.La) (AO : Option Addr) (os : List M.Or) (co : Nat) (v : Value) (w : World) (h : BkArg l m v w) (hlen : l.length ≤ 1048576) (hp : WrsIn 1048576 l) (hml : m.length ≤ 1048576) (ho : Ors w AO os) (hol : os.length ≤ 1048576) (hop : ∀ o ∈ os, orIn 1048576 o) :
    Calls Tryz.prog 16 #[v, .slice AO os.length co] w (AllRet w (M.allOrdered (l.map Wr.wk, m) os)) := by
  obtain ⟨rs, g1, g2, rfl, h1, h2, h3, h4, h5⟩ := h
  rw [← h1]
  exact specAllOrdered _ rs _ _ m _ AO os co w h4 (fun r hr e => absurd e (h3 r hr).1) (by omega) (wrs_eq h1 hp) h5 (fun e => by cases e) hml ho hol hop
/-- AllRet, its values opened. -/
theorem AllRet.open {w y : World} {q : M.Bk × List M.Rp} {r : Ending} (h : AllRet w q r y) : ∃ A1 c1 A2 c2 A3 c3 rs, r = .returned (.tuple #[bkV A1 rs.length c1 A2 q.1.2.length c2, .slice A3 q.2.length c3]) ∧ SfOwn w.heap.size y (.slice A1 rs.length c1) rs ∧ rs.map Wr.wk = q.1.1 ∧ LasOwn w.heap.size y (.slice A2 q.1.2.length c2) q.1.2 ∧ (∀ g, (Value.slice A2 q.1.2.length c2).ownBlock = some g → ¬ blocksS (.slice A1 rs.length c1) rs g) ∧ RpsOwn w.heap.size y (.slice A3 q.2.length c3) q.2 ∧ (∀ g, (Value.slice A3 q.2.length c3).ownBlock = some g → ¬ blocksB (.slice A1 rs.length c1) (.slice A2 q.1.2.length c2) rs g) ∧ Below w.heap.size w y := by
  obtain ⟨v1, v2, v3, rs, e, h1, h2, h3, h4, h5, h6, h7⟩ := h
  obtain ⟨A1, c1, rfl, -, -⟩ := h1.open
  obtain ⟨A2, c2, rfl, -, -⟩ := LasOwn.open h3
  obtain ⟨A3, c3, rfl⟩ := row_form h5
  exact ⟨A1, c1, A2, c2, A3, c3, rs, e, h1, h2, h3, h4, h5, h6, h7⟩
end Go.Proofs.YtjdaeecmgkhpmaaGreat
namespace Go.Proofs.YtjdaeecmgkhpmaaGreat
open Go.ChangeShapes Go.WideShapes Go.ChangeAt Go.RowKit Go.Joins Go.Deep

theorem cell_spot {w : World} {a : Addr} {v : Value} (h : w.cell? a = some v) : a = ⟨a.block, a.off, none⟩ := by
  unfold World.cell? at h
  rcases a with ⟨b, o, _ | s⟩
  · rfl
  · split at h <;> simp at h

section
variable {H : Type} {enc : TypeId × Value → H} {P : Program} {w : World} {base : Nat} {spare : Nat → Bool} {held : Bool}

theorem open_rows {α : Type} [Inhabited α] {en : α → List Value} {k : Nat} {Q : α → Prop} {t e : TypeId} {fuel : Nat} {cs : List Value} {x : DataW H × List MemPlace} (ht : P.underlying t = some (.slice e)) (hk : P.cellsOf e = k) (hk0 : 0 < k)
    (hlen : ∀ x, (en x).length = k) (op : ∀ (n : Nat) (cs : List Value) (x : DataW H × List MemPlace), DataW.trod enc P w base spare held n e cs = some x → ∃ c, cs = en c ∧ Q c)
    (h : DataW.trod enc P w base spare held fuel t cs = some x) : ∃ (A : Option Addr) (l : List α) (c : Nat), cs = [.slice A l.length c] ∧ Flat en k w A l ∧ l.length ≤ c ∧ c ≤ maxLen ∧ ∀ x ∈ l, Q x := by
  subst hk
  rcases open_slice ht h with ⟨rfl, _⟩ | ⟨a, len, cap, m, n, D, Pl, rfl, hb, hl, hm, hmm, hx, hi⟩
  · exact ⟨none, [], 0, rfl, .inl rfl, Nat.le_refl _, Nat.zero_le _, by simp⟩
  · have hlm : len ≤ m := by rw [hmm]; split <;> omega
    have hall : ∀ i, i < len → ∃ c, Q c ∧ ∀ t u, (en c)[t]? = some u → w.cell? (a.add (i * P.cellsOf e + t)) = some u := by
      intro i hil
      obtain ⟨cs', hc, ht'⟩ := hi i (by omega)
      obtain ⟨c, rfl, hq⟩ := op n cs' _ ht'
      obtain ⟨_, hcl, hat⟩ := World.cells?_some hc
      refine ⟨c, hq, fun t u hu => ?_⟩
      have htl : t < P.cellsOf e := by
        rcases Nat.lt_or_ge t (en c).length with h' | h'
        · rw [hlen] at h'; exact h'
        · rw [List.getElem?_eq_none h'] at hu; cases hu
      have := hat t htl
      rw [← Go.Deep.add_add, this, hu]
    obtain ⟨F, hF⟩ : ∃ F : Nat → α, ∀ i, i < len → Q (F i) ∧ ∀ t u, (en (F i))[t]? = some u → w.cell? (a.add (i * P.cellsOf e + t)) = some u := by
      refine ⟨fun i => if h : i < len then Classical.choose (hall i h) else default, fun i hil => ?_⟩
      simp only [dif_pos hil]
      exact Classical.choose_spec (hall i hil)
    refine ⟨some a, (List.range len).map F, cap, by simp, ?_, by simpa using hl, hm, fun y hy => ?_⟩
    · rcases Nat.eq_zero_or_pos len with h0 | h0
      · subst h0; exact .inl rfl
      · have h1 : (en (F 0))[0]? = some ((en (F 0))[0]'(by rw [hlen]; exact hk0)) := List.getElem?_eq_getElem _
        have h2 := (hF 0 h0).2 0 _ h1
        have h3 : a.add (0 * P.cellsOf e + 0) = a := by simp [Addr.add]
        rw [h3] at h2
        have ha := cell_spot h2
        rw [ha]
        refine .inr ⟨a.block, a.off, rfl, World.block_lt_of_cell? w _ h2, fun i t x u hi hu => ?_⟩
        rw [List.getElem?_map] at hi
        have hil : i < len := by
          rcases Nat.lt_or_ge i len with h' | h'
          · exact h'
          · rw [List.getElem?_eq_none (by simpa using h')] at hi; cases hi
        rw [List.getElem?_range hil] at hi
        simp at hi
        subst hi
        have := (hF i hil).2 t u hu
        rw [ha, addr_add, ← Nat.add_assoc] at this
        exact this
    · simp at hy
      obtain ⟨i, hil, rfl⟩ := hy
      exact (hF i hil).1

theorem cells_ed {t : TypeId} {g0 g1 g2 : Field} {n : Nat} {cs : List Value} {x : DataW H × List MemPlace} (hs : P.underlying t = some (.struct #[g0, g1, g2])) (hC : P.cellsOf t = 3)
    (po : [g0.offset, g1.offset, g2.offset] = [0, 1, 2]) (pk : [P.cellsOf g0.type, P.cellsOf g1.type, P.cellsOf g2.type] = [1, 1, 1])
    (x0 : P.underlying g0.type = some (.int .i64)) (x1 : P.underlying g1.type = some (.int .i64)) (x2 : P.underlying g2.type = some (.int .i64))
    (h : DataW.trod enc P w base spare held n t cs = some x) : ∃ e : M.Ed, cs = [.int .i64 e.ma, .int .i64 e.mi, .int .i64 e.pa] := by
  obtain ⟨zs, m, _, _, hl, hlen', hfld'⟩ := DataW.trod_struct hs h
  simp only [List.cons.injEq, and_true] at po pk
  obtain ⟨p0, p1, p2⟩ := po
  obtain ⟨q0, q1, q2⟩ := pk
  match cs, hl.trans hC with
  | [c0, c1, c2], _ =>
    match zs, hlen' with
    | [z0, z1, z2], _ =>
      have i0 := hfld' 0 g0 rfl
      have i1 := hfld' 1 g1 rfl
      have i2 := hfld' 2 g2 rfl
      simp only [p0, p1, p2, q0, q1, q2, List.drop_zero, List.drop_succ_cons, List.take_succ_cons, List.take_zero, List.getElem?_cons_zero, List.getElem?_cons_succ] at i0 i1 i2
      obtain ⟨b0, j0, _⟩ := DataW.trod_int x0 i0
      obtain ⟨b1, j1, _⟩ := DataW.trod_int x1 i1
      obtain ⟨b2, j2, _⟩ := DataW.trod_int x2 i2
      simp only [List.cons.injEq, and_true] at j0 j1 j2
      subst j0 j1 j2
      exact ⟨⟨b0, b1, b2⟩, rfl⟩

theorem cells_cp {t : TypeId} {f0 f1 f2 g0 g1 g2 : Field} {n : Nat} {cs : List Value} {x : DataW H × List MemPlace} (hs : P.underlying t = some (.struct #[f0, f1, f2])) (hC : P.cellsOf t = 5)
    (ho : [f0.offset, f1.offset, f2.offset] = [0, 3, 4]) (hk : [P.cellsOf f0.type, P.cellsOf f1.type, P.cellsOf f2.type] = [3, 1, 1])
    (u0 : P.underlying f0.type = some (.struct #[g0, g1, g2])) (u1 : P.underlying f1.type = some .string) (u2 : P.underlying f2.type = some .bool)
    (po : [g0.offset, g1.offset, g2.offset] = [0, 1, 2]) (pk : [P.cellsOf g0.type, P.cellsOf g1.type, P.cellsOf g2.type] = [1, 1, 1])
    (x0 : P.underlying g0.type = some (.int .i64)) (x1 : P.underlying g1.type = some (.int .i64)) (x2 : P.underlying g2.type = some (.int .i64))
    (h : DataW.trod enc P w base spare held n t cs = some x) : ∃ c : M.Cp, cs = cpL c ∧ c.page.size ≤ maxLen := by
  obtain ⟨zs, m, _, _, hl, hlen', hfld'⟩ := DataW.trod_struct hs h
  simp only [List.cons.injEq, and_true] at ho hk
  obtain ⟨p0, p1, p2⟩ := ho
  obtain ⟨q0, q1, q2⟩ := hk
  match cs, hl.trans hC with
  | [c0, c1, c2, c3, c4], _ =>
    match zs, hlen' with
    | [z0, z1, z2], _ =>
      have i0 := hfld' 0 f0 rfl
      have i1 := hfld' 1 f1 rfl
      have i2 := hfld' 2 f2 rfl
      simp only [p0, p1, p2, q0, q1, q2, List.drop_zero, List.drop_succ_cons, List.take_succ_cons, List.take_zero, List.getElem?_cons_zero, List.getElem?_cons_succ] at i0 i1 i2
      obtain ⟨e, j0⟩ := cells_ed u0 q0 po pk x0 x1 x2 i0
      obtain ⟨s, j1, _, hsz⟩ := DataW.trod_string u1 i1
      obtain ⟨b, j2, _⟩ := DataW.trod_bool u2 i2
      simp only [List.cons.injEq, and_true] at j0 j1 j2
      obtain ⟨rfl, rfl, rfl⟩ := j0
      subst j1 j2
      exact ⟨⟨e, s, b⟩, rfl, hsz⟩

theorem open_wk {r : Reach} {b0 : Nat} {t tc te : TypeId} {h0 h1 h2 f0 f1 f2 g0 g1 g2 : Field} {v : Value} {d : DataW H} {p : List MemPlace} (hs : P.underlying t = some (.struct #[h0, h1, h2])) (hC : P.cellsOf t = 3)
    (so : [h0.offset, h1.offset, h2.offset] = [0, 1, 2]) (sk : [P.cellsOf h0.type, P.cellsOf h1.type, P.cellsOf h2.type] = [1, 1, 1])
    (y0 : P.underlying h0.type = some .string) (y1 : P.underlying h1.type = some (.int .i64)) (y2 : h2.type = tc) (y3 : P.underlying tc = some (.slice te))
    (hcs : P.underlying te = some (.struct #[f0, f1, f2])) (hcC : P.cellsOf te = 5)
    (ho : [f0.offset, f1.offset, f2.offset] = [0, 3, 4]) (hk : [P.cellsOf f0.type, P.cellsOf f1.type, P.cellsOf f2.type] = [3, 1, 1])
    (u0 : P.underlying f0.type = some (.struct #[g0, g1, g2])) (u1 : P.underlying f1.type = some .string) (u2 : P.underlying f2.type = some .bool)
    (po : [g0.offset, g1.offset, g2.offset] = [0, 1, 2]) (pk : [P.cellsOf g0.type, P.cellsOf g1.type, P.cellsOf g2.type] = [1, 1, 1])
    (x0 : P.underlying g0.type = some (.int .i64)) (x1 : P.underlying g1.type = some (.int .i64)) (x2 : P.underlying g2.type = some (.int .i64))
    (hv : Value.okWide P w r b0 t v) (h : DataW.Trod enc P w base spare held t v d p) :
    ∃ (name : ByteArray) (owner : Int) (A : Option Addr) (l : List M.Cp) (c : Nat), v = wkV name owner A l.length c ∧ name.size ≤ maxLen ∧ Cps w A l ∧ l.length ≤ maxLen ∧ ∀ x ∈ l, x.page.size ≤ maxLen := by
  obtain ⟨cs, rfl, hsz⟩ := okWide_struct hs hv
  obtain ⟨l⟩ := cs
  match l, hsz.trans hC with
  | [c0, c1, c2], _ =>
    obtain ⟨fuel, hf⟩ := h
    obtain ⟨xs, n, _, hx, _, hlen, hg⟩ := DataW.trod_struct hs hf
    simp only [List.cons.injEq, and_true] at so sk
    obtain ⟨p0, p1, p2⟩ := so
    obtain ⟨q0, q1, q2⟩ := sk
    match xs, hlen with
    | [z0, z1, z2], _ =>
      have i0 := hg 0 h0 rfl
      have i1 := hg 1 h1 rfl
      have i2 := hg 2 h2 rfl
      simp only [Value.cells, p0, p1, p2, q0, q1, q2, List.drop_zero, List.drop_succ_cons, List.take_succ_cons, List.take_zero, List.getElem?_cons_zero, List.getElem?_cons_succ] at i0 i1 i2
      obtain ⟨s, j0, _, hss⟩ := DataW.trod_string y0 i0
      obtain ⟨b, j1, _⟩ := DataW.trod_int y1 i1
      rw [y2] at i2
      haveI : Inhabited M.Cp := ⟨M.zeroCp⟩
      obtain ⟨A, l, c, j2, hfl, hlc, hcm, hq⟩ := open_rows (en := cpL) (Q := fun c => c.page.size ≤ maxLen) y3 hcC (by omega) cpL_len (fun n cs x hx => cells_cp hcs hcC ho hk u0 u1 u2 po pk x0 x1 x2 hx) i2
      simp only [List.cons.injEq, and_true] at j0 j1 j2
      subst j0 j1 j2
      exact ⟨s, b, A, l, c, rfl, hss, hfl, by omega, hq⟩
end
end Go.Proofs.YtjdaeecmgkhpmaaGreat
namespace Go.Proofs.YtjdaeecmgkhpmaaGreat
open Go.ChangeShapes Go.WideShapes Go.ChangeAt Go.RowKit Go.Joins Go.Deep
section
variable {H : Type} {enc : TypeId × Value → H} {P : Program} {w : World} {base : Nat} {spare : Nat → Bool} {held : Bool}

theorem cells_wr {t tc te : TypeId} {h0 h1 h2 f0 f1 f2 g0 g1 g2 : Field} {n : Nat} {cs : List Value} {x : DataW H × List MemPlace} (hs : P.underlying t = some (.struct #[h0, h1, h2])) (hC : P.cellsOf t = 3)
    (so : [h0.offset, h1.offset, h2.offset] = [0, 1, 2]) (sk : [P.cellsOf h0.type, P.cellsOf h1.type, P.cellsOf h2.type] = [1, 1, 1])
    (y0 : P.underlying h0.type = some .string) (y1 : P.underlying h1.type = some (.int .i64)) (y2 : h2.type = tc) (y3 : P.underlying tc = some (.slice te))
    (hcs : P.underlying te = some (.struct #[f0, f1, f2])) (hcC : P.cellsOf te = 5)
    (ho : [f0.offset, f1.offset, f2.offset] = [0, 3, 4]) (hk : [P.cellsOf f0.type, P.cellsOf f1.type, P.cellsOf f2.type] = [3, 1, 1])
    (u0 : P.underlying f0.type = some (.struct #[g0, g1, g2])) (u1 : P.underlying f1.type = some .string) (u2 : P.underlying f2.type = some .bool)
    (po : [g0.offset, g1.offset, g2.offset] = [0, 1, 2]) (pk : [P.cellsOf g0.type, P.cellsOf g1.type, P.cellsOf g2.type] = [1, 1, 1])
    (x0 : P.underlying g0.type = some (.int .i64)) (x1 : P.underlying g1.type = some (.int .i64)) (x2 : P.underlying g2.type = some (.int .i64))
    (h : DataW.trod enc P w base spare held n t cs = some x) :
    ∃ r : Wr, cs = wrL r ∧ Cps w r.ad r.cps ∧ r.name.size ≤ maxLen ∧ r.cps.length ≤ maxLen ∧ ∀ c ∈ r.cps, c.page.size ≤ maxLen := by
  obtain ⟨xs, n, _, hx, hl, hlen, hg⟩ := DataW.trod_struct hs h
  simp only [List.cons.injEq, and_true] at so sk
  obtain ⟨p0, p1, p2⟩ := so
  obtain ⟨q0, q1, q2⟩ := sk
  match cs, hl.trans hC with
  | [c0, c1, c2], _ =>
    match xs, hlen with
    | [z0, z1, z2], _ =>
      have i0 := hg 0 h0 rfl
      have i1 := hg 1 h1 rfl
      have i2 := hg 2 h2 rfl
      simp only [p0, p1, p2, q0, q1, q2, List.drop_zero, List.drop_succ_cons, List.take_succ_cons, List.take_zero, List.getElem?_cons_zero, List.getElem?_cons_succ] at i0 i1 i2
      obtain ⟨s, j0, _, hss⟩ := DataW.trod_string y0 i0
      obtain ⟨b, j1, _⟩ := DataW.trod_int y1 i1
      rw [y2] at i2
      haveI : Inhabited M.Cp := ⟨M.zeroCp⟩
      obtain ⟨A, l, c, j2, hfl, hlc, hcm, hq⟩ := open_rows (en := cpL) (Q := fun c => c.page.size ≤ maxLen) y3 hcC (by omega) cpL_len (fun n cs x hx => cells_cp hcs hcC ho hk u0 u1 u2 po pk x0 x1 x2 hx) i2
      simp only [List.cons.injEq, and_true] at j0 j1 j2
      subst j0 j1 j2
      exact ⟨⟨s, b, A, c, l⟩, rfl, hfl, hss, by simp only; omega, hq⟩

theorem open_sf {r : Reach} {b0 : Nat} {ts t tc te : TypeId} {h0 h1 h2 f0 f1 f2 g0 g1 g2 : Field} {v : Value} {d : DataW H} {p : List MemPlace} (hts : P.underlying ts = some (.slice t)) (hs : P.underlying t = some (.struct #[h0, h1, h2])) (hC : P.cellsOf t = 3)
    (so : [h0.offset, h1.offset, h2.offset] = [0, 1, 2]) (sk : [P.cellsOf h0.type, P.cellsOf h1.type, P.cellsOf h2.type] = [1, 1, 1])
    (y0 : P.underlying h0.type = some .string) (y1 : P.underlying h1.type = some (.int .i64)) (y2 : h2.type = tc) (y3 : P.underlying tc = some (.slice te))
    (hcs : P.underlying te = some (.struct #[f0, f1, f2])) (hcC : P.cellsOf te = 5)
    (ho : [f0.offset, f1.offset, f2.offset] = [0, 3, 4]) (hk : [P.cellsOf f0.type, P.cellsOf f1.type, P.cellsOf f2.type] = [3, 1, 1])
    (u0 : P.underlying f0.type = some (.struct #[g0, g1, g2])) (u1 : P.underlying f1.type = some .string) (u2 : P.underlying f2.type = some .bool)
    (po : [g0.offset, g1.offset, g2.offset] = [0, 1, 2]) (pk : [P.cellsOf g0.type, P.cellsOf g1.type, P.cellsOf g2.type] = [1, 1, 1])
    (x0 : P.underlying g0.type = some (.int .i64)) (x1 : P.underlying g1.type = some (.int .i64)) (x2 : P.underlying g2.type = some (.int .i64))
    (hv : Value.okWide P w r b0 ts v) (h : DataW.Trod enc P w base spare held ts v d p) :
    ∃ (A : Option Addr) (l : List Wr) (c : Nat), v = .slice A l.length c ∧ Wks w A l ∧ l.length ≤ maxLen ∧ WrsIn maxLen l := by
  obtain ⟨a0, len0, cap0, rfl⟩ := okWide_slice hts hv
  obtain ⟨fuel, hf⟩ := h
  obtain ⟨A, l, c, hcell, hfl, hlc, hcm, hq⟩ := open_rows (en := wrL) (Q := fun r => Cps w r.ad r.cps ∧ r.name.size ≤ maxLen ∧ r.cps.length ≤ maxLen ∧ ∀ c ∈ r.cps, c.page.size ≤ maxLen) hts hC (by omega) wrL_len (fun n cs x hx => cells_wr hs hC so sk y0 y1 y2 y3 hcs hcC ho hk u0 u1 u2 po pk x0 x1 x2 hx) hf
  simp [Value.cells] at hcell
  obtain ⟨rfl, rfl, rfl⟩ := hcell
  exact ⟨_, l, _, rfl, ⟨hfl, fun r hr => (hq r hr).1⟩, by omega, fun r hr => (hq r hr).2⟩
end
end Go.Proofs.YtjdaeecmgkhpmaaGreat
