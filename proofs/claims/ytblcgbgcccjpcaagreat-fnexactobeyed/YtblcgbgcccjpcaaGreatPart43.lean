/- Proved, in parts: Proved: the laws' helpers on one order (its size, its copy, its likeness) answer plain Lean functions; they write nothing that was there. Condition: texts of at most a million where the size is told. Proved: the laws' helpers on one entry (its size, its copy, its likeness) answer plain Lean functions; they write nothing that was there. Condition: texts of at most a million where the size is told. Proved: the laws' helpers that write marks into a list of records of the type Last, and look whether they are there, do so and write nothing else. Condition: at most two million records. Proved: the laws' helpers that write marks into a book, and look whether they are there, do so and write nothing else. Condition: at most a million works, copies and lasts. Proved: the laws' helper counts a list of works as the plain Lean function does; it writes nothing that was there. Proved: the laws' own test tells two lists of works alike that are; it writes nothing that was there. No condition. -/
import Derived.Test.YtblcgbgcccjpcaaGreatPart08
import Derived.Test.YtblcgbgcccjpcaaGreatPart42
import Derived.Test.YtblcgbgcccjpcaaGreatPart05
import Derived.Test.YtblcgbgcccjpcaaGreatPart24
import Derived.Test.YtblcgbgcccjpcaaGreatPart27
import Derived.Test.YtblcgbgcccjpcaaGreatPart37
import Derived.Test.YtblcgbgcccjpcaaGreatPart09
import Derived.Test.YtblcgbgcccjpcaaGreatPart23
namespace Go.Proofs.YtblcgbgcccjpcaaGreat
open Go.RowKit
set_option maxRecDepth 20000
abbrev orL (o : M.Or) : List Value := [.int .i64 o.client, .int .i64 o.seq, .int .i64 o.deed.kind, .string o.deed.name, .int .i64 o.deed.ed.ma, .int .i64 o.deed.ed.mi, .int .i64 o.deed.ed.pa, .string o.deed.page, .int .i64 o.deed.who]
abbrev orA (o : M.Or) : Array Value := orC o
theorem orL_len (o : M.Or) : (orL o).length = 9 := rfl
abbrev orIn (n : Nat) (o : M.Or) : Prop := o.deed.name.size ≤ n ∧ o.deed.page.size ≤ n
set_option maxHeartbeats 1000000 in
theorem szDeed_is (d : M.Dd) (n : Int) (w : World) (hn : n ≤ 1048576) (h : (d.name.size + d.page.size : Int) ≤ n) :
    Calls Tryz.prog 138 #[ddV d, .int .i64 n] w fun r w' => r = .returned (.int .i64 (n - d.name.size - d.page.size)) ∧ Below w.heap.size w w' := by
  go_enter Tryz.func138, Tryz.ntmps138
  go_wp2
  go_ret
  exact ⟨ret_int (by omega), (Below.refl _ _).alloc (Nat.le_refl _) _⟩
set_option maxHeartbeats 1000000 in
theorem orSz_small (o : M.Or) (n : Int) (w : World) (h1 : n ≤ 1048576) (h : ((o.deed.name.size + o.deed.page.size : Nat) : Int) ≤ n) :
    Calls Tryz.prog 95 #[orV o, .int .i64 n] w fun r w' => r = .returned (.int .i64 (n - ((o.deed.name.size + o.deed.page.size : Nat) : Int))) ∧ Below w.heap.size w w' := by
  have b0 := (Below.refl w.heap.size w).alloc (Nat.le_refl _) (.cells (orC o) 91)
  have h0 : 0 ≤ n - (o.deed.name.size : Int) - (o.deed.page.size : Int) := by omega
  go_enter Tryz.func95, Tryz.ntmps95
  go_wp2_with fail
  refine (szDeed_is o.deed n _ h1 (by omega)).mono ?_
  rintro r w1 ⟨rfl, b1⟩
  go_wp2
  go_ret
  exact ⟨ret_int (by omega), next b0 b1⟩
set_option maxHeartbeats 1000000 in
theorem orSz_big (o : M.Or) (n : Int) (w : World) (h0 : 0 ≤ n) (h1 : n ≤ 1048576) (hp : orIn maxLen o) (h : n < ((o.deed.name.size + o.deed.page.size : Nat) : Int)) :
    Calls Tryz.prog 95 #[orV o, .int .i64 n] w fun r w' => r = .returned (.int .i64 (-1)) ∧ Below w.heap.size w w' :=
  szOrder_big o n w h0 h1 hp.1 hp.2 (by omega)
theorem orTo_any (o : M.Or) (w : World) :
    Calls Tryz.prog 98 #[orV o] w fun r w' => r = .returned (orV o) ∧ Below w.heap.size w w' := toOrder_any o w
set_option maxHeartbeats 1000000 in
theorem orEq_same (o : M.Or) (w : World) :
    Calls Tryz.prog 146 #[orV o, orV o] w fun r w' => r = .returned (.bool true) ∧ Below w.heap.size w w' := by
  have h1 : (o.client != o.client) = false := by simp
  have h2 : (o.seq != o.seq) = false := by simp
  have b0 := ((Below.refl w.heap.size w).alloc (Nat.le_refl _) (.cells (orC o) 41)).alloc (by simp) (.cells (orC o) 41)
  go_enter Tryz.func146, Tryz.ntmps146
  go_wp2_with fail
  refine (eqDeed_same o.deed _).mono ?_
  rintro r w1 ⟨rfl, b1⟩
  go_wp2
  go_ret
  exact ⟨rfl, next b0 b1⟩
end Go.Proofs.YtblcgbgcccjpcaaGreat
namespace Go.Proofs.YtblcgbgcccjpcaaGreat
open Go.RowKit
set_option maxRecDepth 20000
set_option maxHeartbeats 1000000 in
theorem enSz_small (e : M.En) (n : Int) (w : World) (h1 : n ≤ 1048576) (h : ((e.order.deed.name.size + e.order.deed.page.size : Nat) : Int) ≤ n) :
    Calls Tryz.prog 43 #[enV e, .int .i64 n] w fun r w' => r = .returned (.int .i64 (n - ((e.order.deed.name.size + e.order.deed.page.size : Nat) : Int))) ∧ Below w.heap.size w w' := by
  have b0 := (Below.refl w.heap.size w).alloc (Nat.le_refl _) (.cells (enC e) 93)
  have h0 : 0 ≤ n - ((e.order.deed.name.size + e.order.deed.page.size : Nat) : Int) := by omega
  go_enter Tryz.func43, Tryz.ntmps43
  go_wp2_with fail
  refine (orSz_small e.order n _ h1 h).mono ?_
  rintro r w1 ⟨rfl, b1⟩
  go_wp2
  go_ret
  exact ⟨rfl, next b0 b1⟩
set_option maxHeartbeats 1000000 in
theorem enSz_big (e : M.En) (n : Int) (w : World) (h0 : 0 ≤ n) (h1 : n ≤ 1048576) (hp : enIn maxLen e) (h : n < ((e.order.deed.name.size + e.order.deed.page.size : Nat) : Int)) :
    Calls Tryz.prog 43 #[enV e, .int .i64 n] w fun r w' => r = .returned (.int .i64 (-1)) ∧ Below w.heap.size w w' := by
  have b0 := (Below.refl w.heap.size w).alloc (Nat.le_refl _) (.cells (enC e) 93)
  go_enter Tryz.func43, Tryz.ntmps43
  go_wp2_with fail
  refine (orSz_big e.order n _ h0 h1 hp h).mono ?_
  rintro r w1 ⟨rfl, b1⟩
  go_wp2
  go_ret
  exact ⟨rfl, next b0 b1⟩
set_option maxHeartbeats 4000000 in
theorem enTo_any (e : M.En) (w : World) :
    Calls Tryz.prog 45 #[enV e] w fun r w' => r = .returned (enV e) ∧ Below w.heap.size w w' := by
  go_enter Tryz.func45, Tryz.ntmps45
  go_wp2_with fail
  refine (toOrder_at e.order _).mono ?_
  rintro r w1 ⟨rfl, rfl⟩
  go_wp2
  refine bodyPost_ret (v := enV e) (by simp [results, Tryz.results45, go_sem]) rfl ⟨rfl, ?_⟩
  repeat (first | exact Below.refl _ _ | refine Below.alloc ?_ (by simp <;> omega) _)
set_option maxHeartbeats 1000000 in
theorem enEq_same (e : M.En) (w : World) :
    Calls Tryz.prog 105 #[enV e, enV e] w fun r w' => r = .returned (.bool true) ∧ Below w.heap.size w w' := by
  have h1 : (e.reign != e.reign) = false := by simp
  have b0 := ((Below.refl w.heap.size w).alloc (Nat.le_refl _) (.cells (enC e) 70)).alloc (by simp) (.cells (enC e) 70)
  go_enter Tryz.func105, Tryz.ntmps105
  go_wp2_with fail
  refine (orEq_same e.order _).mono ?_
  rintro r w1 ⟨rfl, b1⟩
  go_wp2
  go_ret
  exact ⟨rfl, next b0 b1⟩
end Go.Proofs.YtblcgbgcccjpcaaGreat
namespace Go.Proofs.YtblcgbgcccjpcaaGreat
open Go.RowKit
set_option maxRecDepth 20000
def lamk (k : Nat) : M.La := ⟨(k : Int), (k : Int) + 1, (k : Int) + 1 + 1, markB (k + 3)⟩
def lamks (k : Nat) (j : Nat) : List M.La := (List.range j).map fun i => lamk (k + 4 * i)
theorem lamks_len (k j : Nat) : (lamks k j).length = j := by simp [lamks]
theorem lamks_succ (k j : Nat) : lamks k (j + 1) = lamks k j ++ [lamk (k + 4 * j)] := by simp [lamks, List.range_succ]
theorem lamks_at (k j n : Nat) (h : j < n) : (lamks k n)[j]'(by rw [lamks_len]; exact h) = lamk (k + 4 * j) := by simp [lamks]
set_option maxHeartbeats 4000000 in
theorem lamark_any (g : Nat) (l : List M.La) (cap k : Nat) (B : Nat) (w : World) (ho : LasOwn B w (.slice (some ⟨g, 0, none⟩) l.length cap) l) (hk0 : 0 < k) (hk : k + 4 * l.length ≤ 20000000) :
    Calls Tryz.prog 102 #[.slice (some ⟨g, 0, none⟩) l.length cap, .int .i64 k] w fun r w' => r = .returned (.int .i64 (k + 4 * l.length : Nat)) ∧ LasOwn B w' (.slice (some ⟨g, 0, none⟩) l.length cap) (lamks k l.length) ∧ Touch g w w' := by
  go_enter Tryz.func102, Tryz.ntmps102
  go_wp2
  go_loopw [1, 5] (fun x i wr => ∃ j : Nat, i = .int .i64 j ∧ j ≤ l.length ∧ x = .int .i64 (k + 4 * j : Nat) ∧ LasOwn B wr (.slice (some ⟨g, 0, none⟩) l.length cap) (lamks k j ++ l.drop j) ∧ Touch g w wr) (fun _ i _ => l.length - (intOf i).toNat)
  case atStart => exact ⟨0, rfl, Nat.zero_le _, by simp, by simpa [lamks] using ho, Touch.refl _ _⟩
  case round =>
    obtain ⟨j, rfl, hj, rfl, hown, ht⟩ := hrel
    by_cases hlt : j < l.length
    · obtain ⟨K, hK⟩ : ∃ K, k + 4 * j = K := ⟨_, rfl⟩
      have hlen2 : (lamks k j ++ l.drop j).length = l.length := by rw [List.length_append, lamks_len, List.length_drop]; omega
      have hown2 : wr.ownsRow B 59 4 (.slice (some ⟨g, 0, none⟩) l.length cap) l.length (cellsOf laL (lamks k j) ++ (laL l[j] ++ cellsOf laL (l.drop (j + 1)))) := by
        have h := hown
        unfold LasOwn at h
        rw [hlen2, cellsOf_append, List.drop_eq_getElem_cons hlt] at h
        exact h
      have hz : j * 4 = (cellsOf laL (lamks k j)).length := by rw [cellsOf_len laL_len, lamks_len]
      simp only [laL, List.cons_append, List.nil_append] at hown2
      obtain ⟨⟨c0, c1, c2, c3⟩, f0, f1, f2, f3⟩ := own_cellsLas hown2 hz
      have hgl : g < wr.heap.size := World.block_lt_of_cell? wr _ c0
      have hK1 : 0 < K := by omega
      have hK2 : K < 20000000 := by omega
      have HO0 := Lib.hid hown2
      have HZ := Lib.hid hz
      have HK := Lib.hid hK
      rw [hK]
      clear ho hown hown2 hz hlen2
      go_wp2_with fail
      refine (markText_at _ (K + 3) (by omega) (by omega) (by omega) _).mono ?_
      rintro r v1 ⟨rfl, b2⟩
      have ho2 := Own.below (((((((HO0.out).stored (j * 4) (.int .i64 ((K : Int))))).1.stored (j * 4 + 1) (.int .i64 ((K : Int) + 1)))).1.stored (j * 4 + 2) (.int .i64 ((K : Int) + 1 + 1))).1) b2
      have ht1 := (((((((ht).set (j * 4) (.int .i64 ((K : Int))))).set (j * 4 + 1) (.int .i64 ((K : Int) + 1)))).set (j * 4 + 2) (.int .i64 ((K : Int) + 1 + 1)))).below (by simpa using hgl) b2
      have hg1 : g < v1.heap.size := Nat.lt_of_lt_of_le (by simpa using hgl) b2.size
      have hlt5 : j * 4 + 3 < l.length * 4 := by omega
      have d0_3 : v1.cell? ⟨g, j * 4 + 3, none⟩ = some (.string l[j].page) := by
        rw [ho2.cellAt _ (by omega), HZ.out]; simp
      have e0_3 := ho2.frozenAt (j * 4 + 3)
      have HO1 := Lib.hid ho2
      clear c0 c1 c2 c3 f0 f1 f2 f3 ho2 HO0 b2 hK hlt5
      go_wp2
      go_roundw
      case rel =>
        refine ⟨j + 1, by go_num, by omega, congrArg (Value.int .i64) (by rw [← HK.out]; omega), ?_, ((ht1).set (j * 4 + 3) (.string (markB (K + 3))))⟩
        have h5 := ((HO1.out).stored (j * 4 + 3) (.string (markB (K + 3)))).1
        rw [setLas (hn := HZ.out)] at h5
        have hl3 : (lamks k (j + 1) ++ l.drop (j + 1)).length = l.length := by rw [List.length_append, lamks_len, List.length_drop]; omega
        unfold LasOwn
        rw [hl3, cellsOf_append, lamks_succ, cellsOf_append, HK.out, List.append_assoc]
        exact h5
      case measure => simp [intOf]; omega
    · have hj' : j = l.length := by omega
      subst hj'
      rw [List.drop_length, List.append_nil] at hown
      have HO := Lib.hid hown
      clear ho hown
      go_wp2
      go_ret
      exact ⟨rfl, by have h := HO.out; unfold LasOwn at h ⊢; exact h, ht⟩

set_option maxHeartbeats 1000000 in
theorem lamark_none (A : Option Addr) (cap k : Nat) (w : World) :
    Calls Tryz.prog 102 #[.slice A 0 cap, .int .i64 k] w fun r w' => r = .returned (.int .i64 k) ∧ w = w' := by
  go_enter Tryz.func102, Tryz.ntmps102
  go_wp2
  go_loop [1, 5] (fun x i => x = .int .i64 k ∧ i = .int .i64 0) (fun _ _ => 0)
  case atStart => exact ⟨rfl, rfl⟩
  case round =>
    obtain ⟨rfl, rfl⟩ := hrel
    go_wp2
    go_ret
    exact ⟨rfl, rfl⟩
theorem lamark_own (A : Option Addr) (l : List M.La) (cap k : Nat) (B : Nat) (w : World) (ho : LasOwn B w (.slice A l.length cap) l) (hk0 : 0 < k) (hk : k + 4 * l.length ≤ 20000000) :
    Calls Tryz.prog 102 #[.slice A l.length cap, .int .i64 k] w fun r w' => r = .returned (.int .i64 (k + 4 * l.length : Nat)) ∧ LasOwn B w' (.slice A l.length cap) (lamks k l.length) ∧ TouchO (Value.slice A l.length cap).ownBlock w w' := by
  have ho' := ho
  obtain ⟨hl, ⟨h0, hz⟩ | ⟨g, cap', cur, hv, _⟩⟩ := ho'
  · have hl : l = [] := List.length_eq_zero_iff.1 hz
    subst hl
    injection h0 with hA _ hc
    subst hA hc
    refine (lamark_none none 0 k w).mono ?_
    rintro r w' ⟨rfl, rfl⟩
    exact ⟨rfl, World.ownsRow_nil _ _ _ _, Nat.le_refl _, fun B' hB _ => Below.refl _ _, fun k hk _ => rfl⟩
  · injection hv with hA _ _
    subst hA
    refine (lamark_any g l cap k B w ho hk0 hk).mono ?_
    rintro r w' ⟨rfl, ho', ht⟩
    exact ⟨rfl, ho', ht.size, fun B' _ hB => ht.low B' (hB g rfl), fun k hk hne => ht.block k hk (fun e => hne (by rw [e]; rfl))⟩

set_option maxHeartbeats 4000000 in
theorem laheld_any (A : Option Addr) (n cap k : Nat) (w : World) (hl : Las w A (lamks k n)) (hk0 : 0 < k) (hk : k + 4 * n ≤ 20000000) :
    Calls Tryz.prog 104 #[.slice A n cap, .int .i64 k] w fun r w' => r = .returned (.int .i64 (k + 4 * n : Nat)) ∧ Below w.heap.size w w' := by
  go_enter Tryz.func104, Tryz.ntmps104
  go_wp2
  go_loopw [1, 5] (fun x i wr => ∃ j : Nat, i = .int .i64 j ∧ j ≤ n ∧ x = .int .i64 (k + 4 * j : Nat) ∧ Below w.heap.size w wr) (fun _ i _ => n - (intOf i).toNat)
  case atStart => exact ⟨0, rfl, Nat.zero_le _, by simp, Below.refl _ _⟩
  case round =>
    obtain ⟨j, rfl, hj, rfl, hb⟩ := hrel
    by_cases hlt : j < n
    · obtain ⟨kk, hK⟩ : ∃ kk, k + 4 * j = kk := ⟨_, rfl⟩
      obtain ⟨b, o, rfl, zb, c0, c1, c2, c3⟩ := Las_at (hl.below hb) (i := j) (by rw [lamks_len]; exact hlt)
      rw [lamks_at k j n hlt, hK] at c0 c1 c2 c3
      have hK1 : 0 < kk := by omega
      have hK2 : kk < 20000000 := by omega
      have HL := Lib.hid hl
      have HK := Lib.hid hK
      rw [hK]
      clear hl hK
      simp only [lamk] at c0 c1 c2 c3
      have e0 : ((kk : Int) != (kk : Int)) = false := by simp
      have e1 : ((kk : Int) + 1 != (kk : Int) + 1) = false := by simp
      have e2 : ((kk : Int) + 1 + 1 != (kk : Int) + 1 + 1) = false := by simp
      go_wp2_with fail
      refine wp_region_seq (fun w' => Below wr.heap.size wr w') [(0, true), (1, true), (2, true), (3, true), (4, true), (5, true), (6, true), (7, false), (8, true)] (by kernel_rfl) (by kernel_rfl) (fun _ _ _ _ _ h => h) (by kernel_rfl) (by decide) (Below.refl _ _).drew ?_
      intro hHeld
      repeat (first
        | (refine seq_skip (by simp only [List.getElem?_toArray, List.getElem?_cons_succ, List.getElem?_cons_zero]; first | done | rfl) (by rfl) ?_; (try simp only [Act.put, List.setIfInBounds_toArray, List.set_cons_zero, List.set_cons_succ]))
        | (refine seq_reads (by simp only [List.getElem?_toArray, List.getElem?_cons_succ, List.getElem?_cons_zero]; first | done | rfl) (by rfl) ?_; apply Exists.intro; apply And.intro; (focus (intro w hSw; obtain ⟨hcS, -⟩ := bcell hSw; go_simp; (try with_reducible rfl); done)); (try simp only [Act.put, List.setIfInBounds_toArray, List.set_cons_zero, List.set_cons_succ]))
        | (refine seq_pass (by simp only [List.getElem?_toArray, List.getElem?_cons_succ, List.getElem?_cons_zero]; first | done | rfl) (by rfl) hHeld ?_; clear hHeld; intro hHeld; (try simp only [Act.put, List.setIfInBounds_toArray, List.set_cons_zero, List.set_cons_succ]))
        | (refine seq_call (by simp only [List.getElem?_toArray, List.getElem?_cons_succ, List.getElem?_cons_zero]; first | done | rfl) (by rfl) (fun K hK => ?_); go_simp; go_at_call 106; refine (markText_at _ (kk + 3) (by omega) (by omega) (by omega) _).mono ?_; rintro r v0 ⟨rfl, b1⟩; go_simp; refine hK.out _ _ (next hHeld b1) ?_; clear hK hHeld; intro hHeld; (try simp only [Act.put, List.setIfInBounds_toArray, List.set_cons_zero, List.set_cons_succ])))
      refine seq_end ?_
      have e3 : ((markB (kk + 3)).toList != (markB (kk + 3)).toList) = false := by simp
      have bb0 := next hb hHeld
      have zb0 := Nat.lt_of_lt_of_le zb hHeld.size
      clear c0 c1 c2 c3 hHeld
      go_wp2
      go_roundw
      case rel => exact ⟨j + 1, by go_num, by omega, congrArg (Value.int .i64) (by rw [← HK.out]; omega), bb0⟩
      case measure => simp [intOf]; omega
    · have hj' : j = n := by omega
      subst hj'
      go_wp2
      go_ret
      exact ⟨rfl, hb⟩
end Go.Proofs.YtblcgbgcccjpcaaGreat
namespace Go.Proofs.YtblcgbgcccjpcaaGreat
open Go.RowKit
set_option maxRecDepth 20000
theorem TouchS.thenS {S T : Nat → Prop} {w w1 w2 : World} (h : TouchS S w w1) (h2 : TouchS T w1 w2) (hT : ∀ g, T g → S g) : TouchS S w w2 :=
  ⟨Nat.le_trans h.size h2.size, fun B hB hS => (h.low B hB hS).trans (h2.low B (Nat.le_trans hB h.size) (fun g hg => hS g (hT g hg))), fun k hk hne => (h2.block k (Nat.lt_of_lt_of_le hk h.size) (fun e => hne (hT k e))).trans (h.block k hk hne)⟩
/-- The blocks of a book. -/
def blocksB (v1 v2 : Value) (l : List Wr) (g : Nat) : Prop := blocksS v1 l g ∨ v2.ownBlock = some g
set_option maxHeartbeats 4000000 in
theorem markBook_any (A : Option Addr) (l : List Wr) (c : Nat) (A2 : Option Addr) (m : List M.La) (c2 k B : Nat) (w : World) (hs : SfOwn B w (.slice A l.length c) l) (hla : LasOwn B w (.slice A2 m.length c2) m) (hap : ∀ g, (Value.slice A2 m.length c2).ownBlock = some g → ¬ blocksS (.slice A l.length c) l g) (hlen : l.length ≤ 2000000) (hk0 : 0 < k) (hk : k + mlen l + 4 * m.length ≤ 20000000) :
    Calls Tryz.prog 48 #[bkV A l.length c A2 m.length c2, .int .i64 k] w fun r w' => r = .returned (.int .i64 (k + mlen l + 4 * m.length : Nat)) ∧ SfOwn B w' (.slice A l.length c) (mrows k l) ∧ LasOwn B w' (.slice A2 m.length c2) (lamks (k + mlen l) m.length) ∧ TouchS (blocksB (.slice A l.length c) (.slice A2 m.length c2) l) w w' := by
  have b0 := (Below.refl w.heap.size w).alloc (Nat.le_refl _) (.cells (bkA A l.length c A2 m.length c2) 27)
  have h0 := holds_new w (bkA A l.length c A2 m.length c2) 27
  have HS := Lib.hid hs
  have HLA := Lib.hid hla
  have HAP := Lib.hid hap
  have HB0 := Lib.hid b0
  clear hs hla hap b0
  go_enter Tryz.func48, Tryz.ntmps48
  go_wp2_with fail
  refine (markWorkS_any A l c k B _ (HS.out.below HB0.out) hlen hk0 (by omega)).mono ?_
  rintro r w1 ⟨rfl, o1, t1⟩
  replace h0 := t1.holds h0 (fun hg => by have := (HS.out.ge hg).2; omega)
  have ho2 : LasOwn B w1 (.slice A2 m.length c2) m := t1.row (LasOwn.below HLA.out HB0.out) (fun g hg => HAP.out g hg)
  obtain ⟨k0, k1⟩ := h0.two
  have z0 := h0.1
  have HO1 := Lib.hid o1
  have HO2 := Lib.hid ho2
  have HT1 := Lib.hid t1
  clear o1 ho2 t1 h0
  go_wp2_with fail
  refine (lamark_own A2 m c2 (k + mlen l) B _ HO2.out (by omega) (by omega)).mono ?_
  rintro r w2 ⟨rfl, o2, t2⟩
  have HT2 := Lib.hid ((TouchS.refl (fun g => (Value.slice A2 m.length c2).ownBlock = some g) w1).then t2 (fun g hg => hg))
  have HO2 := Lib.hid o2
  clear o2 t2 k0 k1 z0
  go_wp2
  go_ret
  exact ⟨rfl, HT2.out.sf HO1.out (fun g hg e => HAP.out g e (blocks_mrows.1 hg)), HO2.out, (((TouchS.refl _ w).below HB0.out).thenS HT1.out (fun g hg => .inl hg)).thenS HT2.out (fun g hg => .inr hg)⟩
set_option maxHeartbeats 4000000 in
theorem heldBook_any (A : Option Addr) (l : List Wr) (c : Nat) (A2 : Option Addr) (n c2 k : Nat) (w : World) (hl : Wks w A (mrows k l)) (hm : Las w A2 (lamks (k + mlen l) n)) (hlen : l.length ≤ 2000000) (hk0 : 0 < k) (hk : k + mlen l + 4 * n ≤ 20000000) :
    Calls Tryz.prog 49 #[bkV A l.length c A2 n c2, .int .i64 k] w fun r w' => r = .returned (.int .i64 (k + mlen l + 4 * n : Nat)) ∧ Below w.heap.size w w' := by
  have b0 := (Below.refl w.heap.size w).alloc (Nat.le_refl _) (.cells (bkA A l.length c A2 n c2) 27)
  have h0 := holds_new w (bkA A l.length c A2 n c2) 27
  have HL := Lib.hid hl
  have HM := Lib.hid hm
  clear hl hm
  go_enter Tryz.func49, Tryz.ntmps49
  go_wp2_with fail
  refine (heldWorkS_any A l c k _ (HL.out.below b0) hk0 (by omega) hlen).mono ?_
  rintro r w1 ⟨rfl, b1⟩
  replace h0 := h0.below b1
  replace b0 := next b0 b1
  obtain ⟨k0, k1⟩ := h0.two
  have z0 := h0.1
  obtain ⟨q, hq⟩ : ∃ q : Nat, k + mlen l = q := ⟨_, rfl⟩
  rw [hq]
  rw [hq] at hk
  have HQ := Lib.hid hq
  have hneg : ¬ ((q : Int) < 0) := by omega
  clear hq b1
  go_wp2_with fail
  refine (laheld_any A2 n c2 q _ (by have h := HM.out; rw [HQ.out] at h; exact h.below b0) (by have := HQ.out; omega) hk).mono ?_
  rintro r w2 ⟨rfl, b2⟩
  obtain ⟨p, hp⟩ : ∃ p : Nat, q + 4 * n = p := ⟨_, rfl⟩
  rw [hp]
  have hneg2 : ¬ ((p : Int) < 0) := by omega
  have HP := Lib.hid hp
  clear hp
  go_wp2
  go_ret
  exact ⟨ret_int (by rw [HQ.out, HP.out]), next b0 b2⟩
end Go.Proofs.YtblcgbgcccjpcaaGreat
namespace Go.Proofs.YtblcgbgcccjpcaaGreat
open Go.RowKit

set_option maxHeartbeats 1000000 in
theorem szWorkS_small (A : Option Addr) (l : List Wr) (cap : Nat) (n : Int) (w : World) (h1 : n ≤ 1048576) (hl : Wks w A l) (h : (l.length + szWrs l : Int) ≤ n) :
    Calls Tryz.prog 93 #[.slice A l.length cap, .int .i64 n] w fun r w' => r = .returned (.int .i64 (n - l.length - szWrs l)) ∧ Below w.heap.size w w' := by
  go_enter Tryz.func93, Tryz.ntmps93
  go_wp2
  go_loopw [1, 5] (fun x i wr => ∃ j : Nat, i = .int .i64 j ∧ j ≤ l.length ∧ x = .int .i64 (n - l.length - szWrs (l.take j)) ∧ Wks wr A l ∧ Below w.heap.size w wr) (fun _ i _ => l.length - (intOf i).toNat)
  case atStart => exact ⟨0, rfl, Nat.zero_le _, by simp [szWrs], hl, Below.refl _ _⟩
  case round =>
    obtain ⟨j, rfl, hj, rfl, hl', hb⟩ := hrel
    have hle := szWrs_take_le l j
    by_cases hlt : j < l.length
    · have hs := szWrs_take l j hlt
      have hle' := szWrs_take_le l (j + 1)
      have HS := Lib.hid hs
      have hp : (szWr l[j] : Int) ≤ n - l.length - szWrs (l.take j) := by omega
      have HP := Lib.hid hp
      clear hs hp
      obtain ⟨b, o, rfl, hbl, c0, c1, c2, hc⟩ := Wks_at hl' hlt
      have HC := Lib.hid hc
      clear hc
      go_wp2_with fail
      refine (szWork_small l[j].name l[j].owner l[j].ad l[j].cps l[j].cap _ _ (by omega) HC.out (by have := HP.out; unfold szWr at this; omega)).mono ?_
      rintro r w1 ⟨rfl, b1⟩
      have h0 : 0 ≤ n - (l.length : Int) - (szWrs (l.take j) : Int) - (l[j].name.size : Int) - (l[j].cps.length : Int) - (M.szPages l[j].cps : Int) := by have := HP.out; unfold szWr at this; omega
      go_wp2
      go_roundw
      case rel => exact ⟨j + 1, by go_num, by omega, by rw [HS.out]; unfold szWr; go_num, hl'.below b1, next hb b1⟩
      case measure => simp [intOf]; omega
    · have hj' : j = l.length := by omega
      subst hj'
      go_wp2
      go_ret
      exact ⟨ret_int (by rw [List.take_length]), hb⟩

set_option maxHeartbeats 1000000 in
theorem szWorkS_big (A : Option Addr) (l : List Wr) (cap : Nat) (n : Int) (w : World) (h0 : 0 ≤ n) (h1 : n ≤ 1048576) (hl : Wks w A l) (hlen : l.length ≤ maxLen) (hp : WrsIn maxLen l) (h : n < (l.length + szWrs l : Int)) :
    Calls Tryz.prog 93 #[.slice A l.length cap, .int .i64 n] w fun r w' => r = .returned (.int .i64 (-1)) ∧ Below w.heap.size w w' := by
  unfold maxLen at hlen
  by_cases hshort : n < l.length
  · go_enter Tryz.func93, Tryz.ntmps93
    go_wp2
    go_ret
    exact ⟨rfl, Below.refl _ _⟩
  · go_enter Tryz.func93, Tryz.ntmps93
    go_wp2
    go_loopw [1, 5] (fun x i wr => ∃ j : Nat, i = .int .i64 j ∧ j ≤ l.length ∧ (szWrs (l.take j) : Int) ≤ n - l.length ∧ x = .int .i64 (n - l.length - szWrs (l.take j)) ∧ Wks wr A l ∧ Below w.heap.size w wr) (fun _ i _ => l.length - (intOf i).toNat)
    case atStart => exact ⟨0, rfl, Nat.zero_le _, by simp [szWrs]; omega, by simp [szWrs], hl, Below.refl _ _⟩
    case round =>
      obtain ⟨j, rfl, hj, hle, rfl, hl', hb⟩ := hrel
      by_cases hlt : j < l.length
      · have HS := Lib.hid (szWrs_take l j hlt)
        have HPJ := Lib.hid (hp l[j] (List.getElem_mem hlt))
        obtain ⟨b, o, rfl, hbl, c0, c1, c2, hc⟩ := Wks_at hl' hlt
        have HC := Lib.hid hc
        clear hc
        by_cases hfit : (szWr l[j] : Int) ≤ n - l.length - szWrs (l.take j)
        · have HP := Lib.hid hfit
          clear hfit
          go_wp2_with fail
          refine (szWork_small l[j].name l[j].owner l[j].ad l[j].cps l[j].cap _ _ (by omega) HC.out (by have := HP.out; unfold szWr at this; omega)).mono ?_
          rintro r w1 ⟨rfl, b1⟩
          have h0 : 0 ≤ n - (l.length : Int) - (szWrs (l.take j) : Int) - (l[j].name.size : Int) - (l[j].cps.length : Int) - (M.szPages l[j].cps : Int) := by have := HP.out; unfold szWr at this; omega
          go_wp2
          go_roundw
          case rel => exact ⟨j + 1, by go_num, by omega, by have := HP.out; rw [HS.out]; simp; omega, by rw [HS.out]; unfold szWr; go_num, hl'.below b1, next hb b1⟩
          case measure => simp [intOf]; omega
        · have HP : Hid (n - l.length - szWrs (l.take j) < (szWr l[j] : Int)) := Lib.hid (by omega)
          clear hfit
          go_wp2_with fail
          refine (szWork_big l[j].name l[j].owner l[j].ad l[j].cps l[j].cap _ _ (by omega) (by omega) HC.out HPJ.out.1 HPJ.out.2.1 HPJ.out.2.2 (by have := HP.out; unfold szWr at this; omega)).mono ?_
          rintro r w1 ⟨rfl, b1⟩
          go_wp2
          go_ret
          exact ⟨rfl, next hb b1⟩
      · have hj' : j = l.length := by omega
        subst hj'
        rw [List.take_length] at hle
        omega
end Go.Proofs.YtblcgbgcccjpcaaGreat
namespace Go.Proofs.YtblcgbgcccjpcaaGreat
open Go.RowKit
set_option maxRecDepth 20000

theorem wk_at {l m : List Wr} (h : l.map Wr.wk = m.map Wr.wk) {j : Nat} (hl : j < l.length) (hm : j < m.length) : l[j].name = m[j].name ∧ l[j].owner = m[j].owner ∧ l[j].cps = m[j].cps := by
  have h1 : (l.map Wr.wk)[j]'(by simpa using hl) = (m.map Wr.wk)[j]'(by simpa using hm) := by simp only [h]
  simp only [List.getElem_map, Wr.wk] at h1
  injection h1 with a b c
  exact ⟨a, b, c⟩

set_option maxHeartbeats 1000000 in
theorem eqWorkS_same (A B : Option Addr) (l m : List Wr) (ca cb : Nat) (w : World) (ha : Wks w A l) (hb : Wks w B m) (he : l.map Wr.wk = m.map Wr.wk) (hlen : l.length ≤ maxLen) (hp : WrsIn maxLen l) :
    Calls Tryz.prog 99 #[.slice A l.length ca, .slice B m.length cb] w fun r w' => r = .returned (.bool true) ∧ Below w.heap.size w w' := by
  have hml : m.length = l.length := by have := congrArg List.length he; simpa using this.symm
  rw [hml]
  unfold maxLen at hlen
  have HP := Lib.hid hp
  have HM := Lib.hid hml
  have HE := Lib.hid he
  clear hp hml he
  have he : ((l.length : Int) != (l.length : Int)) = false := by simp
  go_enter Tryz.func99, Tryz.ntmps99
  go_wp2
  go_loopw [5] (fun i wr => ∃ j : Nat, i = .int .i64 j ∧ j ≤ l.length ∧ Below w.heap.size w wr) (fun i _ => l.length - (intOf i).toNat)
  case atStart => exact ⟨0, rfl, Nat.zero_le _, Below.refl _ _⟩
  case round =>
    obtain ⟨j, rfl, hj, hbl⟩ := hrel
    by_cases hlt : j < l.length
    · have hltm : j < m.length := by have := HM.out; omega
      obtain ⟨b, o, rfl, _, c0, c1, c2, hc⟩ := Wks_at (ha.below hbl) hlt
      obtain ⟨b', o', rfl, _, d0, d1, d2, hd⟩ := Wks_at (hb.below hbl) hltm
      obtain ⟨e1, e2, e3⟩ := wk_at HE.out hlt hltm
      rw [← e1] at d0
      rw [← e2] at d1
      rw [← e3] at d2 hd
      have HA := Lib.hid ha
      have HB := Lib.hid hb
      have HC := Lib.hid hc
      have HD := Lib.hid hd
      clear ha hb hc hd e1 e2 e3
      go_wp2_with fail
      go_still_tail 8, (by kernel_rfl)
      change wpList _ _ _ _ _ wr.drew
      go_wp2_with fail
      refine (eqWork_same l[j].name l[j].owner l[j].ad m[j].ad l[j].cps l[j].cap m[j].cap _ (show Cps wr.drew _ _ from HC.out) (show Cps wr.drew _ _ from HD.out) (HP.out _ (List.getElem_mem hlt)).2.1).mono ?_
      rintro r w1 ⟨rfl, b1⟩
      go_wp2
      go_roundw
      case rel => exact ⟨j + 1, by go_num, by omega, next hbl.drew b1⟩
      case measure => simp [intOf]; omega
    · have hj' : j = l.length := by omega
      subst hj'
      go_wp2
      go_ret
      exact ⟨rfl, hbl⟩
end Go.Proofs.YtblcgbgcccjpcaaGreat
