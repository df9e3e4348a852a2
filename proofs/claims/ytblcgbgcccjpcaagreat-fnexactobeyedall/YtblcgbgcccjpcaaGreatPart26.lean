/- Proved, in parts: Proved: three stores into a row of works put another work at a place; the rest of the shelf is as it was. Condition: the new work's list lies in a block of its own. Proved: the laws' helper that writes marks into a list of works writes nothing but that list, and leaves the marks there. Condition: at most a million works and copies. -/
import Derived.Test.YtblcgbgcccjpcaaGreatPart09
import Derived.Test.YtblcgbgcccjpcaaGreatPart17
import Derived.Test.YtblcgbgcccjpcaaGreatPart25
namespace Go.Proofs.YtblcgbgcccjpcaaGreat
open Go.RowKit

theorem cells_parts {l : List Wr} {k : Nat} (hk : k < l.length) : cellsOf wrL l = cellsOf wrL (l.take k) ++ (Value.string l[k].name :: .int .i64 l[k].owner :: l[k].sl :: cellsOf wrL (l.drop (k + 1))) := by
  have h : l = l.take k ++ (l[k] :: l.drop (k + 1)) := by
    rw [List.getElem_cons_drop, List.take_append_drop]
  have h2 : cellsOf wrL l = cellsOf wrL (l.take k ++ (l[k] :: l.drop (k + 1))) := by rw [← h]
  rw [h2, cellsOf_append]
  rfl
theorem cells_set {l : List Wr} {k : Nat} (hk : k < l.length) (r : Wr) : cellsOf wrL (l.set k r) = cellsOf wrL (l.take k) ++ (Value.string r.name :: .int .i64 r.owner :: r.sl :: cellsOf wrL (l.drop (k + 1))) := by
  rw [List.set_eq_take_append_cons_drop, if_pos hk, cellsOf_append]
  rfl
theorem apart_sym {a b : Value} (h : Apart a b) : Apart b a := by
  unfold Apart at h ⊢
  rcases hb : b.ownBlock with _ | k
  · exact .inl rfl
  · refine .inr fun e => ?_
    rcases h with h | h
    · rw [h] at e; cases e
    · exact h (by rw [hb, ← e])
/-- Where a shelf of one's own lies. -/
theorem SfOwn.at {B : Nat} {w : World} {v : Value} {l : List Wr} (h : SfOwn B w v l) (hne : 0 < l.length) : ∃ g c, v = .slice (some ⟨g, 0, none⟩) l.length c ∧ B ≤ g ∧ g < w.heap.size := by
  obtain ⟨g, cc, hv, hb, hg⟩ := World.ownsRow.form h.1 hne
  exact ⟨g, cc, hv, hb, hg⟩
theorem SfOwn.cellsK {B g c : Nat} {w : World} {l : List Wr} (h : SfOwn B w (.slice (some ⟨g, 0, none⟩) l.length c) l) {k : Nat} (hk : k < l.length) :
    (w.cell? ⟨g, k * 3, none⟩ = some (.string l[k].name) ∧ w.cell? ⟨g, k * 3 + 1, none⟩ = some (.int .i64 l[k].owner) ∧ w.cell? ⟨g, k * 3 + 2, none⟩ = some l[k].sl) ∧
    (w.frozen? ⟨g, k * 3, none⟩ = false ∧ w.frozen? ⟨g, k * 3 + 1, none⟩ = false ∧ w.frozen? ⟨g, k * 3 + 2, none⟩ = false) := by
  have h1 := h.1
  rw [cells_parts hk] at h1
  exact own_cells3 h1 (by rw [cellsOf_len wrL_len, List.length_take]; omega)
theorem SfOwn.setK {B g c : Nat} {w : World} {l : List Wr} (h : SfOwn B w (.slice (some ⟨g, 0, none⟩) l.length c) l) {k : Nat} (hk : k < l.length) (r : Wr) (ho : CpOwn B w r.sl r.cps) (hv : r.sl.ownBlock ≠ some g) (hap : ∀ i (hi : i < l.length), i ≠ k → Apart r.sl l[i].sl) :
    SfOwn B (((w.setCell ⟨g, k * 3, none⟩ (.string r.name)).setCell ⟨g, k * 3 + 1, none⟩ (.int .i64 r.owner)).setCell ⟨g, k * 3 + 2, none⟩ r.sl) (.slice (some ⟨g, 0, none⟩) l.length c) (l.set k r) := by
  have h1 := h.1
  rw [cells_parts hk] at h1
  have h2 := own_put3 (f0 := .string r.name) (f1 := .int .i64 r.owner) (f2 := r.sl) h1 (j := k * 3) (by rw [cellsOf_len wrL_len, List.length_take]; omega)
  rw [← cells_set hk] at h2
  have hb : (Value.slice (some ⟨g, 0, none⟩) l.length c).ownBlock = some g := rfl
  have hold : ∀ y ∈ l, y.sl.ownBlock ≠ some g := fun y hy e => by
    rcases h.2.2.1 y hy with h0 | h0
    · rw [h0] at e; cases e
    · exact h0 (e.trans hb.symm)
  have hne : ∀ y : Wr, y.sl.ownBlock ≠ some g → CpOwn B w y.sl y.cps → CpOwn B (((w.setCell ⟨g, k * 3, none⟩ (.string r.name)).setCell ⟨g, k * 3 + 1, none⟩ (.int .i64 r.owner)).setCell ⟨g, k * 3 + 2, none⟩ r.sl) y.sl y.cps := fun y hy ho => ((ho.apartN (a := ⟨g, k * 3, none⟩) hy _).apartN (a := ⟨g, k * 3 + 1, none⟩) hy _).apartN (a := ⟨g, k * 3 + 2, none⟩) hy _
  refine ⟨by rw [List.length_set]; exact h2, fun y hy => ?_, fun y hy => ?_, ?_⟩
  · rcases List.mem_or_eq_of_mem_set hy with hy | rfl
    · exact hne y (hold y hy) (h.2.1 y hy)
    · exact hne y hv ho
  · rcases List.mem_or_eq_of_mem_set hy with hy | rfl
    · exact h.2.2.1 y hy
    · exact .inr fun e => hv (e.trans hb)
  · rw [List.pairwise_iff_getElem]
    intro i j hi hj hij
    rw [List.length_set] at hi hj
    rw [List.getElem_set, List.getElem_set]
    by_cases e1 : k = i
    · rw [if_pos e1, if_neg (by omega)]
      exact hap j hj (by omega)
    · rw [if_neg e1]
      by_cases e2 : k = j
      · rw [if_pos e2]
        exact apart_sym (hap i hi (by omega))
      · rw [if_neg e2]
        exact (List.pairwise_iff_getElem.1 h.2.2.2) i j hi hj hij
theorem SfOwn.setOwner {B g c : Nat} {w : World} {l : List Wr} (h : SfOwn B w (.slice (some ⟨g, 0, none⟩) l.length c) l) {k : Nat} (hk : k < l.length) (o : Int) :
    SfOwn B (w.setCell ⟨g, k * 3 + 1, none⟩ (.int .i64 o)) (.slice (some ⟨g, 0, none⟩) l.length c) (l.set k { l[k] with owner := o }) := by
  have h1 := h.1
  rw [cells_parts hk] at h1
  have h2 := (h1.stored (k * 3 + 1) (.int .i64 o)).1
  have hlen : k * 3 = (cellsOf wrL (l.take k)).length := by rw [cellsOf_len wrL_len, List.length_take]; omega
  have hs : (cellsOf wrL (l.take k) ++ (Value.string l[k].name :: .int .i64 l[k].owner :: l[k].sl :: cellsOf wrL (l.drop (k + 1)))).set (k * 3 + 1) (.int .i64 o) = cellsOf wrL (l.set k { l[k] with owner := o }) := by
    rw [cells_set hk, hlen]
    simp
  rw [hs] at h2
  have hb : (Value.slice (some ⟨g, 0, none⟩) l.length c).ownBlock = some g := rfl
  have hold : ∀ y ∈ l, y.sl.ownBlock ≠ some g := fun y hy e => by
    rcases h.2.2.1 y hy with h0 | h0
    · rw [h0] at e; cases e
    · exact h0 (e.trans hb.symm)
  have hne : ∀ y ∈ l, CpOwn B (w.setCell ⟨g, k * 3 + 1, none⟩ (.int .i64 o)) y.sl y.cps := fun y hy => (h.2.1 y hy).apartN (a := ⟨g, k * 3 + 1, none⟩) (hold y hy) _
  have hkm : l[k] ∈ l := List.getElem_mem hk
  refine ⟨by rw [List.length_set]; exact h2, fun y hy => ?_, fun y hy => ?_, ?_⟩
  · rcases List.mem_or_eq_of_mem_set hy with hy | rfl
    · exact hne y hy
    · exact hne l[k] hkm
  · rcases List.mem_or_eq_of_mem_set hy with hy | rfl
    · exact h.2.2.1 y hy
    · exact h.2.2.1 l[k] hkm
  · rw [List.pairwise_iff_getElem]
    intro i j hi hj hij
    rw [List.length_set] at hi hj
    have hp := (List.pairwise_iff_getElem.1 h.2.2.2) i j hi hj hij
    rw [List.getElem_set, List.getElem_set]
    by_cases e1 : k = i
    · subst e1
      rw [if_pos rfl, if_neg (by omega)]
      exact hp
    · rw [if_neg e1]
      by_cases e2 : k = j
      · subst e2
        rw [if_pos rfl]
        exact hp
      · rw [if_neg e2]
        exact hp
theorem own_far {B g : Nat} {w : World} {t : TypeId} {kk n : Nat} {v : Value} {C : List Value} (h : w.ownsRow B t kk v n C) (hg : v.ownBlock ≠ some g) (i : Nat) (u : Value) : (w.setCell ⟨g, i, none⟩ u).ownsRow B t kk v n C := by
  obtain ⟨hl, h0 | ⟨k, cap, cur, rfl, hb, hh, hr⟩⟩ := h
  · exact ⟨hl, .inl h0⟩
  · exact ⟨hl, .inr ⟨k, cap, cur, rfl, hb, (Below.heap_setCell _ _ _ _ (fun e => hg (congrArg some (show k = g from e)))).trans hh, hr⟩⟩
theorem SfOwn.far {B g : Nat} {w : World} {v : Value} {l : List Wr} (h : SfOwn B w v l) (hv : v.ownBlock ≠ some g) (hr : ∀ r ∈ l, r.sl.ownBlock ≠ some g) (i : Nat) (u : Value) : SfOwn B (w.setCell ⟨g, i, none⟩ u) v l :=
  ⟨own_far h.1 hv i u, fun r hm => own_far (h.2.1 r hm) (hr r hm) i u, h.2.2⟩
end Go.Proofs.YtblcgbgcccjpcaaGreat
namespace Go.Proofs.YtblcgbgcccjpcaaGreat
open Go.RowKit
set_option maxRecDepth 20000

/-- The blocks of S alone, of all that was there, may have changed. -/
structure TouchS (S : Nat → Prop) (w w' : World) : Prop where
  size : w.heap.size ≤ w'.heap.size
  low : ∀ B, B ≤ w.heap.size → (∀ g, S g → B ≤ g) → Below B w w'
  block : ∀ k, k < w.heap.size → ¬ S k → w'.heap[k]? = w.heap[k]?
theorem TouchS.refl (S : Nat → Prop) (w : World) : TouchS S w w := ⟨Nat.le_refl _, fun _ _ _ => Below.refl _ _, fun _ _ _ => rfl⟩
theorem TouchS.below {S : Nat → Prop} {w w1 w2 : World} (h : TouchS S w w1) (hb : Below w1.heap.size w1 w2) : TouchS S w w2 :=
  ⟨Nat.le_trans h.size hb.size, fun B hB hS => (h.low B hB hS).trans (hb.mono (Nat.le_trans hB h.size)), fun k hk hne => (hb.block k (Nat.lt_of_lt_of_le hk h.size)).trans (h.block k hk hne)⟩
theorem TouchS.set {S : Nat → Prop} {w w1 : World} {g : Nat} (h : TouchS S w w1) (hg : S g) (j : Nat) (v : Value) : TouchS S w (w1.setCell ⟨g, j, none⟩ v) :=
  ⟨by simpa using h.size, fun B hB hS => (h.low B hB hS).setCell (hS g hg) v, fun k hk hne => (Below.heap_setCell _ _ _ _ (fun e => hne (by rw [show k = g from e]; exact hg))).trans (h.block k hk hne)⟩
theorem TouchS.then {S : Nat → Prop} {w w1 w2 : World} {row : Option Nat} (h : TouchS S w w1) (ht : TouchO row w1 w2) (hr : ∀ g, row = some g → S g) : TouchS S w w2 :=
  ⟨Nat.le_trans h.size ht.size, fun B hB hS => (h.low B hB hS).trans (ht.low B (Nat.le_trans hB h.size) (fun g hg => hS g (hr g hg))), fun k hk hne => (ht.block k (Nat.lt_of_lt_of_le hk h.size) (fun e => hne (hr k e.symm))).trans (h.block k hk hne)⟩
theorem TouchS.holds {S : Nat → Prop} {k : Nat} {w w1 : World} {C : Array Value} (h : TouchS S w w1) (hC : Holds w k C) (hk : ¬ S k) : Holds w1 k C :=
  ⟨Nat.lt_of_lt_of_le hC.1 h.size, fun j v hj => (World.cell?_of_block (a := ⟨k, j, none⟩) (h.block k hC.1 hk)).trans (hC.2 j v hj)⟩
theorem TouchS.row {S : Nat → Prop} {B : Nat} {w w1 : World} {t : TypeId} {kk n : Nat} {v : Value} {C : List Value} (h : TouchS S w w1) (ho : w.ownsRow B t kk v n C) (hne : ∀ g, v.ownBlock = some g → ¬ S g) : w1.ownsRow B t kk v n C := by
  obtain ⟨hl, h0 | ⟨k, cap, cur, rfl, hb, hh, hr⟩⟩ := ho
  · exact ⟨hl, .inl h0⟩
  · have hk := hne k rfl
    have hlt : k < w.heap.size := (Array.getElem?_eq_some_iff.1 hh).1
    exact ⟨hl, .inr ⟨k, cap, cur, rfl, hb, (h.block k hlt hk).trans hh, hr⟩⟩
theorem TouchS.own {S : Nat → Prop} {B : Nat} {w w1 : World} {v : Value} {l : List M.Cp} (h : TouchS S w w1) (ho : CpOwn B w v l) (hne : ∀ g, v.ownBlock = some g → ¬ S g) : CpOwn B w1 v l := h.row ho hne
/-- The blocks of a list of works. -/
def blocksS (v : Value) (l : List Wr) (g : Nat) : Prop := v.ownBlock = some g ∨ ∃ r ∈ l, r.sl.ownBlock = some g
theorem TouchS.sf {S : Nat → Prop} {B : Nat} {w w1 : World} {v : Value} {l : List Wr} (h : TouchS S w w1) (ho : SfOwn B w v l) (hne : ∀ g, blocksS v l g → ¬ S g) : SfOwn B w1 v l :=
  ⟨h.row ho.1 (fun g hg => hne g (.inl hg)), fun r hr => h.own (ho.2.1 r hr) (fun g hg => hne g (.inr ⟨r, hr, hg⟩)), ho.2.2⟩
theorem SfOwn.ge {B : Nat} {w : World} {v : Value} {l : List Wr} (h : SfOwn B w v l) {g : Nat} (hg : blocksS v l g) : B ≤ g ∧ g < w.heap.size := by
  rcases hg with hg | ⟨r, hr, hg⟩
  · exact World.ownsRow.lt h.1 g hg
  · exact (h.2.1 r hr).lt g hg

theorem SfOwn.setName {B g c : Nat} {w : World} {l : List Wr} (h : SfOwn B w (.slice (some ⟨g, 0, none⟩) l.length c) l) {k : Nat} (hk : k < l.length) (o : ByteArray) :
    SfOwn B (w.setCell ⟨g, k * 3, none⟩ (.string o)) (.slice (some ⟨g, 0, none⟩) l.length c) (l.set k { l[k] with name := o }) := by
  have h1 := h.1
  rw [cells_parts hk] at h1
  have h2 := (h1.stored (k * 3) (.string o)).1
  have hlen : k * 3 = (cellsOf wrL (l.take k)).length := by rw [cellsOf_len wrL_len, List.length_take]; omega
  have hs : (cellsOf wrL (l.take k) ++ (Value.string l[k].name :: .int .i64 l[k].owner :: l[k].sl :: cellsOf wrL (l.drop (k + 1)))).set (k * 3) (.string o) = cellsOf wrL (l.set k { l[k] with name := o }) := by
    rw [cells_set hk, hlen]
    simp
  rw [hs] at h2
  have hb : (Value.slice (some ⟨g, 0, none⟩) l.length c).ownBlock = some g := rfl
  have hold : ∀ y ∈ l, y.sl.ownBlock ≠ some g := fun y hy e => by
    rcases h.2.2.1 y hy with h0 | h0
    · rw [h0] at e; cases e
    · exact h0 (e.trans hb.symm)
  have hne : ∀ y ∈ l, CpOwn B (w.setCell ⟨g, k * 3, none⟩ (.string o)) y.sl y.cps := fun y hy => (h.2.1 y hy).apartN (a := ⟨g, k * 3, none⟩) (hold y hy) _
  have hkm : l[k] ∈ l := List.getElem_mem hk
  refine ⟨by rw [List.length_set]; exact h2, fun y hy => ?_, fun y hy => ?_, ?_⟩
  · rcases List.mem_or_eq_of_mem_set hy with hy | rfl
    · exact hne y hy
    · exact hne l[k] hkm
  · rcases List.mem_or_eq_of_mem_set hy with hy | rfl
    · exact h.2.2.1 y hy
    · exact h.2.2.1 l[k] hkm
  · rw [List.pairwise_iff_getElem]
    intro i j hi hj hij
    rw [List.length_set] at hi hj
    have hp := (List.pairwise_iff_getElem.1 h.2.2.2) i j hi hj hij
    rw [List.getElem_set, List.getElem_set]
    by_cases e1 : k = i
    · subst e1
      rw [if_pos rfl, if_neg (by omega)]
      exact hp
    · rw [if_neg e1]
      by_cases e2 : k = j
      · subst e2
        rw [if_pos rfl]
        exact hp
      · rw [if_neg e2]
        exact hp
theorem SfOwn.setNO {B g c : Nat} {w : World} {l : List Wr} (h : SfOwn B w (.slice (some ⟨g, 0, none⟩) l.length c) l) {k : Nat} (hk : k < l.length) (n : ByteArray) (o : Int) :
    SfOwn B ((w.setCell ⟨g, k * 3, none⟩ (.string n)).setCell ⟨g, k * 3 + 1, none⟩ (.int .i64 o)) (.slice (some ⟨g, 0, none⟩) l.length c) (l.set k { l[k] with name := n, owner := o }) := by
  have h1 := h.setName hk n
  have h1' : SfOwn B (w.setCell ⟨g, k * 3, none⟩ (.string n)) (.slice (some ⟨g, 0, none⟩) (l.set k { l[k] with name := n }).length c) (l.set k { l[k] with name := n }) := by rw [List.length_set]; exact h1
  have h2 := h1'.setOwner (k := k) (by rw [List.length_set]; exact hk) o
  rw [List.getElem_set_self, List.set_set, List.length_set] at h2
  exact h2
/-- One work's copies were written, in their place. -/
theorem SfOwn.setCps {B g c : Nat} {w w' : World} {l : List Wr} (h : SfOwn B w (.slice (some ⟨g, 0, none⟩) l.length c) l) {k : Nat} (hk : k < l.length) (q : List M.Cp) (hq : q.length = l[k].cps.length) (ht : TouchO l[k].sl.ownBlock w w') (ho : CpOwn B w' l[k].sl q) :
    SfOwn B w' (.slice (some ⟨g, 0, none⟩) l.length c) (l.set k { l[k] with cps := q }) := by
  have hkm : l[k] ∈ l := List.getElem_mem hk
  have hsl : Wr.sl { l[k] with cps := q } = l[k].sl := by show Value.slice l[k].ad q.length l[k].cap = .slice l[k].ad l[k].cps.length l[k].cap; rw [hq]
  have hts : TouchS (fun x => l[k].sl.ownBlock = some x) w w' := (TouchS.refl _ w).then ht (fun g hg => hg)
  have hv := h.2.2.1 l[k] hkm
  have hc : cellsOf wrL (l.set k { l[k] with cps := q }) = cellsOf wrL l := by
    rw [cells_set hk, cells_parts hk, hsl]
  refine ⟨?_, fun y hy => ?_, fun y hy => ?_, ?_⟩
  · rw [List.length_set, hc]
    refine hts.row h.1 (fun x hx e => ?_)
    rcases hv with h0 | h0
    · rw [h0] at e; cases e
    · exact h0 (e.trans hx.symm)
  · obtain ⟨i, hi, rfl⟩ := List.mem_iff_getElem.1 hy
    rw [List.length_set] at hi
    rw [List.getElem_set]
    by_cases e1 : k = i
    · rw [if_pos e1, hsl]
      exact ho
    · rw [if_neg e1]
      refine hts.own (h.2.1 _ (List.getElem_mem hi)) (fun x hx e => ?_)
      have hap : Apart l[k].sl l[i].sl := by
        rcases Nat.lt_or_ge k i with hki | hki
        · exact (List.pairwise_iff_getElem.1 h.2.2.2) k i hk hi hki
        · exact apart_sym ((List.pairwise_iff_getElem.1 h.2.2.2) i k hi hk (by omega))
      rcases hap with h0 | h0
      · rw [h0] at e; cases e
      · exact h0 (e.trans hx.symm)
  · rcases List.mem_or_eq_of_mem_set hy with hy | rfl
    · exact h.2.2.1 y hy
    · unfold Apart; rw [hsl]; exact hv
  · rw [List.pairwise_iff_getElem]
    intro i j hi hj hij
    rw [List.length_set] at hi hj
    have hp := (List.pairwise_iff_getElem.1 h.2.2.2) i j hi hj hij
    rw [List.getElem_set, List.getElem_set]
    by_cases e1 : k = i
    · subst e1
      rw [if_pos rfl, if_neg (by omega), hsl]
      exact hp
    · rw [if_neg e1]
      by_cases e2 : k = j
      · subst e2
        rw [if_pos rfl, hsl]
        exact hp
      · rw [if_neg e2]
        exact hp

theorem markCopyS_own (A : Option Addr) (l : List M.Cp) (n cap k : Nat) (B : Nat) (w : World) (ho : CpOwn B w (.slice A n cap) l) (hk0 : 0 < k) (hk : k + 5 * l.length ≤ 20000000) :
    Calls Tryz.prog 144 #[.slice A n cap, .int .i64 k] w fun r w' => r = .returned (.int .i64 (k + 5 * n : Nat)) ∧ CpOwn B w' (.slice A n cap) (marks k n) ∧ TouchO (Value.slice A n cap).ownBlock w w' := by
  have hn := ho.cps.2
  subst hn
  rcases A with _ | a
  · have hl : l = [] := flat_none ho.cps.1
    subst hl
    have hc := ho.nilc rfl
    subst hc
    refine (markCopyS_none none 0 k w).mono ?_
    rintro r w' ⟨rfl, rfl⟩
    exact ⟨rfl, CpOwn.nil _ _, Nat.le_refl _, fun B' hB _ => Below.refl _ _, fun k hk _ => rfl⟩
  · obtain ⟨g, rfl⟩ : ∃ g, a = ⟨g, 0, none⟩ := by
      obtain ⟨_, ⟨h0, _⟩ | ⟨g, cap', cur, hv, _⟩⟩ := ho
      · simp at h0
      · injection hv with hA _ _
        exact ⟨g, by injection hA⟩
    refine (markCopyS_any g l cap k B w ho hk0 hk).mono ?_
    rintro r w' ⟨rfl, ho', ht⟩
    exact ⟨rfl, ho', ht.size, fun B' _ hB => ht.low B' (hB g rfl), fun k hk hne => ht.block k hk (fun e => hne (by rw [e]; rfl))⟩

def mrow (k : Nat) (r : Wr) : Wr := { r with name := markB k, owner := (k : Int) + 1, cps := marks (k + 2) r.cps.length }
def mlen : List Wr → Nat
  | [] => 0
  | r :: l => 2 + 5 * r.cps.length + mlen l
def mrows (k : Nat) (l : List Wr) : List Wr := l.mapIdx fun i r => mrow (k + mlen (l.take i)) r
theorem mrows_len (k : Nat) (l : List Wr) : (mrows k l).length = l.length := by simp [mrows]
theorem mrows_at (k : Nat) (l : List Wr) (i : Nat) (h : i < l.length) : (mrows k l)[i]'(by rw [mrows_len]; exact h) = mrow (k + mlen (l.take i)) l[i] := by simp [mrows]
theorem mlen_take (l : List Wr) (i : Nat) (h : i < l.length) : mlen (l.take (i + 1)) = mlen (l.take i) + (2 + 5 * l[i].cps.length) := by
  induction l generalizing i with
  | nil => simp at h
  | cons c l ih =>
    cases i with
    | zero => simp [mlen]
    | succ i => simp [mlen, ih i (by simpa using h)]; omega
theorem mlen_take_le (l : List Wr) (i : Nat) : mlen (l.take i) ≤ mlen l := by
  induction l generalizing i with
  | nil => simp [mlen]
  | cons c l ih =>
    cases i with
    | zero => simp [mlen]
    | succ i => have := ih i; simp [mlen]; omega
theorem mlen_le (l : List Wr) : mlen l ≤ 2 * l.length + 5 * szWrs l := by
  induction l with
  | nil => simp [mlen]
  | cons c l ih => simp only [mlen, szWrs, szWr, List.length_cons]; omega
theorem mlen_map {l m : List Wr} (h : l.map Wr.wk = m.map Wr.wk) : mlen l = mlen m := by
  induction l generalizing m with
  | nil => cases m with
    | nil => rfl
    | cons _ _ => simp at h
  | cons c l ih => cases m with
    | nil => simp at h
    | cons d m =>
      simp only [List.map_cons, List.cons.injEq] at h
      have h1 : c.cps = d.cps := by have := h.1; unfold Wr.wk at this; injection this
      simp only [mlen, h1, ih h.2]
theorem mrow_sl (k : Nat) (r : Wr) : (mrow k r).sl = r.sl := by show Value.slice r.ad (marks (k + 2) r.cps.length).length r.cap = .slice r.ad r.cps.length r.cap; rw [marks_len]
theorem blocks_mrows {v : Value} {k : Nat} {l : List Wr} {g : Nat} : blocksS v (mrows k l) g ↔ blocksS v l g := by
  unfold blocksS
  constructor
  · rintro (h | ⟨r, hr, h⟩)
    · exact .inl h
    · obtain ⟨i, hi, rfl⟩ := List.mem_iff_getElem.1 hr
      rw [mrows_len] at hi
      rw [mrows_at k l i hi, mrow_sl] at h
      exact .inr ⟨_, List.getElem_mem hi, h⟩
  · rintro (h | ⟨r, hr, h⟩)
    · exact .inl h
    · obtain ⟨i, hi, rfl⟩ := List.mem_iff_getElem.1 hr
      refine .inr ⟨(mrows k l)[i]'(by rw [mrows_len]; exact hi), List.getElem_mem _, ?_⟩
      rw [mrows_at k l i hi, mrow_sl]
      exact h
/-- The first j of them are marked. -/
def MarkTo (k : Nat) (l : List Wr) (j : Nat) (q : List Wr) : Prop := q.length = l.length ∧ ∀ (i : Nat) (h : i < l.length) (h' : i < q.length), q[i] = if i < j then mrow (k + mlen (l.take i)) l[i] else l[i]
theorem MarkTo.zero (k : Nat) (l : List Wr) : MarkTo k l 0 l := ⟨rfl, fun i h h' => by simp⟩
theorem MarkTo.next {k j : Nat} {l q : List Wr} (h : MarkTo k l j q) (hj : j < l.length) : MarkTo k l (j + 1) (q.set j (mrow (k + mlen (l.take j)) l[j])) := by
  refine ⟨by rw [List.length_set]; exact h.1, fun i hi h' => ?_⟩
  rw [List.getElem_set]
  by_cases e : j = i
  · subst e; rw [if_pos rfl, if_pos (by omega)]
  · rw [if_neg e, h.2 i hi (by rw [h.1]; exact hi)]
    by_cases hij : i < j
    · rw [if_pos hij, if_pos (by omega)]
    · rw [if_neg hij, if_neg (by omega)]
theorem MarkTo.all {k : Nat} {l q : List Wr} (h : MarkTo k l l.length q) : q = mrows k l := by
  refine List.ext_getElem (by rw [h.1, mrows_len]) (fun i h1 h2 => ?_)
  rw [h.1] at h1
  rw [h.2 i h1 (by rw [h.1]; exact h1), if_pos h1, mrows_at k l i h1]

set_option maxHeartbeats 4000000 in
theorem markWorkS_any (A : Option Addr) (l : List Wr) (cap k : Nat) (B : Nat) (w : World) (ho : SfOwn B w (.slice A l.length cap) l) (hlen : l.length ≤ 2000000) (hk0 : 0 < k) (hk : k + mlen l ≤ 20000000) :
    Calls Tryz.prog 101 #[.slice A l.length cap, .int .i64 k] w fun r w' => r = .returned (.int .i64 (k + mlen l : Nat)) ∧ SfOwn B w' (.slice A l.length cap) (mrows k l) ∧ TouchS (blocksS (.slice A l.length cap) l) w w' := by
  have HO0 := Lib.hid ho
  clear ho
  go_enter Tryz.func101, Tryz.ntmps101
  go_wp2
  go_loopw [1, 5] (fun x i wr => ∃ (j : Nat) (q : List Wr), i = .int .i64 j ∧ j ≤ l.length ∧ x = .int .i64 (k + mlen (l.take j) : Nat) ∧ MarkTo k l j q ∧ SfOwn B wr (.slice A l.length cap) q ∧ TouchS (blocksS (.slice A l.length cap) l) w wr) (fun _ i _ => l.length - (intOf i).toNat)
  case atStart => exact ⟨0, l, rfl, Nat.zero_le _, by simp [mlen], MarkTo.zero k l, HO0.out, TouchS.refl _ _⟩
  case round =>
    obtain ⟨j, q, rfl, hj, rfl, hm, hown, ht⟩ := hrel
    by_cases hlt : j < l.length
    · have hql := hm.1
      have hjq : j < q.length := by omega
      have hqj : q[j] = l[j] := by rw [hm.2 j hlt hjq, if_neg (by omega)]
      have hown1 : SfOwn B wr (.slice A q.length cap) q := by rw [hql]; exact hown
      obtain ⟨g, cc, hv, hBg, hgl⟩ := hown1.at (by omega)
      injection hv with hA _ hc
      subst hA hc
      have hS : blocksS (.slice (some ⟨g, 0, none⟩) l.length cap) l g := .inl rfl
      obtain ⟨⟨c0, c1, c2⟩, f0, f1, f2⟩ := hown1.cellsK hjq
      rw [hqj] at c0 c1 c2
      obtain ⟨K, hK⟩ : ∃ K, k + mlen (l.take j) = K := ⟨_, rfl⟩
      have hmt := mlen_take l j hlt
      have hml := mlen_take_le l (j + 1)
      have hK1 : 0 < K := by omega
      have hK2 : K + 2 + 5 * l[j].cps.length ≤ 20000000 := by omega
      have HMT := Lib.hid (show k + mlen (l.take (j + 1)) = K + 2 + 5 * l[j].cps.length by omega)
      have HK := Lib.hid hK
      have HM := Lib.hid hm
      have HO := Lib.hid hown1
      have HQL := Lib.hid hql
      have HQJ := Lib.hid hqj
      have HS := Lib.hid hS
      have HT := Lib.hid ht
      rw [hK]
      clear hm hown hown1 ht hql hmt hml hS hK hqj
      go_wp2_with fail
      refine (markText_at _ K rfl (by omega) (by omega) _).mono ?_
      rintro r w2 ⟨rfl, b2⟩
      have ho2 := HO.out.below b2
      have ht2 := HT.out.below b2
      obtain ⟨⟨d0, d1, d2⟩, e0, e1, e2⟩ := ho2.cellsK hjq
      rw [HQJ.out] at d0 d1 d2
      have hgl2 : g < w2.heap.size := Nat.lt_of_lt_of_le hgl b2.size
      have ho3 := ho2.setName hjq (markB K)
      have HO2 := Lib.hid ho2
      have HT2 := Lib.hid ht2
      clear c0 c1 c2 f0 f1 f2 b2 ho2 ht2 ho3
      go_wp2_with fail
      have ho4 := HO2.out.setNO hjq (markB K) ((K : Int) + 1)
      have hsz4 : g < ((w2.setCell ⟨g, j * 3, none⟩ (.string (markB K))).setCell ⟨g, j * 3 + 1, none⟩ (.int .i64 ((K : Int) + 1))).heap.size := by simpa using hgl2
      have ht4 := (HT2.out.set HS.out (j * 3) (.string (markB K))).set HS.out (j * 3 + 1) (.int .i64 ((K : Int) + 1))
      generalize hw4 : (w2.setCell ⟨g, j * 3, none⟩ (.string (markB K))).setCell ⟨g, j * 3 + 1, none⟩ (.int .i64 ((K : Int) + 1)) = w4 at ho4 ht4 ⊢
      clear hw4
      have hc4 : CpOwn B w4 l[j].sl l[j].cps := by
        have := ho4.2.1 _ (List.mem_set hjq _)
        rw [HQJ.out] at this
        exact this
      refine (markCopyS_own l[j].ad l[j].cps l[j].cps.length l[j].cap (K + 2) B _ hc4 (by omega) (by omega)).mono ?_
      rintro r w5 ⟨rfl, ho5, ht5⟩
      have HF := Lib.hid (show SfOwn B w5 (.slice (some ⟨g, 0, none⟩) l.length cap) (q.set j (mrow K l[j])) from by
        have h6 : SfOwn B w4 (.slice (some ⟨g, 0, none⟩) (q.set j { q[j] with name := markB K, owner := (K : Int) + 1 }).length cap) (q.set j { q[j] with name := markB K, owner := (K : Int) + 1 }) := by rw [List.length_set]; exact ho4
        have h7 := h6.setCps (k := j) (by rw [List.length_set]; exact hjq) (marks (K + 2) l[j].cps.length) (by rw [marks_len, List.getElem_set_self, HQJ.out]) (by rw [List.getElem_set_self, HQJ.out]; exact ht5) (by rw [List.getElem_set_self, HQJ.out]; exact ho5)
        rw [List.getElem_set_self, List.set_set, HQJ.out, List.length_set, HQL.out] at h7
        exact h7)
      have HT5 := Lib.hid (ht4.then ht5 (fun x hx => .inr ⟨l[j], List.getElem_mem hlt, hx⟩))
      clear ho4 ht4 hc4 ho5 ht5 hsz4
      go_wp2
      go_roundw
      case rel =>
        refine ⟨j + 1, q.set j (mrow K l[j]), by go_num, by omega, congrArg (Value.int .i64) (by rw [HMT.out]; omega), ?_, HF.out, HT5.out⟩
        have := HM.out.next hlt
        rw [HK.out] at this
        exact this
      case measure => simp [intOf]; omega
    · have hj' : j = l.length := by omega
      subst hj'
      have he := hm.all
      subst he
      have HO := Lib.hid hown
      have hkk : k + mlen (l.take l.length) = k + mlen l := by rw [List.take_length]
      rw [hkk]
      clear hown hkk
      go_wp2
      go_ret
      exact ⟨rfl, HO.out, ht⟩
end Go.Proofs.YtblcgbgcccjpcaaGreat
