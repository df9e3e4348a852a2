/- Proved: three stores into a row of works put another work at a place; the rest of the shelf is as it was. Condition: the new work's list lies in a block of its own. -/
import Derived.Test.YtepjpfiekchdmaaShelfTo
import Derived.Test.YtepjpfiekchdmaaWorkWith
namespace Go.Proofs.Ytepjpfiekchdmaa
open Go.RowKit

theorem cells_parts {l : List Wr} {k : Nat} (hk : k < l.length) : cellsOf wrL l = cellsOf wrL (l.take k) ++ (Value.string l[k].name :: .int .i64 l[k].owner :: l[k].sl :: cellsOf wrL (l.drop (k + 1))) := by
  have h : l = l.take k ++ (l[k] :: l.drop (k + 1)) := by
    rw [List.getElem_cons_drop, List.take_append_drop]
  have h2 : cellsOf wrL l = cellsOf wrL (l.take k ++ (l[k] :: l.drop (k + 1))) := by rw [← h]
  rw [h2, cellsOf_append]
  rfl
theorem cells_set {l : List Wr} {k : Nat} (hk : k < l.length) (r : Wr) : cellsOf wrL (l.set k r) = cellsOf wrL (l.take k) ++ (Value.string r.name :: .int .i64 r.owner :: r.sl :: cellsOf wrL (l.drop (k + 1))) := by
  rw [List.set_eq_take_append_cons_drop, if_pos hk, cellsOf_append]
  rfl
theorem apart_sym {a b : Value} (h : Apart a b) : Apart b a := by
  unfold Apart at h ⊢
  rcases hb : b.ownBlock with _ | k
  · exact .inl rfl
  · refine .inr fun e => ?_
    rcases h with h | h
    · rw [h] at e; cases e
    · exact h (by rw [hb, ← e])
/-- Where a shelf of one's own lies. -/
theorem SfOwn.at {B : Nat} {w : World} {v : Value} {l : List Wr} (h : SfOwn B w v l) (hne : 0 < l.length) : ∃ g c, v = .slice (some ⟨g, 0, none⟩) l.length c ∧ B ≤ g ∧ g < w.heap.size := by
  obtain ⟨g, cc, hv, hb, hg⟩ := World.ownsRow.form h.1 hne
  exact ⟨g, cc, hv, hb, hg⟩
theorem SfOwn.cellsK {B g c : Nat} {w : World} {l : List Wr} (h : SfOwn B w (.slice (some ⟨g, 0, none⟩) l.length c) l) {k : Nat} (hk : k < l.length) :
    (w.cell? ⟨g, k * 3, none⟩ = some (.string l[k].name) ∧ w.cell? ⟨g, k * 3 + 1, none⟩ = some (.int .i64 l[k].owner) ∧ w.cell? ⟨g, k * 3 + 2, none⟩ = some l[k].sl) ∧
    (w.frozen? ⟨g, k * 3, none⟩ = false ∧ w.frozen? ⟨g, k * 3 + 1, none⟩ = false ∧ w.frozen? ⟨g, k * 3 + 2, none⟩ = false) := by
  have h1 := h.1
  rw [cells_parts hk] at h1
  exact own_cells3 h1 (by rw [cellsOf_len wrL_len, List.length_take]; omega)
theorem SfOwn.setK {B g c : Nat} {w : World} {l : List Wr} (h : SfOwn B w (.slice (some ⟨g, 0, none⟩) l.length c) l) {k : Nat} (hk : k < l.length) (r : Wr) (ho : CpOwn B w r.sl r.cps) (hv : r.sl.ownBlock ≠ some g) (hap : ∀ i (hi : i < l.length), i ≠ k → Apart r.sl l[i].sl) :
    SfOwn B (((w.setCell ⟨g, k * 3, none⟩ (.string r.name)).setCell ⟨g, k * 3 + 1, none⟩ (.int .i64 r.owner)).setCell ⟨g, k * 3 + 2, none⟩ r.sl) (.slice (some ⟨g, 0, none⟩) l.length c) (l.set k r) := by
  have h1 := h.1
  rw [cells_parts hk] at h1
  have h2 := own_put3 (f0 := .string r.name) (f1 := .int .i64 r.owner) (f2 := r.sl) h1 (j := k * 3) (by rw [cellsOf_len wrL_len, List.length_take]; omega)
  rw [← cells_set hk] at h2
  have hb : (Value.slice (some ⟨g, 0, none⟩) l.length c).ownBlock = some g := rfl
  have hold : ∀ y ∈ l, y.sl.ownBlock ≠ some g := fun y hy e => by
    rcases h.2.2.1 y hy with h0 | h0
    · rw [h0] at e; cases e
    · exact h0 (e.trans hb.symm)
  have hne : ∀ y : Wr, y.sl.ownBlock ≠ some g → CpOwn B w y.sl y.cps → CpOwn B (((w.setCell ⟨g, k * 3, none⟩ (.string r.name)).setCell ⟨g, k * 3 + 1, none⟩ (.int .i64 r.owner)).setCell ⟨g, k * 3 + 2, none⟩ r.sl) y.sl y.cps := fun y hy ho => ((ho.apartN (a := ⟨g, k * 3, none⟩) hy _).apartN (a := ⟨g, k * 3 + 1, none⟩) hy _).apartN (a := ⟨g, k * 3 + 2, none⟩) hy _
  refine ⟨by rw [List.length_set]; exact h2, fun y hy => ?_, fun y hy => ?_, ?_⟩
  · rcases List.mem_or_eq_of_mem_set hy with hy | rfl
    · exact hne y (hold y hy) (h.2.1 y hy)
    · exact hne y hv ho
  · rcases List.mem_or_eq_of_mem_set hy with hy | rfl
    · exact h.2.2.1 y hy
    · exact .inr fun e => hv (e.trans hb)
  · rw [List.pairwise_iff_getElem]
    intro i j hi hj hij
    rw [List.length_set] at hi hj
    rw [List.getElem_set, List.getElem_set]
    by_cases e1 : k = i
    · rw [if_pos e1, if_neg (by omega)]
      exact hap j hj (by omega)
    · rw [if_neg e1]
      by_cases e2 : k = j
      · rw [if_pos e2]
        exact apart_sym (hap i hi (by omega))
      · rw [if_neg e2]
        exact (List.pairwise_iff_getElem.1 h.2.2.2) i j hi hj hij
theorem SfOwn.setOwner {B g c : Nat} {w : World} {l : List Wr} (h : SfOwn B w (.slice (some ⟨g, 0, none⟩) l.length c) l) {k : Nat} (hk : k < l.length) (o : Int) :
    SfOwn B (w.setCell ⟨g, k * 3 + 1, none⟩ (.int .i64 o)) (.slice (some ⟨g, 0, none⟩) l.length c) (l.set k { l[k] with owner := o }) := by
  have h1 := h.1
  rw [cells_parts hk] at h1
  have h2 := (h1.stored (k * 3 + 1) (.int .i64 o)).1
  have hlen : k * 3 = (cellsOf wrL (l.take k)).length := by rw [cellsOf_len wrL_len, List.length_take]; omega
  have hs : (cellsOf wrL (l.take k) ++ (Value.string l[k].name :: .int .i64 l[k].owner :: l[k].sl :: cellsOf wrL (l.drop (k + 1)))).set (k * 3 + 1) (.int .i64 o) = cellsOf wrL (l.set k { l[k] with owner := o }) := by
    rw [cells_set hk, hlen]
    simp
  rw [hs] at h2
  have hb : (Value.slice (some ⟨g, 0, none⟩) l.length c).ownBlock = some g := rfl
  have hold : ∀ y ∈ l, y.sl.ownBlock ≠ some g := fun y hy e => by
    rcases h.2.2.1 y hy with h0 | h0
    · rw [h0] at e; cases e
    · exact h0 (e.trans hb.symm)
  have hne : ∀ y ∈ l, CpOwn B (w.setCell ⟨g, k * 3 + 1, none⟩ (.int .i64 o)) y.sl y.cps := fun y hy => (h.2.1 y hy).apartN (a := ⟨g, k * 3 + 1, none⟩) (hold y hy) _
  have hkm : l[k] ∈ l := List.getElem_mem hk
  refine ⟨by rw [List.length_set]; exact h2, fun y hy => ?_, fun y hy => ?_, ?_⟩
  · rcases List.mem_or_eq_of_mem_set hy with hy | rfl
    · exact hne y hy
    · exact hne l[k] hkm
  · rcases List.mem_or_eq_of_mem_set hy with hy | rfl
    · exact h.2.2.1 y hy
    · exact h.2.2.1 l[k] hkm
  · rw [List.pairwise_iff_getElem]
    intro i j hi hj hij
    rw [List.length_set] at hi hj
    have hp := (List.pairwise_iff_getElem.1 h.2.2.2) i j hi hj hij
    rw [List.getElem_set, List.getElem_set]
    by_cases e1 : k = i
    · subst e1
      rw [if_pos rfl, if_neg (by omega)]
      exact hp
    · rw [if_neg e1]
      by_cases e2 : k = j
      · subst e2
        rw [if_pos rfl]
        exact hp
      · rw [if_neg e2]
        exact hp
theorem own_far {B g : Nat} {w : World} {t : TypeId} {kk n : Nat} {v : Value} {C : List Value} (h : w.ownsRow B t kk v n C) (hg : v.ownBlock ≠ some g) (i : Nat) (u : Value) : (w.setCell ⟨g, i, none⟩ u).ownsRow B t kk v n C := by
  obtain ⟨hl, h0 | ⟨k, cap, cur, rfl, hb, hh, hr⟩⟩ := h
  · exact ⟨hl, .inl h0⟩
  · exact ⟨hl, .inr ⟨k, cap, cur, rfl, hb, (Below.heap_setCell _ _ _ _ (fun e => hg (congrArg some (show k = g from e)))).trans hh, hr⟩⟩
theorem SfOwn.far {B g : Nat} {w : World} {v : Value} {l : List Wr} (h : SfOwn B w v l) (hv : v.ownBlock ≠ some g) (hr : ∀ r ∈ l, r.sl.ownBlock ≠ some g) (i : Nat) (u : Value) : SfOwn B (w.setCell ⟨g, i, none⟩ u) v l :=
  ⟨own_far h.1 hv i u, fun r hm => own_far (h.2.1 r hm) (hr r hm) i u, h.2.2⟩
end Go.Proofs.Ytepjpfiekchdmaa
