/- Proved: what a block's write leaves of rows that lie elsewhere. No program is named here; no condition. -/
import Derived.Test.YteiopndlakkeaaaShelfTo
namespace Go.Proofs.Yteiopndlakkeaaa
open Go.RowKit
theorem own_set {B g : Nat} {w : World} {t : TypeId} {kk n : Nat} {v : Value} {C : List Value} (h : w.ownsRow B t kk v n C) (hg : g < B) (i : Nat) (u : Value) : (w.setCell ⟨g, i, none⟩ u).ownsRow B t kk v n C := by
  obtain ⟨hl, h0 | ⟨k, cap, cur, rfl, hb, hh, hr⟩⟩ := h
  · exact ⟨hl, .inl h0⟩
  · exact ⟨hl, .inr ⟨k, cap, cur, rfl, hb, (Below.heap_setCell _ _ _ _ (by show k ≠ g; omega)).trans hh, hr⟩⟩
theorem SfOwn.set {B g : Nat} {w : World} {v : Value} {l : List Wr} (h : SfOwn B w v l) (hg : g < B) (i : Nat) (u : Value) : SfOwn B (w.setCell ⟨g, i, none⟩ u) v l :=
  ⟨own_set h.1 hg i u, fun r hr => own_set (h.2.1 r hr) hg i u, h.2.2⟩
end Go.Proofs.Yteiopndlakkeaaa
