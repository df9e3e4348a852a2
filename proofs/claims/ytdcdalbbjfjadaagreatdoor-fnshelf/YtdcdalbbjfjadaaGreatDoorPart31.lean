/- Proved, in parts: Proved: the laws' helper that writes marks into a list of works writes nothing but that list, and leaves the marks there. Condition: at most a million works and copies. -/
import Derived.Test.YtdcdalbbjfjadaaGreatDoorPart30
namespace Go.Proofs.YtdcdalbbjfjadaaGreatDoor
open Go.RowKit
set_option maxRecDepth 20000

/-- The blocks of S alone, of all that was there, may have changed. -/
structure TouchS (S : Nat → Prop) (w w' : World) : Prop where
  size : w.heap.size ≤ w'.heap.size
  low : ∀ B, B ≤ w.heap.size → (∀ g, S g → B ≤ g) → Below B w w'
  block : ∀ k, k < w.heap.size → ¬ S k → w'.heap[k]? = w.heap[k]?
theorem TouchS.refl (S : Nat → Prop) (w : World) : TouchS S w w := ⟨Nat.le_refl _, fun _ _ _ => Below.refl _ _, fun _ _ _ => rfl⟩
theorem TouchS.below {S : Nat → Prop} {w w1 w2 : World} (h : TouchS S w w1) (hb : Below w1.heap.size w1 w2) : TouchS S w w2 :=
  ⟨Nat.le_trans h.size hb.size, fun B hB hS => (h.low B hB hS).trans (hb.mono (Nat.le_trans hB h.size)), fun k hk hne => (hb.block k (Nat.lt_of_lt_of_le hk h.size)).trans (h.block k hk hne)⟩
theorem TouchS.set {S : Nat → Prop} {w w1 : World} {g : Nat} (h : TouchS S w w1) (hg : S g) (j : Nat) (v : Value) : TouchS S w (w1.setCell ⟨g, j, none⟩ v) :=
  ⟨by simpa using h.size, fun B hB hS => (h.low B hB hS).setCell (hS g hg) v, fun k hk hne => (Below.heap_setCell _ _ _ _ (fun e => hne (by rw [show k = g from e]; exact hg))).trans (h.block k hk hne)⟩
theorem TouchS.then {S : Nat → Prop} {w w1 w2 : World} {row : Option Nat} (h : TouchS S w w1) (ht : TouchO row w1 w2) (hr : ∀ g, row = some g → S g) : TouchS S w w2 :=
  ⟨Nat.le_trans h.size ht.size, fun B hB hS => (h.low B hB hS).trans (ht.low B (Nat.le_trans hB h.size) (fun g hg => hS g (hr g hg))), fun k hk hne => (ht.block k (Nat.lt_of_lt_of_le hk h.size) (fun e => hne (hr k e.symm))).trans (h.block k hk hne)⟩
theorem TouchS.holds {S : Nat → Prop} {k : Nat} {w w1 : World} {C : Array Value} (h : TouchS S w w1) (hC : Holds w k C) (hk : ¬ S k) : Holds w1 k C :=
  ⟨Nat.lt_of_lt_of_le hC.1 h.size, fun j v hj => (World.cell?_of_block (a := ⟨k, j, none⟩) (h.block k hC.1 hk)).trans (hC.2 j v hj)⟩
theorem TouchS.row {S : Nat → Prop} {B : Nat} {w w1 : World} {t : TypeId} {kk n : Nat} {v : Value} {C : List Value} (h : TouchS S w w1) (ho : w.ownsRow B t kk v n C) (hne : ∀ g, v.ownBlock = some g → ¬ S g) : w1.ownsRow B t kk v n C := by
  obtain ⟨hl, h0 | ⟨k, cap, cur, rfl, hb, hh, hr⟩⟩ := ho
  · exact ⟨hl, .inl h0⟩
  · have hk := hne k rfl
    have hlt : k < w.heap.size := (Array.getElem?_eq_some_iff.1 hh).1
    exact ⟨hl, .inr ⟨k, cap, cur, rfl, hb, (h.block k hlt hk).trans hh, hr⟩⟩
theorem TouchS.own {S : Nat → Prop} {B : Nat} {w w1 : World} {v : Value} {l : List M.Cp} (h : TouchS S w w1) (ho : CpOwn B w v l) (hne : ∀ g, v.ownBlock = some g → ¬ S g) : CpOwn B w1 v l := h.row ho hne
/-- The blocks of a list of works. -/
def blocksS (v : Value) (l : List Wr) (g : Nat) : Prop := v.ownBlock = some g ∨ ∃ r ∈ l, r.sl.ownBlock = some g
theorem SfOwn.ge {B : Nat} {w : World} {v : Value} {l : List Wr} (h : SfOwn B w v l) {g : Nat} (hg : blocksS v l g) : B ≤ g ∧ g < w.heap.size := by
  rcases hg with hg | ⟨r, hr, hg⟩
  · exact World.ownsRow.lt h.1 g hg
  · exact (h.2.1 r hr).lt g hg

def mrow (k : Nat) (r : Wr) : Wr := { r with name := markB k, owner := (k : Int) + 1, cps := marks (k + 2) r.cps.length }
def mlen : List Wr → Nat
  | [] => 0
  | r :: l => 2 + 5 * r.cps.length + mlen l
def mrows (k : Nat) (l : List Wr) : List Wr := l.mapIdx fun i r => mrow (k + mlen (l.take i)) r
theorem mrows_len (k : Nat) (l : List Wr) : (mrows k l).length = l.length := by simp [mrows]
theorem mrows_at (k : Nat) (l : List Wr) (i : Nat) (h : i < l.length) : (mrows k l)[i]'(by rw [mrows_len]; exact h) = mrow (k + mlen (l.take i)) l[i] := by simp [mrows]
/-- The first j of them are marked. -/
def MarkTo (k : Nat) (l : List Wr) (j : Nat) (q : List Wr) : Prop := q.length = l.length ∧ ∀ (i : Nat) (h : i < l.length) (h' : i < q.length), q[i] = if i < j then mrow (k + mlen (l.take i)) l[i] else l[i]
theorem MarkTo.zero (k : Nat) (l : List Wr) : MarkTo k l 0 l := ⟨rfl, fun i h h' => by simp⟩
theorem MarkTo.next {k j : Nat} {l q : List Wr} (h : MarkTo k l j q) (hj : j < l.length) : MarkTo k l (j + 1) (q.set j (mrow (k + mlen (l.take j)) l[j])) := by
  refine ⟨by rw [List.length_set]; exact h.1, fun i hi h' => ?_⟩
  rw [List.getElem_set]
  by_cases e : j = i
  · subst e; rw [if_pos rfl, if_pos (by omega)]
  · rw [if_neg e, h.2 i hi (by rw [h.1]; exact hi)]
    by_cases hij : i < j
    · rw [if_pos hij, if_pos (by omega)]
    · rw [if_neg hij, if_neg (by omega)]
theorem MarkTo.all {k : Nat} {l q : List Wr} (h : MarkTo k l l.length q) : q = mrows k l := by
  refine List.ext_getElem (by rw [h.1, mrows_len]) (fun i h1 h2 => ?_)
  rw [h.1] at h1
  rw [h.2 i h1 (by rw [h.1]; exact h1), if_pos h1, mrows_at k l i h1]

end Go.Proofs.YtdcdalbbjfjadaaGreatDoor
