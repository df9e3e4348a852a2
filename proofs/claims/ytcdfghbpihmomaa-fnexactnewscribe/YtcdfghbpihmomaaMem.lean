/- Proved: facts on a memory that is told by a list of blocks and what they hold: they stay behind calls, new blocks and writes into one of them; no program's function is named here; no condition. -/
import Derived.Test.YtcdfghbpihmomaaBoxes
namespace Go.Proofs.Ytcdfghbpihmomaa
open Go.RowKit

theorem farM {w w1 : World} {B g : Nat} (h : Below B w w1) (hg : B ≤ g) (j : Nat) (v : Value) : Below B w (w1.setCell ⟨g, j, none⟩ v) := h.setCell hg v
theorem other_cell {w : World} {g k j i : Nat} {v : Value} (h : k ≠ g) : (w.setCell ⟨g, j, none⟩ v).cell? ⟨k, i, none⟩ = w.cell? ⟨k, i, none⟩ :=
  World.cell?_of_block (a := ⟨k, i, none⟩) (Below.heap_setCell _ _ _ _ h)
theorem Holds.putM {w : World} {g : Nat} {C : Array Value} (h : Holds w g C) (j : Nat) (v : Value) : Holds (w.setCell ⟨g, j, none⟩ v) g (C.setIfInBounds j v) := by
  refine ⟨by simpa using h.1, fun i u hi => ?_⟩
  by_cases e : j = i
  · subst e
    rw [Array.getElem?_setIfInBounds_self] at hi
    split at hi
    · rename_i hlt
      cases hi
      exact World.cell?_setCell_same w _ _ (h.2 j _ (Array.getElem?_eq_getElem hlt))
    · cases hi
  · rw [Array.getElem?_setIfInBounds_ne e] at hi
    rw [World.cell?_setCell_other w _ _ _ (fun h => e (by injection h))]; exact h.2 i u hi
theorem Holds.otherM {w : World} {g k j : Nat} {C : Array Value} {v : Value} (h : Holds w k C) (hk : k ≠ g) : Holds (w.setCell ⟨g, j, none⟩ v) k C :=
  ⟨by simpa using h.1, fun i u hi => (other_cell hk).trans (h.2 i u hi)⟩

/-- Nothing that was there in w0 has changed; each block of hs holds its cells; each block of ls may be written. -/
def Mem (w0 : World) (hs : List (Nat × Array Value)) (ls : List Nat) (x : World) : Prop :=
  Below w0.heap.size w0 x ∧ (∀ p ∈ hs, Holds x p.1 p.2) ∧ ∀ g ∈ ls, g < x.heap.size ∧ Loose x g

theorem Mem.start (w0 : World) : Mem w0 [] [] w0 := ⟨Below.refl _ _, by simp, by simp⟩
theorem Mem.below {w0 : World} {hs : List (Nat × Array Value)} {ls : List Nat} {x y : World} (h : Mem w0 hs ls x) (hb : Below x.heap.size x y) : Mem w0 hs ls y :=
  ⟨h.1.trans (hb.mono h.1.size), fun p hp => (h.2.1 p hp).below hb, fun g hg => ⟨Nat.lt_of_lt_of_le (h.2.2 g hg).1 hb.size, (h.2.2 g hg).2.below (h.2.2 g hg).1 hb⟩⟩
theorem Mem.alloc {w0 : World} {hs : List (Nat × Array Value)} {ls : List Nat} {x : World} (h : Mem w0 hs ls x) (o : Obj) : Mem w0 hs ls (x.alloc o) := h.below ((Below.refl _ _).alloc (Nat.le_refl _) o)
theorem Mem.add {w0 : World} {hs : List (Nat × Array Value)} {ls : List Nat} {x : World} {g : Nat} {C : Array Value} (h : Mem w0 hs ls x) (hg : Holds x g C) : Mem w0 ((g, C) :: hs) ls x :=
  ⟨h.1, fun p hp => by rcases List.mem_cons.1 hp with rfl | hp; exact hg; exact h.2.1 p hp, h.2.2⟩
/-- A new block: it holds its cells, and may be written. -/
theorem Mem.new {w0 : World} {hs : List (Nat × Array Value)} {ls : List Nat} {x : World} (h : Mem w0 hs ls x) (C : Array Value) (t : TypeId) : Mem w0 ((x.heap.size, C) :: hs) (x.heap.size :: ls) (x.alloc (.cells C t)) := by
  have h' := (h.alloc (.cells C t)).add (holds_new x C t)
  refine ⟨h'.1, h'.2.1, fun g hg => ?_⟩
  rcases List.mem_cons.1 hg with rfl | hg
  · exact ⟨by simp, loose_new x C t⟩
  · exact h'.2.2 g hg
theorem Mem.get {w0 : World} {hs : List (Nat × Array Value)} {ls : List Nat} {x : World} (h : Mem w0 hs ls x) (g : Nat) (C : Array Value) (hp : (g, C) ∈ hs) : Holds x g C := h.2.1 (g, C) hp
theorem Mem.tail {w0 : World} {p : Nat × Array Value} {hs : List (Nat × Array Value)} {ls : List Nat} {x : World} (h : Mem w0 (p :: hs) ls x) : Mem w0 hs ls x := ⟨h.1, fun q hq => h.2.1 q (List.mem_cons_of_mem _ hq), h.2.2⟩
theorem Mem.drop {w0 : World} {p : Nat × Array Value} {hs : List (Nat × Array Value)} {g : Nat} {ls : List Nat} {x : World} (h : Mem w0 (p :: hs) (g :: ls) x) : Mem w0 hs ls x :=
  ⟨h.1, fun q hq => h.2.1 q (List.mem_cons_of_mem _ hq), fun k hk => h.2.2 k (List.mem_cons_of_mem _ hk)⟩
/-- A write into the block that is told first. -/
theorem Mem.put {w0 : World} {g : Nat} {C : Array Value} {hs : List (Nat × Array Value)} {ls : List Nat} {x : World} (h : Mem w0 ((g, C) :: hs) ls x) (hg : w0.heap.size ≤ g) (hn : ∀ p ∈ hs, p.1 ≠ g) (j : Nat) (v : Value) :
    Mem w0 ((g, C.setIfInBounds j v) :: hs) ls (x.setCell ⟨g, j, none⟩ v) := by
  refine ⟨farM h.1 hg j v, fun p hp => ?_, fun k hk => ⟨by simpa using (h.2.2 k hk).1, fun i => by rw [World.frozen?_setCell]; exact (h.2.2 k hk).2 i⟩⟩
  rcases List.mem_cons.1 hp with rfl | hp
  · exact (h.2.1 (g, C) (by simp)).putM j v
  · exact (h.2.1 p (List.mem_cons_of_mem _ hp)).otherM (hn p hp)
theorem Mem.drew {w0 : World} {hs : List (Nat × Array Value)} {ls : List Nat} {x : World} (h : Mem w0 hs ls x) : Mem w0 hs ls x.drew := ⟨h.1.drew, h.2.1, h.2.2⟩
theorem Mem.loose {w0 : World} {hs : List (Nat × Array Value)} {ls : List Nat} {x : World} (h : Mem w0 hs ls x) (g : Nat) (hp : g ∈ ls) : Loose x g := (h.2.2 g hp).2
end Go.Proofs.Ytcdfghbpihmomaa
