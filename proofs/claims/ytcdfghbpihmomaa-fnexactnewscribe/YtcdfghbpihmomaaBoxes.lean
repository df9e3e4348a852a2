/- Proved: facts on blocks that hold given cells: they stay behind calls and new blocks; no program's function is named here; no condition. -/
import Derived.Test.YtcdfghbpihmomaaCore
namespace Go.Proofs.Ytcdfghbpihmomaa
open Go.RowKit

/-- Block g holds the cells C. -/
def Holds (w : World) (g : Nat) (C : Array Value) : Prop := g < w.heap.size ∧ ∀ j v, C[j]? = some v → w.cell? ⟨g, j, none⟩ = some v
theorem holds_new (w : World) (C : Array Value) (t : TypeId) : Holds (w.alloc (.cells C t)) w.heap.size C :=
  ⟨by simp, fun j v h => by rw [World.cell?_alloc_mark]; exact h⟩
theorem Holds.below {w w' : World} {g : Nat} {C : Array Value} (h : Holds w g C) (hb : Below w.heap.size w w') : Holds w' g C :=
  ⟨Nat.lt_of_lt_of_le h.1 hb.size, fun j v hj => (hb.cell (p := ⟨g, j, none⟩) h.1).trans (h.2 j v hj)⟩
theorem Holds.alloc {w : World} {g : Nat} {C : Array Value} (h : Holds w g C) (o : Obj) : Holds (w.alloc o) g C := h.below ((Below.refl _ _).alloc (Nat.le_refl _) o)
theorem Holds.one {w : World} {g : Nat} {a0 : Value} (h : Holds w g #[a0]) : w.cell? ⟨g, 0, none⟩ = some a0 := h.2 0 _ rfl
theorem Holds.two {w : World} {g : Nat} {a0 a1 : Value} (h : Holds w g #[a0, a1]) : w.cell? ⟨g, 0, none⟩ = some a0 ∧ w.cell? ⟨g, 1, none⟩ = some a1 := ⟨h.2 0 _ rfl, h.2 1 _ rfl⟩
theorem Holds.three {w : World} {g : Nat} {a0 a1 a2 : Value} (h : Holds w g #[a0, a1, a2]) : w.cell? ⟨g, 0, none⟩ = some a0 ∧ w.cell? ⟨g, 1, none⟩ = some a1 ∧ w.cell? ⟨g, 2, none⟩ = some a2 := ⟨h.2 0 _ rfl, h.2 1 _ rfl, h.2 2 _ rfl⟩
theorem Holds.four {w : World} {g : Nat} {a0 a1 a2 a3 : Value} (h : Holds w g #[a0, a1, a2, a3]) : w.cell? ⟨g, 0, none⟩ = some a0 ∧ w.cell? ⟨g, 1, none⟩ = some a1 ∧ w.cell? ⟨g, 2, none⟩ = some a2 ∧ w.cell? ⟨g, 3, none⟩ = some a3 :=
  ⟨h.2 0 _ rfl, h.2 1 _ rfl, h.2 2 _ rfl, h.2 3 _ rfl⟩
theorem Holds.five {w : World} {g : Nat} {a0 a1 a2 a3 a4 : Value} (h : Holds w g #[a0, a1, a2, a3, a4]) : w.cell? ⟨g, 0, none⟩ = some a0 ∧ w.cell? ⟨g, 1, none⟩ = some a1 ∧ w.cell? ⟨g, 2, none⟩ = some a2 ∧ w.cell? ⟨g, 3, none⟩ = some a3 ∧ w.cell? ⟨g, 4, none⟩ = some a4 :=
  ⟨h.2 0 _ rfl, h.2 1 _ rfl, h.2 2 _ rfl, h.2 3 _ rfl, h.2 4 _ rfl⟩
theorem Holds.six {w : World} {g : Nat} {a0 a1 a2 a3 a4 a5 : Value} (h : Holds w g #[a0, a1, a2, a3, a4, a5]) : w.cell? ⟨g, 0, none⟩ = some a0 ∧ w.cell? ⟨g, 1, none⟩ = some a1 ∧ w.cell? ⟨g, 2, none⟩ = some a2 ∧ w.cell? ⟨g, 3, none⟩ = some a3 ∧ w.cell? ⟨g, 4, none⟩ = some a4 ∧ w.cell? ⟨g, 5, none⟩ = some a5 :=
  ⟨h.2 0 _ rfl, h.2 1 _ rfl, h.2 2 _ rfl, h.2 3 _ rfl, h.2 4 _ rfl, h.2 5 _ rfl⟩
theorem Holds.seven {w : World} {g : Nat} {a0 a1 a2 a3 a4 a5 a6 : Value} (h : Holds w g #[a0, a1, a2, a3, a4, a5, a6]) : w.cell? ⟨g, 0, none⟩ = some a0 ∧ w.cell? ⟨g, 1, none⟩ = some a1 ∧ w.cell? ⟨g, 2, none⟩ = some a2 ∧ w.cell? ⟨g, 3, none⟩ = some a3 ∧ w.cell? ⟨g, 4, none⟩ = some a4 ∧ w.cell? ⟨g, 5, none⟩ = some a5 ∧ w.cell? ⟨g, 6, none⟩ = some a6 :=
  ⟨h.2 0 _ rfl, h.2 1 _ rfl, h.2 2 _ rfl, h.2 3 _ rfl, h.2 4 _ rfl, h.2 5 _ rfl, h.2 6 _ rfl⟩

/-- Block g may be written. -/
def Loose (w : World) (g : Nat) : Prop := ∀ j, w.frozen? ⟨g, j, none⟩ = false
theorem loose_new (w : World) (C : Array Value) (t : TypeId) : Loose (w.alloc (.cells C t)) w.heap.size := fun j => by
  rw [World.frozen?_alloc_mark]; simp
theorem Loose.below {w w' : World} {g : Nat} (h : Loose w g) (hg : g < w.heap.size) (hb : Below w.heap.size w w') : Loose w' g := fun j => (hb.frozen (p := ⟨g, j, none⟩) hg).trans (h j)
theorem Loose.alloc {w : World} {g : Nat} (h : Loose w g) (hg : g < w.heap.size) (o : Obj) : Loose (w.alloc o) g := h.below hg ((Below.refl _ _).alloc (Nat.le_refl _) o)
theorem Loose.seven {w : World} {g : Nat} (h : Loose w g) : w.frozen? ⟨g, 0, none⟩ = false ∧ w.frozen? ⟨g, 1, none⟩ = false ∧ w.frozen? ⟨g, 2, none⟩ = false ∧ w.frozen? ⟨g, 3, none⟩ = false ∧ w.frozen? ⟨g, 4, none⟩ = false ∧ w.frozen? ⟨g, 5, none⟩ = false ∧ w.frozen? ⟨g, 6, none⟩ = false :=
  ⟨h 0, h 1, h 2, h 3, h 4, h 5, h 6⟩
end Go.Proofs.Ytcdfghbpihmomaa
