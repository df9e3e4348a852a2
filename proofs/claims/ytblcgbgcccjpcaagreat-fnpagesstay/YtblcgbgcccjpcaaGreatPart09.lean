/- Proved, in parts: Proved: facts on blocks of a few cells: what they hold, that they may be written, and what they hold behind writes into all of their cells; no program's function is named here; no condition. Proved: contracts of the library over this program, each by one application of a theorem of the kit; what each asks stands in its head. -/
import Derived.Test.YtblcgbgcccjpcaaGreatPart01
import Derived.Shelf.LaysM
import Derived.Shelf.Strconv.Clone
import Derived.Ground.SlgmProg
import Derived.Shelf.SortM.Plain
import Derived.Shelf.SortM.SortNone
import Derived.Test.YtblcgbgcccjpcaaGreatProg
namespace Go.Proofs.YtblcgbgcccjpcaaGreat
open Go.RowKit

theorem Holds.wr2 {w : World} {g : Nat} {c0 c1 : Value} (h : Holds w g #[c0, c1]) (a0 a1 : Value) : Holds ((w.setCell ⟨g, 0, none⟩ a0).setCell ⟨g, 1, none⟩ a1) g #[a0, a1] := by
  have := ((h.putM 0 a0).putM 1 a1)
  simpa only [List.setIfInBounds_toArray, List.set_cons_zero, List.set_cons_succ] using this
theorem far_2 {w w1 : World} {B g : Nat} (h : Below B w w1) (hg : B ≤ g) (a0 a1 : Value) : Below B w ((w1.setCell ⟨g, 0, none⟩ a0).setCell ⟨g, 1, none⟩ a1) :=
  farM (farM h hg _ _) hg _ _
theorem Holds.off2 {w : World} {g k : Nat} {C : Array Value} (h : Holds w k C) (hk : k ≠ g) (a0 a1 : Value) : Holds ((w.setCell ⟨g, 0, none⟩ a0).setCell ⟨g, 1, none⟩ a1) k C :=
  ((h.otherM hk).otherM hk)
theorem Holds.wr3 {w : World} {g : Nat} {c0 c1 c2 : Value} (h : Holds w g #[c0, c1, c2]) (a0 a1 a2 : Value) : Holds (((w.setCell ⟨g, 0, none⟩ a0).setCell ⟨g, 1, none⟩ a1).setCell ⟨g, 2, none⟩ a2) g #[a0, a1, a2] := by
  have := (((h.putM 0 a0).putM 1 a1).putM 2 a2)
  simpa only [List.setIfInBounds_toArray, List.set_cons_zero, List.set_cons_succ] using this
theorem far_3 {w w1 : World} {B g : Nat} (h : Below B w w1) (hg : B ≤ g) (a0 a1 a2 : Value) : Below B w (((w1.setCell ⟨g, 0, none⟩ a0).setCell ⟨g, 1, none⟩ a1).setCell ⟨g, 2, none⟩ a2) :=
  farM (farM (farM h hg _ _) hg _ _) hg _ _
theorem Holds.off3 {w : World} {g k : Nat} {C : Array Value} (h : Holds w k C) (hk : k ≠ g) (a0 a1 a2 : Value) : Holds (((w.setCell ⟨g, 0, none⟩ a0).setCell ⟨g, 1, none⟩ a1).setCell ⟨g, 2, none⟩ a2) k C :=
  (((h.otherM hk).otherM hk).otherM hk)
theorem Loose.fz3 {w : World} {g : Nat} (h : Loose w g) : w.frozen? ⟨g, 0, none⟩ = false ∧ w.frozen? ⟨g, 1, none⟩ = false ∧ w.frozen? ⟨g, 2, none⟩ = false := ⟨h 0, h 1, h 2⟩
theorem Holds.at3 {w : World} {g : Nat} {c0 c1 c2 : Value} (h : Holds w g #[c0, c1, c2]) : w.cell? ⟨g, 0, none⟩ = some c0 ∧ w.cell? ⟨g, 1, none⟩ = some c1 ∧ w.cell? ⟨g, 2, none⟩ = some c2 := ⟨h.2 0 _ rfl, h.2 1 _ rfl, h.2 2 _ rfl⟩

theorem Holds.wr5 {w : World} {g : Nat} {c0 c1 c2 c3 c4 : Value} (h : Holds w g #[c0, c1, c2, c3, c4]) (a0 a1 a2 a3 a4 : Value) : Holds (((((w.setCell ⟨g, 0, none⟩ a0).setCell ⟨g, 1, none⟩ a1).setCell ⟨g, 2, none⟩ a2).setCell ⟨g, 3, none⟩ a3).setCell ⟨g, 4, none⟩ a4) g #[a0, a1, a2, a3, a4] := by
  have := (((((h.putM 0 a0).putM 1 a1).putM 2 a2).putM 3 a3).putM 4 a4)
  simpa only [List.setIfInBounds_toArray, List.set_cons_zero, List.set_cons_succ] using this
theorem far_5 {w w1 : World} {B g : Nat} (h : Below B w w1) (hg : B ≤ g) (a0 a1 a2 a3 a4 : Value) : Below B w (((((w1.setCell ⟨g, 0, none⟩ a0).setCell ⟨g, 1, none⟩ a1).setCell ⟨g, 2, none⟩ a2).setCell ⟨g, 3, none⟩ a3).setCell ⟨g, 4, none⟩ a4) :=
  farM (farM (farM (farM (farM h hg _ _) hg _ _) hg _ _) hg _ _) hg _ _
theorem Loose.fz5 {w : World} {g : Nat} (h : Loose w g) : w.frozen? ⟨g, 0, none⟩ = false ∧ w.frozen? ⟨g, 1, none⟩ = false ∧ w.frozen? ⟨g, 2, none⟩ = false ∧ w.frozen? ⟨g, 3, none⟩ = false ∧ w.frozen? ⟨g, 4, none⟩ = false := ⟨h 0, h 1, h 2, h 3, h 4⟩
theorem Holds.at5 {w : World} {g : Nat} {c0 c1 c2 c3 c4 : Value} (h : Holds w g #[c0, c1, c2, c3, c4]) : w.cell? ⟨g, 0, none⟩ = some c0 ∧ w.cell? ⟨g, 1, none⟩ = some c1 ∧ w.cell? ⟨g, 2, none⟩ = some c2 ∧ w.cell? ⟨g, 3, none⟩ = some c3 ∧ w.cell? ⟨g, 4, none⟩ = some c4 := ⟨h.2 0 _ rfl, h.2 1 _ rfl, h.2 2 _ rfl, h.2 3 _ rfl, h.2 4 _ rfl⟩

theorem Holds.at9 {w : World} {g : Nat} {c0 c1 c2 c3 c4 c5 c6 c7 c8 : Value} (h : Holds w g #[c0, c1, c2, c3, c4, c5, c6, c7, c8]) : w.cell? ⟨g, 0, none⟩ = some c0 ∧ w.cell? ⟨g, 1, none⟩ = some c1 ∧ w.cell? ⟨g, 2, none⟩ = some c2 ∧ w.cell? ⟨g, 3, none⟩ = some c3 ∧ w.cell? ⟨g, 4, none⟩ = some c4 ∧ w.cell? ⟨g, 5, none⟩ = some c5 ∧ w.cell? ⟨g, 6, none⟩ = some c6 ∧ w.cell? ⟨g, 7, none⟩ = some c7 ∧ w.cell? ⟨g, 8, none⟩ = some c8 := ⟨h.2 0 _ rfl, h.2 1 _ rfl, h.2 2 _ rfl, h.2 3 _ rfl, h.2 4 _ rfl, h.2 5 _ rfl, h.2 6 _ rfl, h.2 7 _ rfl, h.2 8 _ rfl⟩

theorem Loose.putM {w : World} {g k j : Nat} (h : Loose w k) (v : Value) : Loose (w.setCell ⟨g, j, none⟩ v) k := fun i => by rw [World.frozen?_setCell]; exact h i
theorem Loose.wr2 {w : World} {g k : Nat} (h : Loose w k) (a0 a1 : Value) : Loose ((w.setCell ⟨g, 0, none⟩ a0).setCell ⟨g, 1, none⟩ a1) k := ((h.putM a0).putM a1)
theorem Loose.wr3 {w : World} {g k : Nat} (h : Loose w k) (a0 a1 a2 : Value) : Loose (((w.setCell ⟨g, 0, none⟩ a0).setCell ⟨g, 1, none⟩ a1).setCell ⟨g, 2, none⟩ a2) k := (((h.putM a0).putM a1).putM a2)
theorem Loose.wr5 {w : World} {g k : Nat} (h : Loose w k) (a0 a1 a2 a3 a4 : Value) : Loose (((((w.setCell ⟨g, 0, none⟩ a0).setCell ⟨g, 1, none⟩ a1).setCell ⟨g, 2, none⟩ a2).setCell ⟨g, 3, none⟩ a3).setCell ⟨g, 4, none⟩ a4) k := (((((h.putM a0).putM a1).putM a2).putM a3).putM a4)
end Go.Proofs.YtblcgbgcccjpcaaGreat
namespace Go.Proofs
open Go.Shelf
open Go.RowKit
open Go.RowKit Go.Sort
open Go.Sort Go.RowKit
def Tryz.laysM316_ren : Go.Shelf.Ren := ⟨fun | 316 => 197 | n => n, fun | 9 => 9 | 3 => 3 | 4 => 4 | 37 => 22 | 0 => 0 | 127 => 271 | 5 => 5 | n => n, fun | n => n⟩
theorem Tryz.laysM316 : Go.Proofs.LaysM.n316 Tryz.prog Tryz.laysM316_ren := {
  mixed := by kernel_rfl
  f316 := Tryz.func197.trans (congrArg some (by kernel_rfl))
  t0 := Tryz.underlying0
  a0 := Tryz.isAgg0
  z0 := Tryz.sizeOf0
  v0 := Tryz.zeroValue0
  t3 := Tryz.underlying3
  a3 := Tryz.isAgg3
  z3 := Tryz.sizeOf3
  v3 := Tryz.zeroValue3
  t4 := Tryz.underlying4
  a4 := Tryz.isAgg4
  z4 := Tryz.sizeOf4
  v4 := Tryz.zeroValue4
  t9 := Tryz.underlying9
  a9 := Tryz.isAgg9
  z9 := Tryz.sizeOf9
  v9 := Tryz.zeroValue9
  t37 := Tryz.underlying22
  a37 := Tryz.isAgg22
  z37 := Tryz.sizeOf22
  v37 := Tryz.zeroValue22
  t127 := Tryz.underlying271
  a127 := Tryz.isAgg271
  z127 := Tryz.sizeOf271
  v127 := Tryz.zeroValue271
  t5 := Tryz.underlying5
  a5 := Tryz.isAgg5
  z5 := Tryz.sizeOf5
  v5 := Tryz.zeroValue5
  i0 := by kernel_rfl
  i3 := by kernel_rfl
  i4 := by kernel_rfl
  i5 := by kernel_rfl
  i9 := by kernel_rfl
  i37 := by kernel_rfl
  i127 := by kernel_rfl }
theorem Tryz.stringslite_Clone (s : ByteArray) (w : World) (hlim : s.size ≤ 281474976710656) :
    Calls Tryz.prog 197 #[.string s] w fun e w' => e = .returned (.string s) ∧ Below w.heap.size w w' := Any.stringslite_Clone Tryz.laysM316 s w hlim
end Go.Proofs
