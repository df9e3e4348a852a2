/- Proved: the model's functions on editions answer plain Lean functions, at every edition; they write nothing that was there. -/
import Derived.Test.YtnelgadfgeakjaaSplitWalks
import Derived.Test.YtnelgadfgeakjaaEdMath
import Derived.Deep.RegionHeld3
import Derived.Deep.DeepCutAuto
namespace Go.Proofs.Ytnelgadfgeakjaa
open Go.RowKit

abbrev edV (e : M.Ed) : Value := .agg #[.int .i64 e.ma, .int .i64 e.mi, .int .i64 e.pa]

theorem in_i (x lo hi : Int) (w : World) : Calls Try.prog 36 #[.int .i64 x, .int .i64 lo, .int .i64 hi] w fun e w' => e = .returned (.bool (M.inI x lo hi)) ∧ w = w' := in_any x lo hi w

def dS (n : Nat) : ByteArray := ⟨(M.digs n).toArray⟩
theorem dS_list (n : Nat) : (dS n).data.toList = M.digs n := rfl
theorem dS_size (n : Nat) : (dS n).size ≤ 20 := M.digs_length n

theorem set3 {w w1 : World} (h : Below w.heap.size w w1) (x y z : Value) : Below w.heap.size w (((w1.setCell ⟨w.heap.size, 0, none⟩ x).setCell ⟨w.heap.size, 1, none⟩ y).setCell ⟨w.heap.size, 2, none⟩ z) :=
  ((h.setCell (Nat.le_refl _) _).setCell (Nat.le_refl _) _).setCell (Nat.le_refl _) _

theorem ret_ed {p : M.Ed × Bool} {a b c : Int} {k : Bool} (h : p = (⟨a, b, c⟩, k)) : Ending.returned (.tuple #[.agg #[.int .i64 a, .int .i64 b, .int .i64 c], .bool k]) = .returned (.tuple #[edV p.1, .bool p.2]) := by rw [h]

theorem strRow_three {B : Nat} {w : World} {v : Value} {ls : List (List UInt8)} {a b c : List UInt8} (h : StrRow B w v ls) (hl : ls = [a, b, c]) :
    ∃ g cap, v = .slice (some ⟨g, 0, none⟩) 3 cap ∧ B ≤ g ∧ g < w.heap.size ∧ w.cell? ⟨g, 0, none⟩ = some (.string ⟨a.toArray⟩) ∧ w.cell? ⟨g, 1, none⟩ = some (.string ⟨b.toArray⟩) ∧ w.cell? ⟨g, 2, none⟩ = some (.string ⟨c.toArray⟩) := by
  subst hl
  obtain ⟨g, cap, rfl, h0, h1, hc⟩ := h.open (by simp)
  exact ⟨g, cap, rfl, h0, h1, hc 0 (by simp), hc 1 (by simp), hc 2 (by simp)⟩

theorem edRead_other {l : List UInt8} (h : (M.split 46 l).length ≠ 3) : M.edRead l = (⟨0, 0, 0⟩, false) := by
  unfold M.edRead
  split
  · rename_i a b c e; rw [e] at h; exact absurd rfl h
  · rfl
theorem edRead_three {l a b c : List UInt8} (h : M.split 46 l = [a, b, c]) : M.edRead l = if (M.rd a).2 && (M.rd b).2 && (M.rd c).2 && M.edOk ⟨(M.rd a).1, (M.rd b).1, (M.rd c).1⟩ then (⟨(M.rd a).1, (M.rd b).1, (M.rd c).1⟩, true) else (⟨0, 0, 0⟩, false) := by
  unfold M.edRead; rw [h]; rfl

end Go.Proofs.Ytnelgadfgeakjaa
