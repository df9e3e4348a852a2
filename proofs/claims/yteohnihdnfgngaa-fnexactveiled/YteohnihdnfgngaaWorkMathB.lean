/- Proved: plain facts on works that are veiled or printed; no program is named here; no condition. -/
import Derived.Test.YteohnihdnfgngaaWorkMath
import Derived.Test.YteohnihdnfgngaaFlatApp
namespace Go.Proofs.Yteohnihdnfgngaa
namespace M

/-- The copies with one of them hidden so. -/
def veilAt (l : List Cp) (k : Nat) (h : Bool) : List Cp := l.modify k fun c => { c with hidden := h }
theorem veilAt_len (l : List Cp) (k : Nat) (h : Bool) : (veilAt l k h).length = l.length := by simp [veilAt]
def veiled (w : Wk) (e : Ed) (h : Bool) : Wk × Bool :=
  if wkOk w then (if findEd w.copies e < w.copies.length then ({ w with copies := veilAt w.copies (findEd w.copies e) h }, true) else (w, false)) else (zeroWk, false)
theorem veiled_bad {w : Wk} (e : Ed) (h : Bool) (hk : wkOk w = false) : veiled w e h = (zeroWk, false) := by simp [veiled, hk]
theorem veiled_none {w : Wk} {e : Ed} (h : Bool) (hk : wkOk w = true) (hf : findEd w.copies e = w.copies.length) : veiled w e h = (w, false) := by simp [veiled, hk, hf]
theorem veiled_some {w : Wk} {e : Ed} (h : Bool) (hk : wkOk w = true) (hf : findEd w.copies e < w.copies.length) : veiled w e h = ({ w with copies := veilAt w.copies (findEd w.copies e) h }, true) := by simp [veiled, hk, hf]
theorem veiled_len (w : Wk) (e : Ed) (h : Bool) : (veiled w e h).1.copies.length ≤ w.copies.length := by
  unfold veiled
  split
  · split
    · simp [veilAt]
    · exact Nat.le_refl _
  · exact Nat.zero_le _
end M

theorem veil_cells (l : List M.Cp) (k : Nat) (h : Bool) (hk : k < l.length) : (cellsOf cpL l).set (k * 5 + 4) (.bool h) = cellsOf cpL (M.veilAt l k h) := by
  induction l generalizing k with
  | nil => simp at hk
  | cons c l ih =>
    cases k with
    | zero => simp [cellsOf, M.veilAt]
    | succ k =>
      have := ih k (by simpa using hk)
      simp only [cellsOf, M.veilAt, List.flatMap_cons, List.modify_succ_cons] at this ⊢
      rw [← this, show (k + 1) * 5 + 4 = (cpL c).length + (k * 5 + 4) by simp [Nat.succ_mul]; omega, List.set_append_right _ _ (by omega), Nat.add_sub_cancel_left]
end Go.Proofs.Yteohnihdnfgngaa
