/- Proved: plain facts on works that are veiled or printed; no program is named here; no condition. -/
import Derived.Test.YtepjpfiekchdmaaWorkMath
import Derived.Test.YtepjpfiekchdmaaFlatApp
namespace Go.Proofs.Ytepjpfiekchdmaa
namespace M

/-- The copies with one of them hidden so. -/
def veilAt (l : List Cp) (k : Nat) (h : Bool) : List Cp := l.modify k fun c => { c with hidden := h }
theorem veilAt_len (l : List Cp) (k : Nat) (h : Bool) : (veilAt l k h).length = l.length := by simp [veilAt]
def veiled (w : Wk) (e : Ed) (h : Bool) : Wk × Bool :=
  if wkOk w then (if findEd w.copies e < w.copies.length then ({ w with copies := veilAt w.copies (findEd w.copies e) h }, true) else (w, false)) else (zeroWk, false)
theorem veiled_bad {w : Wk} (e : Ed) (h : Bool) (hk : wkOk w = false) : veiled w e h = (zeroWk, false) := by simp [veiled, hk]
theorem veiled_none {w : Wk} {e : Ed} (h : Bool) (hk : wkOk w = true) (hf : findEd w.copies e = w.copies.length) : veiled w e h = (w, false) := by simp [veiled, hk, hf]
theorem veiled_some {w : Wk} {e : Ed} (h : Bool) (hk : wkOk w = true) (hf : findEd w.copies e < w.copies.length) : veiled w e h = ({ w with copies := veilAt w.copies (findEd w.copies e) h }, true) := by simp [veiled, hk, hf]
theorem veiled_len (w : Wk) (e : Ed) (h : Bool) : (veiled w e h).1.copies.length ≤ w.copies.length := by
  unfold veiled
  split
  · split
    · simp [veilAt]
    · exact Nat.le_refl _
  · exact Nat.zero_le _
/-- The copies with one more where it belongs. -/
def putAt (l : List Cp) (k : Nat) (c : Cp) : List Cp := l.take k ++ c :: l.drop k
theorem putAt_len (l : List Cp) (k : Nat) (c : Cp) (hk : k ≤ l.length) : (putAt l k c).length = l.length + 1 := by
  simp [putAt]; omega
/-- How many of the copies are older: all of the first ones. -/
def olderTo (l : List Cp) (e : Ed) : Nat := l.findIdx (notOlder e)
def printed (w : Wk) (e : Ed) (page : ByteArray) : Wk × Bool :=
  if wkOk w then
    (if findEd w.copies e < w.copies.length ∨ cpOk ⟨e, page, false⟩ = false ∨ w.copies.length = 8 then (w, false)
     else ({ w with copies := putAt w.copies (place w.copies e) ⟨e, page, false⟩ }, true))
  else (zeroWk, false)
theorem printed_bad {w : Wk} (e : Ed) (p : ByteArray) (hk : wkOk w = false) : printed w e p = (zeroWk, false) := by simp [printed, hk]
theorem printed_there {w : Wk} {e : Ed} (p : ByteArray) (hk : wkOk w = true) (h : findEd w.copies e < w.copies.length) : printed w e p = (w, false) := by
  unfold printed; rw [if_pos hk, if_pos (.inl h)]
theorem printed_wrong {w : Wk} {e : Ed} {p : ByteArray} (hk : wkOk w = true) (h : cpOk ⟨e, p, false⟩ = false) : printed w e p = (w, false) := by
  unfold printed; rw [if_pos hk, if_pos (.inr (.inl h))]
theorem printed_full {w : Wk} {e : Ed} (p : ByteArray) (hk : wkOk w = true) (h : w.copies.length = 8) : printed w e p = (w, false) := by
  unfold printed; rw [if_pos hk, if_pos (.inr (.inr h))]
theorem printed_put {w : Wk} {e : Ed} {p : ByteArray} (hk : wkOk w = true) (h1 : findEd w.copies e = w.copies.length) (h2 : cpOk ⟨e, p, false⟩ = true) (h3 : w.copies.length ≠ 8) :
    printed w e p = ({ w with copies := putAt w.copies (place w.copies e) ⟨e, p, false⟩ }, true) := by
  unfold printed; rw [if_pos hk, if_neg (by simp [h1, h2, h3])]
theorem place_le (l : List Cp) (e : Ed) : place l e ≤ l.length := List.findIdx_le_length
theorem printed_len (w : Wk) (e : Ed) (p : ByteArray) : (printed w e p).1.copies.length ≤ w.copies.length + 1 := by
  unfold printed
  split
  · split
    · exact Nat.le_succ _
    · show (putAt w.copies (place w.copies e) ⟨e, p, false⟩).length ≤ _
      rw [putAt_len _ _ _ (place_le _ _)]; exact Nat.le_refl _
  · exact Nat.zero_le _
end M

theorem veil_cells (l : List M.Cp) (k : Nat) (h : Bool) (hk : k < l.length) : (cellsOf cpL l).set (k * 5 + 4) (.bool h) = cellsOf cpL (M.veilAt l k h) := by
  induction l generalizing k with
  | nil => simp at hk
  | cons c l ih =>
    cases k with
    | zero => simp [cellsOf, M.veilAt]
    | succ k =>
      have := ih k (by simpa using hk)
      simp only [cellsOf, M.veilAt, List.flatMap_cons, List.modify_succ_cons] at this ⊢
      rw [← this, show (k + 1) * 5 + 4 = (cpL c).length + (k * 5 + 4) by simp [Nat.succ_mul]; omega, List.set_append_right _ _ (by omega), Nat.add_sub_cancel_left]
end Go.Proofs.Ytepjpfiekchdmaa
