/- Proved, in parts: Proved: how long what is cut off a roll is at most; no program is named here; no condition. -/
import Derived.Test.YtkpbfocnokbmiaaPart13
namespace Go.Proofs.Ytkpbfocnokbmiaa
open Go.RowKit
theorem M.cut_len (b r : Int) (l : List M.En) (i : Int) : (M.cut b r l i).1.2.2.length ≤ l.length := by
  unfold M.cut
  split
  · split
    · show (l.drop _).length ≤ _
      rw [List.length_drop]; omega
    · exact Nat.le_refl _
  · simp
theorem RcRet.open {w y : World} {B R : Int} {q : List M.En} {t : Bool} {e : Ending} (h : RcRet w ((B, R, q), t) e y) : ∃ A c, e = .returned (.tuple #[roV B R A q.length c, .bool t]) ∧ EnsOwn w.heap.size y (.slice A q.length c) q ∧ Below w.heap.size w y := h
end Go.Proofs.Ytkpbfocnokbmiaa
