/- Proved: the laws' own tests tell a copy, a list of copies and a work like themselves; they write nothing that was there. No condition. -/
import Derived.Test.YtkpbfocnokbmiaaWorkTo
import Derived.Test.YtkpbfocnokbmiaaEqEd
import Derived.StillTailTactics
namespace Go.Proofs.Ytkpbfocnokbmiaa
open Go.RowKit
set_option maxRecDepth 20000

/-- A row of one's own, read as copies. -/
theorem own_at {w : World} {base e g c : Nat} {l : List M.Cp} (h : w.ownsRow base e 5 (.slice (some ⟨g, 0, none⟩) l.length c) l.length (cellsOf cpL l)) : Cps w (some ⟨g, 0, none⟩) l := by
  obtain ⟨A, c', hv, _, hf⟩ := own_flat cpL_len h
  have hA : some ⟨g, 0, none⟩ = A := by injection hv
  rw [hA]; exact hf

end Go.Proofs.Ytkpbfocnokbmiaa
