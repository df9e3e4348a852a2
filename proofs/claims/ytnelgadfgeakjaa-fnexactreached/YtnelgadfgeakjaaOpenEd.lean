/- Proved: an argument that is an edition is three numbers; no program is named here. -/
import Derived.Test.YtnelgadfgeakjaaEdMath
import Derived.WalkKit
import Derived.Lib.SmallJoins
import Derived.Test.YtnelgadfgeakjaaEdWalks
namespace Go.Proofs.Ytnelgadfgeakjaa
open Go.ChangeShapes Go.WideShapes Go.ChangeAt Go.RowKit Go.Joins Go.Deep

theorem open_ed {H : Type} {enc : TypeId × Value → H} {P : Program} {w : World} {base : Nat} {spare : Nat → Bool} {held : Bool} {r : Reach} {b0 : Nat} {t : TypeId} {f0 f1 f2 : Field} {v : Value} {d : DataW H} {p : List MemPlace}
    (hs : P.underlying t = some (.struct #[f0, f1, f2])) (hone : oneCellFields P #[f0, f1, f2] = true) (hC : P.cellsOf t = 3)
    (h0 : P.underlying f0.type = some (.int .i64)) (h1 : P.underlying f1.type = some (.int .i64)) (h2 : P.underlying f2.type = some (.int .i64))
    (hv : Value.okWide P w r b0 t v) (h : DataW.Trod enc P w base spare held t v d p) : ∃ e : M.Ed, v = edV e := by
  obtain ⟨v0, v1, v2, y0, y1, y2, n, rfl, _, _, t0, t1, t2⟩ := open_agg3 hs hone hC hv h
  obtain ⟨a, ea, _⟩ := DataW.trod_int h0 t0
  obtain ⟨b, eb, _⟩ := DataW.trod_int h1 t1
  obtain ⟨c, ec, _⟩ := DataW.trod_int h2 t2
  simp at ea eb ec
  subst ea eb ec
  exact ⟨⟨a, b, c⟩, rfl⟩
end Go.Proofs.Ytnelgadfgeakjaa
