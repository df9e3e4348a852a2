/- Proved: an argument that is a deed is its seven cells; no program is named here. -/
import Derived.Test.YtdfbcebjgoodnaaDoorDeedWalks
import Derived.WalkKit
import Derived.Lib.SmallJoins
namespace Go.Proofs.YtdfbcebjgoodnaaDoor
open Go.ChangeShapes Go.WideShapes Go.ChangeAt Go.RowKit Go.Joins Go.Deep

theorem array7 {cs : Array Value} (h : cs.size = 7) : ∃ a b c d e f g, cs = #[a, b, c, d, e, f, g] := by
  rcases cs with ⟨l⟩
  match l, h with
  | [a, b, c, d, e, f, g], _ => exact ⟨a, b, c, d, e, f, g, rfl⟩

theorem open_dd {H : Type} {enc : TypeId × Value → H} {P : Program} {w : World} {base : Nat} {spare : Nat → Bool} {held : Bool} {r : Reach} {b0 : Nat} {t : TypeId} {f0 f1 f2 f3 f4 g0 g1 g2 : Field} {v : Value} {d : DataW H} {p : List MemPlace}
    (hs : P.underlying t = some (.struct #[f0, f1, f2, f3, f4])) (hC : P.cellsOf t = 7)
    (ho : [f0.offset, f1.offset, f2.offset, f3.offset, f4.offset] = [0, 1, 2, 5, 6]) (hk : [P.cellsOf f0.type, P.cellsOf f1.type, P.cellsOf f2.type, P.cellsOf f3.type, P.cellsOf f4.type] = [1, 1, 3, 1, 1])
    (u0 : P.underlying f0.type = some (.int .i64)) (u1 : P.underlying f1.type = some .string) (u2 : P.underlying f2.type = some (.struct #[g0, g1, g2])) (u3 : P.underlying f3.type = some .string) (u4 : P.underlying f4.type = some (.int .i64))
    (po : [g0.offset, g1.offset, g2.offset] = [0, 1, 2]) (pk : [P.cellsOf g0.type, P.cellsOf g1.type, P.cellsOf g2.type] = [1, 1, 1])
    (x0 : P.underlying g0.type = some (.int .i64)) (x1 : P.underlying g1.type = some (.int .i64)) (x2 : P.underlying g2.type = some (.int .i64))
    (hv : Value.okWide P w r b0 t v) (h : DataW.Trod enc P w base spare held t v d p) : ∃ e : M.Dd, v = ddV e ∧ e.name.size ≤ maxLen ∧ e.page.size ≤ maxLen := by
  obtain ⟨cs, rfl, hsz⟩ := okWide_struct hs hv
  obtain ⟨c0, c1, c2, c3, c4, c5, c6, rfl⟩ := array7 (hsz.trans hC)
  obtain ⟨fuel, hf⟩ := h
  obtain ⟨xs, n, rfl, hx, hl, hlen, hfld⟩ := DataW.trod_struct hs hf
  simp only [List.cons.injEq, and_true] at ho hk po pk
  obtain ⟨o0, o1, o2, o3, o4⟩ := ho
  obtain ⟨k0, k1, k2, k3, k4⟩ := hk
  match xs, hlen with
  | [y0, y1, y2, y3, y4], _ =>
    have h0 := hfld 0 f0 rfl
    have h1 := hfld 1 f1 rfl
    have h2 := hfld 2 f2 rfl
    have h3 := hfld 3 f3 rfl
    have h4 := hfld 4 f4 rfl
    simp only [Value.cells, o0, o1, o2, o3, o4, k0, k1, k2, k3, k4, List.drop_zero, List.drop_succ_cons, List.take_succ_cons, List.take_zero, List.getElem?_cons_zero, List.getElem?_cons_succ] at h0 h1 h2 h3 h4
    obtain ⟨a0, e0, _⟩ := DataW.trod_int u0 h0
    obtain ⟨a1, e1, _, s1⟩ := DataW.trod_string u1 h1
    obtain ⟨a3, e3, _, s3⟩ := DataW.trod_string u3 h3
    obtain ⟨a4, e4, _⟩ := DataW.trod_int u4 h4
    obtain ⟨zs, m, rfl, _, _, hlen', hfld'⟩ := DataW.trod_struct u2 h2
    obtain ⟨p0, p1, p2⟩ := po
    obtain ⟨q0, q1, q2⟩ := pk
    match zs, hlen' with
    | [z0, z1, z2], _ =>
      have i0 := hfld' 0 g0 rfl
      have i1 := hfld' 1 g1 rfl
      have i2 := hfld' 2 g2 rfl
      simp only [p0, p1, p2, q0, q1, q2, List.drop_zero, List.drop_succ_cons, List.take_succ_cons, List.take_zero, List.getElem?_cons_zero, List.getElem?_cons_succ] at i0 i1 i2
      obtain ⟨b0, j0, _⟩ := DataW.trod_int x0 i0
      obtain ⟨b1, j1, _⟩ := DataW.trod_int x1 i1
      obtain ⟨b2, j2, _⟩ := DataW.trod_int x2 i2
      simp only [List.cons.injEq, and_true] at e0 e1 e3 e4 j0 j1 j2
      subst e0 e1 e3 e4 j0 j1 j2
      exact ⟨⟨a0, a1, ⟨b0, b1, b2⟩, a3, a4⟩, rfl, s1, s3⟩
end Go.Proofs.YtdfbcebjgoodnaaDoor
