/- Proved, in parts: Proved: an argument that is an order is its nine cells; the cells of a deed and of a last; no program is named here. Proved: an argument that is an entry is its reign and its order, a slice of entries a list of them; no program is named here. Proved: an argument that is a roll is its base, its reign and a list of entries; no program is named here. -/
import Derived.Test.YtkpbfocnokbmiaaPart04
import Derived.Test.YtkpbfocnokbmiaaPart15
import Derived.Test.YtkpbfocnokbmiaaPart09
import Derived.Test.YtkpbfocnokbmiaaPart10
namespace Go.Proofs.Ytkpbfocnokbmiaa
open Go.ChangeShapes Go.WideShapes Go.ChangeAt Go.RowKit Go.Joins Go.Deep
section
variable {H : Type} {enc : TypeId × Value → H} {P : Program} {w : World} {base : Nat} {spare : Nat → Bool} {held : Bool}
/-- That t is a deed's type. -/
structure DdTy (P : Program) (t : TypeId) (f0 f1 f2 f3 f4 g0 g1 g2 : Field) : Prop where
  hs : P.underlying t = some (.struct #[f0, f1, f2, f3, f4])
  hC : P.cellsOf t = 7
  ho : [f0.offset, f1.offset, f2.offset, f3.offset, f4.offset] = [0, 1, 2, 5, 6]
  hk : [P.cellsOf f0.type, P.cellsOf f1.type, P.cellsOf f2.type, P.cellsOf f3.type, P.cellsOf f4.type] = [1, 1, 3, 1, 1]
  u0 : P.underlying f0.type = some (.int .i64)
  u1 : P.underlying f1.type = some .string
  u2 : P.underlying f2.type = some (.struct #[g0, g1, g2])
  u3 : P.underlying f3.type = some .string
  u4 : P.underlying f4.type = some (.int .i64)
  po : [g0.offset, g1.offset, g2.offset] = [0, 1, 2]
  pk : [P.cellsOf g0.type, P.cellsOf g1.type, P.cellsOf g2.type] = [1, 1, 1]
  x0 : P.underlying g0.type = some (.int .i64)
  x1 : P.underlying g1.type = some (.int .i64)
  x2 : P.underlying g2.type = some (.int .i64)
theorem cells_dd {t : TypeId} {f0 f1 f2 f3 f4 g0 g1 g2 : Field} {n : Nat} {cs : List Value} {x : DataW H × List MemPlace} (T : DdTy P t f0 f1 f2 f3 f4 g0 g1 g2)
    (h : DataW.trod enc P w base spare held n t cs = some x) : ∃ e : M.Dd, cs = (ddC e).toList ∧ e.name.size ≤ maxLen ∧ e.page.size ≤ maxLen := by
  obtain ⟨zs, m, _, _, hl, hlen', hfld'⟩ := DataW.trod_struct T.hs h
  have ho := T.ho
  have hk := T.hk
  simp only [List.cons.injEq, and_true] at ho hk
  obtain ⟨o0, o1, o2, o3, o4⟩ := ho
  obtain ⟨k0, k1, k2, k3, k4⟩ := hk
  match cs, hl.trans T.hC with
  | [c0, c1, c2, c3, c4, c5, c6], _ =>
    match zs, hlen' with
    | [y0, y1, y2, y3, y4], _ =>
      have h0 := hfld' 0 f0 rfl
      have h1 := hfld' 1 f1 rfl
      have h2 := hfld' 2 f2 rfl
      have h3 := hfld' 3 f3 rfl
      have h4 := hfld' 4 f4 rfl
      simp only [o0, o1, o2, o3, o4, k0, k1, k2, k3, k4, List.drop_zero, List.drop_succ_cons, List.take_succ_cons, List.take_zero, List.getElem?_cons_zero, List.getElem?_cons_succ] at h0 h1 h2 h3 h4
      obtain ⟨a0, e0, _⟩ := DataW.trod_int T.u0 h0
      obtain ⟨a1, e1, _, s1⟩ := DataW.trod_string T.u1 h1
      obtain ⟨a2, e2⟩ := cells_ed T.u2 k2 T.po T.pk T.x0 T.x1 T.x2 h2
      obtain ⟨a3, e3, _, s3⟩ := DataW.trod_string T.u3 h3
      obtain ⟨a4, e4, _⟩ := DataW.trod_int T.u4 h4
      simp only [List.cons.injEq, and_true] at e0 e1 e2 e3 e4
      obtain ⟨rfl, rfl, rfl⟩ := e2
      subst e0 e1 e3 e4
      exact ⟨⟨a0, a1, a2, a3, a4⟩, rfl, s1, s3⟩
theorem cells_or {t : TypeId} {h0 h1 h2 f0 f1 f2 f3 f4 g0 g1 g2 : Field} {n : Nat} {cs : List Value} {x : DataW H × List MemPlace} (hs : P.underlying t = some (.struct #[h0, h1, h2])) (hC : P.cellsOf t = 9)
    (so : [h0.offset, h1.offset, h2.offset] = [0, 1, 2]) (sk : [P.cellsOf h0.type, P.cellsOf h1.type, P.cellsOf h2.type] = [1, 1, 7])
    (y0 : P.underlying h0.type = some (.int .i64)) (y1 : P.underlying h1.type = some (.int .i64)) (T : DdTy P h2.type f0 f1 f2 f3 f4 g0 g1 g2)
    (h : DataW.trod enc P w base spare held n t cs = some x) : ∃ o : M.Or, cs = (orC o).toList ∧ o.deed.name.size ≤ maxLen ∧ o.deed.page.size ≤ maxLen := by
  obtain ⟨zs, m, _, _, hl, hlen', hfld'⟩ := DataW.trod_struct hs h
  simp only [List.cons.injEq, and_true] at so sk
  obtain ⟨o0, o1, o2⟩ := so
  obtain ⟨k0, k1, k2⟩ := sk
  match cs, hl.trans hC with
  | [c0, c1, c2, c3, c4, c5, c6, c7, c8], _ =>
    match zs, hlen' with
    | [z0, z1, z2], _ =>
      have i0 := hfld' 0 h0 rfl
      have i1 := hfld' 1 h1 rfl
      have i2 := hfld' 2 h2 rfl
      simp only [o0, o1, o2, k0, k1, k2, List.drop_zero, List.drop_succ_cons, List.take_succ_cons, List.take_zero, List.getElem?_cons_zero, List.getElem?_cons_succ] at i0 i1 i2
      obtain ⟨a0, e0, _⟩ := DataW.trod_int y0 i0
      obtain ⟨a1, e1, _⟩ := DataW.trod_int y1 i1
      obtain ⟨d, e2, s1, s3⟩ := cells_dd T i2
      simp only [List.cons.injEq, and_true] at e0 e1 e2
      subst e0 e1
      obtain ⟨rfl, rfl, rfl, rfl, rfl, rfl, rfl⟩ := e2
      exact ⟨⟨a0, a1, d⟩, rfl, s1, s3⟩
/-- That the types are those of works (in a list) and of lasts (in a list). -/
structure SfTy (P : Program) (ts t tc te : TypeId) (h0 h1 h2 f0 f1 f2 g0 g1 g2 : Field) : Prop where
  hts : P.underlying ts = some (.slice t)
  hs : P.underlying t = some (.struct #[h0, h1, h2])
  hC : P.cellsOf t = 3
  so : [h0.offset, h1.offset, h2.offset] = [0, 1, 2]
  sk : [P.cellsOf h0.type, P.cellsOf h1.type, P.cellsOf h2.type] = [1, 1, 1]
  y0 : P.underlying h0.type = some .string
  y1 : P.underlying h1.type = some (.int .i64)
  y2 : h2.type = tc
  y3 : P.underlying tc = some (.slice te)
  hcs : P.underlying te = some (.struct #[f0, f1, f2])
  hcC : P.cellsOf te = 5
  ho : [f0.offset, f1.offset, f2.offset] = [0, 3, 4]
  hk : [P.cellsOf f0.type, P.cellsOf f1.type, P.cellsOf f2.type] = [3, 1, 1]
  u0 : P.underlying f0.type = some (.struct #[g0, g1, g2])
  u1 : P.underlying f1.type = some .string
  u2 : P.underlying f2.type = some .bool
  po : [g0.offset, g1.offset, g2.offset] = [0, 1, 2]
  pk : [P.cellsOf g0.type, P.cellsOf g1.type, P.cellsOf g2.type] = [1, 1, 1]
  x0 : P.underlying g0.type = some (.int .i64)
  x1 : P.underlying g1.type = some (.int .i64)
  x2 : P.underlying g2.type = some (.int .i64)
structure LaTy (P : Program) (ts t : TypeId) (h0 h1 h2 g0 g1 : Field) : Prop where
  hts : P.underlying ts = some (.slice t)
  hs : P.underlying t = some (.struct #[h0, h1, h2])
  hC : P.cellsOf t = 4
  so : [h0.offset, h1.offset, h2.offset] = [0, 1, 2]
  sk : [P.cellsOf h0.type, P.cellsOf h1.type, P.cellsOf h2.type] = [1, 1, 2]
  y0 : P.underlying h0.type = some (.int .i64)
  y1 : P.underlying h1.type = some (.int .i64)
  y2 : P.underlying h2.type = some (.struct #[g0, g1])
  po : [g0.offset, g1.offset] = [0, 1]
  pk : [P.cellsOf g0.type, P.cellsOf g1.type] = [1, 1]
  x0 : P.underlying g0.type = some (.int .i64)
  x1 : P.underlying g1.type = some .string
end
end Go.Proofs.Ytkpbfocnokbmiaa
namespace Go.Proofs.Ytkpbfocnokbmiaa
open Go.ChangeShapes Go.WideShapes Go.ChangeAt Go.RowKit Go.Joins Go.Deep
structure OrTy (P : Program) (t : TypeId) (h0 h1 h2 f0 f1 f2 f3 f4 g0 g1 g2 : Field) : Prop where
  hs : P.underlying t = some (.struct #[h0, h1, h2])
  hC : P.cellsOf t = 9
  so : [h0.offset, h1.offset, h2.offset] = [0, 1, 2]
  sk : [P.cellsOf h0.type, P.cellsOf h1.type, P.cellsOf h2.type] = [1, 1, 7]
  y0 : P.underlying h0.type = some (.int .i64)
  y1 : P.underlying h1.type = some (.int .i64)
  T : DdTy P h2.type f0 f1 f2 f3 f4 g0 g1 g2
section
variable {H : Type} {enc : TypeId × Value → H} {P : Program} {w : World} {base : Nat} {spare : Nat → Bool} {held : Bool}
theorem cells_en {t : TypeId} {e0 e1 h0 h1 h2 f0 f1 f2 f3 f4 g0 g1 g2 : Field} {n : Nat} {cs : List Value} {x : DataW H × List MemPlace} (hs : P.underlying t = some (.struct #[e0, e1])) (hC : P.cellsOf t = 10)
    (so : [e0.offset, e1.offset] = [0, 1]) (sk : [P.cellsOf e0.type, P.cellsOf e1.type] = [1, 9])
    (y0 : P.underlying e0.type = some (.int .i64)) (T : OrTy P e1.type h0 h1 h2 f0 f1 f2 f3 f4 g0 g1 g2)
    (h : DataW.trod enc P w base spare held n t cs = some x) : ∃ e : M.En, cs = enL e ∧ enIn maxLen e := by
  obtain ⟨zs, m, _, _, hl, hlen', hfld'⟩ := DataW.trod_struct hs h
  simp only [List.cons.injEq, and_true] at so sk
  obtain ⟨o0, o1⟩ := so
  obtain ⟨k0, k1⟩ := sk
  match cs, hl.trans hC with
  | [c0, c1, c2, c3, c4, c5, c6, c7, c8, c9], _ =>
    match zs, hlen' with
    | [z0, z1], _ =>
      have i0 := hfld' 0 e0 rfl
      have i1 := hfld' 1 e1 rfl
      simp only [o0, o1, k0, k1, List.drop_zero, List.drop_succ_cons, List.take_succ_cons, List.take_zero, List.getElem?_cons_zero, List.getElem?_cons_succ] at i0 i1
      obtain ⟨a0, q0, _⟩ := DataW.trod_int y0 i0
      obtain ⟨o, q1, s1, s3⟩ := cells_or T.hs T.hC T.so T.sk T.y0 T.y1 T.T i1
      simp only [List.cons.injEq, and_true] at q0 q1
      subst q0
      obtain ⟨rfl, rfl, rfl, rfl, rfl, rfl, rfl, rfl, rfl⟩ := q1
      exact ⟨⟨a0, o⟩, rfl, s1, s3⟩
end
end Go.Proofs.Ytkpbfocnokbmiaa
namespace Go.Proofs.Ytkpbfocnokbmiaa
open Go.ChangeShapes Go.WideShapes Go.ChangeAt Go.RowKit Go.Joins Go.Deep
section
variable {H : Type} {enc : TypeId × Value → H} {P : Program} {w : World} {base : Nat} {spare : Nat → Bool} {held : Bool}
theorem cells_ro {t ts te : TypeId} {r0 r1 r2 e0 e1 h0 h1 h2 f0 f1 f2 f3 f4 g0 g1 g2 : Field} {n : Nat} {cs : List Value} {x : DataW H × List MemPlace} (hr : P.underlying t = some (.struct #[r0, r1, r2])) (hrC : P.cellsOf t = 3)
    (ro : [r0.offset, r1.offset, r2.offset] = [0, 1, 2]) (rk : [P.cellsOf r0.type, P.cellsOf r1.type, P.cellsOf r2.type] = [1, 1, 1]) (x0 : P.underlying r0.type = some (.int .i64)) (x1 : P.underlying r1.type = some (.int .i64)) (et : r2.type = ts)
    (hts : P.underlying ts = some (.slice te)) (hs : P.underlying te = some (.struct #[e0, e1])) (hC : P.cellsOf te = 10)
    (so : [e0.offset, e1.offset] = [0, 1]) (sk : [P.cellsOf e0.type, P.cellsOf e1.type] = [1, 9])
    (y0 : P.underlying e0.type = some (.int .i64)) (T : OrTy P e1.type h0 h1 h2 f0 f1 f2 f3 f4 g0 g1 g2)
    (h : DataW.trod enc P w base spare held n t cs = some x) : ∃ (b r : Int) (A : Option Addr) (l : List M.En) (c : Nat), cs = [.int .i64 b, .int .i64 r, .slice A l.length c] ∧ Ens w A l ∧ l.length ≤ maxLen ∧ ∀ e ∈ l, enIn maxLen e := by
  haveI : Inhabited M.En := ⟨⟨0, ⟨0, 0, ⟨0, ⟨#[]⟩, ⟨0, 0, 0⟩, ⟨#[]⟩, 0⟩⟩⟩⟩
  obtain ⟨zs, m, _, _, hl, hlen', hfld'⟩ := DataW.trod_struct hr h
  simp only [List.cons.injEq, and_true] at ro rk
  obtain ⟨o0, o1, o2⟩ := ro
  obtain ⟨k0, k1, k2⟩ := rk
  match cs, hl.trans hrC with
  | [c0, c1, c2], _ =>
    match zs, hlen' with
    | [z0, z1, z2], _ =>
      have i0 := hfld' 0 r0 rfl
      have i1 := hfld' 1 r1 rfl
      have i2 := hfld' 2 r2 rfl
      simp only [o0, o1, o2, k0, k1, k2, List.drop_zero, List.drop_succ_cons, List.take_succ_cons, List.take_zero, List.getElem?_cons_zero, List.getElem?_cons_succ] at i0 i1 i2
      obtain ⟨a0, q0, _⟩ := DataW.trod_int x0 i0
      obtain ⟨a1, q1, _⟩ := DataW.trod_int x1 i1
      rw [et] at i2
      obtain ⟨A, l, c, hcell, hfl, hlc, hcm, hq⟩ := open_rows (en := enL) (Q := fun e => enIn maxLen e) hts hC (by omega) enL_len (fun n cs x hx => cells_en hs hC so sk y0 T hx) i2
      simp only [List.cons.injEq, and_true] at q0 q1 hcell
      subst q0 q1 hcell
      exact ⟨a0, a1, A, l, c, rfl, hfl, by omega, hq⟩
theorem open_ro {r : Reach} {b0 : Nat} {t ts te : TypeId} {r0 r1 r2 e0 e1 h0 h1 h2 f0 f1 f2 f3 f4 g0 g1 g2 : Field} {v : Value} {d : DataW H} {p : List MemPlace} (hr : P.underlying t = some (.struct #[r0, r1, r2])) (hrC : P.cellsOf t = 3)
    (ro : [r0.offset, r1.offset, r2.offset] = [0, 1, 2]) (rk : [P.cellsOf r0.type, P.cellsOf r1.type, P.cellsOf r2.type] = [1, 1, 1]) (x0 : P.underlying r0.type = some (.int .i64)) (x1 : P.underlying r1.type = some (.int .i64)) (et : r2.type = ts)
    (hts : P.underlying ts = some (.slice te)) (hs : P.underlying te = some (.struct #[e0, e1])) (hC : P.cellsOf te = 10)
    (so : [e0.offset, e1.offset] = [0, 1]) (sk : [P.cellsOf e0.type, P.cellsOf e1.type] = [1, 9])
    (y0 : P.underlying e0.type = some (.int .i64)) (T : OrTy P e1.type h0 h1 h2 f0 f1 f2 f3 f4 g0 g1 g2)
    (hv : Value.okWide P w r b0 t v) (h : DataW.Trod enc P w base spare held t v d p) : ∃ (b r : Int) (A : Option Addr) (l : List M.En) (c : Nat), v = roV b r A l.length c ∧ Ens w A l ∧ l.length ≤ maxLen ∧ ∀ e ∈ l, enIn maxLen e := by
  obtain ⟨cs, rfl, hsz⟩ := okWide_struct hr hv
  obtain ⟨fuel, hf⟩ := h
  obtain ⟨b, r, A, l, c, he, h1⟩ := cells_ro hr hrC ro rk x0 x1 et hts hs hC so sk y0 T hf
  refine ⟨b, r, A, l, c, ?_, h1⟩
  obtain ⟨q⟩ := cs
  simp only [Value.cells] at he
  rw [he]
end
end Go.Proofs.Ytkpbfocnokbmiaa
