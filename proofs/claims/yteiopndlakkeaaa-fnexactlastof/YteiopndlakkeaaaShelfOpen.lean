/- Proved: an argument that is a slice of works is a list of them, each with its copies; no program is named here. -/
import Derived.Test.YteiopndlakkeaaaShelfMem
import Derived.Test.YteiopndlakkeaaaOpenRows
namespace Go.Proofs.Yteiopndlakkeaaa
open Go.ChangeShapes Go.WideShapes Go.ChangeAt Go.RowKit Go.Joins Go.Deep
section
variable {H : Type} {enc : TypeId × Value → H} {P : Program} {w : World} {base : Nat} {spare : Nat → Bool} {held : Bool}

theorem cells_wr {t tc te : TypeId} {h0 h1 h2 f0 f1 f2 g0 g1 g2 : Field} {n : Nat} {cs : List Value} {x : DataW H × List MemPlace} (hs : P.underlying t = some (.struct #[h0, h1, h2])) (hC : P.cellsOf t = 3)
    (so : [h0.offset, h1.offset, h2.offset] = [0, 1, 2]) (sk : [P.cellsOf h0.type, P.cellsOf h1.type, P.cellsOf h2.type] = [1, 1, 1])
    (y0 : P.underlying h0.type = some .string) (y1 : P.underlying h1.type = some (.int .i64)) (y2 : h2.type = tc) (y3 : P.underlying tc = some (.slice te))
    (hcs : P.underlying te = some (.struct #[f0, f1, f2])) (hcC : P.cellsOf te = 5)
    (ho : [f0.offset, f1.offset, f2.offset] = [0, 3, 4]) (hk : [P.cellsOf f0.type, P.cellsOf f1.type, P.cellsOf f2.type] = [3, 1, 1])
    (u0 : P.underlying f0.type = some (.struct #[g0, g1, g2])) (u1 : P.underlying f1.type = some .string) (u2 : P.underlying f2.type = some .bool)
    (po : [g0.offset, g1.offset, g2.offset] = [0, 1, 2]) (pk : [P.cellsOf g0.type, P.cellsOf g1.type, P.cellsOf g2.type] = [1, 1, 1])
    (x0 : P.underlying g0.type = some (.int .i64)) (x1 : P.underlying g1.type = some (.int .i64)) (x2 : P.underlying g2.type = some (.int .i64))
    (h : DataW.trod enc P w base spare held n t cs = some x) :
    ∃ r : Wr, cs = wrL r ∧ Cps w r.ad r.cps ∧ r.name.size ≤ maxLen ∧ r.cps.length ≤ maxLen ∧ ∀ c ∈ r.cps, c.page.size ≤ maxLen := by
  obtain ⟨xs, n, _, hx, hl, hlen, hg⟩ := DataW.trod_struct hs h
  simp only [List.cons.injEq, and_true] at so sk
  obtain ⟨p0, p1, p2⟩ := so
  obtain ⟨q0, q1, q2⟩ := sk
  match cs, hl.trans hC with
  | [c0, c1, c2], _ =>
    match xs, hlen with
    | [z0, z1, z2], _ =>
      have i0 := hg 0 h0 rfl
      have i1 := hg 1 h1 rfl
      have i2 := hg 2 h2 rfl
      simp only [p0, p1, p2, q0, q1, q2, List.drop_zero, List.drop_succ_cons, List.take_succ_cons, List.take_zero, List.getElem?_cons_zero, List.getElem?_cons_succ] at i0 i1 i2
      obtain ⟨s, j0, _, hss⟩ := DataW.trod_string y0 i0
      obtain ⟨b, j1, _⟩ := DataW.trod_int y1 i1
      rw [y2] at i2
      haveI : Inhabited M.Cp := ⟨M.zeroCp⟩
      obtain ⟨A, l, c, j2, hfl, hlc, hcm, hq⟩ := open_rows (en := cpL) (Q := fun c => c.page.size ≤ maxLen) y3 hcC (by omega) cpL_len (fun n cs x hx => cells_cp hcs hcC ho hk u0 u1 u2 po pk x0 x1 x2 hx) i2
      simp only [List.cons.injEq, and_true] at j0 j1 j2
      subst j0 j1 j2
      exact ⟨⟨s, b, A, c, l⟩, rfl, hfl, hss, by simp only; omega, hq⟩

theorem open_sf {r : Reach} {b0 : Nat} {ts t tc te : TypeId} {h0 h1 h2 f0 f1 f2 g0 g1 g2 : Field} {v : Value} {d : DataW H} {p : List MemPlace} (hts : P.underlying ts = some (.slice t)) (hs : P.underlying t = some (.struct #[h0, h1, h2])) (hC : P.cellsOf t = 3)
    (so : [h0.offset, h1.offset, h2.offset] = [0, 1, 2]) (sk : [P.cellsOf h0.type, P.cellsOf h1.type, P.cellsOf h2.type] = [1, 1, 1])
    (y0 : P.underlying h0.type = some .string) (y1 : P.underlying h1.type = some (.int .i64)) (y2 : h2.type = tc) (y3 : P.underlying tc = some (.slice te))
    (hcs : P.underlying te = some (.struct #[f0, f1, f2])) (hcC : P.cellsOf te = 5)
    (ho : [f0.offset, f1.offset, f2.offset] = [0, 3, 4]) (hk : [P.cellsOf f0.type, P.cellsOf f1.type, P.cellsOf f2.type] = [3, 1, 1])
    (u0 : P.underlying f0.type = some (.struct #[g0, g1, g2])) (u1 : P.underlying f1.type = some .string) (u2 : P.underlying f2.type = some .bool)
    (po : [g0.offset, g1.offset, g2.offset] = [0, 1, 2]) (pk : [P.cellsOf g0.type, P.cellsOf g1.type, P.cellsOf g2.type] = [1, 1, 1])
    (x0 : P.underlying g0.type = some (.int .i64)) (x1 : P.underlying g1.type = some (.int .i64)) (x2 : P.underlying g2.type = some (.int .i64))
    (hv : Value.okWide P w r b0 ts v) (h : DataW.Trod enc P w base spare held ts v d p) :
    ∃ (A : Option Addr) (l : List Wr) (c : Nat), v = .slice A l.length c ∧ Wks w A l ∧ l.length ≤ maxLen ∧ WrsIn maxLen l := by
  obtain ⟨a0, len0, cap0, rfl⟩ := okWide_slice hts hv
  obtain ⟨fuel, hf⟩ := h
  obtain ⟨A, l, c, hcell, hfl, hlc, hcm, hq⟩ := open_rows (en := wrL) (Q := fun r => Cps w r.ad r.cps ∧ r.name.size ≤ maxLen ∧ r.cps.length ≤ maxLen ∧ ∀ c ∈ r.cps, c.page.size ≤ maxLen) hts hC (by omega) wrL_len (fun n cs x hx => cells_wr hs hC so sk y0 y1 y2 y3 hcs hcC ho hk u0 u1 u2 po pk x0 x1 x2 hx) hf
  simp [Value.cells] at hcell
  obtain ⟨rfl, rfl, rfl⟩ := hcell
  exact ⟨_, l, _, rfl, ⟨hfl, fun r hr => (hq r hr).1⟩, by omega, fun r hr => (hq r hr).2⟩
end
end Go.Proofs.Yteiopndlakkeaaa
