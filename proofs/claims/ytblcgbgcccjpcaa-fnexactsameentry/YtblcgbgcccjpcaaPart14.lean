/- Proved, in parts: Proved: the laws' helpers on lists of records of the type Entry (their size, their copy, their likeness) answer plain Lean functions; they write nothing that was there. Condition: lists of at most a million. Proved: an argument that is an entry is its reign and its order, a slice of entries a list of them; no program is named here. -/
import Derived.Test.YtblcgbgcccjpcaaPart10
import Derived.Test.YtblcgbgcccjpcaaPart12
import Derived.Test.YtblcgbgcccjpcaaPart13
namespace Go.Proofs.Ytblcgbgcccjpcaa
open Go.RowKit
set_option maxRecDepth 20000
abbrev Ens (w : World) (A : Option Addr) (l : List M.En) : Prop := Flat enL 10 w A l
theorem Ens_at {w : World} {A : Option Addr} {l : List M.En} {i : Nat} (h : Ens w A l) (hi : i < l.length) : ∃ b o, A = some ⟨b, o, none⟩ ∧ b < w.heap.size ∧
    w.cell? ⟨b, o + i * 10, none⟩ = some (.int .i64 l[i].reign) ∧ w.cell? ⟨b, o + i * 10 + 1, none⟩ = some (.int .i64 l[i].order.client) ∧ w.cell? ⟨b, o + i * 10 + 2, none⟩ = some (.int .i64 l[i].order.seq) ∧ w.cell? ⟨b, o + i * 10 + 3, none⟩ = some (.int .i64 l[i].order.deed.kind) ∧ w.cell? ⟨b, o + i * 10 + 4, none⟩ = some (.string l[i].order.deed.name) ∧ w.cell? ⟨b, o + i * 10 + 5, none⟩ = some (.int .i64 l[i].order.deed.ed.ma) ∧ w.cell? ⟨b, o + i * 10 + 6, none⟩ = some (.int .i64 l[i].order.deed.ed.mi) ∧ w.cell? ⟨b, o + i * 10 + 7, none⟩ = some (.int .i64 l[i].order.deed.ed.pa) ∧ w.cell? ⟨b, o + i * 10 + 8, none⟩ = some (.string l[i].order.deed.page) ∧ w.cell? ⟨b, o + i * 10 + 9, none⟩ = some (.int .i64 l[i].order.deed.who) := by
  obtain ⟨b, o, rfl, hb, h⟩ := h.at hi
  exact ⟨b, o, rfl, hb, h 0 _ rfl, h 1 _ rfl, h 2 _ rfl, h 3 _ rfl, h 4 _ rfl, h 5 _ rfl, h 6 _ rfl, h 7 _ rfl, h 8 _ rfl, h 9 _ rfl⟩
def szEns : List M.En → Nat
  | [] => 0
  | c :: l => (c.order.deed.name.size + c.order.deed.page.size) + szEns l
theorem szEns_take (l : List M.En) (i : Nat) (h : i < l.length) : szEns (l.take (i + 1)) = szEns (l.take i) + (l[i].order.deed.name.size + l[i].order.deed.page.size) := by
  induction l generalizing i with
  | nil => simp at h
  | cons c l ih =>
    cases i with
    | zero => simp [szEns]
    | succ i => simp [szEns, ih i (by simpa using h)]; omega
theorem szEns_take_le (l : List M.En) (i : Nat) : szEns (l.take i) ≤ szEns l := by
  induction l generalizing i with
  | nil => simp [szEns]
  | cons c l ih =>
    cases i with
    | zero => simp [szEns]
    | succ i => have := ih i; simp [szEns]; omega
theorem szEns_mem (l : List M.En) (c : M.En) (h : c ∈ l) : (c.order.deed.name.size + c.order.deed.page.size) ≤ szEns l := by
  induction l with
  | nil => simp at h
  | cons d l ih =>
    rcases List.mem_cons.1 h with rfl | h
    · simp [szEns]
    · have := ih h; simp [szEns]; omega

theorem infoEns : (Try.prog.info? 38).map (fun i => (i.zero, i.size, i.bytes)) = some (some (.agg #[.int .i64 0, .int .i64 0, .int .i64 0, .int .i64 0, .string ⟨#[]⟩, .int .i64 0, .int .i64 0, .int .i64 0, .string ⟨#[]⟩, .int .i64 0]), 10, 96) := by kernel_rfl
theorem setEns (xs ys : List Value) (a0 a1 a2 a3 a4 a5 a6 a7 a8 a9 f0 f1 f2 f3 f4 f5 f6 f7 f8 f9 : Value) (n : Nat) (hn : n = xs.length) :
    ((((((((((xs ++ a0 :: a1 :: a2 :: a3 :: a4 :: a5 :: a6 :: a7 :: a8 :: a9 :: ys).set (n) f0).set (n + 1) f1).set (n + 2) f2).set (n + 3) f3).set (n + 4) f4).set (n + 5) f5).set (n + 6) f6).set (n + 7) f7).set (n + 8) f8).set (n + 9) f9 = xs ++ f0 :: f1 :: f2 :: f3 :: f4 :: f5 :: f6 :: f7 :: f8 :: f9 :: ys := by
  subst hn; simp
theorem en_of {l : List Value} {n : Nat} (h : l.length = (n + 1) * 10) : ∃ a0 a1 a2 a3 a4 a5 a6 a7 a8 a9 r, l = a0 :: a1 :: a2 :: a3 :: a4 :: a5 :: a6 :: a7 :: a8 :: a9 :: r ∧ r.length = n * 10 := by
  match l, h with
  | a0 :: a1 :: a2 :: a3 :: a4 :: a5 :: a6 :: a7 :: a8 :: a9 :: r, h => exact ⟨a0, a1, a2, a3, a4, a5, a6, a7, a8, a9, r, rfl, by simp at h; omega⟩
  | [], h => simp at h
  | [_], h => simp at h; omega
  | [_, _], h => simp at h; omega
  | [_, _, _], h => simp at h; omega
  | [_, _, _, _], h => simp at h; omega
  | [_, _, _, _, _], h => simp at h; omega
  | [_, _, _, _, _, _], h => simp at h; omega
  | [_, _, _, _, _, _, _], h => simp at h; omega
  | [_, _, _, _, _, _, _, _], h => simp at h; omega
  | [_, _, _, _, _, _, _, _, _], h => simp at h; omega

theorem own_putEns {w : World} {base e g n cap j : Nat} {xs ys : List Value} {f0 f1 f2 f3 f4 f5 f6 f7 f8 f9 a0 a1 a2 a3 a4 a5 a6 a7 a8 a9 : Value} (h : w.ownsRow base e 10 (.slice (some ⟨g, 0, none⟩) n cap) n (xs ++ a0 :: a1 :: a2 :: a3 :: a4 :: a5 :: a6 :: a7 :: a8 :: a9 :: ys)) (hj : j = xs.length) :
    (((((((((((w.setCell ⟨g, j, none⟩ f0).setCell ⟨g, j + 1, none⟩ f1).setCell ⟨g, j + 2, none⟩ f2).setCell ⟨g, j + 3, none⟩ f3).setCell ⟨g, j + 4, none⟩ f4).setCell ⟨g, j + 5, none⟩ f5).setCell ⟨g, j + 6, none⟩ f6).setCell ⟨g, j + 7, none⟩ f7).setCell ⟨g, j + 8, none⟩ f8).setCell ⟨g, j + 9, none⟩ f9)).ownsRow base e 10 (.slice (some ⟨g, 0, none⟩) n cap) n (xs ++ f0 :: f1 :: f2 :: f3 :: f4 :: f5 :: f6 :: f7 :: f8 :: f9 :: ys) := by
  have := ((((((((((h.stored j f0).1.stored (j + 1) f1).1.stored (j + 2) f2).1.stored (j + 3) f3).1.stored (j + 4) f4).1.stored (j + 5) f5).1.stored (j + 6) f6).1.stored (j + 7) f7).1.stored (j + 8) f8).1.stored (j + 9) f9)
  rw [setEns xs ys a0 a1 a2 a3 a4 a5 a6 a7 a8 a9 f0 f1 f2 f3 f4 f5 f6 f7 f8 f9 j hj] at this
  exact this.1
theorem own_cellsEns {w : World} {base e g n cap j : Nat} {xs ys : List Value} {a0 a1 a2 a3 a4 a5 a6 a7 a8 a9 : Value} (h : w.ownsRow base e 10 (.slice (some ⟨g, 0, none⟩) n cap) n (xs ++ a0 :: a1 :: a2 :: a3 :: a4 :: a5 :: a6 :: a7 :: a8 :: a9 :: ys)) (hj : j = xs.length) :
    (w.cell? ⟨g, j, none⟩ = some a0 ∧ w.cell? ⟨g, j + 1, none⟩ = some a1 ∧ w.cell? ⟨g, j + 2, none⟩ = some a2 ∧ w.cell? ⟨g, j + 3, none⟩ = some a3 ∧ w.cell? ⟨g, j + 4, none⟩ = some a4 ∧ w.cell? ⟨g, j + 5, none⟩ = some a5 ∧ w.cell? ⟨g, j + 6, none⟩ = some a6 ∧ w.cell? ⟨g, j + 7, none⟩ = some a7 ∧ w.cell? ⟨g, j + 8, none⟩ = some a8 ∧ w.cell? ⟨g, j + 9, none⟩ = some a9) ∧
    (w.frozen? ⟨g, j, none⟩ = false ∧ w.frozen? ⟨g, j + 1, none⟩ = false ∧ w.frozen? ⟨g, j + 2, none⟩ = false ∧ w.frozen? ⟨g, j + 3, none⟩ = false ∧ w.frozen? ⟨g, j + 4, none⟩ = false ∧ w.frozen? ⟨g, j + 5, none⟩ = false ∧ w.frozen? ⟨g, j + 6, none⟩ = false ∧ w.frozen? ⟨g, j + 7, none⟩ = false ∧ w.frozen? ⟨g, j + 8, none⟩ = false ∧ w.frozen? ⟨g, j + 9, none⟩ = false) := by
  have hl := h.1
  simp at hl
  subst hj
  refine ⟨⟨?_, ?_, ?_, ?_, ?_, ?_, ?_, ?_, ?_, ?_⟩, h.frozenAt _, h.frozenAt _, h.frozenAt _, h.frozenAt _, h.frozenAt _, h.frozenAt _, h.frozenAt _, h.frozenAt _, h.frozenAt _, h.frozenAt _⟩ <;> (rw [h.cellAt _ (by omega)]; simp)

/-- v is a list of these in memory of one's own from block B on. -/
abbrev EnsOwn (B : Nat) (w : World) (v : Value) (l : List M.En) : Prop := w.ownsRow B 38 10 v l.length (cellsOf enL l)
theorem own_atEns {w : World} {base e g c : Nat} {l : List M.En} (h : w.ownsRow base e 10 (.slice (some ⟨g, 0, none⟩) l.length c) l.length (cellsOf enL l)) : Ens w (some ⟨g, 0, none⟩) l := by
  obtain ⟨A, c', hv, _, hf⟩ := own_flat enL_len h
  have hA : some ⟨g, 0, none⟩ = A := by injection hv
  rw [hA]; exact hf

end Go.Proofs.Ytblcgbgcccjpcaa
namespace Go.Proofs.Ytblcgbgcccjpcaa
open Go.ChangeShapes Go.WideShapes Go.ChangeAt Go.RowKit Go.Joins Go.Deep
structure OrTy (P : Program) (t : TypeId) (h0 h1 h2 f0 f1 f2 f3 f4 g0 g1 g2 : Field) : Prop where
  hs : P.underlying t = some (.struct #[h0, h1, h2])
  hC : P.cellsOf t = 9
  so : [h0.offset, h1.offset, h2.offset] = [0, 1, 2]
  sk : [P.cellsOf h0.type, P.cellsOf h1.type, P.cellsOf h2.type] = [1, 1, 7]
  y0 : P.underlying h0.type = some (.int .i64)
  y1 : P.underlying h1.type = some (.int .i64)
  T : DdTy P h2.type f0 f1 f2 f3 f4 g0 g1 g2
section
variable {H : Type} {enc : TypeId × Value → H} {P : Program} {w : World} {base : Nat} {spare : Nat → Bool} {held : Bool}
theorem cells_en {t : TypeId} {e0 e1 h0 h1 h2 f0 f1 f2 f3 f4 g0 g1 g2 : Field} {n : Nat} {cs : List Value} {x : DataW H × List MemPlace} (hs : P.underlying t = some (.struct #[e0, e1])) (hC : P.cellsOf t = 10)
    (so : [e0.offset, e1.offset] = [0, 1]) (sk : [P.cellsOf e0.type, P.cellsOf e1.type] = [1, 9])
    (y0 : P.underlying e0.type = some (.int .i64)) (T : OrTy P e1.type h0 h1 h2 f0 f1 f2 f3 f4 g0 g1 g2)
    (h : DataW.trod enc P w base spare held n t cs = some x) : ∃ e : M.En, cs = enL e ∧ enIn maxLen e := by
  obtain ⟨zs, m, _, _, hl, hlen', hfld'⟩ := DataW.trod_struct hs h
  simp only [List.cons.injEq, and_true] at so sk
  obtain ⟨o0, o1⟩ := so
  obtain ⟨k0, k1⟩ := sk
  match cs, hl.trans hC with
  | [c0, c1, c2, c3, c4, c5, c6, c7, c8, c9], _ =>
    match zs, hlen' with
    | [z0, z1], _ =>
      have i0 := hfld' 0 e0 rfl
      have i1 := hfld' 1 e1 rfl
      simp only [o0, o1, k0, k1, List.drop_zero, List.drop_succ_cons, List.take_succ_cons, List.take_zero, List.getElem?_cons_zero, List.getElem?_cons_succ] at i0 i1
      obtain ⟨a0, q0, _⟩ := DataW.trod_int y0 i0
      obtain ⟨o, q1, s1, s3⟩ := cells_or T.hs T.hC T.so T.sk T.y0 T.y1 T.T i1
      simp only [List.cons.injEq, and_true] at q0 q1
      subst q0
      obtain ⟨rfl, rfl, rfl, rfl, rfl, rfl, rfl, rfl, rfl⟩ := q1
      exact ⟨⟨a0, o⟩, rfl, s1, s3⟩
theorem open_en {r : Reach} {b0 : Nat} {t : TypeId} {e0 e1 h0 h1 h2 f0 f1 f2 f3 f4 g0 g1 g2 : Field} {v : Value} {d : DataW H} {p : List MemPlace} (hs : P.underlying t = some (.struct #[e0, e1])) (hC : P.cellsOf t = 10)
    (so : [e0.offset, e1.offset] = [0, 1]) (sk : [P.cellsOf e0.type, P.cellsOf e1.type] = [1, 9])
    (y0 : P.underlying e0.type = some (.int .i64)) (T : OrTy P e1.type h0 h1 h2 f0 f1 f2 f3 f4 g0 g1 g2)
    (hv : Value.okWide P w r b0 t v) (h : DataW.Trod enc P w base spare held t v d p) : ∃ e : M.En, v = enV e ∧ enIn maxLen e := by
  obtain ⟨cs, rfl, hsz⟩ := okWide_struct hs hv
  obtain ⟨fuel, hf⟩ := h
  obtain ⟨e, he, h1⟩ := cells_en hs hC so sk y0 T hf
  refine ⟨e, ?_, h1⟩
  obtain ⟨l⟩ := cs
  simp only [Value.cells] at he
  rw [he]
theorem open_ens {r : Reach} {b0 : Nat} {ts t : TypeId} {e0 e1 h0 h1 h2 f0 f1 f2 f3 f4 g0 g1 g2 : Field} {v : Value} {d : DataW H} {p : List MemPlace} (hts : P.underlying ts = some (.slice t)) (hs : P.underlying t = some (.struct #[e0, e1])) (hC : P.cellsOf t = 10)
    (so : [e0.offset, e1.offset] = [0, 1]) (sk : [P.cellsOf e0.type, P.cellsOf e1.type] = [1, 9])
    (y0 : P.underlying e0.type = some (.int .i64)) (T : OrTy P e1.type h0 h1 h2 f0 f1 f2 f3 f4 g0 g1 g2)
    (hv : Value.okWide P w r b0 ts v) (h : DataW.Trod enc P w base spare held ts v d p) :
    ∃ (A : Option Addr) (l : List M.En) (c : Nat), v = .slice A l.length c ∧ Ens w A l ∧ l.length ≤ maxLen ∧ ∀ e ∈ l, enIn maxLen e := by
  haveI : Inhabited M.En := ⟨⟨0, ⟨0, 0, ⟨0, ⟨#[]⟩, ⟨0, 0, 0⟩, ⟨#[]⟩, 0⟩⟩⟩⟩
  obtain ⟨a0, len0, cap0, rfl⟩ := okWide_slice hts hv
  obtain ⟨fuel, hf⟩ := h
  obtain ⟨A, l, c, hcell, hfl, hlc, hcm, hq⟩ := open_rows (en := enL) (Q := fun e => enIn maxLen e) hts hC (by omega) enL_len (fun n cs x hx => cells_en hs hC so sk y0 T hx) hf
  refine ⟨A, l, c, ?_, hfl, by omega, hq⟩
  simpa [Value.cells] using hcell
end
end Go.Proofs.Ytblcgbgcccjpcaa
