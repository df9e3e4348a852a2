/- Proved, in parts: Proved: an argument that is a slice of records is a list of them, and an argument that is a work is its name, owner and copies; no program is named here. Proved: an argument that is a slice of works is a list of them, each with its copies; no program is named here. Proved: an argument that is an order is its nine cells; the cells of a deed and of a last; no program is named here. Proved: an argument that is an entry is its reign and its order, a slice of entries a list of them; no program is named here. -/
import Derived.Test.YtblcgbgcccjpcaaGreatPart08
import Derived.WalkKit
import Derived.Lib.SmallJoins
import Derived.Deep.Slices
import Derived.ChangeSame
import Derived.Test.YtblcgbgcccjpcaaGreatPart04
import Derived.Test.YtblcgbgcccjpcaaGreatPart23
import Derived.Test.YtblcgbgcccjpcaaGreatPart31
namespace Go.Proofs.YtblcgbgcccjpcaaGreat
open Go.ChangeShapes Go.WideShapes Go.ChangeAt Go.RowKit Go.Joins Go.Deep

theorem cell_spot {w : World} {a : Addr} {v : Value} (h : w.cell? a = some v) : a = ⟨a.block, a.off, none⟩ := by
  unfold World.cell? at h
  rcases a with ⟨b, o, _ | s⟩
  · rfl
  · split at h <;> simp at h

section
variable {H : Type} {enc : TypeId × Value → H} {P : Program} {w : World} {base : Nat} {spare : Nat → Bool} {held : Bool}

theorem open_rows {α : Type} [Inhabited α] {en : α → List Value} {k : Nat} {Q : α → Prop} {t e : TypeId} {fuel : Nat} {cs : List Value} {x : DataW H × List MemPlace} (ht : P.underlying t = some (.slice e)) (hk : P.cellsOf e = k) (hk0 : 0 < k)
    (hlen : ∀ x, (en x).length = k) (op : ∀ (n : Nat) (cs : List Value) (x : DataW H × List MemPlace), DataW.trod enc P w base spare held n e cs = some x → ∃ c, cs = en c ∧ Q c)
    (h : DataW.trod enc P w base spare held fuel t cs = some x) : ∃ (A : Option Addr) (l : List α) (c : Nat), cs = [.slice A l.length c] ∧ Flat en k w A l ∧ l.length ≤ c ∧ c ≤ maxLen ∧ ∀ x ∈ l, Q x := by
  subst hk
  rcases open_slice ht h with ⟨rfl, _⟩ | ⟨a, len, cap, m, n, D, Pl, rfl, hb, hl, hm, hmm, hx, hi⟩
  · exact ⟨none, [], 0, rfl, .inl rfl, Nat.le_refl _, Nat.zero_le _, by simp⟩
  · have hlm : len ≤ m := by rw [hmm]; split <;> omega
    have hall : ∀ i, i < len → ∃ c, Q c ∧ ∀ t u, (en c)[t]? = some u → w.cell? (a.add (i * P.cellsOf e + t)) = some u := by
      intro i hil
      obtain ⟨cs', hc, ht'⟩ := hi i (by omega)
      obtain ⟨c, rfl, hq⟩ := op n cs' _ ht'
      obtain ⟨_, hcl, hat⟩ := World.cells?_some hc
      refine ⟨c, hq, fun t u hu => ?_⟩
      have htl : t < P.cellsOf e := by
        rcases Nat.lt_or_ge t (en c).length with h' | h'
        · rw [hlen] at h'; exact h'
        · rw [List.getElem?_eq_none h'] at hu; cases hu
      have := hat t htl
      rw [← Go.Deep.add_add, this, hu]
    obtain ⟨F, hF⟩ : ∃ F : Nat → α, ∀ i, i < len → Q (F i) ∧ ∀ t u, (en (F i))[t]? = some u → w.cell? (a.add (i * P.cellsOf e + t)) = some u := by
      refine ⟨fun i => if h : i < len then Classical.choose (hall i h) else default, fun i hil => ?_⟩
      simp only [dif_pos hil]
      exact Classical.choose_spec (hall i hil)
    refine ⟨some a, (List.range len).map F, cap, by simp, ?_, by simpa using hl, hm, fun y hy => ?_⟩
    · rcases Nat.eq_zero_or_pos len with h0 | h0
      · subst h0; exact .inl rfl
      · have h1 : (en (F 0))[0]? = some ((en (F 0))[0]'(by rw [hlen]; exact hk0)) := List.getElem?_eq_getElem _
        have h2 := (hF 0 h0).2 0 _ h1
        have h3 : a.add (0 * P.cellsOf e + 0) = a := by simp [Addr.add]
        rw [h3] at h2
        have ha := cell_spot h2
        rw [ha]
        refine .inr ⟨a.block, a.off, rfl, World.block_lt_of_cell? w _ h2, fun i t x u hi hu => ?_⟩
        rw [List.getElem?_map] at hi
        have hil : i < len := by
          rcases Nat.lt_or_ge i len with h' | h'
          · exact h'
          · rw [List.getElem?_eq_none (by simpa using h')] at hi; cases hi
        rw [List.getElem?_range hil] at hi
        simp at hi
        subst hi
        have := (hF i hil).2 t u hu
        rw [ha, addr_add, ← Nat.add_assoc] at this
        exact this
    · simp at hy
      obtain ⟨i, hil, rfl⟩ := hy
      exact (hF i hil).1

theorem cells_ed {t : TypeId} {g0 g1 g2 : Field} {n : Nat} {cs : List Value} {x : DataW H × List MemPlace} (hs : P.underlying t = some (.struct #[g0, g1, g2])) (hC : P.cellsOf t = 3)
    (po : [g0.offset, g1.offset, g2.offset] = [0, 1, 2]) (pk : [P.cellsOf g0.type, P.cellsOf g1.type, P.cellsOf g2.type] = [1, 1, 1])
    (x0 : P.underlying g0.type = some (.int .i64)) (x1 : P.underlying g1.type = some (.int .i64)) (x2 : P.underlying g2.type = some (.int .i64))
    (h : DataW.trod enc P w base spare held n t cs = some x) : ∃ e : M.Ed, cs = [.int .i64 e.ma, .int .i64 e.mi, .int .i64 e.pa] := by
  obtain ⟨zs, m, _, _, hl, hlen', hfld'⟩ := DataW.trod_struct hs h
  simp only [List.cons.injEq, and_true] at po pk
  obtain ⟨p0, p1, p2⟩ := po
  obtain ⟨q0, q1, q2⟩ := pk
  match cs, hl.trans hC with
  | [c0, c1, c2], _ =>
    match zs, hlen' with
    | [z0, z1, z2], _ =>
      have i0 := hfld' 0 g0 rfl
      have i1 := hfld' 1 g1 rfl
      have i2 := hfld' 2 g2 rfl
      simp only [p0, p1, p2, q0, q1, q2, List.drop_zero, List.drop_succ_cons, List.take_succ_cons, List.take_zero, List.getElem?_cons_zero, List.getElem?_cons_succ] at i0 i1 i2
      obtain ⟨b0, j0, _⟩ := DataW.trod_int x0 i0
      obtain ⟨b1, j1, _⟩ := DataW.trod_int x1 i1
      obtain ⟨b2, j2, _⟩ := DataW.trod_int x2 i2
      simp only [List.cons.injEq, and_true] at j0 j1 j2
      subst j0 j1 j2
      exact ⟨⟨b0, b1, b2⟩, rfl⟩

theorem cells_cp {t : TypeId} {f0 f1 f2 g0 g1 g2 : Field} {n : Nat} {cs : List Value} {x : DataW H × List MemPlace} (hs : P.underlying t = some (.struct #[f0, f1, f2])) (hC : P.cellsOf t = 5)
    (ho : [f0.offset, f1.offset, f2.offset] = [0, 3, 4]) (hk : [P.cellsOf f0.type, P.cellsOf f1.type, P.cellsOf f2.type] = [3, 1, 1])
    (u0 : P.underlying f0.type = some (.struct #[g0, g1, g2])) (u1 : P.underlying f1.type = some .string) (u2 : P.underlying f2.type = some .bool)
    (po : [g0.offset, g1.offset, g2.offset] = [0, 1, 2]) (pk : [P.cellsOf g0.type, P.cellsOf g1.type, P.cellsOf g2.type] = [1, 1, 1])
    (x0 : P.underlying g0.type = some (.int .i64)) (x1 : P.underlying g1.type = some (.int .i64)) (x2 : P.underlying g2.type = some (.int .i64))
    (h : DataW.trod enc P w base spare held n t cs = some x) : ∃ c : M.Cp, cs = cpL c ∧ c.page.size ≤ maxLen := by
  obtain ⟨zs, m, _, _, hl, hlen', hfld'⟩ := DataW.trod_struct hs h
  simp only [List.cons.injEq, and_true] at ho hk
  obtain ⟨p0, p1, p2⟩ := ho
  obtain ⟨q0, q1, q2⟩ := hk
  match cs, hl.trans hC with
  | [c0, c1, c2, c3, c4], _ =>
    match zs, hlen' with
    | [z0, z1, z2], _ =>
      have i0 := hfld' 0 f0 rfl
      have i1 := hfld' 1 f1 rfl
      have i2 := hfld' 2 f2 rfl
      simp only [p0, p1, p2, q0, q1, q2, List.drop_zero, List.drop_succ_cons, List.take_succ_cons, List.take_zero, List.getElem?_cons_zero, List.getElem?_cons_succ] at i0 i1 i2
      obtain ⟨e, j0⟩ := cells_ed u0 q0 po pk x0 x1 x2 i0
      obtain ⟨s, j1, _, hsz⟩ := DataW.trod_string u1 i1
      obtain ⟨b, j2, _⟩ := DataW.trod_bool u2 i2
      simp only [List.cons.injEq, and_true] at j0 j1 j2
      obtain ⟨rfl, rfl, rfl⟩ := j0
      subst j1 j2
      exact ⟨⟨e, s, b⟩, rfl, hsz⟩

end
end Go.Proofs.YtblcgbgcccjpcaaGreat
namespace Go.Proofs.YtblcgbgcccjpcaaGreat
open Go.ChangeShapes Go.WideShapes Go.ChangeAt Go.RowKit Go.Joins Go.Deep
section
variable {H : Type} {enc : TypeId × Value → H} {P : Program} {w : World} {base : Nat} {spare : Nat → Bool} {held : Bool}

theorem cells_wr {t tc te : TypeId} {h0 h1 h2 f0 f1 f2 g0 g1 g2 : Field} {n : Nat} {cs : List Value} {x : DataW H × List MemPlace} (hs : P.underlying t = some (.struct #[h0, h1, h2])) (hC : P.cellsOf t = 3)
    (so : [h0.offset, h1.offset, h2.offset] = [0, 1, 2]) (sk : [P.cellsOf h0.type, P.cellsOf h1.type, P.cellsOf h2.type] = [1, 1, 1])
    (y0 : P.underlying h0.type = some .string) (y1 : P.underlying h1.type = some (.int .i64)) (y2 : h2.type = tc) (y3 : P.underlying tc = some (.slice te))
    (hcs : P.underlying te = some (.struct #[f0, f1, f2])) (hcC : P.cellsOf te = 5)
    (ho : [f0.offset, f1.offset, f2.offset] = [0, 3, 4]) (hk : [P.cellsOf f0.type, P.cellsOf f1.type, P.cellsOf f2.type] = [3, 1, 1])
    (u0 : P.underlying f0.type = some (.struct #[g0, g1, g2])) (u1 : P.underlying f1.type = some .string) (u2 : P.underlying f2.type = some .bool)
    (po : [g0.offset, g1.offset, g2.offset] = [0, 1, 2]) (pk : [P.cellsOf g0.type, P.cellsOf g1.type, P.cellsOf g2.type] = [1, 1, 1])
    (x0 : P.underlying g0.type = some (.int .i64)) (x1 : P.underlying g1.type = some (.int .i64)) (x2 : P.underlying g2.type = some (.int .i64))
    (h : DataW.trod enc P w base spare held n t cs = some x) :
    ∃ r : Wr, cs = wrL r ∧ Cps w r.ad r.cps ∧ r.name.size ≤ maxLen ∧ r.cps.length ≤ maxLen ∧ ∀ c ∈ r.cps, c.page.size ≤ maxLen := by
  obtain ⟨xs, n, _, hx, hl, hlen, hg⟩ := DataW.trod_struct hs h
  simp only [List.cons.injEq, and_true] at so sk
  obtain ⟨p0, p1, p2⟩ := so
  obtain ⟨q0, q1, q2⟩ := sk
  match cs, hl.trans hC with
  | [c0, c1, c2], _ =>
    match xs, hlen with
    | [z0, z1, z2], _ =>
      have i0 := hg 0 h0 rfl
      have i1 := hg 1 h1 rfl
      have i2 := hg 2 h2 rfl
      simp only [p0, p1, p2, q0, q1, q2, List.drop_zero, List.drop_succ_cons, List.take_succ_cons, List.take_zero, List.getElem?_cons_zero, List.getElem?_cons_succ] at i0 i1 i2
      obtain ⟨s, j0, _, hss⟩ := DataW.trod_string y0 i0
      obtain ⟨b, j1, _⟩ := DataW.trod_int y1 i1
      rw [y2] at i2
      haveI : Inhabited M.Cp := ⟨M.zeroCp⟩
      obtain ⟨A, l, c, j2, hfl, hlc, hcm, hq⟩ := open_rows (en := cpL) (Q := fun c => c.page.size ≤ maxLen) y3 hcC (by omega) cpL_len (fun n cs x hx => cells_cp hcs hcC ho hk u0 u1 u2 po pk x0 x1 x2 hx) i2
      simp only [List.cons.injEq, and_true] at j0 j1 j2
      subst j0 j1 j2
      exact ⟨⟨s, b, A, c, l⟩, rfl, hfl, hss, by simp only; omega, hq⟩

end
end Go.Proofs.YtblcgbgcccjpcaaGreat
namespace Go.Proofs.YtblcgbgcccjpcaaGreat
open Go.ChangeShapes Go.WideShapes Go.ChangeAt Go.RowKit Go.Joins Go.Deep
section
variable {H : Type} {enc : TypeId × Value → H} {P : Program} {w : World} {base : Nat} {spare : Nat → Bool} {held : Bool}
/-- That t is a deed's type. -/
structure DdTy (P : Program) (t : TypeId) (f0 f1 f2 f3 f4 g0 g1 g2 : Field) : Prop where
  hs : P.underlying t = some (.struct #[f0, f1, f2, f3, f4])
  hC : P.cellsOf t = 7
  ho : [f0.offset, f1.offset, f2.offset, f3.offset, f4.offset] = [0, 1, 2, 5, 6]
  hk : [P.cellsOf f0.type, P.cellsOf f1.type, P.cellsOf f2.type, P.cellsOf f3.type, P.cellsOf f4.type] = [1, 1, 3, 1, 1]
  u0 : P.underlying f0.type = some (.int .i64)
  u1 : P.underlying f1.type = some .string
  u2 : P.underlying f2.type = some (.struct #[g0, g1, g2])
  u3 : P.underlying f3.type = some .string
  u4 : P.underlying f4.type = some (.int .i64)
  po : [g0.offset, g1.offset, g2.offset] = [0, 1, 2]
  pk : [P.cellsOf g0.type, P.cellsOf g1.type, P.cellsOf g2.type] = [1, 1, 1]
  x0 : P.underlying g0.type = some (.int .i64)
  x1 : P.underlying g1.type = some (.int .i64)
  x2 : P.underlying g2.type = some (.int .i64)
theorem cells_dd {t : TypeId} {f0 f1 f2 f3 f4 g0 g1 g2 : Field} {n : Nat} {cs : List Value} {x : DataW H × List MemPlace} (T : DdTy P t f0 f1 f2 f3 f4 g0 g1 g2)
    (h : DataW.trod enc P w base spare held n t cs = some x) : ∃ e : M.Dd, cs = (ddC e).toList ∧ e.name.size ≤ maxLen ∧ e.page.size ≤ maxLen := by
  obtain ⟨zs, m, _, _, hl, hlen', hfld'⟩ := DataW.trod_struct T.hs h
  have ho := T.ho
  have hk := T.hk
  simp only [List.cons.injEq, and_true] at ho hk
  obtain ⟨o0, o1, o2, o3, o4⟩ := ho
  obtain ⟨k0, k1, k2, k3, k4⟩ := hk
  match cs, hl.trans T.hC with
  | [c0, c1, c2, c3, c4, c5, c6], _ =>
    match zs, hlen' with
    | [y0, y1, y2, y3, y4], _ =>
      have h0 := hfld' 0 f0 rfl
      have h1 := hfld' 1 f1 rfl
      have h2 := hfld' 2 f2 rfl
      have h3 := hfld' 3 f3 rfl
      have h4 := hfld' 4 f4 rfl
      simp only [o0, o1, o2, o3, o4, k0, k1, k2, k3, k4, List.drop_zero, List.drop_succ_cons, List.take_succ_cons, List.take_zero, List.getElem?_cons_zero, List.getElem?_cons_succ] at h0 h1 h2 h3 h4
      obtain ⟨a0, e0, _⟩ := DataW.trod_int T.u0 h0
      obtain ⟨a1, e1, _, s1⟩ := DataW.trod_string T.u1 h1
      obtain ⟨a2, e2⟩ := cells_ed T.u2 k2 T.po T.pk T.x0 T.x1 T.x2 h2
      obtain ⟨a3, e3, _, s3⟩ := DataW.trod_string T.u3 h3
      obtain ⟨a4, e4, _⟩ := DataW.trod_int T.u4 h4
      simp only [List.cons.injEq, and_true] at e0 e1 e2 e3 e4
      obtain ⟨rfl, rfl, rfl⟩ := e2
      subst e0 e1 e3 e4
      exact ⟨⟨a0, a1, a2, a3, a4⟩, rfl, s1, s3⟩
theorem cells_or {t : TypeId} {h0 h1 h2 f0 f1 f2 f3 f4 g0 g1 g2 : Field} {n : Nat} {cs : List Value} {x : DataW H × List MemPlace} (hs : P.underlying t = some (.struct #[h0, h1, h2])) (hC : P.cellsOf t = 9)
    (so : [h0.offset, h1.offset, h2.offset] = [0, 1, 2]) (sk : [P.cellsOf h0.type, P.cellsOf h1.type, P.cellsOf h2.type] = [1, 1, 7])
    (y0 : P.underlying h0.type = some (.int .i64)) (y1 : P.underlying h1.type = some (.int .i64)) (T : DdTy P h2.type f0 f1 f2 f3 f4 g0 g1 g2)
    (h : DataW.trod enc P w base spare held n t cs = some x) : ∃ o : M.Or, cs = (orC o).toList ∧ o.deed.name.size ≤ maxLen ∧ o.deed.page.size ≤ maxLen := by
  obtain ⟨zs, m, _, _, hl, hlen', hfld'⟩ := DataW.trod_struct hs h
  simp only [List.cons.injEq, and_true] at so sk
  obtain ⟨o0, o1, o2⟩ := so
  obtain ⟨k0, k1, k2⟩ := sk
  match cs, hl.trans hC with
  | [c0, c1, c2, c3, c4, c5, c6, c7, c8], _ =>
    match zs, hlen' with
    | [z0, z1, z2], _ =>
      have i0 := hfld' 0 h0 rfl
      have i1 := hfld' 1 h1 rfl
      have i2 := hfld' 2 h2 rfl
      simp only [o0, o1, o2, k0, k1, k2, List.drop_zero, List.drop_succ_cons, List.take_succ_cons, List.take_zero, List.getElem?_cons_zero, List.getElem?_cons_succ] at i0 i1 i2
      obtain ⟨a0, e0, _⟩ := DataW.trod_int y0 i0
      obtain ⟨a1, e1, _⟩ := DataW.trod_int y1 i1
      obtain ⟨d, e2, s1, s3⟩ := cells_dd T i2
      simp only [List.cons.injEq, and_true] at e0 e1 e2
      subst e0 e1
      obtain ⟨rfl, rfl, rfl, rfl, rfl, rfl, rfl⟩ := e2
      exact ⟨⟨a0, a1, d⟩, rfl, s1, s3⟩
theorem cells_la {t : TypeId} {h0 h1 h2 g0 g1 : Field} {n : Nat} {cs : List Value} {x : DataW H × List MemPlace} (hs : P.underlying t = some (.struct #[h0, h1, h2])) (hC : P.cellsOf t = 4)
    (so : [h0.offset, h1.offset, h2.offset] = [0, 1, 2]) (sk : [P.cellsOf h0.type, P.cellsOf h1.type, P.cellsOf h2.type] = [1, 1, 2])
    (y0 : P.underlying h0.type = some (.int .i64)) (y1 : P.underlying h1.type = some (.int .i64)) (y2 : P.underlying h2.type = some (.struct #[g0, g1]))
    (po : [g0.offset, g1.offset] = [0, 1]) (pk : [P.cellsOf g0.type, P.cellsOf g1.type] = [1, 1]) (x0 : P.underlying g0.type = some (.int .i64)) (x1 : P.underlying g1.type = some .string)
    (h : DataW.trod enc P w base spare held n t cs = some x) : ∃ c : M.La, cs = laL c ∧ laIn maxLen c := by
  obtain ⟨zs, m, _, _, hl, hlen', hfld'⟩ := DataW.trod_struct hs h
  simp only [List.cons.injEq, and_true] at so sk po pk
  obtain ⟨o0, o1, o2⟩ := so
  obtain ⟨k0, k1, k2⟩ := sk
  obtain ⟨p0, p1⟩ := po
  obtain ⟨q0, q1⟩ := pk
  match cs, hl.trans hC with
  | [c0, c1, c2, c3], _ =>
    match zs, hlen' with
    | [z0, z1, z2], _ =>
      have i0 := hfld' 0 h0 rfl
      have i1 := hfld' 1 h1 rfl
      have i2 := hfld' 2 h2 rfl
      simp only [o0, o1, o2, k0, k1, k2, List.drop_zero, List.drop_succ_cons, List.take_succ_cons, List.take_zero, List.getElem?_cons_zero, List.getElem?_cons_succ] at i0 i1 i2
      obtain ⟨a0, e0, _⟩ := DataW.trod_int y0 i0
      obtain ⟨a1, e1, _⟩ := DataW.trod_int y1 i1
      obtain ⟨us, m', _, _, _, hlen2, hfld2⟩ := DataW.trod_struct y2 i2
      match us, hlen2 with
      | [v0, v1], _ =>
        have j0 := hfld2 0 g0 rfl
        have j1 := hfld2 1 g1 rfl
        simp only [p0, p1, q0, q1, List.drop_zero, List.drop_succ_cons, List.take_succ_cons, List.take_zero, List.getElem?_cons_zero, List.getElem?_cons_succ] at j0 j1
        obtain ⟨a2, e2, _⟩ := DataW.trod_int x0 j0
        obtain ⟨a3, e3, _, s3⟩ := DataW.trod_string x1 j1
        simp only [List.cons.injEq, and_true] at e0 e1 e2 e3
        subst e0 e1 e2 e3
        exact ⟨⟨a0, a1, a2, a3⟩, rfl, s3⟩
/-- That the types are those of works (in a list) and of lasts (in a list). -/
structure SfTy (P : Program) (ts t tc te : TypeId) (h0 h1 h2 f0 f1 f2 g0 g1 g2 : Field) : Prop where
  hts : P.underlying ts = some (.slice t)
  hs : P.underlying t = some (.struct #[h0, h1, h2])
  hC : P.cellsOf t = 3
  so : [h0.offset, h1.offset, h2.offset] = [0, 1, 2]
  sk : [P.cellsOf h0.type, P.cellsOf h1.type, P.cellsOf h2.type] = [1, 1, 1]
  y0 : P.underlying h0.type = some .string
  y1 : P.underlying h1.type = some (.int .i64)
  y2 : h2.type = tc
  y3 : P.underlying tc = some (.slice te)
  hcs : P.underlying te = some (.struct #[f0, f1, f2])
  hcC : P.cellsOf te = 5
  ho : [f0.offset, f1.offset, f2.offset] = [0, 3, 4]
  hk : [P.cellsOf f0.type, P.cellsOf f1.type, P.cellsOf f2.type] = [3, 1, 1]
  u0 : P.underlying f0.type = some (.struct #[g0, g1, g2])
  u1 : P.underlying f1.type = some .string
  u2 : P.underlying f2.type = some .bool
  po : [g0.offset, g1.offset, g2.offset] = [0, 1, 2]
  pk : [P.cellsOf g0.type, P.cellsOf g1.type, P.cellsOf g2.type] = [1, 1, 1]
  x0 : P.underlying g0.type = some (.int .i64)
  x1 : P.underlying g1.type = some (.int .i64)
  x2 : P.underlying g2.type = some (.int .i64)
structure LaTy (P : Program) (ts t : TypeId) (h0 h1 h2 g0 g1 : Field) : Prop where
  hts : P.underlying ts = some (.slice t)
  hs : P.underlying t = some (.struct #[h0, h1, h2])
  hC : P.cellsOf t = 4
  so : [h0.offset, h1.offset, h2.offset] = [0, 1, 2]
  sk : [P.cellsOf h0.type, P.cellsOf h1.type, P.cellsOf h2.type] = [1, 1, 2]
  y0 : P.underlying h0.type = some (.int .i64)
  y1 : P.underlying h1.type = some (.int .i64)
  y2 : P.underlying h2.type = some (.struct #[g0, g1])
  po : [g0.offset, g1.offset] = [0, 1]
  pk : [P.cellsOf g0.type, P.cellsOf g1.type] = [1, 1]
  x0 : P.underlying g0.type = some (.int .i64)
  x1 : P.underlying g1.type = some .string
theorem cells_sf {ts t tc te : TypeId} {h0 h1 h2 f0 f1 f2 g0 g1 g2 : Field} {n : Nat} {cs : List Value} {x : DataW H × List MemPlace} (T : SfTy P ts t tc te h0 h1 h2 f0 f1 f2 g0 g1 g2)
    (h : DataW.trod enc P w base spare held n ts cs = some x) : ∃ (A : Option Addr) (l : List Wr) (c : Nat), cs = [.slice A l.length c] ∧ Wks w A l ∧ l.length ≤ maxLen ∧ WrsIn maxLen l := by
  obtain ⟨A, l, c, hcell, hfl, hlc, hcm, hq⟩ := open_rows (en := wrL) (Q := fun r => Cps w r.ad r.cps ∧ r.name.size ≤ maxLen ∧ r.cps.length ≤ maxLen ∧ ∀ c ∈ r.cps, c.page.size ≤ maxLen) T.hts T.hC (by omega) wrL_len (fun n cs x hx => cells_wr T.hs T.hC T.so T.sk T.y0 T.y1 T.y2 T.y3 T.hcs T.hcC T.ho T.hk T.u0 T.u1 T.u2 T.po T.pk T.x0 T.x1 T.x2 hx) h
  exact ⟨A, l, c, hcell, ⟨hfl, fun r hr => (hq r hr).1⟩, by omega, fun r hr => (hq r hr).2⟩
theorem cells_las {ts t : TypeId} {h0 h1 h2 g0 g1 : Field} {n : Nat} {cs : List Value} {x : DataW H × List MemPlace} (T : LaTy P ts t h0 h1 h2 g0 g1)
    (h : DataW.trod enc P w base spare held n ts cs = some x) : ∃ (A : Option Addr) (l : List M.La) (c : Nat), cs = [.slice A l.length c] ∧ Las w A l ∧ l.length ≤ maxLen ∧ ∀ c ∈ l, laIn maxLen c := by
  haveI : Inhabited M.La := ⟨⟨0, 0, 0, ⟨#[]⟩⟩⟩
  obtain ⟨A, l, c, hcell, hfl, hlc, hcm, hq⟩ := open_rows (en := laL) (Q := fun c => laIn maxLen c) T.hts T.hC (by omega) laL_len (fun n cs x hx => cells_la T.hs T.hC T.so T.sk T.y0 T.y1 T.y2 T.po T.pk T.x0 T.x1 hx) h
  exact ⟨A, l, c, hcell, hfl, by omega, hq⟩
theorem cells_bk {t ts t' tc te us u : TypeId} {k0 k1 h0 h1 h2 f0 f1 f2 g0 g1 g2 l0 l1 l2 m0 m1 : Field} {n : Nat} {cs : List Value} {x : DataW H × List MemPlace} (hs : P.underlying t = some (.struct #[k0, k1])) (hC : P.cellsOf t = 2)
    (so : [k0.offset, k1.offset] = [0, 1]) (sk : [P.cellsOf k0.type, P.cellsOf k1.type] = [1, 1]) (e0 : k0.type = ts) (e1 : k1.type = us)
    (T : SfTy P ts t' tc te h0 h1 h2 f0 f1 f2 g0 g1 g2) (L : LaTy P us u l0 l1 l2 m0 m1)
    (h : DataW.trod enc P w base spare held n t cs = some x) : ∃ (A : Option Addr) (l : List Wr) (c : Nat) (B : Option Addr) (m : List M.La) (e : Nat), cs = (bkA A l.length c B m.length e).toList ∧ Wks w A l ∧ l.length ≤ maxLen ∧ WrsIn maxLen l ∧ Las w B m ∧ m.length ≤ maxLen ∧ ∀ c ∈ m, laIn maxLen c := by
  obtain ⟨zs, m, _, _, hl, hlen', hfld'⟩ := DataW.trod_struct hs h
  simp only [List.cons.injEq, and_true] at so sk
  obtain ⟨o0, o1⟩ := so
  obtain ⟨k0', k1'⟩ := sk
  match cs, hl.trans hC with
  | [c0, c1], _ =>
    match zs, hlen' with
    | [z0, z1], _ =>
      have i0 := hfld' 0 k0 rfl
      have i1 := hfld' 1 k1 rfl
      simp only [o0, o1, k0', k1', List.drop_zero, List.drop_succ_cons, List.take_succ_cons, List.take_zero, List.getElem?_cons_zero, List.getElem?_cons_succ] at i0 i1
      rw [e0] at i0
      rw [e1] at i1
      obtain ⟨A, l, c, j0, a1, a2, a3⟩ := cells_sf T i0
      obtain ⟨B, m, e, j1, b1, b2, b3⟩ := cells_las L i1
      simp only [List.cons.injEq, and_true] at j0 j1
      subst j0 j1
      exact ⟨A, l, c, B, m, e, rfl, a1, a2, a3, b1, b2, b3⟩
theorem open_bk {r : Reach} {b0 : Nat} {t ts t' tc te us u : TypeId} {k0 k1 h0 h1 h2 f0 f1 f2 g0 g1 g2 l0 l1 l2 m0 m1 : Field} {v : Value} {d : DataW H} {p : List MemPlace} (hs : P.underlying t = some (.struct #[k0, k1])) (hC : P.cellsOf t = 2)
    (so : [k0.offset, k1.offset] = [0, 1]) (sk : [P.cellsOf k0.type, P.cellsOf k1.type] = [1, 1]) (e0 : k0.type = ts) (e1 : k1.type = us)
    (T : SfTy P ts t' tc te h0 h1 h2 f0 f1 f2 g0 g1 g2) (L : LaTy P us u l0 l1 l2 m0 m1)
    (hv : Value.okWide P w r b0 t v) (h : DataW.Trod enc P w base spare held t v d p) : ∃ (A : Option Addr) (l : List Wr) (c : Nat) (B : Option Addr) (m : List M.La) (e : Nat), v = bkV A l.length c B m.length e ∧ Wks w A l ∧ l.length ≤ maxLen ∧ WrsIn maxLen l ∧ Las w B m ∧ m.length ≤ maxLen ∧ ∀ c ∈ m, laIn maxLen c := by
  obtain ⟨cs, rfl, hsz⟩ := okWide_struct hs hv
  obtain ⟨fuel, hf⟩ := h
  obtain ⟨A, l, c, B, m, e, ho, h1⟩ := cells_bk hs hC so sk e0 e1 T L hf
  refine ⟨A, l, c, B, m, e, ?_, h1⟩
  obtain ⟨q⟩ := cs
  simp only [Value.cells] at ho
  rw [ho]
end
end Go.Proofs.YtblcgbgcccjpcaaGreat
namespace Go.Proofs.YtblcgbgcccjpcaaGreat
open Go.ChangeShapes Go.WideShapes Go.ChangeAt Go.RowKit Go.Joins Go.Deep
structure OrTy (P : Program) (t : TypeId) (h0 h1 h2 f0 f1 f2 f3 f4 g0 g1 g2 : Field) : Prop where
  hs : P.underlying t = some (.struct #[h0, h1, h2])
  hC : P.cellsOf t = 9
  so : [h0.offset, h1.offset, h2.offset] = [0, 1, 2]
  sk : [P.cellsOf h0.type, P.cellsOf h1.type, P.cellsOf h2.type] = [1, 1, 7]
  y0 : P.underlying h0.type = some (.int .i64)
  y1 : P.underlying h1.type = some (.int .i64)
  T : DdTy P h2.type f0 f1 f2 f3 f4 g0 g1 g2
section
variable {H : Type} {enc : TypeId × Value → H} {P : Program} {w : World} {base : Nat} {spare : Nat → Bool} {held : Bool}
theorem cells_en {t : TypeId} {e0 e1 h0 h1 h2 f0 f1 f2 f3 f4 g0 g1 g2 : Field} {n : Nat} {cs : List Value} {x : DataW H × List MemPlace} (hs : P.underlying t = some (.struct #[e0, e1])) (hC : P.cellsOf t = 10)
    (so : [e0.offset, e1.offset] = [0, 1]) (sk : [P.cellsOf e0.type, P.cellsOf e1.type] = [1, 9])
    (y0 : P.underlying e0.type = some (.int .i64)) (T : OrTy P e1.type h0 h1 h2 f0 f1 f2 f3 f4 g0 g1 g2)
    (h : DataW.trod enc P w base spare held n t cs = some x) : ∃ e : M.En, cs = enL e ∧ enIn maxLen e := by
  obtain ⟨zs, m, _, _, hl, hlen', hfld'⟩ := DataW.trod_struct hs h
  simp only [List.cons.injEq, and_true] at so sk
  obtain ⟨o0, o1⟩ := so
  obtain ⟨k0, k1⟩ := sk
  match cs, hl.trans hC with
  | [c0, c1, c2, c3, c4, c5, c6, c7, c8, c9], _ =>
    match zs, hlen' with
    | [z0, z1], _ =>
      have i0 := hfld' 0 e0 rfl
      have i1 := hfld' 1 e1 rfl
      simp only [o0, o1, k0, k1, List.drop_zero, List.drop_succ_cons, List.take_succ_cons, List.take_zero, List.getElem?_cons_zero, List.getElem?_cons_succ] at i0 i1
      obtain ⟨a0, q0, _⟩ := DataW.trod_int y0 i0
      obtain ⟨o, q1, s1, s3⟩ := cells_or T.hs T.hC T.so T.sk T.y0 T.y1 T.T i1
      simp only [List.cons.injEq, and_true] at q0 q1
      subst q0
      obtain ⟨rfl, rfl, rfl, rfl, rfl, rfl, rfl, rfl, rfl⟩ := q1
      exact ⟨⟨a0, o⟩, rfl, s1, s3⟩
theorem open_ens {r : Reach} {b0 : Nat} {ts t : TypeId} {e0 e1 h0 h1 h2 f0 f1 f2 f3 f4 g0 g1 g2 : Field} {v : Value} {d : DataW H} {p : List MemPlace} (hts : P.underlying ts = some (.slice t)) (hs : P.underlying t = some (.struct #[e0, e1])) (hC : P.cellsOf t = 10)
    (so : [e0.offset, e1.offset] = [0, 1]) (sk : [P.cellsOf e0.type, P.cellsOf e1.type] = [1, 9])
    (y0 : P.underlying e0.type = some (.int .i64)) (T : OrTy P e1.type h0 h1 h2 f0 f1 f2 f3 f4 g0 g1 g2)
    (hv : Value.okWide P w r b0 ts v) (h : DataW.Trod enc P w base spare held ts v d p) :
    ∃ (A : Option Addr) (l : List M.En) (c : Nat), v = .slice A l.length c ∧ Ens w A l ∧ l.length ≤ maxLen ∧ ∀ e ∈ l, enIn maxLen e := by
  haveI : Inhabited M.En := ⟨⟨0, ⟨0, 0, ⟨0, ⟨#[]⟩, ⟨0, 0, 0⟩, ⟨#[]⟩, 0⟩⟩⟩⟩
  obtain ⟨a0, len0, cap0, rfl⟩ := okWide_slice hts hv
  obtain ⟨fuel, hf⟩ := h
  obtain ⟨A, l, c, hcell, hfl, hlc, hcm, hq⟩ := open_rows (en := enL) (Q := fun e => enIn maxLen e) hts hC (by omega) enL_len (fun n cs x hx => cells_en hs hC so sk y0 T hx) hf
  refine ⟨A, l, c, ?_, hfl, by omega, hq⟩
  simpa [Value.cells] using hcell
end
end Go.Proofs.YtblcgbgcccjpcaaGreat
