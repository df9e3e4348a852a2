/- Proved, in parts: Proved: the laws' own test tells two letters that are the same data alike; nothing that was there is written. Condition: lists that Go can hold. Proved: an argument that is a slice of works is a list of them, each with its copies; no program is named here. Proved: an argument that is an order is its nine cells; the cells of a deed and of a last; no program is named here. Proved: how cells of a type are read; an argument that is a book; no program is named here; no condition. Proved: an argument that is an entry is its reign and its order, a slice of entries a list of them; no program is named here. -/
import Derived.Test.YtdoeiphnalbinaaGreatPart18
import Derived.Test.YtdoeiphnalbinaaGreatPart05
import Derived.Test.YtdoeiphnalbinaaGreatPart16
import Derived.Test.YtdoeiphnalbinaaGreatPart08
import Derived.Test.YtdoeiphnalbinaaGreatPart13
import Derived.Test.YtdoeiphnalbinaaGreatPart15
namespace Go.Proofs.YtdoeiphnalbinaaGreat
open Go.RowKit
set_option maxRecDepth 20000
structure LtLk (w : World) (s : LLt) : Prop where
  en : Ens w s.en.ad s.en.l
  enl : s.en.l.length ≤ maxLen
  bk : BkLk w s.bk
theorem LtRd.lk {w : World} {s : LLt} (h : LtRd maxLen w s) : LtLk w s := ⟨h.en, h.enl, ⟨h.bk.sf, h.bk.sfl, h.bk.sft, h.bk.la, h.bk.lal⟩⟩
theorem LtLk.below {w w' : World} {s : LLt} (h : LtLk w s) (hb : Below w.heap.size w w') : LtLk w' s := ⟨h.en.below hb, h.enl, { h.bk with sf := h.bk.sf.below hb, la := h.bk.la.below hb }⟩
set_option maxHeartbeats 16000000 in
theorem eqLetter_same (s t : LLt) (w : World) (hs : LtLk w s) (ht : LtLk w t) (hd : t.d = s.d) :
    Calls Tryz.prog 8 #[ltV s, ltV t] w fun e w' => e = .returned (.bool true) ∧ Below w.heap.size w w' := by
  have HS := Lib.hid hs
  have HT := Lib.hid ht
  clear hs ht
  have e0 : t.kind = s.kind := congrArg M.Lt.kind hd
  have e1 : t.frm = s.frm := congrArg M.Lt.frm hd
  have e2 : t.dst = s.dst := congrArg M.Lt.dst hd
  have e3 : t.reign = s.reign := congrArg M.Lt.reign hd
  have e4 : t.index = s.index := congrArg M.Lt.index hd
  have e5 : t.mark = s.mark := congrArg M.Lt.mark hd
  have e7 : t.commit = s.commit := congrArg M.Lt.commit hd
  have e8 : t.yes = s.yes := congrArg M.Lt.yes hd
  have e6 : t.en.l = s.en.l := congrArg (fun q => q.list) hd
  have e9 : t.bk.sf.l.map Wr.wk = s.bk.sf.l.map Wr.wk := congrArg (fun q => q.book.1) hd
  have e10 : t.bk.la.l = s.bk.la.l := congrArg (fun q => q.book.2) hd
  have f6 : t.en.l.length = s.en.l.length := by rw [e6]
  have f10 : t.bk.la.l.length = s.bk.la.l.length := by rw [e10]
  have i0 : (s.kind != s.kind) = false := by simp
  have i1 : (s.frm != s.frm) = false := by simp
  have i2 : (s.dst != s.dst) = false := by simp
  have i3 : (s.reign != s.reign) = false := by simp
  have i4 : (s.index != s.index) = false := by simp
  have i5 : (s.mark != s.mark) = false := by simp
  have i7 : (s.commit != s.commit) = false := by simp
  have i8 : (s.yes != s.yes) = false := by simp
  have q6 : Hid (Ens w t.en.ad s.en.l) := Lib.hid (e6 ▸ HT.out.en)
  have q10 : Hid (Las w t.bk.la.ad s.bk.la.l) := Lib.hid (e10 ▸ HT.out.bk.la)
  have E9 := Lib.hid e9.symm
  clear e6 e9 e10 hd
  have h0 := (holds_new w (ltA s) 37).alloc (.cells (ltA t) 37)
  have h1 := holds_new (w.alloc (.cells (ltA s) 37)) (ltA t) 37
  have b0 := ((Below.refl w.heap.size w).alloc (Nat.le_refl _) (.cells (ltA s) 37)).alloc (by simp) (.cells (ltA t) 37)
  rw [World.size_alloc] at h1
  go_enter Tryz.func8, Tryz.ntmps8
  obtain ⟨k0, k1, k2, k3, k4, k5, k6, k7, k8, k9, k10⟩ := h0.at11
  obtain ⟨m0, m1, m2, m3, m4, m5, m6, m7, m8, m9, m10⟩ := h1.at11
  rw [e0] at m0
  rw [e1] at m1
  rw [e2] at m2
  rw [e3] at m3
  rw [e4] at m4
  rw [e5] at m5
  rw [e7] at m7
  rw [e8] at m8
  simp only [Sl.v, f6] at m6
  simp only [Sl.v, f10] at m10
  go_wp2_with fail
  refine (eneqS_same s.en.ad t.en.ad s.en.l s.en.cap t.en.cap _ (HS.out.en.below b0) (q6.out.below b0) HS.out.enl).mono ?_
  rintro r w1 ⟨rfl, b1⟩
  replace h0 := h0.below b1
  replace h1 := h1.below b1
  replace b0 := next b0 b1
  clear k0 k1 k2 k3 k4 k5 k6 k7 k8 k9 k10 m0 m1 m2 m3 m4 m5 m6 m7 m8 m9 m10 b1
  obtain ⟨k0, k1, k2, k3, k4, k5, k6, k7, k8, k9, k10⟩ := h0.at11
  obtain ⟨m0, m1, m2, m3, m4, m5, m6, m7, m8, m9, m10⟩ := h1.at11
  rw [e0] at m0
  rw [e1] at m1
  rw [e2] at m2
  rw [e3] at m3
  rw [e4] at m4
  rw [e5] at m5
  rw [e7] at m7
  rw [e8] at m8
  simp only [Sl.v, f6] at m6
  simp only [Sl.v, f10] at m10
  go_wp2_with fail
  refine (eqBook_same s.bk.sf.ad t.bk.sf.ad s.bk.sf.l t.bk.sf.l s.bk.sf.cap t.bk.sf.cap s.bk.la.ad t.bk.la.ad s.bk.la.l s.bk.la.cap t.bk.la.cap _ (HS.out.bk.sf.below b0) (HT.out.bk.sf.below b0) E9.out HS.out.bk.sfl HS.out.bk.sft (HS.out.bk.la.below b0) (q10.out.below b0) HS.out.bk.lal).mono ?_
  rintro r w1 ⟨rfl, b1⟩
  replace h0 := h0.below b1
  replace h1 := h1.below b1
  replace b0 := next b0 b1
  clear k0 k1 k2 k3 k4 k5 k6 k7 k8 k9 k10 m0 m1 m2 m3 m4 m5 m6 m7 m8 m9 m10 b1
  obtain ⟨k0, k1, k2, k3, k4, k5, k6, k7, k8, k9, k10⟩ := h0.at11
  obtain ⟨m0, m1, m2, m3, m4, m5, m6, m7, m8, m9, m10⟩ := h1.at11
  rw [e0] at m0
  rw [e1] at m1
  rw [e2] at m2
  rw [e3] at m3
  rw [e4] at m4
  rw [e5] at m5
  rw [e7] at m7
  rw [e8] at m8
  simp only [Sl.v, f6] at m6
  simp only [Sl.v, f10] at m10
  go_wp2
  go_ret
  exact ⟨rfl, b0⟩
end Go.Proofs.YtdoeiphnalbinaaGreat
namespace Go.Proofs.YtdoeiphnalbinaaGreat
open Go.ChangeShapes Go.WideShapes Go.ChangeAt Go.RowKit Go.Joins Go.Deep
section
variable {H : Type} {enc : TypeId × Value → H} {P : Program} {w : World} {base : Nat} {spare : Nat → Bool} {held : Bool}

theorem cells_wr {t tc te : TypeId} {h0 h1 h2 f0 f1 f2 g0 g1 g2 : Field} {n : Nat} {cs : List Value} {x : DataW H × List MemPlace} (hs : P.underlying t = some (.struct #[h0, h1, h2])) (hC : P.cellsOf t = 3)
    (so : [h0.offset, h1.offset, h2.offset] = [0, 1, 2]) (sk : [P.cellsOf h0.type, P.cellsOf h1.type, P.cellsOf h2.type] = [1, 1, 1])
    (y0 : P.underlying h0.type = some .string) (y1 : P.underlying h1.type = some (.int .i64)) (y2 : h2.type = tc) (y3 : P.underlying tc = some (.slice te))
    (hcs : P.underlying te = some (.struct #[f0, f1, f2])) (hcC : P.cellsOf te = 5)
    (ho : [f0.offset, f1.offset, f2.offset] = [0, 3, 4]) (hk : [P.cellsOf f0.type, P.cellsOf f1.type, P.cellsOf f2.type] = [3, 1, 1])
    (u0 : P.underlying f0.type = some (.struct #[g0, g1, g2])) (u1 : P.underlying f1.type = some .string) (u2 : P.underlying f2.type = some .bool)
    (po : [g0.offset, g1.offset, g2.offset] = [0, 1, 2]) (pk : [P.cellsOf g0.type, P.cellsOf g1.type, P.cellsOf g2.type] = [1, 1, 1])
    (x0 : P.underlying g0.type = some (.int .i64)) (x1 : P.underlying g1.type = some (.int .i64)) (x2 : P.underlying g2.type = some (.int .i64))
    (h : DataW.trod enc P w base spare held n t cs = some x) :
    ∃ r : Wr, cs = wrL r ∧ Cps w r.ad r.cps ∧ r.name.size ≤ maxLen ∧ r.cps.length ≤ maxLen ∧ ∀ c ∈ r.cps, c.page.size ≤ maxLen := by
  obtain ⟨xs, n, _, hx, hl, hlen, hg⟩ := DataW.trod_struct hs h
  simp only [List.cons.injEq, and_true] at so sk
  obtain ⟨p0, p1, p2⟩ := so
  obtain ⟨q0, q1, q2⟩ := sk
  match cs, hl.trans hC with
  | [c0, c1, c2], _ =>
    match xs, hlen with
    | [z0, z1, z2], _ =>
      have i0 := hg 0 h0 rfl
      have i1 := hg 1 h1 rfl
      have i2 := hg 2 h2 rfl
      simp only [p0, p1, p2, q0, q1, q2, List.drop_zero, List.drop_succ_cons, List.take_succ_cons, List.take_zero, List.getElem?_cons_zero, List.getElem?_cons_succ] at i0 i1 i2
      obtain ⟨s, j0, _, hss⟩ := DataW.trod_string y0 i0
      obtain ⟨b, j1, _⟩ := DataW.trod_int y1 i1
      rw [y2] at i2
      haveI : Inhabited M.Cp := ⟨M.zeroCp⟩
      obtain ⟨A, l, c, j2, hfl, hlc, hcm, hq⟩ := open_rows (en := cpL) (Q := fun c => c.page.size ≤ maxLen) y3 hcC (by omega) cpL_len (fun n cs x hx => cells_cp hcs hcC ho hk u0 u1 u2 po pk x0 x1 x2 hx) i2
      simp only [List.cons.injEq, and_true] at j0 j1 j2
      subst j0 j1 j2
      exact ⟨⟨s, b, A, c, l⟩, rfl, hfl, hss, by simp only; omega, hq⟩

end
end Go.Proofs.YtdoeiphnalbinaaGreat
namespace Go.Proofs.YtdoeiphnalbinaaGreat
open Go.ChangeShapes Go.WideShapes Go.ChangeAt Go.RowKit Go.Joins Go.Deep
section
variable {H : Type} {enc : TypeId × Value → H} {P : Program} {w : World} {base : Nat} {spare : Nat → Bool} {held : Bool}
/-- That t is a deed's type. -/
structure DdTy (P : Program) (t : TypeId) (f0 f1 f2 f3 f4 g0 g1 g2 : Field) : Prop where
  hs : P.underlying t = some (.struct #[f0, f1, f2, f3, f4])
  hC : P.cellsOf t = 7
  ho : [f0.offset, f1.offset, f2.offset, f3.offset, f4.offset] = [0, 1, 2, 5, 6]
  hk : [P.cellsOf f0.type, P.cellsOf f1.type, P.cellsOf f2.type, P.cellsOf f3.type, P.cellsOf f4.type] = [1, 1, 3, 1, 1]
  u0 : P.underlying f0.type = some (.int .i64)
  u1 : P.underlying f1.type = some .string
  u2 : P.underlying f2.type = some (.struct #[g0, g1, g2])
  u3 : P.underlying f3.type = some .string
  u4 : P.underlying f4.type = some (.int .i64)
  po : [g0.offset, g1.offset, g2.offset] = [0, 1, 2]
  pk : [P.cellsOf g0.type, P.cellsOf g1.type, P.cellsOf g2.type] = [1, 1, 1]
  x0 : P.underlying g0.type = some (.int .i64)
  x1 : P.underlying g1.type = some (.int .i64)
  x2 : P.underlying g2.type = some (.int .i64)
theorem cells_dd {t : TypeId} {f0 f1 f2 f3 f4 g0 g1 g2 : Field} {n : Nat} {cs : List Value} {x : DataW H × List MemPlace} (T : DdTy P t f0 f1 f2 f3 f4 g0 g1 g2)
    (h : DataW.trod enc P w base spare held n t cs = some x) : ∃ e : M.Dd, cs = (ddC e).toList ∧ e.name.size ≤ maxLen ∧ e.page.size ≤ maxLen := by
  obtain ⟨zs, m, _, _, hl, hlen', hfld'⟩ := DataW.trod_struct T.hs h
  have ho := T.ho
  have hk := T.hk
  simp only [List.cons.injEq, and_true] at ho hk
  obtain ⟨o0, o1, o2, o3, o4⟩ := ho
  obtain ⟨k0, k1, k2, k3, k4⟩ := hk
  match cs, hl.trans T.hC with
  | [c0, c1, c2, c3, c4, c5, c6], _ =>
    match zs, hlen' with
    | [y0, y1, y2, y3, y4], _ =>
      have h0 := hfld' 0 f0 rfl
      have h1 := hfld' 1 f1 rfl
      have h2 := hfld' 2 f2 rfl
      have h3 := hfld' 3 f3 rfl
      have h4 := hfld' 4 f4 rfl
      simp only [o0, o1, o2, o3, o4, k0, k1, k2, k3, k4, List.drop_zero, List.drop_succ_cons, List.take_succ_cons, List.take_zero, List.getElem?_cons_zero, List.getElem?_cons_succ] at h0 h1 h2 h3 h4
      obtain ⟨a0, e0, _⟩ := DataW.trod_int T.u0 h0
      obtain ⟨a1, e1, _, s1⟩ := DataW.trod_string T.u1 h1
      obtain ⟨a2, e2⟩ := cells_ed T.u2 k2 T.po T.pk T.x0 T.x1 T.x2 h2
      obtain ⟨a3, e3, _, s3⟩ := DataW.trod_string T.u3 h3
      obtain ⟨a4, e4, _⟩ := DataW.trod_int T.u4 h4
      simp only [List.cons.injEq, and_true] at e0 e1 e2 e3 e4
      obtain ⟨rfl, rfl, rfl⟩ := e2
      subst e0 e1 e3 e4
      exact ⟨⟨a0, a1, a2, a3, a4⟩, rfl, s1, s3⟩
theorem cells_or {t : TypeId} {h0 h1 h2 f0 f1 f2 f3 f4 g0 g1 g2 : Field} {n : Nat} {cs : List Value} {x : DataW H × List MemPlace} (hs : P.underlying t = some (.struct #[h0, h1, h2])) (hC : P.cellsOf t = 9)
    (so : [h0.offset, h1.offset, h2.offset] = [0, 1, 2]) (sk : [P.cellsOf h0.type, P.cellsOf h1.type, P.cellsOf h2.type] = [1, 1, 7])
    (y0 : P.underlying h0.type = some (.int .i64)) (y1 : P.underlying h1.type = some (.int .i64)) (T : DdTy P h2.type f0 f1 f2 f3 f4 g0 g1 g2)
    (h : DataW.trod enc P w base spare held n t cs = some x) : ∃ o : M.Or, cs = (orC o).toList ∧ o.deed.name.size ≤ maxLen ∧ o.deed.page.size ≤ maxLen := by
  obtain ⟨zs, m, _, _, hl, hlen', hfld'⟩ := DataW.trod_struct hs h
  simp only [List.cons.injEq, and_true] at so sk
  obtain ⟨o0, o1, o2⟩ := so
  obtain ⟨k0, k1, k2⟩ := sk
  match cs, hl.trans hC with
  | [c0, c1, c2, c3, c4, c5, c6, c7, c8], _ =>
    match zs, hlen' with
    | [z0, z1, z2], _ =>
      have i0 := hfld' 0 h0 rfl
      have i1 := hfld' 1 h1 rfl
      have i2 := hfld' 2 h2 rfl
      simp only [o0, o1, o2, k0, k1, k2, List.drop_zero, List.drop_succ_cons, List.take_succ_cons, List.take_zero, List.getElem?_cons_zero, List.getElem?_cons_succ] at i0 i1 i2
      obtain ⟨a0, e0, _⟩ := DataW.trod_int y0 i0
      obtain ⟨a1, e1, _⟩ := DataW.trod_int y1 i1
      obtain ⟨d, e2, s1, s3⟩ := cells_dd T i2
      simp only [List.cons.injEq, and_true] at e0 e1 e2
      subst e0 e1
      obtain ⟨rfl, rfl, rfl, rfl, rfl, rfl, rfl⟩ := e2
      exact ⟨⟨a0, a1, d⟩, rfl, s1, s3⟩
theorem cells_la {t : TypeId} {h0 h1 h2 g0 g1 : Field} {n : Nat} {cs : List Value} {x : DataW H × List MemPlace} (hs : P.underlying t = some (.struct #[h0, h1, h2])) (hC : P.cellsOf t = 4)
    (so : [h0.offset, h1.offset, h2.offset] = [0, 1, 2]) (sk : [P.cellsOf h0.type, P.cellsOf h1.type, P.cellsOf h2.type] = [1, 1, 2])
    (y0 : P.underlying h0.type = some (.int .i64)) (y1 : P.underlying h1.type = some (.int .i64)) (y2 : P.underlying h2.type = some (.struct #[g0, g1]))
    (po : [g0.offset, g1.offset] = [0, 1]) (pk : [P.cellsOf g0.type, P.cellsOf g1.type] = [1, 1]) (x0 : P.underlying g0.type = some (.int .i64)) (x1 : P.underlying g1.type = some .string)
    (h : DataW.trod enc P w base spare held n t cs = some x) : ∃ c : M.La, cs = laL c ∧ laIn maxLen c := by
  obtain ⟨zs, m, _, _, hl, hlen', hfld'⟩ := DataW.trod_struct hs h
  simp only [List.cons.injEq, and_true] at so sk po pk
  obtain ⟨o0, o1, o2⟩ := so
  obtain ⟨k0, k1, k2⟩ := sk
  obtain ⟨p0, p1⟩ := po
  obtain ⟨q0, q1⟩ := pk
  match cs, hl.trans hC with
  | [c0, c1, c2, c3], _ =>
    match zs, hlen' with
    | [z0, z1, z2], _ =>
      have i0 := hfld' 0 h0 rfl
      have i1 := hfld' 1 h1 rfl
      have i2 := hfld' 2 h2 rfl
      simp only [o0, o1, o2, k0, k1, k2, List.drop_zero, List.drop_succ_cons, List.take_succ_cons, List.take_zero, List.getElem?_cons_zero, List.getElem?_cons_succ] at i0 i1 i2
      obtain ⟨a0, e0, _⟩ := DataW.trod_int y0 i0
      obtain ⟨a1, e1, _⟩ := DataW.trod_int y1 i1
      obtain ⟨us, m', _, _, _, hlen2, hfld2⟩ := DataW.trod_struct y2 i2
      match us, hlen2 with
      | [v0, v1], _ =>
        have j0 := hfld2 0 g0 rfl
        have j1 := hfld2 1 g1 rfl
        simp only [p0, p1, q0, q1, List.drop_zero, List.drop_succ_cons, List.take_succ_cons, List.take_zero, List.getElem?_cons_zero, List.getElem?_cons_succ] at j0 j1
        obtain ⟨a2, e2, _⟩ := DataW.trod_int x0 j0
        obtain ⟨a3, e3, _, s3⟩ := DataW.trod_string x1 j1
        simp only [List.cons.injEq, and_true] at e0 e1 e2 e3
        subst e0 e1 e2 e3
        exact ⟨⟨a0, a1, a2, a3⟩, rfl, s3⟩
/-- That the types are those of works (in a list) and of lasts (in a list). -/
structure SfTy (P : Program) (ts t tc te : TypeId) (h0 h1 h2 f0 f1 f2 g0 g1 g2 : Field) : Prop where
  hts : P.underlying ts = some (.slice t)
  hs : P.underlying t = some (.struct #[h0, h1, h2])
  hC : P.cellsOf t = 3
  so : [h0.offset, h1.offset, h2.offset] = [0, 1, 2]
  sk : [P.cellsOf h0.type, P.cellsOf h1.type, P.cellsOf h2.type] = [1, 1, 1]
  y0 : P.underlying h0.type = some .string
  y1 : P.underlying h1.type = some (.int .i64)
  y2 : h2.type = tc
  y3 : P.underlying tc = some (.slice te)
  hcs : P.underlying te = some (.struct #[f0, f1, f2])
  hcC : P.cellsOf te = 5
  ho : [f0.offset, f1.offset, f2.offset] = [0, 3, 4]
  hk : [P.cellsOf f0.type, P.cellsOf f1.type, P.cellsOf f2.type] = [3, 1, 1]
  u0 : P.underlying f0.type = some (.struct #[g0, g1, g2])
  u1 : P.underlying f1.type = some .string
  u2 : P.underlying f2.type = some .bool
  po : [g0.offset, g1.offset, g2.offset] = [0, 1, 2]
  pk : [P.cellsOf g0.type, P.cellsOf g1.type, P.cellsOf g2.type] = [1, 1, 1]
  x0 : P.underlying g0.type = some (.int .i64)
  x1 : P.underlying g1.type = some (.int .i64)
  x2 : P.underlying g2.type = some (.int .i64)
structure LaTy (P : Program) (ts t : TypeId) (h0 h1 h2 g0 g1 : Field) : Prop where
  hts : P.underlying ts = some (.slice t)
  hs : P.underlying t = some (.struct #[h0, h1, h2])
  hC : P.cellsOf t = 4
  so : [h0.offset, h1.offset, h2.offset] = [0, 1, 2]
  sk : [P.cellsOf h0.type, P.cellsOf h1.type, P.cellsOf h2.type] = [1, 1, 2]
  y0 : P.underlying h0.type = some (.int .i64)
  y1 : P.underlying h1.type = some (.int .i64)
  y2 : P.underlying h2.type = some (.struct #[g0, g1])
  po : [g0.offset, g1.offset] = [0, 1]
  pk : [P.cellsOf g0.type, P.cellsOf g1.type] = [1, 1]
  x0 : P.underlying g0.type = some (.int .i64)
  x1 : P.underlying g1.type = some .string
theorem cells_sf {ts t tc te : TypeId} {h0 h1 h2 f0 f1 f2 g0 g1 g2 : Field} {n : Nat} {cs : List Value} {x : DataW H × List MemPlace} (T : SfTy P ts t tc te h0 h1 h2 f0 f1 f2 g0 g1 g2)
    (h : DataW.trod enc P w base spare held n ts cs = some x) : ∃ (A : Option Addr) (l : List Wr) (c : Nat), cs = [.slice A l.length c] ∧ Wks w A l ∧ l.length ≤ maxLen ∧ WrsIn maxLen l := by
  obtain ⟨A, l, c, hcell, hfl, hlc, hcm, hq⟩ := open_rows (en := wrL) (Q := fun r => Cps w r.ad r.cps ∧ r.name.size ≤ maxLen ∧ r.cps.length ≤ maxLen ∧ ∀ c ∈ r.cps, c.page.size ≤ maxLen) T.hts T.hC (by omega) wrL_len (fun n cs x hx => cells_wr T.hs T.hC T.so T.sk T.y0 T.y1 T.y2 T.y3 T.hcs T.hcC T.ho T.hk T.u0 T.u1 T.u2 T.po T.pk T.x0 T.x1 T.x2 hx) h
  exact ⟨A, l, c, hcell, ⟨hfl, fun r hr => (hq r hr).1⟩, by omega, fun r hr => (hq r hr).2⟩
theorem cells_las {ts t : TypeId} {h0 h1 h2 g0 g1 : Field} {n : Nat} {cs : List Value} {x : DataW H × List MemPlace} (T : LaTy P ts t h0 h1 h2 g0 g1)
    (h : DataW.trod enc P w base spare held n ts cs = some x) : ∃ (A : Option Addr) (l : List M.La) (c : Nat), cs = [.slice A l.length c] ∧ Las w A l ∧ l.length ≤ maxLen ∧ ∀ c ∈ l, laIn maxLen c := by
  haveI : Inhabited M.La := ⟨⟨0, 0, 0, ⟨#[]⟩⟩⟩
  obtain ⟨A, l, c, hcell, hfl, hlc, hcm, hq⟩ := open_rows (en := laL) (Q := fun c => laIn maxLen c) T.hts T.hC (by omega) laL_len (fun n cs x hx => cells_la T.hs T.hC T.so T.sk T.y0 T.y1 T.y2 T.po T.pk T.x0 T.x1 hx) h
  exact ⟨A, l, c, hcell, hfl, by omega, hq⟩
theorem cells_bk {t ts t' tc te us u : TypeId} {k0 k1 h0 h1 h2 f0 f1 f2 g0 g1 g2 l0 l1 l2 m0 m1 : Field} {n : Nat} {cs : List Value} {x : DataW H × List MemPlace} (hs : P.underlying t = some (.struct #[k0, k1])) (hC : P.cellsOf t = 2)
    (so : [k0.offset, k1.offset] = [0, 1]) (sk : [P.cellsOf k0.type, P.cellsOf k1.type] = [1, 1]) (e0 : k0.type = ts) (e1 : k1.type = us)
    (T : SfTy P ts t' tc te h0 h1 h2 f0 f1 f2 g0 g1 g2) (L : LaTy P us u l0 l1 l2 m0 m1)
    (h : DataW.trod enc P w base spare held n t cs = some x) : ∃ (A : Option Addr) (l : List Wr) (c : Nat) (B : Option Addr) (m : List M.La) (e : Nat), cs = (bkA A l.length c B m.length e).toList ∧ Wks w A l ∧ l.length ≤ maxLen ∧ WrsIn maxLen l ∧ Las w B m ∧ m.length ≤ maxLen ∧ ∀ c ∈ m, laIn maxLen c := by
  obtain ⟨zs, m, _, _, hl, hlen', hfld'⟩ := DataW.trod_struct hs h
  simp only [List.cons.injEq, and_true] at so sk
  obtain ⟨o0, o1⟩ := so
  obtain ⟨k0', k1'⟩ := sk
  match cs, hl.trans hC with
  | [c0, c1], _ =>
    match zs, hlen' with
    | [z0, z1], _ =>
      have i0 := hfld' 0 k0 rfl
      have i1 := hfld' 1 k1 rfl
      simp only [o0, o1, k0', k1', List.drop_zero, List.drop_succ_cons, List.take_succ_cons, List.take_zero, List.getElem?_cons_zero, List.getElem?_cons_succ] at i0 i1
      rw [e0] at i0
      rw [e1] at i1
      obtain ⟨A, l, c, j0, a1, a2, a3⟩ := cells_sf T i0
      obtain ⟨B, m, e, j1, b1, b2, b3⟩ := cells_las L i1
      simp only [List.cons.injEq, and_true] at j0 j1
      subst j0 j1
      exact ⟨A, l, c, B, m, e, rfl, a1, a2, a3, b1, b2, b3⟩
end
end Go.Proofs.YtdoeiphnalbinaaGreat
namespace Go.Proofs.YtdoeiphnalbinaaGreat
open Go.ChangeShapes Go.WideShapes Go.ChangeAt Go.RowKit Go.Joins Go.Deep
set_option linter.unusedVariables false
section
variable {H : Type} {enc : TypeId × Value → H} {P : Program} {w : World} {base : Nat} {spare : Nat → Bool} {held : Bool}
/-- How cells of such a type are read. -/
abbrev Opens (enc : TypeId × Value → H) (P : Program) (w : World) (base : Nat) (spare : Nat → Bool) (held : Bool) (t : TypeId) {α : Type} (cells : α → List Value) (Q : α → Prop) : Prop := ∀ (n : Nat) (cs : List Value) (x : DataW H × List MemPlace), DataW.trod enc P w base spare held n t cs = some x → ∃ a, cs = cells a ∧ Q a
abbrev bkCells (b : LBk) : List Value := [b.sf.v, b.la.v]
theorem opens_bk {t ts t' tc te us u : TypeId} {k0 k1 h0 h1 h2 f0 f1 f2 g0 g1 g2 l0 l1 l2 m0 m1 : Field} (hs : P.underlying t = some (.struct #[k0, k1])) (hC : P.cellsOf t = 2)
    (so : [k0.offset, k1.offset] = [0, 1]) (sk : [P.cellsOf k0.type, P.cellsOf k1.type] = [1, 1]) (e0 : k0.type = ts) (e1 : k1.type = us)
    (T : SfTy P ts t' tc te h0 h1 h2 f0 f1 f2 g0 g1 g2) (L : LaTy P us u l0 l1 l2 m0 m1) : Opens enc P w base spare held t bkCells (BkRd maxLen w) := fun n cs x h => by
  obtain ⟨A, l, c, B, m, e, ho, h1, h2, h3, h4, h5, h6⟩ := cells_bk hs hC so sk e0 e1 T L h
  exact ⟨⟨⟨A, c, l⟩, ⟨B, e, m⟩⟩, ho, h1, h2, h3, h4, h5, h6⟩
end
end Go.Proofs.YtdoeiphnalbinaaGreat
namespace Go.Proofs.YtdoeiphnalbinaaGreat
open Go.ChangeShapes Go.WideShapes Go.ChangeAt Go.RowKit Go.Joins Go.Deep
structure OrTy (P : Program) (t : TypeId) (h0 h1 h2 f0 f1 f2 f3 f4 g0 g1 g2 : Field) : Prop where
  hs : P.underlying t = some (.struct #[h0, h1, h2])
  hC : P.cellsOf t = 9
  so : [h0.offset, h1.offset, h2.offset] = [0, 1, 2]
  sk : [P.cellsOf h0.type, P.cellsOf h1.type, P.cellsOf h2.type] = [1, 1, 7]
  y0 : P.underlying h0.type = some (.int .i64)
  y1 : P.underlying h1.type = some (.int .i64)
  T : DdTy P h2.type f0 f1 f2 f3 f4 g0 g1 g2
section
variable {H : Type} {enc : TypeId × Value → H} {P : Program} {w : World} {base : Nat} {spare : Nat → Bool} {held : Bool}
theorem cells_en {t : TypeId} {e0 e1 h0 h1 h2 f0 f1 f2 f3 f4 g0 g1 g2 : Field} {n : Nat} {cs : List Value} {x : DataW H × List MemPlace} (hs : P.underlying t = some (.struct #[e0, e1])) (hC : P.cellsOf t = 10)
    (so : [e0.offset, e1.offset] = [0, 1]) (sk : [P.cellsOf e0.type, P.cellsOf e1.type] = [1, 9])
    (y0 : P.underlying e0.type = some (.int .i64)) (T : OrTy P e1.type h0 h1 h2 f0 f1 f2 f3 f4 g0 g1 g2)
    (h : DataW.trod enc P w base spare held n t cs = some x) : ∃ e : M.En, cs = enL e ∧ enIn maxLen e := by
  obtain ⟨zs, m, _, _, hl, hlen', hfld'⟩ := DataW.trod_struct hs h
  simp only [List.cons.injEq, and_true] at so sk
  obtain ⟨o0, o1⟩ := so
  obtain ⟨k0, k1⟩ := sk
  match cs, hl.trans hC with
  | [c0, c1, c2, c3, c4, c5, c6, c7, c8, c9], _ =>
    match zs, hlen' with
    | [z0, z1], _ =>
      have i0 := hfld' 0 e0 rfl
      have i1 := hfld' 1 e1 rfl
      simp only [o0, o1, k0, k1, List.drop_zero, List.drop_succ_cons, List.take_succ_cons, List.take_zero, List.getElem?_cons_zero, List.getElem?_cons_succ] at i0 i1
      obtain ⟨a0, q0, _⟩ := DataW.trod_int y0 i0
      obtain ⟨o, q1, s1, s3⟩ := cells_or T.hs T.hC T.so T.sk T.y0 T.y1 T.T i1
      simp only [List.cons.injEq, and_true] at q0 q1
      subst q0
      obtain ⟨rfl, rfl, rfl, rfl, rfl, rfl, rfl, rfl, rfl⟩ := q1
      exact ⟨⟨a0, o⟩, rfl, s1, s3⟩
end
end Go.Proofs.YtdoeiphnalbinaaGreat
