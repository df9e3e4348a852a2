/- Proved, in parts: Proved: an argument that is an order is its nine cells; the cells of a deed and of a last; no program is named here. Proved: an argument that is an entry is its reign and its order, a slice of entries a list of them; no program is named here. Proved: an argument that is a roll is its base, its reign and a list of entries; no program is named here. Proved: the model's test of a roll, its last number and the reign of an entry answer the plain Lean functions that the program's answer; nothing that was there is written. Condition: texts and lists of at most a million. -/
import Derived.Test.YtkpbfocnokbmiaaPart04
import Derived.Test.YtkpbfocnokbmiaaPart13
import Derived.Test.YtkpbfocnokbmiaaPart09
import Derived.Test.YtkpbfocnokbmiaaPart10
namespace Go.Proofs.Ytkpbfocnokbmiaa
open Go.ChangeShapes Go.WideShapes Go.ChangeAt Go.RowKit Go.Joins Go.Deep
section
variable {H : Type} {enc : TypeId × Value → H} {P : Program} {w : World} {base : Nat} {spare : Nat → Bool} {held : Bool}
/-- That t is a deed's type. -/
structure DdTy (P : Program) (t : TypeId) (f0 f1 f2 f3 f4 g0 g1 g2 : Field) : Prop where
  hs : P.underlying t = some (.struct #[f0, f1, f2, f3, f4])
  hC : P.cellsOf t = 7
  ho : [f0.offset, f1.offset, f2.offset, f3.offset, f4.offset] = [0, 1, 2, 5, 6]
  hk : [P.cellsOf f0.type, P.cellsOf f1.type, P.cellsOf f2.type, P.cellsOf f3.type, P.cellsOf f4.type] = [1, 1, 3, 1, 1]
  u0 : P.underlying f0.type = some (.int .i64)
  u1 : P.underlying f1.type = some .string
  u2 : P.underlying f2.type = some (.struct #[g0, g1, g2])
  u3 : P.underlying f3.type = some .string
  u4 : P.underlying f4.type = some (.int .i64)
  po : [g0.offset, g1.offset, g2.offset] = [0, 1, 2]
  pk : [P.cellsOf g0.type, P.cellsOf g1.type, P.cellsOf g2.type] = [1, 1, 1]
  x0 : P.underlying g0.type = some (.int .i64)
  x1 : P.underlying g1.type = some (.int .i64)
  x2 : P.underlying g2.type = some (.int .i64)
theorem cells_dd {t : TypeId} {f0 f1 f2 f3 f4 g0 g1 g2 : Field} {n : Nat} {cs : List Value} {x : DataW H × List MemPlace} (T : DdTy P t f0 f1 f2 f3 f4 g0 g1 g2)
    (h : DataW.trod enc P w base spare held n t cs = some x) : ∃ e : M.Dd, cs = (ddC e).toList ∧ e.name.size ≤ maxLen ∧ e.page.size ≤ maxLen := by
  obtain ⟨zs, m, _, _, hl, hlen', hfld'⟩ := DataW.trod_struct T.hs h
  have ho := T.ho
  have hk := T.hk
  simp only [List.cons.injEq, and_true] at ho hk
  obtain ⟨o0, o1, o2, o3, o4⟩ := ho
  obtain ⟨k0, k1, k2, k3, k4⟩ := hk
  match cs, hl.trans T.hC with
  | [c0, c1, c2, c3, c4, c5, c6], _ =>
    match zs, hlen' with
    | [y0, y1, y2, y3, y4], _ =>
      have h0 := hfld' 0 f0 rfl
      have h1 := hfld' 1 f1 rfl
      have h2 := hfld' 2 f2 rfl
      have h3 := hfld' 3 f3 rfl
      have h4 := hfld' 4 f4 rfl
      simp only [o0, o1, o2, o3, o4, k0, k1, k2, k3, k4, List.drop_zero, List.drop_succ_cons, List.take_succ_cons, List.take_zero, List.getElem?_cons_zero, List.getElem?_cons_succ] at h0 h1 h2 h3 h4
      obtain ⟨a0, e0, _⟩ := DataW.trod_int T.u0 h0
      obtain ⟨a1, e1, _, s1⟩ := DataW.trod_string T.u1 h1
      obtain ⟨a2, e2⟩ := cells_ed T.u2 k2 T.po T.pk T.x0 T.x1 T.x2 h2
      obtain ⟨a3, e3, _, s3⟩ := DataW.trod_string T.u3 h3
      obtain ⟨a4, e4, _⟩ := DataW.trod_int T.u4 h4
      simp only [List.cons.injEq, and_true] at e0 e1 e2 e3 e4
      obtain ⟨rfl, rfl, rfl⟩ := e2
      subst e0 e1 e3 e4
      exact ⟨⟨a0, a1, a2, a3, a4⟩, rfl, s1, s3⟩
theorem cells_or {t : TypeId} {h0 h1 h2 f0 f1 f2 f3 f4 g0 g1 g2 : Field} {n : Nat} {cs : List Value} {x : DataW H × List MemPlace} (hs : P.underlying t = some (.struct #[h0, h1, h2])) (hC : P.cellsOf t = 9)
    (so : [h0.offset, h1.offset, h2.offset] = [0, 1, 2]) (sk : [P.cellsOf h0.type, P.cellsOf h1.type, P.cellsOf h2.type] = [1, 1, 7])
    (y0 : P.underlying h0.type = some (.int .i64)) (y1 : P.underlying h1.type = some (.int .i64)) (T : DdTy P h2.type f0 f1 f2 f3 f4 g0 g1 g2)
    (h : DataW.trod enc P w base spare held n t cs = some x) : ∃ o : M.Or, cs = (orC o).toList ∧ o.deed.name.size ≤ maxLen ∧ o.deed.page.size ≤ maxLen := by
  obtain ⟨zs, m, _, _, hl, hlen', hfld'⟩ := DataW.trod_struct hs h
  simp only [List.cons.injEq, and_true] at so sk
  obtain ⟨o0, o1, o2⟩ := so
  obtain ⟨k0, k1, k2⟩ := sk
  match cs, hl.trans hC with
  | [c0, c1, c2, c3, c4, c5, c6, c7, c8], _ =>
    match zs, hlen' with
    | [z0, z1, z2], _ =>
      have i0 := hfld' 0 h0 rfl
      have i1 := hfld' 1 h1 rfl
      have i2 := hfld' 2 h2 rfl
      simp only [o0, o1, o2, k0, k1, k2, List.drop_zero, List.drop_succ_cons, List.take_succ_cons, List.take_zero, List.getElem?_cons_zero, List.getElem?_cons_succ] at i0 i1 i2
      obtain ⟨a0, e0, _⟩ := DataW.trod_int y0 i0
      obtain ⟨a1, e1, _⟩ := DataW.trod_int y1 i1
      obtain ⟨d, e2, s1, s3⟩ := cells_dd T i2
      simp only [List.cons.injEq, and_true] at e0 e1 e2
      subst e0 e1
      obtain ⟨rfl, rfl, rfl, rfl, rfl, rfl, rfl⟩ := e2
      exact ⟨⟨a0, a1, d⟩, rfl, s1, s3⟩
/-- That the types are those of works (in a list) and of lasts (in a list). -/
structure SfTy (P : Program) (ts t tc te : TypeId) (h0 h1 h2 f0 f1 f2 g0 g1 g2 : Field) : Prop where
  hts : P.underlying ts = some (.slice t)
  hs : P.underlying t = some (.struct #[h0, h1, h2])
  hC : P.cellsOf t = 3
  so : [h0.offset, h1.offset, h2.offset] = [0, 1, 2]
  sk : [P.cellsOf h0.type, P.cellsOf h1.type, P.cellsOf h2.type] = [1, 1, 1]
  y0 : P.underlying h0.type = some .string
  y1 : P.underlying h1.type = some (.int .i64)
  y2 : h2.type = tc
  y3 : P.underlying tc = some (.slice te)
  hcs : P.underlying te = some (.struct #[f0, f1, f2])
  hcC : P.cellsOf te = 5
  ho : [f0.offset, f1.offset, f2.offset] = [0, 3, 4]
  hk : [P.cellsOf f0.type, P.cellsOf f1.type, P.cellsOf f2.type] = [3, 1, 1]
  u0 : P.underlying f0.type = some (.struct #[g0, g1, g2])
  u1 : P.underlying f1.type = some .string
  u2 : P.underlying f2.type = some .bool
  po : [g0.offset, g1.offset, g2.offset] = [0, 1, 2]
  pk : [P.cellsOf g0.type, P.cellsOf g1.type, P.cellsOf g2.type] = [1, 1, 1]
  x0 : P.underlying g0.type = some (.int .i64)
  x1 : P.underlying g1.type = some (.int .i64)
  x2 : P.underlying g2.type = some (.int .i64)
structure LaTy (P : Program) (ts t : TypeId) (h0 h1 h2 g0 g1 : Field) : Prop where
  hts : P.underlying ts = some (.slice t)
  hs : P.underlying t = some (.struct #[h0, h1, h2])
  hC : P.cellsOf t = 4
  so : [h0.offset, h1.offset, h2.offset] = [0, 1, 2]
  sk : [P.cellsOf h0.type, P.cellsOf h1.type, P.cellsOf h2.type] = [1, 1, 2]
  y0 : P.underlying h0.type = some (.int .i64)
  y1 : P.underlying h1.type = some (.int .i64)
  y2 : P.underlying h2.type = some (.struct #[g0, g1])
  po : [g0.offset, g1.offset] = [0, 1]
  pk : [P.cellsOf g0.type, P.cellsOf g1.type] = [1, 1]
  x0 : P.underlying g0.type = some (.int .i64)
  x1 : P.underlying g1.type = some .string
end
end Go.Proofs.Ytkpbfocnokbmiaa
namespace Go.Proofs.Ytkpbfocnokbmiaa
open Go.ChangeShapes Go.WideShapes Go.ChangeAt Go.RowKit Go.Joins Go.Deep
structure OrTy (P : Program) (t : TypeId) (h0 h1 h2 f0 f1 f2 f3 f4 g0 g1 g2 : Field) : Prop where
  hs : P.underlying t = some (.struct #[h0, h1, h2])
  hC : P.cellsOf t = 9
  so : [h0.offset, h1.offset, h2.offset] = [0, 1, 2]
  sk : [P.cellsOf h0.type, P.cellsOf h1.type, P.cellsOf h2.type] = [1, 1, 7]
  y0 : P.underlying h0.type = some (.int .i64)
  y1 : P.underlying h1.type = some (.int .i64)
  T : DdTy P h2.type f0 f1 f2 f3 f4 g0 g1 g2
section
variable {H : Type} {enc : TypeId × Value → H} {P : Program} {w : World} {base : Nat} {spare : Nat → Bool} {held : Bool}
theorem cells_en {t : TypeId} {e0 e1 h0 h1 h2 f0 f1 f2 f3 f4 g0 g1 g2 : Field} {n : Nat} {cs : List Value} {x : DataW H × List MemPlace} (hs : P.underlying t = some (.struct #[e0, e1])) (hC : P.cellsOf t = 10)
    (so : [e0.offset, e1.offset] = [0, 1]) (sk : [P.cellsOf e0.type, P.cellsOf e1.type] = [1, 9])
    (y0 : P.underlying e0.type = some (.int .i64)) (T : OrTy P e1.type h0 h1 h2 f0 f1 f2 f3 f4 g0 g1 g2)
    (h : DataW.trod enc P w base spare held n t cs = some x) : ∃ e : M.En, cs = enL e ∧ enIn maxLen e := by
  obtain ⟨zs, m, _, _, hl, hlen', hfld'⟩ := DataW.trod_struct hs h
  simp only [List.cons.injEq, and_true] at so sk
  obtain ⟨o0, o1⟩ := so
  obtain ⟨k0, k1⟩ := sk
  match cs, hl.trans hC with
  | [c0, c1, c2, c3, c4, c5, c6, c7, c8, c9], _ =>
    match zs, hlen' with
    | [z0, z1], _ =>
      have i0 := hfld' 0 e0 rfl
      have i1 := hfld' 1 e1 rfl
      simp only [o0, o1, k0, k1, List.drop_zero, List.drop_succ_cons, List.take_succ_cons, List.take_zero, List.getElem?_cons_zero, List.getElem?_cons_succ] at i0 i1
      obtain ⟨a0, q0, _⟩ := DataW.trod_int y0 i0
      obtain ⟨o, q1, s1, s3⟩ := cells_or T.hs T.hC T.so T.sk T.y0 T.y1 T.T i1
      simp only [List.cons.injEq, and_true] at q0 q1
      subst q0
      obtain ⟨rfl, rfl, rfl, rfl, rfl, rfl, rfl, rfl, rfl⟩ := q1
      exact ⟨⟨a0, o⟩, rfl, s1, s3⟩
end
end Go.Proofs.Ytkpbfocnokbmiaa
namespace Go.Proofs.Ytkpbfocnokbmiaa
open Go.ChangeShapes Go.WideShapes Go.ChangeAt Go.RowKit Go.Joins Go.Deep
section
variable {H : Type} {enc : TypeId × Value → H} {P : Program} {w : World} {base : Nat} {spare : Nat → Bool} {held : Bool}
theorem cells_ro {t ts te : TypeId} {r0 r1 r2 e0 e1 h0 h1 h2 f0 f1 f2 f3 f4 g0 g1 g2 : Field} {n : Nat} {cs : List Value} {x : DataW H × List MemPlace} (hr : P.underlying t = some (.struct #[r0, r1, r2])) (hrC : P.cellsOf t = 3)
    (ro : [r0.offset, r1.offset, r2.offset] = [0, 1, 2]) (rk : [P.cellsOf r0.type, P.cellsOf r1.type, P.cellsOf r2.type] = [1, 1, 1]) (x0 : P.underlying r0.type = some (.int .i64)) (x1 : P.underlying r1.type = some (.int .i64)) (et : r2.type = ts)
    (hts : P.underlying ts = some (.slice te)) (hs : P.underlying te = some (.struct #[e0, e1])) (hC : P.cellsOf te = 10)
    (so : [e0.offset, e1.offset] = [0, 1]) (sk : [P.cellsOf e0.type, P.cellsOf e1.type] = [1, 9])
    (y0 : P.underlying e0.type = some (.int .i64)) (T : OrTy P e1.type h0 h1 h2 f0 f1 f2 f3 f4 g0 g1 g2)
    (h : DataW.trod enc P w base spare held n t cs = some x) : ∃ (b r : Int) (A : Option Addr) (l : List M.En) (c : Nat), cs = [.int .i64 b, .int .i64 r, .slice A l.length c] ∧ Ens w A l ∧ l.length ≤ maxLen ∧ ∀ e ∈ l, enIn maxLen e := by
  haveI : Inhabited M.En := ⟨⟨0, ⟨0, 0, ⟨0, ⟨#[]⟩, ⟨0, 0, 0⟩, ⟨#[]⟩, 0⟩⟩⟩⟩
  obtain ⟨zs, m, _, _, hl, hlen', hfld'⟩ := DataW.trod_struct hr h
  simp only [List.cons.injEq, and_true] at ro rk
  obtain ⟨o0, o1, o2⟩ := ro
  obtain ⟨k0, k1, k2⟩ := rk
  match cs, hl.trans hrC with
  | [c0, c1, c2], _ =>
    match zs, hlen' with
    | [z0, z1, z2], _ =>
      have i0 := hfld' 0 r0 rfl
      have i1 := hfld' 1 r1 rfl
      have i2 := hfld' 2 r2 rfl
      simp only [o0, o1, o2, k0, k1, k2, List.drop_zero, List.drop_succ_cons, List.take_succ_cons, List.take_zero, List.getElem?_cons_zero, List.getElem?_cons_succ] at i0 i1 i2
      obtain ⟨a0, q0, _⟩ := DataW.trod_int x0 i0
      obtain ⟨a1, q1, _⟩ := DataW.trod_int x1 i1
      rw [et] at i2
      obtain ⟨A, l, c, hcell, hfl, hlc, hcm, hq⟩ := open_rows (en := enL) (Q := fun e => enIn maxLen e) hts hC (by omega) enL_len (fun n cs x hx => cells_en hs hC so sk y0 T hx) i2
      simp only [List.cons.injEq, and_true] at q0 q1 hcell
      subst q0 q1 hcell
      exact ⟨a0, a1, A, l, c, rfl, hfl, by omega, hq⟩
theorem open_ro {r : Reach} {b0 : Nat} {t ts te : TypeId} {r0 r1 r2 e0 e1 h0 h1 h2 f0 f1 f2 f3 f4 g0 g1 g2 : Field} {v : Value} {d : DataW H} {p : List MemPlace} (hr : P.underlying t = some (.struct #[r0, r1, r2])) (hrC : P.cellsOf t = 3)
    (ro : [r0.offset, r1.offset, r2.offset] = [0, 1, 2]) (rk : [P.cellsOf r0.type, P.cellsOf r1.type, P.cellsOf r2.type] = [1, 1, 1]) (x0 : P.underlying r0.type = some (.int .i64)) (x1 : P.underlying r1.type = some (.int .i64)) (et : r2.type = ts)
    (hts : P.underlying ts = some (.slice te)) (hs : P.underlying te = some (.struct #[e0, e1])) (hC : P.cellsOf te = 10)
    (so : [e0.offset, e1.offset] = [0, 1]) (sk : [P.cellsOf e0.type, P.cellsOf e1.type] = [1, 9])
    (y0 : P.underlying e0.type = some (.int .i64)) (T : OrTy P e1.type h0 h1 h2 f0 f1 f2 f3 f4 g0 g1 g2)
    (hv : Value.okWide P w r b0 t v) (h : DataW.Trod enc P w base spare held t v d p) : ∃ (b r : Int) (A : Option Addr) (l : List M.En) (c : Nat), v = roV b r A l.length c ∧ Ens w A l ∧ l.length ≤ maxLen ∧ ∀ e ∈ l, enIn maxLen e := by
  obtain ⟨cs, rfl, hsz⟩ := okWide_struct hr hv
  obtain ⟨fuel, hf⟩ := h
  obtain ⟨b, r, A, l, c, he, h1⟩ := cells_ro hr hrC ro rk x0 x1 et hts hs hC so sk y0 T hf
  refine ⟨b, r, A, l, c, ?_, h1⟩
  obtain ⟨q⟩ := cs
  simp only [Value.cells] at he
  rw [he]
end
end Go.Proofs.Ytkpbfocnokbmiaa
namespace Go.Proofs.Ytkpbfocnokbmiaa
open Go.RowKit
set_option maxRecDepth 20000
set_option linter.unusedVariables false
set_option maxHeartbeats 2000000 in
theorem l8List_any (r : Int) (A : Option Addr) (l : List M.En) (cap : Nat) (w : World) (hl : Ens w A l) (hlen : l.length ≤ 1048576) (hp : ∀ e ∈ l, enIn 1048576 e) :
    Calls Try.prog 63 #[.slice A l.length cap, .int .i64 r] w fun e w' => e = .returned (.bool (M.listOk r l)) ∧ Below w.heap.size w w' := by
  have HP := Lib.hid hp
  clear hp
  go_enter Try.func63, Try.ntmps63
  go_wp2
  go_loopw [1, 5] (fun a i wr => ∃ j : Nat, i = .int .i64 j ∧ a = .int .i64 (M.reignAhead r l j) ∧ j ≤ l.length ∧ M.OkTo r l j ∧ Below w.heap.size w wr) (fun _ i _ => l.length - (intOf i).toNat)
  case atStart => exact ⟨0, rfl, rfl, Nat.zero_le _, M.OkTo.zero r l, Below.refl _ _⟩
  case round =>
    obtain ⟨j, rfl, rfl, hj, hup, hbl⟩ := hrel
    by_cases hlt : j < l.length
    · have hj' := Ens_at (hl.below hbl) hlt
      obtain ⟨b, o, rfl, zb, c0, c1, c2, c3, c4, c5, c6, c7, c8, c9⟩ := hj'
      obtain ⟨hn, hg⟩ : enIn 1048576 l[j] := HP.out l[j] (List.getElem_mem hlt)
      have HA := Lib.hid hl
      have HU := Lib.hid hup
      have HS := Lib.hid (M.reignAhead_succ (r := r) hlt)
      obtain ⟨K, hK⟩ : ∃ K, M.reignAhead r l j = K := ⟨_, rfl⟩
      have HK := Lib.hid hK
      rw [hK]
      clear hl hup hK
      rcases he : M.entryOk l[j] with _ | _
      · have HE : Hid (M.listOk r l = false) := Lib.hid (M.list_not hlt (.inl he))
        have HQ := Lib.hid he
        clear he
        go_wp2_with fail
        refine (specEntryOk l[j] _ (by unfold maxLen; omega) (by unfold maxLen; omega)).mono ?_
        rintro e w1 ⟨rfl, b1⟩
        rw [HQ.out]
        go_wp2
        go_ret
        exact ⟨ret_bool HE.out.symm, next hbl b1⟩
      · have HQ := Lib.hid he
        clear he
        by_cases hr : K ≤ l[j].reign
        · have HN := Lib.hid (HU.out.next hlt HQ.out (by rw [HK.out]; exact hr))
          go_wp2_with fail
          refine (specEntryOk l[j] _ (by unfold maxLen; omega) (by unfold maxLen; omega)).mono ?_
          rintro e w1 ⟨rfl, b1⟩
          rw [HQ.out]
          have d0 := (b1.cell (p := ⟨b, o + j * 10, none⟩) zb).trans c0
          clear c0 c1 c2 c3 c4 c5 c6 c7 c8 c9
          go_wp2
          go_roundw
          case rel => exact ⟨j + 1, by go_num, by rw [HS.out], by omega, HN.out, next hbl b1⟩
          case measure => simp [intOf]; omega
        · have HE : Hid (M.listOk r l = false) := Lib.hid (M.list_not hlt (.inr (by rw [HK.out]; exact hr)))
          go_wp2_with fail
          refine (specEntryOk l[j] _ (by unfold maxLen; omega) (by unfold maxLen; omega)).mono ?_
          rintro e w1 ⟨rfl, b1⟩
          rw [HQ.out]
          have d0 := (b1.cell (p := ⟨b, o + j * 10, none⟩) zb).trans c0
          clear c0 c1 c2 c3 c4 c5 c6 c7 c8 c9
          go_wp2
          go_ret
          exact ⟨ret_bool HE.out.symm, next hbl b1⟩
    · have hj' : j = l.length := by omega
      subst hj'
      have HE : Hid (M.listOk r l = true) := Lib.hid hup.all
      clear hup
      go_wp2
      go_ret
      exact ⟨ret_bool HE.out.symm, hbl⟩
set_option maxHeartbeats 2000000 in
theorem specRollOk_low (b r : Int) (A : Option Addr) (l : List M.En) (cap : Nat) (h1 : M.inI b 0 300 = false) (w : World) (hl : Ens w A l) (hlen : l.length ≤ 1048576) (hp : ∀ e ∈ l, enIn 1048576 e) :
    Calls Try.prog 25 #[roV b r A l.length cap] w fun e w' => e = .returned (.bool (M.rollOk b r l)) ∧ Below w.heap.size w w' := by
  have b0 := (Below.refl w.heap.size w).alloc (Nat.le_refl _) (.cells (roA b r A l.length cap) 26)
  have HL := Lib.hid hl
  have HP := Lib.hid hp
  clear hl hp
  have HE : Hid (M.rollOk b r l = false) := Lib.hid (by simp [M.rollOk, M.baseOk, h1])
  have H1 := Lib.hid h1
  clear h1
  go_enter Try.func25, Try.ntmps25
  go_wp2_with fail
  refine (in_i _ _ _ _).mono ?_
  rintro e w1 ⟨rfl, rfl⟩
  rw [H1.out]
  go_wp2
  go_ret
  exact ⟨ret_bool HE.out.symm, b0⟩
set_option maxHeartbeats 2000000 in
theorem specRollOk_reign (b r : Int) (A : Option Addr) (l : List M.En) (cap : Nat) (h1 : M.inI b 0 300 = true) (h2 : M.inI r 0 1000 = false) (w : World) (hl : Ens w A l) (hlen : l.length ≤ 1048576) (hp : ∀ e ∈ l, enIn 1048576 e) :
    Calls Try.prog 25 #[roV b r A l.length cap] w fun e w' => e = .returned (.bool (M.rollOk b r l)) ∧ Below w.heap.size w w' := by
  have b0 := (Below.refl w.heap.size w).alloc (Nat.le_refl _) (.cells (roA b r A l.length cap) 26)
  have HL := Lib.hid hl
  have HP := Lib.hid hp
  clear hl hp
  have HE : Hid (M.rollOk b r l = false) := Lib.hid (by simp [M.rollOk, M.baseOk, h2])
  have H1 := Lib.hid h1
  have H2 := Lib.hid h2
  clear h1 h2
  go_enter Try.func25, Try.ntmps25
  go_wp2_with fail
  refine (in_i _ _ _ _).mono ?_
  rintro e w1 ⟨rfl, rfl⟩
  rw [H1.out]
  go_wp2_with fail
  refine (in_i _ _ _ _).mono ?_
  rintro e w1 ⟨rfl, rfl⟩
  rw [H2.out]
  go_wp2
  go_ret
  exact ⟨ret_bool HE.out.symm, b0⟩
set_option maxHeartbeats 2000000 in
theorem specRollOk_00 (A : Option Addr) (l : List M.En) (cap : Nat)  (w : World) (hl : Ens w A l) (hlen : l.length ≤ 1048576) (hp : ∀ e ∈ l, enIn 1048576 e) :
    Calls Try.prog 25 #[roV 0 0 A l.length cap] w fun e w' => e = .returned (.bool (M.rollOk 0 0 l)) ∧ Below w.heap.size w w' := by
  have b0 := (Below.refl w.heap.size w).alloc (Nat.le_refl _) (.cells (roA 0 0 A l.length cap) 26)
  have HL := Lib.hid hl
  have HP := Lib.hid hp
  clear hl hp
  have H1 : Hid (M.inI 0 0 300 = true) := Lib.hid rfl
  have H2 : Hid (M.inI 0 0 1000 = true) := Lib.hid rfl
  have HB : Hid (M.baseOk 0 0 = true) := Lib.hid rfl
  by_cases hn : l.length ≤ 100
  · have HE : Hid (M.rollOk 0 0 l = M.listOk 0 l) := Lib.hid (by rw [M.rollOk_list, HB.out]; simp [hn])
    go_enter Try.func25, Try.ntmps25
    go_wp2_with fail
    refine (in_i _ _ _ _).mono ?_
    rintro e w1 ⟨rfl, rfl⟩
    rw [H1.out]
    go_wp2_with fail
    refine (in_i _ _ _ _).mono ?_
    rintro e w1 ⟨rfl, rfl⟩
    rw [H2.out]
    go_wp2_with fail
    refine (l8List_any 0 A l cap _ (HL.out.below b0) hlen HP.out).mono ?_
    rintro e w1 ⟨rfl, b1⟩
    go_wp2
    go_ret
    exact ⟨ret_bool HE.out.symm, next b0 b1⟩
  · have HE : Hid (M.rollOk 0 0 l = false) := Lib.hid (by rw [M.rollOk_list]; simp [hn])
    go_enter Try.func25, Try.ntmps25
    go_wp2_with fail
    refine (in_i _ _ _ _).mono ?_
    rintro e w1 ⟨rfl, rfl⟩
    rw [H1.out]
    go_wp2_with fail
    refine (in_i _ _ _ _).mono ?_
    rintro e w1 ⟨rfl, rfl⟩
    rw [H2.out]
    go_wp2
    go_ret
    exact ⟨ret_bool HE.out.symm, b0⟩
set_option maxHeartbeats 2000000 in
theorem specRollOk_0r (r : Int) (A : Option Addr) (l : List M.En) (cap : Nat) (h2 : M.inI r 0 1000 = true) (hr : ¬ r = 0) (w : World) (hl : Ens w A l) (hlen : l.length ≤ 1048576) (hp : ∀ e ∈ l, enIn 1048576 e) :
    Calls Try.prog 25 #[roV 0 r A l.length cap] w fun e w' => e = .returned (.bool (M.rollOk 0 r l)) ∧ Below w.heap.size w w' := by
  have b0 := (Below.refl w.heap.size w).alloc (Nat.le_refl _) (.cells (roA 0 r A l.length cap) 26)
  have HL := Lib.hid hl
  have HP := Lib.hid hp
  clear hl hp
  have H1 : Hid (M.inI 0 0 300 = true) := Lib.hid rfl
  have H2 := Lib.hid h2
  have HB : Hid (M.baseOk 0 r = false) := Lib.hid (by rw [M.baseOk_zero]; simp [hr])
  have e1 : (r == 0) = false := by simp [hr]
  clear h2
  have HE : Hid (M.rollOk 0 r l = false) := Lib.hid (by rw [M.rollOk_list, HB.out]; rfl)
  go_enter Try.func25, Try.ntmps25
  go_wp2_with fail
  refine (in_i _ _ _ _).mono ?_
  rintro e w1 ⟨rfl, rfl⟩
  rw [H1.out]
  go_wp2_with fail
  refine (in_i _ _ _ _).mono ?_
  rintro e w1 ⟨rfl, rfl⟩
  rw [H2.out]
  go_wp2
  go_ret
  exact ⟨ret_bool HE.out.symm, b0⟩
set_option maxHeartbeats 2000000 in
theorem specRollOk_b0 (b : Int) (A : Option Addr) (l : List M.En) (cap : Nat) (h1 : M.inI b 0 300 = true) (hb : ¬ b = 0) (w : World) (hl : Ens w A l) (hlen : l.length ≤ 1048576) (hp : ∀ e ∈ l, enIn 1048576 e) :
    Calls Try.prog 25 #[roV b 0 A l.length cap] w fun e w' => e = .returned (.bool (M.rollOk b 0 l)) ∧ Below w.heap.size w w' := by
  have b0 := (Below.refl w.heap.size w).alloc (Nat.le_refl _) (.cells (roA b 0 A l.length cap) 26)
  have HL := Lib.hid hl
  have HP := Lib.hid hp
  clear hl hp
  have H2 : Hid (M.inI 0 0 1000 = true) := Lib.hid rfl
  have HB : Hid (M.baseOk b 0 = false) := Lib.hid (by simp [M.baseOk, hb])
  have H1 := Lib.hid h1
  have e1 : (b == 0) = false := by simp [hb]
  clear h1
  have HE : Hid (M.rollOk b 0 l = false) := Lib.hid (by rw [M.rollOk_list, HB.out]; rfl)
  go_enter Try.func25, Try.ntmps25
  go_wp2_with fail
  refine (in_i _ _ _ _).mono ?_
  rintro e w1 ⟨rfl, rfl⟩
  rw [H1.out]
  go_wp2_with fail
  refine (in_i _ _ _ _).mono ?_
  rintro e w1 ⟨rfl, rfl⟩
  rw [H2.out]
  go_wp2
  go_ret
  exact ⟨ret_bool HE.out.symm, b0⟩
set_option maxHeartbeats 2000000 in
theorem specRollOk_br (b r : Int) (A : Option Addr) (l : List M.En) (cap : Nat) (h1 : M.inI b 0 300 = true) (h2 : M.inI r 0 1000 = true) (hb : ¬ b = 0) (hr : ¬ r = 0) (w : World) (hl : Ens w A l) (hlen : l.length ≤ 1048576) (hp : ∀ e ∈ l, enIn 1048576 e) :
    Calls Try.prog 25 #[roV b r A l.length cap] w fun e w' => e = .returned (.bool (M.rollOk b r l)) ∧ Below w.heap.size w w' := by
  have b0 := (Below.refl w.heap.size w).alloc (Nat.le_refl _) (.cells (roA b r A l.length cap) 26)
  have HL := Lib.hid hl
  have HP := Lib.hid hp
  clear hl hp
  have HB : Hid (M.baseOk b r = true) := Lib.hid (by simp [M.baseOk, h1, h2, hb, hr])
  have H1 := Lib.hid h1
  have H2 := Lib.hid h2
  have e1 : (r == 0) = false := by simp [hr]
  have e2 : (b == 0) = false := by simp [hb]
  clear h1 h2
  by_cases hn : l.length ≤ 100
  · have HE : Hid (M.rollOk b r l = M.listOk r l) := Lib.hid (by rw [M.rollOk_list, HB.out]; simp [hn])
    go_enter Try.func25, Try.ntmps25
    go_wp2_with fail
    refine (in_i _ _ _ _).mono ?_
    rintro e w1 ⟨rfl, rfl⟩
    rw [H1.out]
    go_wp2_with fail
    refine (in_i _ _ _ _).mono ?_
    rintro e w1 ⟨rfl, rfl⟩
    rw [H2.out]
    go_wp2_with fail
    refine (l8List_any r A l cap _ (HL.out.below b0) hlen HP.out).mono ?_
    rintro e w1 ⟨rfl, b1⟩
    go_wp2
    go_ret
    exact ⟨ret_bool HE.out.symm, next b0 b1⟩
  · have HE : Hid (M.rollOk b r l = false) := Lib.hid (by rw [M.rollOk_list]; simp [hn])
    go_enter Try.func25, Try.ntmps25
    go_wp2_with fail
    refine (in_i _ _ _ _).mono ?_
    rintro e w1 ⟨rfl, rfl⟩
    rw [H1.out]
    go_wp2_with fail
    refine (in_i _ _ _ _).mono ?_
    rintro e w1 ⟨rfl, rfl⟩
    rw [H2.out]
    go_wp2
    go_ret
    exact ⟨ret_bool HE.out.symm, b0⟩
theorem specRollOk (b r : Int) (A : Option Addr) (l : List M.En) (cap : Nat) (w : World) (hl : Ens w A l) (hlen : l.length ≤ 1048576) (hp : ∀ e ∈ l, enIn 1048576 e) :
    Calls Try.prog 25 #[roV b r A l.length cap] w fun e w' => e = .returned (.bool (M.rollOk b r l)) ∧ Below w.heap.size w w' := by
  rcases h1 : M.inI b 0 300 with _ | _
  · exact specRollOk_low b r A l cap h1 w hl hlen hp
  rcases h2 : M.inI r 0 1000 with _ | _
  · exact specRollOk_reign b r A l cap h1 h2 w hl hlen hp
  by_cases hb : b = 0
  · subst hb
    by_cases hr : r = 0
    · subst hr
      exact specRollOk_00 A l cap w hl hlen hp
    · exact specRollOk_0r r A l cap h2 hr w hl hlen hp
  · by_cases hr : r = 0
    · subst hr
      exact specRollOk_b0 b A l cap h1 hb w hl hlen hp
    · exact specRollOk_br b r A l cap h1 h2 hb hr w hl hlen hp
theorem l8Last_any (b r : Int) (A : Option Addr) (l : List M.En) (cap : Nat) (w : World) (h0 : 0 ≤ b) (h3 : b ≤ 300) (hlen : l.length ≤ 1048576) :
    Calls Try.prog 56 #[roV b r A l.length cap] w fun e w' => e = .returned (.int .i64 (b + l.length)) ∧ Below w.heap.size w w' := by
  have b0 := (Below.refl w.heap.size w).alloc (Nat.le_refl _) (.cells (roA b r A l.length cap) 26)
  go_enter Try.func56, Try.ntmps56
  go_wp2
  go_ret
  exact ⟨rfl, b0⟩
end Go.Proofs.Ytkpbfocnokbmiaa
