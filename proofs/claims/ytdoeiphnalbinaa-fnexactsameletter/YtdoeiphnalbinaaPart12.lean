/- Proved, in parts: Proved: an argument that is a letter is its numbers, its flag and its lists; no program is named here; no condition. Proved: facts that a law on letters needs: what its measure tells of its lists, and what a copy reads as. No program's function is named here; no condition. Proved: two letters are the same, as plain data, where they are so field by field. No program is named here; no condition. Proved: the language's own test whether two entries are unlike is whether they are unlike in some field; no condition. Proved: the language's own test whether two lasts are unlike is whether they are unlike in some field; no condition. Proved: the language's own test whether two copies are unlike is whether they are unlike in some field; no condition. -/
import Derived.Test.YtdoeiphnalbinaaPart09
import Derived.Test.YtdoeiphnalbinaaPart11
import Derived.Test.YtdoeiphnalbinaaPart10
import Derived.Test.YtdoeiphnalbinaaPart08
import Derived.Test.YtdoeiphnalbinaaPart04
import Derived.Test.YtdoeiphnalbinaaPart05
import Derived.Calls
import Derived.KernelRfl
import Derived.Test.YtdoeiphnalbinaaPart02
namespace Go.Proofs.Ytdoeiphnalbinaa
open Go.ChangeShapes Go.WideShapes Go.ChangeAt Go.RowKit Go.Joins Go.Deep
set_option linter.unusedVariables false
section
variable {H : Type} {enc : TypeId × Value → H} {P : Program} {w : World} {base : Nat} {spare : Nat → Bool} {held : Bool}
abbrev enCells (s : Sl M.En) : List Value := [s.v]
def EnQ (w : World) (s : Sl M.En) : Prop := Ens w s.ad s.l ∧ s.l.length ≤ maxLen ∧ ∀ e ∈ s.l, enIn maxLen e
theorem opens_ens {ts te : TypeId} {e0 e1 h0 h1 h2 f0 f1 f2 f3 f4 g0 g1 g2 : Field}
    (hts : P.underlying ts = some (.slice te)) (hs : P.underlying te = some (.struct #[e0, e1])) (hC : P.cellsOf te = 10)
    (so : [e0.offset, e1.offset] = [0, 1]) (sk : [P.cellsOf e0.type, P.cellsOf e1.type] = [1, 9])
    (y0 : P.underlying e0.type = some (.int .i64)) (T : OrTy P e1.type h0 h1 h2 f0 f1 f2 f3 f4 g0 g1 g2) : Opens enc P w base spare held ts enCells (EnQ w) := fun n cs x h => by
  haveI : Inhabited M.En := ⟨⟨0, ⟨0, 0, ⟨0, ⟨#[]⟩, ⟨0, 0, 0⟩, ⟨#[]⟩, 0⟩⟩⟩⟩
  obtain ⟨A, l, c, he, h1, hlc, hcm, h3⟩ := open_rows (en := enL) (Q := fun e => enIn maxLen e) hts hC (by omega) enL_len (fun n cs x hx => cells_en hs hC so sk y0 T hx) h
  have h2 : l.length ≤ maxLen := by omega
  exact ⟨⟨A, c, l⟩, he, h1, h2, h3⟩
theorem cells_lt {t te tb : TypeId} {f0 f1 f2 f3 f4 f5 f6 f7 f8 f9 : Field} {n : Nat} {cs : List Value} {x : DataW H × List MemPlace} (hs : P.underlying t = some (.struct #[f0, f1, f2, f3, f4, f5, f6, f7, f8, f9])) (hC : P.cellsOf t = 11)
    (so : [f0.offset, f1.offset, f2.offset, f3.offset, f4.offset, f5.offset, f6.offset, f7.offset, f8.offset, f9.offset] = [0, 1, 2, 3, 4, 5, 6, 7, 8, 9]) (sk : [P.cellsOf f0.type, P.cellsOf f1.type, P.cellsOf f2.type, P.cellsOf f3.type, P.cellsOf f4.type, P.cellsOf f5.type, P.cellsOf f6.type, P.cellsOf f7.type, P.cellsOf f8.type, P.cellsOf f9.type] = [1, 1, 1, 1, 1, 1, 1, 1, 1, 2])
    (y0 : P.underlying f0.type = some (.int .i64)) (y1 : P.underlying f1.type = some (.int .i64)) (y2 : P.underlying f2.type = some (.int .i64)) (y3 : P.underlying f3.type = some (.int .i64)) (y4 : P.underlying f4.type = some (.int .i64)) (y5 : P.underlying f5.type = some (.int .i64)) (y7 : P.underlying f7.type = some (.int .i64)) (y8 : P.underlying f8.type = some .bool)
    (e6 : f6.type = te) (e9 : f9.type = tb)
    (Te : Opens enc P w base spare held te enCells (EnQ w)) (Tb : Opens enc P w base spare held tb bkCells (BkRd maxLen w))
    (h : DataW.trod enc P w base spare held n t cs = some x) : ∃ s : LLt, cs = (ltA s).toList ∧ LtRd maxLen w s := by
  obtain ⟨zs, m, _, _, hl, hlen', hfld'⟩ := DataW.trod_struct hs h
  simp only [List.cons.injEq, and_true] at so sk
  obtain ⟨o0, o1, o2, o3, o4, o5, o6, o7, o8, o9⟩ := so
  obtain ⟨k0, k1, k2, k3, k4, k5, k6, k7, k8, k9⟩ := sk
  match cs, hl.trans hC with
  | [c0, c1, c2, c3, c4, c5, c6, c7, c8, c9, c10], _ =>
    match zs, hlen' with
    | [z0, z1, z2, z3, z4, z5, z6, z7, z8, z9], _ =>
      have i0 := hfld' 0 f0 rfl
      simp only [o0, k0, List.drop_zero, List.take_succ_cons, List.take_zero, List.getElem?_cons_zero] at i0
      have i1 := hfld' 1 f1 rfl
      simp only [o1, k1, List.drop_zero, List.drop_succ_cons, List.take_succ_cons, List.take_zero, List.getElem?_cons_zero, List.getElem?_cons_succ] at i1
      have i2 := hfld' 2 f2 rfl
      simp only [o2, k2, List.drop_zero, List.drop_succ_cons, List.take_succ_cons, List.take_zero, List.getElem?_cons_zero, List.getElem?_cons_succ] at i2
      have i3 := hfld' 3 f3 rfl
      simp only [o3, k3, List.drop_zero, List.drop_succ_cons, List.take_succ_cons, List.take_zero, List.getElem?_cons_zero, List.getElem?_cons_succ] at i3
      have i4 := hfld' 4 f4 rfl
      simp only [o4, k4, List.drop_zero, List.drop_succ_cons, List.take_succ_cons, List.take_zero, List.getElem?_cons_zero, List.getElem?_cons_succ] at i4
      have i5 := hfld' 5 f5 rfl
      simp only [o5, k5, List.drop_zero, List.drop_succ_cons, List.take_succ_cons, List.take_zero, List.getElem?_cons_zero, List.getElem?_cons_succ] at i5
      have i6 := hfld' 6 f6 rfl
      simp only [o6, k6, List.drop_zero, List.drop_succ_cons, List.take_succ_cons, List.take_zero, List.getElem?_cons_zero, List.getElem?_cons_succ] at i6
      have i7 := hfld' 7 f7 rfl
      simp only [o7, k7, List.drop_zero, List.drop_succ_cons, List.take_succ_cons, List.take_zero, List.getElem?_cons_zero, List.getElem?_cons_succ] at i7
      have i8 := hfld' 8 f8 rfl
      simp only [o8, k8, List.drop_zero, List.drop_succ_cons, List.take_succ_cons, List.take_zero, List.getElem?_cons_zero, List.getElem?_cons_succ] at i8
      have i9 := hfld' 9 f9 rfl
      simp only [o9, k9, List.drop_zero, List.drop_succ_cons, List.take_succ_cons, List.take_zero, List.getElem?_cons_zero, List.getElem?_cons_succ] at i9
      obtain ⟨a0, q0, _⟩ := DataW.trod_int y0 i0
      obtain ⟨a1, q1, _⟩ := DataW.trod_int y1 i1
      obtain ⟨a2, q2, _⟩ := DataW.trod_int y2 i2
      obtain ⟨a3, q3, _⟩ := DataW.trod_int y3 i3
      obtain ⟨a4, q4, _⟩ := DataW.trod_int y4 i4
      obtain ⟨a5, q5, _⟩ := DataW.trod_int y5 i5
      obtain ⟨a7, q7, _⟩ := DataW.trod_int y7 i7
      obtain ⟨a8, q8, _⟩ := DataW.trod_bool y8 i8
      rw [e6] at i6
      obtain ⟨a6, q6, r6⟩ := Te _ _ _ i6
      rw [e9] at i9
      obtain ⟨a9, q9, r9⟩ := Tb _ _ _ i9
      simp only [enCells, bkCells, List.cons.injEq, and_true] at q0 q1 q2 q3 q4 q5 q6 q7 q8 q9
      obtain ⟨q9, q9'⟩ := q9
      subst q0 q1 q2 q3 q4 q5 q6 q7 q8 q9 q9'
      exact ⟨⟨a0, a1, a2, a3, a4, a5, a6, a7, a8, a9⟩, rfl, r6.1, r6.2.1, r6.2.2, r9⟩
theorem open_lt {r : Reach} {b0 : Nat} {t te tb : TypeId} {f0 f1 f2 f3 f4 f5 f6 f7 f8 f9 : Field} {v : Value} {d : DataW H} {p : List MemPlace} (hs : P.underlying t = some (.struct #[f0, f1, f2, f3, f4, f5, f6, f7, f8, f9])) (hC : P.cellsOf t = 11)
    (so : [f0.offset, f1.offset, f2.offset, f3.offset, f4.offset, f5.offset, f6.offset, f7.offset, f8.offset, f9.offset] = [0, 1, 2, 3, 4, 5, 6, 7, 8, 9]) (sk : [P.cellsOf f0.type, P.cellsOf f1.type, P.cellsOf f2.type, P.cellsOf f3.type, P.cellsOf f4.type, P.cellsOf f5.type, P.cellsOf f6.type, P.cellsOf f7.type, P.cellsOf f8.type, P.cellsOf f9.type] = [1, 1, 1, 1, 1, 1, 1, 1, 1, 2])
    (y0 : P.underlying f0.type = some (.int .i64)) (y1 : P.underlying f1.type = some (.int .i64)) (y2 : P.underlying f2.type = some (.int .i64)) (y3 : P.underlying f3.type = some (.int .i64)) (y4 : P.underlying f4.type = some (.int .i64)) (y5 : P.underlying f5.type = some (.int .i64)) (y7 : P.underlying f7.type = some (.int .i64)) (y8 : P.underlying f8.type = some .bool)
    (e6 : f6.type = te) (e9 : f9.type = tb)
    (Te : Opens enc P w base spare held te enCells (EnQ w)) (Tb : Opens enc P w base spare held tb bkCells (BkRd maxLen w))
    (hv : Value.okWide P w r b0 t v) (h : DataW.Trod enc P w base spare held t v d p) : ∃ s : LLt, v = ltV s ∧ LtRd maxLen w s := by
  obtain ⟨cs, rfl, hsz⟩ := okWide_struct hs hv
  obtain ⟨fuel, hf⟩ := h
  obtain ⟨s, he, h1⟩ := cells_lt hs hC so sk y0 y1 y2 y3 y4 y5 y7 y8 e6 e9 Te Tb hf
  refine ⟨s, ?_, h1⟩
  obtain ⟨q⟩ := cs
  simp only [Value.cells] at he
  rw [he]
end
end Go.Proofs.Ytdoeiphnalbinaa
namespace Go.Proofs.Ytdoeiphnalbinaa
open Go.RowKit
set_option maxRecDepth 20000

theorem BkRd.of_szL {n : Nat} {w : World} {b : LBk} (h : BkRd maxLen w b) (hs : b.sz ≤ n) : BkRd n w b := by
  unfold LBk.sz at hs
  exact ⟨h.sf, by omega, WrsIn.of_sz (by omega), h.la, by omega, fun c hc => by
    have := szLas_mem b.la.l c hc
    exact Nat.le_trans this (by omega)⟩
theorem LtRd.of_sz {n : Nat} {w : World} {s : LLt} (h : LtRd maxLen w s) (hs : s.sz ≤ n) : LtRd n w s := by
  unfold LLt.sz at hs
  exact ⟨h.en, by omega, fun e he => by
    have := szEns_mem s.en.l e he
    exact ⟨by omega, by omega⟩, h.bk.of_szL (by omega)⟩
theorem LtRd.small {n : Nat} {w : World} {s : LLt} (h : LtRd n w s) : LtSmall n s.d :=
  ⟨h.enl, h.ent, by show (s.bk.sf.l.map Wr.wk).length ≤ n; rw [List.length_map]; exact h.bk.sfl, wks_small h.bk.sft, h.bk.lal, h.bk.lat⟩
theorem LtIn.lk {w : World} {s : LLt} (h : LtIn 1048576 w s) : LtLk w s :=
  have hm : 1048576 ≤ maxLen := by decide
  ⟨h.en.en, Nat.le_trans h.en.len hm, ⟨h.bk.sf, Nat.le_trans h.bk.sfl hm, fun r hr => ⟨Nat.le_trans (h.bk.sft r hr).1 hm, Nat.le_trans (h.bk.sft r hr).2.1 hm, fun c hc => Nat.le_trans ((h.bk.sft r hr).2.2 c hc) hm⟩, h.bk.la, Nat.le_trans h.bk.lal hm⟩⟩
theorem ltsz_left {n : Int} {k : Nat} (h : n < k) : leftOf n k = -1 := by unfold leftOf; exact if_neg (by omega)
theorem ltsz_fits {n : Int} {k : Nat} (h : ¬ n < k) : leftOf n k = n - k := by unfold leftOf; exact if_pos (by omega)
end Go.Proofs.Ytdoeiphnalbinaa
namespace Go.Proofs.Ytdoeiphnalbinaa
open Go.RowKit
namespace M
instance : DecidableEq Lt := fun a b =>
  if h : a.kind = b.kind ∧ a.frm = b.frm ∧ a.dst = b.dst ∧ a.reign = b.reign ∧ a.index = b.index ∧ a.mark = b.mark ∧ a.list = b.list ∧ a.commit = b.commit ∧ a.yes = b.yes ∧ a.book = b.book then isTrue (by cases a; cases b; simp_all) else isFalse (by rintro rfl; simp at h)
theorem lt_same (a b : Lt) : decide (a = b) = ((a.kind == b.kind) && ((a.frm == b.frm) && ((a.dst == b.dst) && ((a.reign == b.reign) && ((a.index == b.index) && ((a.mark == b.mark) && (decide (a.list = b.list) && ((a.commit == b.commit) && ((a.yes == b.yes) && bkSame a.book b.book))))))))) := by
  rw [Bool.eq_iff_iff]
  simp only [decide_eq_true_eq, Bool.and_eq_true, beq_iff_eq, bkSame]
  constructor
  · rintro rfl; simp
  · obtain ⟨a0, a1, a2, a3, a4, a5, a6, a7, a8, a9, a10⟩ := a
    obtain ⟨b0, b1, b2, b3, b4, b5, b6, b7, b8, b9, b10⟩ := b
    rintro ⟨h0, h1, h2, h3, h4, h5, h6, h7, h8, h9, h10⟩
    simp only at h0 h1 h2 h3 h4 h5 h6 h7 h8 h9 h10
    subst h0; subst h1; subst h2; subst h3; subst h4; subst h5; subst h6; subst h7; subst h8; subst h9; subst h10; rfl
end M
end Go.Proofs.Ytdoeiphnalbinaa
namespace Go.Proofs.Ytdoeiphnalbinaa
open Go.RowKit
set_option maxRecDepth 20000
namespace M
def enxEq (a b : En) : Bool := ((a.reign == b.reign) && ((a.order.client == b.order.client) && ((a.order.seq == b.order.seq) && ((a.order.deed.kind == b.order.deed.kind) && (decide (a.order.deed.name = b.order.deed.name) && ((a.order.deed.ed.ma == b.order.deed.ed.ma) && ((a.order.deed.ed.mi == b.order.deed.ed.mi) && ((a.order.deed.ed.pa == b.order.deed.ed.pa) && (decide (a.order.deed.page = b.order.deed.page) && (a.order.deed.who == b.order.deed.who))))))))))
theorem enxEq_iff (a b : En) : enxEq a b = true ↔ a = b := by
  unfold enxEq
  constructor
  · intro h
    simp only [Bool.and_eq_true, beq_iff_eq, decide_eq_true_eq] at h
    obtain ⟨h0, h1, h2, h3, h4, h5, h6, h7, h8, h9⟩ := h
    obtain ⟨x0, ⟨x1, x2, ⟨x3, x4, ⟨x5, x6, x7⟩, x8, x9⟩⟩⟩ := a; obtain ⟨y0, ⟨y1, y2, ⟨y3, y4, ⟨y5, y6, y7⟩, y8, y9⟩⟩⟩ := b; simp_all
  · rintro rfl
    simp
end M
set_option maxHeartbeats 8000000 in
theorem enx_neq (a b : M.En) (w : World) : (binOp .neq 57 (enV a) (enV b)).run Try.prog w = .ok (.bool (!M.enxEq a b)) w := by
  rcases h0 : (a.reign == b.reign) with _ | _
  · have e : M.enxEq a b = false := by simp [M.enxEq, h0]
    rw [e]
    simp [go_sem, h0]
  · rcases h1 : (a.order.client == b.order.client) with _ | _
    · have e : M.enxEq a b = false := by simp [M.enxEq, h1]
      rw [e]
      simp [go_sem, h0, h1]
    · rcases h2 : (a.order.seq == b.order.seq) with _ | _
      · have e : M.enxEq a b = false := by simp [M.enxEq, h2]
        rw [e]
        simp [go_sem, h0, h1, h2]
      · rcases h3 : (a.order.deed.kind == b.order.deed.kind) with _ | _
        · have e : M.enxEq a b = false := by simp [M.enxEq, h3]
          rw [e]
          simp [go_sem, h0, h1, h2, h3]
        · by_cases h4 : a.order.deed.name = b.order.deed.name
          · rcases h5 : (a.order.deed.ed.ma == b.order.deed.ed.ma) with _ | _
            · have e : M.enxEq a b = false := by simp [M.enxEq, h5]
              rw [e]
              simp [go_sem, h0, h1, h2, h3, h4, h5]
            · rcases h6 : (a.order.deed.ed.mi == b.order.deed.ed.mi) with _ | _
              · have e : M.enxEq a b = false := by simp [M.enxEq, h6]
                rw [e]
                simp [go_sem, h0, h1, h2, h3, h4, h5, h6]
              · rcases h7 : (a.order.deed.ed.pa == b.order.deed.ed.pa) with _ | _
                · have e : M.enxEq a b = false := by simp [M.enxEq, h7]
                  rw [e]
                  simp [go_sem, h0, h1, h2, h3, h4, h5, h6, h7]
                · by_cases h8 : a.order.deed.page = b.order.deed.page
                  · have e : M.enxEq a b = (a.order.deed.who == b.order.deed.who) := by simp [M.enxEq, h0, h1, h2, h3, h4, h5, h6, h7, h8]
                    rcases h9 : (a.order.deed.who == b.order.deed.who) with _ | _ <;> rw [e, h9] <;> simp [go_sem, h0, h1, h2, h3, h4, h5, h6, h7, h8, h9, Try.underlying57, Try.underlying55, Try.underlying53, Try.underlying51, Try.underlying2, Try.underlying9]
                  · have e : M.enxEq a b = false := by simp [M.enxEq, h8]
                    have h8' := txt_other h8
                    rw [e]
                    simp [go_sem, h0, h1, h2, h3, h4, h5, h6, h7, h8']
          · have e : M.enxEq a b = false := by simp [M.enxEq, h4]
            have h4' := txt_other h4
            rw [e]
            simp [go_sem, h0, h1, h2, h3, h4']
theorem enxneq_read {A : Act} {o : Oper} {x y : Operand} {a b : M.En} (ho : o.op = .binOp .neq 57 x y 57) (hx : A.eval x = enV a) (hy : A.eval y = enV b) (w : World) :
    (execOp A.eval o).run Try.prog w = .ok (.value (.bool (!M.enxEq a b))) w := by
  unfold execOp
  rw [ho]
  have hg := fun (op : BinOp) (x y : Operand) (xs ys : Array Value) (w : World) => run_eqGuard_agg (P := Try.prog) w op 57 x y xs ys (by kernel_rfl)
  have he := fun w => enx_neq a b w
  simp only [enV] at he hx hy
  simp only [hx, hy, Sem.run_bind, hg, he, Result.andThen_ok, Sem.run_pure]
end Go.Proofs.Ytdoeiphnalbinaa
namespace Go.Proofs.Ytdoeiphnalbinaa
open Go.RowKit
set_option maxRecDepth 20000
namespace M
def laxEq (a b : La) : Bool := ((a.client == b.client) && ((a.seq == b.seq) && ((a.code == b.code) && decide (a.page = b.page))))
theorem laxEq_iff (a b : La) : laxEq a b = true ↔ a = b := by
  unfold laxEq
  constructor
  · intro h
    simp only [Bool.and_eq_true, beq_iff_eq, decide_eq_true_eq] at h
    obtain ⟨h0, h1, h2, h3⟩ := h
    cases a; cases b; simp_all
  · rintro rfl
    simp
end M
set_option maxHeartbeats 8000000 in
theorem lax_neq (a b : M.La) (w : World) : (binOp .neq 77 (laV a) (laV b)).run Try.prog w = .ok (.bool (!M.laxEq a b)) w := by
  rcases h0 : (a.client == b.client) with _ | _
  · have e : M.laxEq a b = false := by simp [M.laxEq, h0]
    rw [e]
    simp [go_sem, h0]
  · rcases h1 : (a.seq == b.seq) with _ | _
    · have e : M.laxEq a b = false := by simp [M.laxEq, h1]
      rw [e]
      simp [go_sem, h0, h1]
    · rcases h2 : (a.code == b.code) with _ | _
      · have e : M.laxEq a b = false := by simp [M.laxEq, h2]
        rw [e]
        simp [go_sem, h0, h1, h2]
      · by_cases h3 : a.page = b.page
        · have e : M.laxEq a b = true := by simp [M.laxEq, h3, h0, h1, h2]
          rw [e]
          simp [go_sem, h0, h1, h2, h3, Try.underlying77, Try.underlying75, Try.underlying2, Try.underlying9]
        · have e : M.laxEq a b = false := by simp [M.laxEq, h3]
          have h3' := txt_other h3
          rw [e]
          simp [go_sem, h0, h1, h2, h3', Try.underlying77, Try.underlying75, Try.underlying2, Try.underlying9]
theorem laxneq_read {A : Act} {o : Oper} {x y : Operand} {a b : M.La} (ho : o.op = .binOp .neq 77 x y 77) (hx : A.eval x = laV a) (hy : A.eval y = laV b) (w : World) :
    (execOp A.eval o).run Try.prog w = .ok (.value (.bool (!M.laxEq a b))) w := by
  unfold execOp
  rw [ho]
  have hg := fun (op : BinOp) (x y : Operand) (xs ys : Array Value) (w : World) => run_eqGuard_agg (P := Try.prog) w op 77 x y xs ys (by kernel_rfl)
  have he := fun w => lax_neq a b w
  simp only [laV] at he hx hy
  simp only [hx, hy, Sem.run_bind, hg, he, Result.andThen_ok, Sem.run_pure]
end Go.Proofs.Ytdoeiphnalbinaa
namespace Go.Proofs.Ytdoeiphnalbinaa
open Go.RowKit
set_option maxRecDepth 20000
namespace M
def cpxEq (a b : Cp) : Bool := ((a.ed.ma == b.ed.ma) && ((a.ed.mi == b.ed.mi) && ((a.ed.pa == b.ed.pa) && (decide (a.page = b.page) && (a.hidden == b.hidden)))))
theorem cpxEq_iff (a b : Cp) : cpxEq a b = true ↔ a = b := by
  unfold cpxEq
  constructor
  · intro h
    simp only [Bool.and_eq_true, beq_iff_eq, decide_eq_true_eq] at h
    obtain ⟨h0, h1, h2, h3, h4⟩ := h
    obtain ⟨⟨x1, x2, x3⟩, x4, x5⟩ := a; obtain ⟨⟨y1, y2, y3⟩, y4, y5⟩ := b; simp_all
  · rintro rfl
    simp
end M
set_option maxHeartbeats 8000000 in
theorem cpx_neq (a b : M.Cp) (w : World) : (binOp .neq 82 (cpV a) (cpV b)).run Try.prog w = .ok (.bool (!M.cpxEq a b)) w := by
  rcases h0 : (a.ed.ma == b.ed.ma) with _ | _
  · have e : M.cpxEq a b = false := by simp [M.cpxEq, h0]
    rw [e]
    simp [go_sem, h0]
  · rcases h1 : (a.ed.mi == b.ed.mi) with _ | _
    · have e : M.cpxEq a b = false := by simp [M.cpxEq, h1]
      rw [e]
      simp [go_sem, h0, h1]
    · rcases h2 : (a.ed.pa == b.ed.pa) with _ | _
      · have e : M.cpxEq a b = false := by simp [M.cpxEq, h2]
        rw [e]
        simp [go_sem, h0, h1, h2]
      · by_cases h3 : a.page = b.page
        · have e : M.cpxEq a b = (a.hidden == b.hidden) := by simp [M.cpxEq, h0, h1, h2, h3]
          rw [e]
          rcases h4 : a.hidden with _ | _ <;> rcases k4 : b.hidden with _ | _ <;> simp [go_sem, h0, h1, h2, h3, h4, k4, Try.underlying82, Try.underlying51, Try.underlying2, Try.underlying9, Try.underlying4]
        · have e : M.cpxEq a b = false := by simp [M.cpxEq, h3]
          have h3' := txt_other h3
          rw [e]
          simp [go_sem, h0, h1, h2, h3']
theorem cpxneq_read {A : Act} {o : Oper} {x y : Operand} {a b : M.Cp} (ho : o.op = .binOp .neq 82 x y 82) (hx : A.eval x = cpV a) (hy : A.eval y = cpV b) (w : World) :
    (execOp A.eval o).run Try.prog w = .ok (.value (.bool (!M.cpxEq a b))) w := by
  unfold execOp
  rw [ho]
  have hg := fun (op : BinOp) (x y : Operand) (xs ys : Array Value) (w : World) => run_eqGuard_agg (P := Try.prog) w op 82 x y xs ys (by kernel_rfl)
  have he := fun w => cpx_neq a b w
  simp only [cpV] at he hx hy
  simp only [hx, hy, Sem.run_bind, hg, he, Result.andThen_ok, Sem.run_pure]
end Go.Proofs.Ytdoeiphnalbinaa
