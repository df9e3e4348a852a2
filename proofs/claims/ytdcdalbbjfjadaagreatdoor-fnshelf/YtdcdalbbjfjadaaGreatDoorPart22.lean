/- Proved, in parts: Proved: the language's own test whether two deeds are alike is whether they are the same; no condition. -/
import Derived.Test.YtdcdalbbjfjadaaGreatDoorPart06
import Derived.Calls
import Derived.KernelRfl
namespace Go.Proofs.YtdcdalbbjfjadaaGreatDoor
open Go.RowKit
set_option maxRecDepth 20000

theorem dd_iff (a b : M.Dd) : a = b ↔ a.kind = b.kind ∧ a.name = b.name ∧ (a.ed.ma = b.ed.ma ∧ a.ed.mi = b.ed.mi ∧ a.ed.pa = b.ed.pa) ∧ a.page = b.page ∧ a.who = b.who := by
  cases a; cases b; simp [M.ed_ext]

theorem txt_other {a b : ByteArray} (h : ¬ a = b) : ¬ a.toList = b.toList := fun e => h (ba_ext (by rw [ByteArray.toList_eq, ByteArray.toList_eq] at e; exact e))

set_option maxHeartbeats 4000000 in
theorem dd_eql (a b : M.Dd) (w : World) : (binOp .eql 28 (ddV a) (ddV b)).run Tryz.prog w = .ok (.bool (decide (a = b))) w := by
  by_cases h0 : a.kind = b.kind
  · have h0' : (a.kind == b.kind) = true := by simpa using h0
    by_cases h1 : a.name = b.name
    · by_cases h2 : a.ed.ma = b.ed.ma
      · have h2' : (a.ed.ma == b.ed.ma) = true := by simpa using h2
        by_cases h3 : a.ed.mi = b.ed.mi
        · have h3' : (a.ed.mi == b.ed.mi) = true := by simpa using h3
          by_cases h4 : a.ed.pa = b.ed.pa
          · have h4' : (a.ed.pa == b.ed.pa) = true := by simpa using h4
            by_cases h5 : a.page = b.page
            · have e : decide (a = b) = (a.who == b.who) := by rw [Bool.eq_iff_iff]; simp [dd_iff, h0, h1, h2, h3, h4, h5]
              rcases h6' : (a.who == b.who) with _ | _ <;> rw [e, h6'] <;> simp [go_sem, h0', h1, h2', h3', h4', h5, h6', Tryz.underlying28, Tryz.underlying26, Tryz.underlying2, Tryz.underlying9]
            · have e : decide (a = b) = false := by simp [dd_iff, h5]
              have h5' := txt_other h5
              rw [e]
              simp [go_sem, h0', h1, h2', h3', h4', h5']
          · have h4' : (a.ed.pa == b.ed.pa) = false := by simpa using h4
            have e : decide (a = b) = false := by simp [dd_iff, h4]
            rw [e]
            simp [go_sem, h0', h1, h2', h3', h4']
        · have h3' : (a.ed.mi == b.ed.mi) = false := by simpa using h3
          have e : decide (a = b) = false := by simp [dd_iff, h3]
          rw [e]
          simp [go_sem, h0', h1, h2', h3']
      · have h2' : (a.ed.ma == b.ed.ma) = false := by simpa using h2
        have e : decide (a = b) = false := by simp [dd_iff, h2]
        rw [e]
        simp [go_sem, h0', h1, h2']
    · have e : decide (a = b) = false := by simp [dd_iff, h1]
      have h1' := txt_other h1
      rw [e]
      simp [go_sem, h0', h1']
  · have h0' : (a.kind == b.kind) = false := by simpa using h0
    have e : decide (a = b) = false := by simp [dd_iff, h0]
    rw [e]
    simp [go_sem, h0']
theorem deql_read {A : Act} {o : Oper} {x y : Operand} {a b : M.Dd} (ho : o.op = .binOp .eql 28 x y 28) (hx : A.eval x = ddV a) (hy : A.eval y = ddV b) (w : World) :
    (execOp A.eval o).run Tryz.prog w = .ok (.value (.bool (decide (a = b)))) w := by
  unfold execOp
  rw [ho]
  have hg := fun (op : BinOp) (x y : Operand) (xs ys : Array Value) (w : World) => run_eqGuard_agg (P := Tryz.prog) w op 28 x y xs ys (by kernel_rfl)
  have he := fun w => dd_eql a b w
  simp only [ddV] at he hx hy
  simp only [hx, hy, Sem.run_bind, hg, he, Result.andThen_ok, Sem.run_pure]
end Go.Proofs.YtdcdalbbjfjadaaGreatDoor
