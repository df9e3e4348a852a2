/- Proved: the language's own test whether two orders are alike is whether they are alike in each field; no condition. -/
import Derived.Test.YtkpbfocnokbmiaaBookDefs
import Derived.Test.YtkpbfocnokbmiaaEqlDd
import Derived.Calls
import Derived.KernelRfl
namespace Go.Proofs.Ytkpbfocnokbmiaa
open Go.RowKit
set_option maxRecDepth 20000
namespace M
def orEq (a b : Or) : Bool := ((a.client == b.client) && ((a.seq == b.seq) && ((a.deed.kind == b.deed.kind) && (decide (a.deed.name = b.deed.name) && ((a.deed.ed.ma == b.deed.ed.ma) && ((a.deed.ed.mi == b.deed.ed.mi) && ((a.deed.ed.pa == b.deed.ed.pa) && (decide (a.deed.page = b.deed.page) && (a.deed.who == b.deed.who)))))))))
end M
set_option maxHeartbeats 8000000 in
theorem or_eql (a b : M.Or) (w : World) : (binOp .eql 35 (orV a) (orV b)).run Try.prog w = .ok (.bool (M.orEq a b)) w := by
  rcases h0 : (a.client == b.client) with _ | _
  · have e : M.orEq a b = false := by simp [M.orEq, h0]
    rw [e]
    simp [go_sem, h0]
  · rcases h1 : (a.seq == b.seq) with _ | _
    · have e : M.orEq a b = false := by simp [M.orEq, h1]
      rw [e]
      simp [go_sem, h0, h1]
    · rcases h2 : (a.deed.kind == b.deed.kind) with _ | _
      · have e : M.orEq a b = false := by simp [M.orEq, h2]
        rw [e]
        simp [go_sem, h0, h1, h2]
      · by_cases h3 : a.deed.name = b.deed.name
        · rcases h4 : (a.deed.ed.ma == b.deed.ed.ma) with _ | _
          · have e : M.orEq a b = false := by simp [M.orEq, h4]
            rw [e]
            simp [go_sem, h0, h1, h2, h3, h4]
          · rcases h5 : (a.deed.ed.mi == b.deed.ed.mi) with _ | _
            · have e : M.orEq a b = false := by simp [M.orEq, h5]
              rw [e]
              simp [go_sem, h0, h1, h2, h3, h4, h5]
            · rcases h6 : (a.deed.ed.pa == b.deed.ed.pa) with _ | _
              · have e : M.orEq a b = false := by simp [M.orEq, h6]
                rw [e]
                simp [go_sem, h0, h1, h2, h3, h4, h5, h6]
              · by_cases h7 : a.deed.page = b.deed.page
                · have e : M.orEq a b = (a.deed.who == b.deed.who) := by simp [M.orEq, h0, h1, h2, h3, h4, h5, h6, h7]
                  rcases h8 : (a.deed.who == b.deed.who) with _ | _ <;> rw [e, h8] <;> simp [go_sem, h0, h1, h2, h3, h4, h5, h6, h7, h8, Try.underlying35, Try.underlying33, Try.underlying31, Try.underlying2, Try.underlying9]
                · have e : M.orEq a b = false := by simp [M.orEq, h7]
                  have h7' := txt_other h7
                  rw [e]
                  simp [go_sem, h0, h1, h2, h3, h4, h5, h6, h7']
        · have e : M.orEq a b = false := by simp [M.orEq, h3]
          have h3' := txt_other h3
          rw [e]
          simp [go_sem, h0, h1, h2, h3']
theorem oreql_read {A : Act} {o : Oper} {x y : Operand} {a b : M.Or} (ho : o.op = .binOp .eql 35 x y 35) (hx : A.eval x = orV a) (hy : A.eval y = orV b) (w : World) :
    (execOp A.eval o).run Try.prog w = .ok (.value (.bool (M.orEq a b))) w := by
  unfold execOp
  rw [ho]
  have hg := fun (op : BinOp) (x y : Operand) (xs ys : Array Value) (w : World) => run_eqGuard_agg (P := Try.prog) w op 35 x y xs ys (by kernel_rfl)
  have he := fun w => or_eql a b w
  simp only [orV] at he hx hy
  simp only [hx, hy, Sem.run_bind, hg, he, Result.andThen_ok, Sem.run_pure]
end Go.Proofs.Ytkpbfocnokbmiaa
