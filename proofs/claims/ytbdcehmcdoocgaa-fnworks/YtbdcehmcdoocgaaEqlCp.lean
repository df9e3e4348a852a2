/- Proved: the language's own test tells a copy like itself; no condition. -/
import Derived.Test.YtbdcehmcdoocgaaWorkSz
import Derived.Calls
import Derived.KernelRfl
namespace Go.Proofs.Ytbdcehmcdoocgaa
open Go.RowKit
set_option maxRecDepth 20000

theorem cp_eql (c : M.Cp) (w : World) : (binOp .eql 39 (cpV c) (cpV c)).run Try.prog w = .ok (.bool true) w := by
  simp [go_sem, Try.underlying39, Try.underlying28, Try.underlying2, Try.underlying9, Try.underlying4]
theorem cp_neq (c : M.Cp) (w : World) : (binOp .neq 39 (cpV c) (cpV c)).run Try.prog w = .ok (.bool false) w := by
  simp [go_sem, Try.underlying39, Try.underlying28, Try.underlying2, Try.underlying9, Try.underlying4]
theorem ed_neq (e : M.Ed) (w : World) : (binOp .neq 28 (edV e) (edV e)).run Try.prog w = .ok (.bool false) w := by
  simp [go_sem, Try.underlying28, Try.underlying2]
theorem cpneq_read {A : Act} {o : Oper} {x y : Operand} {c : M.Cp} (ho : o.op = .binOp .neq 39 x y 39) (hx : A.eval x = cpV c) (hy : A.eval y = cpV c) (w : World) :
    (execOp A.eval o).run Try.prog w = .ok (.value (.bool false)) w := by
  unfold execOp
  rw [ho]
  have hg := fun (op : BinOp) (x y : Operand) (xs ys : Array Value) (w : World) => run_eqGuard_agg (P := Try.prog) w op 39 x y xs ys (by kernel_rfl)
  have he := fun w => cp_neq c w
  simp only [cpV] at he hx hy
  simp only [hx, hy, Sem.run_bind, hg, he, Result.andThen_ok, Sem.run_pure]
end Go.Proofs.Ytbdcehmcdoocgaa
