/- Proved, in parts: Proved: the language's own test whether two editions are alike is whether they are the same three numbers; no condition. -/
import Derived.Test.YtblcgbgcccjpcaaGreatPart02
import Derived.Calls
import Derived.KernelRfl
namespace Go.Proofs.YtblcgbgcccjpcaaGreat
open Go.RowKit
set_option maxRecDepth 20000

theorem ed_eql (a b : M.Ed) (w : World) : (binOp .eql 37 (edV a) (edV b)).run Tryz.prog w = .ok (.bool (decide (a = b))) w := by
  by_cases h0 : a.ma = b.ma
  · have h0' : (a.ma == b.ma) = true := by simpa using h0
    by_cases h1 : a.mi = b.mi
    · have h1' : (a.mi == b.mi) = true := by simpa using h1
      have e : decide (a = b) = (a.pa == b.pa) := by rw [Bool.eq_iff_iff]; simp [M.ed_ext, h0, h1]
      rcases h2' : (a.pa == b.pa) with _ | _ <;> rw [e, h2'] <;> simp [go_sem, h0', h1', h2', Tryz.underlying37, Tryz.underlying2]
    · have h1' : (a.mi == b.mi) = false := by simpa using h1
      have e : decide (a = b) = false := by simp [M.ed_ext, h1]
      rw [e]
      simp [go_sem, h0', h1']
  · have h0' : (a.ma == b.ma) = false := by simpa using h0
    have e : decide (a = b) = false := by simp [M.ed_ext, h0]
    rw [e]
    simp [go_sem, h0']
theorem eql_read {A : Act} {o : Oper} {x y : Operand} {a b : M.Ed} (ho : o.op = .binOp .eql 37 x y 37) (hx : A.eval x = edV a) (hy : A.eval y = edV b) (w : World) :
    (execOp A.eval o).run Tryz.prog w = .ok (.value (.bool (decide (a = b)))) w := by
  unfold execOp
  rw [ho]
  have hg := fun (op : BinOp) (x y : Operand) (xs ys : Array Value) (w : World) => run_eqGuard_agg (P := Tryz.prog) w op 37 x y xs ys (by kernel_rfl)
  have he := fun w => ed_eql a b w
  simp only [edV] at he hx hy
  simp only [hx, hy, Sem.run_bind, hg, he, Result.andThen_ok, Sem.run_pure]
end Go.Proofs.YtblcgbgcccjpcaaGreat
