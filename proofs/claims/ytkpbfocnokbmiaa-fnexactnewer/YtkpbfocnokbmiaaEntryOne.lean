/- Proved: the laws' helpers on one entry (its size, its copy, its likeness) answer plain Lean functions; they write nothing that was there. Condition: texts of at most a million where the size is told. -/
import Derived.Test.YtkpbfocnokbmiaaEntryDefs
import Derived.Test.YtkpbfocnokbmiaaOrderAt
import Derived.Test.YtkpbfocnokbmiaaOrderOne
namespace Go.Proofs.Ytkpbfocnokbmiaa
open Go.RowKit
set_option maxRecDepth 20000
set_option maxHeartbeats 1000000 in
theorem enSz_small (e : M.En) (n : Int) (w : World) (h1 : n ≤ 1048576) (h : ((e.order.deed.name.size + e.order.deed.page.size : Nat) : Int) ≤ n) :
    Calls Try.prog 88 #[enV e, .int .i64 n] w fun r w' => r = .returned (.int .i64 (n - ((e.order.deed.name.size + e.order.deed.page.size : Nat) : Int))) ∧ Below w.heap.size w w' := by
  have b0 := (Below.refl w.heap.size w).alloc (Nat.le_refl _) (.cells (enC e) 110)
  have h0 : 0 ≤ n - ((e.order.deed.name.size + e.order.deed.page.size : Nat) : Int) := by omega
  go_enter Try.func88, Try.ntmps88
  go_wp2_with fail
  refine (orSz_small e.order n _ h1 h).mono ?_
  rintro r w1 ⟨rfl, b1⟩
  go_wp2
  go_ret
  exact ⟨rfl, next b0 b1⟩
set_option maxHeartbeats 1000000 in
theorem enSz_big (e : M.En) (n : Int) (w : World) (h0 : 0 ≤ n) (h1 : n ≤ 1048576) (hp : enIn maxLen e) (h : n < ((e.order.deed.name.size + e.order.deed.page.size : Nat) : Int)) :
    Calls Try.prog 88 #[enV e, .int .i64 n] w fun r w' => r = .returned (.int .i64 (-1)) ∧ Below w.heap.size w w' := by
  have b0 := (Below.refl w.heap.size w).alloc (Nat.le_refl _) (.cells (enC e) 110)
  go_enter Try.func88, Try.ntmps88
  go_wp2_with fail
  refine (orSz_big e.order n _ h0 h1 hp h).mono ?_
  rintro r w1 ⟨rfl, b1⟩
  go_wp2
  go_ret
  exact ⟨rfl, next b0 b1⟩
set_option maxHeartbeats 4000000 in
theorem enTo_any (e : M.En) (w : World) :
    Calls Try.prog 89 #[enV e] w fun r w' => r = .returned (enV e) ∧ Below w.heap.size w w' := by
  go_enter Try.func89, Try.ntmps89
  go_wp2_with fail
  refine (toOrder_at e.order _).mono ?_
  rintro r w1 ⟨rfl, rfl⟩
  go_wp2
  refine bodyPost_ret (v := enV e) (by simp [results, Try.results89, go_sem]) rfl ⟨rfl, ?_⟩
  repeat (first | exact Below.refl _ _ | refine Below.alloc ?_ (by simp <;> omega) _)
set_option maxHeartbeats 1000000 in
theorem enEq_same (e : M.En) (w : World) :
    Calls Try.prog 39 #[enV e, enV e] w fun r w' => r = .returned (.bool true) ∧ Below w.heap.size w w' := by
  have h1 : (e.reign != e.reign) = false := by simp
  have b0 := ((Below.refl w.heap.size w).alloc (Nat.le_refl _) (.cells (enC e) 37)).alloc (by simp) (.cells (enC e) 37)
  go_enter Try.func39, Try.ntmps39
  go_wp2_with fail
  refine (orEq_same e.order _).mono ?_
  rintro r w1 ⟨rfl, b1⟩
  go_wp2
  go_ret
  exact ⟨rfl, next b0 b1⟩
end Go.Proofs.Ytkpbfocnokbmiaa
