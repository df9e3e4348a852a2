/- Proved: the laws' helpers on one order (its size, its copy, its likeness) answer plain Lean functions; they write nothing that was there. Condition: texts of at most a million where the size is told. -/
import Derived.Test.YtkpbfocnokbmiaaOrderOk
import Derived.Test.YtkpbfocnokbmiaaEqDd
namespace Go.Proofs.Ytkpbfocnokbmiaa
open Go.RowKit
set_option maxRecDepth 20000
abbrev orL (o : M.Or) : List Value := [.int .i64 o.client, .int .i64 o.seq, .int .i64 o.deed.kind, .string o.deed.name, .int .i64 o.deed.ed.ma, .int .i64 o.deed.ed.mi, .int .i64 o.deed.ed.pa, .string o.deed.page, .int .i64 o.deed.who]
abbrev orA (o : M.Or) : Array Value := orC o
theorem orL_len (o : M.Or) : (orL o).length = 9 := rfl
abbrev orIn (n : Nat) (o : M.Or) : Prop := o.deed.name.size ≤ n ∧ o.deed.page.size ≤ n
set_option maxHeartbeats 1000000 in
theorem szDeed_is (d : M.Dd) (n : Int) (w : World) (hn : n ≤ 1048576) (h : (d.name.size + d.page.size : Int) ≤ n) :
    Calls Try.prog 110 #[ddV d, .int .i64 n] w fun r w' => r = .returned (.int .i64 (n - d.name.size - d.page.size)) ∧ Below w.heap.size w w' := by
  go_enter Try.func110, Try.ntmps110
  go_wp2
  go_ret
  exact ⟨ret_int (by omega), (Below.refl _ _).alloc (Nat.le_refl _) _⟩
set_option maxHeartbeats 1000000 in
theorem orSz_small (o : M.Or) (n : Int) (w : World) (h1 : n ≤ 1048576) (h : ((o.deed.name.size + o.deed.page.size : Nat) : Int) ≤ n) :
    Calls Try.prog 99 #[orV o, .int .i64 n] w fun r w' => r = .returned (.int .i64 (n - ((o.deed.name.size + o.deed.page.size : Nat) : Int))) ∧ Below w.heap.size w w' := by
  have b0 := (Below.refl w.heap.size w).alloc (Nat.le_refl _) (.cells (orC o) 108)
  have h0 : 0 ≤ n - (o.deed.name.size : Int) - (o.deed.page.size : Int) := by omega
  go_enter Try.func99, Try.ntmps99
  go_wp2_with fail
  refine (szDeed_is o.deed n _ h1 (by omega)).mono ?_
  rintro r w1 ⟨rfl, b1⟩
  go_wp2
  go_ret
  exact ⟨ret_int (by omega), next b0 b1⟩
set_option maxHeartbeats 1000000 in
theorem orSz_big (o : M.Or) (n : Int) (w : World) (h0 : 0 ≤ n) (h1 : n ≤ 1048576) (hp : orIn maxLen o) (h : n < ((o.deed.name.size + o.deed.page.size : Nat) : Int)) :
    Calls Try.prog 99 #[orV o, .int .i64 n] w fun r w' => r = .returned (.int .i64 (-1)) ∧ Below w.heap.size w w' :=
  szOrder_big o n w h0 h1 hp.1 hp.2 (by omega)
theorem orTo_any (o : M.Or) (w : World) :
    Calls Try.prog 100 #[orV o] w fun r w' => r = .returned (orV o) ∧ Below w.heap.size w w' := toOrder_any o w
set_option maxHeartbeats 1000000 in
theorem orEq_same (o : M.Or) (w : World) :
    Calls Try.prog 73 #[orV o, orV o] w fun r w' => r = .returned (.bool true) ∧ Below w.heap.size w w' := by
  have h1 : (o.client != o.client) = false := by simp
  have h2 : (o.seq != o.seq) = false := by simp
  have b0 := ((Below.refl w.heap.size w).alloc (Nat.le_refl _) (.cells (orC o) 35)).alloc (by simp) (.cells (orC o) 35)
  go_enter Try.func73, Try.ntmps73
  go_wp2_with fail
  refine (eqDeed_same o.deed _).mono ?_
  rintro r w1 ⟨rfl, b1⟩
  go_wp2
  go_ret
  exact ⟨rfl, next b0 b1⟩
end Go.Proofs.Ytkpbfocnokbmiaa
