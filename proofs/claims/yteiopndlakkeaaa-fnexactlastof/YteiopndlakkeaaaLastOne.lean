/- Proved: the laws' helpers on one reply and one last (its size, its copy, its likeness) answer plain Lean functions; they write nothing that was there. No condition. -/
import Derived.Test.YteiopndlakkeaaaBookDefs
import Derived.Test.YteiopndlakkeaaaDoesMore
import Derived.Test.YteiopndlakkeaaaWorkTo
namespace Go.Proofs.Yteiopndlakkeaaa
open Go.RowKit
set_option maxRecDepth 20000
abbrev laL (c : M.La) : List Value := [.int .i64 c.client, .int .i64 c.seq, .int .i64 c.code, .string c.page]
abbrev laA (c : M.La) : Array Value := #[.int .i64 c.client, .int .i64 c.seq, .int .i64 c.code, .string c.page]
abbrev laV (c : M.La) : Value := .agg #[.int .i64 c.client, .int .i64 c.seq, .int .i64 c.code, .string c.page]
theorem laL_len (c : M.La) : (laL c).length = 4 := rfl
abbrev laIn (n : Nat) (c : M.La) : Prop := c.page.size ≤ n

set_option maxHeartbeats 400000 in
theorem rpSz_small (c : Int) (p : ByteArray) (n : Int) (w : World) (h1 : n ≤ 1048576) (h : (p.size : Int) ≤ n) :
    Calls Try.prog 67 #[rpV c p, .int .i64 n] w fun r w' => r = .returned (.int .i64 (n - p.size)) ∧ Below w.heap.size w w' := by
  go_enter Try.func67, Try.ntmps67
  go_wp2
  go_ret
  exact ⟨rfl, (Below.refl _ _).alloc (Nat.le_refl _) _⟩
set_option maxHeartbeats 400000 in
theorem rpSz_big (c : Int) (p : ByteArray) (n : Int) (w : World) (h0 : 0 ≤ n) (h1 : n ≤ 1048576) (hp : p.size ≤ maxLen) (h : n < (p.size : Int)) :
    Calls Try.prog 67 #[rpV c p, .int .i64 n] w fun r w' => r = .returned (.int .i64 (-1)) ∧ Below w.heap.size w w' := by
  unfold maxLen at hp
  go_enter Try.func67, Try.ntmps67
  go_wp2
  go_ret
  exact ⟨rfl, (Below.refl _ _).alloc (Nat.le_refl _) _⟩
set_option maxHeartbeats 400000 in
theorem laSz_small (c : M.La) (n : Int) (w : World) (h1 : n ≤ 1048576) (h : (c.page.size : Int) ≤ n) :
    Calls Try.prog 51 #[laV c, .int .i64 n] w fun r w' => r = .returned (.int .i64 (n - c.page.size)) ∧ Below w.heap.size w w' := by
  have b0 := (Below.refl w.heap.size w).alloc (Nat.le_refl _) (.cells (laA c) 93)
  have h0 : 0 ≤ n - (c.page.size : Int) := by omega
  go_enter Try.func51, Try.ntmps51
  go_wp2_with fail
  refine (rpSz_small c.code c.page n _ h1 h).mono ?_
  rintro r w1 ⟨rfl, b1⟩
  go_wp2
  go_ret
  exact ⟨rfl, next b0 b1⟩
set_option maxHeartbeats 400000 in
theorem laSz_big (c : M.La) (n : Int) (w : World) (h0 : 0 ≤ n) (h1 : n ≤ 1048576) (hp : laIn maxLen c) (h : n < (c.page.size : Int)) :
    Calls Try.prog 51 #[laV c, .int .i64 n] w fun r w' => r = .returned (.int .i64 (-1)) ∧ Below w.heap.size w w' := by
  have b0 := (Below.refl w.heap.size w).alloc (Nat.le_refl _) (.cells (laA c) 93)
  go_enter Try.func51, Try.ntmps51
  go_wp2_with fail
  refine (rpSz_big c.code c.page n _ h0 h1 hp h).mono ?_
  rintro r w1 ⟨rfl, b1⟩
  go_wp2
  go_ret
  exact ⟨rfl, next b0 b1⟩
theorem toReply_at (c : Int) (p : ByteArray) (w : World) :
    Calls Try.prog 71 #[rpV c p] w fun r w' => r = .returned (rpV c p) ∧ w' = ((w.alloc (.cells (rpA c p) 91)).alloc (.cells (rpA c p) 51)).alloc (.cells (rpA c p) 51) := by
  go_enter Try.func71, Try.ntmps71
  go_wp2
  exact bodyPost_ret (v := rpV c p) (by simp [results, Try.results71, go_sem]) rfl ⟨rfl, rfl⟩
set_option maxHeartbeats 1000000 in
theorem laTo_any (c : M.La) (w : World) :
    Calls Try.prog 54 #[laV c] w fun r w' => r = .returned (laV c) ∧ Below w.heap.size w w' := by
  go_enter Try.func54, Try.ntmps54
  go_wp2_with fail
  refine (toReply_at c.code c.page _).mono ?_
  rintro r w1 ⟨rfl, rfl⟩
  go_wp2
  refine bodyPost_ret (v := laV c) (by simp [results, Try.results54, go_sem]) rfl ⟨rfl, ?_⟩
  repeat (first | exact Below.refl _ _ | refine Below.alloc ?_ (by simp <;> omega) _)
set_option maxHeartbeats 1000000 in
theorem laEq_same (c : M.La) (w : World) :
    Calls Try.prog 17 #[laV c, laV c] w fun r w' => r = .returned (.bool true) ∧ Below w.heap.size w w' := by
  have h1 : (c.client != c.client) = false := by simp
  have h2 : (c.seq != c.seq) = false := by simp
  have b0 := ((Below.refl w.heap.size w).alloc (Nat.le_refl _) (.cells (laA c) 53)).alloc (by simp) (.cells (laA c) 53)
  go_enter Try.func17, Try.ntmps17
  go_wp2_with fail
  refine (eqReply_same c.code c.page _).mono ?_
  rintro r w1 ⟨rfl, b1⟩
  go_wp2
  go_ret
  exact ⟨rfl, next b0 b1⟩
end Go.Proofs.Yteiopndlakkeaaa
