/- Proved: the laws' own test tells two replies alike that are; the laws' helper counts a deed; they write nothing that was there. -/
import Derived.Test.YtkpbfocnokbmiaaReplyDefs
import Derived.Test.YtkpbfocnokbmiaaDeedWalks
namespace Go.Proofs.Ytkpbfocnokbmiaa
open Go.RowKit
set_option maxRecDepth 20000

set_option maxHeartbeats 1000000 in
theorem szDeed_smallN (d : M.Dd) (n : Int) (w : World) (hn : n ≤ 1048576) (h : (d.name.size + d.page.size : Int) ≤ n) :
    Calls Try.prog 110 #[ddV d, .int .i64 n] w fun r w' => (∃ m : Nat, r = .returned (.int .i64 m)) ∧ Below w.heap.size w w' := by
  go_enter Try.func110, Try.ntmps110
  go_wp2
  go_ret
  exact ⟨⟨(n - d.name.size - d.page.size).toNat, ret_int (by omega)⟩, (Below.refl _ _).alloc (Nat.le_refl _) _⟩

set_option maxHeartbeats 1000000 in
theorem szDeed_bigN (d : M.Dd) (n : Int) (w : World) (h0 : 0 ≤ n) (hn : n ≤ 1048576) (hnm : d.name.size ≤ maxLen) (hp : d.page.size ≤ maxLen) (h : n < (d.name.size + d.page.size : Int)) :
    Calls Try.prog 110 #[ddV d, .int .i64 n] w fun r w' => r = .returned (.int .i64 (-1)) ∧ Below w.heap.size w w' := by
  unfold maxLen at hnm hp
  by_cases hs : n < (d.name.size : Int)
  · go_enter Try.func110, Try.ntmps110
    go_wp2
    go_ret
    exact ⟨rfl, (Below.refl _ _).alloc (Nat.le_refl _) _⟩
  · go_enter Try.func110, Try.ntmps110
    go_wp2
    go_ret
    exact ⟨rfl, (Below.refl _ _).alloc (Nat.le_refl _) _⟩
end Go.Proofs.Ytkpbfocnokbmiaa
