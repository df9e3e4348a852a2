/- Proved: the laws' own test tells an edition like itself; it writes nothing that was there. No condition. -/
import Derived.Test.YtkpbfocnokbmiaaEdWalks
namespace Go.Proofs.Ytkpbfocnokbmiaa
open Go.RowKit
set_option maxRecDepth 20000

set_option maxHeartbeats 1000000 in
theorem eqEdition_same (a : M.Ed) (w : World) :
    Calls Try.prog 101 #[edV a, edV a] w fun r w' => r = .returned (.bool true) ∧ Below w.heap.size w w' := by
  have h0 : (a.ma != a.ma) = false := by simp
  have h1 : (a.mi != a.mi) = false := by simp
  have h2 : (a.pa != a.pa) = false := by simp
  go_enter Try.func101, Try.ntmps101
  go_wp2
  go_ret
  exact ⟨rfl, ((Below.refl _ _).alloc (Nat.le_refl _) _).alloc (by simp) _⟩
end Go.Proofs.Ytkpbfocnokbmiaa
