/- Proved: where the laws' copy of an order leaves the world. No condition. -/
import Derived.Test.YtkpbfocnokbmiaaOrderOk
namespace Go.Proofs.Ytkpbfocnokbmiaa
open Go.RowKit
set_option maxRecDepth 20000
/-- Where toOrder leaves the world. -/
abbrev orMade (o : M.Or) (w : World) : World := ddMade o.deed (((w.alloc (.cells (orC o) 108)).alloc (.cells (orC o) 35)).alloc (.cells (orC o) 35))
set_option maxHeartbeats 4000000 in
theorem toOrder_at (o : M.Or) (w : World) :
    Calls Try.prog 100 #[orV o] w fun r w' => r = .returned (orV o) ∧ w' = orMade o w := by
  go_enter Try.func100, Try.ntmps100
  go_wp2_with fail
  refine (toDeed_at o.deed _).mono ?_
  rintro r w1 ⟨rfl, rfl⟩
  go_wp2
  exact bodyPost_ret (v := orV o) (by simp [results, Try.results100, go_sem]) rfl ⟨rfl, rfl⟩
end Go.Proofs.Ytkpbfocnokbmiaa
