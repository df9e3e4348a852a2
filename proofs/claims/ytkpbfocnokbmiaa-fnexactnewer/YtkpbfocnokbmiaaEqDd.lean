/- Proved: the laws' own test tells a deed like itself; it writes nothing that was there. No condition. -/
import Derived.Test.YtkpbfocnokbmiaaDeedWalks
import Derived.Test.YtkpbfocnokbmiaaEqEd
namespace Go.Proofs.Ytkpbfocnokbmiaa
open Go.RowKit
set_option maxRecDepth 20000

set_option maxHeartbeats 1000000 in
theorem eqDeed_same (a : M.Dd) (w : World) :
    Calls Try.prog 90 #[ddV a, ddV a] w fun r w' => r = .returned (.bool true) ∧ Below w.heap.size w w' := by
  have h0 : (a.kind != a.kind) = false := by simp
  have h1 : (a.name.toList != a.name.toList) = false := by simp
  have h2 : (a.page.toList != a.page.toList) = false := by simp
  have h3 : (a.who != a.who) = false := by simp
  have b0 := ((Below.refl w.heap.size w).alloc (Nat.le_refl _) (.cells (ddC a) 33)).alloc (by simp) (.cells (ddC a) 33)
  have ha := (holds_new w (ddC a) 33).alloc (.cells (ddC a) 33)
  have hb := holds_new (w.alloc (.cells (ddC a) 33)) (ddC a) 33
  go_enter Try.func90, Try.ntmps90
  go_wp2_with fail
  refine (eqEdition_same a.ed _).mono ?_
  rintro r w1 ⟨rfl, b1⟩
  replace ha := ha.below b1
  replace hb := hb.below b1
  replace b0 := next b0 b1
  simp only [World.size_alloc] at hb
  obtain ⟨p0, p1, p2, p3, p4, p5, p6⟩ := ha.seven
  obtain ⟨q0, q1, q2, q3, q4, q5, q6⟩ := hb.seven
  clear b1
  go_wp2
  go_ret
  exact ⟨rfl, b0⟩
end Go.Proofs.Ytkpbfocnokbmiaa
