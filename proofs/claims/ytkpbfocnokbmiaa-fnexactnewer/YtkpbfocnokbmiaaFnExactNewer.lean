/- Proved: the law FnExactNewer returns true at all numbers; no condition. -/
import Derived.Test.YtkpbfocnokbmiaaRollSpec
import Derived.Test.YtkpbfocnokbmiaaShell
import Derived.Lib.SmallJoins
namespace Go.Proofs.Ytkpbfocnokbmiaa.fnExactNewer
open Go.ChangeShapes Go.WideShapes Go.ChangeAt Go.RowKit Go.Joins Go.Deep
open Go.ChangeMaps (open_string shut_string)
set_option linter.unusedVariables false

set_option maxRecDepth 100000 in
set_option maxHeartbeats 16000000 in
theorem walk (a b c d : Int) (w : World)  :
    Calls Try.prog 12 #[.int .i64 a, .int .i64 b, .int .i64 c, .int .i64 d] w fun e w' => e = .returned (.bool true) ∧ Below w.heap.size w w' := by
  have hne : ((decide (d < b) || (decide (b = d) && decide (c ≤ a))) != (decide (d < b) || (decide (b = d) && decide (c ≤ a)))) = false := by simp
  obtain ⟨q, hq⟩ : ∃ q, (decide (d < b) || (decide (b = d) && decide (c ≤ a))) = q := ⟨_, rfl⟩
  have HQ := Lib.hid hq
  have hnq : (q != q) = false := by simp
  clear hq hne
  go_enter Try.func12, Try.ntmps12
  go_wp2_with fail
  refine (specNewer a b c d _).mono ?_
  rintro e w1 ⟨rfl, rfl⟩
  rw [HQ.out]
  go_wp2_with fail
  refine (implNewer a b c d _).mono ?_
  rintro e w1 ⟨rfl, rfl⟩
  rw [HQ.out]
  go_wp2
  go_ret
  exact ⟨rfl, Below.refl _ _⟩

set_option maxRecDepth 100000 in
theorem lifted (os : Os) (started : os.Started) (H : Type) (enc : TypeId × Value → H) :
    ReturnsInHanded {} Try.checked os 12 .any (Rows.fnExactNewerSpec.pre6 enc Try.prog Try.f12 Rows.fnExactNewerRow.domain false) (Rows.fnExactNewerSpec.post enc Try.prog Try.f12 false true false false) := by
  refine returnsInHanded_of_change (C := Try.checked) own started (by kernel_rfl) Try.func12
    (ChangeSpec.witness6 (enc := enc) (C := Try.checked) false ⟨#[], #[.int .i64 0, .int .i64 0, .int .i64 0, .int .i64 0], []⟩ 8 (by kernel_rfl) (by kernel_rfl) (by kernel_rfl) (by kernel_rfl)) ?_
  intro W base args ds gs before hval0 hW hcnd _
  have hval : ∀ (j : Nat) t v, Try.f12.params[j]? = some t → args[j]? = some v → Value.okWide Try.prog W .any base t v := hval0
  have hW' := hW
  obtain ⟨p, q, hA0, -⟩ := hW
  have hA : DataW.TrodAll enc Try.prog W 0 (fun _ => true) true Try.f12.params.toList args.toList ds p := hA0
  rw [Try.params12] at hA hval
  obtain ⟨v0, vs0, d0, ds0, p0, q0, hargs, rfl, rfl, h0, r0⟩ := trodAll_cons hA
  obtain ⟨v1, vs1, d1, ds1, p1, q1, rfl, rfl, rfl, h1, r1⟩ := trodAll_cons r0
  obtain ⟨v2, vs2, d2, ds2, p2, q2, rfl, rfl, rfl, h2, r2⟩ := trodAll_cons r1
  obtain ⟨v3, vs3, d3, ds3, p3, q3, rfl, rfl, rfl, h3, r3⟩ := trodAll_cons r2
  obtain ⟨rfl, rfl, rfl⟩ := trodAll_nil r3
  obtain rfl : args = #[v0, v1, v2, v3] := by cases args; simp_all
  clear hA0 hval0
  have hv0 := hval 0 _ v0 rfl rfl
  have hv1 := hval 1 _ v1 rfl rfl
  have hv2 := hval 2 _ v2 rfl rfl
  have hv3 := hval 3 _ v3 rfl rfl
  obtain ⟨a, rfl, -⟩ := open_int Try.underlying2 hv0 h0
  obtain ⟨b, rfl, -⟩ := open_int Try.underlying2 hv1 h1
  obtain ⟨c, rfl, -⟩ := open_int Try.underlying2 hv2 h2
  obtain ⟨d, rfl, -⟩ := open_int Try.underlying2 hv3 h3
  exact (walk a b c d W).mono fun r W' ⟨he, hb⟩ => ⟨_, he, law_post rfl rfl Try.underlying4 (by kernel_rfl) (n := 4)
    (fun ds' hd => by rcases ds' with _ | ⟨x0, _ | ⟨x1, _ | ⟨x2, _ | ⟨x3, _ | ⟨y, z⟩⟩⟩⟩⟩ <;> simp at hd <;> exact ⟨rfl, rfl, rfl⟩) rfl hW' hb⟩

theorem over : Rows.fnExactNewerRow.holds Try.pinned (OpenSpec.ofChange Rows.fnExactNewerSpec) :=
  OpenClaim.holds_of_wide 12 Try.f12 rfl rfl rfl rfl rfl rfl rfl ⟨rfl, rfl, rfl, rfl, rfl⟩ rfl rfl rfl rfl rfl (by kernel_rfl) Try.func12 (by kernel_rfl)
    (of_decide_eq_true (by kernel_rfl)) (by unfold Func.isWrapper; first | (rw [if_pos (by decide +kernel)]; kernel_rfl) | (rw [if_neg (by decide +kernel)]; exact ⟨rfl, rfl⟩))
    (fun os started H enc _ => lifted os started H enc)

theorem proved : Rows.FnExactNewerSaid :=
  over
#print axioms proved
end Go.Proofs.Ytkpbfocnokbmiaa.fnExactNewer
