/- Proved: the law FnExactWith returns true at all numbers, and they read afterwards as before; no condition. -/
import Derived.Test.YtnelgadfgeakjaaMajSpec
import Derived.Test.YtnelgadfgeakjaaMajImpl
import Derived.Test.YtnelgadfgeakjaaOpenEd
import Derived.Test.YtnelgadfgeakjaaShell
import Derived.Lib.SmallJoins
namespace Go.Proofs.Ytnelgadfgeakjaa.fnExactWith
open Go.ChangeShapes Go.WideShapes Go.ChangeAt Go.RowKit Go.Joins Go.Deep
open Go.ChangeMaps (open_string shut_string)
set_option linter.unusedVariables false

set_option maxRecDepth 100000 in
set_option maxHeartbeats 16000000 in
theorem walk (s i : Int) (w : World)  :
    Calls Try.prog 8 #[.int .i64 s, .int .i64 i] w fun e w' => e = .returned (.bool true) ∧ Below w.heap.size w w' := by
  have hne : (M.withS s i != M.withS s i) = false := by simp
  go_enter Try.func8, Try.ntmps8
  go_wp2_with fail
  refine (specWith s i _).mono ?_
  rintro e w1 ⟨rfl, rfl⟩
  go_wp2_with fail
  refine (implWith s i _).mono ?_
  rintro e w2 ⟨rfl, rfl⟩
  go_wp2
  go_ret
  exact ⟨rfl, Below.refl _ _⟩

set_option maxRecDepth 100000 in
theorem lifted (os : Os) (started : os.Started) (H : Type) (enc : TypeId × Value → H) :
    ReturnsInHanded {} Try.checked os 8 .any (Rows.fnExactWithSpec.pre6 enc Try.prog Try.f8 Rows.fnExactWithRow.domain false) (Rows.fnExactWithSpec.post enc Try.prog Try.f8 false true false false) := by
  refine returnsInHanded_of_change (C := Try.checked) own started (by kernel_rfl) Try.func8
    (ChangeSpec.witness6 (enc := enc) (C := Try.checked) false ⟨#[], #[.int .i64 0, .int .i64 0], []⟩ 8 (by kernel_rfl) (by kernel_rfl) (by kernel_rfl) (by kernel_rfl)) ?_
  intro W base args ds gs before hval0 hW hcnd _
  have hval : ∀ (j : Nat) t v, Try.f8.params[j]? = some t → args[j]? = some v → Value.okWide Try.prog W .any base t v := hval0
  have hW' := hW
  obtain ⟨p, q, hA0, -⟩ := hW
  have hA : DataW.TrodAll enc Try.prog W 0 (fun _ => true) true Try.f8.params.toList args.toList ds p := hA0
  rw [Try.params8] at hA hval
  obtain ⟨v0, vs0, d0, ds0, p0, q0, hargs, rfl, rfl, h0, r0⟩ := trodAll_cons hA
  obtain ⟨v1, vs1, d1, ds1, p1, q1, rfl, rfl, rfl, h1, r1⟩ := trodAll_cons r0
  obtain ⟨rfl, rfl, rfl⟩ := trodAll_nil r1
  obtain rfl : args = #[v0, v1] := by cases args; simp_all
  clear hA0 hval0
  have hv0 := hval 0 _ v0 rfl rfl
  have hv1 := hval 1 _ v1 rfl rfl
  obtain ⟨s, rfl, -⟩ := open_int Try.underlying2 hv0 h0
  obtain ⟨i, rfl, -⟩ := open_int Try.underlying2 hv1 h1
  exact (walk s i W).mono fun r W' ⟨he, hb⟩ => ⟨_, he, law_post rfl rfl Try.underlying4 (by kernel_rfl) (n := 2)
    (fun ds' hd => by rcases ds' with _ | ⟨x0, _ | ⟨x1, _ | ⟨y, z⟩⟩⟩ <;> simp at hd <;> exact ⟨rfl, rfl, rfl⟩) rfl hW' hb⟩

theorem over : Rows.fnExactWithRow.holds Try.pinned (OpenSpec.ofChange Rows.fnExactWithSpec) :=
  OpenClaim.holds_of_wide 8 Try.f8 rfl rfl rfl rfl rfl rfl rfl ⟨rfl, rfl, rfl, rfl, rfl⟩ rfl rfl rfl rfl rfl (by kernel_rfl) Try.func8 (by kernel_rfl)
    (of_decide_eq_true (by kernel_rfl)) (by unfold Func.isWrapper; first | (rw [if_pos (by decide +kernel)]; kernel_rfl) | (rw [if_neg (by decide +kernel)]; exact ⟨rfl, rfl⟩))
    (fun os started H enc _ => lifted os started H enc)

theorem proved : Rows.FnExactWithSaid :=
  over
#print axioms proved
end Go.Proofs.Ytnelgadfgeakjaa.fnExactWith
