/- Proved: the law FnExactSizeOf returns true at all numbers, and they read afterwards as before; no condition. -/
import Derived.Test.YtnelgadfgeakjaaMajSpec
import Derived.Test.YtnelgadfgeakjaaMajImpl
import Derived.Test.YtnelgadfgeakjaaOpenEd
import Derived.Test.YtnelgadfgeakjaaShell
import Derived.Lib.SmallJoins
namespace Go.Proofs.Ytnelgadfgeakjaa.fnExactSizeOf
open Go.ChangeShapes Go.WideShapes Go.ChangeAt Go.RowKit Go.Joins Go.Deep
open Go.ChangeMaps (open_string shut_string)
set_option linter.unusedVariables false

set_option maxRecDepth 100000 in
set_option maxHeartbeats 16000000 in
theorem walk (s : Int) (w : World)  :
    Calls Try.prog 9 #[.int .i64 s] w fun e w' => e = .returned (.bool true) ∧ Below w.heap.size w w' := by
  have hne : (M.sizeOf s != M.sizeOf s) = false := by simp
  go_enter Try.func9, Try.ntmps9
  go_wp2_with fail
  refine (specSizeOf s _).mono ?_
  rintro e w1 ⟨rfl, rfl⟩
  go_wp2_with fail
  refine (implSizeOf s _).mono ?_
  rintro e w2 ⟨rfl, rfl⟩
  go_wp2
  go_ret
  exact ⟨rfl, Below.refl _ _⟩

set_option maxRecDepth 100000 in
theorem lifted (os : Os) (started : os.Started) (H : Type) (enc : TypeId × Value → H) :
    ReturnsInHanded {} Try.checked os 9 .any (Rows.fnExactSizeOfSpec.pre6 enc Try.prog Try.f9 Rows.fnExactSizeOfRow.domain false) (Rows.fnExactSizeOfSpec.post enc Try.prog Try.f9 false true false false) := by
  refine returnsInHanded_of_change (C := Try.checked) own started (by kernel_rfl) Try.func9
    (ChangeSpec.witness6 (enc := enc) (C := Try.checked) false ⟨#[], #[.int .i64 0], []⟩ 8 (by kernel_rfl) (by kernel_rfl) (by kernel_rfl) (by kernel_rfl)) ?_
  intro W base args ds gs before hval0 hW hcnd _
  have hval : ∀ (j : Nat) t v, Try.f9.params[j]? = some t → args[j]? = some v → Value.okWide Try.prog W .any base t v := hval0
  have hW' := hW
  obtain ⟨p, q, hA0, -⟩ := hW
  have hA : DataW.TrodAll enc Try.prog W 0 (fun _ => true) true Try.f9.params.toList args.toList ds p := hA0
  rw [Try.params9] at hA hval
  obtain ⟨v0, vs0, d0, ds0, p0, q0, hargs, rfl, rfl, h0, r0⟩ := trodAll_cons hA
  obtain ⟨rfl, rfl, rfl⟩ := trodAll_nil r0
  obtain rfl : args = #[v0] := by cases args; simp_all
  clear hA0 hval0
  have hv0 := hval 0 _ v0 rfl rfl
  obtain ⟨s, rfl, -⟩ := open_int Try.underlying2 hv0 h0
  exact (walk s W).mono fun r W' ⟨he, hb⟩ => ⟨_, he, law_post rfl rfl Try.underlying4 (by kernel_rfl) (n := 1)
    (fun ds' hd => by rcases ds' with _ | ⟨x0, _ | ⟨y, z⟩⟩ <;> simp at hd <;> exact ⟨rfl, rfl, rfl⟩) rfl hW' hb⟩

theorem over : Rows.fnExactSizeOfRow.holds Try.pinned (OpenSpec.ofChange Rows.fnExactSizeOfSpec) :=
  OpenClaim.holds_of_wide 9 Try.f9 rfl rfl rfl rfl rfl rfl rfl ⟨rfl, rfl, rfl, rfl, rfl⟩ rfl rfl rfl rfl rfl (by kernel_rfl) Try.func9 (by kernel_rfl)
    (of_decide_eq_true (by kernel_rfl)) (by unfold Func.isWrapper; first | (rw [if_pos (by decide +kernel)]; kernel_rfl) | (rw [if_neg (by decide +kernel)]; exact ⟨rfl, rfl⟩))
    (fun os started H enc _ => lifted os started H enc)

theorem proved : Rows.FnExactSizeOfSaid :=
  over
#print axioms proved
end Go.Proofs.Ytnelgadfgeakjaa.fnExactSizeOf
