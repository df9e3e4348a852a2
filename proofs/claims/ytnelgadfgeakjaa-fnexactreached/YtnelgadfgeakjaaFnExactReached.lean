/- Proved: the law FnExactReached returns true at every list of numbers, and it reads afterwards as before; no condition. -/
import Derived.Test.YtnelgadfgeakjaaReachSpec
import Derived.Test.YtnelgadfgeakjaaReachImpl
import Derived.Test.YtnelgadfgeakjaaIntRows
import Derived.Test.YtnelgadfgeakjaaOpenEd
import Derived.Test.YtnelgadfgeakjaaShell
import Derived.Lib.SmallJoins
namespace Go.Proofs.Ytnelgadfgeakjaa.fnExactReached
open Go.ChangeShapes Go.WideShapes Go.ChangeAt Go.RowKit Go.Joins Go.Deep
open Go.ChangeMaps (open_string shut_string)
set_option linter.unusedVariables false

set_option maxRecDepth 100000 in
set_option maxHeartbeats 16000000 in
theorem walk (A : Option Addr) (l : List Int) (cap : Nat) (hlc : l.length ≤ cap) (hcap : cap ≤ maxLen) (w : World) (hl : Ints w A l) :
    Calls Try.prog 10 #[.slice A l.length cap] w fun e w' => e = .returned (.bool true) ∧ Below w.heap.size w w' := by
  have hm : l.length ≤ maxLen := by omega
  unfold maxLen at hcap
  by_cases hbig : l.length ≤ 1048576
  · go_enter Try.func10, Try.ntmps10
    go_wp2_with fail
    have HL := Lib.hid hl
    clear hl
    refine (toInts_any _ l _ _ HL.out hbig).mono ?_
    rintro r w1 ⟨rfl, o1, b1⟩
    have q1 := own_ints o1
    clear o1
    go_wp2_with fail
    refine (specReached _ l _ _ q1 (fun h => by cases h) hbig).mono ?_
    rintro r w2 ⟨r1, rfl, hr1, c2⟩
    replace b1 := next b1 c2
    clear q1 c2
    go_wp2_with fail
    refine (toInts_any _ l _ _ (HL.out.below b1) hbig).mono ?_
    rintro r w3 ⟨rfl, o3, c3⟩
    have q3 := own_ints o3
    replace b1 := next b1 c3
    clear o3 c3
    go_wp2_with fail
    refine (implReached _ l _ _ q3 hbig).mono ?_
    rintro r w4 ⟨r2, rfl, hr2, c4⟩
    replace b1 := next b1 c4
    replace q3 := q3.below c4
    obtain rfl := reachedIs_one hr1 hr2
    have hne : (r1 != r1) = false := by simp
    clear hr1 hr2 c4
    go_wp2_with fail
    refine (toInts_any _ l _ _ (HL.out.below b1) hbig).mono ?_
    rintro r w5 ⟨rfl, o5, c5⟩
    have q5 := own_ints o5
    replace b1 := next b1 c5
    replace q3 := q3.below c5
    clear o5 c5
    go_wp2_with fail
    refine (eqInts_same _ _ l _ _ _ q3 q5 hm).mono ?_
    rintro r w6 ⟨rfl, c6⟩
    replace b1 := next b1 c6
    clear q3 q5 c6
    go_wp2
    go_ret
    exact ⟨rfl, b1⟩
  · clear hl
    go_enter Try.func10, Try.ntmps10
    go_wp2
    go_ret
    exact ⟨rfl, Below.refl _ _⟩

set_option maxRecDepth 100000 in
theorem lifted (os : Os) (started : os.Started) (H : Type) (enc : TypeId × Value → H) :
    ReturnsInHanded {} Try.checked os 10 .any (Rows.fnExactReachedSpec.pre6 enc Try.prog Try.f10 Rows.fnExactReachedRow.domain false) (Rows.fnExactReachedSpec.post enc Try.prog Try.f10 false true false false) := by
  refine returnsInHanded_of_change (C := Try.checked) own started (by kernel_rfl) Try.func10
    (ChangeSpec.witness6 (enc := enc) (C := Try.checked) false ⟨#[], #[.slice none 0 0], []⟩ 8 (by kernel_rfl) (by kernel_rfl) (by kernel_rfl) (by kernel_rfl)) ?_
  intro W base args ds gs before hval0 hW hcnd _
  have hval : ∀ (j : Nat) t v, Try.f10.params[j]? = some t → args[j]? = some v → Value.okWide Try.prog W .any base t v := hval0
  have hW' := hW
  obtain ⟨p, q, hA0, -⟩ := hW
  have hA : DataW.TrodAll enc Try.prog W 0 (fun _ => true) true Try.f10.params.toList args.toList ds p := hA0
  rw [Try.params10] at hA hval
  obtain ⟨v0, vs0, d0, ds0, p0, q0, hargs, rfl, rfl, h0, r0⟩ := trodAll_cons hA
  obtain ⟨rfl, rfl, rfl⟩ := trodAll_nil r0
  obtain rfl : args = #[v0] := by cases args; simp_all
  clear hA0 hval0
  have hv0 := hval 0 _ v0 rfl rfl
  obtain ⟨A, l, cap, rfl, hl, hlc, hcap⟩ := open_ints Try.underlying33 Try.underlying2 (by kernel_rfl) hv0 h0
  exact (walk A l cap hlc hcap W hl).mono fun r W' ⟨he, hb⟩ => ⟨_, he, law_post rfl rfl Try.underlying4 (by kernel_rfl) (n := 1)
    (fun ds' hd => by rcases ds' with _ | ⟨x0, _ | ⟨y, z⟩⟩ <;> simp at hd <;> exact ⟨rfl, rfl, rfl⟩) rfl hW' hb⟩

theorem over : Rows.fnExactReachedRow.holds Try.pinned (OpenSpec.ofChange Rows.fnExactReachedSpec) :=
  OpenClaim.holds_of_wide 10 Try.f10 rfl rfl rfl rfl rfl rfl rfl ⟨rfl, rfl, rfl, rfl, rfl⟩ rfl rfl rfl rfl rfl (by kernel_rfl) Try.func10 (by kernel_rfl)
    (of_decide_eq_true (by kernel_rfl)) (by unfold Func.isWrapper; first | (rw [if_pos (by decide +kernel)]; kernel_rfl) | (rw [if_neg (by decide +kernel)]; exact ⟨rfl, rfl⟩))
    (fun os started H enc _ => lifted os started H enc)

theorem proved : Rows.FnExactReachedSaid :=
  over
#print axioms proved
end Go.Proofs.Ytnelgadfgeakjaa.fnExactReached
