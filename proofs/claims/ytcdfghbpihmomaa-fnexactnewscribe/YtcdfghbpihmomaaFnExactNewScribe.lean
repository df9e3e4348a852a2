/- Proved: the law FnExactNewScribe returns true; no condition. -/
import Derived.Test.YtcdfghbpihmomaaNilWalks
import Derived.Test.YtcdfghbpihmomaaShell
import Derived.Lib.SmallJoins
namespace Go.Proofs.Ytcdfghbpihmomaa.fnExactNewScribe
open Go.ChangeShapes Go.WideShapes Go.ChangeAt Go.RowKit Go.Joins Go.Deep
open Go.ChangeMaps (open_string shut_string)
set_option linter.unusedVariables false

set_option maxRecDepth 100000 in
set_option maxHeartbeats 16000000 in
theorem walk  (w : World)  :
    Calls Try.prog 3 #[] w fun e w' => e = .returned (.bool true) ∧ Below w.heap.size w w' := by
  go_enter Try.func3, Try.ntmps3
  go_wp2_with fail
  refine (specNewScribe _).mono ?_
  rintro r w1 ⟨rfl, b1⟩
  have b0 := b1.alloc b1.size (.cells newA 31)
  have hw := holds_new w1 newA 31
  clear b1
  go_upto_region 2 with (fail)
  generalize w1.heap.size = a1 at hw ⊢
  generalize hv1 : w1.alloc (.cells newA 31) = v1 at hw b0 ⊢
  clear hv1
  as_aux_lemma =>
    go_wp2_with fail
    refine (implNewScribe _).mono ?_
    rintro r w2 ⟨rfl, b1⟩
    replace hw := (hw.below b1).alloc (.cells newA 31)
    replace b0 := (next b0 b1).alloc (next b0 b1).size (.cells newA 31)
    have hg := holds_new w2 newA 31
    clear b1
    go_upto_region 3 with (fail)
    generalize w2.heap.size = a2 at hg ⊢
    generalize hv2 : w2.alloc (.cells newA 31) = v2 at hw hg b0 ⊢
    clear hv2
    as_aux_lemma =>
      obtain ⟨k0, k1, k2, k3, k4, k5, k6, k7, k8, k9, k10, k11, k12, k13, k14⟩ := hg.at15
      obtain ⟨q0, q1, q2, q3, q4, q5, q6, q7, q8, q9, q10, q11, q12, q13, q14⟩ := hw.at15
      go_wp2_with fail
      refine (nil_eqScribe _).mono ?_
      rintro r w3 ⟨rfl, b1⟩
      clear k0 k1 k2 k3 k4 k5 k6 k7 k8 k9 k10 k11 k12 k13 k14 q0 q1 q2 q3 q4 q5 q6 q7 q8 q9 q10 q11 q12 q13 q14
      replace hg := hg.below b1
      replace hw := hw.below b1
      replace b0 := next b0 b1
      clear b1
      as_aux_lemma =>
        obtain ⟨k0, k1, k2, k3, k4, k5, k6, k7, k8, k9, k10, k11, k12, k13, k14⟩ := hg.at15
        go_wp2_with fail
        refine (nil_markScribe _).mono ?_
        rintro r w3 ⟨rfl, b1⟩
        clear k0 k1 k2 k3 k4 k5 k6 k7 k8 k9 k10 k11 k12 k13 k14
        replace hg := hg.below b1
        replace hw := hw.below b1
        replace b0 := next b0 b1
        clear b1
        as_aux_lemma =>
          obtain ⟨k0, k1, k2, k3, k4, k5, k6, k7, k8, k9, k10, k11, k12, k13, k14⟩ := hg.at15
          go_wp2_with fail
          refine (nil_heldScribe _).mono ?_
          rintro r w3 ⟨rfl, b1⟩
          clear k0 k1 k2 k3 k4 k5 k6 k7 k8 k9 k10 k11 k12 k13 k14
          replace hg := hg.below b1
          replace hw := hw.below b1
          replace b0 := next b0 b1
          clear b1
          as_aux_lemma =>
            go_wp2_with fail
            refine (implNewScribe _).mono ?_
            rintro r w4 ⟨rfl, b1⟩
            replace hw := (hw.below b1).alloc (.cells newA 31)
            replace hg := (hg.below b1).alloc (.cells newA 31)
            replace b0 := (next b0 b1).alloc (next b0 b1).size (.cells newA 31)
            have hh := holds_new w4 newA 31
            clear b1
            go_upto_region 14 with (fail)
            generalize w4.heap.size = a4 at hh ⊢
            generalize hv4 : w4.alloc (.cells newA 31) = v4 at hw hg hh b0 ⊢
            clear hv4
            as_aux_lemma =>
              obtain ⟨k0, k1, k2, k3, k4, k5, k6, k7, k8, k9, k10, k11, k12, k13, k14⟩ := hh.at15
              obtain ⟨q0, q1, q2, q3, q4, q5, q6, q7, q8, q9, q10, q11, q12, q13, q14⟩ := hw.at15
              go_wp2_with fail
              refine (nil_eqScribe _).mono ?_
              rintro r w3 ⟨rfl, b1⟩
              clear k0 k1 k2 k3 k4 k5 k6 k7 k8 k9 k10 k11 k12 k13 k14 q0 q1 q2 q3 q4 q5 q6 q7 q8 q9 q10 q11 q12 q13 q14
              replace hg := hg.below b1
              replace b0 := next b0 b1
              clear b1
              as_aux_lemma =>
                obtain ⟨k0, k1, k2, k3, k4, k5, k6, k7, k8, k9, k10, k11, k12, k13, k14⟩ := hg.at15
                go_wp2_with fail
                refine (nil_heldScribe _).mono ?_
                rintro r w3 ⟨rfl, b1⟩
                clear k0 k1 k2 k3 k4 k5 k6 k7 k8 k9 k10 k11 k12 k13 k14
                replace b0 := next b0 b1
                clear b1
                as_aux_lemma =>
                  go_wp2
                  go_ret
                  exact ⟨rfl, b0⟩

set_option maxRecDepth 100000 in
theorem lifted (os : Os) (started : os.Started) (H : Type) (enc : TypeId × Value → H) :
    ReturnsInHanded {} Try.checked os 3 .any (Rows.fnExactNewScribeSpec.pre6 enc Try.prog Try.f3 Rows.fnExactNewScribeRow.domain false) (Rows.fnExactNewScribeSpec.post enc Try.prog Try.f3 false true false false) := by
  refine returnsInHanded_of_change (C := Try.checked) own started (by kernel_rfl) Try.func3
    (ChangeSpec.witness6 (enc := enc) (C := Try.checked) false ⟨#[], #[], []⟩ 8 (by kernel_rfl) (by kernel_rfl) (by kernel_rfl) (by kernel_rfl)) ?_
  intro W base args ds gs before hval0 hW hcnd _
  have hval : ∀ (j : Nat) t v, Try.f3.params[j]? = some t → args[j]? = some v → Value.okWide Try.prog W .any base t v := hval0
  have hW' := hW
  obtain ⟨p, q, hA0, -⟩ := hW
  have hA : DataW.TrodAll enc Try.prog W 0 (fun _ => true) true Try.f3.params.toList args.toList ds p := hA0
  rw [Try.params3] at hA hval
  obtain ⟨rfl, rfl, rfl⟩ := trodAll_none hA
  clear hA0 hval0
  exact (walk W).mono fun r W' ⟨he, hb⟩ => ⟨_, he, law_post rfl rfl Try.underlying4 (by kernel_rfl) (n := 0)
    (fun ds' hd => by rcases ds' with _ | ⟨y, z⟩ <;> simp at hd <;> exact ⟨rfl, rfl, rfl⟩) rfl hW' hb⟩

theorem over : Rows.fnExactNewScribeRow.holds Try.pinned (OpenSpec.ofChange Rows.fnExactNewScribeSpec) :=
  OpenClaim.holds_of_wide 3 Try.f3 rfl rfl rfl rfl rfl rfl rfl ⟨rfl, rfl, rfl, rfl, rfl⟩ rfl rfl rfl rfl rfl (by kernel_rfl) Try.func3 (by kernel_rfl)
    (of_decide_eq_true (by kernel_rfl)) (by unfold Func.isWrapper; first | (rw [if_pos (by decide +kernel)]; kernel_rfl) | (rw [if_neg (by decide +kernel)]; exact ⟨rfl, rfl⟩))
    (fun os started H enc _ => lifted os started H enc)

theorem proved : Rows.FnExactNewScribeSaid :=
  over
#print axioms proved
end Go.Proofs.Ytcdfghbpihmomaa.fnExactNewScribe
