/- Proved: the law FnExactLetterOk returns true at all arguments, and they read afterwards as before; no condition. -/
import Derived.Test.YtdoeiphnalbinaaGreatPart21
import Derived.Test.YtdoeiphnalbinaaGreatPart26
import Derived.Test.YtdoeiphnalbinaaGreatPart31
import Derived.Test.YtdoeiphnalbinaaGreatPart33
import Derived.Lib.SmallJoins
namespace Go.Proofs.YtdoeiphnalbinaaGreat.fnExactLetterOk
open Go.ChangeShapes Go.WideShapes Go.ChangeAt Go.RowKit Go.Joins Go.Deep
open Go.ChangeMaps (open_string shut_string)
set_option linter.unusedVariables false

set_option maxRecDepth 100000 in
set_option maxHeartbeats 16000000 in
theorem walk (s : LLt) (n : Int) (w : World) (hs : LtRd maxLen w s) :
    Calls Tryz.prog 3 #[ltV s, .int .i64 n] w fun e w' => e = .returned (.bool true) ∧ Below w.heap.size w w' := by
  have b0 := (Below.refl w.heap.size w).alloc (Nat.le_refl _) (.cells (ltA s) 28)
  have h0 := holds_new w (ltA s) 28
  by_cases hbig : (1048576 : Int) < s.sz
  · have HSZ := Lib.hid (ltsz_left hbig)
    have HS := Lib.hid hs
    clear hs hbig
    go_enter Tryz.func3, Tryz.ntmps3
    obtain ⟨k0, k1, k2, k3, k4, k5, k6, k7, k8, k9, k10⟩ := h0.at11
    go_wp2_with fail
    have hcall := szLetter_any s 1048576 _ (by omega) (by omega) (HS.out.below b0)
    rw [HSZ.out] at hcall
    refine hcall.mono ?_
    rintro e w1 ⟨rfl, b1⟩
    go_wp2
    go_ret
    exact ⟨rfl, next b0 b1⟩
  · have HSZ := Lib.hid (ltsz_fits hbig)
    have hge0 : 0 ≤ (1048576 : Int) - s.sz := by omega
    have HS := Lib.hid hs
    have HR := Lib.hid (hs.of_sz (n := 1048576) (by omega))
    obtain ⟨Q, hQ⟩ : ∃ Q, M.ltOk s.d n = Q := ⟨_, rfl⟩
    have HQ := Lib.hid hQ
    have hne : (Q != Q) = false := by simp
    clear hs hbig hQ
    go_enter Tryz.func3, Tryz.ntmps3
    obtain ⟨k0, k1, k2, k3, k4, k5, k6, k7, k8, k9, k10⟩ := h0.at11
    go_wp2_with fail
    have hcall := szLetter_any s 1048576 _ (by omega) (by omega) (HS.out.below b0)
    rw [HSZ.out] at hcall
    refine hcall.mono ?_
    clear hcall
    rintro e w1 ⟨rfl, b1⟩
    clear k0 k1 k2 k3 k4 k5 k6 k7 k8 k9 k10 HS HSZ
    replace h0 := h0.below b1
    replace b0 := next b0 b1
    clear b1
    obtain ⟨k0, k1, k2, k3, k4, k5, k6, k7, k8, k9, k10⟩ := h0.at11
    have zl := h0.1
    go_wp2_with fail
    refine (toLetter_any s _ (HR.out.below b0)).mono ?_
    rintro e y1 ⟨s1, rfl, o1, d1, c1⟩
    have HI1 : Hid (LtIn 1048576 y1 s1) := Lib.hid (o1.in (by rw [d1]; exact HR.out.small))
    have HD1 := Lib.hid d1
    replace h0 := h0.below c1
    replace b0 := next b0 c1
    clear k0 k1 k2 k3 k4 k5 k6 k7 k8 k9 k10 zl c1 o1 d1 hge0
    have hcall := specLetterOk s1 n y1 HI1.out
    rw [HD1.out, HQ.out] at hcall
    have HCALL := Lib.hid hcall
    clear hcall
    go_wp2_with fail
    refine HCALL.out.mono ?_
    rintro e y3 ⟨rfl, b3⟩
    replace h0 := h0.below b3
    replace b0 := next b0 b3
    clear b3 HI1 HD1 HCALL
    obtain ⟨k0, k1, k2, k3, k4, k5, k6, k7, k8, k9, k10⟩ := h0.at11
    have zl := h0.1
    go_wp2_with fail
    refine (toLetter_any s _ (HR.out.below b0)).mono ?_
    rintro e y2 ⟨sx, rfl, oX, dX, c2⟩
    have HDX := Lib.hid dX
    have HIX : Hid (LtIn 1048576 y2 sx) := Lib.hid (oX.in (by rw [dX]; exact HR.out.small))
    replace h0 := h0.below c2
    replace b0 := next b0 c2
    clear k0 k1 k2 k3 k4 k5 k6 k7 k8 k9 k10 zl c2 dX oX
    have hx := holds_new y2 (ltA sx) 37
    have ba := (Below.refl y2.heap.size y2).alloc (Nat.le_refl _) (.cells (ltA sx) 37)
    replace h0 := h0.below ba
    replace b0 := next b0 ba
    go_upto_region 7 with (fail)
    have HIV := Lib.hid (HIX.out.below ba)
    clear ba
    generalize hv5 : y2.alloc (.cells (ltA sx) 37) = v5 at hx h0 b0 HIV ⊢
    clear hv5
    obtain ⟨q0, q1, q2, q3, q4, q5, q6, q7, q8, q9, q10⟩ := hx.at11
    have hcall := implLetterOk sx n v5 HIV.out
    rw [HDX.out, HQ.out] at hcall
    have HCALL := Lib.hid hcall
    clear hcall
    go_wp2_with fail
    refine HCALL.out.mono ?_
    rintro e m1 ⟨rfl, b6⟩
    have HXM := Lib.hid (HIV.out.below b6).lk
    replace h0 := h0.below b6
    replace hx := hx.below b6
    replace b0 := next b0 b6
    clear b6 HCALL q0 q1 q2 q3 q4 q5 q6 q7 q8 q9 q10 HIV
    have HR6 := Lib.hid (HR.out.below b0)
    obtain ⟨k0, k1, k2, k3, k4, k5, k6, k7, k8, k9, k10⟩ := h0.at11
    obtain ⟨q0, q1, q2, q3, q4, q5, q6, q7, q8, q9, q10⟩ := hx.at11
    have zl := h0.1
    have zx := hx.1
    go_wp2_with fail
    refine wp_region_seq (fun w' => Below m1.heap.size m1 w') [(0, true), (1, true), (2, false), (3, false), (4, true)] (by kernel_rfl) (by kernel_rfl) (fun _ _ _ _ _ h => h) (by kernel_rfl) (by decide) (Below.refl _ _).drew ?_
    intro hHeld
    repeat (first
      | (refine seq_skip (by simp only [List.getElem?_toArray, List.getElem?_cons_succ, List.getElem?_cons_zero]; first | done | rfl) (by rfl) ?_; (try simp only [Act.put, List.setIfInBounds_toArray, List.set_cons_zero, List.set_cons_succ]))
      | (refine seq_reads (by simp only [List.getElem?_toArray, List.getElem?_cons_succ, List.getElem?_cons_zero]; first | done | rfl) (by rfl) ?_; apply Exists.intro; apply And.intro; (focus (intro w hSw; obtain ⟨hcS, -⟩ := bcell hSw; go_simp; (try with_reducible rfl); done)); (try simp only [Act.put, List.setIfInBounds_toArray, List.set_cons_zero, List.set_cons_succ]))
      | (refine seq_pass (by simp only [List.getElem?_toArray, List.getElem?_cons_succ, List.getElem?_cons_zero]; first | done | rfl) (by rfl) hHeld ?_; clear hHeld; intro hHeld; (try simp only [Act.put, List.setIfInBounds_toArray, List.set_cons_zero, List.set_cons_succ]))
      | (refine seq_call (by simp only [List.getElem?_toArray, List.getElem?_cons_succ, List.getElem?_cons_zero]; first | done | rfl) (by rfl) (fun K hK => ?_); go_simp; go_at_call 6; refine (toLetter_any s _ (HR6.out.below hHeld)).mono ?_; rintro r w1 ⟨s3, rfl, o3, d3, b1⟩; (have HL3 := Lib.hid (LtIn.lk (o3.in (by rw [d3]; exact HR6.out.small)))); (have HD3 := Lib.hid d3); clear o3 d3; go_simp; refine hK.out _ _ (next hHeld b1) ?_; clear hK hHeld; intro hHeld; (try simp only [Act.put, List.setIfInBounds_toArray, List.set_cons_zero, List.set_cons_succ]))
      | (refine seq_call (by simp only [List.getElem?_toArray, List.getElem?_cons_succ, List.getElem?_cons_zero]; first | done | rfl) (by rfl) (fun K hK => ?_); go_simp; go_at_call 8; refine (eqLetter_same sx _ _ (HXM.out.below hHeld) HL3.out (HD3.out.trans HDX.out.symm)).mono ?_; rintro r w1 ⟨rfl, b1⟩; go_simp; refine hK.out _ _ (next hHeld b1) ?_; clear hK hHeld; intro hHeld; (try simp only [Act.put, List.setIfInBounds_toArray, List.set_cons_zero, List.set_cons_succ])))
    refine seq_end ?_
    replace b0 := next b0 hHeld
    go_wp2
    go_ret
    exact ⟨rfl, b0⟩

set_option maxRecDepth 100000 in
theorem lifted (os : Os) (started : os.Started) (H : Type) (enc : TypeId × Value → H) :
    ReturnsInHanded {} Tryz.checked os 3 .any (Rows.fnExactLetterOkSpec.pre6 enc Tryz.prog Tryz.f3 Rows.fnExactLetterOkRow.domain false) (Rows.fnExactLetterOkSpec.post enc Tryz.prog Tryz.f3 false true false false) := by
  refine returnsInHanded_of_change (C := Tryz.checked) own started (by kernel_rfl) Tryz.func3
    (ChangeSpec.witness6 (enc := enc) (C := Tryz.checked) false ⟨#[], #[.agg #[.int .i64 0, .int .i64 0, .int .i64 0, .int .i64 0, .int .i64 0, .int .i64 0, .slice none 0 0, .int .i64 0, .bool false, .slice none 0 0, .slice none 0 0], .int .i64 0], []⟩ 8 (by kernel_rfl) (by kernel_rfl) (by kernel_rfl) (by kernel_rfl)) ?_
  intro W base args ds gs before hval0 hW hcnd _
  have hval : ∀ (j : Nat) t v, Tryz.f3.params[j]? = some t → args[j]? = some v → Value.okWide Tryz.prog W .any base t v := hval0
  have hW' := hW
  obtain ⟨p, q, hA0, -⟩ := hW
  have hA : DataW.TrodAll enc Tryz.prog W 0 (fun _ => true) true Tryz.f3.params.toList args.toList ds p := hA0
  rw [Tryz.params3] at hA hval
  obtain ⟨v0, vs0, d0, ds0, p0, q0, hargs, rfl, rfl, h0, r0⟩ := trodAll_cons hA
  obtain ⟨v1, vs1, d1, ds1, p1, q1, rfl, rfl, rfl, h1, r1⟩ := trodAll_cons r0
  obtain ⟨rfl, rfl, rfl⟩ := trodAll_nil r1
  obtain rfl : args = #[v0, v1] := by cases args; simp_all
  clear hA0 hval0
  have hv0 := hval 0 _ v0 rfl rfl
  have hv1 := hval 1 _ v1 rfl rfl
  obtain ⟨s, rfl, hs0⟩ := open_lt Tryz.underlying28 (by kernel_rfl) (by kernel_rfl) (by kernel_rfl) Tryz.underlying2 Tryz.underlying2 Tryz.underlying2 Tryz.underlying2 Tryz.underlying2 Tryz.underlying2 Tryz.underlying2 Tryz.underlying4 rfl rfl (opens_ens Tryz.underlying22 Tryz.underlying67 (by kernel_rfl) (by kernel_rfl) (by kernel_rfl) Tryz.underlying2 ⟨Tryz.underlying65, (by kernel_rfl), (by kernel_rfl), (by kernel_rfl), Tryz.underlying2, Tryz.underlying2, ⟨Tryz.underlying63, (by kernel_rfl), (by kernel_rfl), (by kernel_rfl), Tryz.underlying2, Tryz.underlying9, Tryz.underlying61, Tryz.underlying9, Tryz.underlying2, (by kernel_rfl), (by kernel_rfl), Tryz.underlying2, Tryz.underlying2, Tryz.underlying2⟩⟩) (opens_bk Tryz.underlying26 (by kernel_rfl) (by kernel_rfl) (by kernel_rfl) rfl rfl ⟨Tryz.underlying23, Tryz.underlying98, (by kernel_rfl), (by kernel_rfl), (by kernel_rfl), Tryz.underlying9, Tryz.underlying2, rfl, Tryz.underlying96, Tryz.underlying139, (by kernel_rfl), (by kernel_rfl), (by kernel_rfl), Tryz.underlying61, Tryz.underlying9, Tryz.underlying4, (by kernel_rfl), (by kernel_rfl), Tryz.underlying2, Tryz.underlying2, Tryz.underlying2⟩ ⟨Tryz.underlying24, Tryz.underlying102, (by kernel_rfl), (by kernel_rfl), (by kernel_rfl), Tryz.underlying2, Tryz.underlying2, Tryz.underlying100, (by kernel_rfl), (by kernel_rfl), Tryz.underlying2, Tryz.underlying9⟩) hv0 h0
  obtain ⟨n, rfl, -⟩ := open_int Tryz.underlying2 hv1 h1
  exact (walk s n W hs0).mono fun r W' ⟨he, hb⟩ => ⟨_, he, law_post rfl rfl Tryz.underlying4 (by kernel_rfl) (n := 2)
    (fun ds' hd => by rcases ds' with _ | ⟨x0, _ | ⟨x1, _ | ⟨y, z⟩⟩⟩ <;> simp at hd <;> exact ⟨rfl, rfl, rfl⟩) rfl hW' hb⟩

theorem over : Rows.fnExactLetterOkRow.holds Tryz.pinned (OpenSpec.ofChange Rows.fnExactLetterOkSpec) :=
  OpenClaim.holds_of_wide 3 Tryz.f3 rfl rfl rfl rfl rfl rfl rfl ⟨rfl, rfl, rfl, rfl, rfl⟩ rfl rfl rfl rfl rfl (by kernel_rfl) Tryz.func3 (by kernel_rfl)
    (of_decide_eq_true (by kernel_rfl)) (by unfold Func.isWrapper; first | (rw [if_pos (by decide +kernel)]; kernel_rfl) | (rw [if_neg (by decide +kernel)]; exact ⟨rfl, rfl⟩))
    (fun os started H enc _ => lifted os started H enc)

theorem proved : Rows.FnExactLetterOkSaid :=
  over
#print axioms proved
end Go.Proofs.YtdoeiphnalbinaaGreat.fnExactLetterOk
