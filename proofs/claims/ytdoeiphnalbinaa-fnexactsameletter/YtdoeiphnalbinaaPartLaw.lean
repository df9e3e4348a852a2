/- Proved: the law FnExactSameLetter returns true at all arguments, and they read afterwards as before; no condition. -/
import Derived.Test.YtdoeiphnalbinaaPart12
import Derived.Test.YtdoeiphnalbinaaPart14
import Derived.Test.YtdoeiphnalbinaaPart15
import Derived.Test.YtdoeiphnalbinaaPart17
import Derived.Lib.SmallJoins
namespace Go.Proofs.Ytdoeiphnalbinaa.fnExactSameLetter
open Go.ChangeShapes Go.WideShapes Go.ChangeAt Go.RowKit Go.Joins Go.Deep
open Go.ChangeMaps (open_string shut_string)
set_option linter.unusedVariables false

set_option maxRecDepth 100000 in
set_option maxHeartbeats 16000000 in
theorem walk (s t : LLt) (w : World) (hs : LtRd maxLen w s) (ht : LtRd maxLen w t) :
    Calls Try.prog 4 #[ltV s, ltV t] w fun e w' => e = .returned (.bool true) ∧ Below w.heap.size w w' := by
  have b0 := ((Below.refl w.heap.size w).alloc (Nat.le_refl _) (.cells (ltA s) 28)).alloc (by simp) (.cells (ltA t) 28)
  have h0 := (holds_new w (ltA s) 28).alloc (.cells (ltA t) 28)
  have h1 := holds_new (w.alloc (.cells (ltA s) 28)) (ltA t) 28
  rw [World.size_alloc] at h1
  by_cases hbig : (1048576 : Int) < s.sz
  · have HSZ := Lib.hid (ltsz_left hbig)
    have HS := Lib.hid hs
    clear hs ht hbig
    go_enter Try.func4, Try.ntmps4
    obtain ⟨k0, k1, k2, k3, k4, k5, k6, k7, k8, k9, k10⟩ := h0.at11
    obtain ⟨p0, p1, p2, p3, p4, p5, p6, p7, p8, p9, p10⟩ := h1.at11
    have zl := h0.1
    have zp := h1.1
    go_wp2_with fail
    have hcall := szLetter_any s 1048576 _ (by omega) (by omega) (HS.out.below b0)
    rw [HSZ.out] at hcall
    refine hcall.mono ?_
    clear hcall
    rintro e w1 ⟨rfl, b1⟩
    go_wp2
    go_ret
    exact ⟨rfl, next b0 b1⟩
  · have HSZ := Lib.hid (ltsz_fits hbig)
    have HR := Lib.hid (hs.of_sz (n := 1048576) (by omega))
    obtain ⟨left, hleft⟩ : ∃ x : Int, (1048576 : Int) - s.sz = x := ⟨_, rfl⟩
    have hge0 : 0 ≤ left := by omega
    have hle0 : left ≤ 1048576 := by omega
    rw [hleft] at HSZ
    have HS := Lib.hid hs
    have HT := Lib.hid ht
    by_cases hbig2 : left < t.sz
    · have HTZ := Lib.hid (ltsz_left hbig2)
      clear hs ht hbig hbig2 hleft
      go_enter Try.func4, Try.ntmps4
      obtain ⟨k0, k1, k2, k3, k4, k5, k6, k7, k8, k9, k10⟩ := h0.at11
      obtain ⟨p0, p1, p2, p3, p4, p5, p6, p7, p8, p9, p10⟩ := h1.at11
      have zl := h0.1
      have zp := h1.1
      go_wp2_with fail
      have hcall := szLetter_any s 1048576 _ (by omega) (by omega) (HS.out.below b0)
      rw [HSZ.out] at hcall
      refine hcall.mono ?_
      clear hcall
      rintro e w1 ⟨rfl, b1⟩
      clear k0 k1 k2 k3 k4 k5 k6 k7 k8 k9 k10 p0 p1 p2 p3 p4 p5 p6 p7 p8 p9 p10 zl zp
      replace h0 := h0.below b1
      replace h1 := h1.below b1
      replace b0 := next b0 b1
      clear b1
      obtain ⟨k0, k1, k2, k3, k4, k5, k6, k7, k8, k9, k10⟩ := h0.at11
      obtain ⟨p0, p1, p2, p3, p4, p5, p6, p7, p8, p9, p10⟩ := h1.at11
      have zl := h0.1
      have zp := h1.1
      go_wp2_with fail
      have hcall := szLetter_any t left _ (by omega) (by omega) (HT.out.below b0)
      rw [HTZ.out] at hcall
      refine hcall.mono ?_
      clear hcall
      rintro e w2 ⟨rfl, b1⟩
      go_wp2
      go_ret
      exact ⟨rfl, next b0 b1⟩
    · have HTZ := Lib.hid (ltsz_fits hbig2)
      have HU := Lib.hid (ht.of_sz (n := 1048576) (by omega))
      have hge1 : 0 ≤ left - t.sz := by omega
      obtain ⟨Q, hQ⟩ : ∃ Q, decide (s.d = t.d) = Q := ⟨_, rfl⟩
      have HQ := Lib.hid hQ
      have hne : (Q != Q) = false := by simp
      clear hs ht hbig hbig2 hleft hQ
      go_enter Try.func4, Try.ntmps4
      obtain ⟨k0, k1, k2, k3, k4, k5, k6, k7, k8, k9, k10⟩ := h0.at11
      obtain ⟨p0, p1, p2, p3, p4, p5, p6, p7, p8, p9, p10⟩ := h1.at11
      have zl := h0.1
      have zp := h1.1
      go_wp2_with fail
      have hcall := szLetter_any s 1048576 _ (by omega) (by omega) (HS.out.below b0)
      rw [HSZ.out] at hcall
      refine hcall.mono ?_
      clear hcall
      rintro e w1 ⟨rfl, b1⟩
      clear k0 k1 k2 k3 k4 k5 k6 k7 k8 k9 k10 p0 p1 p2 p3 p4 p5 p6 p7 p8 p9 p10 zl zp
      replace h0 := h0.below b1
      replace h1 := h1.below b1
      replace b0 := next b0 b1
      clear b1
      obtain ⟨k0, k1, k2, k3, k4, k5, k6, k7, k8, k9, k10⟩ := h0.at11
      obtain ⟨p0, p1, p2, p3, p4, p5, p6, p7, p8, p9, p10⟩ := h1.at11
      have zl := h0.1
      have zp := h1.1
      go_wp2_with fail
      have hcall := szLetter_any t left _ (by omega) (by omega) (HT.out.below b0)
      rw [HTZ.out] at hcall
      refine hcall.mono ?_
      clear hcall
      rintro e w2 ⟨rfl, b1⟩
      clear k0 k1 k2 k3 k4 k5 k6 k7 k8 k9 k10 p0 p1 p2 p3 p4 p5 p6 p7 p8 p9 p10 zl zp HSZ HTZ HS HT
      replace h0 := h0.below b1
      replace h1 := h1.below b1
      replace b0 := next b0 b1
      clear b1
      obtain ⟨k0, k1, k2, k3, k4, k5, k6, k7, k8, k9, k10⟩ := h0.at11
      obtain ⟨p0, p1, p2, p3, p4, p5, p6, p7, p8, p9, p10⟩ := h1.at11
      have zl := h0.1
      have zp := h1.1
      have HR6 := Lib.hid (HR.out.below b0)
      have HU6 := Lib.hid (HU.out.below b0)
      go_wp2_with fail
      refine wp_region_seq (fun w' => Below w2.heap.size w2 w') [(0, true), (2, true), (1, false), (3, false), (4, false), (5, true)] (by kernel_rfl) (by kernel_rfl) (fun _ _ _ _ _ h => h) (by kernel_rfl) (by decide) (Below.refl _ _).drew ?_
      intro hHeld
      repeat (first
        | (refine seq_skip (by simp only [List.getElem?_toArray, List.getElem?_cons_succ, List.getElem?_cons_zero]; first | done | rfl) (by rfl) ?_; (try simp only [Act.put, List.setIfInBounds_toArray, List.set_cons_zero, List.set_cons_succ]))
        | (refine seq_reads (by simp only [List.getElem?_toArray, List.getElem?_cons_succ, List.getElem?_cons_zero]; first | done | rfl) (by rfl) ?_; apply Exists.intro; apply And.intro; (focus (intro w hSw; obtain ⟨hcS, -⟩ := bcell hSw; go_simp; (try with_reducible rfl); done)); (try simp only [Act.put, List.setIfInBounds_toArray, List.set_cons_zero, List.set_cons_succ]))
        | (refine seq_pass (by simp only [List.getElem?_toArray, List.getElem?_cons_succ, List.getElem?_cons_zero]; first | done | rfl) (by rfl) hHeld ?_; clear hHeld; intro hHeld; (try simp only [Act.put, List.setIfInBounds_toArray, List.set_cons_zero, List.set_cons_succ]))
        | ((fail_if_success (have := HI1)); refine seq_call (by simp only [List.getElem?_toArray, List.getElem?_cons_succ, List.getElem?_cons_zero]; first | done | rfl) (by rfl) (fun K hK => ?_); go_simp; go_at_call 7; refine (toLetter_any s _ (HR6.out.below hHeld)).mono ?_; rintro r w1 ⟨s1, rfl, o1, d1, b1⟩; (have HI1 := Lib.hid (o1.in (by rw [d1]; exact HR6.out.small) : LtIn 1048576 w1 s1)); (have HD1 := Lib.hid d1); clear o1 d1; go_simp; refine hK.out _ _ (next hHeld b1) ?_; clear hK hHeld; intro hHeld; (try simp only [Act.put, List.setIfInBounds_toArray, List.set_cons_zero, List.set_cons_succ]))
        | (refine seq_call (by simp only [List.getElem?_toArray, List.getElem?_cons_succ, List.getElem?_cons_zero]; first | done | rfl) (by rfl) (fun K hK => ?_); go_simp; go_at_call 7; refine (toLetter_any t _ (HU6.out.below hHeld)).mono ?_; rintro r w1 ⟨t1, rfl, o2, d2, b1⟩; (have HI2 := Lib.hid (o2.in (by rw [d2]; exact HU6.out.small) : LtIn 1048576 w1 t1)); (have HD2 := Lib.hid d2); (replace HI1 := Lib.hid (HI1.out.below b1)); clear o2 d2; go_simp; refine hK.out _ _ (next hHeld b1) ?_; clear hK hHeld; intro hHeld; (try simp only [Act.put, List.setIfInBounds_toArray, List.set_cons_zero, List.set_cons_succ]))
        | (refine seq_call (by simp only [List.getElem?_toArray, List.getElem?_cons_succ, List.getElem?_cons_zero]; first | done | rfl) (by rfl) (fun K hK => ?_); (have hcall := specSameLetter s1 t1 _ HI1.out HI2.out); (rw [HD1.out, HD2.out, HQ.out] at hcall); (have HCALL := Lib.hid hcall); clear hcall; go_simp; go_at_call 10; refine (HCALL.out).mono ?_; rintro r w1 ⟨rfl, b1⟩; go_simp; refine hK.out _ _ (next hHeld b1) ?_; clear hK hHeld; intro hHeld; (try simp only [Act.put, List.setIfInBounds_toArray, List.set_cons_zero, List.set_cons_succ])))
      refine seq_end ?_
      clear k0 k1 k2 k3 k4 k5 k6 k7 k8 k9 k10 p0 p1 p2 p3 p4 p5 p6 p7 p8 p9 p10 zl zp HI1 HI2 HD1 HD2 HR6 HU6 hge0 hge1
      replace h0 := h0.below hHeld
      replace h1 := h1.below hHeld
      replace b0 := next b0 hHeld
      clear hHeld
      obtain ⟨k0, k1, k2, k3, k4, k5, k6, k7, k8, k9, k10⟩ := h0.at11
      obtain ⟨p0, p1, p2, p3, p4, p5, p6, p7, p8, p9, p10⟩ := h1.at11
      have zl := h0.1
      have zp := h1.1
      go_wp2_with fail
      refine (toLetter_any s _ (HR.out.below b0)).mono ?_
      rintro e y4 ⟨s4, rfl, oX, dX, c2⟩
      have HD4 := Lib.hid dX
      have HIX : Hid (LtIn 1048576 y4 s4) := Lib.hid (oX.in (by rw [dX]; exact HR.out.small))
      replace h0 := h0.below c2
      replace h1 := h1.below c2
      replace b0 := next b0 c2
      clear k0 k1 k2 k3 k4 k5 k6 k7 k8 k9 k10 p0 p1 p2 p3 p4 p5 p6 p7 p8 p9 p10 zl zp c2 dX oX
      have hx := holds_new y4 (ltA s4) 37
      have ba := (Below.refl y4.heap.size y4).alloc (Nat.le_refl _) (.cells (ltA s4) 37)
      replace h0 := h0.below ba
      replace h1 := h1.below ba
      replace b0 := next b0 ba
      go_upto_region 10 with (fail)
      have HV4 := Lib.hid (HIX.out.below ba)
      clear ba HIX
      generalize hv5 : y4.alloc (.cells (ltA s4) 37) = v4 at hx h0 h1 b0 HV4  ⊢
      clear hv5
      obtain ⟨k0, k1, k2, k3, k4, k5, k6, k7, k8, k9, k10⟩ := h0.at11
      obtain ⟨p0, p1, p2, p3, p4, p5, p6, p7, p8, p9, p10⟩ := h1.at11
      have zl := h0.1
      have zp := h1.1
      go_wp2_with fail
      refine (toLetter_any t _ (HU.out.below b0)).mono ?_
      rintro e y5 ⟨s5, rfl, oX, dX, c2⟩
      have HD5 := Lib.hid dX
      have HIX : Hid (LtIn 1048576 y5 s5) := Lib.hid (oX.in (by rw [dX]; exact HU.out.small))
      replace h0 := h0.below c2
      replace h1 := h1.below c2
      replace hx := hx.below c2
      replace b0 := next b0 c2
      replace HV4 := Lib.hid (HV4.out.below c2)
      clear k0 k1 k2 k3 k4 k5 k6 k7 k8 k9 k10 p0 p1 p2 p3 p4 p5 p6 p7 p8 p9 p10 zl zp c2 dX oX
      have hy := holds_new y5 (ltA s5) 37
      have ba := (Below.refl y5.heap.size y5).alloc (Nat.le_refl _) (.cells (ltA s5) 37)
      replace h0 := h0.below ba
      replace h1 := h1.below ba
      replace hx := hx.below ba
      replace b0 := next b0 ba
      replace HV4 := Lib.hid (HV4.out.below ba)
      go_upto_region 11 with (fail)
      have HV5 := Lib.hid (HIX.out.below ba)
      clear ba HIX
      generalize hv5 : y5.alloc (.cells (ltA s5) 37) = v5 at hy h0 h1 b0 HV5 hx HV4 ⊢
      clear hv5
      obtain ⟨q0, q1, q2, q3, q4, q5, q6, q7, q8, q9, q10⟩ := hx.at11
      obtain ⟨r0, r1, r2, r3, r4, r5, r6, r7, r8, r9, r10⟩ := hy.at11
      have hcall := implSameLetter s4 s5 v5 HV4.out HV5.out
      rw [HD4.out, HD5.out, HQ.out] at hcall
      have HCALL := Lib.hid hcall
      clear hcall
      go_wp2_with fail
      refine HCALL.out.mono ?_
      rintro e m1 ⟨rfl, b6⟩
      have HX4 := Lib.hid (HV4.out.below b6).lk
      have HX5 := Lib.hid (HV5.out.below b6).lk
      replace h0 := h0.below b6
      replace h1 := h1.below b6
      replace hx := hx.below b6
      replace hy := hy.below b6
      replace b0 := next b0 b6
      clear b6 HCALL q0 q1 q2 q3 q4 q5 q6 q7 q8 q9 q10 r0 r1 r2 r3 r4 r5 r6 r7 r8 r9 r10 HV4 HV5
      have HR6 := Lib.hid (HR.out.below b0)
      obtain ⟨k0, k1, k2, k3, k4, k5, k6, k7, k8, k9, k10⟩ := h0.at11
      obtain ⟨p0, p1, p2, p3, p4, p5, p6, p7, p8, p9, p10⟩ := h1.at11
      have zl := h0.1
      have zp := h1.1
      obtain ⟨q0, q1, q2, q3, q4, q5, q6, q7, q8, q9, q10⟩ := hx.at11
      have zx := hx.1
      go_wp2_with fail
      refine wp_region_seq (fun w' => Below m1.heap.size m1 w') [(0, true), (1, true), (2, false), (3, false), (4, true)] (by kernel_rfl) (by kernel_rfl) (fun _ _ _ _ _ h => h) (by kernel_rfl) (by decide) (Below.refl _ _).drew ?_
      intro hHeld
      repeat (first
        | (refine seq_skip (by simp only [List.getElem?_toArray, List.getElem?_cons_succ, List.getElem?_cons_zero]; first | done | rfl) (by rfl) ?_; (try simp only [Act.put, List.setIfInBounds_toArray, List.set_cons_zero, List.set_cons_succ]))
        | (refine seq_reads (by simp only [List.getElem?_toArray, List.getElem?_cons_succ, List.getElem?_cons_zero]; first | done | rfl) (by rfl) ?_; apply Exists.intro; apply And.intro; (focus (intro w hSw; obtain ⟨hcS, -⟩ := bcell hSw; go_simp; (try with_reducible rfl); done)); (try simp only [Act.put, List.setIfInBounds_toArray, List.set_cons_zero, List.set_cons_succ]))
        | (refine seq_pass (by simp only [List.getElem?_toArray, List.getElem?_cons_succ, List.getElem?_cons_zero]; first | done | rfl) (by rfl) hHeld ?_; clear hHeld; intro hHeld; (try simp only [Act.put, List.setIfInBounds_toArray, List.set_cons_zero, List.set_cons_succ]))
        | (refine seq_call (by simp only [List.getElem?_toArray, List.getElem?_cons_succ, List.getElem?_cons_zero]; first | done | rfl) (by rfl) (fun K hK => ?_); go_simp; go_at_call 7; refine (toLetter_any s _ (HR6.out.below hHeld)).mono ?_; rintro r w1 ⟨s3, rfl, o3, d3, b1⟩; (have HL3 := Lib.hid (LtIn.lk (o3.in (by rw [d3]; exact HR6.out.small)))); (have HD3 := Lib.hid d3); clear o3 d3; go_simp; refine hK.out _ _ (next hHeld b1) ?_; clear hK hHeld; intro hHeld; (try simp only [Act.put, List.setIfInBounds_toArray, List.set_cons_zero, List.set_cons_succ]))
        | (refine seq_call (by simp only [List.getElem?_toArray, List.getElem?_cons_succ, List.getElem?_cons_zero]; first | done | rfl) (by rfl) (fun K hK => ?_); go_simp; go_at_call 9; refine (eqLetter_same s4 _ _ (HX4.out.below hHeld) HL3.out (HD3.out.trans HD4.out.symm)).mono ?_; rintro r w1 ⟨rfl, b1⟩; go_simp; refine hK.out _ _ (next hHeld b1) ?_; clear hK hHeld; intro hHeld; (try simp only [Act.put, List.setIfInBounds_toArray, List.set_cons_zero, List.set_cons_succ])))
      refine seq_end ?_
      obtain ⟨m2, hB2, rfl⟩ : ∃ m2 : World, Below m1.heap.size m1 m2 ∧ m2 = _ := ⟨_, hHeld, rfl⟩
      clear hB2
      replace HX5 := Lib.hid (HX5.out.below hHeld)
      replace h0 := h0.below hHeld
      replace h1 := h1.below hHeld
      replace hx := hx.below hHeld
      replace hy := hy.below hHeld
      replace b0 := next b0 hHeld
      clear hHeld k0 k1 k2 k3 k4 k5 k6 k7 k8 k9 k10 p0 p1 p2 p3 p4 p5 p6 p7 p8 p9 p10 zl zp q0 q1 q2 q3 q4 q5 q6 q7 q8 q9 q10 zx HR6 HL3 HD3
      have HR6 := Lib.hid (HU.out.below b0)
      obtain ⟨k0, k1, k2, k3, k4, k5, k6, k7, k8, k9, k10⟩ := h0.at11
      obtain ⟨p0, p1, p2, p3, p4, p5, p6, p7, p8, p9, p10⟩ := h1.at11
      have zl := h0.1
      have zp := h1.1
      obtain ⟨q0, q1, q2, q3, q4, q5, q6, q7, q8, q9, q10⟩ := hy.at11
      have zx := hy.1
      go_wp2_with fail
      refine wp_region_seq (fun w' => Below m2.heap.size m2 w') [(0, true), (1, true), (2, false), (3, false), (4, true)] (by kernel_rfl) (by kernel_rfl) (fun _ _ _ _ _ h => h) (by kernel_rfl) (by decide) (Below.refl _ _).drew ?_
      intro hHeld
      repeat (first
        | (refine seq_skip (by simp only [List.getElem?_toArray, List.getElem?_cons_succ, List.getElem?_cons_zero]; first | done | rfl) (by rfl) ?_; (try simp only [Act.put, List.setIfInBounds_toArray, List.set_cons_zero, List.set_cons_succ]))
        | (refine seq_reads (by simp only [List.getElem?_toArray, List.getElem?_cons_succ, List.getElem?_cons_zero]; first | done | rfl) (by rfl) ?_; apply Exists.intro; apply And.intro; (focus (intro w hSw; obtain ⟨hcS, -⟩ := bcell hSw; go_simp; (try with_reducible rfl); done)); (try simp only [Act.put, List.setIfInBounds_toArray, List.set_cons_zero, List.set_cons_succ]))
        | (refine seq_pass (by simp only [List.getElem?_toArray, List.getElem?_cons_succ, List.getElem?_cons_zero]; first | done | rfl) (by rfl) hHeld ?_; clear hHeld; intro hHeld; (try simp only [Act.put, List.setIfInBounds_toArray, List.set_cons_zero, List.set_cons_succ]))
        | (refine seq_call (by simp only [List.getElem?_toArray, List.getElem?_cons_succ, List.getElem?_cons_zero]; first | done | rfl) (by rfl) (fun K hK => ?_); go_simp; go_at_call 7; refine (toLetter_any t _ (HR6.out.below hHeld)).mono ?_; rintro r w1 ⟨s3, rfl, o3, d3, b1⟩; (have HL3 := Lib.hid (LtIn.lk (o3.in (by rw [d3]; exact HR6.out.small)))); (have HD3 := Lib.hid d3); clear o3 d3; go_simp; refine hK.out _ _ (next hHeld b1) ?_; clear hK hHeld; intro hHeld; (try simp only [Act.put, List.setIfInBounds_toArray, List.set_cons_zero, List.set_cons_succ]))
        | (refine seq_call (by simp only [List.getElem?_toArray, List.getElem?_cons_succ, List.getElem?_cons_zero]; first | done | rfl) (by rfl) (fun K hK => ?_); go_simp; go_at_call 9; refine (eqLetter_same s5 _ _ (HX5.out.below hHeld) HL3.out (HD3.out.trans HD5.out.symm)).mono ?_; rintro r w1 ⟨rfl, b1⟩; go_simp; refine hK.out _ _ (next hHeld b1) ?_; clear hK hHeld; intro hHeld; (try simp only [Act.put, List.setIfInBounds_toArray, List.set_cons_zero, List.set_cons_succ])))
      refine seq_end ?_
      replace b0 := next b0 hHeld
      go_wp2
      go_ret
      exact ⟨rfl, b0⟩

set_option maxRecDepth 100000 in
theorem lifted (os : Os) (started : os.Started) (H : Type) (enc : TypeId × Value → H) :
    ReturnsInHanded {} Try.checked os 4 .any (Rows.fnExactSameLetterSpec.pre6 enc Try.prog Try.f4 Rows.fnExactSameLetterRow.domain false) (Rows.fnExactSameLetterSpec.post enc Try.prog Try.f4 false true false false) := by
  refine returnsInHanded_of_change (C := Try.checked) own started (by kernel_rfl) Try.func4
    (ChangeSpec.witness6 (enc := enc) (C := Try.checked) false ⟨#[], #[.agg #[.int .i64 0, .int .i64 0, .int .i64 0, .int .i64 0, .int .i64 0, .int .i64 0, .slice none 0 0, .int .i64 0, .bool false, .slice none 0 0, .slice none 0 0], .agg #[.int .i64 0, .int .i64 0, .int .i64 0, .int .i64 0, .int .i64 0, .int .i64 0, .slice none 0 0, .int .i64 0, .bool false, .slice none 0 0, .slice none 0 0]], []⟩ 8 (by kernel_rfl) (by kernel_rfl) (by kernel_rfl) (by kernel_rfl)) ?_
  intro W base args ds gs before hval0 hW hcnd _
  have hval : ∀ (j : Nat) t v, Try.f4.params[j]? = some t → args[j]? = some v → Value.okWide Try.prog W .any base t v := hval0
  have hW' := hW
  obtain ⟨p, q, hA0, -⟩ := hW
  have hA : DataW.TrodAll enc Try.prog W 0 (fun _ => true) true Try.f4.params.toList args.toList ds p := hA0
  rw [Try.params4] at hA hval
  obtain ⟨v0, vs0, d0, ds0, p0, q0, hargs, rfl, rfl, h0, r0⟩ := trodAll_cons hA
  obtain ⟨v1, vs1, d1, ds1, p1, q1, rfl, rfl, rfl, h1, r1⟩ := trodAll_cons r0
  obtain ⟨rfl, rfl, rfl⟩ := trodAll_nil r1
  obtain rfl : args = #[v0, v1] := by cases args; simp_all
  clear hA0 hval0
  have hv0 := hval 0 _ v0 rfl rfl
  have hv1 := hval 1 _ v1 rfl rfl
  obtain ⟨s, rfl, hs0⟩ := open_lt Try.underlying28 (by kernel_rfl) (by kernel_rfl) (by kernel_rfl) Try.underlying2 Try.underlying2 Try.underlying2 Try.underlying2 Try.underlying2 Try.underlying2 Try.underlying2 Try.underlying4 rfl rfl (opens_ens Try.underlying22 Try.underlying65 (by kernel_rfl) (by kernel_rfl) (by kernel_rfl) Try.underlying2 ⟨Try.underlying63, (by kernel_rfl), (by kernel_rfl), (by kernel_rfl), Try.underlying2, Try.underlying2, ⟨Try.underlying61, (by kernel_rfl), (by kernel_rfl), (by kernel_rfl), Try.underlying2, Try.underlying9, Try.underlying59, Try.underlying9, Try.underlying2, (by kernel_rfl), (by kernel_rfl), Try.underlying2, Try.underlying2, Try.underlying2⟩⟩) (opens_bk Try.underlying26 (by kernel_rfl) (by kernel_rfl) (by kernel_rfl) rfl rfl ⟨Try.underlying23, Try.underlying89, (by kernel_rfl), (by kernel_rfl), (by kernel_rfl), Try.underlying9, Try.underlying2, rfl, Try.underlying87, Try.underlying110, (by kernel_rfl), (by kernel_rfl), (by kernel_rfl), Try.underlying59, Try.underlying9, Try.underlying4, (by kernel_rfl), (by kernel_rfl), Try.underlying2, Try.underlying2, Try.underlying2⟩ ⟨Try.underlying24, Try.underlying93, (by kernel_rfl), (by kernel_rfl), (by kernel_rfl), Try.underlying2, Try.underlying2, Try.underlying91, (by kernel_rfl), (by kernel_rfl), Try.underlying2, Try.underlying9⟩) hv0 h0
  obtain ⟨t, rfl, hs1⟩ := open_lt Try.underlying28 (by kernel_rfl) (by kernel_rfl) (by kernel_rfl) Try.underlying2 Try.underlying2 Try.underlying2 Try.underlying2 Try.underlying2 Try.underlying2 Try.underlying2 Try.underlying4 rfl rfl (opens_ens Try.underlying22 Try.underlying65 (by kernel_rfl) (by kernel_rfl) (by kernel_rfl) Try.underlying2 ⟨Try.underlying63, (by kernel_rfl), (by kernel_rfl), (by kernel_rfl), Try.underlying2, Try.underlying2, ⟨Try.underlying61, (by kernel_rfl), (by kernel_rfl), (by kernel_rfl), Try.underlying2, Try.underlying9, Try.underlying59, Try.underlying9, Try.underlying2, (by kernel_rfl), (by kernel_rfl), Try.underlying2, Try.underlying2, Try.underlying2⟩⟩) (opens_bk Try.underlying26 (by kernel_rfl) (by kernel_rfl) (by kernel_rfl) rfl rfl ⟨Try.underlying23, Try.underlying89, (by kernel_rfl), (by kernel_rfl), (by kernel_rfl), Try.underlying9, Try.underlying2, rfl, Try.underlying87, Try.underlying110, (by kernel_rfl), (by kernel_rfl), (by kernel_rfl), Try.underlying59, Try.underlying9, Try.underlying4, (by kernel_rfl), (by kernel_rfl), Try.underlying2, Try.underlying2, Try.underlying2⟩ ⟨Try.underlying24, Try.underlying93, (by kernel_rfl), (by kernel_rfl), (by kernel_rfl), Try.underlying2, Try.underlying2, Try.underlying91, (by kernel_rfl), (by kernel_rfl), Try.underlying2, Try.underlying9⟩) hv1 h1
  exact (walk s t W hs0 hs1).mono fun r W' ⟨he, hb⟩ => ⟨_, he, law_post rfl rfl Try.underlying4 (by kernel_rfl) (n := 2)
    (fun ds' hd => by rcases ds' with _ | ⟨x0, _ | ⟨x1, _ | ⟨y, z⟩⟩⟩ <;> simp at hd <;> exact ⟨rfl, rfl, rfl⟩) rfl hW' hb⟩

theorem over : Rows.fnExactSameLetterRow.holds Try.pinned (OpenSpec.ofChange Rows.fnExactSameLetterSpec) :=
  OpenClaim.holds_of_wide 4 Try.f4 rfl rfl rfl rfl rfl rfl rfl ⟨rfl, rfl, rfl, rfl, rfl⟩ rfl rfl rfl rfl rfl (by kernel_rfl) Try.func4 (by kernel_rfl)
    (of_decide_eq_true (by kernel_rfl)) (by unfold Func.isWrapper; first | (rw [if_pos (by decide +kernel)]; kernel_rfl) | (rw [if_neg (by decide +kernel)]; exact ⟨rfl, rfl⟩))
    (fun os started H enc _ => lifted os started H enc)

theorem proved : Rows.FnExactSameLetterSaid :=
  over
#print axioms proved
end Go.Proofs.Ytdoeiphnalbinaa.fnExactSameLetter
