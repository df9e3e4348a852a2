/- Proved: the law FnExactDoes returns true at all arguments, and they read afterwards as before; no condition. -/
import Derived.Test.YteomdakohlikeaaGreatPart44
import Derived.Test.YteomdakohlikeaaGreatPart45
import Derived.Test.YteomdakohlikeaaGreatPart47
import Derived.Lib.SmallJoins
namespace Go.Proofs.YteomdakohlikeaaGreat.fnExactDoes
open Go.ChangeShapes Go.WideShapes Go.ChangeAt Go.RowKit Go.Joins Go.Deep
open Go.ChangeMaps (open_string shut_string)
set_option linter.unusedVariables false

set_option maxRecDepth 100000 in
set_option maxHeartbeats 16000000 in
theorem walk (A : Option Addr) (l : List Wr) (cap : Nat) (d : M.Dd) (hlen : l.length ≤ maxLen) (hp : WrsIn maxLen l) (hn : d.name.size ≤ maxLen) (hpg : d.page.size ≤ maxLen) (w : World) (hl : Wks w A l) :
    Calls Tryz.prog 4 #[.slice A l.length cap, ddV d] w fun e w' => e = .returned (.bool true) ∧ Below w.heap.size w w' := by
  have b0 := (Below.refl w.heap.size w).alloc (Nat.le_refl _) (.cells (ddC d) 55)
  have h0 := holds_new w (ddC d) 55
  by_cases hbig : 1048576 < l.length + szWrs l
  · go_enter Tryz.func4, Tryz.ntmps4
    go_wp2_with fail
    refine (szWorkS_big A l cap 1048576 _ (by omega) (by omega) (hl.alloc _) hlen hp (by omega)).mono ?_
    rintro r w1 ⟨rfl, b1⟩
    go_wp2
    go_ret
    exact ⟨rfl, next b0 b1⟩
  · have hl20 : l.length ≤ 1048576 := by omega
    have HP : Hid (WrsIn 1048576 l) := Lib.hid (WrsIn.of_sz (by omega))
    have hge0 : 0 ≤ (1048576 : Int) - l.length - szWrs l := by omega
    have hle0 : (1048576 : Int) - l.length - szWrs l ≤ 1048576 := by omega
    have HSZ : Hid (mlen l ≤ 8000000) := Lib.hid (by have := mlen_le l; omega)
    clear hp
    obtain ⟨N, hN⟩ : ∃ N : Int, (1048576 : Int) - l.length - szWrs l = N := ⟨_, rfl⟩
    rw [hN] at hge0 hle0
    have HN := Lib.hid hN
    clear hN
    by_cases hb2 : N < (d.name.size + d.page.size : Int)
    · go_enter Tryz.func4, Tryz.ntmps4
      go_wp2_with fail
      refine (szWorkS_small A l cap 1048576 _ (by omega) (hl.alloc _) (by omega)).mono ?_
      rintro r w1 ⟨rfl, b1⟩
      rw [HN.out]
      replace h0 := h0.below b1
      replace b0 := next b0 b1
      obtain ⟨p0, p1, p2, p3, p4, p5, p6⟩ := h0.seven
      clear b1
      go_wp2_with fail
      refine (szDeed_bigN d N _ hge0 hle0 hn hpg hb2).mono ?_
      rintro r w2 ⟨rfl, b2⟩
      replace b0 := next b0 b2
      clear p0 p1 p2 p3 p4 p5 p6
      go_wp2
      go_ret
      exact ⟨rfl, b0⟩
    have hdn : d.name.size ≤ 1048576 := by omega
    have hdp : d.page.size ≤ 1048576 := by omega
    have hb3 : (d.name.size + d.page.size : Int) ≤ N := by omega
    clear hb2
    go_enter Tryz.func4, Tryz.ntmps4
    go_wp2_with fail
    refine (szWorkS_small A l cap 1048576 _ (by omega) (hl.alloc _) (by omega)).mono ?_
    rintro r w1 ⟨rfl, b1⟩
    rw [HN.out]
    replace h0 := h0.below b1
    replace b0 := next b0 b1
    obtain ⟨p0, p1, p2, p3, p4, p5, p6⟩ := h0.seven
    have z0 := h0.1
    clear b1
    go_wp2_with fail
    refine (szDeed_smallN d N _ hle0 hb3).mono ?_
    rintro r w2 ⟨⟨m, rfl⟩, b2⟩
    replace h0 := h0.below b2
    replace b0 := next b0 b2
    clear p0 p1 p2 p3 p4 p5 p6 z0 b2 hbig hb3 hge0 hle0 HN
    have hl1 := hl.below b0
    obtain ⟨p0, p1, p2, p3, p4, p5, p6⟩ := h0.seven
    have z0 := h0.1
    go_upto_region 8 with (fail)
    go_cut [6, 7] (fun s6 s7 wx => DoBox w2 (M.does (l.map Wr.wk) d) s6 s7 wx)
    case first =>
      refine wp_region_tq (fun w' => Below w2.heap.size w2 w') (.read 0 (.read 2 (.two 1 8 (.two 3 8 (.two 4 8 (.read 5 (.read 6 (.read 7 (.one 8 (.read 9 (.one 10 .done)))))) (.one 4 (.read 5 (.read 6 (.read 7 (.read 9 (.one 10 .done))))))) (.one 3 (.one 4 (.read 5 (.read 6 (.read 7 (.read 9 (.one 10 .done)))))))) (.one 1 (.one 3 (.one 4 (.read 5 (.read 6 (.read 7 (.read 9 (.one 10 .done))))))))))) (by kernel_rfl) (by kernel_rfl) (fun _ _ _ _ _ h => h) (by kernel_rfl) (by decide) (Below.refl _ _).drew ?_
      intro hHeld
      generalize w2.drew = wd at hHeld ⊢
      repeat (first
        | (refine tq_reads (by simp only [List.getElem?_toArray, List.getElem?_cons_succ, List.getElem?_cons_zero]; first | done | rfl) (by rfl) ?_; apply Exists.intro; apply And.intro; (focus (intro w hSw; obtain ⟨hcS, -⟩ := bcell hSw; go_simp; (try with_reducible rfl); done)); (try simp only [Act.put, List.setIfInBounds_toArray, List.set_cons_zero, List.set_cons_succ]))
        | (refine tq_two ?_ ?_)
        | (refine tq_three ?_ ?_ ?_)
        | (refine tq_one (by simp only [List.getElem?_toArray, List.getElem?_cons_succ, List.getElem?_cons_zero]; first | done | rfl) (by rfl) (fun K hK => ?_); go_simp; go_at_call 17; refine (toWorkS_any A l cap _ (hl1.below hHeld) hl20 HP.out).mono ?_; rintro r w1 ⟨rs, hrs, hrl, hra, rfl, o2, b1⟩; go_simp; refine hK.out _ _ _ (fun _ h => h) (next hHeld b1) ?_; clear hK hHeld; intro hHeld; (try (replace fx := fx.below hx.1 b1; replace hx := hx.below b1)); have hgw := o2.wks.1; clear o2; (try simp only [Act.put, List.setIfInBounds_toArray, List.set_cons_zero, List.set_cons_succ]))
        | (refine tq_one (by simp only [List.getElem?_toArray, List.getElem?_cons_succ, List.getElem?_cons_zero]; first | done | rfl) (by rfl) (fun K hK => ?_); go_simp; go_at_call 18; refine (toDeed_any d _).mono ?_; rintro r w1 ⟨rfl, b1⟩; go_simp; refine hK.out _ _ _ (fun _ h => h) (next hHeld b1) ?_; clear hK hHeld; intro hHeld; (try (replace fx := fx.below hx.1 b1; replace hx := hx.below b1)); replace hgw := hgw.below b1; (try simp only [Act.put, List.setIfInBounds_toArray, List.set_cons_zero, List.set_cons_succ]))
        | (refine tq_one (by simp only [List.getElem?_toArray, List.getElem?_cons_succ, List.getElem?_cons_zero]; first | done | rfl) (by rfl) (fun K hK => ?_); go_simp; go_at_call 16; refine (specDoes_at _ l rs _ _ d _ hrs hrl hgw hra hl20 HP.out hdn hdp).mono ?_; rintro r w1 ⟨v', l', rfl, ho, hmp, b1⟩; (try have hne := ho.ne_low hx.1); replace ho := ho.mono hHeld.size; go_simp; refine hK.out _ _ _ (fun _ h => h) (next hHeld b1) ?_; clear hK hHeld; intro hHeld; (try (replace fx := fx.below hx.1 b1; replace hx := hx.below b1)); (try simp only [Act.put, List.setIfInBounds_toArray, List.set_cons_zero, List.set_cons_succ]))
        | (refine tq_one (by simp only [List.getElem?_toArray, List.getElem?_cons_succ, List.getElem?_cons_zero]; first | done | rfl) (by rfl) (fun K hK => ?_); go_simp; refine hK.out _ _ _ (fun _ h => h) (hHeld.alloc hHeld.size _) ?_; clear hK; intro hS; refine tq_alloc ?_ hS; clear hS; intro wA bA hx fx hS; have hge := hHeld.size; clear hHeld; have hHeld := hS; (try replace hgw := hgw.below bA); (try (have hne := ho.ne_new; replace ho := ho.below bA)); clear hS bA; (try simp only [Act.put, List.setIfInBounds_toArray, List.set_cons_zero, List.set_cons_succ]))
        | (refine tq_one (by simp only [List.getElem?_toArray, List.getElem?_cons_succ, List.getElem?_cons_zero]; first | done | rfl) (by rfl) (fun K hK => ?_); obtain ⟨x0, x1⟩ := hx.at2; obtain ⟨y0, y1⟩ := fx.fz2; go_simp; refine hK.out _ _ _ (fun _ h => h) (far_2 hHeld hge _ _ ) ?_; clear hK hHeld; intro hHeld; (try simp only [Act.put, List.setIfInBounds_toArray, List.set_cons_zero, List.set_cons_succ]))
        | (refine tq_end ?_; go_wp2; go_meet; exact ⟨_, _, _, rfl, rfl, hge, hHeld, hx.wr2 _ _, ho.off2 hne _ _, hmp, hne⟩))
    case rest =>
    obtain ⟨v8, l8, G8, rfl, rfl, hG8, b3, x8, o8, m8, n8⟩ := hcut
    have S8 := Lib.hid (does_small m8)
    replace h0 := h0.below b3
    replace b0 := next b0 b3
    clear p0 p1 p2 p3 p4 p5 p6 z0 b3 hl1
    have hl1 := hl.below b0
    obtain ⟨A8, c8, rfl, -, -⟩ := o8.open
    have HB8 := Lib.hid (fun g (hg : blocksS (.slice A8 l8.length c8) l8 g) => (o8.ge hg).2)
    have HG8 := Lib.hid x8.1
    have HWX := Lib.hid b0.size
    have H0L := Lib.hid h0.1
    go_wp2_with fail
    refine (toWorkS_any A l cap _ hl1 hl20 HP.out).mono ?_
    rintro r w4 ⟨ms, hms, hml, -, rfl, o4, b4⟩
    have HB4 := Lib.hid (fun g (hg : blocksS (.slice (some ⟨wc.heap.size, 0, none⟩) l.length l.length) ms g) => o4.ge hg)
    have HML := Lib.hid hml
    have HMS := Lib.hid hms
    have HMM := Lib.hid (mlen_map hms)
    have HO4 := Lib.hid o4
    have HW4 := Lib.hid b4.size
    replace h0 := h0.below b4
    replace x8 := x8.below b4
    replace o8 := o8.below b4
    replace b0 := next b0 b4
    clear o4 b4 hms hl1
    obtain ⟨p0, p1, p2, p3, p4, p5, p6⟩ := h0.seven
    have z0 := h0.1
    go_wp2_with fail
    refine (toDeed_any d _).mono ?_
    rintro r w5 ⟨rfl, b5⟩
    replace HO4 := Lib.hid (HO4.out.below b5)
    have HW5 := Lib.hid (Nat.le_trans HW4.out b5.size)
    have HW45 := Lib.hid b5.size
    replace h0 := h0.below b5
    replace x8 := x8.below b5
    replace o8 := o8.below b5
    replace b0 := next b0 b5
    clear p0 p1 p2 p3 p4 p5 p6 z0 b5
    go_wp2_with fail
    refine (implDoes_at _ l ms _ _ d _ HMS.out HML.out HO4.out.wks.1 hl20 HP.out hdn hdp).mono ?_
    rintro r w6 ⟨v9, l9, rfl, o9, m9, b6⟩
    obtain ⟨A9, c9, rfl, -, -⟩ := o9.open
    have S9 := Lib.hid (does_small m9)
    have HB9 := Lib.hid (fun g (hg : blocksS (.slice A9 l9.length c9) l9 g) => o9.ge hg)
    have HW6 := Lib.hid b6.size
    have h9 := holds_new w6 (rpA (M.does (l.map Wr.wk) d).2.1 (M.does (l.map Wr.wk) d).2.2) 33
    have ba := (Below.refl w6.heap.size w6).alloc (Nat.le_refl _) (.cells (rpA (M.does (l.map Wr.wk) d).2.1 (M.does (l.map Wr.wk) d).2.2) 33)
    replace HO4 := Lib.hid ((HO4.out.below b6).below ba)
    replace o9 := o9.below ba
    replace h0 := h0.below b6
    replace x8 := x8.below b6
    replace o8 := o8.below b6
    replace b0 := next b0 b6
    replace h0 := h0.below ba
    replace x8 := x8.below ba
    replace o8 := o8.below ba
    replace b0 := next b0 ba
    clear b6 ba
    have M98 := Lib.hid (m9.trans m8.symm)
    clear m9
    go_wp2_with fail
    generalize hwb : w6.alloc (.cells (rpA (M.does (l.map Wr.wk) d).2.1 (M.does (l.map Wr.wk) d).2.2) 33) = wb at h0 x8 o8 h9 o9 b0 HO4 ⊢
    clear hwb
    refine (eqWorkS_same A9 A8 l9 l8 c9 c8 _ o9.wks.1 o8.wks.1 M98.out (by have := S9.out.1; unfold maxLen; omega) (S9.out.2.mono (by unfold maxLen; omega))).mono ?_
    rintro r w7 ⟨rfl, b7⟩
    replace HO4 := Lib.hid (HO4.out.below b7)
    replace h0 := h0.below b7
    replace x8 := x8.below b7
    replace o8 := o8.below b7
    replace h9 := h9.below b7
    replace o9 := o9.below b7
    replace b0 := next b0 b7
    obtain ⟨u0, u1⟩ := x8.two
    obtain ⟨v0, v1⟩ := h9.two
    have z8 := x8.1
    have z9 := h9.1
    clear b7
    go_wp2_with fail
    refine (eqReply_same (M.does (l.map Wr.wk) d).2.1 (M.does (l.map Wr.wk) d).2.2 _).mono ?_
    rintro r w8 ⟨rfl, b8⟩
    replace HO4 := Lib.hid (HO4.out.below b8)
    replace h0 := h0.below b8
    replace x8 := x8.below b8
    replace o8 := o8.below b8
    replace h9 := h9.below b8
    replace o9 := o9.below b8
    replace b0 := next b0 b8
    clear u0 u1 v0 v1 z8 z9 b8
    have hl1 := hl.below b0
    go_wp2_with fail
    refine (toWorkS_any A l cap _ hl1 hl20 HP.out).mono ?_
    rintro r w9 ⟨ns, hns, hnl, -, rfl, o7, b9⟩
    replace HO4 := Lib.hid (HO4.out.below b9)
    replace h0 := h0.below b9
    replace x8 := x8.below b9
    replace o8 := o8.below b9
    replace h9 := h9.below b9
    replace o9 := o9.below b9
    replace b0 := next b0 b9
    clear b9 hl1
    go_wp2_with fail
    have hcall := eqWorkS_same _ _ ms ns l.length l.length _ HO4.out.wks.1 o7.wks.1 (HMS.out.trans hns.symm) (by rw [HML.out]; unfold maxLen; omega) ((wrs_same HMS.out HP.out).mono (by unfold maxLen; omega))
    rw [hml, hnl] at hcall
    refine hcall.mono ?_
    clear hcall o7 hns hnl
    rintro r wa ⟨rfl, b10⟩
    replace HO4 := Lib.hid (HO4.out.below b10)
    replace h0 := h0.below b10
    replace x8 := x8.below b10
    replace o8 := o8.below b10
    replace h9 := h9.below b10
    replace o9 := o9.below b10
    replace b0 := next b0 b10
    clear b10
    have hm0 : SfOwn wc.heap.size wa (.slice (some ⟨wc.heap.size, 0, none⟩) ms.length l.length) ms := by rw [hml]; exact HO4.out
    have HM0 := Lib.hid hm0
    clear hm0
    go_wp2_with fail
    have hcall := markWorkS_any (some ⟨wc.heap.size, 0, none⟩) ms l.length 1 wc.heap.size _ HM0.out (by omega) (by omega) (by have := HSZ.out; have := HMM.out; omega)
    rw [hml, HMM.out] at hcall
    refine hcall.mono ?_
    clear hcall
    rintro r wcc ⟨rfl, -, ht⟩
    have hbl := HB4.out
    replace b0 := b0.trans (ht.low w.heap.size b0.size (fun g hg => Nat.le_trans HWX.out (hbl g hg).1))
    replace h0 := ht.holds h0 (fun hg => by have := (hbl _ hg).1; have := HWX.out; have := H0L.out; omega)
    replace x8 := ht.holds x8 (fun hg => by have := (hbl _ hg).1; have := HG8.out; omega)
    replace h9 := ht.holds h9 (fun hg => by have := (hbl _ hg).2; have := HW5.out; have := HW6.out; have := HW45.out; omega)
    replace o8 := ht.sf o8 (fun g hg hg' => by have := (hbl _ hg').1; have := HB8.out g hg; omega)
    replace o9 := ht.sf o9 (fun g hg hg' => by have := (hbl _ hg').2; have := (HB9.out g hg).1; have := HW45.out; omega)
    clear ht hbl HO4 HM0
    obtain ⟨kk, hkk⟩ : ∃ kk, 1 + mlen l = kk := ⟨_, rfl⟩
    rw [hkk]
    have hneg : ¬ ((kk : Int) < 0) := by omega
    clear hkk
    go_wp2_with fail
    refine (eqWorkS_same A9 A8 l9 l8 c9 c8 _ o9.wks.1 o8.wks.1 M98.out (by have := S9.out.1; unfold maxLen; omega) (S9.out.2.mono (by unfold maxLen; omega))).mono ?_
    rintro r wd ⟨rfl, b7⟩
    replace h0 := h0.below b7
    replace x8 := x8.below b7
    replace o8 := o8.below b7
    replace h9 := h9.below b7
    replace o9 := o9.below b7
    replace b0 := next b0 b7
    obtain ⟨u0, u1⟩ := x8.two
    obtain ⟨v0, v1⟩ := h9.two
    have z8 := x8.1
    have z9 := h9.1
    clear b7 hneg
    go_wp2_with fail
    refine (eqReply_same (M.does (l.map Wr.wk) d).2.1 (M.does (l.map Wr.wk) d).2.2 _).mono ?_
    rintro r we ⟨rfl, b8⟩
    replace h0 := h0.below b8
    replace x8 := x8.below b8
    replace o8 := o8.below b8
    replace h9 := h9.below b8
    replace o9 := o9.below b8
    replace b0 := next b0 b8
    clear u0 u1 v0 v1 z8 z9 b8
    go_wp2_with fail
    refine (markWorkS_any A9 l9 c9 1 _ _ o9 (by have := S9.out.1; omega) (by omega) (by have := mlen_small S9.out; omega)).mono ?_
    rintro r wf ⟨rfl, om, ht⟩
    have hbl := HB9.out
    replace b0 := b0.trans (ht.low w.heap.size b0.size (fun g hg => by have := (hbl g hg).1; have := HWX.out; have := HW5.out; omega))
    replace h0 := ht.holds h0 (fun hg => by have := (hbl _ hg).1; have := HWX.out; have := HW5.out; have := H0L.out; omega)
    replace x8 := ht.holds x8 (fun hg => by have := (hbl _ hg).1; have := HG8.out; have := HW5.out; omega)
    replace o8 := ht.sf o8 (fun g hg hg' => by have := (hbl _ hg').1; have := HB8.out g hg; have := HW5.out; omega)
    clear ht hbl h9 o9
    obtain ⟨qq, hqq⟩ : ∃ qq, 1 + mlen l9 = qq := ⟨_, rfl⟩
    rw [hqq]
    have HQ := Lib.hid hqq
    have hq1 : ¬ ((qq : Int) < 0) := by omega
    have hq2 : ((qq : Int) != (qq : Int)) = false := by simp
    clear hqq
    go_wp2_with fail
    refine (heldWorkS_any A9 l9 c9 1 _ om.wks.1 (by omega) (by have := mlen_small S9.out; omega) (by have := S9.out.1; omega)).mono ?_
    rintro r wg ⟨rfl, b11⟩
    rw [HQ.out]
    replace h0 := h0.below b11
    replace x8 := x8.below b11
    replace o8 := o8.below b11
    replace om := om.below b11
    replace b0 := next b0 b11
    clear b11
    have hl1 := hl.below b0
    obtain ⟨p0, p1, p2, p3, p4, p5, p6⟩ := h0.seven
    have z0 := h0.1
    go_upto_region 27 with (fail)
    go_cut [14, 15] (fun s14 s15 wx => DoBox wg (M.does (l.map Wr.wk) d) s14 s15 wx)
    case first =>
      refine wp_region_tq (fun w' => Below wg.heap.size wg w') (.read 0 (.read 2 (.two 1 8 (.two 3 8 (.two 4 8 (.read 5 (.read 6 (.read 7 (.one 8 (.read 9 (.one 10 .done)))))) (.one 4 (.read 5 (.read 6 (.read 7 (.read 9 (.one 10 .done))))))) (.one 3 (.one 4 (.read 5 (.read 6 (.read 7 (.read 9 (.one 10 .done)))))))) (.one 1 (.one 3 (.one 4 (.read 5 (.read 6 (.read 7 (.read 9 (.one 10 .done))))))))))) (by kernel_rfl) (by kernel_rfl) (fun _ _ _ _ _ h => h) (by kernel_rfl) (by decide) (Below.refl _ _).drew ?_
      intro hHeld
      generalize wg.drew = wd at hHeld ⊢
      repeat (first
        | (refine tq_reads (by simp only [List.getElem?_toArray, List.getElem?_cons_succ, List.getElem?_cons_zero]; first | done | rfl) (by rfl) ?_; apply Exists.intro; apply And.intro; (focus (intro w hSw; obtain ⟨hcS, -⟩ := bcell hSw; go_simp; (try with_reducible rfl); done)); (try simp only [Act.put, List.setIfInBounds_toArray, List.set_cons_zero, List.set_cons_succ]))
        | (refine tq_two ?_ ?_)
        | (refine tq_three ?_ ?_ ?_)
        | (refine tq_one (by simp only [List.getElem?_toArray, List.getElem?_cons_succ, List.getElem?_cons_zero]; first | done | rfl) (by rfl) (fun K hK => ?_); go_simp; go_at_call 17; refine (toWorkS_any A l cap _ (hl1.below hHeld) hl20 HP.out).mono ?_; rintro r w1 ⟨rs, hrs, hrl, hra, rfl, o2, b1⟩; go_simp; refine hK.out _ _ _ (fun _ h => h) (next hHeld b1) ?_; clear hK hHeld; intro hHeld; (try (replace fx := fx.below hx.1 b1; replace hx := hx.below b1)); have hgw := o2.wks.1; clear o2; (try simp only [Act.put, List.setIfInBounds_toArray, List.set_cons_zero, List.set_cons_succ]))
        | (refine tq_one (by simp only [List.getElem?_toArray, List.getElem?_cons_succ, List.getElem?_cons_zero]; first | done | rfl) (by rfl) (fun K hK => ?_); go_simp; go_at_call 18; refine (toDeed_any d _).mono ?_; rintro r w1 ⟨rfl, b1⟩; go_simp; refine hK.out _ _ _ (fun _ h => h) (next hHeld b1) ?_; clear hK hHeld; intro hHeld; (try (replace fx := fx.below hx.1 b1; replace hx := hx.below b1)); replace hgw := hgw.below b1; (try simp only [Act.put, List.setIfInBounds_toArray, List.set_cons_zero, List.set_cons_succ]))
        | (refine tq_one (by simp only [List.getElem?_toArray, List.getElem?_cons_succ, List.getElem?_cons_zero]; first | done | rfl) (by rfl) (fun K hK => ?_); go_simp; go_at_call 10; refine (implDoes_at _ l rs _ _ d _ hrs hrl hgw hl20 HP.out hdn hdp).mono ?_; rintro r w1 ⟨v', l', rfl, ho, hmp, b1⟩; (try have hne := ho.ne_low hx.1); replace ho := ho.mono hHeld.size; go_simp; refine hK.out _ _ _ (fun _ h => h) (next hHeld b1) ?_; clear hK hHeld; intro hHeld; (try (replace fx := fx.below hx.1 b1; replace hx := hx.below b1)); (try simp only [Act.put, List.setIfInBounds_toArray, List.set_cons_zero, List.set_cons_succ]))
        | (refine tq_one (by simp only [List.getElem?_toArray, List.getElem?_cons_succ, List.getElem?_cons_zero]; first | done | rfl) (by rfl) (fun K hK => ?_); go_simp; refine hK.out _ _ _ (fun _ h => h) (hHeld.alloc hHeld.size _) ?_; clear hK; intro hS; refine tq_alloc ?_ hS; clear hS; intro wA bA hx fx hS; have hge := hHeld.size; clear hHeld; have hHeld := hS; (try replace hgw := hgw.below bA); (try (have hne := ho.ne_new; replace ho := ho.below bA)); clear hS bA; (try simp only [Act.put, List.setIfInBounds_toArray, List.set_cons_zero, List.set_cons_succ]))
        | (refine tq_one (by simp only [List.getElem?_toArray, List.getElem?_cons_succ, List.getElem?_cons_zero]; first | done | rfl) (by rfl) (fun K hK => ?_); obtain ⟨x0, x1⟩ := hx.at2; obtain ⟨y0, y1⟩ := fx.fz2; go_simp; refine hK.out _ _ _ (fun _ h => h) (far_2 hHeld hge _ _ ) ?_; clear hK hHeld; intro hHeld; (try simp only [Act.put, List.setIfInBounds_toArray, List.set_cons_zero, List.set_cons_succ]))
        | (refine tq_end ?_; go_wp2; go_meet; exact ⟨_, _, _, rfl, rfl, hge, hHeld, hx.wr2 _ _, ho.off2 hne _ _, hmp, hne⟩))
    case rest =>
    obtain ⟨v14, l14, G14, rfl, rfl, hG14, b12, x14, o14, m14, -⟩ := hcut
    obtain ⟨A14, c14, rfl, -, -⟩ := o14.open
    have S14 := Lib.hid (does_small m14)
    have M14 := Lib.hid (m14.trans m8.symm)
    replace x8 := x8.below b12
    replace o8 := o8.below b12
    replace om := om.below b12
    replace b0 := next b0 b12
    clear p0 p1 p2 p3 p4 p5 p6 z0 b12 hl1 h0 m14
    go_wp2_with fail
    refine (eqWorkS_same A14 A8 l14 l8 c14 c8 _ o14.wks.1 o8.wks.1 M14.out (by have := S14.out.1; unfold maxLen; omega) (S14.out.2.mono (by unfold maxLen; omega))).mono ?_
    rintro r wi ⟨rfl, b7⟩
    replace x8 := x8.below b7
    replace x14 := x14.below b7
    replace om := om.below b7
    replace b0 := next b0 b7
    obtain ⟨u0, u1⟩ := x8.two
    obtain ⟨v0, v1⟩ := x14.two
    have z8 := x8.1
    have z9 := x14.1
    clear b7
    go_wp2_with fail
    refine (eqReply_same (M.does (l.map Wr.wk) d).2.1 (M.does (l.map Wr.wk) d).2.2 _).mono ?_
    rintro r wj ⟨rfl, b8⟩
    replace om := om.below b8
    replace b0 := next b0 b8
    clear u0 u1 v0 v1 z8 z9 b8
    go_wp2_with fail
    refine (heldWorkS_any A9 l9 c9 1 _ om.wks.1 (by omega) (by have := mlen_small S9.out; omega) (by have := S9.out.1; omega)).mono ?_
    rintro r wk ⟨rfl, b11⟩
    rw [HQ.out]
    replace b0 := next b0 b11
    go_wp2
    go_ret
    exact ⟨rfl, b0⟩

set_option maxRecDepth 100000 in
theorem lifted (os : Os) (started : os.Started) (H : Type) (enc : TypeId × Value → H) :
    ReturnsInHanded {} Tryz.checked os 4 .any (Rows.fnExactDoesSpec.pre6 enc Tryz.prog Tryz.f4 Rows.fnExactDoesRow.domain false) (Rows.fnExactDoesSpec.post enc Tryz.prog Tryz.f4 false true false false) := by
  refine returnsInHanded_of_change (C := Tryz.checked) own started (by kernel_rfl) Tryz.func4
    (ChangeSpec.witness6 (enc := enc) (C := Tryz.checked) false ⟨#[], #[.slice none 0 0, .agg #[.int .i64 0, .string ByteArray.empty, .int .i64 0, .int .i64 0, .int .i64 0, .string ByteArray.empty, .int .i64 0]], []⟩ 8 (by kernel_rfl) (by kernel_rfl) (by kernel_rfl) (by kernel_rfl)) ?_
  intro W base args ds gs before hval0 hW hcnd _
  have hval : ∀ (j : Nat) t v, Tryz.f4.params[j]? = some t → args[j]? = some v → Value.okWide Tryz.prog W .any base t v := hval0
  have hW' := hW
  obtain ⟨p, q, hA0, -⟩ := hW
  have hA : DataW.TrodAll enc Tryz.prog W 0 (fun _ => true) true Tryz.f4.params.toList args.toList ds p := hA0
  rw [Tryz.params4] at hA hval
  obtain ⟨v0, vs0, d0, ds0, p0, q0, hargs, rfl, rfl, h0, r0⟩ := trodAll_cons hA
  obtain ⟨v1, vs1, d1, ds1, p1, q1, rfl, rfl, rfl, h1, r1⟩ := trodAll_cons r0
  obtain ⟨rfl, rfl, rfl⟩ := trodAll_nil r1
  obtain rfl : args = #[v0, v1] := by cases args; simp_all
  clear hA0 hval0
  have hv0 := hval 0 _ v0 rfl rfl
  have hv1 := hval 1 _ v1 rfl rfl
  obtain ⟨A, l, cap, rfl, hl, hlen, hp⟩ := open_sf (tc := 109) (te := 205) Tryz.underlying52 Tryz.underlying111 (by kernel_rfl) (by kernel_rfl) (by kernel_rfl) Tryz.underlying9 Tryz.underlying2 rfl Tryz.underlying109 Tryz.underlying205 (by kernel_rfl) (by kernel_rfl) (by kernel_rfl) Tryz.underlying53 Tryz.underlying9 Tryz.underlying4 (by kernel_rfl) (by kernel_rfl) Tryz.underlying2 Tryz.underlying2 Tryz.underlying2 hv0 h0
  obtain ⟨d, rfl, hn, hpg⟩ := open_dd Tryz.underlying55 (by kernel_rfl) (by kernel_rfl) (by kernel_rfl) Tryz.underlying2 Tryz.underlying9 Tryz.underlying53 Tryz.underlying9 Tryz.underlying2 (by kernel_rfl) (by kernel_rfl) Tryz.underlying2 Tryz.underlying2 Tryz.underlying2 hv1 h1
  exact (walk A l cap d hlen hp hn hpg W hl).mono fun r W' ⟨he, hb⟩ => ⟨_, he, law_post rfl rfl Tryz.underlying4 (by kernel_rfl) (n := 2)
    (fun ds' hd => by rcases ds' with _ | ⟨x0, _ | ⟨x1, _ | ⟨y, z⟩⟩⟩ <;> simp at hd <;> exact ⟨rfl, rfl, rfl⟩) rfl hW' hb⟩

theorem over : Rows.fnExactDoesRow.holds Tryz.pinned (OpenSpec.ofChange Rows.fnExactDoesSpec) :=
  OpenClaim.holds_of_wide 4 Tryz.f4 rfl rfl rfl rfl rfl rfl rfl ⟨rfl, rfl, rfl, rfl, rfl⟩ rfl rfl rfl rfl rfl (by kernel_rfl) Tryz.func4 (by kernel_rfl)
    (of_decide_eq_true (by kernel_rfl)) (by unfold Func.isWrapper; first | (rw [if_pos (by decide +kernel)]; kernel_rfl) | (rw [if_neg (by decide +kernel)]; exact ⟨rfl, rfl⟩))
    (fun os started H enc _ => lifted os started H enc)

theorem proved : Rows.FnExactDoesSaid :=
  over
#print axioms proved
end Go.Proofs.YteomdakohlikeaaGreat.fnExactDoes
