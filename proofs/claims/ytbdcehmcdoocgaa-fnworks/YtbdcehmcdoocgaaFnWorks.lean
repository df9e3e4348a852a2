/- Proved: the law FnWorks returns true at every list of bytes, and the list reads afterwards as before; no condition. -/
import Derived.Test.YtbdcehmcdoocgaaWorkPrint
import Derived.Test.YtbdcehmcdoocgaaWorkPrintS
import Derived.Test.YtbdcehmcdoocgaaWorkLaws
import Derived.Test.YtbdcehmcdoocgaaWorkLike
import Derived.Test.YtbdcehmcdoocgaaDrawTop
import Derived.Test.YtbdcehmcdoocgaaCode
import Derived.Test.YtbdcehmcdoocgaaOrdersBox
import Derived.Test.YtbdcehmcdoocgaaShell
import Derived.Lib.SmallJoins
namespace Go.Proofs.Ytbdcehmcdoocgaa.fnWorks
open Go.ChangeShapes Go.WideShapes Go.ChangeAt Go.RowKit Go.Joins Go.Deep
open Go.ChangeMaps (open_string shut_string)
set_option linter.unusedVariables false

set_option maxRecDepth 100000 in
set_option maxHeartbeats 16000000 in
theorem walk (a0 : Option Addr) (len0 cap0 : Nat) (w : World) (hc : CodeOk w.heap.size w a0 len0) :
    Calls Try.prog 3 #[.slice a0 len0 cap0] w fun e w' => e = .returned (.bool true) ∧ Below w.heap.size w w' := by
  have HC := Lib.hid hc
  clear hc
  by_cases hbig : 4096 < len0
  · go_enter Try.func3, Try.ntmps3
    go_wp2_with fail
    refine (big_any a0 len0 cap0 _).mono ?_
    rintro e w' ⟨rfl, rfl⟩
    go_wp2
    go_ret
    exact ⟨rfl, Below.refl _ _⟩
  · have hl4 : len0 ≤ 4096 := by omega
    go_enter Try.func3, Try.ntmps3
    go_wp2_with fail
    refine (big_any a0 len0 cap0 _).mono ?_
    rintro e w' ⟨rfl, rfl⟩
    go_wp2_with fail
    refine (DrawPrinted_any _ a0 len0 cap0 hl4 HC.out).mono ?_
    rintro r x1 ⟨wk, A, c, e, page, rfl, hs, hpg, ho, b1⟩
    have hm := ((((Lw.start w).below b1).row ho).new (vA wk A c) 26).new (eA e) 28
    simp only [World.size_alloc] at hm
    have HS := Lib.hid hs
    obtain ⟨P, hP⟩ : ∃ P, M.printed ⟨wk.name, wk.owner, wk.copies⟩ e page = P := ⟨_, rfl⟩
    have HSP : Hid (M.smallWk 10 P.1) := Lib.hid (by rw [← hP]; exact M.small_printed hs (by omega) hpg)
    clear b1 ho hs
    obtain ⟨wc0, wc1, wc2⟩ := (hm.cells (x1.heap.size) (vA wk A c) (by simp)).three
    obtain ⟨ec0, ec1, ec2⟩ := (hm.cells (x1.heap.size + 1) (eA e) (by simp)).three
    go_wp2_with fail
    have hcall := implPrinted wk.name wk.owner A wk.copies c e page _ (hm.list A c wk.copies (by simp)).1 (by have := HS.out.1; (try unfold maxLen); omega) (by have := HS.out.2.1; (try unfold maxLen); omega) (fun x hx => by have := HS.out.2.2 x hx; (try unfold maxLen); omega) (by omega)
    rw [hP] at hcall
    refine hcall.mono ?_
    rintro r x2 ⟨⟨A1, c1, rfl, o1⟩, b2⟩
    replace hm := ((hm.below b2).row o1).new (vA P.1 A1 c1) 26
    clear b2 o1 hcall
    clear wc0 wc1 wc2 ec0 ec1 ec2
    go_wp2_with fail
    refine (DrawVeiled_any _ a0 len0 cap0 hl4 (HC.out.later hm.1.1)).mono ?_
    rintro r x3 ⟨q, Aq, cq, f, hid, rfl, hsq, oq, b3⟩
    replace hm := (((hm.below b3).row oq).new (vA q Aq cq) 26).new (eA f) 28
    simp only [World.size_alloc] at hm
    have HSQ := Lib.hid hsq
    obtain ⟨V, hV⟩ : ∃ V, M.veiled ⟨q.name, q.owner, q.copies⟩ f hid = V := ⟨_, rfl⟩
    have HSV : Hid (M.smallWk 10 V.1) := Lib.hid (by rw [← hV]; exact M.small_veiled hsq)
    clear b3 oq hsq
    obtain ⟨qc0, qc1, qc2⟩ := (hm.cells (x3.heap.size) (vA q Aq cq) (by simp)).three
    obtain ⟨fc0, fc1, fc2⟩ := (hm.cells (x3.heap.size + 1) (eA f) (by simp)).three
    go_wp2_with fail
    have hcall := implVeiled q.name q.owner Aq q.copies cq f hid _ (hm.list Aq cq q.copies (by simp)).1 (by have := HSQ.out.1; (try unfold maxLen); omega) (by have := HSQ.out.2.1; (try unfold maxLen); omega) (fun x hx => by have := HSQ.out.2.2 x hx; (try unfold maxLen); omega)
    rw [hV] at hcall
    refine hcall.mono ?_
    rintro r x4 ⟨⟨A2, c2, rfl, o2⟩, b4⟩
    replace hm := ((hm.below b4).row o2).new (vA V.1 A2 c2) 26
    clear b4 o2 hcall
    clear qc0 qc1 qc2 fc0 fc1 fc2
    go_wp2_with fail
    refine (DrawCopyIn_any _ a0 len0 cap0 hl4 (HC.out.later hm.1.1)).mono ?_
    rintro r x5 ⟨rk, Ar, cr, ge, rfl, hsr, orr, b5⟩
    replace hm := (((hm.below b5).row orr).new (vA rk Ar cr) 26).new (eA ge) 28
    simp only [World.size_alloc] at hm
    have HSR := Lib.hid hsr
    obtain ⟨C, hC⟩ : ∃ C, M.copyIn ⟨rk.name, rk.owner, rk.copies⟩ ge = C := ⟨_, rfl⟩
    clear b5 orr hsr HC
    obtain ⟨rc0, rc1, rc2⟩ := (hm.cells (x5.heap.size) (vA rk Ar cr) (by simp)).three
    obtain ⟨gc0, gc1, gc2⟩ := (hm.cells (x5.heap.size + 1) (eA ge) (by simp)).three
    go_wp2_with fail
    have hcall := implCopyIn rk.name rk.owner Ar rk.copies cr ge _ (hm.list Ar cr rk.copies (by simp)).1 (by have := HSR.out.1; (try unfold maxLen); omega) (by have := HSR.out.2.1; (try unfold maxLen); omega) (fun x hx => by have := HSR.out.2.2 x hx; (try unfold maxLen); omega)
    rw [hC] at hcall
    refine hcall.mono ?_
    rintro r x6 ⟨rfl, b6⟩
    replace hm := (hm.below b6).new (cA C.1) 39
    clear b6 hcall
    clear rc0 rc1 rc2 gc0 gc1 gc2
    obtain ⟨wc0, wc1, wc2⟩ := (hm.cells (x1.heap.size) (vA wk A c) (by simp)).three
    obtain ⟨ec0, ec1, ec2⟩ := (hm.cells (x1.heap.size + 1) (eA e) (by simp)).three
    go_wp2_with fail
    have hcall := specPrinted wk.name wk.owner A wk.copies c e page _ (hm.list A c wk.copies (by simp)).1 (hm.list A c wk.copies (by simp)).2.1 (hm.list A c wk.copies (by simp)).2.2 (by have := HS.out.1; (try unfold maxLen); omega) (by have := HS.out.2.1; (try unfold maxLen); omega) (fun x hx => by have := HS.out.2.2 x hx; (try unfold maxLen); omega) (by omega)
    rw [hP] at hcall
    refine hcall.mono ?_
    rintro r x7 ⟨⟨A3, c3, rfl, o3⟩, b7⟩
    replace hm := ((hm.below b7).row o3).new (vA P.1 A3 c3) 26
    clear b7 o3 hcall
    clear wc0 wc1 wc2 ec0 ec1 ec2
    have hbP : (P.2 != P.2) = false := by simp
    go_wp2_with fail
    generalize x7.alloc (.cells (vA P.1 A3 c3) 26) = X at hm ⊢
    obtain ⟨xc0, xc1, xc2⟩ := (hm.cells (x2.heap.size) (vA P.1 A1 c1) (by simp)).three
    have xl := (hm.cells (x2.heap.size) (vA P.1 A1 c1) (by simp)).1
    obtain ⟨zc0, zc1, zc2⟩ := (hm.cells (x7.heap.size) (vA P.1 A3 c3) (by simp)).three
    have zl := (hm.cells (x7.heap.size) (vA P.1 A3 c3) (by simp)).1
    obtain ⟨wc0, wc1, wc2⟩ := (hm.cells (x1.heap.size) (vA wk A c) (by simp)).three
    have wl := (hm.cells (x1.heap.size) (vA wk A c) (by simp)).1
    have hwk : (M.wkOk ⟨wk.name, wk.owner, wk.copies⟩ != M.wkOk ⟨wk.name, wk.owner, wk.copies⟩) = false := by simp
    have HM := Lib.hid hm
    clear hm
    refine wp_region_seq (fun w' => Below X.heap.size X w') [(0, true), (1, true), (2, false), (3, true), (4, true), (5, true), (6, true), (7, true), (8, true), (9, true), (10, true), (12, true), (11, false), (13, false), (14, true), (15, true)] (by kernel_rfl) (by kernel_rfl) (fun _ _ _ _ _ h => h) (by kernel_rfl) (by decide) (Below.refl _ _).drew ?_
    intro hHeld
    repeat (first
      | (refine seq_skip (by simp only [List.getElem?_toArray, List.getElem?_cons_succ, List.getElem?_cons_zero]; first | done | rfl) (by rfl) ?_; (try simp only [Act.put, List.setIfInBounds_toArray, List.set_cons_zero, List.set_cons_succ]))
      | (refine seq_reads (by simp only [List.getElem?_toArray, List.getElem?_cons_succ, List.getElem?_cons_zero]; first | done | rfl) (by rfl) ?_; apply Exists.intro; apply And.intro; (focus (intro w hSw; obtain ⟨hcS, -⟩ := bcell hSw; go_simp; (try with_reducible rfl); done)); (try simp only [Act.put, List.setIfInBounds_toArray, List.set_cons_zero, List.set_cons_succ]))
      | (refine seq_pass (by simp only [List.getElem?_toArray, List.getElem?_cons_succ, List.getElem?_cons_zero]; first | done | rfl) (by rfl) hHeld ?_; clear hHeld; intro hHeld; (try simp only [Act.put, List.setIfInBounds_toArray, List.set_cons_zero, List.set_cons_succ]))
      | (refine seq_call (by simp only [List.getElem?_toArray, List.getElem?_cons_succ, List.getElem?_cons_zero]; first | done | rfl) (by rfl) (fun K hK => ?_); go_simp; go_at_call 13; refine (likeWork_same P.1 A1 A3 c1 c3 _ ((HM.out.below hHeld).list A1 c1 P.1.copies (by simp)).1 ((HM.out.below hHeld).list A3 c3 P.1.copies (by simp)).1 (by have := HSP.out.2.1; omega)).mono ?_; rintro r w1 ⟨rfl, b1⟩; go_simp; refine hK.out _ _ (next hHeld b1) ?_; clear hK hHeld; intro hHeld; (try simp only [Act.put, List.setIfInBounds_toArray, List.set_cons_zero, List.set_cons_succ]))
      | (refine seq_call (by simp only [List.getElem?_toArray, List.getElem?_cons_succ, List.getElem?_cons_zero]; first | done | rfl) (by rfl) (fun K hK => ?_); go_simp; go_at_call 14; refine (implWorkOk wk.name wk.owner A wk.copies c _ ((HM.out.below hHeld).list A c wk.copies (by simp)).1 (by have := HS.out.1; (try unfold maxLen); omega) (by have := HS.out.2.1; (try unfold maxLen); omega) (fun x hx => by have := HS.out.2.2 x hx; (try unfold maxLen); omega)).mono ?_; rintro r w1 ⟨rfl, b1⟩; go_simp; refine hK.out _ _ (next hHeld b1) ?_; clear hK hHeld; intro hHeld; (try simp only [Act.put, List.setIfInBounds_toArray, List.set_cons_zero, List.set_cons_succ]))
      | (refine seq_call (by simp only [List.getElem?_toArray, List.getElem?_cons_succ, List.getElem?_cons_zero]; first | done | rfl) (by rfl) (fun K hK => ?_); go_simp; go_at_call 15; refine (specWorkOk wk.name wk.owner A wk.copies c _ ((HM.out.below hHeld).list A c wk.copies (by simp)).1 (by have := HS.out.1; (try unfold maxLen); omega) (by have := HS.out.2.1; (try unfold maxLen); omega) (fun x hx => by have := HS.out.2.2 x hx; (try unfold maxLen); omega)).mono ?_; rintro r w1 ⟨rfl, b1⟩; go_simp; refine hK.out _ _ (next hHeld b1) ?_; clear hK hHeld; intro hHeld; (try simp only [Act.put, List.setIfInBounds_toArray, List.set_cons_zero, List.set_cons_succ])))
    refine seq_end ?_
    have hm : Lw w [(x4.heap.size, vA V.1 A2 c2), (x5.heap.size + 1, eA ge), (x5.heap.size, vA rk Ar cr), (x3.heap.size + 1, eA f), (x3.heap.size, vA q Aq cq), (x2.heap.size, vA P.1 A1 c1), (x1.heap.size + 1, eA e), (x1.heap.size, vA wk A c), (x6.heap.size, cA C.1)] [(Ar, cr, rk.copies), (A2, c2, V.1.copies), (Aq, cq, q.copies), (A1, c1, P.1.copies), (A, c, wk.copies)] _ := (HM.out.below hHeld).sub (by simp) (by simp)
    clear HM hHeld
    clear xc0 xc1 xc2 xl zc0 zc1 zc2 zl wc0 wc1 wc2 wl
    obtain ⟨qc0, qc1, qc2⟩ := (hm.cells (x3.heap.size) (vA q Aq cq) (by simp)).three
    obtain ⟨fc0, fc1, fc2⟩ := (hm.cells (x3.heap.size + 1) (eA f) (by simp)).three
    go_wp2_with fail
    have hcall := specVeiled q.name q.owner Aq q.copies cq f hid _ (hm.list Aq cq q.copies (by simp)).1 (hm.list Aq cq q.copies (by simp)).2.1 (by have := HSQ.out.1; (try unfold maxLen); omega) (by have := HSQ.out.2.1; (try unfold maxLen); omega) (fun x hx => by have := HSQ.out.2.2 x hx; (try unfold maxLen); omega)
    rw [hV] at hcall
    refine hcall.mono ?_
    rintro r x9 ⟨⟨A4, c4, rfl, o4⟩, b9⟩
    replace hm := ((hm.below b9).row o4).new (vA V.1 A4 c4) 26
    clear b9 o4 hcall
    clear qc0 qc1 qc2 fc0 fc1 fc2
    have hbV : (V.2 != V.2) = false := by simp
    obtain ⟨yc0, yc1, yc2⟩ := (hm.cells (x4.heap.size) (vA V.1 A2 c2) (by simp)).three
    obtain ⟨z2c0, z2c1, z2c2⟩ := (hm.cells (x9.heap.size) (vA V.1 A4 c4) (by simp)).three
    go_wp2_with fail
    refine (likeWork_same V.1 A2 A4 c2 c4 _ (hm.list A2 c2 V.1.copies (by simp)).1 (hm.list A4 c4 V.1.copies (by simp)).1 (by have := HSV.out.2.1; omega)).mono ?_
    rintro r xb ⟨rfl, bb⟩
    replace hm := hm.below bb
    clear bb
    clear yc0 yc1 yc2 z2c0 z2c1 z2c2
    obtain ⟨rc0, rc1, rc2⟩ := (hm.cells (x5.heap.size) (vA rk Ar cr) (by simp)).three
    obtain ⟨gc0, gc1, gc2⟩ := (hm.cells (x5.heap.size + 1) (eA ge) (by simp)).three
    go_wp2_with fail
    have hcall := specCopyIn rk.name rk.owner Ar rk.copies cr ge _ (hm.list Ar cr rk.copies (by simp)).1 (by have := HSR.out.1; (try unfold maxLen); omega) (by have := HSR.out.2.1; (try unfold maxLen); omega) (fun x hx => by have := HSR.out.2.2 x hx; (try unfold maxLen); omega)
    rw [hC] at hcall
    refine hcall.mono ?_
    rintro r xa ⟨rfl, ba⟩
    replace hm := (hm.below ba).new (cA C.1) 39
    clear ba hcall
    clear rc0 rc1 rc2 gc0 gc1 gc2
    have hcn := fun w => cp_neq C.1 w
    have hbC : (C.2 != C.2) = false := by simp
    obtain ⟨pc0, pc1, pc2, pc3, pc4⟩ := (hm.cells (x6.heap.size) (cA C.1) (by simp)).five
    obtain ⟨z3c0, z3c1, z3c2, z3c3, z3c4⟩ := (hm.cells (xa.heap.size) (cA C.1) (by simp)).five
    go_upto_if 124 with (fail)
    clear hcn hbC hbV hbP
    clear pc0 pc1 pc2 pc3 pc4 z3c0 z3c1 z3c2 z3c3 z3c4
    replace hm : Lw w [(x4.heap.size, vA V.1 A2 c2), (x3.heap.size + 1, eA f), (x3.heap.size, vA q Aq cq), (x2.heap.size, vA P.1 A1 c1), (x1.heap.size + 1, eA e), (x1.heap.size, vA wk A c)] [(A2, c2, V.1.copies), (Aq, cq, q.copies), (A1, c1, P.1.copies), (A, c, wk.copies)] _ := hm.sub (by simp) (by simp)
    go_cut [12, 20, 24] (fun _ _ _ wx => Lw w [(x2.heap.size, vA P.1 A1 c1), (x1.heap.size + 1, eA e), (x1.heap.size, vA wk A c)] [(A1, c1, P.1.copies), (A, c, wk.copies)] wx)
    case first =>
      rcases hV2 : V.2 with _ | _
      · go_wp2
        go_meet
        exact hm.sub (by simp) (by simp)
      · obtain ⟨hvok, hvb⟩ := M.veil_law (q := ⟨q.name, q.owner, q.copies⟩) (f := f) (h := hid) (by rw [hV]; exact hV2)
        rw [hV] at hvok hvb
        obtain ⟨W, hW⟩ : ∃ W, M.copyIn ⟨q.name, q.owner, q.copies⟩ f = W := ⟨_, rfl⟩
        rw [hW] at hvb
        obtain ⟨qc0, qc1, qc2⟩ := (hm.cells (x3.heap.size) (vA q Aq cq) (by simp)).three
        obtain ⟨fc0, fc1, fc2⟩ := (hm.cells (x3.heap.size + 1) (eA f) (by simp)).three
        go_wp2_with fail
        have hcall := specCopyIn q.name q.owner Aq q.copies cq f _ (hm.list Aq cq q.copies (by simp)).1 (by have := HSQ.out.1; (try unfold maxLen); omega) (by have := HSQ.out.2.1; (try unfold maxLen); omega) (fun x hx => by have := HSQ.out.2.2 x hx; (try unfold maxLen); omega)
        rw [hW] at hcall
        refine hcall.mono ?_
        rintro r xc ⟨rfl, bc⟩
        replace hm := (hm.below bc).new (cA W.1) 39
        clear bc hcall
        clear qc0 qc1 qc2 fc0 fc1 fc2
        obtain ⟨yc0, yc1, yc2⟩ := (hm.cells (x4.heap.size) (vA V.1 A2 c2) (by simp)).three
        obtain ⟨fc0, fc1, fc2⟩ := (hm.cells (x3.heap.size + 1) (eA f) (by simp)).three
        obtain ⟨wasc0, wasc1, wasc2, wasc3, wasc4⟩ := (hm.cells (xc.heap.size) (cA W.1) (by simp)).five
        obtain ⟨⟨vb1, vb2⟩, hVB⟩ : ∃ VB, M.veiled ⟨V.1.name, V.1.owner, V.1.copies⟩ f W.1.hidden = VB := ⟨_, rfl⟩
        have hvq : vb1 = q := by
          have h2 : (M.veiled ⟨V.1.name, V.1.owner, V.1.copies⟩ f W.1.hidden).1 = q := hvb
          rw [hVB] at h2
          exact h2
        subst hvq
        go_wp2_with fail
        have hcall := implVeiled V.1.name V.1.owner A2 V.1.copies c2 f W.1.hidden _ (hm.list A2 c2 V.1.copies (by simp)).1 (by have := HSV.out.1; (try unfold maxLen); omega) (by have := HSV.out.2.1; (try unfold maxLen); omega) (fun x hx => by have := HSV.out.2.2 x hx; (try unfold maxLen); omega)
        rw [hVB] at hcall
        refine hcall.mono ?_
        rintro r xd ⟨⟨Ab, cb, rfl, od⟩, bd⟩
        replace hm := ((hm.below bd).row od).new (vA vb1 Ab cb) 26
        clear bd od hcall
        clear yc0 yc1 yc2 fc0 fc1 fc2 wasc0 wasc1 wasc2 wasc3 wasc4
        obtain ⟨yc0, yc1, yc2⟩ := (hm.cells (x4.heap.size) (vA V.1 A2 c2) (by simp)).three
        go_wp2_with fail
        have hcall := implWorkOk V.1.name V.1.owner A2 V.1.copies c2 _ (hm.list A2 c2 V.1.copies (by simp)).1 (by have := HSV.out.1; (try unfold maxLen); omega) (by have := HSV.out.2.1; (try unfold maxLen); omega) (fun x hx => by have := HSV.out.2.2 x hx; (try unfold maxLen); omega)
        rw [show M.wkOk ⟨V.1.name, V.1.owner, V.1.copies⟩ = true from hvok] at hcall
        refine hcall.mono ?_
        rintro r xe ⟨rfl, be⟩
        replace hm := hm.below be
        clear be hcall
        clear yc0 yc1 yc2
        obtain ⟨backc0, backc1, backc2⟩ := (hm.cells (xd.heap.size) (vA vb1 Ab cb) (by simp)).three
        obtain ⟨qc0, qc1, qc2⟩ := (hm.cells (x3.heap.size) (vA vb1 Aq cq) (by simp)).three
        go_wp2_with fail
        refine (likeWork_same vb1 Ab Aq cb cq _ (hm.list Ab cb vb1.copies (by simp)).1 (hm.list Aq cq vb1.copies (by simp)).1 (by have := HSQ.out.2.1; omega)).mono ?_
        rintro r xf ⟨rfl, bf⟩
        replace hm := hm.below bf
        clear bf
        clear backc0 backc1 backc2 qc0 qc1 qc2
        go_wp2
        go_meet
        exact hm.sub (by simp) (by simp)
    case rest =>
    clear hm
    rename_i hcut0
    have hm : Lw w [(x2.heap.size, vA P.1 A1 c1), (x1.heap.size + 1, eA e), (x1.heap.size, vA wk A c)] [(A1, c1, P.1.copies), (A, c, wk.copies)] _ := hcut
    clear hcut
    rcases hP2 : P.2 with _ | _
    · rcases M.print_not (w := ⟨wk.name, wk.owner, wk.copies⟩) (e := e) (p := page) (by rw [hP]; exact hP2) with ⟨hk, hz⟩ | ⟨hk, hz⟩
      · rw [hP] at hz
        obtain ⟨P1, P2⟩ := P
        simp only at hz hP2
        subst hz hP2
        obtain ⟨wc0, wc1, wc2⟩ := (hm.cells (x1.heap.size) (vA wk A c) (by simp)).three
        go_wp2_with fail
        have hcall := specWorkOk wk.name wk.owner A wk.copies c _ (hm.list A c wk.copies (by simp)).1 (by have := HS.out.1; (try unfold maxLen); omega) (by have := HS.out.2.1; (try unfold maxLen); omega) (fun x hx => by have := HS.out.2.2 x hx; (try unfold maxLen); omega)
        rw [hk] at hcall
        refine hcall.mono ?_
        rintro r xg ⟨rfl, bg⟩
        replace hm := hm.below bg
        clear bg hcall
        clear wc0 wc1 wc2
        obtain ⟨xc0, xc1, xc2⟩ := (hm.cells (x2.heap.size) (vA M.zeroWk A1 c1) (by simp)).three
        go_wp2_with fail
        refine (likeWork_same M.zeroWk A1 none c1 0 _ (hm.list A1 c1 M.zeroWk.copies (by simp)).1 (.inl rfl) (by simp [M.zeroWk])).mono ?_
        rintro r xh ⟨rfl, bh⟩
        replace hm := hm.below bh
        clear xc0 xc1 xc2
        go_wp2
        go_ret
        exact ⟨rfl, hm.1.1⟩
      · rw [hP] at hz
        obtain ⟨P1, P2⟩ := P
        simp only at hz hP2
        subst hz hP2
        obtain ⟨wc0, wc1, wc2⟩ := (hm.cells (x1.heap.size) (vA wk A c) (by simp)).three
        go_wp2_with fail
        have hcall := specWorkOk wk.name wk.owner A wk.copies c _ (hm.list A c wk.copies (by simp)).1 (by have := HS.out.1; (try unfold maxLen); omega) (by have := HS.out.2.1; (try unfold maxLen); omega) (fun x hx => by have := HS.out.2.2 x hx; (try unfold maxLen); omega)
        rw [hk] at hcall
        refine hcall.mono ?_
        rintro r xg ⟨rfl, bg⟩
        replace hm := hm.below bg
        clear bg hcall
        clear wc0 wc1 wc2
        obtain ⟨xc0, xc1, xc2⟩ := (hm.cells (x2.heap.size) (vA wk A1 c1) (by simp)).three
        obtain ⟨wc0, wc1, wc2⟩ := (hm.cells (x1.heap.size) (vA wk A c) (by simp)).three
        go_wp2_with fail
        refine (likeWork_same wk A1 A c1 c _ (hm.list A1 c1 wk.copies (by simp)).1 (hm.list A c wk.copies (by simp)).1 (by have := HS.out.2.1; omega)).mono ?_
        rintro r xh ⟨rfl, bh⟩
        replace hm := hm.below bh
        clear xc0 xc1 xc2 wc0 wc1 wc2
        go_wp2
        go_ret
        exact ⟨rfl, hm.1.1⟩
    · obtain ⟨k1, k2, k3, k4⟩ := M.print_law (w := ⟨wk.name, wk.owner, wk.copies⟩) (e := e) (p := page) (by rw [hP]; exact hP2)
      rw [hP] at k1 k2 k3 k4
      have HK1 := Lib.hid k1
      have HK2 := Lib.hid k2
      have HK3 := Lib.hid k3
      have HK4 := Lib.hid k4
      have HMM := Lib.hid hm
      clear k1 k2 k3 k4 hm
      go_wp2
      go_loopw [27] (fun i wr => ∃ j : Nat, i = .int .i64 j ∧ j ≤ wk.copies.length ∧ Lw w [(x2.heap.size, vA P.1 A1 c1), (x1.heap.size + 1, eA e), (x1.heap.size, vA wk A c)] [(A1, c1, P.1.copies), (A, c, wk.copies)] wr) (fun i _ => wk.copies.length - (intOf i).toNat)
      case atStart => exact ⟨0, rfl, Nat.zero_le _, HMM.out⟩
      case round =>
        clear HMM
        obtain ⟨j, rfl, hj, hm⟩ := hrel
        have h10 : wk.copies.length ≤ 10 := HS.out.2.1
        by_cases hlt : j < wk.copies.length
        · have hci : ∀ y, Cps y A1 P.1.copies → Calls Try.prog 11 #[wkV P.1.name P.1.owner A1 P.1.copies.length c1, edV wk.copies[j].ed] y fun r w' => r = .returned (.tuple #[cpV wk.copies[j], .bool true]) ∧ Below y.heap.size y w' := fun y hy => by
            have hx := implCopyIn P.1.name P.1.owner A1 P.1.copies c1 wk.copies[j].ed y hy (by have := HSP.out.1; (try unfold maxLen); omega) (by have := HSP.out.2.1; (try unfold maxLen); omega) (fun x hx => by have := HSP.out.2.2 x hx; (try unfold maxLen); omega)
            rw [show M.copyIn ⟨P.1.name, P.1.owner, P.1.copies⟩ wk.copies[j].ed = (wk.copies[j], true) from HK2.out _ (List.getElem_mem hlt)] at hx
            exact hx
          obtain ⟨b, o, hA, lb, d0, d1, d2, d3, d4⟩ := Cps_at (hm.list A c wk.copies (by simp)).1 hlt
          subst hA
          obtain ⟨xc0, xc1, xc2⟩ := (hm.cells (x2.heap.size) (vA P.1 A1 c1) (by simp)).three
          have xl := (hm.cells (x2.heap.size) (vA P.1 A1 c1) (by simp)).1
          obtain ⟨wc0, wc1, wc2⟩ := (hm.cells (x1.heap.size) (vA wk (some ⟨b, o, none⟩) c) (by simp)).three
          have wl := (hm.cells (x1.heap.size) (vA wk (some ⟨b, o, none⟩) c) (by simp)).1
          have HM := Lib.hid hm
          clear hm
          go_upto_region 28 with (fail)
          go_cut [28, 29] (fun s28 s29 wx => s29 = .bool true ∧ BoxAt wr (cA wk.copies[j]) s28 wx)
          case first =>
            refine wp_region_tq (fun w' => Below wr.heap.size wr w') (.read 0 (.read 1 (.read 2 (.read 3 (.read 4 (.read 5 (.read 6 (.two 7 11 (.read 8 (.read 9 (.read 10 (.one 11 (.one 12 (.read 13 .done)))))) (.one 7 (.read 8 (.read 9 (.read 10 (.one 12 (.read 13 .done)))))))))))))) (by kernel_rfl) (by kernel_rfl) (fun _ _ _ _ _ h => h) (by kernel_rfl) (by decide) (Below.refl _ _).drew ?_
            intro hHeld
            generalize wr.drew = wd at hHeld ⊢
            repeat (first
              | (refine tq_reads (by simp only [List.getElem?_toArray, List.getElem?_cons_succ, List.getElem?_cons_zero]; first | done | rfl) (by rfl) ?_; apply Exists.intro; apply And.intro; (focus (intro w hSw; obtain ⟨hcS, -⟩ := bcell hSw; go_simp; (try with_reducible rfl); done)); (try simp only [Act.put, List.setIfInBounds_toArray, List.set_cons_zero, List.set_cons_succ]))
              | (refine tq_two ?_ ?_)
              | (refine tq_three ?_ ?_ ?_)
              | (refine tq_one (by simp only [List.getElem?_toArray, List.getElem?_cons_succ, List.getElem?_cons_zero]; first | done | rfl) (by rfl) (fun K hK => ?_); go_simp; go_at_call 11; refine (hci _ ((HM.out.below hHeld).list A1 c1 P.1.copies (by simp)).1).mono ?_; rintro r w1 ⟨rfl, b1⟩; go_simp; refine hK.out _ _ _ (fun _ h => h) (next hHeld b1) ?_; clear hK hHeld; intro hHeld; (try (replace fx := fx.below hx.1 b1; replace hx := hx.below b1)); (try simp only [Act.put, List.setIfInBounds_toArray, List.set_cons_zero, List.set_cons_succ]))
              | (refine tq_one (by simp only [List.getElem?_toArray, List.getElem?_cons_succ, List.getElem?_cons_zero]; first | done | rfl) (by rfl) (fun K hK => ?_); go_simp; refine hK.out _ _ _ (fun _ h => h) (hHeld.alloc hHeld.size _) ?_; clear hK; intro hS; refine tq_alloc ?_ hS; clear hS; intro wA bA hx fx hS; have hge := hHeld.size; clear hHeld; have hHeld := hS; clear hS bA; (try simp only [Act.put, List.setIfInBounds_toArray, List.set_cons_zero, List.set_cons_succ]))
              | (refine tq_one (by simp only [List.getElem?_toArray, List.getElem?_cons_succ, List.getElem?_cons_zero]; first | done | rfl) (by rfl) (fun K hK => ?_); obtain ⟨x0, x1, x2, x3, x4⟩ := hx.at5; obtain ⟨y0, y1, y2, y3, y4⟩ := fx.fz5; go_simp; refine hK.out _ _ _ (fun _ h => h) (far_5 hHeld hge _ _ _ _ _ ) ?_; clear hK hHeld; intro hHeld; (try simp only [Act.put, List.setIfInBounds_toArray, List.set_cons_zero, List.set_cons_succ]))
              | (refine tq_end ?_; go_wp2; go_meet; exact ⟨rfl, _, rfl, hge, hHeld, hx.wr5 _ _ _ _ _, fx.wr5 _ _ _ _ _⟩))
          case rest =>
          obtain ⟨rfl, G, rfl, hG, hbc, hG5, -⟩ := hcut
          obtain ⟨g0, g1, g2, g3, g4⟩ := hG5.five
          have gl := hG5.1
          have hm := HM.out.below hbc
          clear HM hci
          clear xc0 xc1 xc2 xl wc0 wc1 wc2 wl
          obtain ⟨b', o', hA, lb', d0, d1, d2, d3, d4⟩ := Cps_at (hm.list (some ⟨b, o, none⟩) c wk.copies (by simp)).1 hlt
          obtain ⟨rfl, rfl⟩ : b = b' ∧ o = o' := by simpa using hA
          clear hA
          obtain ⟨wc0, wc1, wc2⟩ := (hm.cells (x1.heap.size) (vA wk (some ⟨b, o, none⟩) c) (by simp)).three
          have wl := (hm.cells (x1.heap.size) (vA wk (some ⟨b, o, none⟩) c) (by simp)).1
          go_wp2_with fail
          refine wp_region_seq (fun w' => Below wc.heap.size wc w') [(0, true), (1, true), (2, true), (3, true), (4, true), (5, true), (6, true), (7, true), (8, true), (9, true), (10, true)] (by kernel_rfl) (by kernel_rfl) (fun _ _ _ _ _ h => h) (by kernel_rfl) (by decide) (Below.refl _ _).drew ?_
          intro hHeld
          repeat (first
            | (refine seq_read (by simp only [List.getElem?_toArray, List.getElem?_cons_succ, List.getElem?_cons_zero]; first | done | rfl) (by rfl) (fun w _ => cpneq_read rfl rfl rfl w) ?_; (try simp only [Act.put, List.setIfInBounds_toArray, List.set_cons_zero, List.set_cons_succ]))
            | (refine seq_skip (by simp only [List.getElem?_toArray, List.getElem?_cons_succ, List.getElem?_cons_zero]; first | done | rfl) (by rfl) ?_; (try simp only [Act.put, List.setIfInBounds_toArray, List.set_cons_zero, List.set_cons_succ]))
            | (refine seq_reads (by simp only [List.getElem?_toArray, List.getElem?_cons_succ, List.getElem?_cons_zero]; first | done | rfl) (by rfl) ?_; apply Exists.intro; apply And.intro; (focus (intro w hSw; obtain ⟨hcS, -⟩ := bcell hSw; go_simp; (try with_reducible rfl); done)); (try simp only [Act.put, List.setIfInBounds_toArray, List.set_cons_zero, List.set_cons_succ]))
            | (refine seq_pass (by simp only [List.getElem?_toArray, List.getElem?_cons_succ, List.getElem?_cons_zero]; first | done | rfl) (by rfl) hHeld ?_; clear hHeld; intro hHeld; (try simp only [Act.put, List.setIfInBounds_toArray, List.set_cons_zero, List.set_cons_succ])))
          refine seq_end ?_
          have hm' := hm.below hHeld
          clear hHeld hm g0 g1 g2 g3 g4
          go_wp2
          go_roundw
          case rel => exact ⟨j + 1, by go_num, by omega, hm'⟩
          case measure => simp [intOf]; omega
        · have HLE : Hid (((P.1.copies.length : Int) == (wk.copies.length : Int) + 1) = true) := Lib.hid (by
            have hk4 : P.1.copies.length = wk.copies.length + 1 := HK4.out
            rw [hk4]; simp)
          obtain ⟨xc0, xc1, xc2⟩ := (hm.cells (x2.heap.size) (vA P.1 A1 c1) (by simp)).three
          obtain ⟨ec0, ec1, ec2⟩ := (hm.cells (x1.heap.size + 1) (eA e) (by simp)).three
          obtain ⟨wc0, wc1, wc2⟩ := (hm.cells (x1.heap.size) (vA wk A c) (by simp)).three
          go_wp2_with fail
          have hcall := implCopyIn P.1.name P.1.owner A1 P.1.copies c1 e _ (hm.list A1 c1 P.1.copies (by simp)).1 (by have := HSP.out.1; (try unfold maxLen); omega) (by have := HSP.out.2.1; (try unfold maxLen); omega) (fun x hx => by have := HSP.out.2.2 x hx; (try unfold maxLen); omega)
          rw [show M.copyIn ⟨P.1.name, P.1.owner, P.1.copies⟩ e = (⟨e, page, false⟩, true) from HK3.out] at hcall
          refine hcall.mono ?_
          rintro r xt ⟨rfl, bt⟩
          replace hm := (hm.below bt).new (cA ⟨e, page, false⟩) 39
          clear bt hcall
          clear xc0 xc1 xc2 ec0 ec1 ec2 wc0 wc1 wc2
          obtain ⟨xc0, xc1, xc2⟩ := (hm.cells (x2.heap.size) (vA P.1 A1 c1) (by simp)).three
          go_wp2_with fail
          have hcall := implWorkOk P.1.name P.1.owner A1 P.1.copies c1 _ (hm.list A1 c1 P.1.copies (by simp)).1 (by have := HSP.out.1; (try unfold maxLen); omega) (by have := HSP.out.2.1; (try unfold maxLen); omega) (fun x hx => by have := HSP.out.2.2 x hx; (try unfold maxLen); omega)
          rw [show M.wkOk ⟨P.1.name, P.1.owner, P.1.copies⟩ = true from HK1.out] at hcall
          refine hcall.mono ?_
          rintro r xu ⟨rfl, bu⟩
          replace hm := hm.below bu
          clear bu hcall
          clear xc0 xc1 xc2
          obtain ⟨xc0, xc1, xc2⟩ := (hm.cells (x2.heap.size) (vA P.1 A1 c1) (by simp)).three
          obtain ⟨ec0, ec1, ec2⟩ := (hm.cells (x1.heap.size + 1) (eA e) (by simp)).three
          obtain ⟨wc0, wc1, wc2⟩ := (hm.cells (x1.heap.size) (vA wk A c) (by simp)).three
          obtain ⟨ccc0, ccc1, ccc2, ccc3, ccc4⟩ := (hm.cells (xt.heap.size) (cA ⟨e, page, false⟩) (by simp)).five
          have hce := fun w => cp_eql ⟨e, page, false⟩ w
          simp only [cpV] at hce
          have hle := HLE.out
          go_wp2
          go_ret
          exact ⟨rfl, hm.1.1⟩

set_option maxRecDepth 100000 in
theorem lifted (os : Os) (started : os.Started) (H : Type) (enc : TypeId × Value → H) :
    ReturnsInHanded {} Try.checked os 3 .any (Rows.fnWorksSpec.pre6 enc Try.prog Try.f3 Rows.fnWorksRow.domain false) (Rows.fnWorksSpec.post enc Try.prog Try.f3 false true false false) := by
  refine returnsInHanded_of_change (C := Try.checked) own started (by kernel_rfl) Try.func3
    (ChangeSpec.witness6 (enc := enc) (C := Try.checked) false ⟨#[], #[.slice none 0 0], []⟩ 8 (by kernel_rfl) (by kernel_rfl) (by kernel_rfl) (by kernel_rfl)) ?_
  intro W base args ds gs before hval0 hW hcnd _
  have hval : ∀ (j : Nat) t v, Try.f3.params[j]? = some t → args[j]? = some v → Value.okWide Try.prog W .any base t v := hval0
  have hW' := hW
  obtain ⟨p, q, hA0, -⟩ := hW
  have hA : DataW.TrodAll enc Try.prog W 0 (fun _ => true) true Try.f3.params.toList args.toList ds p := hA0
  rw [Try.params3] at hA hval
  obtain ⟨v0, vs0, d0, ds0, p0, q0, hargs, rfl, rfl, h0, r0⟩ := trodAll_cons hA
  obtain ⟨rfl, rfl, rfl⟩ := trodAll_nil r0
  obtain rfl : args = #[v0] := by cases args; simp_all
  clear hA0 hval0
  have hv0 := hval 0 _ v0 rfl rfl
  obtain ⟨a0, len0, cap0, rfl, hc⟩ := open_code hv0 h0
  exact (walk a0 len0 cap0 W hc).mono fun r W' ⟨he, hb⟩ => ⟨_, he, law_post rfl rfl Try.underlying4 (by kernel_rfl) (n := 1)
    (fun ds' hd => by rcases ds' with _ | ⟨x0, _ | ⟨y, z⟩⟩ <;> simp at hd <;> exact ⟨rfl, rfl, rfl⟩) rfl hW' hb⟩

theorem over : Rows.fnWorksRow.holds Try.pinned (OpenSpec.ofChange Rows.fnWorksSpec) :=
  OpenClaim.holds_of_wide 3 Try.f3 rfl rfl rfl rfl rfl rfl rfl ⟨rfl, rfl, rfl, rfl, rfl⟩ rfl rfl rfl rfl rfl (by kernel_rfl) Try.func3 (by kernel_rfl)
    (of_decide_eq_true (by kernel_rfl)) (by unfold Func.isWrapper; first | (rw [if_pos (by decide +kernel)]; kernel_rfl) | (rw [if_neg (by decide +kernel)]; exact ⟨rfl, rfl⟩))
    (fun os started H enc _ => lifted os started H enc)

theorem proved : Rows.FnWorksSaid :=
  over
#print axioms proved
end Go.Proofs.Ytbdcehmcdoocgaa.fnWorks
