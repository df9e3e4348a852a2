/- Proved: the law FnPagesStay returns true at every list of bytes, and the list reads afterwards as before; no condition. -/
import Derived.Test.YtblcgbgcccjpcaaGreatPart46
import Derived.Test.YtblcgbgcccjpcaaGreatPart48
import Derived.Lib.SmallJoins
namespace Go.Proofs.YtblcgbgcccjpcaaGreat.fnPagesStay
open Go.ChangeShapes Go.WideShapes Go.ChangeAt Go.RowKit Go.Joins Go.Deep
open Go.ChangeMaps (open_string shut_string)
set_option linter.unusedVariables false

set_option maxRecDepth 100000 in
set_option maxHeartbeats 16000000 in
theorem walk (a0 : Option Addr) (len0 cap0 : Nat) (w : World) (hc : CodeOk w.heap.size w a0 len0) :
    Calls Tryz.prog 3 #[.slice a0 len0 cap0] w fun e w' => e = .returned (.bool true) ∧ Below w.heap.size w w' := by
  have HC := Lib.hid hc
  clear hc
  by_cases hbig : 4096 < len0
  · go_enter Tryz.func3, Tryz.ntmps3
    go_wp2_with fail
    refine (big_any a0 len0 cap0 _).mono ?_
    rintro e w' ⟨rfl, rfl⟩
    go_wp2
    go_ret
    exact ⟨rfl, Below.refl _ _⟩
  · have hl4 : len0 ≤ 4096 := by omega
    go_enter Tryz.func3, Tryz.ntmps3
    go_wp2_with fail
    refine (big_any a0 len0 cap0 _).mono ?_
    rintro e w' ⟨rfl, rfl⟩
    go_wp2_with fail
    refine (DrawAllOrdered_any _ a0 len0 cap0 hl4 HC.out).mono ?_
    rintro r x1 ⟨bv, AO, os, co, rfl, htop, hors, hol, hop, b1⟩
    obtain ⟨A1, c1, A2, c2, bs, ls, rfl, hs, hla, hbs, hbl⟩ := htop
    have hm := (Mem.start w).below b1
    have HB := Lib.hid (show BkO w.heap.size x1 A1 c1 bs A2 c2 ls from ⟨hs, hla⟩)
    have HBS := Lib.hid (show _ ∧ _ from ⟨hbs, hbl⟩)
    have HO := Lib.hid hors
    have HOP := Lib.hid hop
    clear b1 hs hla hbs hbl hors hop
    replace hm := hm.new (bkA A1 bs.length c1 A2 ls.length c2) 27
    replace HB := Lib.hid (HB.out.alloc (.cells (bkA A1 bs.length c1 A2 ls.length c2) 27))
    replace HO := Lib.hid (HO.out.alloc (.cells (bkA A1 bs.length c1 A2 ls.length c2) 27))
    obtain ⟨p0, p1⟩ := (hm.get (x1.heap.size) ((bkA A1 bs.length c1 A2 ls.length c2)) (by simp)).two
    go_wp2_with fail
    rcases hok : M.bkOk (bs.map Wr.wk) ls with _ | _
    · have hcall := fun W h1 h2 => specBookOk A1 bs c1 A2 ls c2 W h1 (by have := HBS.out.1.1; omega) (HBS.out.1.2.mono (by omega)) h2 (by have := HBS.out.2.1; omega)
      rw [hok] at hcall
      refine (hcall _ HB.out.read.1 HB.out.read.2).mono ?_
      rintro r x2 ⟨rfl, b2⟩
      have HM := Lib.hid (hm.below b2).1
      clear hcall b2 hm hok p0 p1
      go_wp2
      go_ret
      exact ⟨rfl, HM.out⟩
    have HS0 : Hid (M.sfOk (bs.map Wr.wk) = true) := Lib.hid (by simp only [M.bkOk, Bool.and_eq_true] at hok; exact hok.1)
    have hcall := fun W h1 h2 => specBookOk A1 bs c1 A2 ls c2 W h1 (by have := HBS.out.1.1; omega) (HBS.out.1.2.mono (by omega)) h2 (by have := HBS.out.2.1; omega)
    rw [hok] at hcall
    refine (hcall _ HB.out.read.1 HB.out.read.2).mono ?_
    rintro r x2 ⟨rfl, b2⟩
    have HB2 := Lib.hid (HB.out.below b2).read.1
    have HO2 := Lib.hid (HO.out.below b2)
    replace hm := hm.below b2
    have HNIL := Lib.hid HB.out.nils.1
    clear hcall b2 hok p0 p1 HB HO
    obtain ⟨p0, p1⟩ := (hm.get (x1.heap.size) ((bkA A1 bs.length c1 A2 ls.length c2)) (by simp)).two
    have HM := Lib.hid hm
    clear hm
    go_upto_block 0 with (fail)
    go_cut [5, 6] from 25 to 45 (fun s5 _ wx => ∃ (A : Option Addr) (ss : List Wr) (c : Nat), s5 = .slice A ss.length c ∧ M.Kept (bs.map Wr.wk) (ss.map Wr.wk) ∧ Wks wx A ss ∧ (∀ r ∈ ss, r.ad = none → r.cap = 0) ∧ Below x2.heap.size x2 wx)
    case first =>
      go_wp2_with fail
      go_loopw [5, 6] (fun s5 i wr => ∃ (j : Nat) (A : Option Addr) (ss : List Wr) (c : Nat), s5 = .slice A ss.length c ∧ i = .int .i64 j ∧ j ≤ os.length ∧ M.Kept (bs.map Wr.wk) (ss.map Wr.wk) ∧ Wks wr A ss ∧ (∀ r ∈ ss, r.ad = none → r.cap = 0) ∧ Below x2.heap.size x2 wr) (fun _ i _ => os.length - (intOf i).toNat)
      case atStart => exact ⟨0, A1, bs, c1, rfl, rfl, Nat.zero_le _, M.Kept.start HS0.out, HB2.out, HNIL.out, Below.refl _ _⟩
      case round =>
        clear p0 p1
        obtain ⟨j, A, ss, c, rfl, rfl, hj, hk, hw, hnl, hb⟩ := hrel
        have HK := Lib.hid hk
        have HW := Lib.hid hw
        have HNL := Lib.hid hnl
        have HBW := Lib.hid hb
        have HSM := Lib.hid (wrs_ok hk.ok)
        clear hk hw hnl hb
        by_cases hlt : j < os.length
        · by_cases h40 : j < 40
          · obtain ⟨ob, oo, rfl, zo, -, -, q0, q1, q2, q3, q4, q5, q6⟩ := Ors_at (HO2.out.below HBW.out) hlt
            obtain ⟨hn1, hp1⟩ : orIn 64 os[j] := HOP.out os[j] (List.getElem_mem hlt)
            go_wp2_with fail
            refine (implDoes A ss c os[j].deed _ HW.out (by have := HSM.out.1; omega) (HSM.out.2.mono (by omega)) (by omega) (by omega)).mono ?_
            rintro r x3 ⟨v, l', rfl, ho3, hm3, b3⟩
            obtain ⟨A', c', rfl, -, -⟩ := ho3.open
            have HE := Lib.hid (show M.Kept (bs.map Wr.wk) (l'.map Wr.wk) ∧ Wks x3 A' l' ∧ (∀ r ∈ l', r.ad = none → r.cap = 0) ∧ Below x2.heap.size x2 x3 from ⟨by rw [hm3]; exact HK.out.does _, ho3.wks.1, fun r hr k => (ho3.2.1 r hr).nilc k, next HBW.out b3⟩)
            clear ho3 hm3 b3 q0 q1 q2 q3 q4 q5 q6 zo
            go_wp2
            go_roundw
            case rel => exact ⟨j + 1, A', l', c', rfl, by go_num, by omega, HE.out.1, HE.out.2.1, HE.out.2.2.1, HE.out.2.2.2⟩
            case measure => simp [intOf]; omega
          · go_wp2
            go_meet
            exact ⟨A, ss, c, rfl, HK.out, HW.out, HNL.out, HBW.out⟩
        · go_wp2
          go_meet
          exact ⟨A, ss, c, rfl, HK.out, HW.out, HNL.out, HBW.out⟩
    case rest =>
      obtain ⟨A, ss, c, rfl, hk, hw, hnl, hb⟩ := hcut
      have HK := Lib.hid hk
      have HW := Lib.hid hw
      have HNL := Lib.hid hnl
      have HBW := Lib.hid hb
      have HSM := Lib.hid (wrs_ok hk.ok)
      have HF : Hid (∀ x, Below wc.heap.size wc x → Holds x x1.heap.size (bkA A1 bs.length c1 A2 ls.length c2) ∧ Wks x A1 bs) := Lib.hid (fun x h => ⟨((HM.out.get (x1.heap.size) ((bkA A1 bs.length c1 A2 ls.length c2)) (by simp)).below HBW.out).below h, (HB2.out.below HBW.out).below h⟩)
      clear hk hw hnl hb p0 p1
      go_wp2_with fail
      go_loopw [7] (fun s7 wr => ∃ i : Nat, s7 = .int .i64 i ∧ i ≤ bs.length ∧ Below wc.heap.size wc wr) (fun s7 _ => bs.length - (intOf s7).toNat)
      case atStart => exact ⟨0, rfl, Nat.zero_le _, Below.refl _ _⟩
      case round =>
        obtain ⟨i, rfl, hi, hb⟩ := hrel
        have HBI := Lib.hid hb
        obtain ⟨p0, p1⟩ := (HF.out _ hb).1.two
        clear hb
        by_cases hlt : i < bs.length
        · have hi6 := HBS.out.1.1
          have hk64 := (HBS.out.1.2 (bs[i]) (List.getElem_mem hlt)).2.1
          obtain ⟨b, o, hA1, lb, d0, d1, d2, hcb⟩ := Wks_at (HF.out _ HBI.out).2 hlt
          obtain ⟨w2, hw2, hwk2, hall⟩ := HK.out.work HS0.out (i := i) (by simpa using hlt)
          have ebi : (bs.map Wr.wk)[i]'(by simpa using hlt) = (bs[i]).wk := by simp
          rw [ebi] at hw2
          have hall2 : ∀ k (hk : k < (bs[i]).cps.length), ∃ cc, M.copyIn w2 ((bs[i]).cps[k]).ed = (cc, true) ∧ cc.page = ((bs[i]).cps[k]).page := fun k hk => by
            have h := hall k (by rw [ebi]; exact hk)
            simpa [Wr.wk] using h
          have HALL := Lib.hid hall2
          have HWK2 := Lib.hid hwk2
          clear hall hall2 hwk2 ebi
          subst hA1
          go_wp2_with fail
          have hcall := specWorkIn A ss c (bs[i]).name wr ((HW.out).below HBI.out) HNL.out (by have := HSM.out.1; omega) (HSM.out.2.mono (by omega))
          rw [show M.workIn (ss.map Wr.wk) (bs[i]).name = (w2, true) from hw2] at hcall
          refine hcall.mono ?_
          rintro r y1 ⟨⟨A5, c5, rfl, ho5⟩, b5⟩
          have HBY := Lib.hid (next HBI.out b5)
          have HC5 := Lib.hid ho5.cps.1
          have HSZ2 : Hid (w2.name.size ≤ 12 ∧ w2.copies.length ≤ 12 ∧ ∀ x ∈ w2.copies, x.page.size ≤ 12) := Lib.hid (M.wkOk_small HWK2.out)
          clear hcall hw2 b5 ho5 p0 p1 d0 d1 d2 hcb
          have h5 := holds_new y1 (wkL w2.name w2.owner A5 w2.copies.length c5) 44
          have ba := (Below.refl y1.heap.size y1).alloc (Nat.le_refl _) (.cells (wkL w2.name w2.owner A5 w2.copies.length c5) 44)
          have HY2 : Hid (Below wc.heap.size wc (y1.alloc (.cells (wkL w2.name w2.owner A5 w2.copies.length c5) 44))) := Lib.hid (next HBY.out ba)
          have HC6 := Lib.hid (HC5.out.below ba)
          have H5 := Lib.hid h5
          clear h5 ba
          go_wp2_with fail
          go_loopw [10] (fun s10 wr => ∃ k : Nat, s10 = .int .i64 k ∧ k ≤ (bs[i]).cps.length ∧ Below (y1.alloc (.cells (wkL w2.name w2.owner A5 w2.copies.length c5) 44)).heap.size (y1.alloc (.cells (wkL w2.name w2.owner A5 w2.copies.length c5) 44)) wr) (fun s10 _ => (bs[i]).cps.length - (intOf s10).toNat)
          case atStart => exact ⟨0, rfl, Nat.zero_le _, Below.refl _ _⟩
          case round =>
            obtain ⟨k, rfl, hk, hb⟩ := hrel
            have HBK := Lib.hid hb
            have HBC := Lib.hid (next HY2.out hb)
            obtain ⟨p0, p1⟩ := (HF.out _ HBC.out).1.two
            have zp := (HF.out _ HBC.out).1.1
            obtain ⟨b', o', hA2, lb', d0, d1, d2, hcb⟩ := Wks_at (HF.out _ HBC.out).2 hlt
            obtain ⟨rfl, rfl⟩ : b = b' ∧ o = o' := by simpa using hA2
            obtain ⟨t0, t1, t2⟩ := (H5.out.below hb).three
            have zt := (H5.out.below hb).1
            have hcps := HC6.out.below hb
            clear hb hA2
            by_cases hkl : k < (bs[i]).cps.length
            · obtain ⟨cc, hcc, hpg⟩ := HALL.out k hkl
              obtain ⟨bb, ob', hA7, lc, e0, e1, e2, e3, e4⟩ := Cps_at hcb hkl
              have HCI := Lib.hid (fun W h => by
                have hcall := specCopyIn w2.name w2.owner A5 w2.copies c5 ((bs[i]).cps[k]).ed W h (by have := HSZ2.out.1; unfold maxLen; omega) (by have := HSZ2.out.2.1; omega) (fun x hx => by have := HSZ2.out.2.2 x hx; unfold maxLen; omega)
                rw [show M.copyIn ⟨w2.name, w2.owner, w2.copies⟩ ((bs[i]).cps[k]).ed = (cc, true) from hcc] at hcall
                exact hcall)
              have HPG := Lib.hid hpg
              clear hcc hpg hcb
              rw [hA7] at d2
              go_upto_region 20 with (fail)
              go_cut [11, 12] (fun s11 s12 wx => s12 = .bool true ∧ BoxAt wr #[.int .i64 cc.ed.ma, .int .i64 cc.ed.mi, .int .i64 cc.ed.pa, .string cc.page, .bool cc.hidden] s11 wx)
              case first =>
                refine wp_region_tq (fun w' => Below wr.heap.size wr w') (.read 0 (.read 1 (.read 2 (.read 3 (.read 4 (.read 5 (.read 6 (.read 7 (.read 8 (.read 9 (.read 10 (.two 11 15 (.read 12 (.read 13 (.read 14 (.one 15 (.one 16 (.read 17 .done)))))) (.one 11 (.read 12 (.read 13 (.read 14 (.one 16 (.read 17 .done)))))))))))))))))) (by kernel_rfl) (by kernel_rfl) (fun _ _ _ _ _ h => h) (by kernel_rfl) (by decide) (Below.refl _ _).drew ?_
                intro hHeld
                generalize wr.drew = wd at hHeld ⊢
                repeat (first
                  | (refine tq_reads (by simp only [List.getElem?_toArray, List.getElem?_cons_succ, List.getElem?_cons_zero]; first | done | rfl) (by rfl) ?_; apply Exists.intro; apply And.intro; (focus (intro w hSw; obtain ⟨hcS, -⟩ := bcell hSw; go_simp; (try with_reducible rfl); done)); (try simp only [Act.put, List.setIfInBounds_toArray, List.set_cons_zero, List.set_cons_succ]))
                  | (refine tq_two ?_ ?_)
                  | (refine tq_three ?_ ?_ ?_)
                  | (refine tq_one (by simp only [List.getElem?_toArray, List.getElem?_cons_succ, List.getElem?_cons_zero]; first | done | rfl) (by rfl) (fun K hK => ?_); go_simp; go_at_call 14; refine (HCI.out _ (hcps.below hHeld)).mono ?_; rintro r w1 ⟨rfl, b1⟩; go_simp; refine hK.out _ _ _ (fun _ h => h) (next hHeld b1) ?_; clear hK hHeld; intro hHeld; (try (replace fx := fx.below hx.1 b1; replace hx := hx.below b1)); (try simp only [Act.put, List.setIfInBounds_toArray, List.set_cons_zero, List.set_cons_succ]))
                  | (refine tq_one (by simp only [List.getElem?_toArray, List.getElem?_cons_succ, List.getElem?_cons_zero]; first | done | rfl) (by rfl) (fun K hK => ?_); go_simp; refine hK.out _ _ _ (fun _ h => h) (hHeld.alloc hHeld.size _) ?_; clear hK; intro hS; refine tq_alloc ?_ hS; clear hS; intro wA bA hx fx hS; have hge := hHeld.size; clear hHeld; have hHeld := hS; clear hS bA; (try simp only [Act.put, List.setIfInBounds_toArray, List.set_cons_zero, List.set_cons_succ]))
                  | (refine tq_one (by simp only [List.getElem?_toArray, List.getElem?_cons_succ, List.getElem?_cons_zero]; first | done | rfl) (by rfl) (fun K hK => ?_); obtain ⟨x0, x1, x2, x3, x4⟩ := hx.at5; obtain ⟨y0, y1, y2, y3, y4⟩ := fx.fz5; go_simp; refine hK.out _ _ _ (fun _ h => h) (far_5 hHeld hge _ _ _ _ _ ) ?_; clear hK hHeld; intro hHeld; (try simp only [Act.put, List.setIfInBounds_toArray, List.set_cons_zero, List.set_cons_succ]))
                  | (refine tq_end ?_; go_wp2; go_meet; exact ⟨rfl, _, rfl, hge, hHeld, hx.wr5 _ _ _ _ _, fx.wr5 _ _ _ _ _⟩))
              case rest =>
              obtain ⟨rfl, G, rfl, hG, bx, hx, -⟩ := hcut
              have HBX := Lib.hid bx
              clear p0 p1 zp d0 d1 d2 t0 t1 t2 zt hcps lb' lb lc e0 e1 e2 e3 e4
              have hBC := next HBC.out HBX.out
              obtain ⟨p0, p1⟩ := (HF.out _ hBC).1.two
              have zp := (HF.out _ hBC).1.1
              obtain ⟨b3, o3, hA3, lb3, d0, d1, d2, hcb⟩ := Wks_at (HF.out _ hBC).2 hlt
              obtain ⟨rfl, rfl⟩ : b = b3 ∧ o = o3 := by simpa using hA3
              obtain ⟨bb3, ob3, hA8, lc, e0, e1, e2, e3, e4⟩ := Cps_at hcb hkl
              rw [hA8] at d2
              obtain ⟨m0, m1, m2, m3, m4⟩ := hx.at5
              rw [HPG.out] at m3
              have zG := hx.1
              have hne : (((bs[i]).cps[k]).page.toList != ((bs[i]).cps[k]).page.toList) = false := by simp
              clear hcb hBC hA3 bx hx
              go_upto_region 21 with (fail)
              refine wp_region_seq (fun w' => Below wc.heap.size wc w') [(0, true), (1, true), (2, true), (3, true), (4, true), (5, true), (6, true), (7, true), (8, true), (9, true), (10, true), (11, true), (12, true), (13, true), (14, true), (15, true), (16, true)] (by kernel_rfl) (by kernel_rfl) (fun _ _ _ _ _ h => h) (by kernel_rfl) (by decide) (Below.refl _ _).drew ?_
              intro hHeld
              repeat (first
                | (refine seq_skip (by simp only [List.getElem?_toArray, List.getElem?_cons_succ, List.getElem?_cons_zero]; first | done | rfl) (by rfl) ?_; (try simp only [Act.put, List.setIfInBounds_toArray, List.set_cons_zero, List.set_cons_succ]))
                | (refine seq_reads (by simp only [List.getElem?_toArray, List.getElem?_cons_succ, List.getElem?_cons_zero]; first | done | rfl) (by rfl) ?_; apply Exists.intro; apply And.intro; (focus (intro w hSw; obtain ⟨hcS, -⟩ := bcell hSw; go_simp; (try with_reducible rfl); done)); (try simp only [Act.put, List.setIfInBounds_toArray, List.set_cons_zero, List.set_cons_succ]))
                | (refine seq_pass (by simp only [List.getElem?_toArray, List.getElem?_cons_succ, List.getElem?_cons_zero]; first | done | rfl) (by rfl) hHeld ?_; clear hHeld; intro hHeld; (try simp only [Act.put, List.setIfInBounds_toArray, List.set_cons_zero, List.set_cons_succ])))
              refine seq_end ?_
              have HE := Lib.hid (next (next HBK.out HBX.out) hHeld)
              clear p0 p1 zp d0 d1 d2 e0 e1 e2 e3 e4 m0 m1 m2 m3 m4 zG hne lb3 lc hHeld
              go_wp2
              go_roundw
              case rel => exact ⟨k + 1, by go_num, by omega, HE.out⟩
              case measure => simp [intOf]; omega
            · go_wp2
              go_roundw
              case rel => exact ⟨i + 1, by go_num, by omega, HBC.out⟩
              case measure => simp [intOf]; omega
        · have hcall := fun W h => specShelfOk A ss c W h (by have := HSM.out.1; omega) (HSM.out.2.mono (by omega))
          rw [HK.out.ok] at hcall
          go_wp2_with fail
          refine (hcall _ (HW.out.below HBI.out)).mono ?_
          rintro r y1 ⟨rfl, b5⟩
          have HE := Lib.hid (next (HM.out.1.trans ((HBW.out.trans (HBI.out.mono HBW.out.size)).mono HM.out.1.size)) b5)
          clear hcall b5 p0 p1
          go_wp2
          go_ret
          exact ⟨rfl, HE.out⟩

set_option maxRecDepth 100000 in
theorem lifted (os : Os) (started : os.Started) (H : Type) (enc : TypeId × Value → H) :
    ReturnsInHanded {} Tryz.checked os 3 .any (Rows.fnPagesStaySpec.pre6 enc Tryz.prog Tryz.f3 Rows.fnPagesStayRow.domain false) (Rows.fnPagesStaySpec.post enc Tryz.prog Tryz.f3 false true false false) := by
  refine returnsInHanded_of_change (C := Tryz.checked) own started (by kernel_rfl) Tryz.func3
    (ChangeSpec.witness6 (enc := enc) (C := Tryz.checked) false ⟨#[], #[.slice none 0 0], []⟩ 8 (by kernel_rfl) (by kernel_rfl) (by kernel_rfl) (by kernel_rfl)) ?_
  intro W base args ds gs before hval0 hW hcnd _
  have hval : ∀ (j : Nat) t v, Tryz.f3.params[j]? = some t → args[j]? = some v → Value.okWide Tryz.prog W .any base t v := hval0
  have hW' := hW
  obtain ⟨p, q, hA0, -⟩ := hW
  have hA : DataW.TrodAll enc Tryz.prog W 0 (fun _ => true) true Tryz.f3.params.toList args.toList ds p := hA0
  rw [Tryz.params3] at hA hval
  obtain ⟨v0, vs0, d0, ds0, p0, q0, hargs, rfl, rfl, h0, r0⟩ := trodAll_cons hA
  obtain ⟨rfl, rfl, rfl⟩ := trodAll_nil r0
  obtain rfl : args = #[v0] := by cases args; simp_all
  clear hA0 hval0
  have hv0 := hval 0 _ v0 rfl rfl
  obtain ⟨a0, len0, cap0, rfl, hc⟩ := open_code hv0 h0
  exact (walk a0 len0 cap0 W hc).mono fun r W' ⟨he, hb⟩ => ⟨_, he, law_post rfl rfl Tryz.underlying4 (by kernel_rfl) (n := 1)
    (fun ds' hd => by rcases ds' with _ | ⟨x0, _ | ⟨y, z⟩⟩ <;> simp at hd <;> exact ⟨rfl, rfl, rfl⟩) rfl hW' hb⟩

theorem over : Rows.fnPagesStayRow.holds Tryz.pinned (OpenSpec.ofChange Rows.fnPagesStaySpec) :=
  OpenClaim.holds_of_wide 3 Tryz.f3 rfl rfl rfl rfl rfl rfl rfl ⟨rfl, rfl, rfl, rfl, rfl⟩ rfl rfl rfl rfl rfl (by kernel_rfl) Tryz.func3 (by kernel_rfl)
    (of_decide_eq_true (by kernel_rfl)) (by unfold Func.isWrapper; first | (rw [if_pos (by decide +kernel)]; kernel_rfl) | (rw [if_neg (by decide +kernel)]; exact ⟨rfl, rfl⟩))
    (fun os started H enc _ => lifted os started H enc)

theorem proved : Rows.FnPagesStaySaid :=
  over
#print axioms proved
end Go.Proofs.YtblcgbgcccjpcaaGreat.fnPagesStay
