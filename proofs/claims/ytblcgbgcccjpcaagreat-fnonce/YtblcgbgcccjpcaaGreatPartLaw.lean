/- Proved: the law FnOnce returns true at every list of bytes, and the list reads afterwards as before; no condition. -/
import Derived.Test.YtblcgbgcccjpcaaGreatPart50
import Derived.Test.YtblcgbgcccjpcaaGreatPart51
import Derived.Test.YtblcgbgcccjpcaaGreatPart24
import Derived.Test.YtblcgbgcccjpcaaGreatPart23
import Derived.Test.YtblcgbgcccjpcaaGreatPart53
import Derived.Lib.SmallJoins
namespace Go.Proofs.YtblcgbgcccjpcaaGreat.fnOnce
open Go.ChangeShapes Go.WideShapes Go.ChangeAt Go.RowKit Go.Joins Go.Deep
open Go.ChangeMaps (open_string shut_string)
set_option linter.unusedVariables false

set_option maxRecDepth 100000 in
set_option maxHeartbeats 16000000 in
theorem walk (a0 : Option Addr) (len0 cap0 : Nat) (w : World) (hc : CodeOk w.heap.size w a0 len0) :
    Calls Tryz.prog 4 #[.slice a0 len0 cap0] w fun e w' => e = .returned (.bool true) ∧ Below w.heap.size w w' := by
  have HC := Lib.hid hc
  clear hc
  by_cases hbig : 4096 < len0
  · go_enter Tryz.func4, Tryz.ntmps4
    go_wp2_with fail
    refine (big_any a0 len0 cap0 _).mono ?_
    rintro e w' ⟨rfl, rfl⟩
    go_wp2
    go_ret
    exact ⟨rfl, Below.refl _ _⟩
  · have hl4 : len0 ≤ 4096 := by omega
    go_enter Tryz.func4, Tryz.ntmps4
    go_wp2_with fail
    refine (big_any a0 len0 cap0 _).mono ?_
    rintro e w' ⟨rfl, rfl⟩
    go_wp2_with fail
    refine (DrawOrdered_any _ a0 len0 cap0 hl4 HC.out).mono ?_
    rintro r x1 ⟨bv, o, rfl, htop, ho, b1⟩
    obtain ⟨A1, c1, A2, c2, rs, ls, rfl, hbr, hba, hbn, hbs, hbl⟩ := htop.open
    have hm := (Mem.start w).below b1
    have HB := Lib.hid hbr
    have HBA := Lib.hid (show _ ∧ _ from ⟨hba, hbn⟩)
    have HBS := Lib.hid (show _ ∧ _ from ⟨hbs, hbl⟩)
    clear b1 htop hbr hba hbn hbs hbl
    replace hm := hm.new (bkA A1 rs.length c1 A2 ls.length c2) 27
    replace HB := Lib.hid (HB.out.alloc (.cells (bkA A1 rs.length c1 A2 ls.length c2) 27))
    replace hm := hm.new (orC o) 41
    replace HB := Lib.hid (HB.out.alloc (.cells (orC o) 41))
    simp only [World.size_alloc] at hm
    obtain ⟨p0, p1⟩ := (hm.get (x1.heap.size) ((bkA A1 rs.length c1 A2 ls.length c2)) (by simp)).two
    obtain ⟨q0, q1, q2, q3, q4, q5, q6, q7, q8⟩ := (hm.get ((x1.heap.size + 1)) (orC o) (by simp)).nine
    go_wp2_with fail
    refine (implOrdered A1 rs c1 A2 ls c2 o _ HB.out.1 (by have := HBS.out.1.1; omega) (HBS.out.1.2.mono (by omega)) HB.out.2 (by have := HBS.out.2.1; omega) (fun y hy => Nat.le_trans (HBS.out.2.2 y hy) (by omega)) (by have := ho.1; omega) (by have := ho.2; omega)).mono ?_
    rintro r x2 hr
    obtain ⟨A3, c3, A4, c4, r3, rfl, hxr, hxm, -, -, b2⟩ := hr.read
    have HX := Lib.hid hxr
    have HXM := Lib.hid hxm
    have HL5 := Lib.hid ((M.ord_ok (rs.map Wr.wk, ls) o).2)
    have HXI := Lib.hid (M.ordered_in (o := o) HBS.out.1.2 HBS.out.2.2)
    replace hm := hm.below b2
    replace HB := Lib.hid (HB.out.below b2)
    clear b2 hr hxr hxm
    clear p0 p1 q0 q1 q2 q3 q4 q5 q6 q7 q8
    replace hm := hm.new (bkA A3 r3.length c3 A4 (M.ordered (rs.map Wr.wk, ls) o).1.2.length c4) 27
    replace HB := Lib.hid (HB.out.alloc (.cells (bkA A3 r3.length c3 A4 (M.ordered (rs.map Wr.wk, ls) o).1.2.length c4) 27))
    replace HX := Lib.hid (HX.out.alloc (.cells (bkA A3 r3.length c3 A4 (M.ordered (rs.map Wr.wk, ls) o).1.2.length c4) 27))
    replace hm := hm.new (rpA (M.ordered (rs.map Wr.wk, ls) o).2.1 (M.ordered (rs.map Wr.wk, ls) o).2.2) 33
    replace HB := Lib.hid (HB.out.alloc (.cells (rpA (M.ordered (rs.map Wr.wk, ls) o).2.1 (M.ordered (rs.map Wr.wk, ls) o).2.2) 33))
    replace HX := Lib.hid (HX.out.alloc (.cells (rpA (M.ordered (rs.map Wr.wk, ls) o).2.1 (M.ordered (rs.map Wr.wk, ls) o).2.2) 33))
    simp only [World.size_alloc] at hm
    have HCC := Lib.hid (HC.out.later hm.1)
    go_wp2_with fail
    refine (DrawLastOf_any _ a0 len0 cap0 hl4 HCC.out).mono ?_
    rintro r x3 ⟨qv, n, rfl, htop, b3⟩
    obtain ⟨A5, c5, A6, c6, r5, l5, rfl, hqr, -, -, hqs, hql⟩ := htop.open
    have HQ := Lib.hid hqr
    have HQS := Lib.hid hql
    replace hm := hm.below b3
    replace HB := Lib.hid (HB.out.below b3)
    replace HX := Lib.hid (HX.out.below b3)
    clear b3 htop hqr hqs hql HCC
    replace hm := hm.new (bkA A5 r5.length c5 A6 l5.length c6) 27
    replace HB := Lib.hid (HB.out.alloc (.cells (bkA A5 r5.length c5 A6 l5.length c6) 27))
    replace HX := Lib.hid (HX.out.alloc (.cells (bkA A5 r5.length c5 A6 l5.length c6) 27))
    replace HQ := Lib.hid (HQ.out.alloc (.cells (bkA A5 r5.length c5 A6 l5.length c6) 27))
    obtain ⟨p0, p1⟩ := (hm.get (x3.heap.size) ((bkA A5 r5.length c5 A6 l5.length c6)) (by simp)).two
    go_wp2_with fail
    refine (implLastOf A5 r5.length c5 A6 l5 c6 n _ HQ.out.2 (by have := HQS.out.1; omega) (fun y hy => Nat.le_trans (HQS.out.2 y hy) (by omega))).mono ?_
    rintro r x4 ⟨rfl, b4⟩
    replace hm := hm.below b4
    replace HB := Lib.hid (HB.out.below b4)
    replace HX := Lib.hid (HX.out.below b4)
    replace HQ := Lib.hid (HQ.out.below b4)
    clear b4
    clear p0 p1
    replace hm := hm.new (laA (M.lastOf l5 n).1) 59
    replace HB := Lib.hid (HB.out.alloc (.cells (laA (M.lastOf l5 n).1) 59))
    replace HX := Lib.hid (HX.out.alloc (.cells (laA (M.lastOf l5 n).1) 59))
    replace HQ := Lib.hid (HQ.out.alloc (.cells (laA (M.lastOf l5 n).1) 59))
    obtain ⟨p0, p1⟩ := (hm.get (x1.heap.size) ((bkA A1 rs.length c1 A2 ls.length c2)) (by simp)).two
    obtain ⟨q0, q1, q2, q3, q4, q5, q6, q7, q8⟩ := (hm.get ((x1.heap.size + 1)) (orC o) (by simp)).nine
    go_wp2_with fail
    refine (specOrdered A1 rs c1 A2 ls c2 o _ HB.out.1 HBA.out.1 (by have := HBS.out.1.1; omega) (HBS.out.1.2.mono (by omega)) HB.out.2 HBA.out.2 (by have := HBS.out.2.1; omega) (by have := ho.1; omega) (by have := ho.2; omega)).mono ?_
    rintro r x5 hr
    obtain ⟨A7, c7, A8, c8, r7, rfl, hyr, hym, -, -, b5⟩ := hr.read
    have HY := Lib.hid hyr
    have HYM := Lib.hid hym
    replace hm := hm.below b5
    replace HB := Lib.hid (HB.out.below b5)
    replace HX := Lib.hid (HX.out.below b5)
    replace HQ := Lib.hid (HQ.out.below b5)
    clear b5 hr hyr hym
    clear p0 p1 q0 q1 q2 q3 q4 q5 q6 q7 q8
    replace hm := hm.new (bkA A7 r7.length c7 A8 (M.ordered (rs.map Wr.wk, ls) o).1.2.length c8) 27
    replace HB := Lib.hid (HB.out.alloc (.cells (bkA A7 r7.length c7 A8 (M.ordered (rs.map Wr.wk, ls) o).1.2.length c8) 27))
    replace HX := Lib.hid (HX.out.alloc (.cells (bkA A7 r7.length c7 A8 (M.ordered (rs.map Wr.wk, ls) o).1.2.length c8) 27))
    replace HQ := Lib.hid (HQ.out.alloc (.cells (bkA A7 r7.length c7 A8 (M.ordered (rs.map Wr.wk, ls) o).1.2.length c8) 27))
    replace HY := Lib.hid (HY.out.alloc (.cells (bkA A7 r7.length c7 A8 (M.ordered (rs.map Wr.wk, ls) o).1.2.length c8) 27))
    replace hm := hm.new (rpA (M.ordered (rs.map Wr.wk, ls) o).2.1 (M.ordered (rs.map Wr.wk, ls) o).2.2) 33
    replace HB := Lib.hid (HB.out.alloc (.cells (rpA (M.ordered (rs.map Wr.wk, ls) o).2.1 (M.ordered (rs.map Wr.wk, ls) o).2.2) 33))
    replace HX := Lib.hid (HX.out.alloc (.cells (rpA (M.ordered (rs.map Wr.wk, ls) o).2.1 (M.ordered (rs.map Wr.wk, ls) o).2.2) 33))
    replace HQ := Lib.hid (HQ.out.alloc (.cells (rpA (M.ordered (rs.map Wr.wk, ls) o).2.1 (M.ordered (rs.map Wr.wk, ls) o).2.2) 33))
    replace HY := Lib.hid (HY.out.alloc (.cells (rpA (M.ordered (rs.map Wr.wk, ls) o).2.1 (M.ordered (rs.map Wr.wk, ls) o).2.2) 33))
    simp only [World.size_alloc] at hm
    go_upto_region 8 with (fail)
    generalize hW6 : World.alloc _ _ = x6 at hm HB HX HQ HY ⊢
    clear hW6
    obtain ⟨p0, p1⟩ := (hm.get (x1.heap.size) ((bkA A1 rs.length c1 A2 ls.length c2)) (by simp)).two
    obtain ⟨q0, q1, q2, q3, q4, q5, q6, q7, q8⟩ := (hm.get ((x1.heap.size + 1)) (orC o) (by simp)).nine
    obtain ⟨s0, s1⟩ := (hm.get (x2.heap.size) ((bkA A3 r3.length c3 A4 (M.ordered (rs.map Wr.wk, ls) o).1.2.length c4)) (by simp)).two
    obtain ⟨t0, t1⟩ := (hm.get ((x2.heap.size + 1)) (rpA (M.ordered (rs.map Wr.wk, ls) o).2.1 (M.ordered (rs.map Wr.wk, ls) o).2.2) (by simp)).two
    obtain ⟨u0, u1⟩ := (hm.get (x5.heap.size) ((bkA A7 r7.length c7 A8 (M.ordered (rs.map Wr.wk, ls) o).1.2.length c8)) (by simp)).two
    obtain ⟨v0, v1⟩ := (hm.get ((x5.heap.size + 1)) (rpA (M.ordered (rs.map Wr.wk, ls) o).2.1 (M.ordered (rs.map Wr.wk, ls) o).2.2) (by simp)).two
    have z1 := (hm.get (x1.heap.size) ((bkA A1 rs.length c1 A2 ls.length c2)) (by simp)).1
    have z2 := (hm.get ((x1.heap.size + 1)) (orC o) (by simp)).1
    have z3 := (hm.get (x2.heap.size) ((bkA A3 r3.length c3 A4 (M.ordered (rs.map Wr.wk, ls) o).1.2.length c4)) (by simp)).1
    have z4 := (hm.get ((x2.heap.size + 1)) (rpA (M.ordered (rs.map Wr.wk, ls) o).2.1 (M.ordered (rs.map Wr.wk, ls) o).2.2) (by simp)).1
    have z5 := (hm.get (x5.heap.size) ((bkA A7 r7.length c7 A8 (M.ordered (rs.map Wr.wk, ls) o).1.2.length c8)) (by simp)).1
    have z6 := (hm.get ((x5.heap.size + 1)) (rpA (M.ordered (rs.map Wr.wk, ls) o).2.1 (M.ordered (rs.map Wr.wk, ls) o).2.2) (by simp)).1
    have hne : (M.bkOk (rs.map Wr.wk) ls != M.bkOk (rs.map Wr.wk) ls) = false := by simp
    have hne2 : (M.orderOk o != M.orderOk o) = false := by simp
    refine wp_region_seq (fun w' => Below x6.heap.size x6 w') [(0, true), (1, true), (2, false), (3, true), (4, true), (5, true), (6, true), (7, true), (8, true), (9, true), (10, true), (12, true), (11, false), (13, false), (14, true), (15, true), (16, true), (17, true), (19, true), (18, false), (20, false), (21, true), (22, true)] (by kernel_rfl) (by kernel_rfl) (fun _ _ _ _ _ h => h) (by kernel_rfl) (by decide) (Below.refl _ _).drew ?_
    intro hHeld
    repeat (first
      | (refine seq_read (by simp only [List.getElem?_toArray, List.getElem?_cons_succ, List.getElem?_cons_zero]; first | done | rfl) (by rfl) (fun w _ => rpneq_read (c := (M.ordered (rs.map Wr.wk, ls) o).2) rfl rfl rfl w) ?_; (try simp only [Act.put, List.setIfInBounds_toArray, List.set_cons_zero, List.set_cons_succ]))
      | (refine seq_skip (by simp only [List.getElem?_toArray, List.getElem?_cons_succ, List.getElem?_cons_zero]; first | done | rfl) (by rfl) ?_; (try simp only [Act.put, List.setIfInBounds_toArray, List.set_cons_zero, List.set_cons_succ]))
      | (refine seq_reads (by simp only [List.getElem?_toArray, List.getElem?_cons_succ, List.getElem?_cons_zero]; first | done | rfl) (by rfl) ?_; apply Exists.intro; apply And.intro; (focus (intro w hSw; obtain ⟨hcS, -⟩ := bcell hSw; go_simp; (try with_reducible rfl); done)); (try simp only [Act.put, List.setIfInBounds_toArray, List.set_cons_zero, List.set_cons_succ]))
      | (refine seq_pass (by simp only [List.getElem?_toArray, List.getElem?_cons_succ, List.getElem?_cons_zero]; first | done | rfl) (by rfl) hHeld ?_; clear hHeld; intro hHeld; (try simp only [Act.put, List.setIfInBounds_toArray, List.set_cons_zero, List.set_cons_succ]))
      | (refine seq_call (by simp only [List.getElem?_toArray, List.getElem?_cons_succ, List.getElem?_cons_zero]; first | done | rfl) (by rfl) (fun K hK => ?_); go_simp; go_at_call 21; refine (likeBook_same A3 r3 c3 A4 (M.ordered (rs.map Wr.wk, ls) o).1.2 c4 A7 r7 _ c7 A8 c8 _ (HX.out.below hHeld).1 (HY.out.below hHeld).1 (HYM.out.trans HXM.out.symm) rfl (by have := (ord_small HXM.out).1; omega) (fun r hr => by have := ((ord_small HXM.out).2 r hr).2.1; omega) (HX.out.below hHeld).2 (HY.out.below hHeld).2 (by have := HL5.out; omega)).mono ?_; rintro r w1 ⟨rfl, b1⟩; go_simp; refine hK.out _ _ (next hHeld b1) ?_; clear hK hHeld; intro hHeld; (try simp only [Act.put, List.setIfInBounds_toArray, List.set_cons_zero, List.set_cons_succ]))
      | (refine seq_call (by simp only [List.getElem?_toArray, List.getElem?_cons_succ, List.getElem?_cons_zero]; first | done | rfl) (by rfl) (fun K hK => ?_); go_simp; go_at_call 22; refine (implBookOk A1 rs c1 A2 ls c2 _ (HB.out.below hHeld).1 (by have := HBS.out.1.1; omega) (HBS.out.1.2.mono (by omega)) (HB.out.below hHeld).2 (by have := HBS.out.2.1; omega)).mono ?_; rintro r w1 ⟨rfl, b1⟩; go_simp; refine hK.out _ _ (next hHeld b1) ?_; clear hK hHeld; intro hHeld; (try simp only [Act.put, List.setIfInBounds_toArray, List.set_cons_zero, List.set_cons_succ]))
      | (refine seq_call (by simp only [List.getElem?_toArray, List.getElem?_cons_succ, List.getElem?_cons_zero]; first | done | rfl) (by rfl) (fun K hK => ?_); go_simp; go_at_call 11; refine (specBookOk A1 rs c1 A2 ls c2 _ (HB.out.below hHeld).1 (by have := HBS.out.1.1; omega) (HBS.out.1.2.mono (by omega)) (HB.out.below hHeld).2 (by have := HBS.out.2.1; omega)).mono ?_; rintro r w1 ⟨rfl, b1⟩; go_simp; refine hK.out _ _ (next hHeld b1) ?_; clear hK hHeld; intro hHeld; (try simp only [Act.put, List.setIfInBounds_toArray, List.set_cons_zero, List.set_cons_succ]))
      | (refine seq_call (by simp only [List.getElem?_toArray, List.getElem?_cons_succ, List.getElem?_cons_zero]; first | done | rfl) (by rfl) (fun K hK => ?_); go_simp; go_at_call 23; refine (implOrderOk o _ (by have := ho.1; unfold maxLen; omega) (by have := ho.2; unfold maxLen; omega)).mono ?_; rintro r w1 ⟨rfl, b1⟩; go_simp; refine hK.out _ _ (next hHeld b1) ?_; clear hK hHeld; intro hHeld; (try simp only [Act.put, List.setIfInBounds_toArray, List.set_cons_zero, List.set_cons_succ]))
      | (refine seq_call (by simp only [List.getElem?_toArray, List.getElem?_cons_succ, List.getElem?_cons_zero]; first | done | rfl) (by rfl) (fun K hK => ?_); go_simp; go_at_call 24; refine (specOrderOk o _ (by have := ho.1; unfold maxLen; omega) (by have := ho.2; unfold maxLen; omega)).mono ?_; rintro r w1 ⟨rfl, b1⟩; go_simp; refine hK.out _ _ (next hHeld b1) ?_; clear hK hHeld; intro hHeld; (try simp only [Act.put, List.setIfInBounds_toArray, List.set_cons_zero, List.set_cons_succ])))
    refine seq_end ?_
    replace hm := hm.below hHeld
    replace HB := Lib.hid (HB.out.below hHeld)
    replace HX := Lib.hid (HX.out.below hHeld)
    replace HQ := Lib.hid (HQ.out.below hHeld)
    replace HY := Lib.hid (HY.out.below hHeld)
    clear hHeld p0 p1 q0 q1 q2 q3 q4 q5 q6 q7 q8 s0 s1 t0 t1 u0 u1 v0 v1 z1 z2 z3 z4 z5 z6 hne hne2 HY HYM
    obtain ⟨p0, p1⟩ := (hm.get (x3.heap.size) ((bkA A5 r5.length c5 A6 l5.length c6)) (by simp)).two
    go_wp2_with fail
    refine (specLastOf A5 r5.length c5 A6 l5 c6 n _ HQ.out.2 (by have := HQS.out.1; omega)).mono ?_
    rintro r x7 ⟨rfl, b7⟩
    replace hm := hm.below b7
    replace HB := Lib.hid (HB.out.below b7)
    replace HX := Lib.hid (HX.out.below b7)
    clear b7 HQ
    clear p0 p1
    replace hm := hm.new (laA (M.lastOf l5 n).1) 59
    replace HB := Lib.hid (HB.out.alloc (.cells (laA (M.lastOf l5 n).1) 59))
    replace HX := Lib.hid (HX.out.alloc (.cells (laA (M.lastOf l5 n).1) 59))
    obtain ⟨s0, s1, s2, s3⟩ := (hm.get (x4.heap.size) (laA (M.lastOf l5 n).1) (by simp)).four
    obtain ⟨t0, t1, t2, t3⟩ := (hm.get (x7.heap.size) (laA (M.lastOf l5 n).1) (by simp)).four
    obtain ⟨p0, p1⟩ := (hm.get (x1.heap.size) ((bkA A1 rs.length c1 A2 ls.length c2)) (by simp)).two
    obtain ⟨q0, q1, q2, q3, q4, q5, q6, q7, q8⟩ := (hm.get ((x1.heap.size + 1)) (orC o) (by simp)).nine
    have hne3 : ((M.lastOf l5 n).2 != (M.lastOf l5 n).2) = false := by simp
    go_wp2_with (refine wpList_run (by rfl) (laneq_read (c := (M.lastOf l5 n).1) rfl rfl rfl _) ?_)
    clear s0 s1 s2 s3 t0 t1 t2 t3 hne3
    rcases hok : M.bkOk (rs.map Wr.wk) ls with _ | _
    · have HE : Hid ((M.ordered (rs.map Wr.wk, ls) o).2.1 = 7) := Lib.hid (M.ordered_bad (.inl hok))
      have hcall := specBookOk A1 rs c1 A2 ls c2 _ HB.out.1 (by have := HBS.out.1.1; omega) (HBS.out.1.2.mono (by omega)) HB.out.2 (by have := HBS.out.2.1; omega)
      rw [hok] at hcall
      refine hcall.mono ?_
      rintro r x8 ⟨rfl, b8⟩
      replace hm := hm.below b8
      clear hcall b8 hok p0 p1 q0 q1 q2 q3 q4 q5 q6 q7 q8
      obtain ⟨t0, t1⟩ := (hm.get ((x2.heap.size + 1)) (rpA (M.ordered (rs.map Wr.wk, ls) o).2.1 (M.ordered (rs.map Wr.wk, ls) o).2.2) (by simp)).two
      rw [HE.out] at t0
      have HM := Lib.hid hm.1
      clear hm
      go_wp2
      go_ret
      exact ⟨rfl, HM.out⟩
    have hcall := specBookOk A1 rs c1 A2 ls c2 _ HB.out.1 (by have := HBS.out.1.1; omega) (HBS.out.1.2.mono (by omega)) HB.out.2 (by have := HBS.out.2.1; omega)
    rw [hok] at hcall
    refine hcall.mono ?_
    rintro r x8 ⟨rfl, b8⟩
    replace hm := hm.below b8
    replace HB := Lib.hid (HB.out.below b8)
    replace HX := Lib.hid (HX.out.below b8)
    clear hcall b8
    clear p0 p1 q0 q1 q2 q3 q4 q5 q6 q7 q8
    obtain ⟨q0, q1, q2, q3, q4, q5, q6, q7, q8⟩ := (hm.get ((x1.heap.size + 1)) (orC o) (by simp)).nine
    have HOK := Lib.hid hok
    clear hok
    rcases hoo : M.orderOk o with _ | _
    · have HE : Hid ((M.ordered (rs.map Wr.wk, ls) o).2.1 = 7) := Lib.hid (M.ordered_bad (.inr hoo))
      go_wp2_with fail
      have hcall := specOrderOk o x8 (by have := ho.1; unfold maxLen; omega) (by have := ho.2; unfold maxLen; omega)
      rw [hoo] at hcall
      refine hcall.mono ?_
      rintro r x9 ⟨rfl, b9⟩
      replace hm := hm.below b9
      clear hcall b9 hoo q0 q1 q2 q3 q4 q5 q6 q7 q8
      obtain ⟨t0, t1⟩ := (hm.get ((x2.heap.size + 1)) (rpA (M.ordered (rs.map Wr.wk, ls) o).2.1 (M.ordered (rs.map Wr.wk, ls) o).2.2) (by simp)).two
      rw [HE.out] at t0
      have HM := Lib.hid hm.1
      clear hm
      go_wp2
      go_ret
      exact ⟨rfl, HM.out⟩
    go_wp2_with fail
    have hcall := specOrderOk o x8 (by have := ho.1; unfold maxLen; omega) (by have := ho.2; unfold maxLen; omega)
    rw [hoo] at hcall
    refine hcall.mono ?_
    rintro r x9 ⟨rfl, b9⟩
    replace hm := hm.below b9
    replace HB := Lib.hid (HB.out.below b9)
    replace HX := Lib.hid (HX.out.below b9)
    have HOO := Lib.hid hoo
    clear hcall b9 hoo
    clear q0 q1 q2 q3 q4 q5 q6 q7 q8
    obtain ⟨p0, p1⟩ := (hm.get (x1.heap.size) ((bkA A1 rs.length c1 A2 ls.length c2)) (by simp)).two
    obtain ⟨q0, q1, q2, q3, q4, q5, q6, q7, q8⟩ := (hm.get ((x1.heap.size + 1)) (orC o) (by simp)).nine
    go_wp2_with fail
    by_cases hold : ∃ x, M.laGet ls o.client = some x ∧ o.seq < x.seq
    · obtain ⟨x, hx, hs⟩ := hold
      have HE := Lib.hid (M.ordered_old (b := (rs.map Wr.wk, ls)) HOK.out HOO.out hx hs)
      have hcall := specLastOf A1 rs.length c1 A2 ls c2 o.client x9 HB.out.2 (by have := HBS.out.2.1; omega)
      rw [M.lastOf_get hx] at hcall
      refine hcall.mono ?_
      rintro r x10 ⟨rfl, b10⟩
      replace hm := hm.below b10
      replace HB := Lib.hid (HB.out.below b10)
      replace HX := Lib.hid (HX.out.below b10)
      clear hcall b10 hx p0 p1 q0 q1 q2 q3 q4 q5 q6 q7 q8
      replace hm := hm.new (laA x) 59
      replace HB := Lib.hid (HB.out.alloc (.cells (laA x) 59))
      replace HX := Lib.hid (HX.out.alloc (.cells (laA x) 59))
      obtain ⟨s0, s1, s2, s3⟩ := (hm.get (x10.heap.size) (laA x) (by simp)).four
      obtain ⟨p0, p1⟩ := (hm.get (x1.heap.size) ((bkA A1 rs.length c1 A2 ls.length c2)) (by simp)).two
      obtain ⟨q0, q1, q2, q3, q4, q5, q6, q7, q8⟩ := (hm.get ((x1.heap.size + 1)) (orC o) (by simp)).nine
      have h2 := hm.get (x2.heap.size) ((bkA A3 r3.length c3 A4 (M.ordered (rs.map Wr.wk, ls) o).1.2.length c4)) (by simp)
      obtain ⟨t0, t1⟩ := (hm.get ((x2.heap.size + 1)) (rpA (M.ordered (rs.map Wr.wk, ls) o).2.1 (M.ordered (rs.map Wr.wk, ls) o).2.2) (by simp)).two
      rw [HE.out] at h2 t0
      obtain ⟨u0, u1⟩ := h2.two
      have hxm := HXM.out
      rw [HE.out] at hxm
      have hx2 := HX.out
      rw [HE.out] at hx2
      have HM := Lib.hid hm.1
      have HXX := Lib.hid hx2
      have HXN := Lib.hid hxm
      clear hm h2 hx2 hxm
      go_wp2_with fail
      refine (likeBook_same A3 r3 c3 A4 ls c4 A1 rs _ c1 A2 c2 _ HXX.out.1 HB.out.1 HXN.out.symm rfl (by have := (ord_small HXM.out).1; omega) (fun r hr => by have := ((ord_small HXM.out).2 r hr).2.1; omega) HXX.out.2 HB.out.2 (by have := HBS.out.2.1; omega)).mono ?_
      rintro r y1 ⟨rfl, b11⟩
      have HE2 := Lib.hid (next HM.out b11)
      clear b11
      go_wp2
      go_ret
      exact ⟨rfl, HE2.out⟩
    have hold' : ∀ x, M.laGet ls o.client = some x → ¬ o.seq < x.seq := fun x hx hs => hold ⟨x, hx, hs⟩
    obtain ⟨hn1, hn2, y, hn3, hn4, hn5, hn6⟩ := M.ordered_new (b := (rs.map Wr.wk, ls)) HOK.out HOO.out hold'
    have HN1 := Lib.hid hn1
    have HN2 := Lib.hid hn2
    have HN3 := Lib.hid hn3
    have HN4 := Lib.hid (show _ ∧ _ ∧ _ from ⟨hn4, hn5, hn6⟩)
    clear hn1 hn2 hn3 hn4 hn5 hn6
    obtain ⟨z, f, hz, hzf⟩ : ∃ z f, M.lastOf ls o.client = (z, f) ∧ (f = true → ¬ o.seq < z.seq) := by
      rcases hg : M.laGet ls o.client with _ | x
      · exact ⟨_, _, M.lastOf_none hg, fun h => by cases h⟩
      · exact ⟨_, _, M.lastOf_get hg, fun _ => hold' x hg⟩
    have hcall := specLastOf A1 rs.length c1 A2 ls c2 o.client x9 HB.out.2 (by have := HBS.out.2.1; omega)
    rw [hz] at hcall
    refine hcall.mono ?_
    rintro r x10 ⟨rfl, b10⟩
    replace hm := hm.below b10
    replace HB := Lib.hid (HB.out.below b10)
    replace HX := Lib.hid (HX.out.below b10)
    clear hcall b10 hz hold hold' p0 p1 q0 q1 q2 q3 q4 q5 q6 q7 q8
    replace hm := hm.new (laA z) 59
    replace HB := Lib.hid (HB.out.alloc (.cells (laA z) 59))
    replace HX := Lib.hid (HX.out.alloc (.cells (laA z) 59))
    have HZF := Lib.hid hzf
    clear hzf
    rcases f with _ | _
    all_goals
      try have hlt := HZF.out rfl
      obtain ⟨u0, u1⟩ := (hm.get (x2.heap.size) ((bkA A3 r3.length c3 A4 (M.ordered (rs.map Wr.wk, ls) o).1.2.length c4)) (by simp)).two
      obtain ⟨q0, q1, q2, q3, q4, q5, q6, q7, q8⟩ := (hm.get ((x1.heap.size + 1)) (orC o) (by simp)).nine
      obtain ⟨s0, s1, s2, s3⟩ := (hm.get (x10.heap.size) (laA z) (by simp)).four
      have e := M.ordered_eqQ HXM.out HN2.out
      go_wp2_with fail
      have hcall := fun W h1 h2 => implOrdered A3 r3 c3 A4 (M.ordered (rs.map Wr.wk, ls) o).1.2 c4 o W h1 (by have := (ord_small HXM.out).1; omega) ((ord_small HXM.out).2.mono (by omega)) h2 (by have := HL5.out; omega) (fun y hy => Nat.le_trans (HXI.out y hy) (by omega)) (by have := ho.1; omega) (by have := ho.2; omega)
      rw [e] at hcall
      refine (hcall _ HX.out.1 HX.out.2).mono ?_
      rintro r x11 hr
      obtain ⟨A9, c9, A10, c10, r9, rfl, hzr, hzm, -, -, b11⟩ := hr.read
      have HZ := Lib.hid hzr
      have HZM := Lib.hid hzm
      replace hm := hm.below b11
      replace HX := Lib.hid (HX.out.below b11)
      clear hcall e b11 hr hzr hzm s0 s1 s2 s3
      clear u0 u1 q0 q1 q2 q3 q4 q5 q6 q7 q8
      replace hm := hm.new (bkA A9 r9.length c9 A10 (M.ordered (rs.map Wr.wk, ls) o).1.2.length c10) 27
      replace HX := Lib.hid (HX.out.alloc (.cells (bkA A9 r9.length c9 A10 (M.ordered (rs.map Wr.wk, ls) o).1.2.length c10) 27))
      replace HZ := Lib.hid (HZ.out.alloc (.cells (bkA A9 r9.length c9 A10 (M.ordered (rs.map Wr.wk, ls) o).1.2.length c10) 27))
      replace hm := hm.new (rpA (M.ordered (rs.map Wr.wk, ls) o).2.1 (M.ordered (rs.map Wr.wk, ls) o).2.2) 33
      replace HX := Lib.hid (HX.out.alloc (.cells (rpA (M.ordered (rs.map Wr.wk, ls) o).2.1 (M.ordered (rs.map Wr.wk, ls) o).2.2) 33))
      replace HZ := Lib.hid (HZ.out.alloc (.cells (rpA (M.ordered (rs.map Wr.wk, ls) o).2.1 (M.ordered (rs.map Wr.wk, ls) o).2.2) 33))
      simp only [World.size_alloc] at hm
      obtain ⟨u0, u1⟩ := (hm.get (x2.heap.size) ((bkA A3 r3.length c3 A4 (M.ordered (rs.map Wr.wk, ls) o).1.2.length c4)) (by simp)).two
      obtain ⟨q0, q1, q2, q3, q4, q5, q6, q7, q8⟩ := (hm.get ((x1.heap.size + 1)) (orC o) (by simp)).nine
      go_wp2_with fail
      have hcall := fun W h2 => implLastOf A3 r3.length c3 A4 (M.ordered (rs.map Wr.wk, ls) o).1.2 c4 o.client W h2 (by have := HL5.out; omega) (fun y hy => Nat.le_trans (HXI.out y hy) (by omega))
      rw [HN3.out] at hcall
      refine (hcall _ HX.out.2).mono ?_
      rintro r x12 ⟨rfl, b12⟩
      replace hm := hm.below b12
      replace HX := Lib.hid (HX.out.below b12)
      replace HZ := Lib.hid (HZ.out.below b12)
      clear hcall b12
      clear u0 u1 q0 q1 q2 q3 q4 q5 q6 q7 q8
      replace hm := hm.new (laA y) 59
      replace HX := Lib.hid (HX.out.alloc (.cells (laA y) 59))
      replace HZ := Lib.hid (HZ.out.alloc (.cells (laA y) 59))
      obtain ⟨u0, u1⟩ := (hm.get (x2.heap.size) ((bkA A3 r3.length c3 A4 (M.ordered (rs.map Wr.wk, ls) o).1.2.length c4)) (by simp)).two
      go_wp2_with fail
      have hcall := fun W h1 h2 => implBookOk A3 r3 c3 A4 (M.ordered (rs.map Wr.wk, ls) o).1.2 c4 W h1 (by have := (ord_small HXM.out).1; omega) ((ord_small HXM.out).2.mono (by omega)) h2 (by have := HL5.out; omega)
      rw [HXM.out, HN1.out] at hcall
      refine (hcall _ HX.out.1 HX.out.2).mono ?_
      rintro r x13 ⟨rfl, b13⟩
      replace hm := hm.below b13
      replace HX := Lib.hid (HX.out.below b13)
      replace HZ := Lib.hid (HZ.out.below b13)
      clear hcall b13
      clear u0 u1
      obtain ⟨u0, u1⟩ := (hm.get (x2.heap.size) ((bkA A3 r3.length c3 A4 (M.ordered (rs.map Wr.wk, ls) o).1.2.length c4)) (by simp)).two
      obtain ⟨v0, v1⟩ := (hm.get (x11.heap.size) ((bkA A9 r9.length c9 A10 (M.ordered (rs.map Wr.wk, ls) o).1.2.length c10)) (by simp)).two
      go_wp2_with fail
      refine (likeBook_same A9 r9 c9 A10 (M.ordered (rs.map Wr.wk, ls) o).1.2 c10 A3 r3 _ c3 A4 c4 _ (HZ.out).1 (HX.out).1 (HXM.out.trans HZM.out.symm) rfl (by have := (ord_small HZM.out).1; omega) (fun r hr => by have := ((ord_small HZM.out).2 r hr).2.1; omega) (HZ.out).2 (HX.out).2 (by have := HL5.out; omega)).mono ?_
      rintro r x14 ⟨rfl, b14⟩
      replace hm := hm.below b14
      clear b14
      clear u0 u1 v0 v1
      obtain ⟨q0, q1, q2, q3, q4, q5, q6, q7, q8⟩ := (hm.get ((x1.heap.size + 1)) (orC o) (by simp)).nine
      obtain ⟨t0, t1⟩ := (hm.get ((x2.heap.size + 1)) (rpA (M.ordered (rs.map Wr.wk, ls) o).2.1 (M.ordered (rs.map Wr.wk, ls) o).2.2) (by simp)).two
      obtain ⟨v0, v1⟩ := (hm.get ((x11.heap.size + 1)) (rpA (M.ordered (rs.map Wr.wk, ls) o).2.1 (M.ordered (rs.map Wr.wk, ls) o).2.2) (by simp)).two
      obtain ⟨s0, s1, s2, s3⟩ := (hm.get (x12.heap.size) (laA y) (by simp)).four
      rw [HN4.out.1] at s1
      rw [HN4.out.2.1] at s2
      rw [HN4.out.2.2] at s3
      have h5 : (o.seq == o.seq) = true := by simp
      have HM := Lib.hid hm.1
      clear hm
      go_wp2_with (refine wpList_run (by rfl) (rpeql_read (c := (M.ordered (rs.map Wr.wk, ls) o).2) rfl rfl rfl _) ?_)
      go_ret
      exact ⟨rfl, HM.out⟩

set_option maxRecDepth 100000 in
theorem lifted (os : Os) (started : os.Started) (H : Type) (enc : TypeId × Value → H) :
    ReturnsInHanded {} Tryz.checked os 4 .any (Rows.fnOnceSpec.pre6 enc Tryz.prog Tryz.f4 Rows.fnOnceRow.domain false) (Rows.fnOnceSpec.post enc Tryz.prog Tryz.f4 false true false false) := by
  refine returnsInHanded_of_change (C := Tryz.checked) own started (by kernel_rfl) Tryz.func4
    (ChangeSpec.witness6 (enc := enc) (C := Tryz.checked) false ⟨#[], #[.slice none 0 0], []⟩ 8 (by kernel_rfl) (by kernel_rfl) (by kernel_rfl) (by kernel_rfl)) ?_
  intro W base args ds gs before hval0 hW hcnd _
  have hval : ∀ (j : Nat) t v, Tryz.f4.params[j]? = some t → args[j]? = some v → Value.okWide Tryz.prog W .any base t v := hval0
  have hW' := hW
  obtain ⟨p, q, hA0, -⟩ := hW
  have hA : DataW.TrodAll enc Tryz.prog W 0 (fun _ => true) true Tryz.f4.params.toList args.toList ds p := hA0
  rw [Tryz.params4] at hA hval
  obtain ⟨v0, vs0, d0, ds0, p0, q0, hargs, rfl, rfl, h0, r0⟩ := trodAll_cons hA
  obtain ⟨rfl, rfl, rfl⟩ := trodAll_nil r0
  obtain rfl : args = #[v0] := by cases args; simp_all
  clear hA0 hval0
  have hv0 := hval 0 _ v0 rfl rfl
  obtain ⟨a0, len0, cap0, rfl, hc⟩ := open_code hv0 h0
  exact (walk a0 len0 cap0 W hc).mono fun r W' ⟨he, hb⟩ => ⟨_, he, law_post rfl rfl Tryz.underlying4 (by kernel_rfl) (n := 1)
    (fun ds' hd => by rcases ds' with _ | ⟨x0, _ | ⟨y, z⟩⟩ <;> simp at hd <;> exact ⟨rfl, rfl, rfl⟩) rfl hW' hb⟩

theorem over : Rows.fnOnceRow.holds Tryz.pinned (OpenSpec.ofChange Rows.fnOnceSpec) :=
  OpenClaim.holds_of_wide 4 Tryz.f4 rfl rfl rfl rfl rfl rfl rfl ⟨rfl, rfl, rfl, rfl, rfl⟩ rfl rfl rfl rfl rfl (by kernel_rfl) Tryz.func4 (by kernel_rfl)
    (of_decide_eq_true (by kernel_rfl)) (by unfold Func.isWrapper; first | (rw [if_pos (by decide +kernel)]; kernel_rfl) | (rw [if_neg (by decide +kernel)]; exact ⟨rfl, rfl⟩))
    (fun os started H enc _ => lifted os started H enc)

theorem proved : Rows.FnOnceSaid :=
  over
#print axioms proved
end Go.Proofs.YtblcgbgcccjpcaaGreat.fnOnce
