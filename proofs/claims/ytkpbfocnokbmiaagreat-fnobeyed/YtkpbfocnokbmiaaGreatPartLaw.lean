/- Proved: the law FnObeyed returns true at every list of bytes, and the list reads afterwards as before; no condition. -/
import Derived.Test.YtkpbfocnokbmiaaGreatPart45
import Derived.Test.YtkpbfocnokbmiaaGreatPart42
import Derived.Test.YtkpbfocnokbmiaaGreatPart44
import Derived.Test.YtkpbfocnokbmiaaGreatPart47
import Derived.Test.YtkpbfocnokbmiaaGreatPart49
import Derived.Lib.SmallJoins
namespace Go.Proofs.YtkpbfocnokbmiaaGreat.fnObeyed
open Go.ChangeShapes Go.WideShapes Go.ChangeAt Go.RowKit Go.Joins Go.Deep
open Go.ChangeMaps (open_string shut_string)
set_option linter.unusedVariables false

set_option maxRecDepth 100000 in
set_option maxHeartbeats 16000000 in
theorem walk (a0 : Option Addr) (len0 cap0 : Nat) (w : World) (hc : CodeOk w.heap.size w a0 len0) :
    Calls Tryz.prog 3 #[.slice a0 len0 cap0] w fun e w' => e = .returned (.bool true) ∧ Below w.heap.size w w' := by
  have HC := Lib.hid hc
  clear hc
  by_cases hbig : 4096 < len0
  · go_enter Tryz.func3, Tryz.ntmps3
    go_wp2_with fail
    refine (big_any a0 len0 cap0 _).mono ?_
    rintro r w' ⟨rfl, rfl⟩
    go_wp2
    go_ret
    exact ⟨rfl, Below.refl _ _⟩
  · have hl4 : len0 ≤ 4096 := by omega
    go_enter Tryz.func3, Tryz.ntmps3
    go_wp2_with fail
    refine (big_any a0 len0 cap0 _).mono ?_
    rintro r w' ⟨rfl, rfl⟩
    go_wp2_with fail
    refine (DrawObeyed_any _ a0 len0 cap0 hl4 HC.out).mono ?_
    rintro r x1 ⟨bv, e, rfl, htop, he, b1⟩
    obtain ⟨A1, c1, A2, c2, rs, ls, rfl, hbr, hba, hbn, hbs, hbl⟩ := htop.open
    have hm := (Mem.start w).below b1
    have HB := Lib.hid hbr
    have HBA := Lib.hid (show _ ∧ _ from ⟨hba, hbn⟩)
    have HBS := Lib.hid (show _ ∧ _ from ⟨hbs, hbl⟩)
    have HEI := Lib.hid he
    clear b1 htop hbr hba hbn hbs hbl he
    replace hm := hm.new (bkA A1 rs.length c1 A2 ls.length c2) 27
    replace HB := Lib.hid (HB.out.alloc (.cells (bkA A1 rs.length c1 A2 ls.length c2) 27))
    replace hm := hm.new (enC e) 35
    replace HB := Lib.hid (HB.out.alloc (.cells (enC e) 35))
    simp only [World.size_alloc] at hm
    obtain ⟨p0, p1⟩ := (hm.get (x1.heap.size) ((bkA A1 rs.length c1 A2 ls.length c2)) (by simp)).two
    obtain ⟨q0, q1, q2, q3, q4, q5, q6, q7, q8, q9⟩ := (hm.get ((x1.heap.size + 1)) (enC e) (by simp)).ten
    go_wp2_with fail
    refine (implObeyed A1 rs c1 A2 ls c2 e _ HB.out.1 (by have := HBS.out.1.1; omega) (HBS.out.1.2.mono (by omega)) HB.out.2 (by have := HBS.out.2.1; omega) (fun y hy => Nat.le_trans (HBS.out.2.2 y hy) (by omega)) (by have := HEI.out.1; omega) (by have := HEI.out.2; omega)).mono ?_
    rintro r x2 hr
    obtain ⟨A3, c3, A4, c4, r3, rfl, hxr, hxm, -, -, b2⟩ := hr.read
    have HX := Lib.hid hxr
    have HXM := Lib.hid hxm
    have HL5 := Lib.hid ((M.obey_ok (rs.map Wr.wk, ls) e).2)
    replace hm := hm.below b2
    replace HB := Lib.hid (HB.out.below b2)
    clear b2 hr hxr hxm
    clear p0 p1 q0 q1 q2 q3 q4 q5 q6 q7 q8 q9
    replace hm := hm.new (bkA A3 r3.length c3 A4 (M.obeyed (rs.map Wr.wk, ls) e).1.2.length c4) 27
    replace HB := Lib.hid (HB.out.alloc (.cells (bkA A3 r3.length c3 A4 (M.obeyed (rs.map Wr.wk, ls) e).1.2.length c4) 27))
    replace HX := Lib.hid (HX.out.alloc (.cells (bkA A3 r3.length c3 A4 (M.obeyed (rs.map Wr.wk, ls) e).1.2.length c4) 27))
    replace hm := hm.new (rpA (M.obeyed (rs.map Wr.wk, ls) e).2.1 (M.obeyed (rs.map Wr.wk, ls) e).2.2) 39
    replace HB := Lib.hid (HB.out.alloc (.cells (rpA (M.obeyed (rs.map Wr.wk, ls) e).2.1 (M.obeyed (rs.map Wr.wk, ls) e).2.2) 39))
    replace HX := Lib.hid (HX.out.alloc (.cells (rpA (M.obeyed (rs.map Wr.wk, ls) e).2.1 (M.obeyed (rs.map Wr.wk, ls) e).2.2) 39))
    simp only [World.size_alloc] at hm
    have HCC := Lib.hid (HC.out.later hm.1)
    go_wp2_with fail
    refine (DrawObeyedAll_any _ a0 len0 cap0 hl4 HCC.out).mono ?_
    rintro r x3 ⟨qv, AL, es, co, rfl, htop, hes, hol, hop, b3⟩
    obtain ⟨A5, c5, A6, c6, r5, l5, rfl, hqr, hqa, hqn, hqs, hql⟩ := htop.open
    have HQ := Lib.hid hqr
    have HQA := Lib.hid (show _ ∧ _ from ⟨hqa, hqn⟩)
    have HQS := Lib.hid (show _ ∧ _ from ⟨hqs, hql⟩)
    have HES : Hid (Ens _ AL es) := Lib.hid hes.1
    have HCAP := Lib.hid hes.2
    have HOP := Lib.hid hop
    have HOP2 : Hid (∀ y ∈ es, enIn 1048576 y) := Lib.hid (fun y hy => ⟨by have := (HOP.out y hy).1; omega, by have := (HOP.out y hy).2; omega⟩)
    have HU5 := Lib.hid ((M.obeyAll_ok (r5.map Wr.wk, l5) es).2)
    replace hm := hm.below b3
    replace HB := Lib.hid (HB.out.below b3)
    replace HX := Lib.hid (HX.out.below b3)
    clear b3 htop hqr hqa hqn hqs hql HCC hes hop
    replace hm := hm.new (bkA A5 r5.length c5 A6 l5.length c6) 27
    replace HB := Lib.hid (HB.out.alloc (.cells (bkA A5 r5.length c5 A6 l5.length c6) 27))
    replace HX := Lib.hid (HX.out.alloc (.cells (bkA A5 r5.length c5 A6 l5.length c6) 27))
    replace HQ := Lib.hid (HQ.out.alloc (.cells (bkA A5 r5.length c5 A6 l5.length c6) 27))
    replace HES := Lib.hid (HES.out.alloc (.cells (bkA A5 r5.length c5 A6 l5.length c6) 27))
    obtain ⟨p0, p1⟩ := (hm.get (x3.heap.size) ((bkA A5 r5.length c5 A6 l5.length c6)) (by simp)).two
    go_wp2_with fail
    refine (implObeyedAll A5 r5 c5 A6 l5 c6 AL es co _ HQ.out.1 (by have := HQS.out.1.1; omega) (HQS.out.1.2.mono (by omega)) HQ.out.2 (by have := HQS.out.2.1; omega) (fun y hy => Nat.le_trans (HQS.out.2.2 y hy) (by omega)) HES.out (by omega) (fun y hy => ⟨by have := (HOP.out y hy).1; omega, by have := (HOP.out y hy).2; omega⟩)).mono ?_
    rintro r x4 hr
    obtain ⟨A7, c7, A8, c8, r7, rfl, hyr, hym, b4⟩ := hr.read
    have HY := Lib.hid hyr
    have HYM := Lib.hid hym
    replace hm := hm.below b4
    replace HB := Lib.hid (HB.out.below b4)
    replace HX := Lib.hid (HX.out.below b4)
    replace HQ := Lib.hid (HQ.out.below b4)
    replace HES := Lib.hid (HES.out.below b4)
    clear b4 hr hyr hym
    clear p0 p1
    replace hm := hm.new (bkA A7 r7.length c7 A8 (M.obeyedAll (r5.map Wr.wk, l5) es).2.length c8) 27
    replace HB := Lib.hid (HB.out.alloc (.cells (bkA A7 r7.length c7 A8 (M.obeyedAll (r5.map Wr.wk, l5) es).2.length c8) 27))
    replace HX := Lib.hid (HX.out.alloc (.cells (bkA A7 r7.length c7 A8 (M.obeyedAll (r5.map Wr.wk, l5) es).2.length c8) 27))
    replace HQ := Lib.hid (HQ.out.alloc (.cells (bkA A7 r7.length c7 A8 (M.obeyedAll (r5.map Wr.wk, l5) es).2.length c8) 27))
    replace HY := Lib.hid (HY.out.alloc (.cells (bkA A7 r7.length c7 A8 (M.obeyedAll (r5.map Wr.wk, l5) es).2.length c8) 27))
    replace HES := Lib.hid (HES.out.alloc (.cells (bkA A7 r7.length c7 A8 (M.obeyedAll (r5.map Wr.wk, l5) es).2.length c8) 27))
    have HCC := Lib.hid (HC.out.later hm.1)
    go_wp2_with fail
    refine (DrawSameEntry_any _ a0 len0 cap0 hl4 HCC.out).mono ?_
    rintro r x5 ⟨m, n, rfl, -, -, b5⟩
    replace hm := hm.below b5
    replace HB := Lib.hid (HB.out.below b5)
    replace HX := Lib.hid (HX.out.below b5)
    replace HQ := Lib.hid (HQ.out.below b5)
    replace HY := Lib.hid (HY.out.below b5)
    replace HES := Lib.hid (HES.out.below b5)
    clear b5 HCC
    replace hm := hm.new (enC m) 35
    replace HB := Lib.hid (HB.out.alloc (.cells (enC m) 35))
    replace HX := Lib.hid (HX.out.alloc (.cells (enC m) 35))
    replace HQ := Lib.hid (HQ.out.alloc (.cells (enC m) 35))
    replace HY := Lib.hid (HY.out.alloc (.cells (enC m) 35))
    replace HES := Lib.hid (HES.out.alloc (.cells (enC m) 35))
    replace hm := hm.new (enC n) 35
    replace HB := Lib.hid (HB.out.alloc (.cells (enC n) 35))
    replace HX := Lib.hid (HX.out.alloc (.cells (enC n) 35))
    replace HQ := Lib.hid (HQ.out.alloc (.cells (enC n) 35))
    replace HY := Lib.hid (HY.out.alloc (.cells (enC n) 35))
    replace HES := Lib.hid (HES.out.alloc (.cells (enC n) 35))
    simp only [World.size_alloc] at hm
    obtain ⟨p0, p1⟩ := (hm.get (x1.heap.size) ((bkA A1 rs.length c1 A2 ls.length c2)) (by simp)).two
    obtain ⟨q0, q1, q2, q3, q4, q5, q6, q7, q8, q9⟩ := (hm.get ((x1.heap.size + 1)) (enC e) (by simp)).ten
    go_wp2_with fail
    refine (specObeyed A1 rs c1 A2 ls c2 e _ HB.out.1 HBA.out.1 (by have := HBS.out.1.1; omega) (HBS.out.1.2.mono (by omega)) HB.out.2 HBA.out.2 (by have := HBS.out.2.1; omega) (by have := HEI.out.1; omega) (by have := HEI.out.2; omega)).mono ?_
    rintro r x6 hr
    obtain ⟨A9, c9, A10, c10, r9, rfl, hzr, hzm, -, -, b6⟩ := hr.read
    have HZ := Lib.hid hzr
    have HZM := Lib.hid hzm
    replace hm := hm.below b6
    replace HB := Lib.hid (HB.out.below b6)
    replace HX := Lib.hid (HX.out.below b6)
    replace HQ := Lib.hid (HQ.out.below b6)
    replace HY := Lib.hid (HY.out.below b6)
    replace HES := Lib.hid (HES.out.below b6)
    clear b6 hr hzr hzm
    clear p0 p1 q0 q1 q2 q3 q4 q5 q6 q7 q8 q9
    replace hm := hm.new (bkA A9 r9.length c9 A10 (M.obeyed (rs.map Wr.wk, ls) e).1.2.length c10) 27
    replace HB := Lib.hid (HB.out.alloc (.cells (bkA A9 r9.length c9 A10 (M.obeyed (rs.map Wr.wk, ls) e).1.2.length c10) 27))
    replace HX := Lib.hid (HX.out.alloc (.cells (bkA A9 r9.length c9 A10 (M.obeyed (rs.map Wr.wk, ls) e).1.2.length c10) 27))
    replace HQ := Lib.hid (HQ.out.alloc (.cells (bkA A9 r9.length c9 A10 (M.obeyed (rs.map Wr.wk, ls) e).1.2.length c10) 27))
    replace HY := Lib.hid (HY.out.alloc (.cells (bkA A9 r9.length c9 A10 (M.obeyed (rs.map Wr.wk, ls) e).1.2.length c10) 27))
    replace HZ := Lib.hid (HZ.out.alloc (.cells (bkA A9 r9.length c9 A10 (M.obeyed (rs.map Wr.wk, ls) e).1.2.length c10) 27))
    replace HES := Lib.hid (HES.out.alloc (.cells (bkA A9 r9.length c9 A10 (M.obeyed (rs.map Wr.wk, ls) e).1.2.length c10) 27))
    replace hm := hm.new (rpA (M.obeyed (rs.map Wr.wk, ls) e).2.1 (M.obeyed (rs.map Wr.wk, ls) e).2.2) 39
    replace HB := Lib.hid (HB.out.alloc (.cells (rpA (M.obeyed (rs.map Wr.wk, ls) e).2.1 (M.obeyed (rs.map Wr.wk, ls) e).2.2) 39))
    replace HX := Lib.hid (HX.out.alloc (.cells (rpA (M.obeyed (rs.map Wr.wk, ls) e).2.1 (M.obeyed (rs.map Wr.wk, ls) e).2.2) 39))
    replace HQ := Lib.hid (HQ.out.alloc (.cells (rpA (M.obeyed (rs.map Wr.wk, ls) e).2.1 (M.obeyed (rs.map Wr.wk, ls) e).2.2) 39))
    replace HY := Lib.hid (HY.out.alloc (.cells (rpA (M.obeyed (rs.map Wr.wk, ls) e).2.1 (M.obeyed (rs.map Wr.wk, ls) e).2.2) 39))
    replace HZ := Lib.hid (HZ.out.alloc (.cells (rpA (M.obeyed (rs.map Wr.wk, ls) e).2.1 (M.obeyed (rs.map Wr.wk, ls) e).2.2) 39))
    replace HES := Lib.hid (HES.out.alloc (.cells (rpA (M.obeyed (rs.map Wr.wk, ls) e).2.1 (M.obeyed (rs.map Wr.wk, ls) e).2.2) 39))
    simp only [World.size_alloc] at hm
    go_upto_region 9 with (fail)
    generalize hW7 : World.alloc _ _ = x7 at hm HB HX HQ HY HZ HES ⊢
    clear hW7
    obtain ⟨q0, q1, q2, q3, q4, q5, q6, q7, q8, q9⟩ := (hm.get ((x1.heap.size + 1)) (enC e) (by simp)).ten
    obtain ⟨s0, s1⟩ := (hm.get (x2.heap.size) ((bkA A3 r3.length c3 A4 (M.obeyed (rs.map Wr.wk, ls) e).1.2.length c4)) (by simp)).two
    obtain ⟨t0, t1⟩ := (hm.get ((x2.heap.size + 1)) (rpA (M.obeyed (rs.map Wr.wk, ls) e).2.1 (M.obeyed (rs.map Wr.wk, ls) e).2.2) (by simp)).two
    obtain ⟨u0, u1⟩ := (hm.get (x3.heap.size) ((bkA A5 r5.length c5 A6 l5.length c6)) (by simp)).two
    obtain ⟨v0, v1⟩ := (hm.get (x4.heap.size) ((bkA A7 r7.length c7 A8 (M.obeyedAll (r5.map Wr.wk, l5) es).2.length c8)) (by simp)).two
    obtain ⟨f0, f1, f2, f3, f4, f5, f6, f7, f8, f9⟩ := (hm.get (x5.heap.size) (enC m) (by simp)).ten
    obtain ⟨g0, g1, g2, g3, g4, g5, g6, g7, g8, g9⟩ := (hm.get ((x5.heap.size + 1)) (enC n) (by simp)).ten
    obtain ⟨h0, h1⟩ := (hm.get (x6.heap.size) ((bkA A9 r9.length c9 A10 (M.obeyed (rs.map Wr.wk, ls) e).1.2.length c10)) (by simp)).two
    obtain ⟨i0, i1⟩ := (hm.get ((x6.heap.size + 1)) (rpA (M.obeyed (rs.map Wr.wk, ls) e).2.1 (M.obeyed (rs.map Wr.wk, ls) e).2.2) (by simp)).two
    have z0 := (hm.get ((x1.heap.size + 1)) (enC e) (by simp)).1
    have z1 := (hm.get (x2.heap.size) ((bkA A3 r3.length c3 A4 (M.obeyed (rs.map Wr.wk, ls) e).1.2.length c4)) (by simp)).1
    have z2 := (hm.get ((x2.heap.size + 1)) (rpA (M.obeyed (rs.map Wr.wk, ls) e).2.1 (M.obeyed (rs.map Wr.wk, ls) e).2.2) (by simp)).1
    have z3 := (hm.get (x3.heap.size) ((bkA A5 r5.length c5 A6 l5.length c6)) (by simp)).1
    have z4 := (hm.get (x4.heap.size) ((bkA A7 r7.length c7 A8 (M.obeyedAll (r5.map Wr.wk, l5) es).2.length c8)) (by simp)).1
    have z5 := (hm.get (x5.heap.size) (enC m) (by simp)).1
    have z6 := (hm.get ((x5.heap.size + 1)) (enC n) (by simp)).1
    have z7 := (hm.get (x6.heap.size) ((bkA A9 r9.length c9 A10 (M.obeyed (rs.map Wr.wk, ls) e).1.2.length c10)) (by simp)).1
    have z8 := (hm.get ((x6.heap.size + 1)) (rpA (M.obeyed (rs.map Wr.wk, ls) e).2.1 (M.obeyed (rs.map Wr.wk, ls) e).2.2) (by simp)).1
    have hne : (M.entryOk e != M.entryOk e) = false := by simp
    have hne2 : (M.enEq m n != M.enEq m n) = false := by simp
    refine wp_region_seq (fun w' => Below x7.heap.size x7 w') [(0, true), (1, true), (2, false), (3, true), (4, true), (5, true), (6, true), (7, true), (8, true), (9, true), (10, true), (12, true), (11, false), (13, false), (14, true), (15, true), (16, true), (17, true), (18, true), (19, true), (20, false), (21, false), (22, true), (23, true), (24, true), (25, true), (26, true), (28, true), (29, true), (27, false), (30, false), (31, true), (32, true), (33, true), (34, true), (35, true), (37, true), (38, true), (39, true), (36, false), (40, true), (41, true)] (by kernel_rfl) (by kernel_rfl) (fun _ _ _ _ _ h => h) (by kernel_rfl) (by decide) (Below.refl _ _).drew ?_
    intro hHeld
    repeat (first
      | (refine seq_read (by simp only [List.getElem?_toArray, List.getElem?_cons_succ, List.getElem?_cons_zero]; first | done | rfl) (by rfl) (fun w _ => rpneq_read (c := (M.obeyed (rs.map Wr.wk, ls) e).2) rfl rfl rfl w) ?_; (try simp only [Act.put, List.setIfInBounds_toArray, List.set_cons_zero, List.set_cons_succ]))
      | (refine seq_read (by simp only [List.getElem?_toArray, List.getElem?_cons_succ, List.getElem?_cons_zero]; first | done | rfl) (by rfl) (fun w _ => eneql_read (a := m) (b := n) rfl rfl rfl w) ?_; (try simp only [Act.put, List.setIfInBounds_toArray, List.set_cons_zero, List.set_cons_succ]))
      | (refine seq_skip (by simp only [List.getElem?_toArray, List.getElem?_cons_succ, List.getElem?_cons_zero]; first | done | rfl) (by rfl) ?_; (try simp only [Act.put, List.setIfInBounds_toArray, List.set_cons_zero, List.set_cons_succ]))
      | (refine seq_reads (by simp only [List.getElem?_toArray, List.getElem?_cons_succ, List.getElem?_cons_zero]; first | done | rfl) (by rfl) ?_; apply Exists.intro; apply And.intro; (focus (intro w hSw; obtain ⟨hcS, -⟩ := bcell hSw; go_simp; (try with_reducible rfl); done)); (try simp only [Act.put, List.setIfInBounds_toArray, List.set_cons_zero, List.set_cons_succ]))
      | (refine seq_pass (by simp only [List.getElem?_toArray, List.getElem?_cons_succ, List.getElem?_cons_zero]; first | done | rfl) (by rfl) hHeld ?_; clear hHeld; intro hHeld; (try simp only [Act.put, List.setIfInBounds_toArray, List.set_cons_zero, List.set_cons_succ]))
      | ((have hzz := HV.out); clear hzz; refine seq_call (by simp only [List.getElem?_toArray, List.getElem?_cons_succ, List.getElem?_cons_zero]; first | done | rfl) (by rfl) (fun K hK => ?_); go_simp; go_at_call 11; refine (likeBook_same A7 r7 c7 A8 (M.obeyedAll (r5.map Wr.wk, l5) es).2 c8 B1 r11 _ d1 B2 d2 _ (HY.out.below hHeld).1 (HV.out).1 (HVM.out.trans HYM.out.symm) rfl (by have := (oball_small HYM.out).1; omega) (fun r hr => by have := ((oball_small HYM.out).2 r hr).2.1; omega) (HY.out.below hHeld).2 (HV.out).2 (by have := HU5.out; omega)).mono ?_; rintro r w1 ⟨rfl, b1⟩; go_simp; refine hK.out _ _ (next hHeld b1) ?_; clear hK hHeld; intro hHeld; (try simp only [Act.put, List.setIfInBounds_toArray, List.set_cons_zero, List.set_cons_succ]))
      | (refine seq_call (by simp only [List.getElem?_toArray, List.getElem?_cons_succ, List.getElem?_cons_zero]; first | done | rfl) (by rfl) (fun K hK => ?_); go_simp; go_at_call 11; refine (likeBook_same A3 r3 c3 A4 (M.obeyed (rs.map Wr.wk, ls) e).1.2 c4 A9 r9 _ c9 A10 c10 _ (HX.out.below hHeld).1 (HZ.out.below hHeld).1 (HZM.out.trans HXM.out.symm) rfl (by have := (obey_small HXM.out).1; omega) (fun r hr => by have := ((obey_small HXM.out).2 r hr).2.1; omega) (HX.out.below hHeld).2 (HZ.out.below hHeld).2 (by have := HL5.out; omega)).mono ?_; rintro r w1 ⟨rfl, b1⟩; go_simp; refine hK.out _ _ (next hHeld b1) ?_; clear hK hHeld; intro hHeld; (try simp only [Act.put, List.setIfInBounds_toArray, List.set_cons_zero, List.set_cons_succ]))
      | (refine seq_call (by simp only [List.getElem?_toArray, List.getElem?_cons_succ, List.getElem?_cons_zero]; first | done | rfl) (by rfl) (fun K hK => ?_); go_simp; go_at_call 12; refine (implEntryOk e _ (by have := HEI.out.1; unfold maxLen; omega) (by have := HEI.out.2; unfold maxLen; omega)).mono ?_; rintro r w1 ⟨rfl, b1⟩; go_simp; refine hK.out _ _ (next hHeld b1) ?_; clear hK hHeld; intro hHeld; (try simp only [Act.put, List.setIfInBounds_toArray, List.set_cons_zero, List.set_cons_succ]))
      | (refine seq_call (by simp only [List.getElem?_toArray, List.getElem?_cons_succ, List.getElem?_cons_zero]; first | done | rfl) (by rfl) (fun K hK => ?_); go_simp; go_at_call 13; refine (specEntryOk e _ (by have := HEI.out.1; unfold maxLen; omega) (by have := HEI.out.2; unfold maxLen; omega)).mono ?_; rintro r w1 ⟨rfl, b1⟩; go_simp; refine hK.out _ _ (next hHeld b1) ?_; clear hK hHeld; intro hHeld; (try simp only [Act.put, List.setIfInBounds_toArray, List.set_cons_zero, List.set_cons_succ]))
      | (refine seq_call (by simp only [List.getElem?_toArray, List.getElem?_cons_succ, List.getElem?_cons_zero]; first | done | rfl) (by rfl) (fun K hK => ?_); go_simp; go_at_call 14; refine (specObeyedAll A5 r5 c5 A6 l5 c6 AL es co _ (HQ.out.below hHeld).1 HQA.out.1 (by have := HQS.out.1.1; omega) (HQS.out.1.2.mono (by omega)) (HQ.out.below hHeld).2 (by have := HQS.out.2.1; omega) HQA.out.2 (HES.out.below hHeld) (by omega) (fun y hy => ⟨by have := (HOP.out y hy).1; omega, by have := (HOP.out y hy).2; omega⟩)).mono ?_; rintro r w1 hr; (obtain ⟨B1, d1, B2, d2, r11, rfl, hzr, hzm, b1⟩ := hr.read); (have HV := Lib.hid hzr); (have HVM := Lib.hid hzm); clear hzr hzm hr; go_simp; refine hK.out _ _ (next hHeld b1) ?_; clear hK hHeld; intro hHeld; (try simp only [Act.put, List.setIfInBounds_toArray, List.set_cons_zero, List.set_cons_succ]))
      | (refine seq_call (by simp only [List.getElem?_toArray, List.getElem?_cons_succ, List.getElem?_cons_zero]; first | done | rfl) (by rfl) (fun K hK => ?_); go_simp; go_at_call 15; refine (implSameEntry m n _).mono ?_; rintro r w1 ⟨rfl, b1⟩; go_simp; refine hK.out _ _ (next hHeld b1) ?_; clear hK hHeld; intro hHeld; (try simp only [Act.put, List.setIfInBounds_toArray, List.set_cons_zero, List.set_cons_succ]))
      | (refine seq_call (by simp only [List.getElem?_toArray, List.getElem?_cons_succ, List.getElem?_cons_zero]; first | done | rfl) (by rfl) (fun K hK => ?_); go_simp; go_at_call 16; refine (specSameEntry m n _).mono ?_; rintro r w1 ⟨rfl, b1⟩; go_simp; refine hK.out _ _ (next hHeld b1) ?_; clear hK hHeld; intro hHeld; (try simp only [Act.put, List.setIfInBounds_toArray, List.set_cons_zero, List.set_cons_succ])))
    refine seq_end ?_
    replace hm := hm.below hHeld
    replace HB := Lib.hid (HB.out.below hHeld)
    replace HX := Lib.hid (HX.out.below hHeld)
    replace HQ := Lib.hid (HQ.out.below hHeld)
    replace HY := Lib.hid (HY.out.below hHeld)
    replace HES := Lib.hid (HES.out.below hHeld)
    clear hHeld hne hne2 HV HVM HZ HZM z0 z1 z2 z3 z4 z5 z6 z7 z8
    clear q0 q1 q2 q3 q4 q5 q6 q7 q8 q9 s0 s1 t0 t1 u0 u1 v0 v1 f0 f1 f2 f3 f4 f5 f6 f7 f8 f9 g0 g1 g2 g3 g4 g5 g6 g7 g8 g9 h0 h1 i0 i1
    obtain ⟨p0, p1⟩ := (hm.get (x1.heap.size) ((bkA A1 rs.length c1 A2 ls.length c2)) (by simp)).two
    go_wp2_with fail
    rcases hok : M.bkOk (rs.map Wr.wk) ls with _ | _
    · have hcall := specBookOk A1 rs c1 A2 ls c2 _ HB.out.1 (by have := HBS.out.1.1; omega) (HBS.out.1.2.mono (by omega)) HB.out.2 (by have := HBS.out.2.1; omega)
      rw [hok] at hcall
      refine hcall.mono ?_
      rintro r x9 ⟨rfl, b9⟩
      replace hm := hm.below b9
      replace HQ := Lib.hid (HQ.out.below b9)
      replace HY := Lib.hid (HY.out.below b9)
      replace HES := Lib.hid (HES.out.below b9)
      clear hcall b9 hok p0 p1
      obtain ⟨u0, u1⟩ := (hm.get (x3.heap.size) ((bkA A5 r5.length c5 A6 l5.length c6)) (by simp)).two
      go_wp2_with fail
      rcases hqk : M.bkOk (r5.map Wr.wk) l5 with _ | _
      · have hcall := specBookOk A5 r5 c5 A6 l5 c6 x9 HQ.out.1 (by have := HQS.out.1.1; omega) (HQS.out.1.2.mono (by omega)) HQ.out.2 (by have := HQS.out.2.1; omega)
        rw [hqk] at hcall
        refine hcall.mono ?_
        rintro r xd ⟨rfl, bd⟩
        have HM := Lib.hid (hm.below bd).1
        clear hcall bd hm hqk u0 u1
        go_wp2
        go_ret
        exact ⟨rfl, HM.out⟩
      have HQK := Lib.hid hqk
      have hcall := specBookOk A5 r5 c5 A6 l5 c6 x9 HQ.out.1 (by have := HQS.out.1.1; omega) (HQS.out.1.2.mono (by omega)) HQ.out.2 (by have := HQS.out.2.1; omega)
      rw [hqk] at hcall
      refine hcall.mono ?_
      rintro r xd ⟨rfl, bd⟩
      replace hm := hm.below bd
      replace HQ := Lib.hid (HQ.out.below bd)
      replace HY := Lib.hid (HY.out.below bd)
      replace HES := Lib.hid (HES.out.below bd)
      clear hcall bd hqk u0 u1
      by_cases h30 : 30 < es.length
      · have HM := Lib.hid hm.1
        clear hm
        go_wp2
        go_ret
        exact ⟨rfl, HM.out⟩
      have HCC := Lib.hid (HC.out.later hm.1)
      go_wp2_with fail
      refine (pick_any a0 len0 cap0 (es.length + 1) _ _ (by simp) (by omega) (by omega) hl4 HCC.out).mono ?_
      rintro r xe ⟨k, hk, rfl, rfl⟩
      clear HCC
      have hk' : k ≤ es.length := by omega
      have hkc : k ≤ co := Nat.le_trans hk' HCAP.out
      obtain ⟨u0, u1⟩ := (hm.get (x3.heap.size) ((bkA A5 r5.length c5 A6 l5.length c6)) (by simp)).two
      obtain ⟨v0, v1⟩ := (hm.get (x4.heap.size) ((bkA A7 r7.length c7 A8 (M.obeyedAll (r5.map Wr.wk, l5) es).2.length c8)) (by simp)).two
      have z1 := (hm.get (x3.heap.size) ((bkA A5 r5.length c5 A6 l5.length c6)) (by simp)).1
      have z2 := (hm.get (x4.heap.size) ((bkA A7 r7.length c7 A8 (M.obeyedAll (r5.map Wr.wk, l5) es).2.length c8)) (by simp)).1
      have HV5 := Lib.hid ((M.obeyAll_ok (r5.map Wr.wk, l5) (es.take k)).2)
      have HVI := Lib.hid (M.oball_in (rs := r5) (l := es.take k) HQS.out.2.2)
      have HTK : Hid (Ens _ AL (es.take k)) := Lib.hid (Flat.cutTake HES.out k)
      have hcd : Ens _ (cutAt AL co k 10) (es.drop k) := Flat.cutDrop HES.out k HCAP.out
      have hcap : es.length ≤ co := HCAP.out
      unfold cutAt at hcd
      by_cases hck : co = k
      · rw [if_pos hck] at hcd
        have HDR := Lib.hid hcd
        clear hcd
        subst hck
        go_upto_region 16 with (fail)
        refine wp_region_seq (fun w' => Below xd.heap.size xd w') [(0, true), (1, true), (2, true), (3, true), (5, true), (6, true), (7, true), (9, true), (4, false), (8, false), (10, false), (11, true)] (by kernel_rfl) (by kernel_rfl) (fun _ _ _ _ _ h => h) (by kernel_rfl) (by decide) (Below.refl _ _).drew ?_
        intro hHeld
        repeat (first
          | (refine seq_skip (by simp only [List.getElem?_toArray, List.getElem?_cons_succ, List.getElem?_cons_zero]; first | done | rfl) (by rfl) ?_; (try simp only [Act.put, List.setIfInBounds_toArray, List.set_cons_zero, List.set_cons_succ]))
          | (refine seq_reads (by simp only [List.getElem?_toArray, List.getElem?_cons_succ, List.getElem?_cons_zero]; first | done | rfl) (by rfl) ?_; apply Exists.intro; apply And.intro; (focus (intro w hSw; obtain ⟨hcS, -⟩ := bcell hSw; go_simp; (try with_reducible rfl); done)); (try simp only [Act.put, List.setIfInBounds_toArray, List.set_cons_zero, List.set_cons_succ]))
          | (refine seq_pass (by simp only [List.getElem?_toArray, List.getElem?_cons_succ, List.getElem?_cons_zero]; first | done | rfl) (by rfl) hHeld ?_; clear hHeld; intro hHeld; (try simp only [Act.put, List.setIfInBounds_toArray, List.set_cons_zero, List.set_cons_succ]))
          | ((have hzz := HT.out); clear hzz; refine seq_call (by simp only [List.getElem?_toArray, List.getElem?_cons_succ, List.getElem?_cons_zero]; first | done | rfl) (by rfl) (fun K hK => ?_); go_simp; go_at_call 11; refine (likeBook_same B3 r12 d3 B4 (M.obeyedAll (r5.map Wr.wk, l5) es).2 d4 A7 r7 _ c7 A8 c8 _ (HT.out).1 (HY.out.below hHeld).1 (HYM.out.trans HTM.out.symm) rfl (by have := (oball_small HTM.out).1; omega) (fun r hr => by have := ((oball_small HTM.out).2 r hr).2.1; omega) (HT.out).2 (HY.out.below hHeld).2 (by have := HU5.out; omega)).mono ?_; rintro r w1 ⟨rfl, b1⟩; go_simp; refine hK.out _ _ (next hHeld b1) ?_; clear hK hHeld; intro hHeld; (try simp only [Act.put, List.setIfInBounds_toArray, List.set_cons_zero, List.set_cons_succ]))
          | ((have hzz := HV.out); clear hzz; refine seq_call (by simp only [List.getElem?_toArray, List.getElem?_cons_succ, List.getElem?_cons_zero]; first | done | rfl) (by rfl) (fun K hK => ?_); go_simp; go_at_call 8; refine (implObeyedAll_n B1 r11 d1 B2 (M.obeyedAll (r5.map Wr.wk, l5) (es.take co)).2 d2 AL (es.drop co) _ _ _ (M.obeyedAll (r5.map Wr.wk, l5) es) ((List.length_drop).trans (by omega)) (M.oball_cutQ (b := (r5.map Wr.wk, l5)) HQK.out (by omega) co rfl HVM.out) HV.out.1 (by have := (oball_small HVM.out).1; omega) ((oball_small HVM.out).2.mono (by omega)) HV.out.2 (by have := HV5.out; omega) (fun y hy => Nat.le_trans (HVI.out y hy) (by omega)) (HDR.out.below hHeld) (by rw [List.length_drop]; omega) (fun y hy => HOP2.out y (List.mem_of_mem_drop hy))).mono ?_; rintro r w1 hr; (obtain ⟨B3, d3, B4, d4, r12, rfl, hzr, hzm, b1⟩ := hr.read); (have HT := Lib.hid hzr); (have HTM := Lib.hid hzm); clear hzr hzm hr; go_simp; refine hK.out _ _ (next hHeld b1) ?_; clear hK hHeld; intro hHeld; (clear HV HVM); (try simp only [Act.put, List.setIfInBounds_toArray, List.set_cons_zero, List.set_cons_succ]))
          | (refine seq_call (by simp only [List.getElem?_toArray, List.getElem?_cons_succ, List.getElem?_cons_zero]; first | done | rfl) (by rfl) (fun K hK => ?_); go_simp; go_at_call 8; refine (implObeyedAll_n A5 r5 c5 A6 l5 c6 AL (es.take co) co _ _ (M.obeyedAll (r5.map Wr.wk, l5) (es.take co)) ((List.length_take).trans (by omega)) rfl (HQ.out.below hHeld).1 (by have := HQS.out.1.1; omega) (HQS.out.1.2.mono (by omega)) (HQ.out.below hHeld).2 (by have := HQS.out.2.1; omega) (fun y hy => Nat.le_trans (HQS.out.2.2 y hy) (by omega)) (HTK.out.below hHeld) (by rw [List.length_take]; omega) (fun y hy => HOP2.out y (List.mem_of_mem_take hy))).mono ?_; rintro r w1 hr; (obtain ⟨B1, d1, B2, d2, r11, rfl, hzr, hzm, b1⟩ := hr.read); (have HV := Lib.hid hzr); (have HVM := Lib.hid hzm); clear hzr hzm hr; go_simp; refine hK.out _ _ (next hHeld b1) ?_; clear hK hHeld; intro hHeld; (try simp only [Act.put, List.setIfInBounds_toArray, List.set_cons_zero, List.set_cons_succ])))
        refine seq_end ?_
        have HM := Lib.hid (hm.below hHeld).1
        clear hm
        go_wp2
        go_ret
        exact ⟨rfl, HM.out⟩
      · rw [if_neg hck] at hcd
        have HDR := Lib.hid hcd
        clear hcd
        go_upto_region 16 with (fail)
        refine wp_region_seq (fun w' => Below xd.heap.size xd w') [(0, true), (1, true), (2, true), (3, true), (5, true), (6, true), (7, true), (9, true), (4, false), (8, false), (10, false), (11, true)] (by kernel_rfl) (by kernel_rfl) (fun _ _ _ _ _ h => h) (by kernel_rfl) (by decide) (Below.refl _ _).drew ?_
        intro hHeld
        repeat (first
          | (refine seq_skip (by simp only [List.getElem?_toArray, List.getElem?_cons_succ, List.getElem?_cons_zero]; first | done | rfl) (by rfl) ?_; (try simp only [Act.put, List.setIfInBounds_toArray, List.set_cons_zero, List.set_cons_succ]))
          | (refine seq_reads (by simp only [List.getElem?_toArray, List.getElem?_cons_succ, List.getElem?_cons_zero]; first | done | rfl) (by rfl) ?_; apply Exists.intro; apply And.intro; (focus (intro w hSw; obtain ⟨hcS, -⟩ := bcell hSw; go_simp; (try with_reducible rfl); done)); (try simp only [Act.put, List.setIfInBounds_toArray, List.set_cons_zero, List.set_cons_succ]))
          | (refine seq_pass (by simp only [List.getElem?_toArray, List.getElem?_cons_succ, List.getElem?_cons_zero]; first | done | rfl) (by rfl) hHeld ?_; clear hHeld; intro hHeld; (try simp only [Act.put, List.setIfInBounds_toArray, List.set_cons_zero, List.set_cons_succ]))
          | ((have hzz := HT.out); clear hzz; refine seq_call (by simp only [List.getElem?_toArray, List.getElem?_cons_succ, List.getElem?_cons_zero]; first | done | rfl) (by rfl) (fun K hK => ?_); go_simp; go_at_call 11; refine (likeBook_same B3 r12 d3 B4 (M.obeyedAll (r5.map Wr.wk, l5) es).2 d4 A7 r7 _ c7 A8 c8 _ (HT.out).1 (HY.out.below hHeld).1 (HYM.out.trans HTM.out.symm) rfl (by have := (oball_small HTM.out).1; omega) (fun r hr => by have := ((oball_small HTM.out).2 r hr).2.1; omega) (HT.out).2 (HY.out.below hHeld).2 (by have := HU5.out; omega)).mono ?_; rintro r w1 ⟨rfl, b1⟩; go_simp; refine hK.out _ _ (next hHeld b1) ?_; clear hK hHeld; intro hHeld; (try simp only [Act.put, List.setIfInBounds_toArray, List.set_cons_zero, List.set_cons_succ]))
          | ((have hzz := HV.out); clear hzz; refine seq_call (by simp only [List.getElem?_toArray, List.getElem?_cons_succ, List.getElem?_cons_zero]; first | done | rfl) (by rfl) (fun K hK => ?_); go_simp; go_at_call 8; (have hq1 := M.oball_cutQ (b := (r5.map Wr.wk, l5)) (l := es) HQK.out (by omega) k rfl HVM.out); (have hq2 : (M.obeyedAll (r5.map Wr.wk, l5) (es.take k)).2.length ≤ 1048576 := by have := HV5.out; omega); (have hq3 : r11.length ≤ 1048576 := by have := (oball_small HVM.out).1; omega); (have hq4 : (es.drop k).length ≤ 1048576 := by rw [List.length_drop]; omega); (have hcall := implObeyedAll_n B1 r11 d1 B2 (M.obeyedAll (r5.map Wr.wk, l5) (es.take k)).2 d2 (AL.map (·.add (k * 10))) (es.drop k) (es.length - k) (co - k) w1 (M.obeyedAll (r5.map Wr.wk, l5) es) List.length_drop hq1 HV.out.1 hq3 ((oball_small HVM.out).2.mono (by omega)) HV.out.2 hq2 (fun y hy => Nat.le_trans (HVI.out y hy) (by omega)) (HDR.out.below hHeld) hq4 (fun y hy => HOP2.out y (List.mem_of_mem_drop hy))); (have HCALL := Lib.hid hcall); clear hq1 hq2 hq3 hq4 hcall; refine HCALL.out.mono ?_; rintro r w1 hr; (obtain ⟨B3, d3, B4, d4, r12, rfl, hzr, hzm, b1⟩ := hr.read); (have HT := Lib.hid hzr); (have HTM := Lib.hid hzm); clear hzr hzm hr; clear HCALL; go_simp; refine hK.out _ _ (next hHeld b1) ?_; clear hK hHeld; intro hHeld; (clear HV HVM); (try simp only [Act.put, List.setIfInBounds_toArray, List.set_cons_zero, List.set_cons_succ]))
          | (refine seq_call (by simp only [List.getElem?_toArray, List.getElem?_cons_succ, List.getElem?_cons_zero]; first | done | rfl) (by rfl) (fun K hK => ?_); go_simp; go_at_call 8; refine (implObeyedAll_n A5 r5 c5 A6 l5 c6 AL (es.take k) k _ _ (M.obeyedAll (r5.map Wr.wk, l5) (es.take k)) ((List.length_take).trans (by omega)) rfl (HQ.out.below hHeld).1 (by have := HQS.out.1.1; omega) (HQS.out.1.2.mono (by omega)) (HQ.out.below hHeld).2 (by have := HQS.out.2.1; omega) (fun y hy => Nat.le_trans (HQS.out.2.2 y hy) (by omega)) (HTK.out.below hHeld) (by rw [List.length_take]; omega) (fun y hy => HOP2.out y (List.mem_of_mem_take hy))).mono ?_; rintro r w1 hr; (obtain ⟨B1, d1, B2, d2, r11, rfl, hzr, hzm, b1⟩ := hr.read); (have HV := Lib.hid hzr); (have HVM := Lib.hid hzm); clear hzr hzm hr; go_simp; refine hK.out _ _ (next hHeld b1) ?_; clear hK hHeld; intro hHeld; (try simp only [Act.put, List.setIfInBounds_toArray, List.set_cons_zero, List.set_cons_succ])))
        refine seq_end ?_
        have HM := Lib.hid (hm.below hHeld).1
        clear hm
        go_wp2
        go_ret
        exact ⟨rfl, HM.out⟩
    have HOK := Lib.hid hok
    have hcall := specBookOk A1 rs c1 A2 ls c2 _ HB.out.1 (by have := HBS.out.1.1; omega) (HBS.out.1.2.mono (by omega)) HB.out.2 (by have := HBS.out.2.1; omega)
    rw [hok] at hcall
    refine hcall.mono ?_
    rintro r x9 ⟨rfl, b9⟩
    replace hm := hm.below b9
    replace HB := Lib.hid (HB.out.below b9)
    replace HX := Lib.hid (HX.out.below b9)
    replace HQ := Lib.hid (HQ.out.below b9)
    replace HY := Lib.hid (HY.out.below b9)
    replace HES := Lib.hid (HES.out.below b9)
    clear hcall b9 hok p0 p1
    obtain ⟨q0, q1, q2, q3, q4, q5, q6, q7, q8, q9⟩ := (hm.get ((x1.heap.size + 1)) (enC e) (by simp)).ten
    go_wp2_with fail
    rcases hen : M.entryOk e with _ | _
    · have hcall := specEntryOk e x9 (by have := HEI.out.1; unfold maxLen; omega) (by have := HEI.out.2; unfold maxLen; omega)
      rw [hen] at hcall
      refine hcall.mono ?_
      rintro r xa ⟨rfl, ba⟩
      replace hm := hm.below ba
      replace HQ := Lib.hid (HQ.out.below ba)
      replace HY := Lib.hid (HY.out.below ba)
      replace HES := Lib.hid (HES.out.below ba)
      clear hcall ba hen
      clear q0 q1 q2 q3 q4 q5 q6 q7 q8 q9
      obtain ⟨u0, u1⟩ := (hm.get (x3.heap.size) ((bkA A5 r5.length c5 A6 l5.length c6)) (by simp)).two
      go_wp2_with fail
      rcases hqk : M.bkOk (r5.map Wr.wk) l5 with _ | _
      · have hcall := specBookOk A5 r5 c5 A6 l5 c6 xa HQ.out.1 (by have := HQS.out.1.1; omega) (HQS.out.1.2.mono (by omega)) HQ.out.2 (by have := HQS.out.2.1; omega)
        rw [hqk] at hcall
        refine hcall.mono ?_
        rintro r xd ⟨rfl, bd⟩
        have HM := Lib.hid (hm.below bd).1
        clear hcall bd hm hqk u0 u1
        go_wp2
        go_ret
        exact ⟨rfl, HM.out⟩
      have HQK := Lib.hid hqk
      have hcall := specBookOk A5 r5 c5 A6 l5 c6 xa HQ.out.1 (by have := HQS.out.1.1; omega) (HQS.out.1.2.mono (by omega)) HQ.out.2 (by have := HQS.out.2.1; omega)
      rw [hqk] at hcall
      refine hcall.mono ?_
      rintro r xd ⟨rfl, bd⟩
      replace hm := hm.below bd
      replace HQ := Lib.hid (HQ.out.below bd)
      replace HY := Lib.hid (HY.out.below bd)
      replace HES := Lib.hid (HES.out.below bd)
      clear hcall bd hqk u0 u1
      by_cases h30 : 30 < es.length
      · have HM := Lib.hid hm.1
        clear hm
        go_wp2
        go_ret
        exact ⟨rfl, HM.out⟩
      have HCC := Lib.hid (HC.out.later hm.1)
      go_wp2_with fail
      refine (pick_any a0 len0 cap0 (es.length + 1) _ _ (by simp) (by omega) (by omega) hl4 HCC.out).mono ?_
      rintro r xe ⟨k, hk, rfl, rfl⟩
      clear HCC
      have hk' : k ≤ es.length := by omega
      have hkc : k ≤ co := Nat.le_trans hk' HCAP.out
      obtain ⟨u0, u1⟩ := (hm.get (x3.heap.size) ((bkA A5 r5.length c5 A6 l5.length c6)) (by simp)).two
      obtain ⟨v0, v1⟩ := (hm.get (x4.heap.size) ((bkA A7 r7.length c7 A8 (M.obeyedAll (r5.map Wr.wk, l5) es).2.length c8)) (by simp)).two
      have z1 := (hm.get (x3.heap.size) ((bkA A5 r5.length c5 A6 l5.length c6)) (by simp)).1
      have z2 := (hm.get (x4.heap.size) ((bkA A7 r7.length c7 A8 (M.obeyedAll (r5.map Wr.wk, l5) es).2.length c8)) (by simp)).1
      have HV5 := Lib.hid ((M.obeyAll_ok (r5.map Wr.wk, l5) (es.take k)).2)
      have HVI := Lib.hid (M.oball_in (rs := r5) (l := es.take k) HQS.out.2.2)
      have HTK : Hid (Ens _ AL (es.take k)) := Lib.hid (Flat.cutTake HES.out k)
      have hcd : Ens _ (cutAt AL co k 10) (es.drop k) := Flat.cutDrop HES.out k HCAP.out
      have hcap : es.length ≤ co := HCAP.out
      unfold cutAt at hcd
      by_cases hck : co = k
      · rw [if_pos hck] at hcd
        have HDR := Lib.hid hcd
        clear hcd
        subst hck
        go_upto_region 16 with (fail)
        refine wp_region_seq (fun w' => Below xd.heap.size xd w') [(0, true), (1, true), (2, true), (3, true), (5, true), (6, true), (7, true), (9, true), (4, false), (8, false), (10, false), (11, true)] (by kernel_rfl) (by kernel_rfl) (fun _ _ _ _ _ h => h) (by kernel_rfl) (by decide) (Below.refl _ _).drew ?_
        intro hHeld
        repeat (first
          | (refine seq_skip (by simp only [List.getElem?_toArray, List.getElem?_cons_succ, List.getElem?_cons_zero]; first | done | rfl) (by rfl) ?_; (try simp only [Act.put, List.setIfInBounds_toArray, List.set_cons_zero, List.set_cons_succ]))
          | (refine seq_reads (by simp only [List.getElem?_toArray, List.getElem?_cons_succ, List.getElem?_cons_zero]; first | done | rfl) (by rfl) ?_; apply Exists.intro; apply And.intro; (focus (intro w hSw; obtain ⟨hcS, -⟩ := bcell hSw; go_simp; (try with_reducible rfl); done)); (try simp only [Act.put, List.setIfInBounds_toArray, List.set_cons_zero, List.set_cons_succ]))
          | (refine seq_pass (by simp only [List.getElem?_toArray, List.getElem?_cons_succ, List.getElem?_cons_zero]; first | done | rfl) (by rfl) hHeld ?_; clear hHeld; intro hHeld; (try simp only [Act.put, List.setIfInBounds_toArray, List.set_cons_zero, List.set_cons_succ]))
          | ((have hzz := HT.out); clear hzz; refine seq_call (by simp only [List.getElem?_toArray, List.getElem?_cons_succ, List.getElem?_cons_zero]; first | done | rfl) (by rfl) (fun K hK => ?_); go_simp; go_at_call 11; refine (likeBook_same B3 r12 d3 B4 (M.obeyedAll (r5.map Wr.wk, l5) es).2 d4 A7 r7 _ c7 A8 c8 _ (HT.out).1 (HY.out.below hHeld).1 (HYM.out.trans HTM.out.symm) rfl (by have := (oball_small HTM.out).1; omega) (fun r hr => by have := ((oball_small HTM.out).2 r hr).2.1; omega) (HT.out).2 (HY.out.below hHeld).2 (by have := HU5.out; omega)).mono ?_; rintro r w1 ⟨rfl, b1⟩; go_simp; refine hK.out _ _ (next hHeld b1) ?_; clear hK hHeld; intro hHeld; (try simp only [Act.put, List.setIfInBounds_toArray, List.set_cons_zero, List.set_cons_succ]))
          | ((have hzz := HV.out); clear hzz; refine seq_call (by simp only [List.getElem?_toArray, List.getElem?_cons_succ, List.getElem?_cons_zero]; first | done | rfl) (by rfl) (fun K hK => ?_); go_simp; go_at_call 8; refine (implObeyedAll_n B1 r11 d1 B2 (M.obeyedAll (r5.map Wr.wk, l5) (es.take co)).2 d2 AL (es.drop co) _ _ _ (M.obeyedAll (r5.map Wr.wk, l5) es) ((List.length_drop).trans (by omega)) (M.oball_cutQ (b := (r5.map Wr.wk, l5)) HQK.out (by omega) co rfl HVM.out) HV.out.1 (by have := (oball_small HVM.out).1; omega) ((oball_small HVM.out).2.mono (by omega)) HV.out.2 (by have := HV5.out; omega) (fun y hy => Nat.le_trans (HVI.out y hy) (by omega)) (HDR.out.below hHeld) (by rw [List.length_drop]; omega) (fun y hy => HOP2.out y (List.mem_of_mem_drop hy))).mono ?_; rintro r w1 hr; (obtain ⟨B3, d3, B4, d4, r12, rfl, hzr, hzm, b1⟩ := hr.read); (have HT := Lib.hid hzr); (have HTM := Lib.hid hzm); clear hzr hzm hr; go_simp; refine hK.out _ _ (next hHeld b1) ?_; clear hK hHeld; intro hHeld; (clear HV HVM); (try simp only [Act.put, List.setIfInBounds_toArray, List.set_cons_zero, List.set_cons_succ]))
          | (refine seq_call (by simp only [List.getElem?_toArray, List.getElem?_cons_succ, List.getElem?_cons_zero]; first | done | rfl) (by rfl) (fun K hK => ?_); go_simp; go_at_call 8; refine (implObeyedAll_n A5 r5 c5 A6 l5 c6 AL (es.take co) co _ _ (M.obeyedAll (r5.map Wr.wk, l5) (es.take co)) ((List.length_take).trans (by omega)) rfl (HQ.out.below hHeld).1 (by have := HQS.out.1.1; omega) (HQS.out.1.2.mono (by omega)) (HQ.out.below hHeld).2 (by have := HQS.out.2.1; omega) (fun y hy => Nat.le_trans (HQS.out.2.2 y hy) (by omega)) (HTK.out.below hHeld) (by rw [List.length_take]; omega) (fun y hy => HOP2.out y (List.mem_of_mem_take hy))).mono ?_; rintro r w1 hr; (obtain ⟨B1, d1, B2, d2, r11, rfl, hzr, hzm, b1⟩ := hr.read); (have HV := Lib.hid hzr); (have HVM := Lib.hid hzm); clear hzr hzm hr; go_simp; refine hK.out _ _ (next hHeld b1) ?_; clear hK hHeld; intro hHeld; (try simp only [Act.put, List.setIfInBounds_toArray, List.set_cons_zero, List.set_cons_succ])))
        refine seq_end ?_
        have HM := Lib.hid (hm.below hHeld).1
        clear hm
        go_wp2
        go_ret
        exact ⟨rfl, HM.out⟩
      · rw [if_neg hck] at hcd
        have HDR := Lib.hid hcd
        clear hcd
        go_upto_region 16 with (fail)
        refine wp_region_seq (fun w' => Below xd.heap.size xd w') [(0, true), (1, true), (2, true), (3, true), (5, true), (6, true), (7, true), (9, true), (4, false), (8, false), (10, false), (11, true)] (by kernel_rfl) (by kernel_rfl) (fun _ _ _ _ _ h => h) (by kernel_rfl) (by decide) (Below.refl _ _).drew ?_
        intro hHeld
        repeat (first
          | (refine seq_skip (by simp only [List.getElem?_toArray, List.getElem?_cons_succ, List.getElem?_cons_zero]; first | done | rfl) (by rfl) ?_; (try simp only [Act.put, List.setIfInBounds_toArray, List.set_cons_zero, List.set_cons_succ]))
          | (refine seq_reads (by simp only [List.getElem?_toArray, List.getElem?_cons_succ, List.getElem?_cons_zero]; first | done | rfl) (by rfl) ?_; apply Exists.intro; apply And.intro; (focus (intro w hSw; obtain ⟨hcS, -⟩ := bcell hSw; go_simp; (try with_reducible rfl); done)); (try simp only [Act.put, List.setIfInBounds_toArray, List.set_cons_zero, List.set_cons_succ]))
          | (refine seq_pass (by simp only [List.getElem?_toArray, List.getElem?_cons_succ, List.getElem?_cons_zero]; first | done | rfl) (by rfl) hHeld ?_; clear hHeld; intro hHeld; (try simp only [Act.put, List.setIfInBounds_toArray, List.set_cons_zero, List.set_cons_succ]))
          | ((have hzz := HT.out); clear hzz; refine seq_call (by simp only [List.getElem?_toArray, List.getElem?_cons_succ, List.getElem?_cons_zero]; first | done | rfl) (by rfl) (fun K hK => ?_); go_simp; go_at_call 11; refine (likeBook_same B3 r12 d3 B4 (M.obeyedAll (r5.map Wr.wk, l5) es).2 d4 A7 r7 _ c7 A8 c8 _ (HT.out).1 (HY.out.below hHeld).1 (HYM.out.trans HTM.out.symm) rfl (by have := (oball_small HTM.out).1; omega) (fun r hr => by have := ((oball_small HTM.out).2 r hr).2.1; omega) (HT.out).2 (HY.out.below hHeld).2 (by have := HU5.out; omega)).mono ?_; rintro r w1 ⟨rfl, b1⟩; go_simp; refine hK.out _ _ (next hHeld b1) ?_; clear hK hHeld; intro hHeld; (try simp only [Act.put, List.setIfInBounds_toArray, List.set_cons_zero, List.set_cons_succ]))
          | ((have hzz := HV.out); clear hzz; refine seq_call (by simp only [List.getElem?_toArray, List.getElem?_cons_succ, List.getElem?_cons_zero]; first | done | rfl) (by rfl) (fun K hK => ?_); go_simp; go_at_call 8; (have hq1 := M.oball_cutQ (b := (r5.map Wr.wk, l5)) (l := es) HQK.out (by omega) k rfl HVM.out); (have hq2 : (M.obeyedAll (r5.map Wr.wk, l5) (es.take k)).2.length ≤ 1048576 := by have := HV5.out; omega); (have hq3 : r11.length ≤ 1048576 := by have := (oball_small HVM.out).1; omega); (have hq4 : (es.drop k).length ≤ 1048576 := by rw [List.length_drop]; omega); (have hcall := implObeyedAll_n B1 r11 d1 B2 (M.obeyedAll (r5.map Wr.wk, l5) (es.take k)).2 d2 (AL.map (·.add (k * 10))) (es.drop k) (es.length - k) (co - k) w1 (M.obeyedAll (r5.map Wr.wk, l5) es) List.length_drop hq1 HV.out.1 hq3 ((oball_small HVM.out).2.mono (by omega)) HV.out.2 hq2 (fun y hy => Nat.le_trans (HVI.out y hy) (by omega)) (HDR.out.below hHeld) hq4 (fun y hy => HOP2.out y (List.mem_of_mem_drop hy))); (have HCALL := Lib.hid hcall); clear hq1 hq2 hq3 hq4 hcall; refine HCALL.out.mono ?_; rintro r w1 hr; (obtain ⟨B3, d3, B4, d4, r12, rfl, hzr, hzm, b1⟩ := hr.read); (have HT := Lib.hid hzr); (have HTM := Lib.hid hzm); clear hzr hzm hr; clear HCALL; go_simp; refine hK.out _ _ (next hHeld b1) ?_; clear hK hHeld; intro hHeld; (clear HV HVM); (try simp only [Act.put, List.setIfInBounds_toArray, List.set_cons_zero, List.set_cons_succ]))
          | (refine seq_call (by simp only [List.getElem?_toArray, List.getElem?_cons_succ, List.getElem?_cons_zero]; first | done | rfl) (by rfl) (fun K hK => ?_); go_simp; go_at_call 8; refine (implObeyedAll_n A5 r5 c5 A6 l5 c6 AL (es.take k) k _ _ (M.obeyedAll (r5.map Wr.wk, l5) (es.take k)) ((List.length_take).trans (by omega)) rfl (HQ.out.below hHeld).1 (by have := HQS.out.1.1; omega) (HQS.out.1.2.mono (by omega)) (HQ.out.below hHeld).2 (by have := HQS.out.2.1; omega) (fun y hy => Nat.le_trans (HQS.out.2.2 y hy) (by omega)) (HTK.out.below hHeld) (by rw [List.length_take]; omega) (fun y hy => HOP2.out y (List.mem_of_mem_take hy))).mono ?_; rintro r w1 hr; (obtain ⟨B1, d1, B2, d2, r11, rfl, hzr, hzm, b1⟩ := hr.read); (have HV := Lib.hid hzr); (have HVM := Lib.hid hzm); clear hzr hzm hr; go_simp; refine hK.out _ _ (next hHeld b1) ?_; clear hK hHeld; intro hHeld; (try simp only [Act.put, List.setIfInBounds_toArray, List.set_cons_zero, List.set_cons_succ])))
        refine seq_end ?_
        have HM := Lib.hid (hm.below hHeld).1
        clear hm
        go_wp2
        go_ret
        exact ⟨rfl, HM.out⟩
    have HEN := Lib.hid hen
    have hcall := specEntryOk e x9 (by have := HEI.out.1; unfold maxLen; omega) (by have := HEI.out.2; unfold maxLen; omega)
    rw [hen] at hcall
    refine hcall.mono ?_
    rintro r xa ⟨rfl, ba⟩
    replace hm := hm.below ba
    replace HB := Lib.hid (HB.out.below ba)
    replace HX := Lib.hid (HX.out.below ba)
    replace HQ := Lib.hid (HQ.out.below ba)
    replace HY := Lib.hid (HY.out.below ba)
    replace HES := Lib.hid (HES.out.below ba)
    clear hcall ba hen
    clear q0 q1 q2 q3 q4 q5 q6 q7 q8 q9
    obtain ⟨q0, q1, q2, q3, q4, q5, q6, q7, q8, q9⟩ := (hm.get ((x1.heap.size + 1)) (enC e) (by simp)).ten
    rcases hor : M.orEq e.order M.or0 with _ | _
    · obtain ⟨u0, u1⟩ := (hm.get (x3.heap.size) ((bkA A5 r5.length c5 A6 l5.length c6)) (by simp)).two
      go_wp2_with (refine wpList_run (by rfl) (oreql_read (a := e.order) (b := M.or0) rfl rfl rfl _) ?_; simp only [hor]; refine stop_mk ?_)
      refine stop_un ?_
      go_wp2_with fail
      clear hor q0 q1 q2 q3 q4 q5 q6 q7 q8 q9
      rcases hqk : M.bkOk (r5.map Wr.wk) l5 with _ | _
      · have hcall := specBookOk A5 r5 c5 A6 l5 c6 xa HQ.out.1 (by have := HQS.out.1.1; omega) (HQS.out.1.2.mono (by omega)) HQ.out.2 (by have := HQS.out.2.1; omega)
        rw [hqk] at hcall
        refine hcall.mono ?_
        rintro r xd ⟨rfl, bd⟩
        have HM := Lib.hid (hm.below bd).1
        clear hcall bd hm hqk u0 u1
        go_wp2
        go_ret
        exact ⟨rfl, HM.out⟩
      have HQK := Lib.hid hqk
      have hcall := specBookOk A5 r5 c5 A6 l5 c6 xa HQ.out.1 (by have := HQS.out.1.1; omega) (HQS.out.1.2.mono (by omega)) HQ.out.2 (by have := HQS.out.2.1; omega)
      rw [hqk] at hcall
      refine hcall.mono ?_
      rintro r xd ⟨rfl, bd⟩
      replace hm := hm.below bd
      replace HQ := Lib.hid (HQ.out.below bd)
      replace HY := Lib.hid (HY.out.below bd)
      replace HES := Lib.hid (HES.out.below bd)
      clear hcall bd hqk u0 u1
      by_cases h30 : 30 < es.length
      · have HM := Lib.hid hm.1
        clear hm
        go_wp2
        go_ret
        exact ⟨rfl, HM.out⟩
      have HCC := Lib.hid (HC.out.later hm.1)
      go_wp2_with fail
      refine (pick_any a0 len0 cap0 (es.length + 1) _ _ (by simp) (by omega) (by omega) hl4 HCC.out).mono ?_
      rintro r xe ⟨k, hk, rfl, rfl⟩
      clear HCC
      have hk' : k ≤ es.length := by omega
      have hkc : k ≤ co := Nat.le_trans hk' HCAP.out
      obtain ⟨u0, u1⟩ := (hm.get (x3.heap.size) ((bkA A5 r5.length c5 A6 l5.length c6)) (by simp)).two
      obtain ⟨v0, v1⟩ := (hm.get (x4.heap.size) ((bkA A7 r7.length c7 A8 (M.obeyedAll (r5.map Wr.wk, l5) es).2.length c8)) (by simp)).two
      have z1 := (hm.get (x3.heap.size) ((bkA A5 r5.length c5 A6 l5.length c6)) (by simp)).1
      have z2 := (hm.get (x4.heap.size) ((bkA A7 r7.length c7 A8 (M.obeyedAll (r5.map Wr.wk, l5) es).2.length c8)) (by simp)).1
      have HV5 := Lib.hid ((M.obeyAll_ok (r5.map Wr.wk, l5) (es.take k)).2)
      have HVI := Lib.hid (M.oball_in (rs := r5) (l := es.take k) HQS.out.2.2)
      have HTK : Hid (Ens _ AL (es.take k)) := Lib.hid (Flat.cutTake HES.out k)
      have hcd : Ens _ (cutAt AL co k 10) (es.drop k) := Flat.cutDrop HES.out k HCAP.out
      have hcap : es.length ≤ co := HCAP.out
      unfold cutAt at hcd
      by_cases hck : co = k
      · rw [if_pos hck] at hcd
        have HDR := Lib.hid hcd
        clear hcd
        subst hck
        go_upto_region 16 with (fail)
        refine wp_region_seq (fun w' => Below xd.heap.size xd w') [(0, true), (1, true), (2, true), (3, true), (5, true), (6, true), (7, true), (9, true), (4, false), (8, false), (10, false), (11, true)] (by kernel_rfl) (by kernel_rfl) (fun _ _ _ _ _ h => h) (by kernel_rfl) (by decide) (Below.refl _ _).drew ?_
        intro hHeld
        repeat (first
          | (refine seq_skip (by simp only [List.getElem?_toArray, List.getElem?_cons_succ, List.getElem?_cons_zero]; first | done | rfl) (by rfl) ?_; (try simp only [Act.put, List.setIfInBounds_toArray, List.set_cons_zero, List.set_cons_succ]))
          | (refine seq_reads (by simp only [List.getElem?_toArray, List.getElem?_cons_succ, List.getElem?_cons_zero]; first | done | rfl) (by rfl) ?_; apply Exists.intro; apply And.intro; (focus (intro w hSw; obtain ⟨hcS, -⟩ := bcell hSw; go_simp; (try with_reducible rfl); done)); (try simp only [Act.put, List.setIfInBounds_toArray, List.set_cons_zero, List.set_cons_succ]))
          | (refine seq_pass (by simp only [List.getElem?_toArray, List.getElem?_cons_succ, List.getElem?_cons_zero]; first | done | rfl) (by rfl) hHeld ?_; clear hHeld; intro hHeld; (try simp only [Act.put, List.setIfInBounds_toArray, List.set_cons_zero, List.set_cons_succ]))
          | ((have hzz := HT.out); clear hzz; refine seq_call (by simp only [List.getElem?_toArray, List.getElem?_cons_succ, List.getElem?_cons_zero]; first | done | rfl) (by rfl) (fun K hK => ?_); go_simp; go_at_call 11; refine (likeBook_same B3 r12 d3 B4 (M.obeyedAll (r5.map Wr.wk, l5) es).2 d4 A7 r7 _ c7 A8 c8 _ (HT.out).1 (HY.out.below hHeld).1 (HYM.out.trans HTM.out.symm) rfl (by have := (oball_small HTM.out).1; omega) (fun r hr => by have := ((oball_small HTM.out).2 r hr).2.1; omega) (HT.out).2 (HY.out.below hHeld).2 (by have := HU5.out; omega)).mono ?_; rintro r w1 ⟨rfl, b1⟩; go_simp; refine hK.out _ _ (next hHeld b1) ?_; clear hK hHeld; intro hHeld; (try simp only [Act.put, List.setIfInBounds_toArray, List.set_cons_zero, List.set_cons_succ]))
          | ((have hzz := HV.out); clear hzz; refine seq_call (by simp only [List.getElem?_toArray, List.getElem?_cons_succ, List.getElem?_cons_zero]; first | done | rfl) (by rfl) (fun K hK => ?_); go_simp; go_at_call 8; refine (implObeyedAll_n B1 r11 d1 B2 (M.obeyedAll (r5.map Wr.wk, l5) (es.take co)).2 d2 AL (es.drop co) _ _ _ (M.obeyedAll (r5.map Wr.wk, l5) es) ((List.length_drop).trans (by omega)) (M.oball_cutQ (b := (r5.map Wr.wk, l5)) HQK.out (by omega) co rfl HVM.out) HV.out.1 (by have := (oball_small HVM.out).1; omega) ((oball_small HVM.out).2.mono (by omega)) HV.out.2 (by have := HV5.out; omega) (fun y hy => Nat.le_trans (HVI.out y hy) (by omega)) (HDR.out.below hHeld) (by rw [List.length_drop]; omega) (fun y hy => HOP2.out y (List.mem_of_mem_drop hy))).mono ?_; rintro r w1 hr; (obtain ⟨B3, d3, B4, d4, r12, rfl, hzr, hzm, b1⟩ := hr.read); (have HT := Lib.hid hzr); (have HTM := Lib.hid hzm); clear hzr hzm hr; go_simp; refine hK.out _ _ (next hHeld b1) ?_; clear hK hHeld; intro hHeld; (clear HV HVM); (try simp only [Act.put, List.setIfInBounds_toArray, List.set_cons_zero, List.set_cons_succ]))
          | (refine seq_call (by simp only [List.getElem?_toArray, List.getElem?_cons_succ, List.getElem?_cons_zero]; first | done | rfl) (by rfl) (fun K hK => ?_); go_simp; go_at_call 8; refine (implObeyedAll_n A5 r5 c5 A6 l5 c6 AL (es.take co) co _ _ (M.obeyedAll (r5.map Wr.wk, l5) (es.take co)) ((List.length_take).trans (by omega)) rfl (HQ.out.below hHeld).1 (by have := HQS.out.1.1; omega) (HQS.out.1.2.mono (by omega)) (HQ.out.below hHeld).2 (by have := HQS.out.2.1; omega) (fun y hy => Nat.le_trans (HQS.out.2.2 y hy) (by omega)) (HTK.out.below hHeld) (by rw [List.length_take]; omega) (fun y hy => HOP2.out y (List.mem_of_mem_take hy))).mono ?_; rintro r w1 hr; (obtain ⟨B1, d1, B2, d2, r11, rfl, hzr, hzm, b1⟩ := hr.read); (have HV := Lib.hid hzr); (have HVM := Lib.hid hzm); clear hzr hzm hr; go_simp; refine hK.out _ _ (next hHeld b1) ?_; clear hK hHeld; intro hHeld; (try simp only [Act.put, List.setIfInBounds_toArray, List.set_cons_zero, List.set_cons_succ])))
        refine seq_end ?_
        have HM := Lib.hid (hm.below hHeld).1
        clear hm
        go_wp2
        go_ret
        exact ⟨rfl, HM.out⟩
      · rw [if_neg hck] at hcd
        have HDR := Lib.hid hcd
        clear hcd
        go_upto_region 16 with (fail)
        refine wp_region_seq (fun w' => Below xd.heap.size xd w') [(0, true), (1, true), (2, true), (3, true), (5, true), (6, true), (7, true), (9, true), (4, false), (8, false), (10, false), (11, true)] (by kernel_rfl) (by kernel_rfl) (fun _ _ _ _ _ h => h) (by kernel_rfl) (by decide) (Below.refl _ _).drew ?_
        intro hHeld
        repeat (first
          | (refine seq_skip (by simp only [List.getElem?_toArray, List.getElem?_cons_succ, List.getElem?_cons_zero]; first | done | rfl) (by rfl) ?_; (try simp only [Act.put, List.setIfInBounds_toArray, List.set_cons_zero, List.set_cons_succ]))
          | (refine seq_reads (by simp only [List.getElem?_toArray, List.getElem?_cons_succ, List.getElem?_cons_zero]; first | done | rfl) (by rfl) ?_; apply Exists.intro; apply And.intro; (focus (intro w hSw; obtain ⟨hcS, -⟩ := bcell hSw; go_simp; (try with_reducible rfl); done)); (try simp only [Act.put, List.setIfInBounds_toArray, List.set_cons_zero, List.set_cons_succ]))
          | (refine seq_pass (by simp only [List.getElem?_toArray, List.getElem?_cons_succ, List.getElem?_cons_zero]; first | done | rfl) (by rfl) hHeld ?_; clear hHeld; intro hHeld; (try simp only [Act.put, List.setIfInBounds_toArray, List.set_cons_zero, List.set_cons_succ]))
          | ((have hzz := HT.out); clear hzz; refine seq_call (by simp only [List.getElem?_toArray, List.getElem?_cons_succ, List.getElem?_cons_zero]; first | done | rfl) (by rfl) (fun K hK => ?_); go_simp; go_at_call 11; refine (likeBook_same B3 r12 d3 B4 (M.obeyedAll (r5.map Wr.wk, l5) es).2 d4 A7 r7 _ c7 A8 c8 _ (HT.out).1 (HY.out.below hHeld).1 (HYM.out.trans HTM.out.symm) rfl (by have := (oball_small HTM.out).1; omega) (fun r hr => by have := ((oball_small HTM.out).2 r hr).2.1; omega) (HT.out).2 (HY.out.below hHeld).2 (by have := HU5.out; omega)).mono ?_; rintro r w1 ⟨rfl, b1⟩; go_simp; refine hK.out _ _ (next hHeld b1) ?_; clear hK hHeld; intro hHeld; (try simp only [Act.put, List.setIfInBounds_toArray, List.set_cons_zero, List.set_cons_succ]))
          | ((have hzz := HV.out); clear hzz; refine seq_call (by simp only [List.getElem?_toArray, List.getElem?_cons_succ, List.getElem?_cons_zero]; first | done | rfl) (by rfl) (fun K hK => ?_); go_simp; go_at_call 8; (have hq1 := M.oball_cutQ (b := (r5.map Wr.wk, l5)) (l := es) HQK.out (by omega) k rfl HVM.out); (have hq2 : (M.obeyedAll (r5.map Wr.wk, l5) (es.take k)).2.length ≤ 1048576 := by have := HV5.out; omega); (have hq3 : r11.length ≤ 1048576 := by have := (oball_small HVM.out).1; omega); (have hq4 : (es.drop k).length ≤ 1048576 := by rw [List.length_drop]; omega); (have hcall := implObeyedAll_n B1 r11 d1 B2 (M.obeyedAll (r5.map Wr.wk, l5) (es.take k)).2 d2 (AL.map (·.add (k * 10))) (es.drop k) (es.length - k) (co - k) w1 (M.obeyedAll (r5.map Wr.wk, l5) es) List.length_drop hq1 HV.out.1 hq3 ((oball_small HVM.out).2.mono (by omega)) HV.out.2 hq2 (fun y hy => Nat.le_trans (HVI.out y hy) (by omega)) (HDR.out.below hHeld) hq4 (fun y hy => HOP2.out y (List.mem_of_mem_drop hy))); (have HCALL := Lib.hid hcall); clear hq1 hq2 hq3 hq4 hcall; refine HCALL.out.mono ?_; rintro r w1 hr; (obtain ⟨B3, d3, B4, d4, r12, rfl, hzr, hzm, b1⟩ := hr.read); (have HT := Lib.hid hzr); (have HTM := Lib.hid hzm); clear hzr hzm hr; clear HCALL; go_simp; refine hK.out _ _ (next hHeld b1) ?_; clear hK hHeld; intro hHeld; (clear HV HVM); (try simp only [Act.put, List.setIfInBounds_toArray, List.set_cons_zero, List.set_cons_succ]))
          | (refine seq_call (by simp only [List.getElem?_toArray, List.getElem?_cons_succ, List.getElem?_cons_zero]; first | done | rfl) (by rfl) (fun K hK => ?_); go_simp; go_at_call 8; refine (implObeyedAll_n A5 r5 c5 A6 l5 c6 AL (es.take k) k _ _ (M.obeyedAll (r5.map Wr.wk, l5) (es.take k)) ((List.length_take).trans (by omega)) rfl (HQ.out.below hHeld).1 (by have := HQS.out.1.1; omega) (HQS.out.1.2.mono (by omega)) (HQ.out.below hHeld).2 (by have := HQS.out.2.1; omega) (fun y hy => Nat.le_trans (HQS.out.2.2 y hy) (by omega)) (HTK.out.below hHeld) (by rw [List.length_take]; omega) (fun y hy => HOP2.out y (List.mem_of_mem_take hy))).mono ?_; rintro r w1 hr; (obtain ⟨B1, d1, B2, d2, r11, rfl, hzr, hzm, b1⟩ := hr.read); (have HV := Lib.hid hzr); (have HVM := Lib.hid hzm); clear hzr hzm hr; go_simp; refine hK.out _ _ (next hHeld b1) ?_; clear hK hHeld; intro hHeld; (try simp only [Act.put, List.setIfInBounds_toArray, List.set_cons_zero, List.set_cons_succ])))
        refine seq_end ?_
        have HM := Lib.hid (hm.below hHeld).1
        clear hm
        go_wp2
        go_ret
        exact ⟨rfl, HM.out⟩
    have HE := Lib.hid (M.obey_none (b := (rs.map Wr.wk, ls)) HOK.out HEN.out hor)
    have h2 := hm.get (x2.heap.size) ((bkA A3 r3.length c3 A4 (M.obeyed (rs.map Wr.wk, ls) e).1.2.length c4)) (by simp)
    obtain ⟨t0, t1⟩ := (hm.get ((x2.heap.size + 1)) (rpA (M.obeyed (rs.map Wr.wk, ls) e).2.1 (M.obeyed (rs.map Wr.wk, ls) e).2.2) (by simp)).two
    rw [HE.out] at h2 t0 t1
    obtain ⟨s0, s1⟩ := h2.two
    have hxm := HXM.out
    rw [HE.out] at hxm
    have hx2 := HX.out
    rw [HE.out] at hx2
    have HXX := Lib.hid hx2
    have HXN := Lib.hid hxm
    clear h2 hx2 hxm
    obtain ⟨p0, p1⟩ := (hm.get (x1.heap.size) ((bkA A1 rs.length c1 A2 ls.length c2)) (by simp)).two
    go_wp2_with (refine wpList_run (by rfl) (oreql_read (a := e.order) (b := M.or0) rfl rfl rfl _) ?_; simp only [hor])
    refine (likeBook_same A3 r3 c3 A4 ls c4 A1 rs _ c1 A2 c2 _ HXX.out.1 HB.out.1 HXN.out.symm rfl (by have := (obey_small HXM.out).1; omega) (fun r hr => by have := ((obey_small HXM.out).2 r hr).2.1; omega) HXX.out.2 HB.out.2 (by have := HBS.out.2.1; omega)).mono ?_
    rintro r xc ⟨rfl, bc⟩
    replace hm := hm.below bc
    replace HQ := Lib.hid (HQ.out.below bc)
    replace HY := Lib.hid (HY.out.below bc)
    replace HES := Lib.hid (HES.out.below bc)
    clear bc hor p0 p1 s0 s1 t0 t1
    clear q0 q1 q2 q3 q4 q5 q6 q7 q8 q9
    obtain ⟨t0, t1⟩ := (hm.get ((x2.heap.size + 1)) (rpA (M.obeyed (rs.map Wr.wk, ls) e).2.1 (M.obeyed (rs.map Wr.wk, ls) e).2.2) (by simp)).two
    rw [HE.out] at t0 t1
    obtain ⟨u0, u1⟩ := (hm.get (x3.heap.size) ((bkA A5 r5.length c5 A6 l5.length c6)) (by simp)).two
    go_wp2_with (refine wpList_run (by rfl) (rpneq_read (c := (0, M.nilB)) rfl rfl rfl _) ?_)
    clear t0 t1
    rcases hqk : M.bkOk (r5.map Wr.wk) l5 with _ | _
    · have hcall := specBookOk A5 r5 c5 A6 l5 c6 xc HQ.out.1 (by have := HQS.out.1.1; omega) (HQS.out.1.2.mono (by omega)) HQ.out.2 (by have := HQS.out.2.1; omega)
      rw [hqk] at hcall
      refine hcall.mono ?_
      rintro r xd ⟨rfl, bd⟩
      have HM := Lib.hid (hm.below bd).1
      clear hcall bd hm hqk u0 u1
      go_wp2
      go_ret
      exact ⟨rfl, HM.out⟩
    have HQK := Lib.hid hqk
    have hcall := specBookOk A5 r5 c5 A6 l5 c6 xc HQ.out.1 (by have := HQS.out.1.1; omega) (HQS.out.1.2.mono (by omega)) HQ.out.2 (by have := HQS.out.2.1; omega)
    rw [hqk] at hcall
    refine hcall.mono ?_
    rintro r xd ⟨rfl, bd⟩
    replace hm := hm.below bd
    replace HQ := Lib.hid (HQ.out.below bd)
    replace HY := Lib.hid (HY.out.below bd)
    replace HES := Lib.hid (HES.out.below bd)
    clear hcall bd hqk u0 u1
    by_cases h30 : 30 < es.length
    · have HM := Lib.hid hm.1
      clear hm
      go_wp2
      go_ret
      exact ⟨rfl, HM.out⟩
    have HCC := Lib.hid (HC.out.later hm.1)
    go_wp2_with fail
    refine (pick_any a0 len0 cap0 (es.length + 1) _ _ (by simp) (by omega) (by omega) hl4 HCC.out).mono ?_
    rintro r xe ⟨k, hk, rfl, rfl⟩
    clear HCC
    have hk' : k ≤ es.length := by omega
    have hkc : k ≤ co := Nat.le_trans hk' HCAP.out
    obtain ⟨u0, u1⟩ := (hm.get (x3.heap.size) ((bkA A5 r5.length c5 A6 l5.length c6)) (by simp)).two
    obtain ⟨v0, v1⟩ := (hm.get (x4.heap.size) ((bkA A7 r7.length c7 A8 (M.obeyedAll (r5.map Wr.wk, l5) es).2.length c8)) (by simp)).two
    have z1 := (hm.get (x3.heap.size) ((bkA A5 r5.length c5 A6 l5.length c6)) (by simp)).1
    have z2 := (hm.get (x4.heap.size) ((bkA A7 r7.length c7 A8 (M.obeyedAll (r5.map Wr.wk, l5) es).2.length c8)) (by simp)).1
    have HV5 := Lib.hid ((M.obeyAll_ok (r5.map Wr.wk, l5) (es.take k)).2)
    have HVI := Lib.hid (M.oball_in (rs := r5) (l := es.take k) HQS.out.2.2)
    have HTK : Hid (Ens _ AL (es.take k)) := Lib.hid (Flat.cutTake HES.out k)
    have hcd : Ens _ (cutAt AL co k 10) (es.drop k) := Flat.cutDrop HES.out k HCAP.out
    have hcap : es.length ≤ co := HCAP.out
    unfold cutAt at hcd
    by_cases hck : co = k
    · rw [if_pos hck] at hcd
      have HDR := Lib.hid hcd
      clear hcd
      subst hck
      go_upto_region 16 with (fail)
      refine wp_region_seq (fun w' => Below xd.heap.size xd w') [(0, true), (1, true), (2, true), (3, true), (5, true), (6, true), (7, true), (9, true), (4, false), (8, false), (10, false), (11, true)] (by kernel_rfl) (by kernel_rfl) (fun _ _ _ _ _ h => h) (by kernel_rfl) (by decide) (Below.refl _ _).drew ?_
      intro hHeld
      repeat (first
        | (refine seq_skip (by simp only [List.getElem?_toArray, List.getElem?_cons_succ, List.getElem?_cons_zero]; first | done | rfl) (by rfl) ?_; (try simp only [Act.put, List.setIfInBounds_toArray, List.set_cons_zero, List.set_cons_succ]))
        | (refine seq_reads (by simp only [List.getElem?_toArray, List.getElem?_cons_succ, List.getElem?_cons_zero]; first | done | rfl) (by rfl) ?_; apply Exists.intro; apply And.intro; (focus (intro w hSw; obtain ⟨hcS, -⟩ := bcell hSw; go_simp; (try with_reducible rfl); done)); (try simp only [Act.put, List.setIfInBounds_toArray, List.set_cons_zero, List.set_cons_succ]))
        | (refine seq_pass (by simp only [List.getElem?_toArray, List.getElem?_cons_succ, List.getElem?_cons_zero]; first | done | rfl) (by rfl) hHeld ?_; clear hHeld; intro hHeld; (try simp only [Act.put, List.setIfInBounds_toArray, List.set_cons_zero, List.set_cons_succ]))
        | ((have hzz := HT.out); clear hzz; refine seq_call (by simp only [List.getElem?_toArray, List.getElem?_cons_succ, List.getElem?_cons_zero]; first | done | rfl) (by rfl) (fun K hK => ?_); go_simp; go_at_call 11; refine (likeBook_same B3 r12 d3 B4 (M.obeyedAll (r5.map Wr.wk, l5) es).2 d4 A7 r7 _ c7 A8 c8 _ (HT.out).1 (HY.out.below hHeld).1 (HYM.out.trans HTM.out.symm) rfl (by have := (oball_small HTM.out).1; omega) (fun r hr => by have := ((oball_small HTM.out).2 r hr).2.1; omega) (HT.out).2 (HY.out.below hHeld).2 (by have := HU5.out; omega)).mono ?_; rintro r w1 ⟨rfl, b1⟩; go_simp; refine hK.out _ _ (next hHeld b1) ?_; clear hK hHeld; intro hHeld; (try simp only [Act.put, List.setIfInBounds_toArray, List.set_cons_zero, List.set_cons_succ]))
        | ((have hzz := HV.out); clear hzz; refine seq_call (by simp only [List.getElem?_toArray, List.getElem?_cons_succ, List.getElem?_cons_zero]; first | done | rfl) (by rfl) (fun K hK => ?_); go_simp; go_at_call 8; refine (implObeyedAll_n B1 r11 d1 B2 (M.obeyedAll (r5.map Wr.wk, l5) (es.take co)).2 d2 AL (es.drop co) _ _ _ (M.obeyedAll (r5.map Wr.wk, l5) es) ((List.length_drop).trans (by omega)) (M.oball_cutQ (b := (r5.map Wr.wk, l5)) HQK.out (by omega) co rfl HVM.out) HV.out.1 (by have := (oball_small HVM.out).1; omega) ((oball_small HVM.out).2.mono (by omega)) HV.out.2 (by have := HV5.out; omega) (fun y hy => Nat.le_trans (HVI.out y hy) (by omega)) (HDR.out.below hHeld) (by rw [List.length_drop]; omega) (fun y hy => HOP2.out y (List.mem_of_mem_drop hy))).mono ?_; rintro r w1 hr; (obtain ⟨B3, d3, B4, d4, r12, rfl, hzr, hzm, b1⟩ := hr.read); (have HT := Lib.hid hzr); (have HTM := Lib.hid hzm); clear hzr hzm hr; go_simp; refine hK.out _ _ (next hHeld b1) ?_; clear hK hHeld; intro hHeld; (clear HV HVM); (try simp only [Act.put, List.setIfInBounds_toArray, List.set_cons_zero, List.set_cons_succ]))
        | (refine seq_call (by simp only [List.getElem?_toArray, List.getElem?_cons_succ, List.getElem?_cons_zero]; first | done | rfl) (by rfl) (fun K hK => ?_); go_simp; go_at_call 8; refine (implObeyedAll_n A5 r5 c5 A6 l5 c6 AL (es.take co) co _ _ (M.obeyedAll (r5.map Wr.wk, l5) (es.take co)) ((List.length_take).trans (by omega)) rfl (HQ.out.below hHeld).1 (by have := HQS.out.1.1; omega) (HQS.out.1.2.mono (by omega)) (HQ.out.below hHeld).2 (by have := HQS.out.2.1; omega) (fun y hy => Nat.le_trans (HQS.out.2.2 y hy) (by omega)) (HTK.out.below hHeld) (by rw [List.length_take]; omega) (fun y hy => HOP2.out y (List.mem_of_mem_take hy))).mono ?_; rintro r w1 hr; (obtain ⟨B1, d1, B2, d2, r11, rfl, hzr, hzm, b1⟩ := hr.read); (have HV := Lib.hid hzr); (have HVM := Lib.hid hzm); clear hzr hzm hr; go_simp; refine hK.out _ _ (next hHeld b1) ?_; clear hK hHeld; intro hHeld; (try simp only [Act.put, List.setIfInBounds_toArray, List.set_cons_zero, List.set_cons_succ])))
      refine seq_end ?_
      have HM := Lib.hid (hm.below hHeld).1
      clear hm
      go_wp2
      go_ret
      exact ⟨rfl, HM.out⟩
    · rw [if_neg hck] at hcd
      have HDR := Lib.hid hcd
      clear hcd
      go_upto_region 16 with (fail)
      refine wp_region_seq (fun w' => Below xd.heap.size xd w') [(0, true), (1, true), (2, true), (3, true), (5, true), (6, true), (7, true), (9, true), (4, false), (8, false), (10, false), (11, true)] (by kernel_rfl) (by kernel_rfl) (fun _ _ _ _ _ h => h) (by kernel_rfl) (by decide) (Below.refl _ _).drew ?_
      intro hHeld
      repeat (first
        | (refine seq_skip (by simp only [List.getElem?_toArray, List.getElem?_cons_succ, List.getElem?_cons_zero]; first | done | rfl) (by rfl) ?_; (try simp only [Act.put, List.setIfInBounds_toArray, List.set_cons_zero, List.set_cons_succ]))
        | (refine seq_reads (by simp only [List.getElem?_toArray, List.getElem?_cons_succ, List.getElem?_cons_zero]; first | done | rfl) (by rfl) ?_; apply Exists.intro; apply And.intro; (focus (intro w hSw; obtain ⟨hcS, -⟩ := bcell hSw; go_simp; (try with_reducible rfl); done)); (try simp only [Act.put, List.setIfInBounds_toArray, List.set_cons_zero, List.set_cons_succ]))
        | (refine seq_pass (by simp only [List.getElem?_toArray, List.getElem?_cons_succ, List.getElem?_cons_zero]; first | done | rfl) (by rfl) hHeld ?_; clear hHeld; intro hHeld; (try simp only [Act.put, List.setIfInBounds_toArray, List.set_cons_zero, List.set_cons_succ]))
        | ((have hzz := HT.out); clear hzz; refine seq_call (by simp only [List.getElem?_toArray, List.getElem?_cons_succ, List.getElem?_cons_zero]; first | done | rfl) (by rfl) (fun K hK => ?_); go_simp; go_at_call 11; refine (likeBook_same B3 r12 d3 B4 (M.obeyedAll (r5.map Wr.wk, l5) es).2 d4 A7 r7 _ c7 A8 c8 _ (HT.out).1 (HY.out.below hHeld).1 (HYM.out.trans HTM.out.symm) rfl (by have := (oball_small HTM.out).1; omega) (fun r hr => by have := ((oball_small HTM.out).2 r hr).2.1; omega) (HT.out).2 (HY.out.below hHeld).2 (by have := HU5.out; omega)).mono ?_; rintro r w1 ⟨rfl, b1⟩; go_simp; refine hK.out _ _ (next hHeld b1) ?_; clear hK hHeld; intro hHeld; (try simp only [Act.put, List.setIfInBounds_toArray, List.set_cons_zero, List.set_cons_succ]))
        | ((have hzz := HV.out); clear hzz; refine seq_call (by simp only [List.getElem?_toArray, List.getElem?_cons_succ, List.getElem?_cons_zero]; first | done | rfl) (by rfl) (fun K hK => ?_); go_simp; go_at_call 8; (have hq1 := M.oball_cutQ (b := (r5.map Wr.wk, l5)) (l := es) HQK.out (by omega) k rfl HVM.out); (have hq2 : (M.obeyedAll (r5.map Wr.wk, l5) (es.take k)).2.length ≤ 1048576 := by have := HV5.out; omega); (have hq3 : r11.length ≤ 1048576 := by have := (oball_small HVM.out).1; omega); (have hq4 : (es.drop k).length ≤ 1048576 := by rw [List.length_drop]; omega); (have hcall := implObeyedAll_n B1 r11 d1 B2 (M.obeyedAll (r5.map Wr.wk, l5) (es.take k)).2 d2 (AL.map (·.add (k * 10))) (es.drop k) (es.length - k) (co - k) w1 (M.obeyedAll (r5.map Wr.wk, l5) es) List.length_drop hq1 HV.out.1 hq3 ((oball_small HVM.out).2.mono (by omega)) HV.out.2 hq2 (fun y hy => Nat.le_trans (HVI.out y hy) (by omega)) (HDR.out.below hHeld) hq4 (fun y hy => HOP2.out y (List.mem_of_mem_drop hy))); (have HCALL := Lib.hid hcall); clear hq1 hq2 hq3 hq4 hcall; refine HCALL.out.mono ?_; rintro r w1 hr; (obtain ⟨B3, d3, B4, d4, r12, rfl, hzr, hzm, b1⟩ := hr.read); (have HT := Lib.hid hzr); (have HTM := Lib.hid hzm); clear hzr hzm hr; clear HCALL; go_simp; refine hK.out _ _ (next hHeld b1) ?_; clear hK hHeld; intro hHeld; (clear HV HVM); (try simp only [Act.put, List.setIfInBounds_toArray, List.set_cons_zero, List.set_cons_succ]))
        | (refine seq_call (by simp only [List.getElem?_toArray, List.getElem?_cons_succ, List.getElem?_cons_zero]; first | done | rfl) (by rfl) (fun K hK => ?_); go_simp; go_at_call 8; refine (implObeyedAll_n A5 r5 c5 A6 l5 c6 AL (es.take k) k _ _ (M.obeyedAll (r5.map Wr.wk, l5) (es.take k)) ((List.length_take).trans (by omega)) rfl (HQ.out.below hHeld).1 (by have := HQS.out.1.1; omega) (HQS.out.1.2.mono (by omega)) (HQ.out.below hHeld).2 (by have := HQS.out.2.1; omega) (fun y hy => Nat.le_trans (HQS.out.2.2 y hy) (by omega)) (HTK.out.below hHeld) (by rw [List.length_take]; omega) (fun y hy => HOP2.out y (List.mem_of_mem_take hy))).mono ?_; rintro r w1 hr; (obtain ⟨B1, d1, B2, d2, r11, rfl, hzr, hzm, b1⟩ := hr.read); (have HV := Lib.hid hzr); (have HVM := Lib.hid hzm); clear hzr hzm hr; go_simp; refine hK.out _ _ (next hHeld b1) ?_; clear hK hHeld; intro hHeld; (try simp only [Act.put, List.setIfInBounds_toArray, List.set_cons_zero, List.set_cons_succ])))
      refine seq_end ?_
      have HM := Lib.hid (hm.below hHeld).1
      clear hm
      go_wp2
      go_ret
      exact ⟨rfl, HM.out⟩

set_option maxRecDepth 100000 in
theorem lifted (os : Os) (started : os.Started) (H : Type) (enc : TypeId × Value → H) :
    ReturnsInHanded {} Tryz.checked os 3 .any (Rows.fnObeyedSpec.pre6 enc Tryz.prog Tryz.f3 Rows.fnObeyedRow.domain false) (Rows.fnObeyedSpec.post enc Tryz.prog Tryz.f3 false true false false) := by
  refine returnsInHanded_of_change (C := Tryz.checked) own started (by kernel_rfl) Tryz.func3
    (ChangeSpec.witness6 (enc := enc) (C := Tryz.checked) false ⟨#[], #[.slice none 0 0], []⟩ 8 (by kernel_rfl) (by kernel_rfl) (by kernel_rfl) (by kernel_rfl)) ?_
  intro W base args ds gs before hval0 hW hcnd _
  have hval : ∀ (j : Nat) t v, Tryz.f3.params[j]? = some t → args[j]? = some v → Value.okWide Tryz.prog W .any base t v := hval0
  have hW' := hW
  obtain ⟨p, q, hA0, -⟩ := hW
  have hA : DataW.TrodAll enc Tryz.prog W 0 (fun _ => true) true Tryz.f3.params.toList args.toList ds p := hA0
  rw [Tryz.params3] at hA hval
  obtain ⟨v0, vs0, d0, ds0, p0, q0, hargs, rfl, rfl, h0, r0⟩ := trodAll_cons hA
  obtain ⟨rfl, rfl, rfl⟩ := trodAll_nil r0
  obtain rfl : args = #[v0] := by cases args; simp_all
  clear hA0 hval0
  have hv0 := hval 0 _ v0 rfl rfl
  obtain ⟨a0, len0, cap0, rfl, hc⟩ := open_code hv0 h0
  exact (walk a0 len0 cap0 W hc).mono fun r W' ⟨he, hb⟩ => ⟨_, he, law_post rfl rfl Tryz.underlying4 (by kernel_rfl) (n := 1)
    (fun ds' hd => by rcases ds' with _ | ⟨x0, _ | ⟨y, z⟩⟩ <;> simp at hd <;> exact ⟨rfl, rfl, rfl⟩) rfl hW' hb⟩

theorem over : Rows.fnObeyedRow.holds Tryz.pinned (OpenSpec.ofChange Rows.fnObeyedSpec) :=
  OpenClaim.holds_of_wide 3 Tryz.f3 rfl rfl rfl rfl rfl rfl rfl ⟨rfl, rfl, rfl, rfl, rfl⟩ rfl rfl rfl rfl rfl (by kernel_rfl) Tryz.func3 (by kernel_rfl)
    (of_decide_eq_true (by kernel_rfl)) (by unfold Func.isWrapper; first | (rw [if_pos (by decide +kernel)]; kernel_rfl) | (rw [if_neg (by decide +kernel)]; exact ⟨rfl, rfl⟩))
    (fun os started H enc _ => lifted os started H enc)

theorem proved : Rows.FnObeyedSaid :=
  over
#print axioms proved
end Go.Proofs.YtkpbfocnokbmiaaGreat.fnObeyed
