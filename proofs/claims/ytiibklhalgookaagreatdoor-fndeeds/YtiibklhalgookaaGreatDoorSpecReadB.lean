/- Proved: the model's ReadDeed at some of the texts answers a plain Lean function; it writes nothing that was there. -/
import Derived.Test.YtiibklhalgookaaGreatDoorSpecReadA
namespace Go.Proofs.YtiibklhalgookaaGreatDoor
open Go.RowKit
set_option maxRecDepth 20000
set_option linter.unusedVariables false

set_option maxHeartbeats 4000000 in
theorem specRead_put (s X A B C E : ByteArray) (w : World) (hs : s.size ≤ 1048576) (hL : M.split 32 s.data.toList = [X, A, B, C, E].map (·.data.toList)) (hk : kd X = 2) (sA : A.size ≤ 1048576) (sB : B.size ≤ 1048576) (sC : C.size ≤ 1048576) (sE : E.size ≤ 1048576) (hR : M.deedRead s.data.toList = if ((M.edRead B.data.toList).2 && decide (C.data.toList ≠ []) && (M.rd E.data.toList).2) && M.deedOk ⟨2, A, (M.edRead B.data.toList).1, M.pageRead C.data.toList, (M.rd E.data.toList).1⟩ then (⟨2, A, (M.edRead B.data.toList).1, M.pageRead C.data.toList, (M.rd E.data.toList).1⟩, true) else (M.zeroDd, false)) :
    Calls Tryz.prog 9 #[.string s] w fun r w' => r = .returned (.tuple #[ddV (M.deedRead s.data.toList).1, .bool (M.deedRead s.data.toList).2]) ∧ Below w.heap.size w w' := by
  have HR := Lib.hid hR
  have hnA : (⟨2, A, (M.edRead B.data.toList).1, M.pageRead C.data.toList, (M.rd E.data.toList).1⟩ : M.Dd).name.size ≤ maxLen := by show A.size ≤ _; unfold maxLen; omega
  have hnP : (⟨2, A, (M.edRead B.data.toList).1, M.pageRead C.data.toList, (M.rd E.data.toList).1⟩ : M.Dd).page.size ≤ maxLen := by show (M.pageRead C.data.toList).size ≤ _; have := page_size C.data.toList; rw [M.len0] at this; unfold maxLen; omega
  clear hR
  have m0 := (Mem.start w).new zC 27
  go_enter Tryz.func9, Tryz.ntmps9
  go_wp2_with fail
  refine (l1Split_any s 32 _ hs).mono ?_
  rintro r w1 ⟨v, rfl, hrow, b1⟩
  obtain ⟨g, cap, rfl, hg0, hg⟩ := row_holds hrow [X, A, B, C, E] hL (by simp)
  simp only [World.size_alloc, List.map_cons, List.map_nil] at hg0 hg
  replace m0 := (m0.below b1).add hg
  have zR : w.heap.size < w1.heap.size := (m0.2.2 _ (by simp)).1
  have zg : g < w1.heap.size := hg.1
  have hwr : IntKind.i64.wrap 2 = 2 := by decide
  clear b1 hrow hL hg
  go_upto_region 2 with (fail)
  go_cut [5] (fun s5 wx => ReadW2 w g 2 #[.string X, .string A, .string B, .string C, .string E] s5 wx)
  case first =>
    refine wp_region_tr (Mem w [(g, #[.string X, .string A, .string B, .string C, .string E]), (w.heap.size, zC)] [w.heap.size]) (.read 1 (.read 2 (.read 3 (.two 0 7 (.two 4 7 (.read 5 (.read 6 (.one 7 (.one 8 .done)))) (.one 4 (.read 5 (.read 6 (.one 8 .done))))) (.one 0 (.one 4 (.read 5 (.read 6 (.one 8 .done))))))))) (by kernel_rfl) (by kernel_rfl) (fun _ _ _ _ _ h => h) (by kernel_rfl) (by decide) ?_ ?_
    · exact m0.drew
    intro hHeld
    repeat (first
      | (refine tr_reads (by simp only [List.getElem?_toArray, List.getElem?_cons_succ, List.getElem?_cons_zero]; first | done | rfl) (by rfl) ?_; apply Exists.intro; apply And.intro; (focus (intro w hSw; (try (have hq := Holds.five (Mem.get hSw g #[.string X, .string A, .string B, .string C, .string E] (by simp)))); go_split_ands; go_simp; (try with_reducible rfl); done)); (try simp only [Act.put, List.setIfInBounds_toArray, List.set_cons_zero, List.set_cons_succ]))
      | (refine tr_two ?_ ?_)
      | (refine tr_one (by simp only [List.getElem?_toArray, List.getElem?_cons_zero]; first | done | rfl) (by rfl) (fun K hK => ?_); go_simp; go_at_call 26; refine (l3Words_at _).mono ?_; rintro r w2 ⟨rfl, rfl⟩; go_simp; refine hK.out _ _ _ (fun x h => h) (by first | exact (m0.alloc _).drew | exact ((m0.alloc _).alloc _).drew) ?_; clear hHeld hK; intro hHeld; (try simp only [Act.put, List.setIfInBounds_toArray, List.set_cons_zero, List.set_cons_succ]))
      | (refine tr_one (by simp only [List.getElem?_toArray, List.getElem?_cons_succ, List.getElem?_cons_zero]; first | done | rfl) (by rfl) (fun K hK => ?_); go_simp; go_at_call 25; refine (l1At_words _ X _ (by first | exact words_at0 _ _ | exact words_at1 _ _ _ | exact words_at2 _ _ _)).mono ?_; rintro r w2 ⟨rfl, rfl⟩; rw [hk]; go_simp; refine hK.out _ _ _ (fun x h => h) (by first | exact (m0.alloc _).drew | exact ((m0.alloc _).alloc _).drew) ?_; clear hHeld hK; intro hHeld; (try simp only [Act.put, List.setIfInBounds_toArray, List.set_cons_zero, List.set_cons_succ]))
      | (refine tr_one (by simp only [List.getElem?_toArray, List.getElem?_cons_succ, List.getElem?_cons_zero]; first | done | rfl) (by rfl) (fun K hK => ?_); go_simp; refine hK.out _ _ _ (fun x h => h) (by first | exact (m0.alloc _).drew | exact ((m0.alloc _).alloc _).drew) ?_; clear hHeld hK; intro hHeld; (try simp only [Act.put, List.setIfInBounds_toArray, List.set_cons_zero, List.set_cons_succ]))
      | (refine tr_end ?_; go_wp2; go_meet; (first | exact ⟨_, rfl, zR, fun e => Nat.ne_of_lt zg e.symm, ((m0.new (d0C 2) _).alloc _).drew⟩ | exact ⟨_, rfl, Nat.lt_succ_of_lt zR, fun e => Nat.ne_of_lt (Nat.lt_succ_of_lt zg) e.symm, (m0.new1 _ (d0C 2) _).drew⟩)))
  case rest =>
    clear m0 zR zg hwr
    obtain ⟨G, rfl, hG, hGg, m⟩ := hcut
    have hG' : w.heap.size ≤ G := Nat.le_of_lt hG
    have hGR : w.heap.size ≠ G := Nat.ne_of_lt hG
    have hgG : g ≠ G := fun e => hGg e.symm
    have hne : ∀ p ∈ [(g, (#[.string X, .string A, .string B, .string C, .string E] : Array Value)), (w.heap.size, zC)], p.1 ≠ G := by simp [hgG, hGR]
    simp only [d0C] at m
    obtain ⟨d0, d1, d2, d3, d4, d5, d6⟩ := (m.get G #[.int .i64 2, .string ⟨#[]⟩, .int .i64 0, .int .i64 0, .int .i64 0, .string ⟨#[]⟩, .int .i64 0] (by simp)).seven
    obtain ⟨t0, t1, t2, t3, t4, t5, t6⟩ := (m.loose G (by simp)).seven
    obtain ⟨p0, p1, p2, p3, p4⟩ := (m.get g #[.string X, .string A, .string B, .string C, .string E] (by simp)).five
    have zG := (m.2.2 G (by simp)).1
    have zR := (m.2.2 w.heap.size (by simp)).1
    have zg := (m.get g #[.string X, .string A, .string B, .string C, .string E] (by simp)).1
    go_wp2_with fail
    clear d0 d1 d2 d3 d4 d5 d6 t0 t1 t2 t3 t4 t5 t6 p0 p1 p2 p3 p4 zG zR zg
    replace m := ((m.put hG' hne 1 (.string A)).alloc (.cells #[.int .i64 0, .int .i64 3, .int .i64 5, .int .i64 4, .int .i64 4, .int .i64 3, .int .i64 4] 3))
    simp only [List.setIfInBounds_toArray, List.set_cons_zero, List.set_cons_succ] at m
    generalize (wc.setCell ⟨G, 1, none⟩ (.string A)).alloc (.cells #[.int .i64 0, .int .i64 3, .int .i64 5, .int .i64 4, .int .i64 4, .int .i64 3, .int .i64 4] 3) = wd at m ⊢
    refine (in_i _ _ _ _).mono ?_
    rintro e w' ⟨rfl, rfl⟩
    rw [show M.inI 2 2 5 = true by decide]
    by_cases hdash : C.data.toList = [45]
    ·
      have f1 : (C.toList == [45]) = true := key_yes hdash
      have HP : Hid (M.pageRead C.data.toList = ⟨#[]⟩) := Lib.hid (by unfold M.pageRead; rw [if_pos hdash]; rfl)
      clear hdash
      have hR2 := HR.out
      rw [HP.out] at hR2
      clear HR
      have HR := Lib.hid hR2
      clear hR2
      have hnA : (⟨2, A, (M.edRead B.data.toList).1, ⟨#[]⟩, (M.rd E.data.toList).1⟩ : M.Dd).name.size ≤ maxLen := by show A.size ≤ _; unfold maxLen; omega
      have hnP : (⟨2, A, (M.edRead B.data.toList).1, ⟨#[]⟩, (M.rd E.data.toList).1⟩ : M.Dd).page.size ≤ maxLen := by show 0 ≤ _; omega
      rcases g0 : (M.edRead B.data.toList).2 with _ | _
      ·
        have HE : Hid (M.deedRead s.data.toList = (M.zeroDd, false)) := Lib.hid (by rw [HR.out, g0]; rfl)
        obtain ⟨d0, d1, d2, d3, d4, d5, d6⟩ := (m.get G #[.int .i64 2, .string A, .int .i64 0, .int .i64 0, .int .i64 0, .string ⟨#[]⟩, .int .i64 0] (by simp)).seven
        obtain ⟨t0, t1, t2, t3, t4, t5, t6⟩ := (m.loose G (by simp)).seven
        obtain ⟨p0, p1, p2, p3, p4⟩ := (m.get g #[.string X, .string A, .string B, .string C, .string E] (by simp)).five
        have zG := (m.2.2 G (by simp)).1
        have zR := (m.2.2 w.heap.size (by simp)).1
        have zg := (m.get g #[.string X, .string A, .string B, .string C, .string E] (by simp)).1
        go_wp2_with fail
        clear d0 d1 d2 d3 d4 d5 d6 t0 t1 t2 t3 t4 t5 t6 p0 p1 p2 p3 p4 zG zR zg
        refine (specReadEdition B _ sB).mono ?_
        rintro r w2 ⟨rfl, b1⟩
        replace m := m.below b1
        clear b1
        obtain ⟨d0, d1, d2, d3, d4, d5, d6⟩ := (m.get G #[.int .i64 2, .string A, .int .i64 0, .int .i64 0, .int .i64 0, .string ⟨#[]⟩, .int .i64 0] (by simp)).seven
        obtain ⟨t0, t1, t2, t3, t4, t5, t6⟩ := (m.loose G (by simp)).seven
        obtain ⟨p0, p1, p2, p3, p4⟩ := (m.get g #[.string X, .string A, .string B, .string C, .string E] (by simp)).five
        have zG := (m.2.2 G (by simp)).1
        have zR := (m.2.2 w.heap.size (by simp)).1
        have zg := (m.get g #[.string X, .string A, .string B, .string C, .string E] (by simp)).1
        go_wp2_with fail
        clear d0 d1 d2 d3 d4 d5 d6 t0 t1 t2 t3 t4 t5 t6 p0 p1 p2 p3 p4 zG zR zg
        replace m := (((((m.put hG' hne 2 (.int .i64 (M.edRead B.data.toList).1.ma)).put hG' hne 3 (.int .i64 (M.edRead B.data.toList).1.mi)).put hG' hne 4 (.int .i64 (M.edRead B.data.toList).1.pa)).put hG' hne 5 (.string C)).put hG' hne 5 (.string ⟨#[]⟩))
        simp only [List.setIfInBounds_toArray, List.set_cons_zero, List.set_cons_succ] at m
        refine (l1Read_any E _ (by unfold maxLen; omega)).mono ?_
        rintro r w3 ⟨rfl, rfl⟩
        obtain ⟨d0, d1, d2, d3, d4, d5, d6⟩ := (m.get G #[.int .i64 2, .string A, .int .i64 (M.edRead B.data.toList).1.ma, .int .i64 (M.edRead B.data.toList).1.mi, .int .i64 (M.edRead B.data.toList).1.pa, .string ⟨#[]⟩, .int .i64 0] (by simp)).seven
        obtain ⟨t0, t1, t2, t3, t4, t5, t6⟩ := (m.loose G (by simp)).seven
        obtain ⟨p0, p1, p2, p3, p4⟩ := (m.get g #[.string X, .string A, .string B, .string C, .string E] (by simp)).five
        have zG := (m.2.2 G (by simp)).1
        have zR := (m.2.2 w.heap.size (by simp)).1
        have zg := (m.get g #[.string X, .string A, .string B, .string C, .string E] (by simp)).1
        obtain ⟨q0, q1, q2, q3, q4, q5, q6⟩ := (m.get w.heap.size zC (by simp)).seven
        obtain ⟨v0, v1, v2, v3, v4, v5, v6⟩ := (m.loose w.heap.size (by simp)).seven
        go_wp2
        replace m := (m.put hG' hne 6 (.int .i64 (M.rd E.data.toList).1))
        simp only [List.setIfInBounds_toArray, List.set_cons_zero, List.set_cons_succ] at m
        exact bodyPost_ret (results_sd M.zeroDd false w.heap.size _ _ rfl rfl ((m.get w.heap.size zC (by simp)).put7 _ _ _ _ _ _ _)) rfl ⟨ret_dd HE.out, far7 m.1 (Nat.le_refl _) _ _ _ _ _ _ _⟩
      ·
        rcases g1 : decide (C.data.toList ≠ []) with _ | _
        ·
          have HE : Hid (M.deedRead s.data.toList = (M.zeroDd, false)) := Lib.hid (by rw [HR.out, g0, g1]; rfl)
          have c1 : (C.toList == []) = true ∧ (C.toList != []) = false := nonempty_no g1
          clear g1
          obtain ⟨d0, d1, d2, d3, d4, d5, d6⟩ := (m.get G #[.int .i64 2, .string A, .int .i64 0, .int .i64 0, .int .i64 0, .string ⟨#[]⟩, .int .i64 0] (by simp)).seven
          obtain ⟨t0, t1, t2, t3, t4, t5, t6⟩ := (m.loose G (by simp)).seven
          obtain ⟨p0, p1, p2, p3, p4⟩ := (m.get g #[.string X, .string A, .string B, .string C, .string E] (by simp)).five
          have zG := (m.2.2 G (by simp)).1
          have zR := (m.2.2 w.heap.size (by simp)).1
          have zg := (m.get g #[.string X, .string A, .string B, .string C, .string E] (by simp)).1
          go_wp2_with fail
          clear d0 d1 d2 d3 d4 d5 d6 t0 t1 t2 t3 t4 t5 t6 p0 p1 p2 p3 p4 zG zR zg
          refine (specReadEdition B _ sB).mono ?_
          rintro r w2 ⟨rfl, b1⟩
          replace m := m.below b1
          clear b1
          obtain ⟨d0, d1, d2, d3, d4, d5, d6⟩ := (m.get G #[.int .i64 2, .string A, .int .i64 0, .int .i64 0, .int .i64 0, .string ⟨#[]⟩, .int .i64 0] (by simp)).seven
          obtain ⟨t0, t1, t2, t3, t4, t5, t6⟩ := (m.loose G (by simp)).seven
          obtain ⟨p0, p1, p2, p3, p4⟩ := (m.get g #[.string X, .string A, .string B, .string C, .string E] (by simp)).five
          have zG := (m.2.2 G (by simp)).1
          have zR := (m.2.2 w.heap.size (by simp)).1
          have zg := (m.get g #[.string X, .string A, .string B, .string C, .string E] (by simp)).1
          go_wp2_with fail
          clear d0 d1 d2 d3 d4 d5 d6 t0 t1 t2 t3 t4 t5 t6 p0 p1 p2 p3 p4 zG zR zg
          replace m := (((((m.put hG' hne 2 (.int .i64 (M.edRead B.data.toList).1.ma)).put hG' hne 3 (.int .i64 (M.edRead B.data.toList).1.mi)).put hG' hne 4 (.int .i64 (M.edRead B.data.toList).1.pa)).put hG' hne 5 (.string C)).put hG' hne 5 (.string ⟨#[]⟩))
          simp only [List.setIfInBounds_toArray, List.set_cons_zero, List.set_cons_succ] at m
          refine (l1Read_any E _ (by unfold maxLen; omega)).mono ?_
          rintro r w3 ⟨rfl, rfl⟩
          obtain ⟨d0, d1, d2, d3, d4, d5, d6⟩ := (m.get G #[.int .i64 2, .string A, .int .i64 (M.edRead B.data.toList).1.ma, .int .i64 (M.edRead B.data.toList).1.mi, .int .i64 (M.edRead B.data.toList).1.pa, .string ⟨#[]⟩, .int .i64 0] (by simp)).seven
          obtain ⟨t0, t1, t2, t3, t4, t5, t6⟩ := (m.loose G (by simp)).seven
          obtain ⟨p0, p1, p2, p3, p4⟩ := (m.get g #[.string X, .string A, .string B, .string C, .string E] (by simp)).five
          have zG := (m.2.2 G (by simp)).1
          have zR := (m.2.2 w.heap.size (by simp)).1
          have zg := (m.get g #[.string X, .string A, .string B, .string C, .string E] (by simp)).1
          obtain ⟨q0, q1, q2, q3, q4, q5, q6⟩ := (m.get w.heap.size zC (by simp)).seven
          obtain ⟨v0, v1, v2, v3, v4, v5, v6⟩ := (m.loose w.heap.size (by simp)).seven
          go_wp2
          replace m := (m.put hG' hne 6 (.int .i64 (M.rd E.data.toList).1))
          simp only [List.setIfInBounds_toArray, List.set_cons_zero, List.set_cons_succ] at m
          exact bodyPost_ret (results_sd M.zeroDd false w.heap.size _ _ rfl rfl ((m.get w.heap.size zC (by simp)).put7 _ _ _ _ _ _ _)) rfl ⟨ret_dd HE.out, far7 m.1 (Nat.le_refl _) _ _ _ _ _ _ _⟩
        ·
          rcases g2 : (M.rd E.data.toList).2 with _ | _
          ·
            have HE : Hid (M.deedRead s.data.toList = (M.zeroDd, false)) := Lib.hid (by rw [HR.out, g0, g1, g2]; rfl)
            have c1 : (C.toList == []) = false ∧ (C.toList != []) = true := nonempty_yes g1
            clear g1
            obtain ⟨d0, d1, d2, d3, d4, d5, d6⟩ := (m.get G #[.int .i64 2, .string A, .int .i64 0, .int .i64 0, .int .i64 0, .string ⟨#[]⟩, .int .i64 0] (by simp)).seven
            obtain ⟨t0, t1, t2, t3, t4, t5, t6⟩ := (m.loose G (by simp)).seven
            obtain ⟨p0, p1, p2, p3, p4⟩ := (m.get g #[.string X, .string A, .string B, .string C, .string E] (by simp)).five
            have zG := (m.2.2 G (by simp)).1
            have zR := (m.2.2 w.heap.size (by simp)).1
            have zg := (m.get g #[.string X, .string A, .string B, .string C, .string E] (by simp)).1
            go_wp2_with fail
            clear d0 d1 d2 d3 d4 d5 d6 t0 t1 t2 t3 t4 t5 t6 p0 p1 p2 p3 p4 zG zR zg
            refine (specReadEdition B _ sB).mono ?_
            rintro r w2 ⟨rfl, b1⟩
            replace m := m.below b1
            clear b1
            obtain ⟨d0, d1, d2, d3, d4, d5, d6⟩ := (m.get G #[.int .i64 2, .string A, .int .i64 0, .int .i64 0, .int .i64 0, .string ⟨#[]⟩, .int .i64 0] (by simp)).seven
            obtain ⟨t0, t1, t2, t3, t4, t5, t6⟩ := (m.loose G (by simp)).seven
            obtain ⟨p0, p1, p2, p3, p4⟩ := (m.get g #[.string X, .string A, .string B, .string C, .string E] (by simp)).five
            have zG := (m.2.2 G (by simp)).1
            have zR := (m.2.2 w.heap.size (by simp)).1
            have zg := (m.get g #[.string X, .string A, .string B, .string C, .string E] (by simp)).1
            go_wp2_with fail
            clear d0 d1 d2 d3 d4 d5 d6 t0 t1 t2 t3 t4 t5 t6 p0 p1 p2 p3 p4 zG zR zg
            replace m := (((((m.put hG' hne 2 (.int .i64 (M.edRead B.data.toList).1.ma)).put hG' hne 3 (.int .i64 (M.edRead B.data.toList).1.mi)).put hG' hne 4 (.int .i64 (M.edRead B.data.toList).1.pa)).put hG' hne 5 (.string C)).put hG' hne 5 (.string ⟨#[]⟩))
            simp only [List.setIfInBounds_toArray, List.set_cons_zero, List.set_cons_succ] at m
            refine (l1Read_any E _ (by unfold maxLen; omega)).mono ?_
            rintro r w3 ⟨rfl, rfl⟩
            obtain ⟨d0, d1, d2, d3, d4, d5, d6⟩ := (m.get G #[.int .i64 2, .string A, .int .i64 (M.edRead B.data.toList).1.ma, .int .i64 (M.edRead B.data.toList).1.mi, .int .i64 (M.edRead B.data.toList).1.pa, .string ⟨#[]⟩, .int .i64 0] (by simp)).seven
            obtain ⟨t0, t1, t2, t3, t4, t5, t6⟩ := (m.loose G (by simp)).seven
            obtain ⟨p0, p1, p2, p3, p4⟩ := (m.get g #[.string X, .string A, .string B, .string C, .string E] (by simp)).five
            have zG := (m.2.2 G (by simp)).1
            have zR := (m.2.2 w.heap.size (by simp)).1
            have zg := (m.get g #[.string X, .string A, .string B, .string C, .string E] (by simp)).1
            obtain ⟨q0, q1, q2, q3, q4, q5, q6⟩ := (m.get w.heap.size zC (by simp)).seven
            obtain ⟨v0, v1, v2, v3, v4, v5, v6⟩ := (m.loose w.heap.size (by simp)).seven
            go_wp2
            replace m := (m.put hG' hne 6 (.int .i64 (M.rd E.data.toList).1))
            simp only [List.setIfInBounds_toArray, List.set_cons_zero, List.set_cons_succ] at m
            exact bodyPost_ret (results_sd M.zeroDd false w.heap.size _ _ rfl rfl ((m.get w.heap.size zC (by simp)).put7 _ _ _ _ _ _ _)) rfl ⟨ret_dd HE.out, far7 m.1 (Nat.le_refl _) _ _ _ _ _ _ _⟩
          ·
            rcases hD : M.deedOk ⟨2, A, (M.edRead B.data.toList).1, ⟨#[]⟩, (M.rd E.data.toList).1⟩ with _ | _
            ·
              have HE : Hid (M.deedRead s.data.toList = (M.zeroDd, false)) := Lib.hid (by rw [HR.out, g0, g1, g2, hD]; rfl)
              have HD := Lib.hid hD
              clear hD
              have c1 : (C.toList == []) = false ∧ (C.toList != []) = true := nonempty_yes g1
              clear g1
              obtain ⟨d0, d1, d2, d3, d4, d5, d6⟩ := (m.get G #[.int .i64 2, .string A, .int .i64 0, .int .i64 0, .int .i64 0, .string ⟨#[]⟩, .int .i64 0] (by simp)).seven
              obtain ⟨t0, t1, t2, t3, t4, t5, t6⟩ := (m.loose G (by simp)).seven
              obtain ⟨p0, p1, p2, p3, p4⟩ := (m.get g #[.string X, .string A, .string B, .string C, .string E] (by simp)).five
              have zG := (m.2.2 G (by simp)).1
              have zR := (m.2.2 w.heap.size (by simp)).1
              have zg := (m.get g #[.string X, .string A, .string B, .string C, .string E] (by simp)).1
              go_wp2_with fail
              clear d0 d1 d2 d3 d4 d5 d6 t0 t1 t2 t3 t4 t5 t6 p0 p1 p2 p3 p4 zG zR zg
              refine (specReadEdition B _ sB).mono ?_
              rintro r w2 ⟨rfl, b1⟩
              replace m := m.below b1
              clear b1
              obtain ⟨d0, d1, d2, d3, d4, d5, d6⟩ := (m.get G #[.int .i64 2, .string A, .int .i64 0, .int .i64 0, .int .i64 0, .string ⟨#[]⟩, .int .i64 0] (by simp)).seven
              obtain ⟨t0, t1, t2, t3, t4, t5, t6⟩ := (m.loose G (by simp)).seven
              obtain ⟨p0, p1, p2, p3, p4⟩ := (m.get g #[.string X, .string A, .string B, .string C, .string E] (by simp)).five
              have zG := (m.2.2 G (by simp)).1
              have zR := (m.2.2 w.heap.size (by simp)).1
              have zg := (m.get g #[.string X, .string A, .string B, .string C, .string E] (by simp)).1
              go_wp2_with fail
              clear d0 d1 d2 d3 d4 d5 d6 t0 t1 t2 t3 t4 t5 t6 p0 p1 p2 p3 p4 zG zR zg
              replace m := (((((m.put hG' hne 2 (.int .i64 (M.edRead B.data.toList).1.ma)).put hG' hne 3 (.int .i64 (M.edRead B.data.toList).1.mi)).put hG' hne 4 (.int .i64 (M.edRead B.data.toList).1.pa)).put hG' hne 5 (.string C)).put hG' hne 5 (.string ⟨#[]⟩))
              simp only [List.setIfInBounds_toArray, List.set_cons_zero, List.set_cons_succ] at m
              refine (l1Read_any E _ (by unfold maxLen; omega)).mono ?_
              rintro r w3 ⟨rfl, rfl⟩
              obtain ⟨d0, d1, d2, d3, d4, d5, d6⟩ := (m.get G #[.int .i64 2, .string A, .int .i64 (M.edRead B.data.toList).1.ma, .int .i64 (M.edRead B.data.toList).1.mi, .int .i64 (M.edRead B.data.toList).1.pa, .string ⟨#[]⟩, .int .i64 0] (by simp)).seven
              obtain ⟨t0, t1, t2, t3, t4, t5, t6⟩ := (m.loose G (by simp)).seven
              obtain ⟨p0, p1, p2, p3, p4⟩ := (m.get g #[.string X, .string A, .string B, .string C, .string E] (by simp)).five
              have zG := (m.2.2 G (by simp)).1
              have zR := (m.2.2 w.heap.size (by simp)).1
              have zg := (m.get g #[.string X, .string A, .string B, .string C, .string E] (by simp)).1
              go_wp2_with fail
              clear d0 d1 d2 d3 d4 d5 d6 t0 t1 t2 t3 t4 t5 t6 p0 p1 p2 p3 p4 zG zR zg
              replace m := (m.put hG' hne 6 (.int .i64 (M.rd E.data.toList).1))
              simp only [List.setIfInBounds_toArray, List.set_cons_zero, List.set_cons_succ] at m
              refine (specDeedOk ⟨2, A, (M.edRead B.data.toList).1, ⟨#[]⟩, (M.rd E.data.toList).1⟩ _ hnA hnP).mono ?_
              rintro r w4 ⟨hr, b1⟩
              rw [HD.out] at hr
              obtain rfl := hr
              replace m := m.below b1
              clear b1
              obtain ⟨d0, d1, d2, d3, d4, d5, d6⟩ := (m.get G #[.int .i64 2, .string A, .int .i64 (M.edRead B.data.toList).1.ma, .int .i64 (M.edRead B.data.toList).1.mi, .int .i64 (M.edRead B.data.toList).1.pa, .string ⟨#[]⟩, .int .i64 (M.rd E.data.toList).1] (by simp)).seven
              obtain ⟨t0, t1, t2, t3, t4, t5, t6⟩ := (m.loose G (by simp)).seven
              obtain ⟨p0, p1, p2, p3, p4⟩ := (m.get g #[.string X, .string A, .string B, .string C, .string E] (by simp)).five
              have zG := (m.2.2 G (by simp)).1
              have zR := (m.2.2 w.heap.size (by simp)).1
              have zg := (m.get g #[.string X, .string A, .string B, .string C, .string E] (by simp)).1
              obtain ⟨q0, q1, q2, q3, q4, q5, q6⟩ := (m.get w.heap.size zC (by simp)).seven
              obtain ⟨v0, v1, v2, v3, v4, v5, v6⟩ := (m.loose w.heap.size (by simp)).seven
              go_wp2
              exact bodyPost_ret (results_sd M.zeroDd false w.heap.size _ _ rfl rfl ((m.get w.heap.size zC (by simp)).put7 _ _ _ _ _ _ _)) rfl ⟨ret_dd HE.out, far7 m.1 (Nat.le_refl _) _ _ _ _ _ _ _⟩
            ·
              have HE : Hid (M.deedRead s.data.toList = (⟨2, A, (M.edRead B.data.toList).1, ⟨#[]⟩, (M.rd E.data.toList).1⟩, true)) := Lib.hid (by rw [HR.out, g0, g1, g2, hD]; rfl)
              have HD := Lib.hid hD
              clear hD
              have c1 : (C.toList == []) = false ∧ (C.toList != []) = true := nonempty_yes g1
              clear g1
              obtain ⟨d0, d1, d2, d3, d4, d5, d6⟩ := (m.get G #[.int .i64 2, .string A, .int .i64 0, .int .i64 0, .int .i64 0, .string ⟨#[]⟩, .int .i64 0] (by simp)).seven
              obtain ⟨t0, t1, t2, t3, t4, t5, t6⟩ := (m.loose G (by simp)).seven
              obtain ⟨p0, p1, p2, p3, p4⟩ := (m.get g #[.string X, .string A, .string B, .string C, .string E] (by simp)).five
              have zG := (m.2.2 G (by simp)).1
              have zR := (m.2.2 w.heap.size (by simp)).1
              have zg := (m.get g #[.string X, .string A, .string B, .string C, .string E] (by simp)).1
              go_wp2_with fail
              clear d0 d1 d2 d3 d4 d5 d6 t0 t1 t2 t3 t4 t5 t6 p0 p1 p2 p3 p4 zG zR zg
              refine (specReadEdition B _ sB).mono ?_
              rintro r w2 ⟨rfl, b1⟩
              replace m := m.below b1
              clear b1
              obtain ⟨d0, d1, d2, d3, d4, d5, d6⟩ := (m.get G #[.int .i64 2, .string A, .int .i64 0, .int .i64 0, .int .i64 0, .string ⟨#[]⟩, .int .i64 0] (by simp)).seven
              obtain ⟨t0, t1, t2, t3, t4, t5, t6⟩ := (m.loose G (by simp)).seven
              obtain ⟨p0, p1, p2, p3, p4⟩ := (m.get g #[.string X, .string A, .string B, .string C, .string E] (by simp)).five
              have zG := (m.2.2 G (by simp)).1
              have zR := (m.2.2 w.heap.size (by simp)).1
              have zg := (m.get g #[.string X, .string A, .string B, .string C, .string E] (by simp)).1
              go_wp2_with fail
              clear d0 d1 d2 d3 d4 d5 d6 t0 t1 t2 t3 t4 t5 t6 p0 p1 p2 p3 p4 zG zR zg
              replace m := (((((m.put hG' hne 2 (.int .i64 (M.edRead B.data.toList).1.ma)).put hG' hne 3 (.int .i64 (M.edRead B.data.toList).1.mi)).put hG' hne 4 (.int .i64 (M.edRead B.data.toList).1.pa)).put hG' hne 5 (.string C)).put hG' hne 5 (.string ⟨#[]⟩))
              simp only [List.setIfInBounds_toArray, List.set_cons_zero, List.set_cons_succ] at m
              refine (l1Read_any E _ (by unfold maxLen; omega)).mono ?_
              rintro r w3 ⟨rfl, rfl⟩
              obtain ⟨d0, d1, d2, d3, d4, d5, d6⟩ := (m.get G #[.int .i64 2, .string A, .int .i64 (M.edRead B.data.toList).1.ma, .int .i64 (M.edRead B.data.toList).1.mi, .int .i64 (M.edRead B.data.toList).1.pa, .string ⟨#[]⟩, .int .i64 0] (by simp)).seven
              obtain ⟨t0, t1, t2, t3, t4, t5, t6⟩ := (m.loose G (by simp)).seven
              obtain ⟨p0, p1, p2, p3, p4⟩ := (m.get g #[.string X, .string A, .string B, .string C, .string E] (by simp)).five
              have zG := (m.2.2 G (by simp)).1
              have zR := (m.2.2 w.heap.size (by simp)).1
              have zg := (m.get g #[.string X, .string A, .string B, .string C, .string E] (by simp)).1
              go_wp2_with fail
              clear d0 d1 d2 d3 d4 d5 d6 t0 t1 t2 t3 t4 t5 t6 p0 p1 p2 p3 p4 zG zR zg
              replace m := (m.put hG' hne 6 (.int .i64 (M.rd E.data.toList).1))
              simp only [List.setIfInBounds_toArray, List.set_cons_zero, List.set_cons_succ] at m
              refine (specDeedOk ⟨2, A, (M.edRead B.data.toList).1, ⟨#[]⟩, (M.rd E.data.toList).1⟩ _ hnA hnP).mono ?_
              rintro r w4 ⟨hr, b1⟩
              rw [HD.out] at hr
              obtain rfl := hr
              replace m := m.below b1
              clear b1
              obtain ⟨d0, d1, d2, d3, d4, d5, d6⟩ := (m.get G #[.int .i64 2, .string A, .int .i64 (M.edRead B.data.toList).1.ma, .int .i64 (M.edRead B.data.toList).1.mi, .int .i64 (M.edRead B.data.toList).1.pa, .string ⟨#[]⟩, .int .i64 (M.rd E.data.toList).1] (by simp)).seven
              obtain ⟨t0, t1, t2, t3, t4, t5, t6⟩ := (m.loose G (by simp)).seven
              obtain ⟨p0, p1, p2, p3, p4⟩ := (m.get g #[.string X, .string A, .string B, .string C, .string E] (by simp)).five
              have zG := (m.2.2 G (by simp)).1
              have zR := (m.2.2 w.heap.size (by simp)).1
              have zg := (m.get g #[.string X, .string A, .string B, .string C, .string E] (by simp)).1
              obtain ⟨q0, q1, q2, q3, q4, q5, q6⟩ := (m.get w.heap.size zC (by simp)).seven
              obtain ⟨v0, v1, v2, v3, v4, v5, v6⟩ := (m.loose w.heap.size (by simp)).seven
              go_wp2
              exact bodyPost_ret (results_sd ⟨2, A, (M.edRead B.data.toList).1, ⟨#[]⟩, (M.rd E.data.toList).1⟩ true w.heap.size _ _ rfl rfl ((m.get w.heap.size zC (by simp)).put7 _ _ _ _ _ _ _)) rfl ⟨ret_dd HE.out, far7 m.1 (Nat.le_refl _) _ _ _ _ _ _ _⟩
    ·
      have f1 : (C.toList == [45]) = false := key_no hdash
      have HP : Hid (M.pageRead C.data.toList = C) := Lib.hid (by unfold M.pageRead; rw [if_neg hdash]; rfl)
      clear hdash
      have hR2 := HR.out
      rw [HP.out] at hR2
      clear HR
      have HR := Lib.hid hR2
      clear hR2
      have hnA : (⟨2, A, (M.edRead B.data.toList).1, C, (M.rd E.data.toList).1⟩ : M.Dd).name.size ≤ maxLen := by show A.size ≤ _; unfold maxLen; omega
      have hnP : (⟨2, A, (M.edRead B.data.toList).1, C, (M.rd E.data.toList).1⟩ : M.Dd).page.size ≤ maxLen := by show C.size ≤ _; unfold maxLen; omega
      rcases g0 : (M.edRead B.data.toList).2 with _ | _
      ·
        have HE : Hid (M.deedRead s.data.toList = (M.zeroDd, false)) := Lib.hid (by rw [HR.out, g0]; rfl)
        obtain ⟨d0, d1, d2, d3, d4, d5, d6⟩ := (m.get G #[.int .i64 2, .string A, .int .i64 0, .int .i64 0, .int .i64 0, .string ⟨#[]⟩, .int .i64 0] (by simp)).seven
        obtain ⟨t0, t1, t2, t3, t4, t5, t6⟩ := (m.loose G (by simp)).seven
        obtain ⟨p0, p1, p2, p3, p4⟩ := (m.get g #[.string X, .string A, .string B, .string C, .string E] (by simp)).five
        have zG := (m.2.2 G (by simp)).1
        have zR := (m.2.2 w.heap.size (by simp)).1
        have zg := (m.get g #[.string X, .string A, .string B, .string C, .string E] (by simp)).1
        go_wp2_with fail
        clear d0 d1 d2 d3 d4 d5 d6 t0 t1 t2 t3 t4 t5 t6 p0 p1 p2 p3 p4 zG zR zg
        refine (specReadEdition B _ sB).mono ?_
        rintro r w2 ⟨rfl, b1⟩
        replace m := m.below b1
        clear b1
        obtain ⟨d0, d1, d2, d3, d4, d5, d6⟩ := (m.get G #[.int .i64 2, .string A, .int .i64 0, .int .i64 0, .int .i64 0, .string ⟨#[]⟩, .int .i64 0] (by simp)).seven
        obtain ⟨t0, t1, t2, t3, t4, t5, t6⟩ := (m.loose G (by simp)).seven
        obtain ⟨p0, p1, p2, p3, p4⟩ := (m.get g #[.string X, .string A, .string B, .string C, .string E] (by simp)).five
        have zG := (m.2.2 G (by simp)).1
        have zR := (m.2.2 w.heap.size (by simp)).1
        have zg := (m.get g #[.string X, .string A, .string B, .string C, .string E] (by simp)).1
        go_wp2_with fail
        clear d0 d1 d2 d3 d4 d5 d6 t0 t1 t2 t3 t4 t5 t6 p0 p1 p2 p3 p4 zG zR zg
        replace m := ((((m.put hG' hne 2 (.int .i64 (M.edRead B.data.toList).1.ma)).put hG' hne 3 (.int .i64 (M.edRead B.data.toList).1.mi)).put hG' hne 4 (.int .i64 (M.edRead B.data.toList).1.pa)).put hG' hne 5 (.string C))
        simp only [List.setIfInBounds_toArray, List.set_cons_zero, List.set_cons_succ] at m
        refine (l1Read_any E _ (by unfold maxLen; omega)).mono ?_
        rintro r w3 ⟨rfl, rfl⟩
        obtain ⟨d0, d1, d2, d3, d4, d5, d6⟩ := (m.get G #[.int .i64 2, .string A, .int .i64 (M.edRead B.data.toList).1.ma, .int .i64 (M.edRead B.data.toList).1.mi, .int .i64 (M.edRead B.data.toList).1.pa, .string C, .int .i64 0] (by simp)).seven
        obtain ⟨t0, t1, t2, t3, t4, t5, t6⟩ := (m.loose G (by simp)).seven
        obtain ⟨p0, p1, p2, p3, p4⟩ := (m.get g #[.string X, .string A, .string B, .string C, .string E] (by simp)).five
        have zG := (m.2.2 G (by simp)).1
        have zR := (m.2.2 w.heap.size (by simp)).1
        have zg := (m.get g #[.string X, .string A, .string B, .string C, .string E] (by simp)).1
        obtain ⟨q0, q1, q2, q3, q4, q5, q6⟩ := (m.get w.heap.size zC (by simp)).seven
        obtain ⟨v0, v1, v2, v3, v4, v5, v6⟩ := (m.loose w.heap.size (by simp)).seven
        go_wp2
        replace m := (m.put hG' hne 6 (.int .i64 (M.rd E.data.toList).1))
        simp only [List.setIfInBounds_toArray, List.set_cons_zero, List.set_cons_succ] at m
        exact bodyPost_ret (results_sd M.zeroDd false w.heap.size _ _ rfl rfl ((m.get w.heap.size zC (by simp)).put7 _ _ _ _ _ _ _)) rfl ⟨ret_dd HE.out, far7 m.1 (Nat.le_refl _) _ _ _ _ _ _ _⟩
      ·
        rcases g1 : decide (C.data.toList ≠ []) with _ | _
        ·
          have HE : Hid (M.deedRead s.data.toList = (M.zeroDd, false)) := Lib.hid (by rw [HR.out, g0, g1]; rfl)
          have c1 : (C.toList == []) = true ∧ (C.toList != []) = false := nonempty_no g1
          clear g1
          obtain ⟨d0, d1, d2, d3, d4, d5, d6⟩ := (m.get G #[.int .i64 2, .string A, .int .i64 0, .int .i64 0, .int .i64 0, .string ⟨#[]⟩, .int .i64 0] (by simp)).seven
          obtain ⟨t0, t1, t2, t3, t4, t5, t6⟩ := (m.loose G (by simp)).seven
          obtain ⟨p0, p1, p2, p3, p4⟩ := (m.get g #[.string X, .string A, .string B, .string C, .string E] (by simp)).five
          have zG := (m.2.2 G (by simp)).1
          have zR := (m.2.2 w.heap.size (by simp)).1
          have zg := (m.get g #[.string X, .string A, .string B, .string C, .string E] (by simp)).1
          go_wp2_with fail
          clear d0 d1 d2 d3 d4 d5 d6 t0 t1 t2 t3 t4 t5 t6 p0 p1 p2 p3 p4 zG zR zg
          refine (specReadEdition B _ sB).mono ?_
          rintro r w2 ⟨rfl, b1⟩
          replace m := m.below b1
          clear b1
          obtain ⟨d0, d1, d2, d3, d4, d5, d6⟩ := (m.get G #[.int .i64 2, .string A, .int .i64 0, .int .i64 0, .int .i64 0, .string ⟨#[]⟩, .int .i64 0] (by simp)).seven
          obtain ⟨t0, t1, t2, t3, t4, t5, t6⟩ := (m.loose G (by simp)).seven
          obtain ⟨p0, p1, p2, p3, p4⟩ := (m.get g #[.string X, .string A, .string B, .string C, .string E] (by simp)).five
          have zG := (m.2.2 G (by simp)).1
          have zR := (m.2.2 w.heap.size (by simp)).1
          have zg := (m.get g #[.string X, .string A, .string B, .string C, .string E] (by simp)).1
          go_wp2_with fail
          clear d0 d1 d2 d3 d4 d5 d6 t0 t1 t2 t3 t4 t5 t6 p0 p1 p2 p3 p4 zG zR zg
          replace m := ((((m.put hG' hne 2 (.int .i64 (M.edRead B.data.toList).1.ma)).put hG' hne 3 (.int .i64 (M.edRead B.data.toList).1.mi)).put hG' hne 4 (.int .i64 (M.edRead B.data.toList).1.pa)).put hG' hne 5 (.string C))
          simp only [List.setIfInBounds_toArray, List.set_cons_zero, List.set_cons_succ] at m
          refine (l1Read_any E _ (by unfold maxLen; omega)).mono ?_
          rintro r w3 ⟨rfl, rfl⟩
          obtain ⟨d0, d1, d2, d3, d4, d5, d6⟩ := (m.get G #[.int .i64 2, .string A, .int .i64 (M.edRead B.data.toList).1.ma, .int .i64 (M.edRead B.data.toList).1.mi, .int .i64 (M.edRead B.data.toList).1.pa, .string C, .int .i64 0] (by simp)).seven
          obtain ⟨t0, t1, t2, t3, t4, t5, t6⟩ := (m.loose G (by simp)).seven
          obtain ⟨p0, p1, p2, p3, p4⟩ := (m.get g #[.string X, .string A, .string B, .string C, .string E] (by simp)).five
          have zG := (m.2.2 G (by simp)).1
          have zR := (m.2.2 w.heap.size (by simp)).1
          have zg := (m.get g #[.string X, .string A, .string B, .string C, .string E] (by simp)).1
          obtain ⟨q0, q1, q2, q3, q4, q5, q6⟩ := (m.get w.heap.size zC (by simp)).seven
          obtain ⟨v0, v1, v2, v3, v4, v5, v6⟩ := (m.loose w.heap.size (by simp)).seven
          go_wp2
          replace m := (m.put hG' hne 6 (.int .i64 (M.rd E.data.toList).1))
          simp only [List.setIfInBounds_toArray, List.set_cons_zero, List.set_cons_succ] at m
          exact bodyPost_ret (results_sd M.zeroDd false w.heap.size _ _ rfl rfl ((m.get w.heap.size zC (by simp)).put7 _ _ _ _ _ _ _)) rfl ⟨ret_dd HE.out, far7 m.1 (Nat.le_refl _) _ _ _ _ _ _ _⟩
        ·
          rcases g2 : (M.rd E.data.toList).2 with _ | _
          ·
            have HE : Hid (M.deedRead s.data.toList = (M.zeroDd, false)) := Lib.hid (by rw [HR.out, g0, g1, g2]; rfl)
            have c1 : (C.toList == []) = false ∧ (C.toList != []) = true := nonempty_yes g1
            clear g1
            obtain ⟨d0, d1, d2, d3, d4, d5, d6⟩ := (m.get G #[.int .i64 2, .string A, .int .i64 0, .int .i64 0, .int .i64 0, .string ⟨#[]⟩, .int .i64 0] (by simp)).seven
            obtain ⟨t0, t1, t2, t3, t4, t5, t6⟩ := (m.loose G (by simp)).seven
            obtain ⟨p0, p1, p2, p3, p4⟩ := (m.get g #[.string X, .string A, .string B, .string C, .string E] (by simp)).five
            have zG := (m.2.2 G (by simp)).1
            have zR := (m.2.2 w.heap.size (by simp)).1
            have zg := (m.get g #[.string X, .string A, .string B, .string C, .string E] (by simp)).1
            go_wp2_with fail
            clear d0 d1 d2 d3 d4 d5 d6 t0 t1 t2 t3 t4 t5 t6 p0 p1 p2 p3 p4 zG zR zg
            refine (specReadEdition B _ sB).mono ?_
            rintro r w2 ⟨rfl, b1⟩
            replace m := m.below b1
            clear b1
            obtain ⟨d0, d1, d2, d3, d4, d5, d6⟩ := (m.get G #[.int .i64 2, .string A, .int .i64 0, .int .i64 0, .int .i64 0, .string ⟨#[]⟩, .int .i64 0] (by simp)).seven
            obtain ⟨t0, t1, t2, t3, t4, t5, t6⟩ := (m.loose G (by simp)).seven
            obtain ⟨p0, p1, p2, p3, p4⟩ := (m.get g #[.string X, .string A, .string B, .string C, .string E] (by simp)).five
            have zG := (m.2.2 G (by simp)).1
            have zR := (m.2.2 w.heap.size (by simp)).1
            have zg := (m.get g #[.string X, .string A, .string B, .string C, .string E] (by simp)).1
            go_wp2_with fail
            clear d0 d1 d2 d3 d4 d5 d6 t0 t1 t2 t3 t4 t5 t6 p0 p1 p2 p3 p4 zG zR zg
            replace m := ((((m.put hG' hne 2 (.int .i64 (M.edRead B.data.toList).1.ma)).put hG' hne 3 (.int .i64 (M.edRead B.data.toList).1.mi)).put hG' hne 4 (.int .i64 (M.edRead B.data.toList).1.pa)).put hG' hne 5 (.string C))
            simp only [List.setIfInBounds_toArray, List.set_cons_zero, List.set_cons_succ] at m
            refine (l1Read_any E _ (by unfold maxLen; omega)).mono ?_
            rintro r w3 ⟨rfl, rfl⟩
            obtain ⟨d0, d1, d2, d3, d4, d5, d6⟩ := (m.get G #[.int .i64 2, .string A, .int .i64 (M.edRead B.data.toList).1.ma, .int .i64 (M.edRead B.data.toList).1.mi, .int .i64 (M.edRead B.data.toList).1.pa, .string C, .int .i64 0] (by simp)).seven
            obtain ⟨t0, t1, t2, t3, t4, t5, t6⟩ := (m.loose G (by simp)).seven
            obtain ⟨p0, p1, p2, p3, p4⟩ := (m.get g #[.string X, .string A, .string B, .string C, .string E] (by simp)).five
            have zG := (m.2.2 G (by simp)).1
            have zR := (m.2.2 w.heap.size (by simp)).1
            have zg := (m.get g #[.string X, .string A, .string B, .string C, .string E] (by simp)).1
            obtain ⟨q0, q1, q2, q3, q4, q5, q6⟩ := (m.get w.heap.size zC (by simp)).seven
            obtain ⟨v0, v1, v2, v3, v4, v5, v6⟩ := (m.loose w.heap.size (by simp)).seven
            go_wp2
            replace m := (m.put hG' hne 6 (.int .i64 (M.rd E.data.toList).1))
            simp only [List.setIfInBounds_toArray, List.set_cons_zero, List.set_cons_succ] at m
            exact bodyPost_ret (results_sd M.zeroDd false w.heap.size _ _ rfl rfl ((m.get w.heap.size zC (by simp)).put7 _ _ _ _ _ _ _)) rfl ⟨ret_dd HE.out, far7 m.1 (Nat.le_refl _) _ _ _ _ _ _ _⟩
          ·
            rcases hD : M.deedOk ⟨2, A, (M.edRead B.data.toList).1, C, (M.rd E.data.toList).1⟩ with _ | _
            ·
              have HE : Hid (M.deedRead s.data.toList = (M.zeroDd, false)) := Lib.hid (by rw [HR.out, g0, g1, g2, hD]; rfl)
              have HD := Lib.hid hD
              clear hD
              have c1 : (C.toList == []) = false ∧ (C.toList != []) = true := nonempty_yes g1
              clear g1
              obtain ⟨d0, d1, d2, d3, d4, d5, d6⟩ := (m.get G #[.int .i64 2, .string A, .int .i64 0, .int .i64 0, .int .i64 0, .string ⟨#[]⟩, .int .i64 0] (by simp)).seven
              obtain ⟨t0, t1, t2, t3, t4, t5, t6⟩ := (m.loose G (by simp)).seven
              obtain ⟨p0, p1, p2, p3, p4⟩ := (m.get g #[.string X, .string A, .string B, .string C, .string E] (by simp)).five
              have zG := (m.2.2 G (by simp)).1
              have zR := (m.2.2 w.heap.size (by simp)).1
              have zg := (m.get g #[.string X, .string A, .string B, .string C, .string E] (by simp)).1
              go_wp2_with fail
              clear d0 d1 d2 d3 d4 d5 d6 t0 t1 t2 t3 t4 t5 t6 p0 p1 p2 p3 p4 zG zR zg
              refine (specReadEdition B _ sB).mono ?_
              rintro r w2 ⟨rfl, b1⟩
              replace m := m.below b1
              clear b1
              obtain ⟨d0, d1, d2, d3, d4, d5, d6⟩ := (m.get G #[.int .i64 2, .string A, .int .i64 0, .int .i64 0, .int .i64 0, .string ⟨#[]⟩, .int .i64 0] (by simp)).seven
              obtain ⟨t0, t1, t2, t3, t4, t5, t6⟩ := (m.loose G (by simp)).seven
              obtain ⟨p0, p1, p2, p3, p4⟩ := (m.get g #[.string X, .string A, .string B, .string C, .string E] (by simp)).five
              have zG := (m.2.2 G (by simp)).1
              have zR := (m.2.2 w.heap.size (by simp)).1
              have zg := (m.get g #[.string X, .string A, .string B, .string C, .string E] (by simp)).1
              go_wp2_with fail
              clear d0 d1 d2 d3 d4 d5 d6 t0 t1 t2 t3 t4 t5 t6 p0 p1 p2 p3 p4 zG zR zg
              replace m := ((((m.put hG' hne 2 (.int .i64 (M.edRead B.data.toList).1.ma)).put hG' hne 3 (.int .i64 (M.edRead B.data.toList).1.mi)).put hG' hne 4 (.int .i64 (M.edRead B.data.toList).1.pa)).put hG' hne 5 (.string C))
              simp only [List.setIfInBounds_toArray, List.set_cons_zero, List.set_cons_succ] at m
              refine (l1Read_any E _ (by unfold maxLen; omega)).mono ?_
              rintro r w3 ⟨rfl, rfl⟩
              obtain ⟨d0, d1, d2, d3, d4, d5, d6⟩ := (m.get G #[.int .i64 2, .string A, .int .i64 (M.edRead B.data.toList).1.ma, .int .i64 (M.edRead B.data.toList).1.mi, .int .i64 (M.edRead B.data.toList).1.pa, .string C, .int .i64 0] (by simp)).seven
              obtain ⟨t0, t1, t2, t3, t4, t5, t6⟩ := (m.loose G (by simp)).seven
              obtain ⟨p0, p1, p2, p3, p4⟩ := (m.get g #[.string X, .string A, .string B, .string C, .string E] (by simp)).five
              have zG := (m.2.2 G (by simp)).1
              have zR := (m.2.2 w.heap.size (by simp)).1
              have zg := (m.get g #[.string X, .string A, .string B, .string C, .string E] (by simp)).1
              go_wp2_with fail
              clear d0 d1 d2 d3 d4 d5 d6 t0 t1 t2 t3 t4 t5 t6 p0 p1 p2 p3 p4 zG zR zg
              replace m := (m.put hG' hne 6 (.int .i64 (M.rd E.data.toList).1))
              simp only [List.setIfInBounds_toArray, List.set_cons_zero, List.set_cons_succ] at m
              refine (specDeedOk ⟨2, A, (M.edRead B.data.toList).1, C, (M.rd E.data.toList).1⟩ _ hnA hnP).mono ?_
              rintro r w4 ⟨hr, b1⟩
              rw [HD.out] at hr
              obtain rfl := hr
              replace m := m.below b1
              clear b1
              obtain ⟨d0, d1, d2, d3, d4, d5, d6⟩ := (m.get G #[.int .i64 2, .string A, .int .i64 (M.edRead B.data.toList).1.ma, .int .i64 (M.edRead B.data.toList).1.mi, .int .i64 (M.edRead B.data.toList).1.pa, .string C, .int .i64 (M.rd E.data.toList).1] (by simp)).seven
              obtain ⟨t0, t1, t2, t3, t4, t5, t6⟩ := (m.loose G (by simp)).seven
              obtain ⟨p0, p1, p2, p3, p4⟩ := (m.get g #[.string X, .string A, .string B, .string C, .string E] (by simp)).five
              have zG := (m.2.2 G (by simp)).1
              have zR := (m.2.2 w.heap.size (by simp)).1
              have zg := (m.get g #[.string X, .string A, .string B, .string C, .string E] (by simp)).1
              obtain ⟨q0, q1, q2, q3, q4, q5, q6⟩ := (m.get w.heap.size zC (by simp)).seven
              obtain ⟨v0, v1, v2, v3, v4, v5, v6⟩ := (m.loose w.heap.size (by simp)).seven
              go_wp2
              exact bodyPost_ret (results_sd M.zeroDd false w.heap.size _ _ rfl rfl ((m.get w.heap.size zC (by simp)).put7 _ _ _ _ _ _ _)) rfl ⟨ret_dd HE.out, far7 m.1 (Nat.le_refl _) _ _ _ _ _ _ _⟩
            ·
              have HE : Hid (M.deedRead s.data.toList = (⟨2, A, (M.edRead B.data.toList).1, C, (M.rd E.data.toList).1⟩, true)) := Lib.hid (by rw [HR.out, g0, g1, g2, hD]; rfl)
              have HD := Lib.hid hD
              clear hD
              have c1 : (C.toList == []) = false ∧ (C.toList != []) = true := nonempty_yes g1
              clear g1
              obtain ⟨d0, d1, d2, d3, d4, d5, d6⟩ := (m.get G #[.int .i64 2, .string A, .int .i64 0, .int .i64 0, .int .i64 0, .string ⟨#[]⟩, .int .i64 0] (by simp)).seven
              obtain ⟨t0, t1, t2, t3, t4, t5, t6⟩ := (m.loose G (by simp)).seven
              obtain ⟨p0, p1, p2, p3, p4⟩ := (m.get g #[.string X, .string A, .string B, .string C, .string E] (by simp)).five
              have zG := (m.2.2 G (by simp)).1
              have zR := (m.2.2 w.heap.size (by simp)).1
              have zg := (m.get g #[.string X, .string A, .string B, .string C, .string E] (by simp)).1
              go_wp2_with fail
              clear d0 d1 d2 d3 d4 d5 d6 t0 t1 t2 t3 t4 t5 t6 p0 p1 p2 p3 p4 zG zR zg
              refine (specReadEdition B _ sB).mono ?_
              rintro r w2 ⟨rfl, b1⟩
              replace m := m.below b1
              clear b1
              obtain ⟨d0, d1, d2, d3, d4, d5, d6⟩ := (m.get G #[.int .i64 2, .string A, .int .i64 0, .int .i64 0, .int .i64 0, .string ⟨#[]⟩, .int .i64 0] (by simp)).seven
              obtain ⟨t0, t1, t2, t3, t4, t5, t6⟩ := (m.loose G (by simp)).seven
              obtain ⟨p0, p1, p2, p3, p4⟩ := (m.get g #[.string X, .string A, .string B, .string C, .string E] (by simp)).five
              have zG := (m.2.2 G (by simp)).1
              have zR := (m.2.2 w.heap.size (by simp)).1
              have zg := (m.get g #[.string X, .string A, .string B, .string C, .string E] (by simp)).1
              go_wp2_with fail
              clear d0 d1 d2 d3 d4 d5 d6 t0 t1 t2 t3 t4 t5 t6 p0 p1 p2 p3 p4 zG zR zg
              replace m := ((((m.put hG' hne 2 (.int .i64 (M.edRead B.data.toList).1.ma)).put hG' hne 3 (.int .i64 (M.edRead B.data.toList).1.mi)).put hG' hne 4 (.int .i64 (M.edRead B.data.toList).1.pa)).put hG' hne 5 (.string C))
              simp only [List.setIfInBounds_toArray, List.set_cons_zero, List.set_cons_succ] at m
              refine (l1Read_any E _ (by unfold maxLen; omega)).mono ?_
              rintro r w3 ⟨rfl, rfl⟩
              obtain ⟨d0, d1, d2, d3, d4, d5, d6⟩ := (m.get G #[.int .i64 2, .string A, .int .i64 (M.edRead B.data.toList).1.ma, .int .i64 (M.edRead B.data.toList).1.mi, .int .i64 (M.edRead B.data.toList).1.pa, .string C, .int .i64 0] (by simp)).seven
              obtain ⟨t0, t1, t2, t3, t4, t5, t6⟩ := (m.loose G (by simp)).seven
              obtain ⟨p0, p1, p2, p3, p4⟩ := (m.get g #[.string X, .string A, .string B, .string C, .string E] (by simp)).five
              have zG := (m.2.2 G (by simp)).1
              have zR := (m.2.2 w.heap.size (by simp)).1
              have zg := (m.get g #[.string X, .string A, .string B, .string C, .string E] (by simp)).1
              go_wp2_with fail
              clear d0 d1 d2 d3 d4 d5 d6 t0 t1 t2 t3 t4 t5 t6 p0 p1 p2 p3 p4 zG zR zg
              replace m := (m.put hG' hne 6 (.int .i64 (M.rd E.data.toList).1))
              simp only [List.setIfInBounds_toArray, List.set_cons_zero, List.set_cons_succ] at m
              refine (specDeedOk ⟨2, A, (M.edRead B.data.toList).1, C, (M.rd E.data.toList).1⟩ _ hnA hnP).mono ?_
              rintro r w4 ⟨hr, b1⟩
              rw [HD.out] at hr
              obtain rfl := hr
              replace m := m.below b1
              clear b1
              obtain ⟨d0, d1, d2, d3, d4, d5, d6⟩ := (m.get G #[.int .i64 2, .string A, .int .i64 (M.edRead B.data.toList).1.ma, .int .i64 (M.edRead B.data.toList).1.mi, .int .i64 (M.edRead B.data.toList).1.pa, .string C, .int .i64 (M.rd E.data.toList).1] (by simp)).seven
              obtain ⟨t0, t1, t2, t3, t4, t5, t6⟩ := (m.loose G (by simp)).seven
              obtain ⟨p0, p1, p2, p3, p4⟩ := (m.get g #[.string X, .string A, .string B, .string C, .string E] (by simp)).five
              have zG := (m.2.2 G (by simp)).1
              have zR := (m.2.2 w.heap.size (by simp)).1
              have zg := (m.get g #[.string X, .string A, .string B, .string C, .string E] (by simp)).1
              obtain ⟨q0, q1, q2, q3, q4, q5, q6⟩ := (m.get w.heap.size zC (by simp)).seven
              obtain ⟨v0, v1, v2, v3, v4, v5, v6⟩ := (m.loose w.heap.size (by simp)).seven
              go_wp2
              exact bodyPost_ret (results_sd ⟨2, A, (M.edRead B.data.toList).1, C, (M.rd E.data.toList).1⟩ true w.heap.size _ _ rfl rfl ((m.get w.heap.size zC (by simp)).put7 _ _ _ _ _ _ _)) rfl ⟨ret_dd HE.out, far7 m.1 (Nat.le_refl _) _ _ _ _ _ _ _⟩
end Go.Proofs.YtiibklhalgookaaGreatDoor
