/- Proved: the model's ReadDeed at some of the texts answers a plain Lean function; it writes nothing that was there. -/
import Derived.Test.YtiibklhalgookaaGreatDoorSpecReadA
namespace Go.Proofs.YtiibklhalgookaaGreatDoor
open Go.RowKit
set_option maxRecDepth 20000
set_option linter.unusedVariables false

set_option maxHeartbeats 4000000 in
theorem specRead_wrong0 (s X : ByteArray) (rs : List ByteArray) (n : Nat) (w : World) (hs : s.size ≤ 1048576) (hL : M.split 32 s.data.toList = (X :: rs).map (·.data.toList)) (hk : kd X = 0) (hn : (X :: rs).length = n) (hne : n ≠ 0) (hR : M.deedRead s.data.toList = (M.zeroDd, false)) :
    Calls Tryz.prog 9 #[.string s] w fun r w' => r = .returned (.tuple #[ddV (M.deedRead s.data.toList).1, .bool (M.deedRead s.data.toList).2]) ∧ Below w.heap.size w w' := by
  have HR := Lib.hid hR
  have hn1 : 1 ≤ n := by rw [← hn]; simp
  have hn0 : 0 < n := hn1
  have hne' : ((n : Int) != 0) = true := by simp; omega
  clear hR hne
  have m0 := (Mem.start w).new zC 27
  go_enter Tryz.func9, Tryz.ntmps9
  go_wp2_with fail
  refine (l1Split_any s 32 _ hs).mono ?_
  rintro r w1 ⟨v, rfl, hrow, b1⟩
  obtain ⟨g, cap, rfl, hg0, hg⟩ := row_holds hrow (X :: rs) hL (by simp)
  simp only [World.size_alloc] at hg0
  replace m0 := (m0.below b1).add hg
  rw [hn]
  clear hn
  have zR : w.heap.size < w1.heap.size := (m0.2.2 _ (by simp)).1
  have zg : g < w1.heap.size := hg.1
  have hwr : IntKind.i64.wrap 0 = 0 := by decide
  clear b1 hrow hL hg
  go_upto_region 2 with (fail)
  go_cut [5] (fun s5 wx => ReadW2 w g 0 ((X :: rs).map Value.string).toArray s5 wx)
  case first =>
    refine wp_region_tr (Mem w [(g, ((X :: rs).map Value.string).toArray), (w.heap.size, zC)] [w.heap.size]) (.read 1 (.read 2 (.read 3 (.two 0 7 (.two 4 7 (.read 5 (.read 6 (.one 7 (.one 8 .done)))) (.one 4 (.read 5 (.read 6 (.one 8 .done))))) (.one 0 (.one 4 (.read 5 (.read 6 (.one 8 .done))))))))) (by kernel_rfl) (by kernel_rfl) (fun _ _ _ _ _ h => h) (by kernel_rfl) (by decide) ?_ ?_
    · exact m0.drew
    intro hHeld
    repeat (first
      | (refine tr_reads (by simp only [List.getElem?_toArray, List.getElem?_cons_succ, List.getElem?_cons_zero]; first | done | rfl) (by rfl) ?_; apply Exists.intro; apply And.intro; (focus (intro w hSw; (try (have hq := (Mem.get hSw g ((X :: rs).map Value.string).toArray (by simp)).2 0 (.string X) (by simp))); go_split_ands; go_simp; (try with_reducible rfl); done)); (try simp only [Act.put, List.setIfInBounds_toArray, List.set_cons_zero, List.set_cons_succ]))
      | (refine tr_two ?_ ?_)
      | (refine tr_one (by simp only [List.getElem?_toArray, List.getElem?_cons_zero]; first | done | rfl) (by rfl) (fun K hK => ?_); go_simp; go_at_call 26; refine (l3Words_at _).mono ?_; rintro r w2 ⟨rfl, rfl⟩; go_simp; refine hK.out _ _ _ (fun x h => h) (by first | exact (m0.alloc _).drew | exact ((m0.alloc _).alloc _).drew) ?_; clear hHeld hK; intro hHeld; (try simp only [Act.put, List.setIfInBounds_toArray, List.set_cons_zero, List.set_cons_succ]))
      | (refine tr_one (by simp only [List.getElem?_toArray, List.getElem?_cons_succ, List.getElem?_cons_zero]; first | done | rfl) (by rfl) (fun K hK => ?_); go_simp; go_at_call 25; refine (l1At_words _ X _ (by first | exact words_at0 _ _ | exact words_at1 _ _ _ | exact words_at2 _ _ _)).mono ?_; rintro r w2 ⟨rfl, rfl⟩; rw [hk]; go_simp; refine hK.out _ _ _ (fun x h => h) (by first | exact (m0.alloc _).drew | exact ((m0.alloc _).alloc _).drew) ?_; clear hHeld hK; intro hHeld; (try simp only [Act.put, List.setIfInBounds_toArray, List.set_cons_zero, List.set_cons_succ]))
      | (refine tr_one (by simp only [List.getElem?_toArray, List.getElem?_cons_succ, List.getElem?_cons_zero]; first | done | rfl) (by rfl) (fun K hK => ?_); go_simp; refine hK.out _ _ _ (fun x h => h) (by first | exact (m0.alloc _).drew | exact ((m0.alloc _).alloc _).drew) ?_; clear hHeld hK; intro hHeld; (try simp only [Act.put, List.setIfInBounds_toArray, List.set_cons_zero, List.set_cons_succ]))
      | (refine tr_end ?_; go_wp2; go_meet; (first | exact ⟨_, rfl, zR, fun e => Nat.ne_of_lt zg e.symm, ((m0.new (d0C 0) _).alloc _).drew⟩ | exact ⟨_, rfl, Nat.lt_succ_of_lt zR, fun e => Nat.ne_of_lt (Nat.lt_succ_of_lt zg) e.symm, (m0.new1 _ (d0C 0) _).drew⟩)))
  case rest =>
    clear m0 zR zg hwr
    obtain ⟨G, rfl, hG, hGg, m⟩ := hcut
    have hGR : w.heap.size ≠ G := Nat.ne_of_lt hG
    simp only [d0C] at m
    obtain ⟨d0, d1, d2, d3, d4, d5, d6⟩ := (m.get G (d0C 0) (by simp)).seven
    have zG := (m.2.2 G (by simp)).1
    have zR := (m.2.2 w.heap.size (by simp)).1
    obtain ⟨q0, q1, q2, q3, q4, q5, q6⟩ := (m.get w.heap.size zC (by simp)).seven
    obtain ⟨v0, v1, v2, v3, v4, v5, v6⟩ := (m.loose w.heap.size (by simp)).seven
    go_wp2
    have h7 := (m.get w.heap.size zC (by simp)).put7 (.int .i64 0) (.string ⟨#[]⟩) (.int .i64 0) (.int .i64 0) (.int .i64 0) (.string ⟨#[]⟩) (.int .i64 0)
    have b7 := far7 m.1 (Nat.le_refl _) (.int .i64 0) (.string ⟨#[]⟩) (.int .i64 0) (.int .i64 0) (.int .i64 0) (.string ⟨#[]⟩) (.int .i64 0)
    exact bodyPost_ret (results_sd M.zeroDd false w.heap.size _ _ rfl rfl (h7.alloc _)) rfl ⟨ret_dd HR.out, b7.alloc b7.size _⟩
set_option maxHeartbeats 4000000 in
theorem specRead_wrong1 (s X : ByteArray) (rs : List ByteArray) (n : Nat) (w : World) (hs : s.size ≤ 1048576) (hL : M.split 32 s.data.toList = (X :: rs).map (·.data.toList)) (hk : kd X = 1) (hn : (X :: rs).length = n) (hne : n ≠ 3) (hR : M.deedRead s.data.toList = (M.zeroDd, false)) :
    Calls Tryz.prog 9 #[.string s] w fun r w' => r = .returned (.tuple #[ddV (M.deedRead s.data.toList).1, .bool (M.deedRead s.data.toList).2]) ∧ Below w.heap.size w w' := by
  have HR := Lib.hid hR
  have hn1 : 1 ≤ n := by rw [← hn]; simp
  have hn0 : 0 < n := hn1
  have hne' : ((n : Int) != 3) = true := by simp; omega
  clear hR hne
  have m0 := (Mem.start w).new zC 27
  go_enter Tryz.func9, Tryz.ntmps9
  go_wp2_with fail
  refine (l1Split_any s 32 _ hs).mono ?_
  rintro r w1 ⟨v, rfl, hrow, b1⟩
  obtain ⟨g, cap, rfl, hg0, hg⟩ := row_holds hrow (X :: rs) hL (by simp)
  simp only [World.size_alloc] at hg0
  replace m0 := (m0.below b1).add hg
  rw [hn]
  clear hn
  have zR : w.heap.size < w1.heap.size := (m0.2.2 _ (by simp)).1
  have zg : g < w1.heap.size := hg.1
  have hwr : IntKind.i64.wrap 1 = 1 := by decide
  clear b1 hrow hL hg
  go_upto_region 2 with (fail)
  go_cut [5] (fun s5 wx => ReadW2 w g 1 ((X :: rs).map Value.string).toArray s5 wx)
  case first =>
    refine wp_region_tr (Mem w [(g, ((X :: rs).map Value.string).toArray), (w.heap.size, zC)] [w.heap.size]) (.read 1 (.read 2 (.read 3 (.two 0 7 (.two 4 7 (.read 5 (.read 6 (.one 7 (.one 8 .done)))) (.one 4 (.read 5 (.read 6 (.one 8 .done))))) (.one 0 (.one 4 (.read 5 (.read 6 (.one 8 .done))))))))) (by kernel_rfl) (by kernel_rfl) (fun _ _ _ _ _ h => h) (by kernel_rfl) (by decide) ?_ ?_
    · exact m0.drew
    intro hHeld
    repeat (first
      | (refine tr_reads (by simp only [List.getElem?_toArray, List.getElem?_cons_succ, List.getElem?_cons_zero]; first | done | rfl) (by rfl) ?_; apply Exists.intro; apply And.intro; (focus (intro w hSw; (try (have hq := (Mem.get hSw g ((X :: rs).map Value.string).toArray (by simp)).2 0 (.string X) (by simp))); go_split_ands; go_simp; (try with_reducible rfl); done)); (try simp only [Act.put, List.setIfInBounds_toArray, List.set_cons_zero, List.set_cons_succ]))
      | (refine tr_two ?_ ?_)
      | (refine tr_one (by simp only [List.getElem?_toArray, List.getElem?_cons_zero]; first | done | rfl) (by rfl) (fun K hK => ?_); go_simp; go_at_call 26; refine (l3Words_at _).mono ?_; rintro r w2 ⟨rfl, rfl⟩; go_simp; refine hK.out _ _ _ (fun x h => h) (by first | exact (m0.alloc _).drew | exact ((m0.alloc _).alloc _).drew) ?_; clear hHeld hK; intro hHeld; (try simp only [Act.put, List.setIfInBounds_toArray, List.set_cons_zero, List.set_cons_succ]))
      | (refine tr_one (by simp only [List.getElem?_toArray, List.getElem?_cons_succ, List.getElem?_cons_zero]; first | done | rfl) (by rfl) (fun K hK => ?_); go_simp; go_at_call 25; refine (l1At_words _ X _ (by first | exact words_at0 _ _ | exact words_at1 _ _ _ | exact words_at2 _ _ _)).mono ?_; rintro r w2 ⟨rfl, rfl⟩; rw [hk]; go_simp; refine hK.out _ _ _ (fun x h => h) (by first | exact (m0.alloc _).drew | exact ((m0.alloc _).alloc _).drew) ?_; clear hHeld hK; intro hHeld; (try simp only [Act.put, List.setIfInBounds_toArray, List.set_cons_zero, List.set_cons_succ]))
      | (refine tr_one (by simp only [List.getElem?_toArray, List.getElem?_cons_succ, List.getElem?_cons_zero]; first | done | rfl) (by rfl) (fun K hK => ?_); go_simp; refine hK.out _ _ _ (fun x h => h) (by first | exact (m0.alloc _).drew | exact ((m0.alloc _).alloc _).drew) ?_; clear hHeld hK; intro hHeld; (try simp only [Act.put, List.setIfInBounds_toArray, List.set_cons_zero, List.set_cons_succ]))
      | (refine tr_end ?_; go_wp2; go_meet; (first | exact ⟨_, rfl, zR, fun e => Nat.ne_of_lt zg e.symm, ((m0.new (d0C 1) _).alloc _).drew⟩ | exact ⟨_, rfl, Nat.lt_succ_of_lt zR, fun e => Nat.ne_of_lt (Nat.lt_succ_of_lt zg) e.symm, (m0.new1 _ (d0C 1) _).drew⟩)))
  case rest =>
    clear m0 zR zg hwr
    obtain ⟨G, rfl, hG, hGg, m⟩ := hcut
    have hGR : w.heap.size ≠ G := Nat.ne_of_lt hG
    simp only [d0C] at m
    obtain ⟨d0, d1, d2, d3, d4, d5, d6⟩ := (m.get G (d0C 1) (by simp)).seven
    have zG := (m.2.2 G (by simp)).1
    have zR := (m.2.2 w.heap.size (by simp)).1
    obtain ⟨q0, q1, q2, q3, q4, q5, q6⟩ := (m.get w.heap.size zC (by simp)).seven
    obtain ⟨v0, v1, v2, v3, v4, v5, v6⟩ := (m.loose w.heap.size (by simp)).seven
    go_wp2
    have h7 := (m.get w.heap.size zC (by simp)).put7 (.int .i64 0) (.string ⟨#[]⟩) (.int .i64 0) (.int .i64 0) (.int .i64 0) (.string ⟨#[]⟩) (.int .i64 0)
    have b7 := far7 m.1 (Nat.le_refl _) (.int .i64 0) (.string ⟨#[]⟩) (.int .i64 0) (.int .i64 0) (.int .i64 0) (.string ⟨#[]⟩) (.int .i64 0)
    exact bodyPost_ret (results_sd M.zeroDd false w.heap.size _ _ rfl rfl (h7.alloc _)) rfl ⟨ret_dd HR.out, b7.alloc b7.size _⟩
set_option maxHeartbeats 4000000 in
theorem specRead_wrong2 (s X : ByteArray) (rs : List ByteArray) (n : Nat) (w : World) (hs : s.size ≤ 1048576) (hL : M.split 32 s.data.toList = (X :: rs).map (·.data.toList)) (hk : kd X = 2) (hn : (X :: rs).length = n) (hne : n ≠ 5) (hR : M.deedRead s.data.toList = (M.zeroDd, false)) :
    Calls Tryz.prog 9 #[.string s] w fun r w' => r = .returned (.tuple #[ddV (M.deedRead s.data.toList).1, .bool (M.deedRead s.data.toList).2]) ∧ Below w.heap.size w w' := by
  have HR := Lib.hid hR
  have hn1 : 1 ≤ n := by rw [← hn]; simp
  have hn0 : 0 < n := hn1
  have hne' : ((n : Int) != 5) = true := by simp; omega
  clear hR hne
  have m0 := (Mem.start w).new zC 27
  go_enter Tryz.func9, Tryz.ntmps9
  go_wp2_with fail
  refine (l1Split_any s 32 _ hs).mono ?_
  rintro r w1 ⟨v, rfl, hrow, b1⟩
  obtain ⟨g, cap, rfl, hg0, hg⟩ := row_holds hrow (X :: rs) hL (by simp)
  simp only [World.size_alloc] at hg0
  replace m0 := (m0.below b1).add hg
  rw [hn]
  clear hn
  have zR : w.heap.size < w1.heap.size := (m0.2.2 _ (by simp)).1
  have zg : g < w1.heap.size := hg.1
  have hwr : IntKind.i64.wrap 2 = 2 := by decide
  clear b1 hrow hL hg
  go_upto_region 2 with (fail)
  go_cut [5] (fun s5 wx => ReadW2 w g 2 ((X :: rs).map Value.string).toArray s5 wx)
  case first =>
    refine wp_region_tr (Mem w [(g, ((X :: rs).map Value.string).toArray), (w.heap.size, zC)] [w.heap.size]) (.read 1 (.read 2 (.read 3 (.two 0 7 (.two 4 7 (.read 5 (.read 6 (.one 7 (.one 8 .done)))) (.one 4 (.read 5 (.read 6 (.one 8 .done))))) (.one 0 (.one 4 (.read 5 (.read 6 (.one 8 .done))))))))) (by kernel_rfl) (by kernel_rfl) (fun _ _ _ _ _ h => h) (by kernel_rfl) (by decide) ?_ ?_
    · exact m0.drew
    intro hHeld
    repeat (first
      | (refine tr_reads (by simp only [List.getElem?_toArray, List.getElem?_cons_succ, List.getElem?_cons_zero]; first | done | rfl) (by rfl) ?_; apply Exists.intro; apply And.intro; (focus (intro w hSw; (try (have hq := (Mem.get hSw g ((X :: rs).map Value.string).toArray (by simp)).2 0 (.string X) (by simp))); go_split_ands; go_simp; (try with_reducible rfl); done)); (try simp only [Act.put, List.setIfInBounds_toArray, List.set_cons_zero, List.set_cons_succ]))
      | (refine tr_two ?_ ?_)
      | (refine tr_one (by simp only [List.getElem?_toArray, List.getElem?_cons_zero]; first | done | rfl) (by rfl) (fun K hK => ?_); go_simp; go_at_call 26; refine (l3Words_at _).mono ?_; rintro r w2 ⟨rfl, rfl⟩; go_simp; refine hK.out _ _ _ (fun x h => h) (by first | exact (m0.alloc _).drew | exact ((m0.alloc _).alloc _).drew) ?_; clear hHeld hK; intro hHeld; (try simp only [Act.put, List.setIfInBounds_toArray, List.set_cons_zero, List.set_cons_succ]))
      | (refine tr_one (by simp only [List.getElem?_toArray, List.getElem?_cons_succ, List.getElem?_cons_zero]; first | done | rfl) (by rfl) (fun K hK => ?_); go_simp; go_at_call 25; refine (l1At_words _ X _ (by first | exact words_at0 _ _ | exact words_at1 _ _ _ | exact words_at2 _ _ _)).mono ?_; rintro r w2 ⟨rfl, rfl⟩; rw [hk]; go_simp; refine hK.out _ _ _ (fun x h => h) (by first | exact (m0.alloc _).drew | exact ((m0.alloc _).alloc _).drew) ?_; clear hHeld hK; intro hHeld; (try simp only [Act.put, List.setIfInBounds_toArray, List.set_cons_zero, List.set_cons_succ]))
      | (refine tr_one (by simp only [List.getElem?_toArray, List.getElem?_cons_succ, List.getElem?_cons_zero]; first | done | rfl) (by rfl) (fun K hK => ?_); go_simp; refine hK.out _ _ _ (fun x h => h) (by first | exact (m0.alloc _).drew | exact ((m0.alloc _).alloc _).drew) ?_; clear hHeld hK; intro hHeld; (try simp only [Act.put, List.setIfInBounds_toArray, List.set_cons_zero, List.set_cons_succ]))
      | (refine tr_end ?_; go_wp2; go_meet; (first | exact ⟨_, rfl, zR, fun e => Nat.ne_of_lt zg e.symm, ((m0.new (d0C 2) _).alloc _).drew⟩ | exact ⟨_, rfl, Nat.lt_succ_of_lt zR, fun e => Nat.ne_of_lt (Nat.lt_succ_of_lt zg) e.symm, (m0.new1 _ (d0C 2) _).drew⟩)))
  case rest =>
    clear m0 zR zg hwr
    obtain ⟨G, rfl, hG, hGg, m⟩ := hcut
    have hGR : w.heap.size ≠ G := Nat.ne_of_lt hG
    simp only [d0C] at m
    obtain ⟨d0, d1, d2, d3, d4, d5, d6⟩ := (m.get G (d0C 2) (by simp)).seven
    have zG := (m.2.2 G (by simp)).1
    have zR := (m.2.2 w.heap.size (by simp)).1
    obtain ⟨q0, q1, q2, q3, q4, q5, q6⟩ := (m.get w.heap.size zC (by simp)).seven
    obtain ⟨v0, v1, v2, v3, v4, v5, v6⟩ := (m.loose w.heap.size (by simp)).seven
    go_wp2
    have h7 := (m.get w.heap.size zC (by simp)).put7 (.int .i64 0) (.string ⟨#[]⟩) (.int .i64 0) (.int .i64 0) (.int .i64 0) (.string ⟨#[]⟩) (.int .i64 0)
    have b7 := far7 m.1 (Nat.le_refl _) (.int .i64 0) (.string ⟨#[]⟩) (.int .i64 0) (.int .i64 0) (.int .i64 0) (.string ⟨#[]⟩) (.int .i64 0)
    exact bodyPost_ret (results_sd M.zeroDd false w.heap.size _ _ rfl rfl (h7.alloc _)) rfl ⟨ret_dd HR.out, b7.alloc b7.size _⟩
set_option maxHeartbeats 4000000 in
theorem specRead_wrong3 (s X : ByteArray) (rs : List ByteArray) (n : Nat) (w : World) (hs : s.size ≤ 1048576) (hL : M.split 32 s.data.toList = (X :: rs).map (·.data.toList)) (hk : kd X = 3) (hn : (X :: rs).length = n) (hne : n ≠ 4) (hR : M.deedRead s.data.toList = (M.zeroDd, false)) :
    Calls Tryz.prog 9 #[.string s] w fun r w' => r = .returned (.tuple #[ddV (M.deedRead s.data.toList).1, .bool (M.deedRead s.data.toList).2]) ∧ Below w.heap.size w w' := by
  have HR := Lib.hid hR
  have hn1 : 1 ≤ n := by rw [← hn]; simp
  have hn0 : 0 < n := hn1
  have hne' : ((n : Int) != 4) = true := by simp; omega
  clear hR hne
  have m0 := (Mem.start w).new zC 27
  go_enter Tryz.func9, Tryz.ntmps9
  go_wp2_with fail
  refine (l1Split_any s 32 _ hs).mono ?_
  rintro r w1 ⟨v, rfl, hrow, b1⟩
  obtain ⟨g, cap, rfl, hg0, hg⟩ := row_holds hrow (X :: rs) hL (by simp)
  simp only [World.size_alloc] at hg0
  replace m0 := (m0.below b1).add hg
  rw [hn]
  clear hn
  have zR : w.heap.size < w1.heap.size := (m0.2.2 _ (by simp)).1
  have zg : g < w1.heap.size := hg.1
  have hwr : IntKind.i64.wrap 3 = 3 := by decide
  clear b1 hrow hL hg
  go_upto_region 2 with (fail)
  go_cut [5] (fun s5 wx => ReadW2 w g 3 ((X :: rs).map Value.string).toArray s5 wx)
  case first =>
    refine wp_region_tr (Mem w [(g, ((X :: rs).map Value.string).toArray), (w.heap.size, zC)] [w.heap.size]) (.read 1 (.read 2 (.read 3 (.two 0 7 (.two 4 7 (.read 5 (.read 6 (.one 7 (.one 8 .done)))) (.one 4 (.read 5 (.read 6 (.one 8 .done))))) (.one 0 (.one 4 (.read 5 (.read 6 (.one 8 .done))))))))) (by kernel_rfl) (by kernel_rfl) (fun _ _ _ _ _ h => h) (by kernel_rfl) (by decide) ?_ ?_
    · exact m0.drew
    intro hHeld
    repeat (first
      | (refine tr_reads (by simp only [List.getElem?_toArray, List.getElem?_cons_succ, List.getElem?_cons_zero]; first | done | rfl) (by rfl) ?_; apply Exists.intro; apply And.intro; (focus (intro w hSw; (try (have hq := (Mem.get hSw g ((X :: rs).map Value.string).toArray (by simp)).2 0 (.string X) (by simp))); go_split_ands; go_simp; (try with_reducible rfl); done)); (try simp only [Act.put, List.setIfInBounds_toArray, List.set_cons_zero, List.set_cons_succ]))
      | (refine tr_two ?_ ?_)
      | (refine tr_one (by simp only [List.getElem?_toArray, List.getElem?_cons_zero]; first | done | rfl) (by rfl) (fun K hK => ?_); go_simp; go_at_call 26; refine (l3Words_at _).mono ?_; rintro r w2 ⟨rfl, rfl⟩; go_simp; refine hK.out _ _ _ (fun x h => h) (by first | exact (m0.alloc _).drew | exact ((m0.alloc _).alloc _).drew) ?_; clear hHeld hK; intro hHeld; (try simp only [Act.put, List.setIfInBounds_toArray, List.set_cons_zero, List.set_cons_succ]))
      | (refine tr_one (by simp only [List.getElem?_toArray, List.getElem?_cons_succ, List.getElem?_cons_zero]; first | done | rfl) (by rfl) (fun K hK => ?_); go_simp; go_at_call 25; refine (l1At_words _ X _ (by first | exact words_at0 _ _ | exact words_at1 _ _ _ | exact words_at2 _ _ _)).mono ?_; rintro r w2 ⟨rfl, rfl⟩; rw [hk]; go_simp; refine hK.out _ _ _ (fun x h => h) (by first | exact (m0.alloc _).drew | exact ((m0.alloc _).alloc _).drew) ?_; clear hHeld hK; intro hHeld; (try simp only [Act.put, List.setIfInBounds_toArray, List.set_cons_zero, List.set_cons_succ]))
      | (refine tr_one (by simp only [List.getElem?_toArray, List.getElem?_cons_succ, List.getElem?_cons_zero]; first | done | rfl) (by rfl) (fun K hK => ?_); go_simp; refine hK.out _ _ _ (fun x h => h) (by first | exact (m0.alloc _).drew | exact ((m0.alloc _).alloc _).drew) ?_; clear hHeld hK; intro hHeld; (try simp only [Act.put, List.setIfInBounds_toArray, List.set_cons_zero, List.set_cons_succ]))
      | (refine tr_end ?_; go_wp2; go_meet; (first | exact ⟨_, rfl, zR, fun e => Nat.ne_of_lt zg e.symm, ((m0.new (d0C 3) _).alloc _).drew⟩ | exact ⟨_, rfl, Nat.lt_succ_of_lt zR, fun e => Nat.ne_of_lt (Nat.lt_succ_of_lt zg) e.symm, (m0.new1 _ (d0C 3) _).drew⟩)))
  case rest =>
    clear m0 zR zg hwr
    obtain ⟨G, rfl, hG, hGg, m⟩ := hcut
    have hGR : w.heap.size ≠ G := Nat.ne_of_lt hG
    simp only [d0C] at m
    obtain ⟨d0, d1, d2, d3, d4, d5, d6⟩ := (m.get G (d0C 3) (by simp)).seven
    have zG := (m.2.2 G (by simp)).1
    have zR := (m.2.2 w.heap.size (by simp)).1
    obtain ⟨q0, q1, q2, q3, q4, q5, q6⟩ := (m.get w.heap.size zC (by simp)).seven
    obtain ⟨v0, v1, v2, v3, v4, v5, v6⟩ := (m.loose w.heap.size (by simp)).seven
    go_wp2
    have h7 := (m.get w.heap.size zC (by simp)).put7 (.int .i64 0) (.string ⟨#[]⟩) (.int .i64 0) (.int .i64 0) (.int .i64 0) (.string ⟨#[]⟩) (.int .i64 0)
    have b7 := far7 m.1 (Nat.le_refl _) (.int .i64 0) (.string ⟨#[]⟩) (.int .i64 0) (.int .i64 0) (.int .i64 0) (.string ⟨#[]⟩) (.int .i64 0)
    exact bodyPost_ret (results_sd M.zeroDd false w.heap.size _ _ rfl rfl (h7.alloc _)) rfl ⟨ret_dd HR.out, b7.alloc b7.size _⟩
set_option maxHeartbeats 4000000 in
theorem specRead_wrong4 (s X : ByteArray) (rs : List ByteArray) (n : Nat) (w : World) (hs : s.size ≤ 1048576) (hL : M.split 32 s.data.toList = (X :: rs).map (·.data.toList)) (hk : kd X = 4) (hn : (X :: rs).length = n) (hne : n ≠ 4) (hR : M.deedRead s.data.toList = (M.zeroDd, false)) :
    Calls Tryz.prog 9 #[.string s] w fun r w' => r = .returned (.tuple #[ddV (M.deedRead s.data.toList).1, .bool (M.deedRead s.data.toList).2]) ∧ Below w.heap.size w w' := by
  have HR := Lib.hid hR
  have hn1 : 1 ≤ n := by rw [← hn]; simp
  have hn0 : 0 < n := hn1
  have hne' : ((n : Int) != 4) = true := by simp; omega
  clear hR hne
  have m0 := (Mem.start w).new zC 27
  go_enter Tryz.func9, Tryz.ntmps9
  go_wp2_with fail
  refine (l1Split_any s 32 _ hs).mono ?_
  rintro r w1 ⟨v, rfl, hrow, b1⟩
  obtain ⟨g, cap, rfl, hg0, hg⟩ := row_holds hrow (X :: rs) hL (by simp)
  simp only [World.size_alloc] at hg0
  replace m0 := (m0.below b1).add hg
  rw [hn]
  clear hn
  have zR : w.heap.size < w1.heap.size := (m0.2.2 _ (by simp)).1
  have zg : g < w1.heap.size := hg.1
  have hwr : IntKind.i64.wrap 4 = 4 := by decide
  clear b1 hrow hL hg
  go_upto_region 2 with (fail)
  go_cut [5] (fun s5 wx => ReadW2 w g 4 ((X :: rs).map Value.string).toArray s5 wx)
  case first =>
    refine wp_region_tr (Mem w [(g, ((X :: rs).map Value.string).toArray), (w.heap.size, zC)] [w.heap.size]) (.read 1 (.read 2 (.read 3 (.two 0 7 (.two 4 7 (.read 5 (.read 6 (.one 7 (.one 8 .done)))) (.one 4 (.read 5 (.read 6 (.one 8 .done))))) (.one 0 (.one 4 (.read 5 (.read 6 (.one 8 .done))))))))) (by kernel_rfl) (by kernel_rfl) (fun _ _ _ _ _ h => h) (by kernel_rfl) (by decide) ?_ ?_
    · exact m0.drew
    intro hHeld
    repeat (first
      | (refine tr_reads (by simp only [List.getElem?_toArray, List.getElem?_cons_succ, List.getElem?_cons_zero]; first | done | rfl) (by rfl) ?_; apply Exists.intro; apply And.intro; (focus (intro w hSw; (try (have hq := (Mem.get hSw g ((X :: rs).map Value.string).toArray (by simp)).2 0 (.string X) (by simp))); go_split_ands; go_simp; (try with_reducible rfl); done)); (try simp only [Act.put, List.setIfInBounds_toArray, List.set_cons_zero, List.set_cons_succ]))
      | (refine tr_two ?_ ?_)
      | (refine tr_one (by simp only [List.getElem?_toArray, List.getElem?_cons_zero]; first | done | rfl) (by rfl) (fun K hK => ?_); go_simp; go_at_call 26; refine (l3Words_at _).mono ?_; rintro r w2 ⟨rfl, rfl⟩; go_simp; refine hK.out _ _ _ (fun x h => h) (by first | exact (m0.alloc _).drew | exact ((m0.alloc _).alloc _).drew) ?_; clear hHeld hK; intro hHeld; (try simp only [Act.put, List.setIfInBounds_toArray, List.set_cons_zero, List.set_cons_succ]))
      | (refine tr_one (by simp only [List.getElem?_toArray, List.getElem?_cons_succ, List.getElem?_cons_zero]; first | done | rfl) (by rfl) (fun K hK => ?_); go_simp; go_at_call 25; refine (l1At_words _ X _ (by first | exact words_at0 _ _ | exact words_at1 _ _ _ | exact words_at2 _ _ _)).mono ?_; rintro r w2 ⟨rfl, rfl⟩; rw [hk]; go_simp; refine hK.out _ _ _ (fun x h => h) (by first | exact (m0.alloc _).drew | exact ((m0.alloc _).alloc _).drew) ?_; clear hHeld hK; intro hHeld; (try simp only [Act.put, List.setIfInBounds_toArray, List.set_cons_zero, List.set_cons_succ]))
      | (refine tr_one (by simp only [List.getElem?_toArray, List.getElem?_cons_succ, List.getElem?_cons_zero]; first | done | rfl) (by rfl) (fun K hK => ?_); go_simp; refine hK.out _ _ _ (fun x h => h) (by first | exact (m0.alloc _).drew | exact ((m0.alloc _).alloc _).drew) ?_; clear hHeld hK; intro hHeld; (try simp only [Act.put, List.setIfInBounds_toArray, List.set_cons_zero, List.set_cons_succ]))
      | (refine tr_end ?_; go_wp2; go_meet; (first | exact ⟨_, rfl, zR, fun e => Nat.ne_of_lt zg e.symm, ((m0.new (d0C 4) _).alloc _).drew⟩ | exact ⟨_, rfl, Nat.lt_succ_of_lt zR, fun e => Nat.ne_of_lt (Nat.lt_succ_of_lt zg) e.symm, (m0.new1 _ (d0C 4) _).drew⟩)))
  case rest =>
    clear m0 zR zg hwr
    obtain ⟨G, rfl, hG, hGg, m⟩ := hcut
    have hGR : w.heap.size ≠ G := Nat.ne_of_lt hG
    simp only [d0C] at m
    obtain ⟨d0, d1, d2, d3, d4, d5, d6⟩ := (m.get G (d0C 4) (by simp)).seven
    have zG := (m.2.2 G (by simp)).1
    have zR := (m.2.2 w.heap.size (by simp)).1
    obtain ⟨q0, q1, q2, q3, q4, q5, q6⟩ := (m.get w.heap.size zC (by simp)).seven
    obtain ⟨v0, v1, v2, v3, v4, v5, v6⟩ := (m.loose w.heap.size (by simp)).seven
    go_wp2
    have h7 := (m.get w.heap.size zC (by simp)).put7 (.int .i64 0) (.string ⟨#[]⟩) (.int .i64 0) (.int .i64 0) (.int .i64 0) (.string ⟨#[]⟩) (.int .i64 0)
    have b7 := far7 m.1 (Nat.le_refl _) (.int .i64 0) (.string ⟨#[]⟩) (.int .i64 0) (.int .i64 0) (.int .i64 0) (.string ⟨#[]⟩) (.int .i64 0)
    exact bodyPost_ret (results_sd M.zeroDd false w.heap.size _ _ rfl rfl (h7.alloc _)) rfl ⟨ret_dd HR.out, b7.alloc b7.size _⟩
set_option maxHeartbeats 4000000 in
theorem specRead_wrong5 (s X : ByteArray) (rs : List ByteArray) (n : Nat) (w : World) (hs : s.size ≤ 1048576) (hL : M.split 32 s.data.toList = (X :: rs).map (·.data.toList)) (hk : kd X = 5) (hn : (X :: rs).length = n) (hne : n ≠ 3) (hR : M.deedRead s.data.toList = (M.zeroDd, false)) :
    Calls Tryz.prog 9 #[.string s] w fun r w' => r = .returned (.tuple #[ddV (M.deedRead s.data.toList).1, .bool (M.deedRead s.data.toList).2]) ∧ Below w.heap.size w w' := by
  have HR := Lib.hid hR
  have hn1 : 1 ≤ n := by rw [← hn]; simp
  have hn0 : 0 < n := hn1
  have hne' : ((n : Int) != 3) = true := by simp; omega
  clear hR hne
  have m0 := (Mem.start w).new zC 27
  go_enter Tryz.func9, Tryz.ntmps9
  go_wp2_with fail
  refine (l1Split_any s 32 _ hs).mono ?_
  rintro r w1 ⟨v, rfl, hrow, b1⟩
  obtain ⟨g, cap, rfl, hg0, hg⟩ := row_holds hrow (X :: rs) hL (by simp)
  simp only [World.size_alloc] at hg0
  replace m0 := (m0.below b1).add hg
  rw [hn]
  clear hn
  have zR : w.heap.size < w1.heap.size := (m0.2.2 _ (by simp)).1
  have zg : g < w1.heap.size := hg.1
  have hwr : IntKind.i64.wrap 5 = 5 := by decide
  clear b1 hrow hL hg
  go_upto_region 2 with (fail)
  go_cut [5] (fun s5 wx => ReadW2 w g 5 ((X :: rs).map Value.string).toArray s5 wx)
  case first =>
    refine wp_region_tr (Mem w [(g, ((X :: rs).map Value.string).toArray), (w.heap.size, zC)] [w.heap.size]) (.read 1 (.read 2 (.read 3 (.two 0 7 (.two 4 7 (.read 5 (.read 6 (.one 7 (.one 8 .done)))) (.one 4 (.read 5 (.read 6 (.one 8 .done))))) (.one 0 (.one 4 (.read 5 (.read 6 (.one 8 .done))))))))) (by kernel_rfl) (by kernel_rfl) (fun _ _ _ _ _ h => h) (by kernel_rfl) (by decide) ?_ ?_
    · exact m0.drew
    intro hHeld
    repeat (first
      | (refine tr_reads (by simp only [List.getElem?_toArray, List.getElem?_cons_succ, List.getElem?_cons_zero]; first | done | rfl) (by rfl) ?_; apply Exists.intro; apply And.intro; (focus (intro w hSw; (try (have hq := (Mem.get hSw g ((X :: rs).map Value.string).toArray (by simp)).2 0 (.string X) (by simp))); go_split_ands; go_simp; (try with_reducible rfl); done)); (try simp only [Act.put, List.setIfInBounds_toArray, List.set_cons_zero, List.set_cons_succ]))
      | (refine tr_two ?_ ?_)
      | (refine tr_one (by simp only [List.getElem?_toArray, List.getElem?_cons_zero]; first | done | rfl) (by rfl) (fun K hK => ?_); go_simp; go_at_call 26; refine (l3Words_at _).mono ?_; rintro r w2 ⟨rfl, rfl⟩; go_simp; refine hK.out _ _ _ (fun x h => h) (by first | exact (m0.alloc _).drew | exact ((m0.alloc _).alloc _).drew) ?_; clear hHeld hK; intro hHeld; (try simp only [Act.put, List.setIfInBounds_toArray, List.set_cons_zero, List.set_cons_succ]))
      | (refine tr_one (by simp only [List.getElem?_toArray, List.getElem?_cons_succ, List.getElem?_cons_zero]; first | done | rfl) (by rfl) (fun K hK => ?_); go_simp; go_at_call 25; refine (l1At_words _ X _ (by first | exact words_at0 _ _ | exact words_at1 _ _ _ | exact words_at2 _ _ _)).mono ?_; rintro r w2 ⟨rfl, rfl⟩; rw [hk]; go_simp; refine hK.out _ _ _ (fun x h => h) (by first | exact (m0.alloc _).drew | exact ((m0.alloc _).alloc _).drew) ?_; clear hHeld hK; intro hHeld; (try simp only [Act.put, List.setIfInBounds_toArray, List.set_cons_zero, List.set_cons_succ]))
      | (refine tr_one (by simp only [List.getElem?_toArray, List.getElem?_cons_succ, List.getElem?_cons_zero]; first | done | rfl) (by rfl) (fun K hK => ?_); go_simp; refine hK.out _ _ _ (fun x h => h) (by first | exact (m0.alloc _).drew | exact ((m0.alloc _).alloc _).drew) ?_; clear hHeld hK; intro hHeld; (try simp only [Act.put, List.setIfInBounds_toArray, List.set_cons_zero, List.set_cons_succ]))
      | (refine tr_end ?_; go_wp2; go_meet; (first | exact ⟨_, rfl, zR, fun e => Nat.ne_of_lt zg e.symm, ((m0.new (d0C 5) _).alloc _).drew⟩ | exact ⟨_, rfl, Nat.lt_succ_of_lt zR, fun e => Nat.ne_of_lt (Nat.lt_succ_of_lt zg) e.symm, (m0.new1 _ (d0C 5) _).drew⟩)))
  case rest =>
    clear m0 zR zg hwr
    obtain ⟨G, rfl, hG, hGg, m⟩ := hcut
    have hGR : w.heap.size ≠ G := Nat.ne_of_lt hG
    simp only [d0C] at m
    obtain ⟨d0, d1, d2, d3, d4, d5, d6⟩ := (m.get G (d0C 5) (by simp)).seven
    have zG := (m.2.2 G (by simp)).1
    have zR := (m.2.2 w.heap.size (by simp)).1
    obtain ⟨q0, q1, q2, q3, q4, q5, q6⟩ := (m.get w.heap.size zC (by simp)).seven
    obtain ⟨v0, v1, v2, v3, v4, v5, v6⟩ := (m.loose w.heap.size (by simp)).seven
    go_wp2
    have h7 := (m.get w.heap.size zC (by simp)).put7 (.int .i64 0) (.string ⟨#[]⟩) (.int .i64 0) (.int .i64 0) (.int .i64 0) (.string ⟨#[]⟩) (.int .i64 0)
    have b7 := far7 m.1 (Nat.le_refl _) (.int .i64 0) (.string ⟨#[]⟩) (.int .i64 0) (.int .i64 0) (.int .i64 0) (.string ⟨#[]⟩) (.int .i64 0)
    exact bodyPost_ret (results_sd M.zeroDd false w.heap.size _ _ rfl rfl (h7.alloc _)) rfl ⟨ret_dd HR.out, b7.alloc b7.size _⟩
set_option maxHeartbeats 4000000 in
theorem specRead_wrong6 (s X : ByteArray) (rs : List ByteArray) (n : Nat) (w : World) (hs : s.size ≤ 1048576) (hL : M.split 32 s.data.toList = (X :: rs).map (·.data.toList)) (hk : kd X = 6) (hn : (X :: rs).length = n) (hne : n ≠ 4) (hR : M.deedRead s.data.toList = (M.zeroDd, false)) :
    Calls Tryz.prog 9 #[.string s] w fun r w' => r = .returned (.tuple #[ddV (M.deedRead s.data.toList).1, .bool (M.deedRead s.data.toList).2]) ∧ Below w.heap.size w w' := by
  have HR := Lib.hid hR
  have hn1 : 1 ≤ n := by rw [← hn]; simp
  have hn0 : 0 < n := hn1
  have hne' : ((n : Int) != 4) = true := by simp; omega
  clear hR hne
  have m0 := (Mem.start w).new zC 27
  go_enter Tryz.func9, Tryz.ntmps9
  go_wp2_with fail
  refine (l1Split_any s 32 _ hs).mono ?_
  rintro r w1 ⟨v, rfl, hrow, b1⟩
  obtain ⟨g, cap, rfl, hg0, hg⟩ := row_holds hrow (X :: rs) hL (by simp)
  simp only [World.size_alloc] at hg0
  replace m0 := (m0.below b1).add hg
  rw [hn]
  clear hn
  have zR : w.heap.size < w1.heap.size := (m0.2.2 _ (by simp)).1
  have zg : g < w1.heap.size := hg.1
  have hwr : IntKind.i64.wrap 6 = 6 := by decide
  clear b1 hrow hL hg
  go_upto_region 2 with (fail)
  go_cut [5] (fun s5 wx => ReadW2 w g 6 ((X :: rs).map Value.string).toArray s5 wx)
  case first =>
    refine wp_region_tr (Mem w [(g, ((X :: rs).map Value.string).toArray), (w.heap.size, zC)] [w.heap.size]) (.read 1 (.read 2 (.read 3 (.two 0 7 (.two 4 7 (.read 5 (.read 6 (.one 7 (.one 8 .done)))) (.one 4 (.read 5 (.read 6 (.one 8 .done))))) (.one 0 (.one 4 (.read 5 (.read 6 (.one 8 .done))))))))) (by kernel_rfl) (by kernel_rfl) (fun _ _ _ _ _ h => h) (by kernel_rfl) (by decide) ?_ ?_
    · exact m0.drew
    intro hHeld
    repeat (first
      | (refine tr_reads (by simp only [List.getElem?_toArray, List.getElem?_cons_succ, List.getElem?_cons_zero]; first | done | rfl) (by rfl) ?_; apply Exists.intro; apply And.intro; (focus (intro w hSw; (try (have hq := (Mem.get hSw g ((X :: rs).map Value.string).toArray (by simp)).2 0 (.string X) (by simp))); go_split_ands; go_simp; (try with_reducible rfl); done)); (try simp only [Act.put, List.setIfInBounds_toArray, List.set_cons_zero, List.set_cons_succ]))
      | (refine tr_two ?_ ?_)
      | (refine tr_one (by simp only [List.getElem?_toArray, List.getElem?_cons_zero]; first | done | rfl) (by rfl) (fun K hK => ?_); go_simp; go_at_call 26; refine (l3Words_at _).mono ?_; rintro r w2 ⟨rfl, rfl⟩; go_simp; refine hK.out _ _ _ (fun x h => h) (by first | exact (m0.alloc _).drew | exact ((m0.alloc _).alloc _).drew) ?_; clear hHeld hK; intro hHeld; (try simp only [Act.put, List.setIfInBounds_toArray, List.set_cons_zero, List.set_cons_succ]))
      | (refine tr_one (by simp only [List.getElem?_toArray, List.getElem?_cons_succ, List.getElem?_cons_zero]; first | done | rfl) (by rfl) (fun K hK => ?_); go_simp; go_at_call 25; refine (l1At_words _ X _ (by first | exact words_at0 _ _ | exact words_at1 _ _ _ | exact words_at2 _ _ _)).mono ?_; rintro r w2 ⟨rfl, rfl⟩; rw [hk]; go_simp; refine hK.out _ _ _ (fun x h => h) (by first | exact (m0.alloc _).drew | exact ((m0.alloc _).alloc _).drew) ?_; clear hHeld hK; intro hHeld; (try simp only [Act.put, List.setIfInBounds_toArray, List.set_cons_zero, List.set_cons_succ]))
      | (refine tr_one (by simp only [List.getElem?_toArray, List.getElem?_cons_succ, List.getElem?_cons_zero]; first | done | rfl) (by rfl) (fun K hK => ?_); go_simp; refine hK.out _ _ _ (fun x h => h) (by first | exact (m0.alloc _).drew | exact ((m0.alloc _).alloc _).drew) ?_; clear hHeld hK; intro hHeld; (try simp only [Act.put, List.setIfInBounds_toArray, List.set_cons_zero, List.set_cons_succ]))
      | (refine tr_end ?_; go_wp2; go_meet; (first | exact ⟨_, rfl, zR, fun e => Nat.ne_of_lt zg e.symm, ((m0.new (d0C 6) _).alloc _).drew⟩ | exact ⟨_, rfl, Nat.lt_succ_of_lt zR, fun e => Nat.ne_of_lt (Nat.lt_succ_of_lt zg) e.symm, (m0.new1 _ (d0C 6) _).drew⟩)))
  case rest =>
    clear m0 zR zg hwr
    obtain ⟨G, rfl, hG, hGg, m⟩ := hcut
    have hGR : w.heap.size ≠ G := Nat.ne_of_lt hG
    simp only [d0C] at m
    obtain ⟨d0, d1, d2, d3, d4, d5, d6⟩ := (m.get G (d0C 6) (by simp)).seven
    have zG := (m.2.2 G (by simp)).1
    have zR := (m.2.2 w.heap.size (by simp)).1
    obtain ⟨q0, q1, q2, q3, q4, q5, q6⟩ := (m.get w.heap.size zC (by simp)).seven
    obtain ⟨v0, v1, v2, v3, v4, v5, v6⟩ := (m.loose w.heap.size (by simp)).seven
    go_wp2
    have h7 := (m.get w.heap.size zC (by simp)).put7 (.int .i64 0) (.string ⟨#[]⟩) (.int .i64 0) (.int .i64 0) (.int .i64 0) (.string ⟨#[]⟩) (.int .i64 0)
    have b7 := far7 m.1 (Nat.le_refl _) (.int .i64 0) (.string ⟨#[]⟩) (.int .i64 0) (.int .i64 0) (.int .i64 0) (.string ⟨#[]⟩) (.int .i64 0)
    exact bodyPost_ret (results_sd M.zeroDd false w.heap.size _ _ rfl rfl (h7.alloc _)) rfl ⟨ret_dd HR.out, b7.alloc b7.size _⟩
end Go.Proofs.YtiibklhalgookaaGreatDoor
