/- Proved: the program's readShape makes of some words the shape that they tell, or none; it writes nothing that was there. Condition: 'Laid', and words of at most 1048576 bytes. -/
import Derived.Test.YtiibklhalgookaaGreatDoorDeedWords
import Derived.Test.YtiibklhalgookaaGreatDoorReadEd
namespace Go.Proofs.YtiibklhalgookaaGreatDoor
open Go.RowKit
set_option maxRecDepth 20000
set_option linter.unusedVariables false

theorem key_yes {k : ByteArray} {l : List UInt8} (h : k.data.toList = l) : (k.toList == l) = true := by rw [ByteArray.toList_eq]; simp [h]
theorem key_no {k : ByteArray} {l : List UInt8} (h : k.data.toList ≠ l) : (k.toList == l) = false := by rw [ByteArray.toList_eq]; simpa using h

theorem numberOf_any (s : ByteArray) (w : World) (hs : s.size ≤ 1048576) (hl : Laid w) :
    Calls Tryz.prog 50 #[.string s] w fun r w' => r = .returned (.int .i64 (M.rd s.data.toList).1) ∧ Below w.heap.size w w' := by
  go_enter Tryz.func50, Tryz.ntmps50
  go_wp2_with fail
  refine (implReadNumber s _ hs hl).mono ?_
  rintro r w1 ⟨rfl, b1⟩
  go_wp2
  go_ret
  exact ⟨rfl, b1⟩
theorem editionOf_any (s : ByteArray) (w : World) (hs : s.size ≤ 1048576) (hl : Laid w) :
    Calls Tryz.prog 51 #[.string s] w fun r w' => r = .returned (edV (M.edRead s.data.toList).1) ∧ Below w.heap.size w w' := by
  go_enter Tryz.func51, Tryz.ntmps51
  go_wp2_with fail
  refine (implReadEdition s _ hs (by first | exact hl | exact hl.alloc _ | exact (hl.alloc _).alloc _)).mono ?_
  rintro r w1 ⟨rfl, b1⟩
  have bb := next ((Below.refl w.heap.size w).alloc (Nat.le_refl _) _) b1
  have l0 := (loose_new w #[.int .i64 0, .int .i64 0, .int .i64 0] 25).below (by simp) b1
  obtain ⟨d0, d1, d2⟩ := ((holds_new w #[.int .i64 0, .int .i64 0, .int .i64 0] 25).below b1).three
  have g0 := l0 0
  have g1 := l0 1
  have g2 := l0 2
  have z1 : w.heap.size < w1.heap.size := by have := b1.size; simp at this; omega
  clear b1 l0
  go_wp2
  have bs := far (far (far bb (Nat.le_refl _) 0 (.int .i64 (M.edRead s.data.toList).1.ma)) (Nat.le_refl _) 1 (.int .i64 (M.edRead s.data.toList).1.mi)) (Nat.le_refl _) 2 (.int .i64 (M.edRead s.data.toList).1.pa)
  exact bodyPost_ret (v := edV (M.edRead s.data.toList).1) (by simp [results, Tryz.results51, go_sem, d0, d1, d2, z1]) rfl ⟨rfl, bs.alloc bs.size _⟩
theorem pageOf_any (s : ByteArray) (w : World) :
    Calls Tryz.prog 52 #[.string s] w fun r w' => r = .returned (.string (M.pageRead s.data.toList)) ∧ Below w.heap.size w w' := by
  by_cases h : s.data.toList = [45]
  · have h' := key_yes h
    have HE : Hid (M.pageRead s.data.toList = ⟨#[]⟩) := Lib.hid (by unfold M.pageRead; rw [if_pos h]; rfl)
    clear h
    go_enter Tryz.func52, Tryz.ntmps52
    go_wp2
    go_ret
    exact ⟨by rw [HE.out]; rfl, Below.refl _ _⟩
  · have h' := key_no h
    have HE : Hid (M.pageRead s.data.toList = s) := Lib.hid (by unfold M.pageRead; rw [if_neg h]; rfl)
    clear h
    go_enter Tryz.func52, Tryz.ntmps52
    go_wp2
    go_ret
    exact ⟨by rw [HE.out]; rfl, Below.refl _ _⟩

set_option maxHeartbeats 4000000 in
theorem rshape_nil1 (g cap : Nat) (k : ByteArray) (w : World) (hc : 1 ≤ cap) (hcm : cap ≤ 5) (h0 : Holds w g #[.string k])  :
    Calls Tryz.prog 21 #[.slice (some ⟨g, 0, none⟩) 1 cap] w fun r w' => r = .returned .nilIface ∧ Below w.heap.size w w' := by
  have b0 := Below.refl w.heap.size w
  by_cases hk : k.data.toList = [99, 108, 97, 105, 109]
  ·
    have f_claim : (k.toList == [99, 108, 97, 105, 109]) = true := key_yes hk
    have f_put : (k.toList == [112, 117, 116]) = false := key_no (fun e => by rw [hk] at e; revert e; decide)
    have f_hide : (k.toList == [104, 105, 100, 101]) = false := key_no (fun e => by rw [hk] at e; revert e; decide)
    have f_show : (k.toList == [115, 104, 111, 119]) = false := key_no (fun e => by rw [hk] at e; revert e; decide)
    have f_fetch : (k.toList == [102, 101, 116, 99, 104]) = false := key_no (fun e => by rw [hk] at e; revert e; decide)
    have f_give : (k.toList == [103, 105, 118, 101]) = false := key_no (fun e => by rw [hk] at e; revert e; decide)
    clear hk
    go_enter Tryz.func21, Tryz.ntmps21
    go_wp2_with fail
    refine wp_region_seqV (fun w' => Below w.heap.size w w' ∧ Holds w' g #[.string k]) [(0, true), (1, true), (2, true), (3, true), (4, true), (5, true), (6, true)] (by kernel_rfl) (by kernel_rfl) (fun _ _ _ _ _ h => h) (by kernel_rfl) (by decide) ?_ ?_
    · exact ⟨b0.drew, h0⟩
    clear b0 h0
    intro hHeld
    repeat (first
      | (refine seqV_reads (by simp only [List.getElem?_toArray, List.getElem?_cons_succ, List.getElem?_cons_zero]; first | done | rfl) (by rfl) ?_; apply Exists.intro; apply And.intro; (focus (intro w hSw; (try dsimp only at hSw); (try (have hq := Holds.one hSw.2)); go_split_ands; go_simp; (try with_reducible rfl); done)); (try simp only [Act.put, List.setIfInBounds_toArray, List.set_cons_zero, List.set_cons_succ])))
    refine seqV_end ?_
    go_wp2
    all_goals
      go_ret
      exact ⟨rfl, hHeld.1⟩
  have hk_claim := hk
  clear hk
  by_cases hk : k.data.toList = [112, 117, 116]
  ·
    have f_claim : (k.toList == [99, 108, 97, 105, 109]) = false := key_no (fun e => by rw [hk] at e; revert e; decide)
    have f_put : (k.toList == [112, 117, 116]) = true := key_yes hk
    have f_hide : (k.toList == [104, 105, 100, 101]) = false := key_no (fun e => by rw [hk] at e; revert e; decide)
    have f_show : (k.toList == [115, 104, 111, 119]) = false := key_no (fun e => by rw [hk] at e; revert e; decide)
    have f_fetch : (k.toList == [102, 101, 116, 99, 104]) = false := key_no (fun e => by rw [hk] at e; revert e; decide)
    have f_give : (k.toList == [103, 105, 118, 101]) = false := key_no (fun e => by rw [hk] at e; revert e; decide)
    clear hk
    go_enter Tryz.func21, Tryz.ntmps21
    go_wp2_with fail
    refine wp_region_seqV (fun w' => Below w.heap.size w w' ∧ Holds w' g #[.string k]) [(0, true), (1, true), (2, true), (3, true), (4, true), (5, true), (6, true)] (by kernel_rfl) (by kernel_rfl) (fun _ _ _ _ _ h => h) (by kernel_rfl) (by decide) ?_ ?_
    · exact ⟨b0.drew, h0⟩
    clear b0 h0
    intro hHeld
    repeat (first
      | (refine seqV_reads (by simp only [List.getElem?_toArray, List.getElem?_cons_succ, List.getElem?_cons_zero]; first | done | rfl) (by rfl) ?_; apply Exists.intro; apply And.intro; (focus (intro w hSw; (try dsimp only at hSw); (try (have hq := Holds.one hSw.2)); go_split_ands; go_simp; (try with_reducible rfl); done)); (try simp only [Act.put, List.setIfInBounds_toArray, List.set_cons_zero, List.set_cons_succ])))
    refine seqV_end ?_
    go_wp2
    all_goals
      go_ret
      exact ⟨rfl, hHeld.1⟩
  have hk_put := hk
  clear hk
  by_cases hk : k.data.toList = [104, 105, 100, 101]
  ·
    have f_claim : (k.toList == [99, 108, 97, 105, 109]) = false := key_no (fun e => by rw [hk] at e; revert e; decide)
    have f_put : (k.toList == [112, 117, 116]) = false := key_no (fun e => by rw [hk] at e; revert e; decide)
    have f_hide : (k.toList == [104, 105, 100, 101]) = true := key_yes hk
    have f_show : (k.toList == [115, 104, 111, 119]) = false := key_no (fun e => by rw [hk] at e; revert e; decide)
    have f_fetch : (k.toList == [102, 101, 116, 99, 104]) = false := key_no (fun e => by rw [hk] at e; revert e; decide)
    have f_give : (k.toList == [103, 105, 118, 101]) = false := key_no (fun e => by rw [hk] at e; revert e; decide)
    clear hk
    go_enter Tryz.func21, Tryz.ntmps21
    go_wp2_with fail
    refine wp_region_seqV (fun w' => Below w.heap.size w w' ∧ Holds w' g #[.string k]) [(0, true), (1, true), (2, true), (3, true), (4, true), (5, true), (6, true)] (by kernel_rfl) (by kernel_rfl) (fun _ _ _ _ _ h => h) (by kernel_rfl) (by decide) ?_ ?_
    · exact ⟨b0.drew, h0⟩
    clear b0 h0
    intro hHeld
    repeat (first
      | (refine seqV_reads (by simp only [List.getElem?_toArray, List.getElem?_cons_succ, List.getElem?_cons_zero]; first | done | rfl) (by rfl) ?_; apply Exists.intro; apply And.intro; (focus (intro w hSw; (try dsimp only at hSw); (try (have hq := Holds.one hSw.2)); go_split_ands; go_simp; (try with_reducible rfl); done)); (try simp only [Act.put, List.setIfInBounds_toArray, List.set_cons_zero, List.set_cons_succ])))
    refine seqV_end ?_
    go_wp2
    all_goals
      go_ret
      exact ⟨rfl, hHeld.1⟩
  have hk_hide := hk
  clear hk
  by_cases hk : k.data.toList = [115, 104, 111, 119]
  ·
    have f_claim : (k.toList == [99, 108, 97, 105, 109]) = false := key_no (fun e => by rw [hk] at e; revert e; decide)
    have f_put : (k.toList == [112, 117, 116]) = false := key_no (fun e => by rw [hk] at e; revert e; decide)
    have f_hide : (k.toList == [104, 105, 100, 101]) = false := key_no (fun e => by rw [hk] at e; revert e; decide)
    have f_show : (k.toList == [115, 104, 111, 119]) = true := key_yes hk
    have f_fetch : (k.toList == [102, 101, 116, 99, 104]) = false := key_no (fun e => by rw [hk] at e; revert e; decide)
    have f_give : (k.toList == [103, 105, 118, 101]) = false := key_no (fun e => by rw [hk] at e; revert e; decide)
    clear hk
    go_enter Tryz.func21, Tryz.ntmps21
    go_wp2_with fail
    refine wp_region_seqV (fun w' => Below w.heap.size w w' ∧ Holds w' g #[.string k]) [(0, true), (1, true), (2, true), (3, true), (4, true), (5, true), (6, true)] (by kernel_rfl) (by kernel_rfl) (fun _ _ _ _ _ h => h) (by kernel_rfl) (by decide) ?_ ?_
    · exact ⟨b0.drew, h0⟩
    clear b0 h0
    intro hHeld
    repeat (first
      | (refine seqV_reads (by simp only [List.getElem?_toArray, List.getElem?_cons_succ, List.getElem?_cons_zero]; first | done | rfl) (by rfl) ?_; apply Exists.intro; apply And.intro; (focus (intro w hSw; (try dsimp only at hSw); (try (have hq := Holds.one hSw.2)); go_split_ands; go_simp; (try with_reducible rfl); done)); (try simp only [Act.put, List.setIfInBounds_toArray, List.set_cons_zero, List.set_cons_succ])))
    refine seqV_end ?_
    go_wp2
    all_goals
      go_ret
      exact ⟨rfl, hHeld.1⟩
  have hk_show := hk
  clear hk
  by_cases hk : k.data.toList = [102, 101, 116, 99, 104]
  ·
    have f_claim : (k.toList == [99, 108, 97, 105, 109]) = false := key_no (fun e => by rw [hk] at e; revert e; decide)
    have f_put : (k.toList == [112, 117, 116]) = false := key_no (fun e => by rw [hk] at e; revert e; decide)
    have f_hide : (k.toList == [104, 105, 100, 101]) = false := key_no (fun e => by rw [hk] at e; revert e; decide)
    have f_show : (k.toList == [115, 104, 111, 119]) = false := key_no (fun e => by rw [hk] at e; revert e; decide)
    have f_fetch : (k.toList == [102, 101, 116, 99, 104]) = true := key_yes hk
    have f_give : (k.toList == [103, 105, 118, 101]) = false := key_no (fun e => by rw [hk] at e; revert e; decide)
    clear hk
    go_enter Tryz.func21, Tryz.ntmps21
    go_wp2_with fail
    refine wp_region_seqV (fun w' => Below w.heap.size w w' ∧ Holds w' g #[.string k]) [(0, true), (1, true), (2, true), (3, true), (4, true), (5, true), (6, true)] (by kernel_rfl) (by kernel_rfl) (fun _ _ _ _ _ h => h) (by kernel_rfl) (by decide) ?_ ?_
    · exact ⟨b0.drew, h0⟩
    clear b0 h0
    intro hHeld
    repeat (first
      | (refine seqV_reads (by simp only [List.getElem?_toArray, List.getElem?_cons_succ, List.getElem?_cons_zero]; first | done | rfl) (by rfl) ?_; apply Exists.intro; apply And.intro; (focus (intro w hSw; (try dsimp only at hSw); (try (have hq := Holds.one hSw.2)); go_split_ands; go_simp; (try with_reducible rfl); done)); (try simp only [Act.put, List.setIfInBounds_toArray, List.set_cons_zero, List.set_cons_succ])))
    refine seqV_end ?_
    go_wp2
    all_goals
      go_ret
      exact ⟨rfl, hHeld.1⟩
  have hk_fetch := hk
  clear hk
  by_cases hk : k.data.toList = [103, 105, 118, 101]
  ·
    have f_claim : (k.toList == [99, 108, 97, 105, 109]) = false := key_no (fun e => by rw [hk] at e; revert e; decide)
    have f_put : (k.toList == [112, 117, 116]) = false := key_no (fun e => by rw [hk] at e; revert e; decide)
    have f_hide : (k.toList == [104, 105, 100, 101]) = false := key_no (fun e => by rw [hk] at e; revert e; decide)
    have f_show : (k.toList == [115, 104, 111, 119]) = false := key_no (fun e => by rw [hk] at e; revert e; decide)
    have f_fetch : (k.toList == [102, 101, 116, 99, 104]) = false := key_no (fun e => by rw [hk] at e; revert e; decide)
    have f_give : (k.toList == [103, 105, 118, 101]) = true := key_yes hk
    clear hk
    go_enter Tryz.func21, Tryz.ntmps21
    go_wp2_with fail
    refine wp_region_seqV (fun w' => Below w.heap.size w w' ∧ Holds w' g #[.string k]) [(0, true), (1, true), (2, true), (3, true), (4, true), (5, true), (6, true)] (by kernel_rfl) (by kernel_rfl) (fun _ _ _ _ _ h => h) (by kernel_rfl) (by decide) ?_ ?_
    · exact ⟨b0.drew, h0⟩
    clear b0 h0
    intro hHeld
    repeat (first
      | (refine seqV_reads (by simp only [List.getElem?_toArray, List.getElem?_cons_succ, List.getElem?_cons_zero]; first | done | rfl) (by rfl) ?_; apply Exists.intro; apply And.intro; (focus (intro w hSw; (try dsimp only at hSw); (try (have hq := Holds.one hSw.2)); go_split_ands; go_simp; (try with_reducible rfl); done)); (try simp only [Act.put, List.setIfInBounds_toArray, List.set_cons_zero, List.set_cons_succ])))
    refine seqV_end ?_
    go_wp2
    all_goals
      go_ret
      exact ⟨rfl, hHeld.1⟩
  have hk_give := hk
  clear hk
  have f_claim : (k.toList == [99, 108, 97, 105, 109]) = false := key_no (fun e => hk_claim e)
  have f_put : (k.toList == [112, 117, 116]) = false := key_no (fun e => hk_put e)
  have f_hide : (k.toList == [104, 105, 100, 101]) = false := key_no (fun e => hk_hide e)
  have f_show : (k.toList == [115, 104, 111, 119]) = false := key_no (fun e => hk_show e)
  have f_fetch : (k.toList == [102, 101, 116, 99, 104]) = false := key_no (fun e => hk_fetch e)
  have f_give : (k.toList == [103, 105, 118, 101]) = false := key_no (fun e => hk_give e)
  clear hk_claim hk_put hk_hide hk_show hk_fetch hk_give
  go_enter Tryz.func21, Tryz.ntmps21
  go_wp2_with fail
  refine wp_region_seqV (fun w' => Below w.heap.size w w' ∧ Holds w' g #[.string k]) [(0, true), (1, true), (2, true), (3, true), (4, true), (5, true), (6, true)] (by kernel_rfl) (by kernel_rfl) (fun _ _ _ _ _ h => h) (by kernel_rfl) (by decide) ?_ ?_
  · exact ⟨b0.drew, h0⟩
  clear b0 h0
  intro hHeld
  repeat (first
    | (refine seqV_reads (by simp only [List.getElem?_toArray, List.getElem?_cons_succ, List.getElem?_cons_zero]; first | done | rfl) (by rfl) ?_; apply Exists.intro; apply And.intro; (focus (intro w hSw; (try dsimp only at hSw); (try (have hq := Holds.one hSw.2)); go_split_ands; go_simp; (try with_reducible rfl); done)); (try simp only [Act.put, List.setIfInBounds_toArray, List.set_cons_zero, List.set_cons_succ])))
  refine seqV_end ?_
  go_wp2
  all_goals
    go_ret
    exact ⟨rfl, hHeld.1⟩
set_option maxHeartbeats 4000000 in
theorem rshape_nil2 (g cap : Nat) (k a : ByteArray) (w : World) (hc : 2 ≤ cap) (hcm : cap ≤ 5) (h0 : Holds w g #[.string k, .string a])  :
    Calls Tryz.prog 21 #[.slice (some ⟨g, 0, none⟩) 2 cap] w fun r w' => r = .returned .nilIface ∧ Below w.heap.size w w' := by
  have b0 := Below.refl w.heap.size w
  by_cases hk : k.data.toList = [99, 108, 97, 105, 109]
  ·
    have f_claim : (k.toList == [99, 108, 97, 105, 109]) = true := key_yes hk
    have f_put : (k.toList == [112, 117, 116]) = false := key_no (fun e => by rw [hk] at e; revert e; decide)
    have f_hide : (k.toList == [104, 105, 100, 101]) = false := key_no (fun e => by rw [hk] at e; revert e; decide)
    have f_show : (k.toList == [115, 104, 111, 119]) = false := key_no (fun e => by rw [hk] at e; revert e; decide)
    have f_fetch : (k.toList == [102, 101, 116, 99, 104]) = false := key_no (fun e => by rw [hk] at e; revert e; decide)
    have f_give : (k.toList == [103, 105, 118, 101]) = false := key_no (fun e => by rw [hk] at e; revert e; decide)
    clear hk
    go_enter Tryz.func21, Tryz.ntmps21
    go_wp2_with fail
    refine wp_region_seqV (fun w' => Below w.heap.size w w' ∧ Holds w' g #[.string k, .string a]) [(0, true), (1, true), (2, true), (3, true), (4, true), (5, true), (6, true)] (by kernel_rfl) (by kernel_rfl) (fun _ _ _ _ _ h => h) (by kernel_rfl) (by decide) ?_ ?_
    · exact ⟨b0.drew, h0⟩
    clear b0 h0
    intro hHeld
    repeat (first
      | (refine seqV_reads (by simp only [List.getElem?_toArray, List.getElem?_cons_succ, List.getElem?_cons_zero]; first | done | rfl) (by rfl) ?_; apply Exists.intro; apply And.intro; (focus (intro w hSw; (try dsimp only at hSw); (try (have hq := Holds.two hSw.2)); go_split_ands; go_simp; (try with_reducible rfl); done)); (try simp only [Act.put, List.setIfInBounds_toArray, List.set_cons_zero, List.set_cons_succ])))
    refine seqV_end ?_
    go_wp2
    all_goals
      go_ret
      exact ⟨rfl, hHeld.1⟩
  have hk_claim := hk
  clear hk
  by_cases hk : k.data.toList = [112, 117, 116]
  ·
    have f_claim : (k.toList == [99, 108, 97, 105, 109]) = false := key_no (fun e => by rw [hk] at e; revert e; decide)
    have f_put : (k.toList == [112, 117, 116]) = true := key_yes hk
    have f_hide : (k.toList == [104, 105, 100, 101]) = false := key_no (fun e => by rw [hk] at e; revert e; decide)
    have f_show : (k.toList == [115, 104, 111, 119]) = false := key_no (fun e => by rw [hk] at e; revert e; decide)
    have f_fetch : (k.toList == [102, 101, 116, 99, 104]) = false := key_no (fun e => by rw [hk] at e; revert e; decide)
    have f_give : (k.toList == [103, 105, 118, 101]) = false := key_no (fun e => by rw [hk] at e; revert e; decide)
    clear hk
    go_enter Tryz.func21, Tryz.ntmps21
    go_wp2_with fail
    refine wp_region_seqV (fun w' => Below w.heap.size w w' ∧ Holds w' g #[.string k, .string a]) [(0, true), (1, true), (2, true), (3, true), (4, true), (5, true), (6, true)] (by kernel_rfl) (by kernel_rfl) (fun _ _ _ _ _ h => h) (by kernel_rfl) (by decide) ?_ ?_
    · exact ⟨b0.drew, h0⟩
    clear b0 h0
    intro hHeld
    repeat (first
      | (refine seqV_reads (by simp only [List.getElem?_toArray, List.getElem?_cons_succ, List.getElem?_cons_zero]; first | done | rfl) (by rfl) ?_; apply Exists.intro; apply And.intro; (focus (intro w hSw; (try dsimp only at hSw); (try (have hq := Holds.two hSw.2)); go_split_ands; go_simp; (try with_reducible rfl); done)); (try simp only [Act.put, List.setIfInBounds_toArray, List.set_cons_zero, List.set_cons_succ])))
    refine seqV_end ?_
    go_wp2
    all_goals
      go_ret
      exact ⟨rfl, hHeld.1⟩
  have hk_put := hk
  clear hk
  by_cases hk : k.data.toList = [104, 105, 100, 101]
  ·
    have f_claim : (k.toList == [99, 108, 97, 105, 109]) = false := key_no (fun e => by rw [hk] at e; revert e; decide)
    have f_put : (k.toList == [112, 117, 116]) = false := key_no (fun e => by rw [hk] at e; revert e; decide)
    have f_hide : (k.toList == [104, 105, 100, 101]) = true := key_yes hk
    have f_show : (k.toList == [115, 104, 111, 119]) = false := key_no (fun e => by rw [hk] at e; revert e; decide)
    have f_fetch : (k.toList == [102, 101, 116, 99, 104]) = false := key_no (fun e => by rw [hk] at e; revert e; decide)
    have f_give : (k.toList == [103, 105, 118, 101]) = false := key_no (fun e => by rw [hk] at e; revert e; decide)
    clear hk
    go_enter Tryz.func21, Tryz.ntmps21
    go_wp2_with fail
    refine wp_region_seqV (fun w' => Below w.heap.size w w' ∧ Holds w' g #[.string k, .string a]) [(0, true), (1, true), (2, true), (3, true), (4, true), (5, true), (6, true)] (by kernel_rfl) (by kernel_rfl) (fun _ _ _ _ _ h => h) (by kernel_rfl) (by decide) ?_ ?_
    · exact ⟨b0.drew, h0⟩
    clear b0 h0
    intro hHeld
    repeat (first
      | (refine seqV_reads (by simp only [List.getElem?_toArray, List.getElem?_cons_succ, List.getElem?_cons_zero]; first | done | rfl) (by rfl) ?_; apply Exists.intro; apply And.intro; (focus (intro w hSw; (try dsimp only at hSw); (try (have hq := Holds.two hSw.2)); go_split_ands; go_simp; (try with_reducible rfl); done)); (try simp only [Act.put, List.setIfInBounds_toArray, List.set_cons_zero, List.set_cons_succ])))
    refine seqV_end ?_
    go_wp2
    all_goals
      go_ret
      exact ⟨rfl, hHeld.1⟩
  have hk_hide := hk
  clear hk
  by_cases hk : k.data.toList = [115, 104, 111, 119]
  ·
    have f_claim : (k.toList == [99, 108, 97, 105, 109]) = false := key_no (fun e => by rw [hk] at e; revert e; decide)
    have f_put : (k.toList == [112, 117, 116]) = false := key_no (fun e => by rw [hk] at e; revert e; decide)
    have f_hide : (k.toList == [104, 105, 100, 101]) = false := key_no (fun e => by rw [hk] at e; revert e; decide)
    have f_show : (k.toList == [115, 104, 111, 119]) = true := key_yes hk
    have f_fetch : (k.toList == [102, 101, 116, 99, 104]) = false := key_no (fun e => by rw [hk] at e; revert e; decide)
    have f_give : (k.toList == [103, 105, 118, 101]) = false := key_no (fun e => by rw [hk] at e; revert e; decide)
    clear hk
    go_enter Tryz.func21, Tryz.ntmps21
    go_wp2_with fail
    refine wp_region_seqV (fun w' => Below w.heap.size w w' ∧ Holds w' g #[.string k, .string a]) [(0, true), (1, true), (2, true), (3, true), (4, true), (5, true), (6, true)] (by kernel_rfl) (by kernel_rfl) (fun _ _ _ _ _ h => h) (by kernel_rfl) (by decide) ?_ ?_
    · exact ⟨b0.drew, h0⟩
    clear b0 h0
    intro hHeld
    repeat (first
      | (refine seqV_reads (by simp only [List.getElem?_toArray, List.getElem?_cons_succ, List.getElem?_cons_zero]; first | done | rfl) (by rfl) ?_; apply Exists.intro; apply And.intro; (focus (intro w hSw; (try dsimp only at hSw); (try (have hq := Holds.two hSw.2)); go_split_ands; go_simp; (try with_reducible rfl); done)); (try simp only [Act.put, List.setIfInBounds_toArray, List.set_cons_zero, List.set_cons_succ])))
    refine seqV_end ?_
    go_wp2
    all_goals
      go_ret
      exact ⟨rfl, hHeld.1⟩
  have hk_show := hk
  clear hk
  by_cases hk : k.data.toList = [102, 101, 116, 99, 104]
  ·
    have f_claim : (k.toList == [99, 108, 97, 105, 109]) = false := key_no (fun e => by rw [hk] at e; revert e; decide)
    have f_put : (k.toList == [112, 117, 116]) = false := key_no (fun e => by rw [hk] at e; revert e; decide)
    have f_hide : (k.toList == [104, 105, 100, 101]) = false := key_no (fun e => by rw [hk] at e; revert e; decide)
    have f_show : (k.toList == [115, 104, 111, 119]) = false := key_no (fun e => by rw [hk] at e; revert e; decide)
    have f_fetch : (k.toList == [102, 101, 116, 99, 104]) = true := key_yes hk
    have f_give : (k.toList == [103, 105, 118, 101]) = false := key_no (fun e => by rw [hk] at e; revert e; decide)
    clear hk
    go_enter Tryz.func21, Tryz.ntmps21
    go_wp2_with fail
    refine wp_region_seqV (fun w' => Below w.heap.size w w' ∧ Holds w' g #[.string k, .string a]) [(0, true), (1, true), (2, true), (3, true), (4, true), (5, true), (6, true)] (by kernel_rfl) (by kernel_rfl) (fun _ _ _ _ _ h => h) (by kernel_rfl) (by decide) ?_ ?_
    · exact ⟨b0.drew, h0⟩
    clear b0 h0
    intro hHeld
    repeat (first
      | (refine seqV_reads (by simp only [List.getElem?_toArray, List.getElem?_cons_succ, List.getElem?_cons_zero]; first | done | rfl) (by rfl) ?_; apply Exists.intro; apply And.intro; (focus (intro w hSw; (try dsimp only at hSw); (try (have hq := Holds.two hSw.2)); go_split_ands; go_simp; (try with_reducible rfl); done)); (try simp only [Act.put, List.setIfInBounds_toArray, List.set_cons_zero, List.set_cons_succ])))
    refine seqV_end ?_
    go_wp2
    all_goals
      go_ret
      exact ⟨rfl, hHeld.1⟩
  have hk_fetch := hk
  clear hk
  by_cases hk : k.data.toList = [103, 105, 118, 101]
  ·
    have f_claim : (k.toList == [99, 108, 97, 105, 109]) = false := key_no (fun e => by rw [hk] at e; revert e; decide)
    have f_put : (k.toList == [112, 117, 116]) = false := key_no (fun e => by rw [hk] at e; revert e; decide)
    have f_hide : (k.toList == [104, 105, 100, 101]) = false := key_no (fun e => by rw [hk] at e; revert e; decide)
    have f_show : (k.toList == [115, 104, 111, 119]) = false := key_no (fun e => by rw [hk] at e; revert e; decide)
    have f_fetch : (k.toList == [102, 101, 116, 99, 104]) = false := key_no (fun e => by rw [hk] at e; revert e; decide)
    have f_give : (k.toList == [103, 105, 118, 101]) = true := key_yes hk
    clear hk
    go_enter Tryz.func21, Tryz.ntmps21
    go_wp2_with fail
    refine wp_region_seqV (fun w' => Below w.heap.size w w' ∧ Holds w' g #[.string k, .string a]) [(0, true), (1, true), (2, true), (3, true), (4, true), (5, true), (6, true)] (by kernel_rfl) (by kernel_rfl) (fun _ _ _ _ _ h => h) (by kernel_rfl) (by decide) ?_ ?_
    · exact ⟨b0.drew, h0⟩
    clear b0 h0
    intro hHeld
    repeat (first
      | (refine seqV_reads (by simp only [List.getElem?_toArray, List.getElem?_cons_succ, List.getElem?_cons_zero]; first | done | rfl) (by rfl) ?_; apply Exists.intro; apply And.intro; (focus (intro w hSw; (try dsimp only at hSw); (try (have hq := Holds.two hSw.2)); go_split_ands; go_simp; (try with_reducible rfl); done)); (try simp only [Act.put, List.setIfInBounds_toArray, List.set_cons_zero, List.set_cons_succ])))
    refine seqV_end ?_
    go_wp2
    all_goals
      go_ret
      exact ⟨rfl, hHeld.1⟩
  have hk_give := hk
  clear hk
  have f_claim : (k.toList == [99, 108, 97, 105, 109]) = false := key_no (fun e => hk_claim e)
  have f_put : (k.toList == [112, 117, 116]) = false := key_no (fun e => hk_put e)
  have f_hide : (k.toList == [104, 105, 100, 101]) = false := key_no (fun e => hk_hide e)
  have f_show : (k.toList == [115, 104, 111, 119]) = false := key_no (fun e => hk_show e)
  have f_fetch : (k.toList == [102, 101, 116, 99, 104]) = false := key_no (fun e => hk_fetch e)
  have f_give : (k.toList == [103, 105, 118, 101]) = false := key_no (fun e => hk_give e)
  clear hk_claim hk_put hk_hide hk_show hk_fetch hk_give
  go_enter Tryz.func21, Tryz.ntmps21
  go_wp2_with fail
  refine wp_region_seqV (fun w' => Below w.heap.size w w' ∧ Holds w' g #[.string k, .string a]) [(0, true), (1, true), (2, true), (3, true), (4, true), (5, true), (6, true)] (by kernel_rfl) (by kernel_rfl) (fun _ _ _ _ _ h => h) (by kernel_rfl) (by decide) ?_ ?_
  · exact ⟨b0.drew, h0⟩
  clear b0 h0
  intro hHeld
  repeat (first
    | (refine seqV_reads (by simp only [List.getElem?_toArray, List.getElem?_cons_succ, List.getElem?_cons_zero]; first | done | rfl) (by rfl) ?_; apply Exists.intro; apply And.intro; (focus (intro w hSw; (try dsimp only at hSw); (try (have hq := Holds.two hSw.2)); go_split_ands; go_simp; (try with_reducible rfl); done)); (try simp only [Act.put, List.setIfInBounds_toArray, List.set_cons_zero, List.set_cons_succ])))
  refine seqV_end ?_
  go_wp2
  all_goals
    go_ret
    exact ⟨rfl, hHeld.1⟩
set_option maxHeartbeats 2000000 in
theorem rshape_claim (g cap : Nat) (k a b : ByteArray) (w : World) (hl : Laid w) (hc : 3 ≤ cap) (hcm : cap ≤ 5) (h0 : Holds w g #[.string k, .string a, .string b]) (sa : a.size ≤ 1048576) (sb : b.size ≤ 1048576) (hk : k.data.toList = [99, 108, 97, 105, 109]) :
    Calls Tryz.prog 21 #[.slice (some ⟨g, 0, none⟩) 3 cap] w fun r w' => r = .returned (.iface 74 (clV ⟨1, a, ⟨0, 0, 0⟩, ⟨#[]⟩, (M.rd b.data.toList).1⟩)) ∧ Below w.heap.size w w' := by
  have b0 := Below.refl w.heap.size w
  have f_claim : (k.toList == [99, 108, 97, 105, 109]) = true := key_yes hk
  have f_put : (k.toList == [112, 117, 116]) = false := key_no (fun e => by rw [hk] at e; revert e; decide)
  have f_hide : (k.toList == [104, 105, 100, 101]) = false := key_no (fun e => by rw [hk] at e; revert e; decide)
  have f_show : (k.toList == [115, 104, 111, 119]) = false := key_no (fun e => by rw [hk] at e; revert e; decide)
  have f_fetch : (k.toList == [102, 101, 116, 99, 104]) = false := key_no (fun e => by rw [hk] at e; revert e; decide)
  have f_give : (k.toList == [103, 105, 118, 101]) = false := key_no (fun e => by rw [hk] at e; revert e; decide)
  clear hk
  go_enter Tryz.func21, Tryz.ntmps21
  go_wp2_with fail
  refine wp_region_seqV (fun w' => Below w.heap.size w w' ∧ Holds w' g #[.string k, .string a, .string b]) [(0, true), (1, true), (2, true), (3, true), (4, true), (5, true), (6, true)] (by kernel_rfl) (by kernel_rfl) (fun _ _ _ _ _ h => h) (by kernel_rfl) (by decide) ?_ ?_
  · exact ⟨b0.drew, h0⟩
  clear b0 h0
  intro hHeld
  repeat (first
    | (refine seqV_reads (by simp only [List.getElem?_toArray, List.getElem?_cons_succ, List.getElem?_cons_zero]; first | done | rfl) (by rfl) ?_; apply Exists.intro; apply And.intro; (focus (intro w hSw; (try dsimp only at hSw); (try (have hq := Holds.three hSw.2)); go_split_ands; go_simp; (try with_reducible rfl); done)); (try simp only [Act.put, List.setIfInBounds_toArray, List.set_cons_zero, List.set_cons_succ])))
  refine seqV_end ?_
  go_wp2_with fail
  refine wp_region_seqV (fun w' => Below w.heap.size w w' ∧ Holds w' g #[.string k, .string a, .string b]) [(0, true), (1, true), (2, true), (3, true), (4, true), (5, true), (6, false), (7, true), (8, true), (9, true)] (by kernel_rfl) (by kernel_rfl) (fun _ _ _ _ _ h => h) (by kernel_rfl) (by decide) ?_ ?_
  · exact ⟨hHeld.1.drew, hHeld.2⟩
  clear hHeld
  intro hHeld
  repeat (first
    | (refine seqV_reads (by simp only [List.getElem?_toArray, List.getElem?_cons_succ, List.getElem?_cons_zero]; first | done | rfl) (by rfl) ?_; apply Exists.intro; apply And.intro; (focus (intro w hSw; (try dsimp only at hSw); (try (have hq := Holds.three hSw.2)); go_split_ands; go_simp; (try with_reducible rfl); done)); (try simp only [Act.put, List.setIfInBounds_toArray, List.set_cons_zero, List.set_cons_succ]))
    | (refine seqV_call (by simp only [List.getElem?_toArray, List.getElem?_cons_succ, List.getElem?_cons_zero]; first | done | rfl) (by rfl) (fun K hK => ?_); go_simp; go_at_call 50; refine (numberOf_any _ _ (by assumption) (hl.below hHeld.1)).mono ?_; rintro r w2 ⟨rfl, b1⟩; go_simp; refine hK.out _ _ _ (fun _ h => h) ⟨next hHeld.1 b1, hHeld.2.below b1⟩ ?_; clear hHeld hK b1; intro hHeld; (try simp only [Act.put, List.setIfInBounds_toArray, List.set_cons_zero, List.set_cons_succ])))
  refine seqV_end ?_
  go_wp2
  go_ret
  exact ⟨rfl, hHeld.1⟩
set_option maxHeartbeats 2000000 in
theorem rshape_fetch (g cap : Nat) (k a b : ByteArray) (w : World) (hl : Laid w) (hc : 3 ≤ cap) (hcm : cap ≤ 5) (h0 : Holds w g #[.string k, .string a, .string b]) (sa : a.size ≤ 1048576) (sb : b.size ≤ 1048576) (hk : k.data.toList = [102, 101, 116, 99, 104]) :
    Calls Tryz.prog 21 #[.slice (some ⟨g, 0, none⟩) 3 cap] w fun r w' => r = .returned (.iface 81 (feV ⟨5, a, (M.edRead b.data.toList).1, ⟨#[]⟩, 0⟩)) ∧ Below w.heap.size w w' := by
  have b0 := Below.refl w.heap.size w
  have f_claim : (k.toList == [99, 108, 97, 105, 109]) = false := key_no (fun e => by rw [hk] at e; revert e; decide)
  have f_put : (k.toList == [112, 117, 116]) = false := key_no (fun e => by rw [hk] at e; revert e; decide)
  have f_hide : (k.toList == [104, 105, 100, 101]) = false := key_no (fun e => by rw [hk] at e; revert e; decide)
  have f_show : (k.toList == [115, 104, 111, 119]) = false := key_no (fun e => by rw [hk] at e; revert e; decide)
  have f_fetch : (k.toList == [102, 101, 116, 99, 104]) = true := key_yes hk
  have f_give : (k.toList == [103, 105, 118, 101]) = false := key_no (fun e => by rw [hk] at e; revert e; decide)
  clear hk
  go_enter Tryz.func21, Tryz.ntmps21
  go_wp2_with fail
  refine wp_region_seqV (fun w' => Below w.heap.size w w' ∧ Holds w' g #[.string k, .string a, .string b]) [(0, true), (1, true), (2, true), (3, true), (4, true), (5, true), (6, true)] (by kernel_rfl) (by kernel_rfl) (fun _ _ _ _ _ h => h) (by kernel_rfl) (by decide) ?_ ?_
  · exact ⟨b0.drew, h0⟩
  clear b0 h0
  intro hHeld
  repeat (first
    | (refine seqV_reads (by simp only [List.getElem?_toArray, List.getElem?_cons_succ, List.getElem?_cons_zero]; first | done | rfl) (by rfl) ?_; apply Exists.intro; apply And.intro; (focus (intro w hSw; (try dsimp only at hSw); (try (have hq := Holds.three hSw.2)); go_split_ands; go_simp; (try with_reducible rfl); done)); (try simp only [Act.put, List.setIfInBounds_toArray, List.set_cons_zero, List.set_cons_succ])))
  refine seqV_end ?_
  go_wp2_with fail
  refine wp_region_seqV (fun w' => Below w.heap.size w w' ∧ Holds w' g #[.string k, .string a, .string b]) [(0, true), (1, true), (2, true), (3, true), (4, true), (5, true), (6, false), (7, true), (8, true), (9, true)] (by kernel_rfl) (by kernel_rfl) (fun _ _ _ _ _ h => h) (by kernel_rfl) (by decide) ?_ ?_
  · exact ⟨hHeld.1.drew, hHeld.2⟩
  clear hHeld
  intro hHeld
  repeat (first
    | (refine seqV_reads (by simp only [List.getElem?_toArray, List.getElem?_cons_succ, List.getElem?_cons_zero]; first | done | rfl) (by rfl) ?_; apply Exists.intro; apply And.intro; (focus (intro w hSw; (try dsimp only at hSw); (try (have hq := Holds.three hSw.2)); go_split_ands; go_simp; (try with_reducible rfl); done)); (try simp only [Act.put, List.setIfInBounds_toArray, List.set_cons_zero, List.set_cons_succ]))
    | (refine seqV_call (by simp only [List.getElem?_toArray, List.getElem?_cons_succ, List.getElem?_cons_zero]; first | done | rfl) (by rfl) (fun K hK => ?_); go_simp; go_at_call 51; refine (editionOf_any b _ sb (hl.below hHeld.1)).mono ?_; rintro r w2 ⟨rfl, b1⟩; go_simp; refine hK.out _ _ _ (fun _ h => h) ⟨next hHeld.1 b1, hHeld.2.below b1⟩ ?_; clear hHeld hK b1; intro hHeld; (try simp only [Act.put, List.setIfInBounds_toArray, List.set_cons_zero, List.set_cons_succ])))
  refine seqV_end ?_
  go_wp2
  go_ret
  exact ⟨rfl, hHeld.1⟩
set_option maxHeartbeats 4000000 in
theorem rshape_nil3 (g cap : Nat) (k a b : ByteArray) (w : World) (hc : 3 ≤ cap) (hcm : cap ≤ 5) (h0 : Holds w g #[.string k, .string a, .string b]) (hk_claim : k.data.toList ≠ [99, 108, 97, 105, 109]) (hk_fetch : k.data.toList ≠ [102, 101, 116, 99, 104]) :
    Calls Tryz.prog 21 #[.slice (some ⟨g, 0, none⟩) 3 cap] w fun r w' => r = .returned .nilIface ∧ Below w.heap.size w w' := by
  have b0 := Below.refl w.heap.size w
  by_cases hk : k.data.toList = [112, 117, 116]
  ·
    have f_claim : (k.toList == [99, 108, 97, 105, 109]) = false := key_no (fun e => by rw [hk] at e; revert e; decide)
    have f_put : (k.toList == [112, 117, 116]) = true := key_yes hk
    have f_hide : (k.toList == [104, 105, 100, 101]) = false := key_no (fun e => by rw [hk] at e; revert e; decide)
    have f_show : (k.toList == [115, 104, 111, 119]) = false := key_no (fun e => by rw [hk] at e; revert e; decide)
    have f_fetch : (k.toList == [102, 101, 116, 99, 104]) = false := key_no (fun e => by rw [hk] at e; revert e; decide)
    have f_give : (k.toList == [103, 105, 118, 101]) = false := key_no (fun e => by rw [hk] at e; revert e; decide)
    clear hk
    go_enter Tryz.func21, Tryz.ntmps21
    go_wp2_with fail
    refine wp_region_seqV (fun w' => Below w.heap.size w w' ∧ Holds w' g #[.string k, .string a, .string b]) [(0, true), (1, true), (2, true), (3, true), (4, true), (5, true), (6, true)] (by kernel_rfl) (by kernel_rfl) (fun _ _ _ _ _ h => h) (by kernel_rfl) (by decide) ?_ ?_
    · exact ⟨b0.drew, h0⟩
    clear b0 h0
    intro hHeld
    repeat (first
      | (refine seqV_reads (by simp only [List.getElem?_toArray, List.getElem?_cons_succ, List.getElem?_cons_zero]; first | done | rfl) (by rfl) ?_; apply Exists.intro; apply And.intro; (focus (intro w hSw; (try dsimp only at hSw); (try (have hq := Holds.three hSw.2)); go_split_ands; go_simp; (try with_reducible rfl); done)); (try simp only [Act.put, List.setIfInBounds_toArray, List.set_cons_zero, List.set_cons_succ])))
    refine seqV_end ?_
    go_wp2
    all_goals
      go_ret
      exact ⟨rfl, hHeld.1⟩
  have hk_put := hk
  clear hk
  by_cases hk : k.data.toList = [104, 105, 100, 101]
  ·
    have f_claim : (k.toList == [99, 108, 97, 105, 109]) = false := key_no (fun e => by rw [hk] at e; revert e; decide)
    have f_put : (k.toList == [112, 117, 116]) = false := key_no (fun e => by rw [hk] at e; revert e; decide)
    have f_hide : (k.toList == [104, 105, 100, 101]) = true := key_yes hk
    have f_show : (k.toList == [115, 104, 111, 119]) = false := key_no (fun e => by rw [hk] at e; revert e; decide)
    have f_fetch : (k.toList == [102, 101, 116, 99, 104]) = false := key_no (fun e => by rw [hk] at e; revert e; decide)
    have f_give : (k.toList == [103, 105, 118, 101]) = false := key_no (fun e => by rw [hk] at e; revert e; decide)
    clear hk
    go_enter Tryz.func21, Tryz.ntmps21
    go_wp2_with fail
    refine wp_region_seqV (fun w' => Below w.heap.size w w' ∧ Holds w' g #[.string k, .string a, .string b]) [(0, true), (1, true), (2, true), (3, true), (4, true), (5, true), (6, true)] (by kernel_rfl) (by kernel_rfl) (fun _ _ _ _ _ h => h) (by kernel_rfl) (by decide) ?_ ?_
    · exact ⟨b0.drew, h0⟩
    clear b0 h0
    intro hHeld
    repeat (first
      | (refine seqV_reads (by simp only [List.getElem?_toArray, List.getElem?_cons_succ, List.getElem?_cons_zero]; first | done | rfl) (by rfl) ?_; apply Exists.intro; apply And.intro; (focus (intro w hSw; (try dsimp only at hSw); (try (have hq := Holds.three hSw.2)); go_split_ands; go_simp; (try with_reducible rfl); done)); (try simp only [Act.put, List.setIfInBounds_toArray, List.set_cons_zero, List.set_cons_succ])))
    refine seqV_end ?_
    go_wp2
    all_goals
      go_ret
      exact ⟨rfl, hHeld.1⟩
  have hk_hide := hk
  clear hk
  by_cases hk : k.data.toList = [115, 104, 111, 119]
  ·
    have f_claim : (k.toList == [99, 108, 97, 105, 109]) = false := key_no (fun e => by rw [hk] at e; revert e; decide)
    have f_put : (k.toList == [112, 117, 116]) = false := key_no (fun e => by rw [hk] at e; revert e; decide)
    have f_hide : (k.toList == [104, 105, 100, 101]) = false := key_no (fun e => by rw [hk] at e; revert e; decide)
    have f_show : (k.toList == [115, 104, 111, 119]) = true := key_yes hk
    have f_fetch : (k.toList == [102, 101, 116, 99, 104]) = false := key_no (fun e => by rw [hk] at e; revert e; decide)
    have f_give : (k.toList == [103, 105, 118, 101]) = false := key_no (fun e => by rw [hk] at e; revert e; decide)
    clear hk
    go_enter Tryz.func21, Tryz.ntmps21
    go_wp2_with fail
    refine wp_region_seqV (fun w' => Below w.heap.size w w' ∧ Holds w' g #[.string k, .string a, .string b]) [(0, true), (1, true), (2, true), (3, true), (4, true), (5, true), (6, true)] (by kernel_rfl) (by kernel_rfl) (fun _ _ _ _ _ h => h) (by kernel_rfl) (by decide) ?_ ?_
    · exact ⟨b0.drew, h0⟩
    clear b0 h0
    intro hHeld
    repeat (first
      | (refine seqV_reads (by simp only [List.getElem?_toArray, List.getElem?_cons_succ, List.getElem?_cons_zero]; first | done | rfl) (by rfl) ?_; apply Exists.intro; apply And.intro; (focus (intro w hSw; (try dsimp only at hSw); (try (have hq := Holds.three hSw.2)); go_split_ands; go_simp; (try with_reducible rfl); done)); (try simp only [Act.put, List.setIfInBounds_toArray, List.set_cons_zero, List.set_cons_succ])))
    refine seqV_end ?_
    go_wp2
    all_goals
      go_ret
      exact ⟨rfl, hHeld.1⟩
  have hk_show := hk
  clear hk
  by_cases hk : k.data.toList = [103, 105, 118, 101]
  ·
    have f_claim : (k.toList == [99, 108, 97, 105, 109]) = false := key_no (fun e => by rw [hk] at e; revert e; decide)
    have f_put : (k.toList == [112, 117, 116]) = false := key_no (fun e => by rw [hk] at e; revert e; decide)
    have f_hide : (k.toList == [104, 105, 100, 101]) = false := key_no (fun e => by rw [hk] at e; revert e; decide)
    have f_show : (k.toList == [115, 104, 111, 119]) = false := key_no (fun e => by rw [hk] at e; revert e; decide)
    have f_fetch : (k.toList == [102, 101, 116, 99, 104]) = false := key_no (fun e => by rw [hk] at e; revert e; decide)
    have f_give : (k.toList == [103, 105, 118, 101]) = true := key_yes hk
    clear hk
    go_enter Tryz.func21, Tryz.ntmps21
    go_wp2_with fail
    refine wp_region_seqV (fun w' => Below w.heap.size w w' ∧ Holds w' g #[.string k, .string a, .string b]) [(0, true), (1, true), (2, true), (3, true), (4, true), (5, true), (6, true)] (by kernel_rfl) (by kernel_rfl) (fun _ _ _ _ _ h => h) (by kernel_rfl) (by decide) ?_ ?_
    · exact ⟨b0.drew, h0⟩
    clear b0 h0
    intro hHeld
    repeat (first
      | (refine seqV_reads (by simp only [List.getElem?_toArray, List.getElem?_cons_succ, List.getElem?_cons_zero]; first | done | rfl) (by rfl) ?_; apply Exists.intro; apply And.intro; (focus (intro w hSw; (try dsimp only at hSw); (try (have hq := Holds.three hSw.2)); go_split_ands; go_simp; (try with_reducible rfl); done)); (try simp only [Act.put, List.setIfInBounds_toArray, List.set_cons_zero, List.set_cons_succ])))
    refine seqV_end ?_
    go_wp2
    all_goals
      go_ret
      exact ⟨rfl, hHeld.1⟩
  have hk_give := hk
  clear hk
  have f_claim : (k.toList == [99, 108, 97, 105, 109]) = false := key_no (fun e => hk_claim e)
  have f_put : (k.toList == [112, 117, 116]) = false := key_no (fun e => hk_put e)
  have f_hide : (k.toList == [104, 105, 100, 101]) = false := key_no (fun e => hk_hide e)
  have f_show : (k.toList == [115, 104, 111, 119]) = false := key_no (fun e => hk_show e)
  have f_fetch : (k.toList == [102, 101, 116, 99, 104]) = false := key_no (fun e => hk_fetch e)
  have f_give : (k.toList == [103, 105, 118, 101]) = false := key_no (fun e => hk_give e)
  clear hk_put hk_hide hk_show hk_give
  go_enter Tryz.func21, Tryz.ntmps21
  go_wp2_with fail
  refine wp_region_seqV (fun w' => Below w.heap.size w w' ∧ Holds w' g #[.string k, .string a, .string b]) [(0, true), (1, true), (2, true), (3, true), (4, true), (5, true), (6, true)] (by kernel_rfl) (by kernel_rfl) (fun _ _ _ _ _ h => h) (by kernel_rfl) (by decide) ?_ ?_
  · exact ⟨b0.drew, h0⟩
  clear b0 h0
  intro hHeld
  repeat (first
    | (refine seqV_reads (by simp only [List.getElem?_toArray, List.getElem?_cons_succ, List.getElem?_cons_zero]; first | done | rfl) (by rfl) ?_; apply Exists.intro; apply And.intro; (focus (intro w hSw; (try dsimp only at hSw); (try (have hq := Holds.three hSw.2)); go_split_ands; go_simp; (try with_reducible rfl); done)); (try simp only [Act.put, List.setIfInBounds_toArray, List.set_cons_zero, List.set_cons_succ])))
  refine seqV_end ?_
  go_wp2
  all_goals
    go_ret
    exact ⟨rfl, hHeld.1⟩
set_option maxHeartbeats 2000000 in
theorem rshape_hide (g cap : Nat) (k a b c : ByteArray) (w : World) (hl : Laid w) (hc : 4 ≤ cap) (hcm : cap ≤ 5) (h0 : Holds w g #[.string k, .string a, .string b, .string c]) (sa : a.size ≤ 1048576) (sb : b.size ≤ 1048576) (sc : c.size ≤ 1048576) (hk : k.data.toList = [104, 105, 100, 101]) :
    Calls Tryz.prog 21 #[.slice (some ⟨g, 0, none⟩) 4 cap] w fun r w' => r = .returned (.iface 78 (veV true ⟨3, a, (M.edRead b.data.toList).1, ⟨#[]⟩, (M.rd c.data.toList).1⟩)) ∧ Below w.heap.size w w' := by
  have b0 := Below.refl w.heap.size w
  have f_claim : (k.toList == [99, 108, 97, 105, 109]) = false := key_no (fun e => by rw [hk] at e; revert e; decide)
  have f_put : (k.toList == [112, 117, 116]) = false := key_no (fun e => by rw [hk] at e; revert e; decide)
  have f_hide : (k.toList == [104, 105, 100, 101]) = true := key_yes hk
  have f_show : (k.toList == [115, 104, 111, 119]) = false := key_no (fun e => by rw [hk] at e; revert e; decide)
  have f_fetch : (k.toList == [102, 101, 116, 99, 104]) = false := key_no (fun e => by rw [hk] at e; revert e; decide)
  have f_give : (k.toList == [103, 105, 118, 101]) = false := key_no (fun e => by rw [hk] at e; revert e; decide)
  clear hk
  go_enter Tryz.func21, Tryz.ntmps21
  go_wp2_with fail
  refine wp_region_seqV (fun w' => Below w.heap.size w w' ∧ Holds w' g #[.string k, .string a, .string b, .string c]) [(0, true), (1, true), (2, true), (3, true), (4, true), (5, true), (6, true)] (by kernel_rfl) (by kernel_rfl) (fun _ _ _ _ _ h => h) (by kernel_rfl) (by decide) ?_ ?_
  · exact ⟨b0.drew, h0⟩
  clear b0 h0
  intro hHeld
  repeat (first
    | (refine seqV_reads (by simp only [List.getElem?_toArray, List.getElem?_cons_succ, List.getElem?_cons_zero]; first | done | rfl) (by rfl) ?_; apply Exists.intro; apply And.intro; (focus (intro w hSw; (try dsimp only at hSw); (try (have hq := Holds.four hSw.2)); go_split_ands; go_simp; (try with_reducible rfl); done)); (try simp only [Act.put, List.setIfInBounds_toArray, List.set_cons_zero, List.set_cons_succ])))
  refine seqV_end ?_
  go_wp2_with fail
  refine wp_region_seqV (fun w' => Below w.heap.size w w' ∧ Holds w' g #[.string k, .string a, .string b, .string c]) [(0, true), (1, true), (2, true), (3, true), (4, true), (5, true), (6, true), (7, true), (9, true), (10, true), (11, true), (8, false), (12, false), (13, true), (14, true), (15, true)] (by kernel_rfl) (by kernel_rfl) (fun _ _ _ _ _ h => h) (by kernel_rfl) (by decide) ?_ ?_
  · exact ⟨hHeld.1.drew, hHeld.2⟩
  clear hHeld
  intro hHeld
  repeat (first
    | (refine seqV_reads (by simp only [List.getElem?_toArray, List.getElem?_cons_succ, List.getElem?_cons_zero]; first | done | rfl) (by rfl) ?_; apply Exists.intro; apply And.intro; (focus (intro w hSw; (try dsimp only at hSw); (try (have hq := Holds.four hSw.2)); go_split_ands; go_simp; (try with_reducible rfl); done)); (try simp only [Act.put, List.setIfInBounds_toArray, List.set_cons_zero, List.set_cons_succ]))
    | (refine seqV_call (by simp only [List.getElem?_toArray, List.getElem?_cons_succ, List.getElem?_cons_zero]; first | done | rfl) (by rfl) (fun K hK => ?_); go_simp; go_at_call 51; refine (editionOf_any b _ sb (hl.below hHeld.1)).mono ?_; rintro r w2 ⟨rfl, b1⟩; go_simp; refine hK.out _ _ _ (fun _ h => h) ⟨next hHeld.1 b1, hHeld.2.below b1⟩ ?_; clear hHeld hK b1; intro hHeld; (try simp only [Act.put, List.setIfInBounds_toArray, List.set_cons_zero, List.set_cons_succ]))
    | (refine seqV_call (by simp only [List.getElem?_toArray, List.getElem?_cons_succ, List.getElem?_cons_zero]; first | done | rfl) (by rfl) (fun K hK => ?_); go_simp; go_at_call 50; refine (numberOf_any _ _ (by assumption) (hl.below hHeld.1)).mono ?_; rintro r w2 ⟨rfl, b1⟩; go_simp; refine hK.out _ _ _ (fun _ h => h) ⟨next hHeld.1 b1, hHeld.2.below b1⟩ ?_; clear hHeld hK b1; intro hHeld; (try simp only [Act.put, List.setIfInBounds_toArray, List.set_cons_zero, List.set_cons_succ])))
  refine seqV_end ?_
  go_wp2
  go_ret
  exact ⟨rfl, hHeld.1⟩
set_option maxHeartbeats 2000000 in
theorem rshape_show (g cap : Nat) (k a b c : ByteArray) (w : World) (hl : Laid w) (hc : 4 ≤ cap) (hcm : cap ≤ 5) (h0 : Holds w g #[.string k, .string a, .string b, .string c]) (sa : a.size ≤ 1048576) (sb : b.size ≤ 1048576) (sc : c.size ≤ 1048576) (hk : k.data.toList = [115, 104, 111, 119]) :
    Calls Tryz.prog 21 #[.slice (some ⟨g, 0, none⟩) 4 cap] w fun r w' => r = .returned (.iface 78 (veV false ⟨4, a, (M.edRead b.data.toList).1, ⟨#[]⟩, (M.rd c.data.toList).1⟩)) ∧ Below w.heap.size w w' := by
  have b0 := Below.refl w.heap.size w
  have f_claim : (k.toList == [99, 108, 97, 105, 109]) = false := key_no (fun e => by rw [hk] at e; revert e; decide)
  have f_put : (k.toList == [112, 117, 116]) = false := key_no (fun e => by rw [hk] at e; revert e; decide)
  have f_hide : (k.toList == [104, 105, 100, 101]) = false := key_no (fun e => by rw [hk] at e; revert e; decide)
  have f_show : (k.toList == [115, 104, 111, 119]) = true := key_yes hk
  have f_fetch : (k.toList == [102, 101, 116, 99, 104]) = false := key_no (fun e => by rw [hk] at e; revert e; decide)
  have f_give : (k.toList == [103, 105, 118, 101]) = false := key_no (fun e => by rw [hk] at e; revert e; decide)
  clear hk
  go_enter Tryz.func21, Tryz.ntmps21
  go_wp2_with fail
  refine wp_region_seqV (fun w' => Below w.heap.size w w' ∧ Holds w' g #[.string k, .string a, .string b, .string c]) [(0, true), (1, true), (2, true), (3, true), (4, true), (5, true), (6, true)] (by kernel_rfl) (by kernel_rfl) (fun _ _ _ _ _ h => h) (by kernel_rfl) (by decide) ?_ ?_
  · exact ⟨b0.drew, h0⟩
  clear b0 h0
  intro hHeld
  repeat (first
    | (refine seqV_reads (by simp only [List.getElem?_toArray, List.getElem?_cons_succ, List.getElem?_cons_zero]; first | done | rfl) (by rfl) ?_; apply Exists.intro; apply And.intro; (focus (intro w hSw; (try dsimp only at hSw); (try (have hq := Holds.four hSw.2)); go_split_ands; go_simp; (try with_reducible rfl); done)); (try simp only [Act.put, List.setIfInBounds_toArray, List.set_cons_zero, List.set_cons_succ])))
  refine seqV_end ?_
  go_wp2_with fail
  refine wp_region_seqV (fun w' => Below w.heap.size w w' ∧ Holds w' g #[.string k, .string a, .string b, .string c]) [(0, true), (1, true), (2, true), (3, true), (4, true), (5, true), (6, true), (7, true), (9, true), (10, true), (11, true), (8, false), (12, false), (13, true), (14, true), (15, true)] (by kernel_rfl) (by kernel_rfl) (fun _ _ _ _ _ h => h) (by kernel_rfl) (by decide) ?_ ?_
  · exact ⟨hHeld.1.drew, hHeld.2⟩
  clear hHeld
  intro hHeld
  repeat (first
    | (refine seqV_reads (by simp only [List.getElem?_toArray, List.getElem?_cons_succ, List.getElem?_cons_zero]; first | done | rfl) (by rfl) ?_; apply Exists.intro; apply And.intro; (focus (intro w hSw; (try dsimp only at hSw); (try (have hq := Holds.four hSw.2)); go_split_ands; go_simp; (try with_reducible rfl); done)); (try simp only [Act.put, List.setIfInBounds_toArray, List.set_cons_zero, List.set_cons_succ]))
    | (refine seqV_call (by simp only [List.getElem?_toArray, List.getElem?_cons_succ, List.getElem?_cons_zero]; first | done | rfl) (by rfl) (fun K hK => ?_); go_simp; go_at_call 51; refine (editionOf_any b _ sb (hl.below hHeld.1)).mono ?_; rintro r w2 ⟨rfl, b1⟩; go_simp; refine hK.out _ _ _ (fun _ h => h) ⟨next hHeld.1 b1, hHeld.2.below b1⟩ ?_; clear hHeld hK b1; intro hHeld; (try simp only [Act.put, List.setIfInBounds_toArray, List.set_cons_zero, List.set_cons_succ]))
    | (refine seqV_call (by simp only [List.getElem?_toArray, List.getElem?_cons_succ, List.getElem?_cons_zero]; first | done | rfl) (by rfl) (fun K hK => ?_); go_simp; go_at_call 50; refine (numberOf_any _ _ (by assumption) (hl.below hHeld.1)).mono ?_; rintro r w2 ⟨rfl, b1⟩; go_simp; refine hK.out _ _ _ (fun _ h => h) ⟨next hHeld.1 b1, hHeld.2.below b1⟩ ?_; clear hHeld hK b1; intro hHeld; (try simp only [Act.put, List.setIfInBounds_toArray, List.set_cons_zero, List.set_cons_succ])))
  refine seqV_end ?_
  go_wp2
  go_ret
  exact ⟨rfl, hHeld.1⟩
set_option maxHeartbeats 2000000 in
theorem rshape_give (g cap : Nat) (k a b c : ByteArray) (w : World) (hl : Laid w) (hc : 4 ≤ cap) (hcm : cap ≤ 5) (h0 : Holds w g #[.string k, .string a, .string b, .string c]) (sa : a.size ≤ 1048576) (sb : b.size ≤ 1048576) (sc : c.size ≤ 1048576) (hk : k.data.toList = [103, 105, 118, 101]) :
    Calls Tryz.prog 21 #[.slice (some ⟨g, 0, none⟩) 4 cap] w fun r w' => r = .returned (.iface 83 (giV ⟨6, a, ⟨(M.rd c.data.toList).1, 0, 0⟩, ⟨#[]⟩, (M.rd b.data.toList).1⟩)) ∧ Below w.heap.size w w' := by
  have b0 := Below.refl w.heap.size w
  have f_claim : (k.toList == [99, 108, 97, 105, 109]) = false := key_no (fun e => by rw [hk] at e; revert e; decide)
  have f_put : (k.toList == [112, 117, 116]) = false := key_no (fun e => by rw [hk] at e; revert e; decide)
  have f_hide : (k.toList == [104, 105, 100, 101]) = false := key_no (fun e => by rw [hk] at e; revert e; decide)
  have f_show : (k.toList == [115, 104, 111, 119]) = false := key_no (fun e => by rw [hk] at e; revert e; decide)
  have f_fetch : (k.toList == [102, 101, 116, 99, 104]) = false := key_no (fun e => by rw [hk] at e; revert e; decide)
  have f_give : (k.toList == [103, 105, 118, 101]) = true := key_yes hk
  clear hk
  go_enter Tryz.func21, Tryz.ntmps21
  go_wp2_with fail
  refine wp_region_seqV (fun w' => Below w.heap.size w w' ∧ Holds w' g #[.string k, .string a, .string b, .string c]) [(0, true), (1, true), (2, true), (3, true), (4, true), (5, true), (6, true)] (by kernel_rfl) (by kernel_rfl) (fun _ _ _ _ _ h => h) (by kernel_rfl) (by decide) ?_ ?_
  · exact ⟨b0.drew, h0⟩
  clear b0 h0
  intro hHeld
  repeat (first
    | (refine seqV_reads (by simp only [List.getElem?_toArray, List.getElem?_cons_succ, List.getElem?_cons_zero]; first | done | rfl) (by rfl) ?_; apply Exists.intro; apply And.intro; (focus (intro w hSw; (try dsimp only at hSw); (try (have hq := Holds.four hSw.2)); go_split_ands; go_simp; (try with_reducible rfl); done)); (try simp only [Act.put, List.setIfInBounds_toArray, List.set_cons_zero, List.set_cons_succ])))
  refine seqV_end ?_
  go_wp2_with fail
  refine wp_region_seqV (fun w' => Below w.heap.size w w' ∧ Holds w' g #[.string k, .string a, .string b, .string c]) [(0, true), (1, true), (2, true), (3, true), (4, true), (5, true), (7, true), (8, true), (9, true), (6, false), (10, false), (11, true), (12, true), (13, true)] (by kernel_rfl) (by kernel_rfl) (fun _ _ _ _ _ h => h) (by kernel_rfl) (by decide) ?_ ?_
  · exact ⟨hHeld.1.drew, hHeld.2⟩
  clear hHeld
  intro hHeld
  repeat (first
    | (refine seqV_reads (by simp only [List.getElem?_toArray, List.getElem?_cons_succ, List.getElem?_cons_zero]; first | done | rfl) (by rfl) ?_; apply Exists.intro; apply And.intro; (focus (intro w hSw; (try dsimp only at hSw); (try (have hq := Holds.four hSw.2)); go_split_ands; go_simp; (try with_reducible rfl); done)); (try simp only [Act.put, List.setIfInBounds_toArray, List.set_cons_zero, List.set_cons_succ]))
    | (refine seqV_call (by simp only [List.getElem?_toArray, List.getElem?_cons_succ, List.getElem?_cons_zero]; first | done | rfl) (by rfl) (fun K hK => ?_); go_simp; go_at_call 50; refine (numberOf_any _ _ (by assumption) (hl.below hHeld.1)).mono ?_; rintro r w2 ⟨rfl, b1⟩; go_simp; refine hK.out _ _ _ (fun _ h => h) ⟨next hHeld.1 b1, hHeld.2.below b1⟩ ?_; clear hHeld hK b1; intro hHeld; (try simp only [Act.put, List.setIfInBounds_toArray, List.set_cons_zero, List.set_cons_succ])))
  refine seqV_end ?_
  go_wp2
  go_ret
  exact ⟨rfl, hHeld.1⟩
set_option maxHeartbeats 4000000 in
theorem rshape_nil4 (g cap : Nat) (k a b c : ByteArray) (w : World) (hc : 4 ≤ cap) (hcm : cap ≤ 5) (h0 : Holds w g #[.string k, .string a, .string b, .string c]) (hk_hide : k.data.toList ≠ [104, 105, 100, 101]) (hk_show : k.data.toList ≠ [115, 104, 111, 119]) (hk_give : k.data.toList ≠ [103, 105, 118, 101]) :
    Calls Tryz.prog 21 #[.slice (some ⟨g, 0, none⟩) 4 cap] w fun r w' => r = .returned .nilIface ∧ Below w.heap.size w w' := by
  have b0 := Below.refl w.heap.size w
  by_cases hk : k.data.toList = [99, 108, 97, 105, 109]
  ·
    have f_claim : (k.toList == [99, 108, 97, 105, 109]) = true := key_yes hk
    have f_put : (k.toList == [112, 117, 116]) = false := key_no (fun e => by rw [hk] at e; revert e; decide)
    have f_hide : (k.toList == [104, 105, 100, 101]) = false := key_no (fun e => by rw [hk] at e; revert e; decide)
    have f_show : (k.toList == [115, 104, 111, 119]) = false := key_no (fun e => by rw [hk] at e; revert e; decide)
    have f_fetch : (k.toList == [102, 101, 116, 99, 104]) = false := key_no (fun e => by rw [hk] at e; revert e; decide)
    have f_give : (k.toList == [103, 105, 118, 101]) = false := key_no (fun e => by rw [hk] at e; revert e; decide)
    clear hk
    go_enter Tryz.func21, Tryz.ntmps21
    go_wp2_with fail
    refine wp_region_seqV (fun w' => Below w.heap.size w w' ∧ Holds w' g #[.string k, .string a, .string b, .string c]) [(0, true), (1, true), (2, true), (3, true), (4, true), (5, true), (6, true)] (by kernel_rfl) (by kernel_rfl) (fun _ _ _ _ _ h => h) (by kernel_rfl) (by decide) ?_ ?_
    · exact ⟨b0.drew, h0⟩
    clear b0 h0
    intro hHeld
    repeat (first
      | (refine seqV_reads (by simp only [List.getElem?_toArray, List.getElem?_cons_succ, List.getElem?_cons_zero]; first | done | rfl) (by rfl) ?_; apply Exists.intro; apply And.intro; (focus (intro w hSw; (try dsimp only at hSw); (try (have hq := Holds.four hSw.2)); go_split_ands; go_simp; (try with_reducible rfl); done)); (try simp only [Act.put, List.setIfInBounds_toArray, List.set_cons_zero, List.set_cons_succ])))
    refine seqV_end ?_
    go_wp2
    all_goals
      go_ret
      exact ⟨rfl, hHeld.1⟩
  have hk_claim := hk
  clear hk
  by_cases hk : k.data.toList = [112, 117, 116]
  ·
    have f_claim : (k.toList == [99, 108, 97, 105, 109]) = false := key_no (fun e => by rw [hk] at e; revert e; decide)
    have f_put : (k.toList == [112, 117, 116]) = true := key_yes hk
    have f_hide : (k.toList == [104, 105, 100, 101]) = false := key_no (fun e => by rw [hk] at e; revert e; decide)
    have f_show : (k.toList == [115, 104, 111, 119]) = false := key_no (fun e => by rw [hk] at e; revert e; decide)
    have f_fetch : (k.toList == [102, 101, 116, 99, 104]) = false := key_no (fun e => by rw [hk] at e; revert e; decide)
    have f_give : (k.toList == [103, 105, 118, 101]) = false := key_no (fun e => by rw [hk] at e; revert e; decide)
    clear hk
    go_enter Tryz.func21, Tryz.ntmps21
    go_wp2_with fail
    refine wp_region_seqV (fun w' => Below w.heap.size w w' ∧ Holds w' g #[.string k, .string a, .string b, .string c]) [(0, true), (1, true), (2, true), (3, true), (4, true), (5, true), (6, true)] (by kernel_rfl) (by kernel_rfl) (fun _ _ _ _ _ h => h) (by kernel_rfl) (by decide) ?_ ?_
    · exact ⟨b0.drew, h0⟩
    clear b0 h0
    intro hHeld
    repeat (first
      | (refine seqV_reads (by simp only [List.getElem?_toArray, List.getElem?_cons_succ, List.getElem?_cons_zero]; first | done | rfl) (by rfl) ?_; apply Exists.intro; apply And.intro; (focus (intro w hSw; (try dsimp only at hSw); (try (have hq := Holds.four hSw.2)); go_split_ands; go_simp; (try with_reducible rfl); done)); (try simp only [Act.put, List.setIfInBounds_toArray, List.set_cons_zero, List.set_cons_succ])))
    refine seqV_end ?_
    go_wp2
    all_goals
      go_ret
      exact ⟨rfl, hHeld.1⟩
  have hk_put := hk
  clear hk
  by_cases hk : k.data.toList = [102, 101, 116, 99, 104]
  ·
    have f_claim : (k.toList == [99, 108, 97, 105, 109]) = false := key_no (fun e => by rw [hk] at e; revert e; decide)
    have f_put : (k.toList == [112, 117, 116]) = false := key_no (fun e => by rw [hk] at e; revert e; decide)
    have f_hide : (k.toList == [104, 105, 100, 101]) = false := key_no (fun e => by rw [hk] at e; revert e; decide)
    have f_show : (k.toList == [115, 104, 111, 119]) = false := key_no (fun e => by rw [hk] at e; revert e; decide)
    have f_fetch : (k.toList == [102, 101, 116, 99, 104]) = true := key_yes hk
    have f_give : (k.toList == [103, 105, 118, 101]) = false := key_no (fun e => by rw [hk] at e; revert e; decide)
    clear hk
    go_enter Tryz.func21, Tryz.ntmps21
    go_wp2_with fail
    refine wp_region_seqV (fun w' => Below w.heap.size w w' ∧ Holds w' g #[.string k, .string a, .string b, .string c]) [(0, true), (1, true), (2, true), (3, true), (4, true), (5, true), (6, true)] (by kernel_rfl) (by kernel_rfl) (fun _ _ _ _ _ h => h) (by kernel_rfl) (by decide) ?_ ?_
    · exact ⟨b0.drew, h0⟩
    clear b0 h0
    intro hHeld
    repeat (first
      | (refine seqV_reads (by simp only [List.getElem?_toArray, List.getElem?_cons_succ, List.getElem?_cons_zero]; first | done | rfl) (by rfl) ?_; apply Exists.intro; apply And.intro; (focus (intro w hSw; (try dsimp only at hSw); (try (have hq := Holds.four hSw.2)); go_split_ands; go_simp; (try with_reducible rfl); done)); (try simp only [Act.put, List.setIfInBounds_toArray, List.set_cons_zero, List.set_cons_succ])))
    refine seqV_end ?_
    go_wp2
    all_goals
      go_ret
      exact ⟨rfl, hHeld.1⟩
  have hk_fetch := hk
  clear hk
  have f_claim : (k.toList == [99, 108, 97, 105, 109]) = false := key_no (fun e => hk_claim e)
  have f_put : (k.toList == [112, 117, 116]) = false := key_no (fun e => hk_put e)
  have f_hide : (k.toList == [104, 105, 100, 101]) = false := key_no (fun e => hk_hide e)
  have f_show : (k.toList == [115, 104, 111, 119]) = false := key_no (fun e => hk_show e)
  have f_fetch : (k.toList == [102, 101, 116, 99, 104]) = false := key_no (fun e => hk_fetch e)
  have f_give : (k.toList == [103, 105, 118, 101]) = false := key_no (fun e => hk_give e)
  clear hk_claim hk_put hk_fetch
  go_enter Tryz.func21, Tryz.ntmps21
  go_wp2_with fail
  refine wp_region_seqV (fun w' => Below w.heap.size w w' ∧ Holds w' g #[.string k, .string a, .string b, .string c]) [(0, true), (1, true), (2, true), (3, true), (4, true), (5, true), (6, true)] (by kernel_rfl) (by kernel_rfl) (fun _ _ _ _ _ h => h) (by kernel_rfl) (by decide) ?_ ?_
  · exact ⟨b0.drew, h0⟩
  clear b0 h0
  intro hHeld
  repeat (first
    | (refine seqV_reads (by simp only [List.getElem?_toArray, List.getElem?_cons_succ, List.getElem?_cons_zero]; first | done | rfl) (by rfl) ?_; apply Exists.intro; apply And.intro; (focus (intro w hSw; (try dsimp only at hSw); (try (have hq := Holds.four hSw.2)); go_split_ands; go_simp; (try with_reducible rfl); done)); (try simp only [Act.put, List.setIfInBounds_toArray, List.set_cons_zero, List.set_cons_succ])))
  refine seqV_end ?_
  go_wp2
  all_goals
    go_ret
    exact ⟨rfl, hHeld.1⟩
set_option maxHeartbeats 2000000 in
theorem rshape_put (g cap : Nat) (k a b c e : ByteArray) (w : World) (hl : Laid w) (hc : 5 ≤ cap) (hcm : cap ≤ 5) (h0 : Holds w g #[.string k, .string a, .string b, .string c, .string e]) (sa : a.size ≤ 1048576) (sb : b.size ≤ 1048576) (sc : c.size ≤ 1048576) (se : e.size ≤ 1048576) (hk : k.data.toList = [112, 117, 116]) :
    Calls Tryz.prog 21 #[.slice (some ⟨g, 0, none⟩) 5 cap] w fun r w' => r = .returned (.iface 76 (puV ⟨2, a, (M.edRead b.data.toList).1, M.pageRead c.data.toList, (M.rd e.data.toList).1⟩)) ∧ Below w.heap.size w w' := by
  have b0 := Below.refl w.heap.size w
  have f_claim : (k.toList == [99, 108, 97, 105, 109]) = false := key_no (fun e => by rw [hk] at e; revert e; decide)
  have f_put : (k.toList == [112, 117, 116]) = true := key_yes hk
  have f_hide : (k.toList == [104, 105, 100, 101]) = false := key_no (fun e => by rw [hk] at e; revert e; decide)
  have f_show : (k.toList == [115, 104, 111, 119]) = false := key_no (fun e => by rw [hk] at e; revert e; decide)
  have f_fetch : (k.toList == [102, 101, 116, 99, 104]) = false := key_no (fun e => by rw [hk] at e; revert e; decide)
  have f_give : (k.toList == [103, 105, 118, 101]) = false := key_no (fun e => by rw [hk] at e; revert e; decide)
  clear hk
  go_enter Tryz.func21, Tryz.ntmps21
  go_wp2_with fail
  refine wp_region_seqV (fun w' => Below w.heap.size w w' ∧ Holds w' g #[.string k, .string a, .string b, .string c, .string e]) [(0, true), (1, true), (2, true), (3, true), (4, true), (5, true), (6, true)] (by kernel_rfl) (by kernel_rfl) (fun _ _ _ _ _ h => h) (by kernel_rfl) (by decide) ?_ ?_
  · exact ⟨b0.drew, h0⟩
  clear b0 h0
  intro hHeld
  repeat (first
    | (refine seqV_reads (by simp only [List.getElem?_toArray, List.getElem?_cons_succ, List.getElem?_cons_zero]; first | done | rfl) (by rfl) ?_; apply Exists.intro; apply And.intro; (focus (intro w hSw; (try dsimp only at hSw); (try (have hq := Holds.five hSw.2)); go_split_ands; go_simp; (try with_reducible rfl); done)); (try simp only [Act.put, List.setIfInBounds_toArray, List.set_cons_zero, List.set_cons_succ])))
  refine seqV_end ?_
  go_wp2_with fail
  refine wp_region_seqV (fun w' => Below w.heap.size w w' ∧ Holds w' g #[.string k, .string a, .string b, .string c, .string e]) [(0, true), (1, true), (2, true), (3, true), (4, true), (5, true), (7, true), (8, true), (9, true), (11, true), (12, true), (13, true), (6, false), (10, false), (14, false), (15, true), (16, true), (17, true)] (by kernel_rfl) (by kernel_rfl) (fun _ _ _ _ _ h => h) (by kernel_rfl) (by decide) ?_ ?_
  · exact ⟨hHeld.1.drew, hHeld.2⟩
  clear hHeld
  intro hHeld
  repeat (first
    | (refine seqV_reads (by simp only [List.getElem?_toArray, List.getElem?_cons_succ, List.getElem?_cons_zero]; first | done | rfl) (by rfl) ?_; apply Exists.intro; apply And.intro; (focus (intro w hSw; (try dsimp only at hSw); (try (have hq := Holds.five hSw.2)); go_split_ands; go_simp; (try with_reducible rfl); done)); (try simp only [Act.put, List.setIfInBounds_toArray, List.set_cons_zero, List.set_cons_succ]))
    | (refine seqV_call (by simp only [List.getElem?_toArray, List.getElem?_cons_succ, List.getElem?_cons_zero]; first | done | rfl) (by rfl) (fun K hK => ?_); go_simp; go_at_call 51; refine (editionOf_any b _ sb (hl.below hHeld.1)).mono ?_; rintro r w2 ⟨rfl, b1⟩; go_simp; refine hK.out _ _ _ (fun _ h => h) ⟨next hHeld.1 b1, hHeld.2.below b1⟩ ?_; clear hHeld hK b1; intro hHeld; (try simp only [Act.put, List.setIfInBounds_toArray, List.set_cons_zero, List.set_cons_succ]))
    | (refine seqV_call (by simp only [List.getElem?_toArray, List.getElem?_cons_succ, List.getElem?_cons_zero]; first | done | rfl) (by rfl) (fun K hK => ?_); go_simp; go_at_call 52; refine (pageOf_any c _).mono ?_; rintro r w2 ⟨rfl, b1⟩; go_simp; refine hK.out _ _ _ (fun _ h => h) ⟨next hHeld.1 b1, hHeld.2.below b1⟩ ?_; clear hHeld hK b1; intro hHeld; (try simp only [Act.put, List.setIfInBounds_toArray, List.set_cons_zero, List.set_cons_succ]))
    | (refine seqV_call (by simp only [List.getElem?_toArray, List.getElem?_cons_succ, List.getElem?_cons_zero]; first | done | rfl) (by rfl) (fun K hK => ?_); go_simp; go_at_call 50; refine (numberOf_any _ _ (by assumption) (hl.below hHeld.1)).mono ?_; rintro r w2 ⟨rfl, b1⟩; go_simp; refine hK.out _ _ _ (fun _ h => h) ⟨next hHeld.1 b1, hHeld.2.below b1⟩ ?_; clear hHeld hK b1; intro hHeld; (try simp only [Act.put, List.setIfInBounds_toArray, List.set_cons_zero, List.set_cons_succ])))
  refine seqV_end ?_
  go_wp2
  go_ret
  exact ⟨rfl, hHeld.1⟩
set_option maxHeartbeats 4000000 in
theorem rshape_nil5 (g cap : Nat) (k a b c e : ByteArray) (w : World) (hc : 5 ≤ cap) (hcm : cap ≤ 5) (h0 : Holds w g #[.string k, .string a, .string b, .string c, .string e]) (hk_put : k.data.toList ≠ [112, 117, 116]) :
    Calls Tryz.prog 21 #[.slice (some ⟨g, 0, none⟩) 5 cap] w fun r w' => r = .returned .nilIface ∧ Below w.heap.size w w' := by
  have b0 := Below.refl w.heap.size w
  by_cases hk : k.data.toList = [99, 108, 97, 105, 109]
  ·
    have f_claim : (k.toList == [99, 108, 97, 105, 109]) = true := key_yes hk
    have f_put : (k.toList == [112, 117, 116]) = false := key_no (fun e => by rw [hk] at e; revert e; decide)
    have f_hide : (k.toList == [104, 105, 100, 101]) = false := key_no (fun e => by rw [hk] at e; revert e; decide)
    have f_show : (k.toList == [115, 104, 111, 119]) = false := key_no (fun e => by rw [hk] at e; revert e; decide)
    have f_fetch : (k.toList == [102, 101, 116, 99, 104]) = false := key_no (fun e => by rw [hk] at e; revert e; decide)
    have f_give : (k.toList == [103, 105, 118, 101]) = false := key_no (fun e => by rw [hk] at e; revert e; decide)
    clear hk
    go_enter Tryz.func21, Tryz.ntmps21
    go_wp2_with fail
    refine wp_region_seqV (fun w' => Below w.heap.size w w' ∧ Holds w' g #[.string k, .string a, .string b, .string c, .string e]) [(0, true), (1, true), (2, true), (3, true), (4, true), (5, true), (6, true)] (by kernel_rfl) (by kernel_rfl) (fun _ _ _ _ _ h => h) (by kernel_rfl) (by decide) ?_ ?_
    · exact ⟨b0.drew, h0⟩
    clear b0 h0
    intro hHeld
    repeat (first
      | (refine seqV_reads (by simp only [List.getElem?_toArray, List.getElem?_cons_succ, List.getElem?_cons_zero]; first | done | rfl) (by rfl) ?_; apply Exists.intro; apply And.intro; (focus (intro w hSw; (try dsimp only at hSw); (try (have hq := Holds.five hSw.2)); go_split_ands; go_simp; (try with_reducible rfl); done)); (try simp only [Act.put, List.setIfInBounds_toArray, List.set_cons_zero, List.set_cons_succ])))
    refine seqV_end ?_
    go_wp2
    all_goals
      go_ret
      exact ⟨rfl, hHeld.1⟩
  have hk_claim := hk
  clear hk
  by_cases hk : k.data.toList = [104, 105, 100, 101]
  ·
    have f_claim : (k.toList == [99, 108, 97, 105, 109]) = false := key_no (fun e => by rw [hk] at e; revert e; decide)
    have f_put : (k.toList == [112, 117, 116]) = false := key_no (fun e => by rw [hk] at e; revert e; decide)
    have f_hide : (k.toList == [104, 105, 100, 101]) = true := key_yes hk
    have f_show : (k.toList == [115, 104, 111, 119]) = false := key_no (fun e => by rw [hk] at e; revert e; decide)
    have f_fetch : (k.toList == [102, 101, 116, 99, 104]) = false := key_no (fun e => by rw [hk] at e; revert e; decide)
    have f_give : (k.toList == [103, 105, 118, 101]) = false := key_no (fun e => by rw [hk] at e; revert e; decide)
    clear hk
    go_enter Tryz.func21, Tryz.ntmps21
    go_wp2_with fail
    refine wp_region_seqV (fun w' => Below w.heap.size w w' ∧ Holds w' g #[.string k, .string a, .string b, .string c, .string e]) [(0, true), (1, true), (2, true), (3, true), (4, true), (5, true), (6, true)] (by kernel_rfl) (by kernel_rfl) (fun _ _ _ _ _ h => h) (by kernel_rfl) (by decide) ?_ ?_
    · exact ⟨b0.drew, h0⟩
    clear b0 h0
    intro hHeld
    repeat (first
      | (refine seqV_reads (by simp only [List.getElem?_toArray, List.getElem?_cons_succ, List.getElem?_cons_zero]; first | done | rfl) (by rfl) ?_; apply Exists.intro; apply And.intro; (focus (intro w hSw; (try dsimp only at hSw); (try (have hq := Holds.five hSw.2)); go_split_ands; go_simp; (try with_reducible rfl); done)); (try simp only [Act.put, List.setIfInBounds_toArray, List.set_cons_zero, List.set_cons_succ])))
    refine seqV_end ?_
    go_wp2
    all_goals
      go_ret
      exact ⟨rfl, hHeld.1⟩
  have hk_hide := hk
  clear hk
  by_cases hk : k.data.toList = [115, 104, 111, 119]
  ·
    have f_claim : (k.toList == [99, 108, 97, 105, 109]) = false := key_no (fun e => by rw [hk] at e; revert e; decide)
    have f_put : (k.toList == [112, 117, 116]) = false := key_no (fun e => by rw [hk] at e; revert e; decide)
    have f_hide : (k.toList == [104, 105, 100, 101]) = false := key_no (fun e => by rw [hk] at e; revert e; decide)
    have f_show : (k.toList == [115, 104, 111, 119]) = true := key_yes hk
    have f_fetch : (k.toList == [102, 101, 116, 99, 104]) = false := key_no (fun e => by rw [hk] at e; revert e; decide)
    have f_give : (k.toList == [103, 105, 118, 101]) = false := key_no (fun e => by rw [hk] at e; revert e; decide)
    clear hk
    go_enter Tryz.func21, Tryz.ntmps21
    go_wp2_with fail
    refine wp_region_seqV (fun w' => Below w.heap.size w w' ∧ Holds w' g #[.string k, .string a, .string b, .string c, .string e]) [(0, true), (1, true), (2, true), (3, true), (4, true), (5, true), (6, true)] (by kernel_rfl) (by kernel_rfl) (fun _ _ _ _ _ h => h) (by kernel_rfl) (by decide) ?_ ?_
    · exact ⟨b0.drew, h0⟩
    clear b0 h0
    intro hHeld
    repeat (first
      | (refine seqV_reads (by simp only [List.getElem?_toArray, List.getElem?_cons_succ, List.getElem?_cons_zero]; first | done | rfl) (by rfl) ?_; apply Exists.intro; apply And.intro; (focus (intro w hSw; (try dsimp only at hSw); (try (have hq := Holds.five hSw.2)); go_split_ands; go_simp; (try with_reducible rfl); done)); (try simp only [Act.put, List.setIfInBounds_toArray, List.set_cons_zero, List.set_cons_succ])))
    refine seqV_end ?_
    go_wp2
    all_goals
      go_ret
      exact ⟨rfl, hHeld.1⟩
  have hk_show := hk
  clear hk
  by_cases hk : k.data.toList = [102, 101, 116, 99, 104]
  ·
    have f_claim : (k.toList == [99, 108, 97, 105, 109]) = false := key_no (fun e => by rw [hk] at e; revert e; decide)
    have f_put : (k.toList == [112, 117, 116]) = false := key_no (fun e => by rw [hk] at e; revert e; decide)
    have f_hide : (k.toList == [104, 105, 100, 101]) = false := key_no (fun e => by rw [hk] at e; revert e; decide)
    have f_show : (k.toList == [115, 104, 111, 119]) = false := key_no (fun e => by rw [hk] at e; revert e; decide)
    have f_fetch : (k.toList == [102, 101, 116, 99, 104]) = true := key_yes hk
    have f_give : (k.toList == [103, 105, 118, 101]) = false := key_no (fun e => by rw [hk] at e; revert e; decide)
    clear hk
    go_enter Tryz.func21, Tryz.ntmps21
    go_wp2_with fail
    refine wp_region_seqV (fun w' => Below w.heap.size w w' ∧ Holds w' g #[.string k, .string a, .string b, .string c, .string e]) [(0, true), (1, true), (2, true), (3, true), (4, true), (5, true), (6, true)] (by kernel_rfl) (by kernel_rfl) (fun _ _ _ _ _ h => h) (by kernel_rfl) (by decide) ?_ ?_
    · exact ⟨b0.drew, h0⟩
    clear b0 h0
    intro hHeld
    repeat (first
      | (refine seqV_reads (by simp only [List.getElem?_toArray, List.getElem?_cons_succ, List.getElem?_cons_zero]; first | done | rfl) (by rfl) ?_; apply Exists.intro; apply And.intro; (focus (intro w hSw; (try dsimp only at hSw); (try (have hq := Holds.five hSw.2)); go_split_ands; go_simp; (try with_reducible rfl); done)); (try simp only [Act.put, List.setIfInBounds_toArray, List.set_cons_zero, List.set_cons_succ])))
    refine seqV_end ?_
    go_wp2
    all_goals
      go_ret
      exact ⟨rfl, hHeld.1⟩
  have hk_fetch := hk
  clear hk
  by_cases hk : k.data.toList = [103, 105, 118, 101]
  ·
    have f_claim : (k.toList == [99, 108, 97, 105, 109]) = false := key_no (fun e => by rw [hk] at e; revert e; decide)
    have f_put : (k.toList == [112, 117, 116]) = false := key_no (fun e => by rw [hk] at e; revert e; decide)
    have f_hide : (k.toList == [104, 105, 100, 101]) = false := key_no (fun e => by rw [hk] at e; revert e; decide)
    have f_show : (k.toList == [115, 104, 111, 119]) = false := key_no (fun e => by rw [hk] at e; revert e; decide)
    have f_fetch : (k.toList == [102, 101, 116, 99, 104]) = false := key_no (fun e => by rw [hk] at e; revert e; decide)
    have f_give : (k.toList == [103, 105, 118, 101]) = true := key_yes hk
    clear hk
    go_enter Tryz.func21, Tryz.ntmps21
    go_wp2_with fail
    refine wp_region_seqV (fun w' => Below w.heap.size w w' ∧ Holds w' g #[.string k, .string a, .string b, .string c, .string e]) [(0, true), (1, true), (2, true), (3, true), (4, true), (5, true), (6, true)] (by kernel_rfl) (by kernel_rfl) (fun _ _ _ _ _ h => h) (by kernel_rfl) (by decide) ?_ ?_
    · exact ⟨b0.drew, h0⟩
    clear b0 h0
    intro hHeld
    repeat (first
      | (refine seqV_reads (by simp only [List.getElem?_toArray, List.getElem?_cons_succ, List.getElem?_cons_zero]; first | done | rfl) (by rfl) ?_; apply Exists.intro; apply And.intro; (focus (intro w hSw; (try dsimp only at hSw); (try (have hq := Holds.five hSw.2)); go_split_ands; go_simp; (try with_reducible rfl); done)); (try simp only [Act.put, List.setIfInBounds_toArray, List.set_cons_zero, List.set_cons_succ])))
    refine seqV_end ?_
    go_wp2
    all_goals
      go_ret
      exact ⟨rfl, hHeld.1⟩
  have hk_give := hk
  clear hk
  have f_claim : (k.toList == [99, 108, 97, 105, 109]) = false := key_no (fun e => hk_claim e)
  have f_put : (k.toList == [112, 117, 116]) = false := key_no (fun e => hk_put e)
  have f_hide : (k.toList == [104, 105, 100, 101]) = false := key_no (fun e => hk_hide e)
  have f_show : (k.toList == [115, 104, 111, 119]) = false := key_no (fun e => hk_show e)
  have f_fetch : (k.toList == [102, 101, 116, 99, 104]) = false := key_no (fun e => hk_fetch e)
  have f_give : (k.toList == [103, 105, 118, 101]) = false := key_no (fun e => hk_give e)
  clear hk_claim hk_hide hk_show hk_fetch hk_give
  go_enter Tryz.func21, Tryz.ntmps21
  go_wp2_with fail
  refine wp_region_seqV (fun w' => Below w.heap.size w w' ∧ Holds w' g #[.string k, .string a, .string b, .string c, .string e]) [(0, true), (1, true), (2, true), (3, true), (4, true), (5, true), (6, true)] (by kernel_rfl) (by kernel_rfl) (fun _ _ _ _ _ h => h) (by kernel_rfl) (by decide) ?_ ?_
  · exact ⟨b0.drew, h0⟩
  clear b0 h0
  intro hHeld
  repeat (first
    | (refine seqV_reads (by simp only [List.getElem?_toArray, List.getElem?_cons_succ, List.getElem?_cons_zero]; first | done | rfl) (by rfl) ?_; apply Exists.intro; apply And.intro; (focus (intro w hSw; (try dsimp only at hSw); (try (have hq := Holds.five hSw.2)); go_split_ands; go_simp; (try with_reducible rfl); done)); (try simp only [Act.put, List.setIfInBounds_toArray, List.set_cons_zero, List.set_cons_succ])))
  refine seqV_end ?_
  go_wp2
  all_goals
    go_ret
    exact ⟨rfl, hHeld.1⟩
end Go.Proofs.YtiibklhalgookaaGreatDoor
