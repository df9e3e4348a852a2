/- Proved: the program's words of a deed that is right are those of the document, in new memory, and its ShowDeed answers the same plain Lean function as the model's; they write nothing that was there. Condition: texts of at most maxLen bytes. -/
import Derived.Test.YtiibklhalgookaaGreatDoorDeedShow
import Derived.Test.YtiibklhalgookaaGreatDoorShowEd
namespace Go.Proofs.YtiibklhalgookaaGreatDoor
open Go.RowKit
set_option maxRecDepth 20000

theorem numberWord_any (x : Int) (h0 : 0 ≤ x) (h1 : x ≤ 99) (w : World) : Calls Tryz.prog 42 #[.int .i64 x] w fun r w' => r = .returned (strOf (M.intText x)) ∧ Below w.heap.size w w' := by
  go_enter Tryz.func42, Tryz.ntmps42
  go_wp2_with fail
  refine (formatInt_small x h0 h1 _).mono ?_
  rintro r w' ⟨rfl, rfl⟩
  go_wp2
  go_ret
  exact ⟨rfl, Below.refl _ _⟩
theorem pageWord_any (p : ByteArray) (w : World) : Calls Tryz.prog 44 #[.string p] w fun r w' => r = .returned (strOf (M.pageText p)) ∧ Below w.heap.size w w' := by
  by_cases h : p.size = 0
  · have h' := no_text h
    have HE : Hid (M.pageText p = [45]) := Lib.hid (by simp [M.pageText, h])
    clear h
    go_enter Tryz.func44, Tryz.ntmps44
    go_wp2
    go_ret
    exact ⟨ret_ba (by rw [HE.out]), Below.refl _ _⟩
  · have h' := some_text h
    have HE : Hid (M.pageText p = p.data.toList) := Lib.hid (by simp [M.pageText, h])
    clear h
    go_enter Tryz.func44, Tryz.ntmps44
    go_wp2
    go_ret
    exact ⟨ret_ba (by rw [HE.out]), Below.refl _ _⟩
def veilT (b : Bool) : List UInt8 := if b then M.wHide else M.wShow
theorem veilWord_any (b : Bool) (w : World) : Calls Tryz.prog 45 #[.bool b] w fun r w' => r = .returned (strOf (veilT b)) ∧ Below w.heap.size w w' := by
  cases b
  · go_enter Tryz.func45, Tryz.ntmps45
    go_wp2
    go_ret
    exact ⟨rfl, Below.refl _ _⟩
  · go_enter Tryz.func45, Tryz.ntmps45
    go_wp2
    go_ret
    exact ⟨rfl, Below.refl _ _⟩
theorem showEd_ok (e : M.Ed) (h : M.edOk e = true) (w : World) : Calls Tryz.prog 43 #[edV e] w fun r w' => r = .returned (strOf (M.edText e)) ∧ Below w.heap.size w w' := by
  have := implShowEdition e w
  rw [show M.edShow e = M.edText e by simp [M.edShow, h]] at this
  exact this

set_option maxHeartbeats 2000000 in
theorem words_claim (d : M.Dd) (w : World) (h : M.deedOk d = true) :
    Calls Tryz.prog 15 #[.iface 74 (clV d)] w fun r w' => (∃ g, r = .returned (.slice (some ⟨g, 0, none⟩) 3 3) ∧ Holds w' g #[.string ⟨#[99, 108, 97, 105, 109]⟩, .string d.name, .string ⟨(M.intText d.who).toArray⟩]) ∧ Below w.heap.size w w' := by
  obtain ⟨hn, hp, he, hw0, hw1, hm0, hm1⟩ := deed_bounds h
  clear h
  have as_cl := as_cl_cl
  have b0 := (Below.refl w.heap.size w).alloc (Nat.le_refl _) (.cells (clC d) 74)
  have h0 := holds_new w (clC d) 74
  go_enter Tryz.func15, Tryz.ntmps15
  go_wp2_with fail
  clear as_cl
  refine wp_region_seqV (fun w' => Below w.heap.size w w' ∧ Holds w' w.heap.size (clC d)) [(0, true), (1, true), (2, true), (3, true), (4, false), (5, false), (6, true)] (by kernel_rfl) (by kernel_rfl) (fun _ _ _ _ _ h => h) (by kernel_rfl) (by decide) ?_ ?_
  · exact ⟨b0.drew, h0⟩
  clear b0 h0
  intro hHeld
  repeat (first
    | (refine seqV_reads (by simp only [List.getElem?_toArray, List.getElem?_cons_succ, List.getElem?_cons_zero]; first | done | rfl) (by rfl) ?_; apply Exists.intro; apply And.intro; (focus (intro w hSw; (try dsimp only at hSw); (try (have hq := Holds.two hSw.2)); go_split_ands; go_simp; (try with_reducible rfl); done)); (try simp only [Act.put, List.setIfInBounds_toArray, List.set_cons_zero, List.set_cons_succ]))
    | (refine seqV_call (by simp only [List.getElem?_toArray, List.getElem?_cons_succ, List.getElem?_cons_zero]; first | done | rfl) (by rfl) (fun K hK => ?_); go_simp; go_at_call 42; refine (numberWord_any d.who hw0 (by omega) _).mono ?_; rintro r w2 ⟨hr, b1⟩; obtain rfl : r = .returned (.string ⟨(M.intText d.who).toArray⟩) := hr; go_simp; refine hK.out _ _ _ (fun _ h => h) ⟨next hHeld.1 b1, hHeld.2.below b1⟩ ?_; clear hHeld hK b1; intro hHeld; (try simp only [Act.put, List.setIfInBounds_toArray, List.set_cons_zero, List.set_cons_succ]))
    | (refine seqV_call (by simp only [List.getElem?_toArray, List.getElem?_cons_succ, List.getElem?_cons_zero]; first | done | rfl) (by rfl) (fun K hK => ?_); go_simp; refine hK.out (fun w' => Holds w' _ _ ∧ (Below w.heap.size w w' ∧ Holds w' w.heap.size (clC d))) _ _ (fun _ h => h.2) ⟨holds_new _ _ _, hHeld.1.alloc hHeld.1.size _, hHeld.2.alloc _⟩ ?_; clear hHeld hK; intro hHeld; (try simp only [Act.put, List.setIfInBounds_toArray, List.set_cons_zero, List.set_cons_succ])))
  refine seqV_end ?_
  go_wp2
  all_goals
    go_ret
    exact ⟨⟨_, rfl, hHeld.1⟩, hHeld.2.1⟩

set_option maxHeartbeats 2000000 in
theorem words_put (d : M.Dd) (w : World) (h : M.deedOk d = true) :
    Calls Tryz.prog 15 #[.iface 76 (puV d)] w fun r w' => (∃ g, r = .returned (.slice (some ⟨g, 0, none⟩) 5 5) ∧ Holds w' g #[.string ⟨#[112, 117, 116]⟩, .string d.name, .string ⟨(M.edText d.ed).toArray⟩, .string ⟨(M.pageText d.page).toArray⟩, .string ⟨(M.intText d.who).toArray⟩]) ∧ Below w.heap.size w w' := by
  obtain ⟨hn, hp, he, hw0, hw1, hm0, hm1⟩ := deed_bounds h
  clear h
  have as_cl := as_pu_cl
  have as_pu := as_pu_pu
  have b0 := (Below.refl w.heap.size w).alloc (Nat.le_refl _) (.cells (puC d) 76)
  have h0 := holds_new w (puC d) 76
  go_enter Tryz.func15, Tryz.ntmps15
  go_wp2_with fail
  clear as_cl as_pu
  refine wp_region_seqV (fun w' => Below w.heap.size w w' ∧ Holds w' w.heap.size (puC d)) [(0, true), (1, true), (2, true), (3, true), (5, true), (6, true), (8, true), (9, true), (4, false), (7, false), (10, false), (11, false), (12, true)] (by kernel_rfl) (by kernel_rfl) (fun _ _ _ _ _ h => h) (by kernel_rfl) (by decide) ?_ ?_
  · exact ⟨b0.drew, h0⟩
  clear b0 h0
  intro hHeld
  repeat (first
    | (refine seqV_reads (by simp only [List.getElem?_toArray, List.getElem?_cons_succ, List.getElem?_cons_zero]; first | done | rfl) (by rfl) ?_; apply Exists.intro; apply And.intro; (focus (intro w hSw; (try dsimp only at hSw); (try (have hq := Holds.six hSw.2)); go_split_ands; go_simp; (try with_reducible rfl); done)); (try simp only [Act.put, List.setIfInBounds_toArray, List.set_cons_zero, List.set_cons_succ]))
    | (refine seqV_call (by simp only [List.getElem?_toArray, List.getElem?_cons_succ, List.getElem?_cons_zero]; first | done | rfl) (by rfl) (fun K hK => ?_); go_simp; go_at_call 43; refine (showEd_ok d.ed he _).mono ?_; rintro r w2 ⟨hr, b1⟩; obtain rfl : r = .returned (.string ⟨(M.edText d.ed).toArray⟩) := hr; go_simp; refine hK.out _ _ _ (fun _ h => h) ⟨next hHeld.1 b1, hHeld.2.below b1⟩ ?_; clear hHeld hK b1; intro hHeld; (try simp only [Act.put, List.setIfInBounds_toArray, List.set_cons_zero, List.set_cons_succ]))
    | (refine seqV_call (by simp only [List.getElem?_toArray, List.getElem?_cons_succ, List.getElem?_cons_zero]; first | done | rfl) (by rfl) (fun K hK => ?_); go_simp; go_at_call 44; refine (pageWord_any d.page _).mono ?_; rintro r w2 ⟨hr, b1⟩; obtain rfl : r = .returned (.string ⟨(M.pageText d.page).toArray⟩) := hr; go_simp; refine hK.out _ _ _ (fun _ h => h) ⟨next hHeld.1 b1, hHeld.2.below b1⟩ ?_; clear hHeld hK b1; intro hHeld; (try simp only [Act.put, List.setIfInBounds_toArray, List.set_cons_zero, List.set_cons_succ]))
    | (refine seqV_call (by simp only [List.getElem?_toArray, List.getElem?_cons_succ, List.getElem?_cons_zero]; first | done | rfl) (by rfl) (fun K hK => ?_); go_simp; go_at_call 42; refine (numberWord_any d.who hw0 (by omega) _).mono ?_; rintro r w2 ⟨hr, b1⟩; obtain rfl : r = .returned (.string ⟨(M.intText d.who).toArray⟩) := hr; go_simp; refine hK.out _ _ _ (fun _ h => h) ⟨next hHeld.1 b1, hHeld.2.below b1⟩ ?_; clear hHeld hK b1; intro hHeld; (try simp only [Act.put, List.setIfInBounds_toArray, List.set_cons_zero, List.set_cons_succ]))
    | (refine seqV_call (by simp only [List.getElem?_toArray, List.getElem?_cons_succ, List.getElem?_cons_zero]; first | done | rfl) (by rfl) (fun K hK => ?_); go_simp; refine hK.out (fun w' => Holds w' _ _ ∧ (Below w.heap.size w w' ∧ Holds w' w.heap.size (puC d))) _ _ (fun _ h => h.2) ⟨holds_new _ _ _, hHeld.1.alloc hHeld.1.size _, hHeld.2.alloc _⟩ ?_; clear hHeld hK; intro hHeld; (try simp only [Act.put, List.setIfInBounds_toArray, List.set_cons_zero, List.set_cons_succ])))
  refine seqV_end ?_
  go_wp2
  all_goals
    go_ret
    exact ⟨⟨_, rfl, hHeld.1⟩, hHeld.2.1⟩

set_option maxHeartbeats 2000000 in
theorem words_veil (b : Bool) (d : M.Dd) (w : World) (h : M.deedOk d = true) :
    Calls Tryz.prog 15 #[.iface 78 (veV b d)] w fun r w' => (∃ g, r = .returned (.slice (some ⟨g, 0, none⟩) 4 4) ∧ Holds w' g #[.string ⟨(veilT b).toArray⟩, .string d.name, .string ⟨(M.edText d.ed).toArray⟩, .string ⟨(M.intText d.who).toArray⟩]) ∧ Below w.heap.size w w' := by
  obtain ⟨hn, hp, he, hw0, hw1, hm0, hm1⟩ := deed_bounds h
  clear h
  have as_cl := as_ve_cl
  have as_pu := as_ve_pu
  have as_ve := as_ve_ve
  have b0 := (Below.refl w.heap.size w).alloc (Nat.le_refl _) (.cells (veC b d) 78)
  have h0 := holds_new w (veC b d) 78
  go_enter Tryz.func15, Tryz.ntmps15
  go_wp2_with fail
  clear as_cl as_pu as_ve
  refine wp_region_seqV (fun w' => Below w.heap.size w w' ∧ Holds w' w.heap.size (veC b d)) [(0, true), (1, true), (3, true), (4, true), (5, true), (6, true), (8, true), (9, true), (2, false), (7, false), (10, false), (11, false), (12, true)] (by kernel_rfl) (by kernel_rfl) (fun _ _ _ _ _ h => h) (by kernel_rfl) (by decide) ?_ ?_
  · exact ⟨b0.drew, h0⟩
  clear b0 h0
  intro hHeld
  repeat (first
    | (refine seqV_reads (by simp only [List.getElem?_toArray, List.getElem?_cons_succ, List.getElem?_cons_zero]; first | done | rfl) (by rfl) ?_; apply Exists.intro; apply And.intro; (focus (intro w hSw; (try dsimp only at hSw); (try (have hq := Holds.six hSw.2)); go_split_ands; go_simp; (try with_reducible rfl); done)); (try simp only [Act.put, List.setIfInBounds_toArray, List.set_cons_zero, List.set_cons_succ]))
    | (refine seqV_call (by simp only [List.getElem?_toArray, List.getElem?_cons_succ, List.getElem?_cons_zero]; first | done | rfl) (by rfl) (fun K hK => ?_); go_simp; go_at_call 45; refine (veilWord_any b _).mono ?_; rintro r w2 ⟨hr, b1⟩; obtain rfl : r = .returned (.string ⟨(veilT b).toArray⟩) := hr; go_simp; refine hK.out _ _ _ (fun _ h => h) ⟨next hHeld.1 b1, hHeld.2.below b1⟩ ?_; clear hHeld hK b1; intro hHeld; (try simp only [Act.put, List.setIfInBounds_toArray, List.set_cons_zero, List.set_cons_succ]))
    | (refine seqV_call (by simp only [List.getElem?_toArray, List.getElem?_cons_succ, List.getElem?_cons_zero]; first | done | rfl) (by rfl) (fun K hK => ?_); go_simp; go_at_call 43; refine (showEd_ok d.ed he _).mono ?_; rintro r w2 ⟨hr, b1⟩; obtain rfl : r = .returned (.string ⟨(M.edText d.ed).toArray⟩) := hr; go_simp; refine hK.out _ _ _ (fun _ h => h) ⟨next hHeld.1 b1, hHeld.2.below b1⟩ ?_; clear hHeld hK b1; intro hHeld; (try simp only [Act.put, List.setIfInBounds_toArray, List.set_cons_zero, List.set_cons_succ]))
    | (refine seqV_call (by simp only [List.getElem?_toArray, List.getElem?_cons_succ, List.getElem?_cons_zero]; first | done | rfl) (by rfl) (fun K hK => ?_); go_simp; go_at_call 42; refine (numberWord_any d.who hw0 (by omega) _).mono ?_; rintro r w2 ⟨hr, b1⟩; obtain rfl : r = .returned (.string ⟨(M.intText d.who).toArray⟩) := hr; go_simp; refine hK.out _ _ _ (fun _ h => h) ⟨next hHeld.1 b1, hHeld.2.below b1⟩ ?_; clear hHeld hK b1; intro hHeld; (try simp only [Act.put, List.setIfInBounds_toArray, List.set_cons_zero, List.set_cons_succ]))
    | (refine seqV_call (by simp only [List.getElem?_toArray, List.getElem?_cons_succ, List.getElem?_cons_zero]; first | done | rfl) (by rfl) (fun K hK => ?_); go_simp; refine hK.out (fun w' => Holds w' _ _ ∧ (Below w.heap.size w w' ∧ Holds w' w.heap.size (veC b d))) _ _ (fun _ h => h.2) ⟨holds_new _ _ _, hHeld.1.alloc hHeld.1.size _, hHeld.2.alloc _⟩ ?_; clear hHeld hK; intro hHeld; (try simp only [Act.put, List.setIfInBounds_toArray, List.set_cons_zero, List.set_cons_succ])))
  refine seqV_end ?_
  go_wp2
  all_goals
    go_ret
    exact ⟨⟨_, rfl, hHeld.1⟩, hHeld.2.1⟩

set_option maxHeartbeats 2000000 in
theorem words_fetch (d : M.Dd) (w : World) (h : M.deedOk d = true) :
    Calls Tryz.prog 15 #[.iface 81 (feV d)] w fun r w' => (∃ g, r = .returned (.slice (some ⟨g, 0, none⟩) 3 3) ∧ Holds w' g #[.string ⟨#[102, 101, 116, 99, 104]⟩, .string d.name, .string ⟨(M.edText d.ed).toArray⟩]) ∧ Below w.heap.size w w' := by
  obtain ⟨hn, hp, he, hw0, hw1, hm0, hm1⟩ := deed_bounds h
  clear h
  have as_cl := as_fe_cl
  have as_pu := as_fe_pu
  have as_ve := as_fe_ve
  have as_fe := as_fe_fe
  have b0 := (Below.refl w.heap.size w).alloc (Nat.le_refl _) (.cells (feC d) 81)
  have h0 := holds_new w (feC d) 81
  go_enter Tryz.func15, Tryz.ntmps15
  go_wp2_with fail
  clear as_cl as_pu as_ve as_fe
  refine wp_region_seqV (fun w' => Below w.heap.size w w' ∧ Holds w' w.heap.size (feC d)) [(0, true), (1, true), (2, true), (3, true), (4, false), (5, false), (6, true)] (by kernel_rfl) (by kernel_rfl) (fun _ _ _ _ _ h => h) (by kernel_rfl) (by decide) ?_ ?_
  · exact ⟨b0.drew, h0⟩
  clear b0 h0
  intro hHeld
  repeat (first
    | (refine seqV_reads (by simp only [List.getElem?_toArray, List.getElem?_cons_succ, List.getElem?_cons_zero]; first | done | rfl) (by rfl) ?_; apply Exists.intro; apply And.intro; (focus (intro w hSw; (try dsimp only at hSw); (try (have hq := Holds.four hSw.2)); go_split_ands; go_simp; (try with_reducible rfl); done)); (try simp only [Act.put, List.setIfInBounds_toArray, List.set_cons_zero, List.set_cons_succ]))
    | (refine seqV_call (by simp only [List.getElem?_toArray, List.getElem?_cons_succ, List.getElem?_cons_zero]; first | done | rfl) (by rfl) (fun K hK => ?_); go_simp; go_at_call 43; refine (showEd_ok d.ed he _).mono ?_; rintro r w2 ⟨hr, b1⟩; obtain rfl : r = .returned (.string ⟨(M.edText d.ed).toArray⟩) := hr; go_simp; refine hK.out _ _ _ (fun _ h => h) ⟨next hHeld.1 b1, hHeld.2.below b1⟩ ?_; clear hHeld hK b1; intro hHeld; (try simp only [Act.put, List.setIfInBounds_toArray, List.set_cons_zero, List.set_cons_succ]))
    | (refine seqV_call (by simp only [List.getElem?_toArray, List.getElem?_cons_succ, List.getElem?_cons_zero]; first | done | rfl) (by rfl) (fun K hK => ?_); go_simp; refine hK.out (fun w' => Holds w' _ _ ∧ (Below w.heap.size w w' ∧ Holds w' w.heap.size (feC d))) _ _ (fun _ h => h.2) ⟨holds_new _ _ _, hHeld.1.alloc hHeld.1.size _, hHeld.2.alloc _⟩ ?_; clear hHeld hK; intro hHeld; (try simp only [Act.put, List.setIfInBounds_toArray, List.set_cons_zero, List.set_cons_succ])))
  refine seqV_end ?_
  go_wp2
  all_goals
    go_ret
    exact ⟨⟨_, rfl, hHeld.1⟩, hHeld.2.1⟩

set_option maxHeartbeats 2000000 in
theorem words_give (d : M.Dd) (w : World) (h : M.deedOk d = true) :
    Calls Tryz.prog 15 #[.iface 83 (giV d)] w fun r w' => (∃ g, r = .returned (.slice (some ⟨g, 0, none⟩) 4 4) ∧ Holds w' g #[.string ⟨#[103, 105, 118, 101]⟩, .string d.name, .string ⟨(M.intText d.who).toArray⟩, .string ⟨(M.intText d.ed.ma).toArray⟩]) ∧ Below w.heap.size w w' := by
  obtain ⟨hn, hp, he, hw0, hw1, hm0, hm1⟩ := deed_bounds h
  clear h
  have as_cl := as_gi_cl
  have as_pu := as_gi_pu
  have as_ve := as_gi_ve
  have as_fe := as_gi_fe
  have as_gi := as_gi_gi
  have b0 := (Below.refl w.heap.size w).alloc (Nat.le_refl _) (.cells (giC d) 83)
  have h0 := holds_new w (giC d) 83
  go_enter Tryz.func15, Tryz.ntmps15
  go_wp2_with fail
  clear as_cl as_pu as_ve as_fe as_gi
  refine wp_region_seqV (fun w' => Below w.heap.size w w' ∧ Holds w' w.heap.size (giC d)) [(0, true), (1, true), (2, true), (3, true), (5, true), (6, true), (4, false), (7, false), (8, false), (9, true)] (by kernel_rfl) (by kernel_rfl) (fun _ _ _ _ _ h => h) (by kernel_rfl) (by decide) ?_ ?_
  · exact ⟨b0.drew, h0⟩
  clear b0 h0
  intro hHeld
  repeat (first
    | (refine seqV_reads (by simp only [List.getElem?_toArray, List.getElem?_cons_succ, List.getElem?_cons_zero]; first | done | rfl) (by rfl) ?_; apply Exists.intro; apply And.intro; (focus (intro w hSw; (try dsimp only at hSw); (try (have hq := Holds.three hSw.2)); go_split_ands; go_simp; (try with_reducible rfl); done)); (try simp only [Act.put, List.setIfInBounds_toArray, List.set_cons_zero, List.set_cons_succ]))
    | (refine seqV_call (by simp only [List.getElem?_toArray, List.getElem?_cons_succ, List.getElem?_cons_zero]; first | done | rfl) (by rfl) (fun K hK => ?_); go_simp; go_at_call 42; refine (numberWord_any d.who hw0 (by omega) _).mono ?_; rintro r w2 ⟨hr, b1⟩; obtain rfl : r = .returned (.string ⟨(M.intText d.who).toArray⟩) := hr; go_simp; refine hK.out _ _ _ (fun _ h => h) ⟨next hHeld.1 b1, hHeld.2.below b1⟩ ?_; clear hHeld hK b1; intro hHeld; (try simp only [Act.put, List.setIfInBounds_toArray, List.set_cons_zero, List.set_cons_succ]))
    | (refine seqV_call (by simp only [List.getElem?_toArray, List.getElem?_cons_succ, List.getElem?_cons_zero]; first | done | rfl) (by rfl) (fun K hK => ?_); go_simp; go_at_call 42; refine (numberWord_any d.ed.ma hm0 hm1 _).mono ?_; rintro r w2 ⟨hr, b1⟩; obtain rfl : r = .returned (.string ⟨(M.intText d.ed.ma).toArray⟩) := hr; go_simp; refine hK.out _ _ _ (fun _ h => h) ⟨next hHeld.1 b1, hHeld.2.below b1⟩ ?_; clear hHeld hK b1; intro hHeld; (try simp only [Act.put, List.setIfInBounds_toArray, List.set_cons_zero, List.set_cons_succ]))
    | (refine seqV_call (by simp only [List.getElem?_toArray, List.getElem?_cons_succ, List.getElem?_cons_zero]; first | done | rfl) (by rfl) (fun K hK => ?_); go_simp; refine hK.out (fun w' => Holds w' _ _ ∧ (Below w.heap.size w w' ∧ Holds w' w.heap.size (giC d))) _ _ (fun _ h => h.2) ⟨holds_new _ _ _, hHeld.1.alloc hHeld.1.size _, hHeld.2.alloc _⟩ ?_; clear hHeld hK; intro hHeld; (try simp only [Act.put, List.setIfInBounds_toArray, List.set_cons_zero, List.set_cons_succ])))
  refine seqV_end ?_
  go_wp2
  all_goals
    go_ret
    exact ⟨⟨_, rfl, hHeld.1⟩, hHeld.2.1⟩

theorem join_same (b : UInt8) : ∀ l : List (List UInt8), Lib.join l [b] = M.join b l
  | [] => rfl
  | [x] => by simp [Lib.join, List.intercalate, M.join]
  | x :: y :: r => by
    have ih := join_same b (y :: r)
    simp only [Lib.join, List.intercalate, M.join] at ih ⊢
    rw [← ih]; simp

/-- The words joined, out of the list that holds them. -/
theorem joinWords (bk n : Nat) (xs : List ByteArray) (C : Array Value) (l : List UInt8) (w : World) (h0 : Holds w bk C) (hC : ∀ (j : Nat) (x : ByteArray), xs[j]? = some x → C[j]? = some (Value.string x)) (hn : xs.length = n)
    (hl : M.join 32 (xs.map (·.data.toList)) = l) (hlen : l.length ≤ 1000) (hx : n ≤ 10) :
    Calls Tryz.prog 14 #[.slice (some ⟨bk, 0, none⟩) n n, .string ⟨#[32]⟩] w fun e w' => e = .returned (strOf l) ∧ Below w.heap.size w w' := by
  subst hn
  have hj : Lib.join (xs.map (·.data.toList)) (⟨#[32]⟩ : ByteArray).data.toList = l := (join_same 32 _).trans hl
  have h := Tryz.strings_Join bk 0 xs.length xs ⟨#[32]⟩ w (fun j x hx => by rw [Nat.zero_add]; exact h0.2 j _ (hC j x hx)) h0.1 (by omega) (Nat.le_refl _) (by rw [hj]; omega)
  rw [hj] at h
  exact h
theorem text_len {d : M.Dd} (h : M.deedOk d = true) : (M.deedText d).length ≤ 1000 := by
  obtain ⟨k, name, ed, page, who⟩ := d
  obtain ⟨hn, hp, he, hw0, hw1, hm0, hm1⟩ := deed_bounds h
  have lE := M.edText_len ed he
  have lW := M.intText_length who
  have lM := M.intText_length ed.ma
  have lP := pageText_len hp
  have lN : name.data.toList.length = name.size := M.len0 name
  unfold M.deedText M.deedWords
  (repeat' split) <;> simp [M.join, M.wClaim, M.wPut, M.wHide, M.wShow, M.wFetch, M.wGive] at * <;> omega
set_option maxHeartbeats 1000000 in
theorem implShow_claim (d : M.Dd) (w : World) (h : M.deedOk d = true) (hn : d.name.size ≤ maxLen) (hp : d.page.size ≤ maxLen) (hk : d.kind = 1) (hs : shV d = .iface 74 (clV d)) :
    Calls Tryz.prog 6 #[ddV d] w fun r w' => r = .returned (strOf (M.deedText d)) ∧ Below w.heap.size w w' := by
  have b0 := (Below.refl w.heap.size w).alloc (Nat.le_refl _) (.cells (ddC d) 27)
  have h0 := holds_new w (ddC d) 27
  have HL : Hid ((M.deedText d).length ≤ 1000) := Lib.hid (text_len h)
  have HT : Hid (M.join 32 ([⟨#[99, 108, 97, 105, 109]⟩, d.name, ⟨(M.intText d.who).toArray⟩].map (·.data.toList)) = M.deedText d) := Lib.hid (by simp [M.deedText, M.deedWords, hk, M.join, M.wClaim])
  have HH := Lib.hid h
  clear hk h
  go_enter Tryz.func6, Tryz.ntmps6
  go_wp2_with fail
  refine (implDeedOk d _ hn hp).mono ?_
  rintro r w1 ⟨hr, b1⟩
  rw [HH.out] at hr
  obtain rfl := hr
  replace h0 := h0.below b1
  replace b0 := next b0 b1
  obtain ⟨p0, p1, p2, p3, p4, p5, p6⟩ := h0.seven
  clear b1
  go_wp2_with fail
  refine (shapeOf_any d _).mono ?_
  rintro r w2 ⟨rfl, b1⟩
  rw [hs]
  replace b0 := next b0 b1
  clear b1 h0 p0 p1 p2 p3 p4 p5 p6
  go_wp2_with fail
  refine (words_claim d _ HH.out).mono ?_
  rintro r w3 ⟨⟨g, rfl, hg⟩, b1⟩
  replace b0 := next b0 b1
  clear b1
  go_wp2_with fail
  refine (joinWords g 3 [⟨#[99, 108, 97, 105, 109]⟩, d.name, ⟨(M.intText d.who).toArray⟩] _ (M.deedText d) _ hg ?_ rfl HT.out HL.out (by omega)).mono ?_
  · intro j x hx
    match j, hx with
    | 0, hx => exact congrArg (fun o => o.map Value.string) hx
    | 1, hx => exact congrArg (fun o => o.map Value.string) hx
    | 2, hx => exact congrArg (fun o => o.map Value.string) hx
    | j + 3, hx => simp at hx
  rintro r w4 ⟨rfl, b1⟩
  go_wp2
  go_ret
  exact ⟨rfl, next b0 b1⟩

set_option maxHeartbeats 1000000 in
theorem implShow_put (d : M.Dd) (w : World) (h : M.deedOk d = true) (hn : d.name.size ≤ maxLen) (hp : d.page.size ≤ maxLen) (hk : d.kind = 2) (hs : shV d = .iface 76 (puV d)) :
    Calls Tryz.prog 6 #[ddV d] w fun r w' => r = .returned (strOf (M.deedText d)) ∧ Below w.heap.size w w' := by
  have b0 := (Below.refl w.heap.size w).alloc (Nat.le_refl _) (.cells (ddC d) 27)
  have h0 := holds_new w (ddC d) 27
  have HL : Hid ((M.deedText d).length ≤ 1000) := Lib.hid (text_len h)
  have HT : Hid (M.join 32 ([⟨#[112, 117, 116]⟩, d.name, ⟨(M.edText d.ed).toArray⟩, ⟨(M.pageText d.page).toArray⟩, ⟨(M.intText d.who).toArray⟩].map (·.data.toList)) = M.deedText d) := Lib.hid (by simp [M.deedText, M.deedWords, hk, M.join, M.wPut])
  have HH := Lib.hid h
  clear hk h
  go_enter Tryz.func6, Tryz.ntmps6
  go_wp2_with fail
  refine (implDeedOk d _ hn hp).mono ?_
  rintro r w1 ⟨hr, b1⟩
  rw [HH.out] at hr
  obtain rfl := hr
  replace h0 := h0.below b1
  replace b0 := next b0 b1
  obtain ⟨p0, p1, p2, p3, p4, p5, p6⟩ := h0.seven
  clear b1
  go_wp2_with fail
  refine (shapeOf_any d _).mono ?_
  rintro r w2 ⟨rfl, b1⟩
  rw [hs]
  replace b0 := next b0 b1
  clear b1 h0 p0 p1 p2 p3 p4 p5 p6
  go_wp2_with fail
  refine (words_put d _ HH.out).mono ?_
  rintro r w3 ⟨⟨g, rfl, hg⟩, b1⟩
  replace b0 := next b0 b1
  clear b1
  go_wp2_with fail
  refine (joinWords g 5 [⟨#[112, 117, 116]⟩, d.name, ⟨(M.edText d.ed).toArray⟩, ⟨(M.pageText d.page).toArray⟩, ⟨(M.intText d.who).toArray⟩] _ (M.deedText d) _ hg ?_ rfl HT.out HL.out (by omega)).mono ?_
  · intro j x hx
    match j, hx with
    | 0, hx => exact congrArg (fun o => o.map Value.string) hx
    | 1, hx => exact congrArg (fun o => o.map Value.string) hx
    | 2, hx => exact congrArg (fun o => o.map Value.string) hx
    | 3, hx => exact congrArg (fun o => o.map Value.string) hx
    | 4, hx => exact congrArg (fun o => o.map Value.string) hx
    | j + 5, hx => simp at hx
  rintro r w4 ⟨rfl, b1⟩
  go_wp2
  go_ret
  exact ⟨rfl, next b0 b1⟩

set_option maxHeartbeats 1000000 in
theorem implShow_veil (b : Bool) (d : M.Dd) (w : World) (h : M.deedOk d = true) (hn : d.name.size ≤ maxLen) (hp : d.page.size ≤ maxLen) (hk : d.kind = if b then 3 else 4) (hs : shV d = .iface 78 (veV b d)) :
    Calls Tryz.prog 6 #[ddV d] w fun r w' => r = .returned (strOf (M.deedText d)) ∧ Below w.heap.size w w' := by
  have b0 := (Below.refl w.heap.size w).alloc (Nat.le_refl _) (.cells (ddC d) 27)
  have h0 := holds_new w (ddC d) 27
  have HL : Hid ((M.deedText d).length ≤ 1000) := Lib.hid (text_len h)
  have HT : Hid (M.join 32 ([⟨(veilT b).toArray⟩, d.name, ⟨(M.edText d.ed).toArray⟩, ⟨(M.intText d.who).toArray⟩].map (·.data.toList)) = M.deedText d) := Lib.hid (by cases b <;> simp [M.deedText, M.deedWords, hk, M.join, veilT])
  have HH := Lib.hid h
  clear hk h
  go_enter Tryz.func6, Tryz.ntmps6
  go_wp2_with fail
  refine (implDeedOk d _ hn hp).mono ?_
  rintro r w1 ⟨hr, b1⟩
  rw [HH.out] at hr
  obtain rfl := hr
  replace h0 := h0.below b1
  replace b0 := next b0 b1
  obtain ⟨p0, p1, p2, p3, p4, p5, p6⟩ := h0.seven
  clear b1
  go_wp2_with fail
  refine (shapeOf_any d _).mono ?_
  rintro r w2 ⟨rfl, b1⟩
  rw [hs]
  replace b0 := next b0 b1
  clear b1 h0 p0 p1 p2 p3 p4 p5 p6
  go_wp2_with fail
  refine (words_veil b d _ HH.out).mono ?_
  rintro r w3 ⟨⟨g, rfl, hg⟩, b1⟩
  replace b0 := next b0 b1
  clear b1
  go_wp2_with fail
  refine (joinWords g 4 [⟨(veilT b).toArray⟩, d.name, ⟨(M.edText d.ed).toArray⟩, ⟨(M.intText d.who).toArray⟩] _ (M.deedText d) _ hg ?_ rfl HT.out HL.out (by omega)).mono ?_
  · intro j x hx
    match j, hx with
    | 0, hx => exact congrArg (fun o => o.map Value.string) hx
    | 1, hx => exact congrArg (fun o => o.map Value.string) hx
    | 2, hx => exact congrArg (fun o => o.map Value.string) hx
    | 3, hx => exact congrArg (fun o => o.map Value.string) hx
    | j + 4, hx => simp at hx
  rintro r w4 ⟨rfl, b1⟩
  go_wp2
  go_ret
  exact ⟨rfl, next b0 b1⟩

set_option maxHeartbeats 1000000 in
theorem implShow_fetch (d : M.Dd) (w : World) (h : M.deedOk d = true) (hn : d.name.size ≤ maxLen) (hp : d.page.size ≤ maxLen) (hk : d.kind = 5) (hs : shV d = .iface 81 (feV d)) :
    Calls Tryz.prog 6 #[ddV d] w fun r w' => r = .returned (strOf (M.deedText d)) ∧ Below w.heap.size w w' := by
  have b0 := (Below.refl w.heap.size w).alloc (Nat.le_refl _) (.cells (ddC d) 27)
  have h0 := holds_new w (ddC d) 27
  have HL : Hid ((M.deedText d).length ≤ 1000) := Lib.hid (text_len h)
  have HT : Hid (M.join 32 ([⟨#[102, 101, 116, 99, 104]⟩, d.name, ⟨(M.edText d.ed).toArray⟩].map (·.data.toList)) = M.deedText d) := Lib.hid (by simp [M.deedText, M.deedWords, hk, M.join, M.wFetch])
  have HH := Lib.hid h
  clear hk h
  go_enter Tryz.func6, Tryz.ntmps6
  go_wp2_with fail
  refine (implDeedOk d _ hn hp).mono ?_
  rintro r w1 ⟨hr, b1⟩
  rw [HH.out] at hr
  obtain rfl := hr
  replace h0 := h0.below b1
  replace b0 := next b0 b1
  obtain ⟨p0, p1, p2, p3, p4, p5, p6⟩ := h0.seven
  clear b1
  go_wp2_with fail
  refine (shapeOf_any d _).mono ?_
  rintro r w2 ⟨rfl, b1⟩
  rw [hs]
  replace b0 := next b0 b1
  clear b1 h0 p0 p1 p2 p3 p4 p5 p6
  go_wp2_with fail
  refine (words_fetch d _ HH.out).mono ?_
  rintro r w3 ⟨⟨g, rfl, hg⟩, b1⟩
  replace b0 := next b0 b1
  clear b1
  go_wp2_with fail
  refine (joinWords g 3 [⟨#[102, 101, 116, 99, 104]⟩, d.name, ⟨(M.edText d.ed).toArray⟩] _ (M.deedText d) _ hg ?_ rfl HT.out HL.out (by omega)).mono ?_
  · intro j x hx
    match j, hx with
    | 0, hx => exact congrArg (fun o => o.map Value.string) hx
    | 1, hx => exact congrArg (fun o => o.map Value.string) hx
    | 2, hx => exact congrArg (fun o => o.map Value.string) hx
    | j + 3, hx => simp at hx
  rintro r w4 ⟨rfl, b1⟩
  go_wp2
  go_ret
  exact ⟨rfl, next b0 b1⟩

set_option maxHeartbeats 1000000 in
theorem implShow_give (d : M.Dd) (w : World) (h : M.deedOk d = true) (hn : d.name.size ≤ maxLen) (hp : d.page.size ≤ maxLen) (hk : d.kind = 6) (hs : shV d = .iface 83 (giV d)) :
    Calls Tryz.prog 6 #[ddV d] w fun r w' => r = .returned (strOf (M.deedText d)) ∧ Below w.heap.size w w' := by
  have b0 := (Below.refl w.heap.size w).alloc (Nat.le_refl _) (.cells (ddC d) 27)
  have h0 := holds_new w (ddC d) 27
  have HL : Hid ((M.deedText d).length ≤ 1000) := Lib.hid (text_len h)
  have HT : Hid (M.join 32 ([⟨#[103, 105, 118, 101]⟩, d.name, ⟨(M.intText d.who).toArray⟩, ⟨(M.intText d.ed.ma).toArray⟩].map (·.data.toList)) = M.deedText d) := Lib.hid (by simp [M.deedText, M.deedWords, hk, M.join, M.wGive])
  have HH := Lib.hid h
  clear hk h
  go_enter Tryz.func6, Tryz.ntmps6
  go_wp2_with fail
  refine (implDeedOk d _ hn hp).mono ?_
  rintro r w1 ⟨hr, b1⟩
  rw [HH.out] at hr
  obtain rfl := hr
  replace h0 := h0.below b1
  replace b0 := next b0 b1
  obtain ⟨p0, p1, p2, p3, p4, p5, p6⟩ := h0.seven
  clear b1
  go_wp2_with fail
  refine (shapeOf_any d _).mono ?_
  rintro r w2 ⟨rfl, b1⟩
  rw [hs]
  replace b0 := next b0 b1
  clear b1 h0 p0 p1 p2 p3 p4 p5 p6
  go_wp2_with fail
  refine (words_give d _ HH.out).mono ?_
  rintro r w3 ⟨⟨g, rfl, hg⟩, b1⟩
  replace b0 := next b0 b1
  clear b1
  go_wp2_with fail
  refine (joinWords g 4 [⟨#[103, 105, 118, 101]⟩, d.name, ⟨(M.intText d.who).toArray⟩, ⟨(M.intText d.ed.ma).toArray⟩] _ (M.deedText d) _ hg ?_ rfl HT.out HL.out (by omega)).mono ?_
  · intro j x hx
    match j, hx with
    | 0, hx => exact congrArg (fun o => o.map Value.string) hx
    | 1, hx => exact congrArg (fun o => o.map Value.string) hx
    | 2, hx => exact congrArg (fun o => o.map Value.string) hx
    | 3, hx => exact congrArg (fun o => o.map Value.string) hx
    | j + 4, hx => simp at hx
  rintro r w4 ⟨rfl, b1⟩
  go_wp2
  go_ret
  exact ⟨rfl, next b0 b1⟩

theorem implShowDeed (d : M.Dd) (w : World) (hn : d.name.size ≤ maxLen) (hp : d.page.size ≤ maxLen) :
    Calls Tryz.prog 6 #[ddV d] w fun r w' => r = .returned (strOf (M.deedShow d)) ∧ Below w.heap.size w w' := by
  rcases h : M.deedOk d with _ | _
  · have HE : Hid (M.deedShow d = []) := Lib.hid (by simp [M.deedShow, h])
    have HH := Lib.hid h
    clear h
    have b0 := (Below.refl w.heap.size w).alloc (Nat.le_refl _) (.cells (ddC d) 27)
    go_enter Tryz.func6, Tryz.ntmps6
    go_wp2_with fail
    refine (implDeedOk d _ hn hp).mono ?_
    rintro r w1 ⟨hr, b1⟩
    rw [HH.out] at hr
    obtain rfl := hr
    go_wp2
    go_ret
    exact ⟨ret_ba (by rw [HE.out]), next b0 b1⟩
  · have e : M.deedShow d = M.deedText d := by simp [M.deedShow, h]
    rw [e]
    rcases ((M.deedOk_iff d).1 h).2.2.2.2.2 with ⟨hk, -⟩ | hk | hk | hk | ⟨hk, -⟩ | ⟨hk, -⟩
    · exact implShow_claim d w h hn hp hk (by simp [shV, hk])
    · exact implShow_put d w h hn hp hk (by simp [shV, hk])
    · exact implShow_veil true d w h hn hp hk (by simp [shV, hk])
    · exact implShow_veil false d w h hn hp hk (by simp [shV, hk])
    · exact implShow_fetch d w h hn hp hk (by simp [shV, hk])
    · exact implShow_give d w h hn hp hk (by simp [shV, hk])
end Go.Proofs.YtiibklhalgookaaGreatDoor
