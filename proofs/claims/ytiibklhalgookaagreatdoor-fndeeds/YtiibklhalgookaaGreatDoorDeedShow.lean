/- Proved: the model's ShowDeed answers a plain Lean function at every deed; it writes nothing that was there. Condition: texts of at most maxLen bytes. -/
import Derived.Test.YtiibklhalgookaaGreatDoorDeedOkImpl
import Derived.Test.YtiibklhalgookaaGreatDoorDeedMath
import Derived.Test.YtiibklhalgookaaGreatDoorOrders2
namespace Go.Proofs.YtiibklhalgookaaGreatDoor
open Go.RowKit
set_option maxRecDepth 20000

abbrev wordsC : Array Value := #[.string ⟨#[99, 108, 97, 105, 109]⟩, .string ⟨#[112, 117, 116]⟩, .string ⟨#[104, 105, 100, 101]⟩, .string ⟨#[115, 104, 111, 119]⟩, .string ⟨#[102, 101, 116, 99, 104]⟩, .string ⟨#[103, 105, 118, 101]⟩]
theorem l3Words_at (w : World) : Calls Tryz.prog 26 #[] w fun r w' => r = .returned (.slice (some ⟨w.heap.size, 0, none⟩) 6 6) ∧ w' = w.alloc (.cells wordsC 9) := by
  go_enter Tryz.func26, Tryz.ntmps26
  go_wp2
  go_ret
  exact ⟨rfl, rfl⟩
theorem l3Page_any (p : ByteArray) (w : World) : Calls Tryz.prog 31 #[.string p] w fun r w' => r = .returned (strOf (M.pageText p)) ∧ w = w' := by
  by_cases h : p.size = 0
  · have h' := no_text h
    have HE : Hid (M.pageText p = [45]) := Lib.hid (by simp [M.pageText, h])
    clear h
    go_enter Tryz.func31, Tryz.ntmps31
    go_wp2
    go_ret
    exact ⟨ret_ba (by rw [HE.out]), rfl⟩
  · have h' := some_text h
    have HE : Hid (M.pageText p = p.data.toList) := Lib.hid (by simp [M.pageText, h])
    clear h
    go_enter Tryz.func31, Tryz.ntmps31
    go_wp2
    go_ret
    exact ⟨ret_ba (by rw [HE.out]), rfl⟩
theorem l1Int_any (x : Int) (h0 : 0 ≤ x) (h1 : x ≤ 99) (w : World) : Calls Tryz.prog 32 #[.int .i64 x] w fun r w' => r = .returned (strOf (M.intText x)) ∧ Below w.heap.size w w' := by
  obtain ⟨n, rfl⟩ := Int.eq_ofNat_of_zero_le h0
  have e : M.intText (n : Int) = M.digs n := by unfold M.intText; rw [if_neg (by omega)]; rfl
  rw [e]
  exact l1Int_pos n (by omega) w

theorem deed_bounds {k : Int} {name : ByteArray} {ed : M.Ed} {page : ByteArray} {who : Int} (h : M.deedOk ⟨k, name, ed, page, who⟩ = true) :
    name.size ≤ 8 ∧ page.size ≤ 12 ∧ M.edOk ed = true ∧ 0 ≤ who ∧ who ≤ 3 ∧ 0 ≤ ed.ma ∧ ed.ma ≤ 99 := by
  obtain ⟨h1, h2, h3, ⟨h4, h5⟩, -⟩ := (M.deedOk_iff _).1 h
  simp only [M.nameOk, Bool.and_eq_true, decide_eq_true_eq, M.len0] at h1
  simp only [M.pageOk, Bool.and_eq_true, decide_eq_true_eq, M.len0] at h3
  have h6 := ((M.edOk_iff _).1 h2).1
  exact ⟨h1.1, h3.1, h2, h4, h5, h6.1, h6.2⟩
theorem pageText_len {p : ByteArray} (h : p.size ≤ 12) : (M.pageText p).length ≤ 12 := by
  unfold M.pageText; split
  · simp
  · rw [M.len0]; exact h

set_option maxHeartbeats 2000000 in
theorem specShow_claim (name : ByteArray) (ed : M.Ed) (page : ByteArray) (who : Int) (w : World) (h : M.deedOk ⟨1, name, ed, page, who⟩ = true) :
    Calls Tryz.prog 10 #[ddV ⟨1, name, ed, page, who⟩] w fun r w' => r = .returned (strOf (M.deedText ⟨1, name, ed, page, who⟩)) ∧ Below w.heap.size w w' := by
  obtain ⟨hn, hp, he, hw0, hw1, hm0, hm1⟩ := deed_bounds h
  have lE := M.edText_len ed he
  have lW := M.intText_length who
  have lM := M.intText_length ed.ma
  have lP := pageText_len hp
  have b0 := (Below.refl w.heap.size w).alloc (Nat.le_refl _) (.cells (ddC ⟨1, name, ed, page, who⟩) 27)
  have h0 := holds_new w (ddC ⟨1, name, ed, page, who⟩) 27
  obtain ⟨A1, z1, e1, s1⟩ := cat_ex Tryz.prog ⟨#[99, 108, 97, 105, 109]⟩ ⟨#[32]⟩ (by decide)
  have z1' : A1.size = 6 := z1
  obtain ⟨A2, z2, e2, s2⟩ := cat_ex Tryz.prog A1 name (by omega)
  obtain ⟨A3, z3, e3, s3⟩ := cat_ex Tryz.prog A2 ⟨#[32]⟩ (by show _ + 1 ≤ _; omega)
  have z3' : A3.size = A2.size + 1 := z3
  obtain ⟨A4, z4, e4, s4⟩ := cat_ex Tryz.prog A3 ⟨(M.intText who).toArray⟩ (by show _ + (M.intText who).length ≤ _; omega)
  have z4' : A4.size = A3.size + (M.intText who).length := z4
  have HA : Hid (A4.data.toList = M.deedText ⟨1, name, ed, page, who⟩) := Lib.hid (by rw [e4, e3, e2, e1]; simp [M.deedText, M.deedWords, M.join, M.wClaim])
  have HH := Lib.hid h
  clear h lE lW lM lP z1 z1' z2 e1 e2 z3 z3' e3 z4 z4' e4
  go_enter Tryz.func10, Tryz.ntmps10
  go_wp2_with fail
  refine (specDeedOk ⟨1, name, ed, page, who⟩ _ (by unfold maxLen; show name.size ≤ _; omega) (by unfold maxLen; show page.size ≤ _; omega)).mono ?_
  rintro r w1 ⟨hr, b1⟩
  rw [HH.out] at hr
  obtain rfl := hr
  replace h0 := h0.below b1
  replace b0 := next b0 b1
  clear b1
  go_wp2_with fail
  refine wp_region_seqV (fun w' => Below w.heap.size w w' ∧ Holds w' w.heap.size (ddC ⟨1, name, ed, page, who⟩)) [(1, true), (2, true), (3, true), (7, true), (8, true), (0, false), (4, true), (5, true), (6, true), (9, true), (10, true)] (by kernel_rfl) (by kernel_rfl) (fun _ _ _ _ _ h => h) (by kernel_rfl) (by decide) ?_ ?_
  · exact ⟨b0.drew, h0⟩
  clear b0 h0
  have hwr : IntKind.i64.wrap 0 = 0 := by decide
  intro hHeld
  repeat (first
    | (refine seqV_reads (by simp only [List.getElem?_toArray, List.getElem?_cons_succ, List.getElem?_cons_zero]; first | done | rfl) (by rfl) ?_; apply Exists.intro; apply And.intro; (focus (intro w hSw; (try dsimp only at hSw); (try (have hq := Holds.seven hSw.2)); (try (have hq := Holds.seven hSw.2.2)); go_split_ands; go_simp; (try with_reducible rfl); done)); (try simp only [Act.put, List.setIfInBounds_toArray, List.set_cons_zero, List.set_cons_succ]))
    | (refine seqV_call (by simp only [List.getElem?_toArray, List.getElem?_cons_zero]; first | done | rfl) (by rfl) (fun K hK => ?_); go_simp; go_at_call 26; refine (l3Words_at _).mono ?_; rintro r w2 ⟨rfl, rfl⟩; go_simp; refine hK.out (fun w' => w'.cell? ⟨w1.heap.size, 0, none⟩ = some (.string ⟨#[99, 108, 97, 105, 109]⟩) ∧ (Below w.heap.size w w' ∧ Holds w' w.heap.size (ddC ⟨1, name, ed, page, who⟩))) _ _ (fun _ h => h.2) ⟨by simp [go_sem], hHeld.1.alloc hHeld.1.size _, hHeld.2.alloc _⟩ ?_; clear hHeld hK; intro hHeld; (try simp only [Act.put, List.setIfInBounds_toArray, List.set_cons_zero, List.set_cons_succ])))
  refine seqV_end ?_
  obtain ⟨-, b0, h0⟩ := hHeld
  clear hwr
  obtain ⟨p0, p1, p2, p3, p4, p5, p6⟩ := h0.seven
  go_wp2_with fail
  refine (l1Int_any who hw0 (by omega) _).mono ?_
  rintro r w3 ⟨hr, b1⟩
  obtain rfl : r = .returned (.string ⟨(M.intText who).toArray⟩) := hr
  replace h0 := h0.below b1
  replace b0 := next b0 b1
  clear p0 p1 p2 p3 p4 p5 p6 b1
  obtain ⟨p0, p1, p2, p3, p4, p5, p6⟩ := h0.seven
  go_wp2
  go_ret
  exact ⟨ret_ba (by rw [HA.out]), b0⟩

set_option maxHeartbeats 2000000 in
theorem specShow_put (name : ByteArray) (ed : M.Ed) (page : ByteArray) (who : Int) (w : World) (h : M.deedOk ⟨2, name, ed, page, who⟩ = true) :
    Calls Tryz.prog 10 #[ddV ⟨2, name, ed, page, who⟩] w fun r w' => r = .returned (strOf (M.deedText ⟨2, name, ed, page, who⟩)) ∧ Below w.heap.size w w' := by
  obtain ⟨hn, hp, he, hw0, hw1, hm0, hm1⟩ := deed_bounds h
  have lE := M.edText_len ed he
  have lW := M.intText_length who
  have lM := M.intText_length ed.ma
  have lP := pageText_len hp
  have b0 := (Below.refl w.heap.size w).alloc (Nat.le_refl _) (.cells (ddC ⟨2, name, ed, page, who⟩) 27)
  have h0 := holds_new w (ddC ⟨2, name, ed, page, who⟩) 27
  obtain ⟨A1, z1, e1, s1⟩ := cat_ex Tryz.prog ⟨#[112, 117, 116]⟩ ⟨#[32]⟩ (by decide)
  have z1' : A1.size = 4 := z1
  obtain ⟨A2, z2, e2, s2⟩ := cat_ex Tryz.prog A1 name (by omega)
  obtain ⟨A3, z3, e3, s3⟩ := cat_ex Tryz.prog A2 ⟨#[32]⟩ (by show _ + 1 ≤ _; omega)
  have z3' : A3.size = A2.size + 1 := z3
  obtain ⟨A4, z4, e4, s4⟩ := cat_ex Tryz.prog A3 ⟨(M.edText ed).toArray⟩ (by show _ + (M.edText ed).length ≤ _; omega)
  have z4' : A4.size = A3.size + (M.edText ed).length := z4
  obtain ⟨A5, z5, e5, s5⟩ := cat_ex Tryz.prog A4 ⟨#[32]⟩ (by show _ + 1 ≤ _; omega)
  have z5' : A5.size = A4.size + 1 := z5
  obtain ⟨A6, z6, e6, s6⟩ := cat_ex Tryz.prog A5 ⟨(M.pageText page).toArray⟩ (by show _ + (M.pageText page).length ≤ _; omega)
  have z6' : A6.size = A5.size + (M.pageText page).length := z6
  obtain ⟨A7, z7, e7, s7⟩ := cat_ex Tryz.prog A6 ⟨#[32]⟩ (by show _ + 1 ≤ _; omega)
  have z7' : A7.size = A6.size + 1 := z7
  obtain ⟨A8, z8, e8, s8⟩ := cat_ex Tryz.prog A7 ⟨(M.intText who).toArray⟩ (by show _ + (M.intText who).length ≤ _; omega)
  have z8' : A8.size = A7.size + (M.intText who).length := z8
  have HA : Hid (A8.data.toList = M.deedText ⟨2, name, ed, page, who⟩) := Lib.hid (by rw [e8, e7, e6, e5, e4, e3, e2, e1]; simp [M.deedText, M.deedWords, M.join, M.wPut])
  have HH := Lib.hid h
  clear h lE lW lM lP z1 z1' z2 e1 e2 z3 z3' e3 z4 z4' e4 z5 z5' e5 z6 z6' e6 z7 z7' e7 z8 z8' e8
  go_enter Tryz.func10, Tryz.ntmps10
  go_wp2_with fail
  refine (specDeedOk ⟨2, name, ed, page, who⟩ _ (by unfold maxLen; show name.size ≤ _; omega) (by unfold maxLen; show page.size ≤ _; omega)).mono ?_
  rintro r w1 ⟨hr, b1⟩
  rw [HH.out] at hr
  obtain rfl := hr
  replace h0 := h0.below b1
  replace b0 := next b0 b1
  clear b1
  go_wp2_with fail
  refine wp_region_seqV (fun w' => Below w.heap.size w w' ∧ Holds w' w.heap.size (ddC ⟨2, name, ed, page, who⟩)) [(1, true), (2, true), (3, true), (7, true), (8, true), (0, false), (4, true), (5, true), (6, true), (9, true), (10, true)] (by kernel_rfl) (by kernel_rfl) (fun _ _ _ _ _ h => h) (by kernel_rfl) (by decide) ?_ ?_
  · exact ⟨b0.drew, h0⟩
  clear b0 h0
  have hwr : IntKind.i64.wrap 1 = 1 := by decide
  intro hHeld
  repeat (first
    | (refine seqV_reads (by simp only [List.getElem?_toArray, List.getElem?_cons_succ, List.getElem?_cons_zero]; first | done | rfl) (by rfl) ?_; apply Exists.intro; apply And.intro; (focus (intro w hSw; (try dsimp only at hSw); (try (have hq := Holds.seven hSw.2)); (try (have hq := Holds.seven hSw.2.2)); go_split_ands; go_simp; (try with_reducible rfl); done)); (try simp only [Act.put, List.setIfInBounds_toArray, List.set_cons_zero, List.set_cons_succ]))
    | (refine seqV_call (by simp only [List.getElem?_toArray, List.getElem?_cons_zero]; first | done | rfl) (by rfl) (fun K hK => ?_); go_simp; go_at_call 26; refine (l3Words_at _).mono ?_; rintro r w2 ⟨rfl, rfl⟩; go_simp; refine hK.out (fun w' => w'.cell? ⟨w1.heap.size, 1, none⟩ = some (.string ⟨#[112, 117, 116]⟩) ∧ (Below w.heap.size w w' ∧ Holds w' w.heap.size (ddC ⟨2, name, ed, page, who⟩))) _ _ (fun _ h => h.2) ⟨by simp [go_sem], hHeld.1.alloc hHeld.1.size _, hHeld.2.alloc _⟩ ?_; clear hHeld hK; intro hHeld; (try simp only [Act.put, List.setIfInBounds_toArray, List.set_cons_zero, List.set_cons_succ])))
  refine seqV_end ?_
  obtain ⟨-, b0, h0⟩ := hHeld
  clear hwr
  obtain ⟨p0, p1, p2, p3, p4, p5, p6⟩ := h0.seven
  go_wp2_with fail
  refine (l2Show_any ed _ he).mono ?_
  rintro r w3 ⟨hr, b1⟩
  obtain rfl : r = .returned (.string ⟨(M.edText ed).toArray⟩) := hr
  replace h0 := h0.below b1
  replace b0 := next b0 b1
  clear p0 p1 p2 p3 p4 p5 p6 b1
  obtain ⟨p0, p1, p2, p3, p4, p5, p6⟩ := h0.seven
  go_wp2_with fail
  refine (l3Page_any page _).mono ?_
  rintro r w4 ⟨hr, rfl⟩
  obtain rfl : r = .returned (.string ⟨(M.pageText page).toArray⟩) := hr
  go_wp2_with fail
  refine (l1Int_any who hw0 (by omega) _).mono ?_
  rintro r w5 ⟨hr, b1⟩
  obtain rfl : r = .returned (.string ⟨(M.intText who).toArray⟩) := hr
  replace h0 := h0.below b1
  replace b0 := next b0 b1
  clear p0 p1 p2 p3 p4 p5 p6 b1
  obtain ⟨p0, p1, p2, p3, p4, p5, p6⟩ := h0.seven
  go_wp2
  go_ret
  exact ⟨ret_ba (by rw [HA.out]), b0⟩

set_option maxHeartbeats 2000000 in
theorem specShow_hide (name : ByteArray) (ed : M.Ed) (page : ByteArray) (who : Int) (w : World) (h : M.deedOk ⟨3, name, ed, page, who⟩ = true) :
    Calls Tryz.prog 10 #[ddV ⟨3, name, ed, page, who⟩] w fun r w' => r = .returned (strOf (M.deedText ⟨3, name, ed, page, who⟩)) ∧ Below w.heap.size w w' := by
  obtain ⟨hn, hp, he, hw0, hw1, hm0, hm1⟩ := deed_bounds h
  have lE := M.edText_len ed he
  have lW := M.intText_length who
  have lM := M.intText_length ed.ma
  have lP := pageText_len hp
  have b0 := (Below.refl w.heap.size w).alloc (Nat.le_refl _) (.cells (ddC ⟨3, name, ed, page, who⟩) 27)
  have h0 := holds_new w (ddC ⟨3, name, ed, page, who⟩) 27
  obtain ⟨A1, z1, e1, s1⟩ := cat_ex Tryz.prog ⟨#[104, 105, 100, 101]⟩ ⟨#[32]⟩ (by decide)
  have z1' : A1.size = 5 := z1
  obtain ⟨A2, z2, e2, s2⟩ := cat_ex Tryz.prog A1 name (by omega)
  obtain ⟨A3, z3, e3, s3⟩ := cat_ex Tryz.prog A2 ⟨#[32]⟩ (by show _ + 1 ≤ _; omega)
  have z3' : A3.size = A2.size + 1 := z3
  obtain ⟨A4, z4, e4, s4⟩ := cat_ex Tryz.prog A3 ⟨(M.edText ed).toArray⟩ (by show _ + (M.edText ed).length ≤ _; omega)
  have z4' : A4.size = A3.size + (M.edText ed).length := z4
  obtain ⟨A5, z5, e5, s5⟩ := cat_ex Tryz.prog A4 ⟨#[32]⟩ (by show _ + 1 ≤ _; omega)
  have z5' : A5.size = A4.size + 1 := z5
  obtain ⟨A6, z6, e6, s6⟩ := cat_ex Tryz.prog A5 ⟨(M.intText who).toArray⟩ (by show _ + (M.intText who).length ≤ _; omega)
  have z6' : A6.size = A5.size + (M.intText who).length := z6
  have HA : Hid (A6.data.toList = M.deedText ⟨3, name, ed, page, who⟩) := Lib.hid (by rw [e6, e5, e4, e3, e2, e1]; simp [M.deedText, M.deedWords, M.join, M.wHide])
  have HH := Lib.hid h
  clear h lE lW lM lP z1 z1' z2 e1 e2 z3 z3' e3 z4 z4' e4 z5 z5' e5 z6 z6' e6
  go_enter Tryz.func10, Tryz.ntmps10
  go_wp2_with fail
  refine (specDeedOk ⟨3, name, ed, page, who⟩ _ (by unfold maxLen; show name.size ≤ _; omega) (by unfold maxLen; show page.size ≤ _; omega)).mono ?_
  rintro r w1 ⟨hr, b1⟩
  rw [HH.out] at hr
  obtain rfl := hr
  replace h0 := h0.below b1
  replace b0 := next b0 b1
  clear b1
  go_wp2_with fail
  refine wp_region_seqV (fun w' => Below w.heap.size w w' ∧ Holds w' w.heap.size (ddC ⟨3, name, ed, page, who⟩)) [(1, true), (2, true), (3, true), (7, true), (8, true), (0, false), (4, true), (5, true), (6, true), (9, true), (10, true)] (by kernel_rfl) (by kernel_rfl) (fun _ _ _ _ _ h => h) (by kernel_rfl) (by decide) ?_ ?_
  · exact ⟨b0.drew, h0⟩
  clear b0 h0
  have hwr : IntKind.i64.wrap 2 = 2 := by decide
  intro hHeld
  repeat (first
    | (refine seqV_reads (by simp only [List.getElem?_toArray, List.getElem?_cons_succ, List.getElem?_cons_zero]; first | done | rfl) (by rfl) ?_; apply Exists.intro; apply And.intro; (focus (intro w hSw; (try dsimp only at hSw); (try (have hq := Holds.seven hSw.2)); (try (have hq := Holds.seven hSw.2.2)); go_split_ands; go_simp; (try with_reducible rfl); done)); (try simp only [Act.put, List.setIfInBounds_toArray, List.set_cons_zero, List.set_cons_succ]))
    | (refine seqV_call (by simp only [List.getElem?_toArray, List.getElem?_cons_zero]; first | done | rfl) (by rfl) (fun K hK => ?_); go_simp; go_at_call 26; refine (l3Words_at _).mono ?_; rintro r w2 ⟨rfl, rfl⟩; go_simp; refine hK.out (fun w' => w'.cell? ⟨w1.heap.size, 2, none⟩ = some (.string ⟨#[104, 105, 100, 101]⟩) ∧ (Below w.heap.size w w' ∧ Holds w' w.heap.size (ddC ⟨3, name, ed, page, who⟩))) _ _ (fun _ h => h.2) ⟨by simp [go_sem], hHeld.1.alloc hHeld.1.size _, hHeld.2.alloc _⟩ ?_; clear hHeld hK; intro hHeld; (try simp only [Act.put, List.setIfInBounds_toArray, List.set_cons_zero, List.set_cons_succ])))
  refine seqV_end ?_
  obtain ⟨-, b0, h0⟩ := hHeld
  clear hwr
  obtain ⟨p0, p1, p2, p3, p4, p5, p6⟩ := h0.seven
  go_wp2_with fail
  refine (l2Show_any ed _ he).mono ?_
  rintro r w3 ⟨hr, b1⟩
  obtain rfl : r = .returned (.string ⟨(M.edText ed).toArray⟩) := hr
  replace h0 := h0.below b1
  replace b0 := next b0 b1
  clear p0 p1 p2 p3 p4 p5 p6 b1
  obtain ⟨p0, p1, p2, p3, p4, p5, p6⟩ := h0.seven
  go_wp2_with fail
  refine (l1Int_any who hw0 (by omega) _).mono ?_
  rintro r w4 ⟨hr, b1⟩
  obtain rfl : r = .returned (.string ⟨(M.intText who).toArray⟩) := hr
  replace h0 := h0.below b1
  replace b0 := next b0 b1
  clear p0 p1 p2 p3 p4 p5 p6 b1
  obtain ⟨p0, p1, p2, p3, p4, p5, p6⟩ := h0.seven
  go_wp2
  go_ret
  exact ⟨ret_ba (by rw [HA.out]), b0⟩

set_option maxHeartbeats 2000000 in
theorem specShow_show (name : ByteArray) (ed : M.Ed) (page : ByteArray) (who : Int) (w : World) (h : M.deedOk ⟨4, name, ed, page, who⟩ = true) :
    Calls Tryz.prog 10 #[ddV ⟨4, name, ed, page, who⟩] w fun r w' => r = .returned (strOf (M.deedText ⟨4, name, ed, page, who⟩)) ∧ Below w.heap.size w w' := by
  obtain ⟨hn, hp, he, hw0, hw1, hm0, hm1⟩ := deed_bounds h
  have lE := M.edText_len ed he
  have lW := M.intText_length who
  have lM := M.intText_length ed.ma
  have lP := pageText_len hp
  have b0 := (Below.refl w.heap.size w).alloc (Nat.le_refl _) (.cells (ddC ⟨4, name, ed, page, who⟩) 27)
  have h0 := holds_new w (ddC ⟨4, name, ed, page, who⟩) 27
  obtain ⟨A1, z1, e1, s1⟩ := cat_ex Tryz.prog ⟨#[115, 104, 111, 119]⟩ ⟨#[32]⟩ (by decide)
  have z1' : A1.size = 5 := z1
  obtain ⟨A2, z2, e2, s2⟩ := cat_ex Tryz.prog A1 name (by omega)
  obtain ⟨A3, z3, e3, s3⟩ := cat_ex Tryz.prog A2 ⟨#[32]⟩ (by show _ + 1 ≤ _; omega)
  have z3' : A3.size = A2.size + 1 := z3
  obtain ⟨A4, z4, e4, s4⟩ := cat_ex Tryz.prog A3 ⟨(M.edText ed).toArray⟩ (by show _ + (M.edText ed).length ≤ _; omega)
  have z4' : A4.size = A3.size + (M.edText ed).length := z4
  obtain ⟨A5, z5, e5, s5⟩ := cat_ex Tryz.prog A4 ⟨#[32]⟩ (by show _ + 1 ≤ _; omega)
  have z5' : A5.size = A4.size + 1 := z5
  obtain ⟨A6, z6, e6, s6⟩ := cat_ex Tryz.prog A5 ⟨(M.intText who).toArray⟩ (by show _ + (M.intText who).length ≤ _; omega)
  have z6' : A6.size = A5.size + (M.intText who).length := z6
  have HA : Hid (A6.data.toList = M.deedText ⟨4, name, ed, page, who⟩) := Lib.hid (by rw [e6, e5, e4, e3, e2, e1]; simp [M.deedText, M.deedWords, M.join, M.wShow])
  have HH := Lib.hid h
  clear h lE lW lM lP z1 z1' z2 e1 e2 z3 z3' e3 z4 z4' e4 z5 z5' e5 z6 z6' e6
  go_enter Tryz.func10, Tryz.ntmps10
  go_wp2_with fail
  refine (specDeedOk ⟨4, name, ed, page, who⟩ _ (by unfold maxLen; show name.size ≤ _; omega) (by unfold maxLen; show page.size ≤ _; omega)).mono ?_
  rintro r w1 ⟨hr, b1⟩
  rw [HH.out] at hr
  obtain rfl := hr
  replace h0 := h0.below b1
  replace b0 := next b0 b1
  clear b1
  go_wp2_with fail
  refine wp_region_seqV (fun w' => Below w.heap.size w w' ∧ Holds w' w.heap.size (ddC ⟨4, name, ed, page, who⟩)) [(1, true), (2, true), (3, true), (7, true), (8, true), (0, false), (4, true), (5, true), (6, true), (9, true), (10, true)] (by kernel_rfl) (by kernel_rfl) (fun _ _ _ _ _ h => h) (by kernel_rfl) (by decide) ?_ ?_
  · exact ⟨b0.drew, h0⟩
  clear b0 h0
  have hwr : IntKind.i64.wrap 3 = 3 := by decide
  intro hHeld
  repeat (first
    | (refine seqV_reads (by simp only [List.getElem?_toArray, List.getElem?_cons_succ, List.getElem?_cons_zero]; first | done | rfl) (by rfl) ?_; apply Exists.intro; apply And.intro; (focus (intro w hSw; (try dsimp only at hSw); (try (have hq := Holds.seven hSw.2)); (try (have hq := Holds.seven hSw.2.2)); go_split_ands; go_simp; (try with_reducible rfl); done)); (try simp only [Act.put, List.setIfInBounds_toArray, List.set_cons_zero, List.set_cons_succ]))
    | (refine seqV_call (by simp only [List.getElem?_toArray, List.getElem?_cons_zero]; first | done | rfl) (by rfl) (fun K hK => ?_); go_simp; go_at_call 26; refine (l3Words_at _).mono ?_; rintro r w2 ⟨rfl, rfl⟩; go_simp; refine hK.out (fun w' => w'.cell? ⟨w1.heap.size, 3, none⟩ = some (.string ⟨#[115, 104, 111, 119]⟩) ∧ (Below w.heap.size w w' ∧ Holds w' w.heap.size (ddC ⟨4, name, ed, page, who⟩))) _ _ (fun _ h => h.2) ⟨by simp [go_sem], hHeld.1.alloc hHeld.1.size _, hHeld.2.alloc _⟩ ?_; clear hHeld hK; intro hHeld; (try simp only [Act.put, List.setIfInBounds_toArray, List.set_cons_zero, List.set_cons_succ])))
  refine seqV_end ?_
  obtain ⟨-, b0, h0⟩ := hHeld
  clear hwr
  obtain ⟨p0, p1, p2, p3, p4, p5, p6⟩ := h0.seven
  go_wp2_with fail
  refine (l2Show_any ed _ he).mono ?_
  rintro r w3 ⟨hr, b1⟩
  obtain rfl : r = .returned (.string ⟨(M.edText ed).toArray⟩) := hr
  replace h0 := h0.below b1
  replace b0 := next b0 b1
  clear p0 p1 p2 p3 p4 p5 p6 b1
  obtain ⟨p0, p1, p2, p3, p4, p5, p6⟩ := h0.seven
  go_wp2_with fail
  refine (l1Int_any who hw0 (by omega) _).mono ?_
  rintro r w4 ⟨hr, b1⟩
  obtain rfl : r = .returned (.string ⟨(M.intText who).toArray⟩) := hr
  replace h0 := h0.below b1
  replace b0 := next b0 b1
  clear p0 p1 p2 p3 p4 p5 p6 b1
  obtain ⟨p0, p1, p2, p3, p4, p5, p6⟩ := h0.seven
  go_wp2
  go_ret
  exact ⟨ret_ba (by rw [HA.out]), b0⟩

set_option maxHeartbeats 2000000 in
theorem specShow_fetch (name : ByteArray) (ed : M.Ed) (page : ByteArray) (who : Int) (w : World) (h : M.deedOk ⟨5, name, ed, page, who⟩ = true) :
    Calls Tryz.prog 10 #[ddV ⟨5, name, ed, page, who⟩] w fun r w' => r = .returned (strOf (M.deedText ⟨5, name, ed, page, who⟩)) ∧ Below w.heap.size w w' := by
  obtain ⟨hn, hp, he, hw0, hw1, hm0, hm1⟩ := deed_bounds h
  have lE := M.edText_len ed he
  have lW := M.intText_length who
  have lM := M.intText_length ed.ma
  have lP := pageText_len hp
  have b0 := (Below.refl w.heap.size w).alloc (Nat.le_refl _) (.cells (ddC ⟨5, name, ed, page, who⟩) 27)
  have h0 := holds_new w (ddC ⟨5, name, ed, page, who⟩) 27
  obtain ⟨A1, z1, e1, s1⟩ := cat_ex Tryz.prog ⟨#[102, 101, 116, 99, 104]⟩ ⟨#[32]⟩ (by decide)
  have z1' : A1.size = 6 := z1
  obtain ⟨A2, z2, e2, s2⟩ := cat_ex Tryz.prog A1 name (by omega)
  obtain ⟨A3, z3, e3, s3⟩ := cat_ex Tryz.prog A2 ⟨#[32]⟩ (by show _ + 1 ≤ _; omega)
  have z3' : A3.size = A2.size + 1 := z3
  obtain ⟨A4, z4, e4, s4⟩ := cat_ex Tryz.prog A3 ⟨(M.edText ed).toArray⟩ (by show _ + (M.edText ed).length ≤ _; omega)
  have z4' : A4.size = A3.size + (M.edText ed).length := z4
  have HA : Hid (A4.data.toList = M.deedText ⟨5, name, ed, page, who⟩) := Lib.hid (by rw [e4, e3, e2, e1]; simp [M.deedText, M.deedWords, M.join, M.wFetch])
  have HH := Lib.hid h
  clear h lE lW lM lP z1 z1' z2 e1 e2 z3 z3' e3 z4 z4' e4
  go_enter Tryz.func10, Tryz.ntmps10
  go_wp2_with fail
  refine (specDeedOk ⟨5, name, ed, page, who⟩ _ (by unfold maxLen; show name.size ≤ _; omega) (by unfold maxLen; show page.size ≤ _; omega)).mono ?_
  rintro r w1 ⟨hr, b1⟩
  rw [HH.out] at hr
  obtain rfl := hr
  replace h0 := h0.below b1
  replace b0 := next b0 b1
  clear b1
  go_wp2_with fail
  refine wp_region_seqV (fun w' => Below w.heap.size w w' ∧ Holds w' w.heap.size (ddC ⟨5, name, ed, page, who⟩)) [(1, true), (2, true), (3, true), (7, true), (8, true), (0, false), (4, true), (5, true), (6, true), (9, true), (10, true)] (by kernel_rfl) (by kernel_rfl) (fun _ _ _ _ _ h => h) (by kernel_rfl) (by decide) ?_ ?_
  · exact ⟨b0.drew, h0⟩
  clear b0 h0
  have hwr : IntKind.i64.wrap 4 = 4 := by decide
  intro hHeld
  repeat (first
    | (refine seqV_reads (by simp only [List.getElem?_toArray, List.getElem?_cons_succ, List.getElem?_cons_zero]; first | done | rfl) (by rfl) ?_; apply Exists.intro; apply And.intro; (focus (intro w hSw; (try dsimp only at hSw); (try (have hq := Holds.seven hSw.2)); (try (have hq := Holds.seven hSw.2.2)); go_split_ands; go_simp; (try with_reducible rfl); done)); (try simp only [Act.put, List.setIfInBounds_toArray, List.set_cons_zero, List.set_cons_succ]))
    | (refine seqV_call (by simp only [List.getElem?_toArray, List.getElem?_cons_zero]; first | done | rfl) (by rfl) (fun K hK => ?_); go_simp; go_at_call 26; refine (l3Words_at _).mono ?_; rintro r w2 ⟨rfl, rfl⟩; go_simp; refine hK.out (fun w' => w'.cell? ⟨w1.heap.size, 4, none⟩ = some (.string ⟨#[102, 101, 116, 99, 104]⟩) ∧ (Below w.heap.size w w' ∧ Holds w' w.heap.size (ddC ⟨5, name, ed, page, who⟩))) _ _ (fun _ h => h.2) ⟨by simp [go_sem], hHeld.1.alloc hHeld.1.size _, hHeld.2.alloc _⟩ ?_; clear hHeld hK; intro hHeld; (try simp only [Act.put, List.setIfInBounds_toArray, List.set_cons_zero, List.set_cons_succ])))
  refine seqV_end ?_
  obtain ⟨-, b0, h0⟩ := hHeld
  clear hwr
  obtain ⟨p0, p1, p2, p3, p4, p5, p6⟩ := h0.seven
  go_wp2_with fail
  refine (l2Show_any ed _ he).mono ?_
  rintro r w3 ⟨hr, b1⟩
  obtain rfl : r = .returned (.string ⟨(M.edText ed).toArray⟩) := hr
  replace h0 := h0.below b1
  replace b0 := next b0 b1
  clear p0 p1 p2 p3 p4 p5 p6 b1
  obtain ⟨p0, p1, p2, p3, p4, p5, p6⟩ := h0.seven
  go_wp2
  go_ret
  exact ⟨ret_ba (by rw [HA.out]), b0⟩

set_option maxHeartbeats 2000000 in
theorem specShow_give (name : ByteArray) (ed : M.Ed) (page : ByteArray) (who : Int) (w : World) (h : M.deedOk ⟨6, name, ed, page, who⟩ = true) :
    Calls Tryz.prog 10 #[ddV ⟨6, name, ed, page, who⟩] w fun r w' => r = .returned (strOf (M.deedText ⟨6, name, ed, page, who⟩)) ∧ Below w.heap.size w w' := by
  obtain ⟨hn, hp, he, hw0, hw1, hm0, hm1⟩ := deed_bounds h
  have lE := M.edText_len ed he
  have lW := M.intText_length who
  have lM := M.intText_length ed.ma
  have lP := pageText_len hp
  have b0 := (Below.refl w.heap.size w).alloc (Nat.le_refl _) (.cells (ddC ⟨6, name, ed, page, who⟩) 27)
  have h0 := holds_new w (ddC ⟨6, name, ed, page, who⟩) 27
  obtain ⟨A1, z1, e1, s1⟩ := cat_ex Tryz.prog ⟨#[103, 105, 118, 101]⟩ ⟨#[32]⟩ (by decide)
  have z1' : A1.size = 5 := z1
  obtain ⟨A2, z2, e2, s2⟩ := cat_ex Tryz.prog A1 name (by omega)
  obtain ⟨A3, z3, e3, s3⟩ := cat_ex Tryz.prog A2 ⟨#[32]⟩ (by show _ + 1 ≤ _; omega)
  have z3' : A3.size = A2.size + 1 := z3
  obtain ⟨A4, z4, e4, s4⟩ := cat_ex Tryz.prog A3 ⟨(M.intText who).toArray⟩ (by show _ + (M.intText who).length ≤ _; omega)
  have z4' : A4.size = A3.size + (M.intText who).length := z4
  obtain ⟨A5, z5, e5, s5⟩ := cat_ex Tryz.prog A4 ⟨#[32]⟩ (by show _ + 1 ≤ _; omega)
  have z5' : A5.size = A4.size + 1 := z5
  obtain ⟨A6, z6, e6, s6⟩ := cat_ex Tryz.prog A5 ⟨(M.intText ed.ma).toArray⟩ (by show _ + (M.intText ed.ma).length ≤ _; omega)
  have z6' : A6.size = A5.size + (M.intText ed.ma).length := z6
  have HA : Hid (A6.data.toList = M.deedText ⟨6, name, ed, page, who⟩) := Lib.hid (by rw [e6, e5, e4, e3, e2, e1]; simp [M.deedText, M.deedWords, M.join, M.wGive])
  have HH := Lib.hid h
  clear h lE lW lM lP z1 z1' z2 e1 e2 z3 z3' e3 z4 z4' e4 z5 z5' e5 z6 z6' e6
  go_enter Tryz.func10, Tryz.ntmps10
  go_wp2_with fail
  refine (specDeedOk ⟨6, name, ed, page, who⟩ _ (by unfold maxLen; show name.size ≤ _; omega) (by unfold maxLen; show page.size ≤ _; omega)).mono ?_
  rintro r w1 ⟨hr, b1⟩
  rw [HH.out] at hr
  obtain rfl := hr
  replace h0 := h0.below b1
  replace b0 := next b0 b1
  clear b1
  go_wp2_with fail
  refine wp_region_seqV (fun w' => Below w.heap.size w w' ∧ Holds w' w.heap.size (ddC ⟨6, name, ed, page, who⟩)) [(1, true), (2, true), (3, true), (7, true), (8, true), (0, false), (4, true), (5, true), (6, true), (9, true), (10, true)] (by kernel_rfl) (by kernel_rfl) (fun _ _ _ _ _ h => h) (by kernel_rfl) (by decide) ?_ ?_
  · exact ⟨b0.drew, h0⟩
  clear b0 h0
  have hwr : IntKind.i64.wrap 5 = 5 := by decide
  intro hHeld
  repeat (first
    | (refine seqV_reads (by simp only [List.getElem?_toArray, List.getElem?_cons_succ, List.getElem?_cons_zero]; first | done | rfl) (by rfl) ?_; apply Exists.intro; apply And.intro; (focus (intro w hSw; (try dsimp only at hSw); (try (have hq := Holds.seven hSw.2)); (try (have hq := Holds.seven hSw.2.2)); go_split_ands; go_simp; (try with_reducible rfl); done)); (try simp only [Act.put, List.setIfInBounds_toArray, List.set_cons_zero, List.set_cons_succ]))
    | (refine seqV_call (by simp only [List.getElem?_toArray, List.getElem?_cons_zero]; first | done | rfl) (by rfl) (fun K hK => ?_); go_simp; go_at_call 26; refine (l3Words_at _).mono ?_; rintro r w2 ⟨rfl, rfl⟩; go_simp; refine hK.out (fun w' => w'.cell? ⟨w1.heap.size, 5, none⟩ = some (.string ⟨#[103, 105, 118, 101]⟩) ∧ (Below w.heap.size w w' ∧ Holds w' w.heap.size (ddC ⟨6, name, ed, page, who⟩))) _ _ (fun _ h => h.2) ⟨by simp [go_sem], hHeld.1.alloc hHeld.1.size _, hHeld.2.alloc _⟩ ?_; clear hHeld hK; intro hHeld; (try simp only [Act.put, List.setIfInBounds_toArray, List.set_cons_zero, List.set_cons_succ])))
  refine seqV_end ?_
  obtain ⟨-, b0, h0⟩ := hHeld
  clear hwr
  obtain ⟨p0, p1, p2, p3, p4, p5, p6⟩ := h0.seven
  go_wp2_with fail
  refine (l1Int_any who hw0 (by omega) _).mono ?_
  rintro r w3 ⟨hr, b1⟩
  obtain rfl : r = .returned (.string ⟨(M.intText who).toArray⟩) := hr
  replace h0 := h0.below b1
  replace b0 := next b0 b1
  clear p0 p1 p2 p3 p4 p5 p6 b1
  obtain ⟨p0, p1, p2, p3, p4, p5, p6⟩ := h0.seven
  go_wp2_with fail
  refine (l1Int_any ed.ma hm0 hm1 _).mono ?_
  rintro r w4 ⟨hr, b1⟩
  obtain rfl : r = .returned (.string ⟨(M.intText ed.ma).toArray⟩) := hr
  replace h0 := h0.below b1
  replace b0 := next b0 b1
  clear p0 p1 p2 p3 p4 p5 p6 b1
  obtain ⟨p0, p1, p2, p3, p4, p5, p6⟩ := h0.seven
  go_wp2
  go_ret
  exact ⟨ret_ba (by rw [HA.out]), b0⟩

theorem specShowDeed (d : M.Dd) (w : World) (hn : d.name.size ≤ maxLen) (hp : d.page.size ≤ maxLen) :
    Calls Tryz.prog 10 #[ddV d] w fun r w' => r = .returned (strOf (M.deedShow d)) ∧ Below w.heap.size w w' := by
  rcases h : M.deedOk d with _ | _
  · have HE : Hid (M.deedShow d = []) := Lib.hid (by simp [M.deedShow, h])
    have HH := Lib.hid h
    clear h
    have b0 := (Below.refl w.heap.size w).alloc (Nat.le_refl _) (.cells (ddC d) 27)
    go_enter Tryz.func10, Tryz.ntmps10
    go_wp2_with fail
    refine (specDeedOk d _ hn hp).mono ?_
    rintro r w1 ⟨hr, b1⟩
    rw [HH.out] at hr
    obtain rfl := hr
    go_wp2
    go_ret
    exact ⟨ret_ba (by rw [HE.out]), next b0 b1⟩
  · have e : M.deedShow d = M.deedText d := by simp [M.deedShow, h]
    rw [e]
    have hk := ((M.deedOk_iff d).1 h).2.2.2.2.2
    obtain ⟨k, name, ed, page, who⟩ := d
    simp only at hk
    rcases hk with ⟨rfl, -⟩ | rfl | rfl | rfl | ⟨rfl, -⟩ | ⟨rfl, -⟩
    · exact specShow_claim name ed page who w h
    · exact specShow_put name ed page who w h
    · exact specShow_hide name ed page who w h
    · exact specShow_show name ed page who w h
    · exact specShow_fetch name ed page who w h
    · exact specShow_give name ed page who w h
end Go.Proofs.YtiibklhalgookaaGreatDoor
