/- Proved: the model's ReadDeed answers a plain Lean function at every text of at most 1048576 bytes; it writes nothing that was there. -/
import Derived.Test.YtiibklhalgookaaGreatDoorSpecRead
import Derived.Test.YtiibklhalgookaaGreatDoorMem
import Derived.Test.YtiibklhalgookaaGreatDoorOrders3
namespace Go.Proofs.YtiibklhalgookaaGreatDoor
open Go.RowKit
set_option maxRecDepth 20000
set_option linter.unusedVariables false

theorem row_holds {B : Nat} {w : World} {v : Value} {ls : List (List UInt8)} (h : StrRow B w v ls) (xs : List ByteArray) (hx : ls = xs.map (·.data.toList)) (hne : xs ≠ []) :
    ∃ g cap, v = .slice (some ⟨g, 0, none⟩) xs.length cap ∧ B ≤ g ∧ Holds w g (xs.map Value.string).toArray := by
  subst hx
  obtain ⟨g, cap, rfl, hB, hg, hc⟩ := h.open (by simpa using hne)
  refine ⟨g, cap, by simp, hB, hg, fun j u hj => ?_⟩
  simp only [List.getElem?_toArray, List.getElem?_map] at hj
  rcases hq : xs[j]? with _ | x
  · rw [hq] at hj; cases hj
  · rw [hq] at hj
    have hlt : j < xs.length := by
      rcases Nat.lt_or_ge j xs.length with h | h
      · exact h
      · rw [List.getElem?_eq_none h] at hq; cases hq
    rw [hc j (by simpa using hlt)]
    have e : xs[j] = x := by rw [List.getElem?_eq_getElem hlt] at hq; exact Option.some.inj hq
    rw [List.getElem_map, e]
    exact hj
abbrev d0C (k : Int) : Array Value := #[.int .i64 k, .string ⟨#[]⟩, .int .i64 0, .int .i64 0, .int .i64 0, .string ⟨#[]⟩, .int .i64 0]
theorem results_sd (d : M.Dd) (b : Bool) (R : Nat) (W : World) (tmps : Array Value) (h2 : tmps.getD 2 undef = .pointer (some ⟨R, 0, none⟩)) (h3 : tmps.getD 3 undef = .bool b) (hW : Holds W R (ddC d)) :
    (results Tryz.f9 tmps).run Tryz.prog W = .ok (.tuple #[ddV d, .bool b]) W := by
  obtain ⟨q0, q1, q2, q3, q4, q5, q6⟩ := hW.seven
  simp at h2 h3
  simp [results, Tryz.results9, go_sem, h2, h3, q0, q1, q2, q3, q4, q5, q6]
theorem ret_dd {p : M.Dd × Bool} {d : M.Dd} {b : Bool} (h : p = (d, b)) : Ending.returned (.tuple #[ddV d, .bool b]) = .returned (.tuple #[ddV p.1, .bool p.2]) := by rw [h]

theorem Mem.new1 {w0 : World} {hs : List (Nat × Array Value)} {ls : List Nat} {x : World} (h : Mem w0 hs ls x) (o : Obj) (C : Array Value) (t : TypeId) : Mem w0 ((x.heap.size + 1, C) :: hs) ((x.heap.size + 1) :: ls) ((x.alloc o).alloc (.cells C t)) := by
  have := (h.alloc o).new C t
  simpa only [World.size_alloc] using this
theorem words_at0 (w : World) (t : TypeId) : Holds (w.alloc (.cells wordsC t)).drew w.heap.size wordsC := holds_new w wordsC t
theorem words_at1 (w : World) (o : Obj) (t : TypeId) : Holds ((w.alloc o).alloc (.cells wordsC t)).drew (w.heap.size + 1) wordsC := by
  have := holds_new (w.alloc o) wordsC t
  rw [World.size_alloc] at this
  exact this
theorem words_at2 (w : World) (o : Obj) (t : TypeId) : Holds ((w.alloc (.cells wordsC t)).alloc o).drew w.heap.size wordsC := (holds_new w wordsC t).alloc o
theorem read_first {w w1 : World} {g : Nat} {C : Array Value} {hs : List (Nat × Array Value)} (m : Mem w [(g, C), (w.heap.size, zC)] [w.heap.size] w1) (hg : g < w1.heap.size) (k : Int) (t : TypeId) (o : Obj) :
    Mem w [(w1.heap.size, d0C k), (g, C), (w.heap.size, zC)] [w1.heap.size, w.heap.size] ((w1.alloc (.cells (d0C k) t)).alloc o).drew := ((m.new (d0C k) t).alloc o).drew

/-- The memory behind the second statement. -/
def ReadW2 (w : World) (g : Nat) (k : Int) (C : Array Value) (s5 : Value) (wx : World) : Prop :=
  ∃ G, s5 = .pointer (some ⟨G, 0, none⟩) ∧ w.heap.size < G ∧ G ≠ g ∧ Mem w [(G, d0C k), (g, C), (w.heap.size, zC)] [G, w.heap.size] wx

theorem nonempty_yes {s : ByteArray} (h : decide (s.data.toList ≠ []) = true) : (s.toList == []) = false ∧ (s.toList != []) = true := some_text (fun e => by
  have h' : s.data.toList ≠ [] := by simpa using h
  exact h' (List.eq_nil_of_length_eq_zero (by rw [M.len0]; exact e)))
theorem nonempty_no {s : ByteArray} (h : decide (s.data.toList ≠ []) = false) : (s.toList == []) = true ∧ (s.toList != []) = false := no_text (by
  have h' : s.data.toList = [] := by simpa using h
  rw [← M.len0, h']; rfl)
set_option maxHeartbeats 4000000 in
theorem specRead_claim (s X A B : ByteArray) (w : World) (hs : s.size ≤ 1048576) (hL : M.split 32 s.data.toList = [X, A, B].map (·.data.toList)) (hk : kd X = 1) (sA : A.size ≤ 1048576) (sB : B.size ≤ 1048576) (hR : M.deedRead s.data.toList = if ((M.rd B.data.toList).2) && M.deedOk ⟨1, A, ⟨0, 0, 0⟩, ⟨#[]⟩, (M.rd B.data.toList).1⟩ then (⟨1, A, ⟨0, 0, 0⟩, ⟨#[]⟩, (M.rd B.data.toList).1⟩, true) else (M.zeroDd, false)) :
    Calls Tryz.prog 9 #[.string s] w fun r w' => r = .returned (.tuple #[ddV (M.deedRead s.data.toList).1, .bool (M.deedRead s.data.toList).2]) ∧ Below w.heap.size w w' := by
  have HR := Lib.hid hR
  have hnA : (⟨1, A, ⟨0, 0, 0⟩, ⟨#[]⟩, (M.rd B.data.toList).1⟩ : M.Dd).name.size ≤ maxLen := by show A.size ≤ _; unfold maxLen; omega
  have hnP : (⟨1, A, ⟨0, 0, 0⟩, ⟨#[]⟩, (M.rd B.data.toList).1⟩ : M.Dd).page.size ≤ maxLen := by show 0 ≤ _; omega
  clear hR
  have m0 := (Mem.start w).new zC 27
  go_enter Tryz.func9, Tryz.ntmps9
  go_wp2_with fail
  refine (l1Split_any s 32 _ hs).mono ?_
  rintro r w1 ⟨v, rfl, hrow, b1⟩
  obtain ⟨g, cap, rfl, hg0, hg⟩ := row_holds hrow [X, A, B] hL (by simp)
  simp only [World.size_alloc, List.map_cons, List.map_nil] at hg0 hg
  replace m0 := (m0.below b1).add hg
  have zR : w.heap.size < w1.heap.size := (m0.2.2 _ (by simp)).1
  have zg : g < w1.heap.size := hg.1
  have hwr : IntKind.i64.wrap 1 = 1 := by decide
  clear b1 hrow hL hg
  go_upto_region 2 with (fail)
  go_cut [5] (fun s5 wx => ReadW2 w g 1 #[.string X, .string A, .string B] s5 wx)
  case first =>
    refine wp_region_tr (Mem w [(g, #[.string X, .string A, .string B]), (w.heap.size, zC)] [w.heap.size]) (.read 1 (.read 2 (.read 3 (.two 0 7 (.two 4 7 (.read 5 (.read 6 (.one 7 (.one 8 .done)))) (.one 4 (.read 5 (.read 6 (.one 8 .done))))) (.one 0 (.one 4 (.read 5 (.read 6 (.one 8 .done))))))))) (by kernel_rfl) (by kernel_rfl) (fun _ _ _ _ _ h => h) (by kernel_rfl) (by decide) ?_ ?_
    · exact m0.drew
    intro hHeld
    repeat (first
      | (refine tr_reads (by simp only [List.getElem?_toArray, List.getElem?_cons_succ, List.getElem?_cons_zero]; first | done | rfl) (by rfl) ?_; apply Exists.intro; apply And.intro; (focus (intro w hSw; (try (have hq := Holds.three (Mem.get hSw g #[.string X, .string A, .string B] (by simp)))); go_split_ands; go_simp; (try with_reducible rfl); done)); (try simp only [Act.put, List.setIfInBounds_toArray, List.set_cons_zero, List.set_cons_succ]))
      | (refine tr_two ?_ ?_)
      | (refine tr_one (by simp only [List.getElem?_toArray, List.getElem?_cons_zero]; first | done | rfl) (by rfl) (fun K hK => ?_); go_simp; go_at_call 26; refine (l3Words_at _).mono ?_; rintro r w2 ⟨rfl, rfl⟩; go_simp; refine hK.out _ _ _ (fun x h => h) (by first | exact (m0.alloc _).drew | exact ((m0.alloc _).alloc _).drew) ?_; clear hHeld hK; intro hHeld; (try simp only [Act.put, List.setIfInBounds_toArray, List.set_cons_zero, List.set_cons_succ]))
      | (refine tr_one (by simp only [List.getElem?_toArray, List.getElem?_cons_succ, List.getElem?_cons_zero]; first | done | rfl) (by rfl) (fun K hK => ?_); go_simp; go_at_call 25; refine (l1At_words _ X _ (by first | exact words_at0 _ _ | exact words_at1 _ _ _ | exact words_at2 _ _ _)).mono ?_; rintro r w2 ⟨rfl, rfl⟩; rw [hk]; go_simp; refine hK.out _ _ _ (fun x h => h) (by first | exact (m0.alloc _).drew | exact ((m0.alloc _).alloc _).drew) ?_; clear hHeld hK; intro hHeld; (try simp only [Act.put, List.setIfInBounds_toArray, List.set_cons_zero, List.set_cons_succ]))
      | (refine tr_one (by simp only [List.getElem?_toArray, List.getElem?_cons_succ, List.getElem?_cons_zero]; first | done | rfl) (by rfl) (fun K hK => ?_); go_simp; refine hK.out _ _ _ (fun x h => h) (by first | exact (m0.alloc _).drew | exact ((m0.alloc _).alloc _).drew) ?_; clear hHeld hK; intro hHeld; (try simp only [Act.put, List.setIfInBounds_toArray, List.set_cons_zero, List.set_cons_succ]))
      | (refine tr_end ?_; go_wp2; go_meet; (first | exact ⟨_, rfl, zR, fun e => Nat.ne_of_lt zg e.symm, ((m0.new (d0C 1) _).alloc _).drew⟩ | exact ⟨_, rfl, Nat.lt_succ_of_lt zR, fun e => Nat.ne_of_lt (Nat.lt_succ_of_lt zg) e.symm, (m0.new1 _ (d0C 1) _).drew⟩)))
  case rest =>
    clear m0 zR zg hwr
    obtain ⟨G, rfl, hG, hGg, m⟩ := hcut
    have hG' : w.heap.size ≤ G := Nat.le_of_lt hG
    have hGR : w.heap.size ≠ G := Nat.ne_of_lt hG
    have hgG : g ≠ G := fun e => hGg e.symm
    have hne : ∀ p ∈ [(g, (#[.string X, .string A, .string B] : Array Value)), (w.heap.size, zC)], p.1 ≠ G := by simp [hgG, hGR]
    simp only [d0C] at m
    obtain ⟨d0, d1, d2, d3, d4, d5, d6⟩ := (m.get G #[.int .i64 1, .string ⟨#[]⟩, .int .i64 0, .int .i64 0, .int .i64 0, .string ⟨#[]⟩, .int .i64 0] (by simp)).seven
    obtain ⟨t0, t1, t2, t3, t4, t5, t6⟩ := (m.loose G (by simp)).seven
    obtain ⟨p0, p1, p2⟩ := (m.get g #[.string X, .string A, .string B] (by simp)).three
    have zG := (m.2.2 G (by simp)).1
    have zR := (m.2.2 w.heap.size (by simp)).1
    have zg := (m.get g #[.string X, .string A, .string B] (by simp)).1
    go_wp2_with fail
    clear d0 d1 d2 d3 d4 d5 d6 t0 t1 t2 t3 t4 t5 t6 p0 p1 p2 zG zR zg
    replace m := ((m.put hG' hne 1 (.string A)).alloc (.cells #[.int .i64 0, .int .i64 3, .int .i64 5, .int .i64 4, .int .i64 4, .int .i64 3, .int .i64 4] 3))
    simp only [List.setIfInBounds_toArray, List.set_cons_zero, List.set_cons_succ] at m
    generalize (wc.setCell ⟨G, 1, none⟩ (.string A)).alloc (.cells #[.int .i64 0, .int .i64 3, .int .i64 5, .int .i64 4, .int .i64 4, .int .i64 3, .int .i64 4] 3) = wd at m ⊢
    refine (in_i _ _ _ _).mono ?_
    rintro e w' ⟨rfl, rfl⟩
    rw [show M.inI 1 2 5 = false by decide]
    rcases g0 : (M.rd B.data.toList).2 with _ | _
    ·
      have HE : Hid (M.deedRead s.data.toList = (M.zeroDd, false)) := Lib.hid (by rw [HR.out, g0]; rfl)
      obtain ⟨d0, d1, d2, d3, d4, d5, d6⟩ := (m.get G #[.int .i64 1, .string A, .int .i64 0, .int .i64 0, .int .i64 0, .string ⟨#[]⟩, .int .i64 0] (by simp)).seven
      obtain ⟨t0, t1, t2, t3, t4, t5, t6⟩ := (m.loose G (by simp)).seven
      obtain ⟨p0, p1, p2⟩ := (m.get g #[.string X, .string A, .string B] (by simp)).three
      have zG := (m.2.2 G (by simp)).1
      have zR := (m.2.2 w.heap.size (by simp)).1
      have zg := (m.get g #[.string X, .string A, .string B] (by simp)).1
      go_wp2_with fail
      clear d0 d1 d2 d3 d4 d5 d6 t0 t1 t2 t3 t4 t5 t6 p0 p1 p2 zG zR zg
      refine (l1Read_any B _ (by unfold maxLen; omega)).mono ?_
      rintro r w3 ⟨rfl, rfl⟩
      obtain ⟨d0, d1, d2, d3, d4, d5, d6⟩ := (m.get G #[.int .i64 1, .string A, .int .i64 0, .int .i64 0, .int .i64 0, .string ⟨#[]⟩, .int .i64 0] (by simp)).seven
      obtain ⟨t0, t1, t2, t3, t4, t5, t6⟩ := (m.loose G (by simp)).seven
      obtain ⟨p0, p1, p2⟩ := (m.get g #[.string X, .string A, .string B] (by simp)).three
      have zG := (m.2.2 G (by simp)).1
      have zR := (m.2.2 w.heap.size (by simp)).1
      have zg := (m.get g #[.string X, .string A, .string B] (by simp)).1
      obtain ⟨q0, q1, q2, q3, q4, q5, q6⟩ := (m.get w.heap.size zC (by simp)).seven
      obtain ⟨v0, v1, v2, v3, v4, v5, v6⟩ := (m.loose w.heap.size (by simp)).seven
      go_wp2
      replace m := (m.put hG' hne 6 (.int .i64 (M.rd B.data.toList).1))
      simp only [List.setIfInBounds_toArray, List.set_cons_zero, List.set_cons_succ] at m
      exact bodyPost_ret (results_sd M.zeroDd false w.heap.size _ _ rfl rfl ((m.get w.heap.size zC (by simp)).put7 _ _ _ _ _ _ _)) rfl ⟨ret_dd HE.out, far7 m.1 (Nat.le_refl _) _ _ _ _ _ _ _⟩
    ·
      rcases hD : M.deedOk ⟨1, A, ⟨0, 0, 0⟩, ⟨#[]⟩, (M.rd B.data.toList).1⟩ with _ | _
      ·
        have HE : Hid (M.deedRead s.data.toList = (M.zeroDd, false)) := Lib.hid (by rw [HR.out, g0, hD]; rfl)
        have HD := Lib.hid hD
        clear hD
        obtain ⟨d0, d1, d2, d3, d4, d5, d6⟩ := (m.get G #[.int .i64 1, .string A, .int .i64 0, .int .i64 0, .int .i64 0, .string ⟨#[]⟩, .int .i64 0] (by simp)).seven
        obtain ⟨t0, t1, t2, t3, t4, t5, t6⟩ := (m.loose G (by simp)).seven
        obtain ⟨p0, p1, p2⟩ := (m.get g #[.string X, .string A, .string B] (by simp)).three
        have zG := (m.2.2 G (by simp)).1
        have zR := (m.2.2 w.heap.size (by simp)).1
        have zg := (m.get g #[.string X, .string A, .string B] (by simp)).1
        go_wp2_with fail
        clear d0 d1 d2 d3 d4 d5 d6 t0 t1 t2 t3 t4 t5 t6 p0 p1 p2 zG zR zg
        refine (l1Read_any B _ (by unfold maxLen; omega)).mono ?_
        rintro r w3 ⟨rfl, rfl⟩
        obtain ⟨d0, d1, d2, d3, d4, d5, d6⟩ := (m.get G #[.int .i64 1, .string A, .int .i64 0, .int .i64 0, .int .i64 0, .string ⟨#[]⟩, .int .i64 0] (by simp)).seven
        obtain ⟨t0, t1, t2, t3, t4, t5, t6⟩ := (m.loose G (by simp)).seven
        obtain ⟨p0, p1, p2⟩ := (m.get g #[.string X, .string A, .string B] (by simp)).three
        have zG := (m.2.2 G (by simp)).1
        have zR := (m.2.2 w.heap.size (by simp)).1
        have zg := (m.get g #[.string X, .string A, .string B] (by simp)).1
        go_wp2_with fail
        clear d0 d1 d2 d3 d4 d5 d6 t0 t1 t2 t3 t4 t5 t6 p0 p1 p2 zG zR zg
        replace m := (m.put hG' hne 6 (.int .i64 (M.rd B.data.toList).1))
        simp only [List.setIfInBounds_toArray, List.set_cons_zero, List.set_cons_succ] at m
        refine (specDeedOk ⟨1, A, ⟨0, 0, 0⟩, ⟨#[]⟩, (M.rd B.data.toList).1⟩ _ hnA hnP).mono ?_
        rintro r w4 ⟨hr, b1⟩
        rw [HD.out] at hr
        obtain rfl := hr
        replace m := m.below b1
        clear b1
        obtain ⟨d0, d1, d2, d3, d4, d5, d6⟩ := (m.get G #[.int .i64 1, .string A, .int .i64 0, .int .i64 0, .int .i64 0, .string ⟨#[]⟩, .int .i64 (M.rd B.data.toList).1] (by simp)).seven
        obtain ⟨t0, t1, t2, t3, t4, t5, t6⟩ := (m.loose G (by simp)).seven
        obtain ⟨p0, p1, p2⟩ := (m.get g #[.string X, .string A, .string B] (by simp)).three
        have zG := (m.2.2 G (by simp)).1
        have zR := (m.2.2 w.heap.size (by simp)).1
        have zg := (m.get g #[.string X, .string A, .string B] (by simp)).1
        obtain ⟨q0, q1, q2, q3, q4, q5, q6⟩ := (m.get w.heap.size zC (by simp)).seven
        obtain ⟨v0, v1, v2, v3, v4, v5, v6⟩ := (m.loose w.heap.size (by simp)).seven
        go_wp2
        exact bodyPost_ret (results_sd M.zeroDd false w.heap.size _ _ rfl rfl ((m.get w.heap.size zC (by simp)).put7 _ _ _ _ _ _ _)) rfl ⟨ret_dd HE.out, far7 m.1 (Nat.le_refl _) _ _ _ _ _ _ _⟩
      ·
        have HE : Hid (M.deedRead s.data.toList = (⟨1, A, ⟨0, 0, 0⟩, ⟨#[]⟩, (M.rd B.data.toList).1⟩, true)) := Lib.hid (by rw [HR.out, g0, hD]; rfl)
        have HD := Lib.hid hD
        clear hD
        obtain ⟨d0, d1, d2, d3, d4, d5, d6⟩ := (m.get G #[.int .i64 1, .string A, .int .i64 0, .int .i64 0, .int .i64 0, .string ⟨#[]⟩, .int .i64 0] (by simp)).seven
        obtain ⟨t0, t1, t2, t3, t4, t5, t6⟩ := (m.loose G (by simp)).seven
        obtain ⟨p0, p1, p2⟩ := (m.get g #[.string X, .string A, .string B] (by simp)).three
        have zG := (m.2.2 G (by simp)).1
        have zR := (m.2.2 w.heap.size (by simp)).1
        have zg := (m.get g #[.string X, .string A, .string B] (by simp)).1
        go_wp2_with fail
        clear d0 d1 d2 d3 d4 d5 d6 t0 t1 t2 t3 t4 t5 t6 p0 p1 p2 zG zR zg
        refine (l1Read_any B _ (by unfold maxLen; omega)).mono ?_
        rintro r w3 ⟨rfl, rfl⟩
        obtain ⟨d0, d1, d2, d3, d4, d5, d6⟩ := (m.get G #[.int .i64 1, .string A, .int .i64 0, .int .i64 0, .int .i64 0, .string ⟨#[]⟩, .int .i64 0] (by simp)).seven
        obtain ⟨t0, t1, t2, t3, t4, t5, t6⟩ := (m.loose G (by simp)).seven
        obtain ⟨p0, p1, p2⟩ := (m.get g #[.string X, .string A, .string B] (by simp)).three
        have zG := (m.2.2 G (by simp)).1
        have zR := (m.2.2 w.heap.size (by simp)).1
        have zg := (m.get g #[.string X, .string A, .string B] (by simp)).1
        go_wp2_with fail
        clear d0 d1 d2 d3 d4 d5 d6 t0 t1 t2 t3 t4 t5 t6 p0 p1 p2 zG zR zg
        replace m := (m.put hG' hne 6 (.int .i64 (M.rd B.data.toList).1))
        simp only [List.setIfInBounds_toArray, List.set_cons_zero, List.set_cons_succ] at m
        refine (specDeedOk ⟨1, A, ⟨0, 0, 0⟩, ⟨#[]⟩, (M.rd B.data.toList).1⟩ _ hnA hnP).mono ?_
        rintro r w4 ⟨hr, b1⟩
        rw [HD.out] at hr
        obtain rfl := hr
        replace m := m.below b1
        clear b1
        obtain ⟨d0, d1, d2, d3, d4, d5, d6⟩ := (m.get G #[.int .i64 1, .string A, .int .i64 0, .int .i64 0, .int .i64 0, .string ⟨#[]⟩, .int .i64 (M.rd B.data.toList).1] (by simp)).seven
        obtain ⟨t0, t1, t2, t3, t4, t5, t6⟩ := (m.loose G (by simp)).seven
        obtain ⟨p0, p1, p2⟩ := (m.get g #[.string X, .string A, .string B] (by simp)).three
        have zG := (m.2.2 G (by simp)).1
        have zR := (m.2.2 w.heap.size (by simp)).1
        have zg := (m.get g #[.string X, .string A, .string B] (by simp)).1
        obtain ⟨q0, q1, q2, q3, q4, q5, q6⟩ := (m.get w.heap.size zC (by simp)).seven
        obtain ⟨v0, v1, v2, v3, v4, v5, v6⟩ := (m.loose w.heap.size (by simp)).seven
        go_wp2
        exact bodyPost_ret (results_sd ⟨1, A, ⟨0, 0, 0⟩, ⟨#[]⟩, (M.rd B.data.toList).1⟩ true w.heap.size _ _ rfl rfl ((m.get w.heap.size zC (by simp)).put7 _ _ _ _ _ _ _)) rfl ⟨ret_dd HE.out, far7 m.1 (Nat.le_refl _) _ _ _ _ _ _ _⟩
set_option maxHeartbeats 4000000 in
theorem specRead_hide (s X A B C : ByteArray) (w : World) (hs : s.size ≤ 1048576) (hL : M.split 32 s.data.toList = [X, A, B, C].map (·.data.toList)) (hk : kd X = 3) (sA : A.size ≤ 1048576) (sB : B.size ≤ 1048576) (sC : C.size ≤ 1048576) (hR : M.deedRead s.data.toList = if ((M.edRead B.data.toList).2 && (M.rd C.data.toList).2) && M.deedOk ⟨3, A, (M.edRead B.data.toList).1, ⟨#[]⟩, (M.rd C.data.toList).1⟩ then (⟨3, A, (M.edRead B.data.toList).1, ⟨#[]⟩, (M.rd C.data.toList).1⟩, true) else (M.zeroDd, false)) :
    Calls Tryz.prog 9 #[.string s] w fun r w' => r = .returned (.tuple #[ddV (M.deedRead s.data.toList).1, .bool (M.deedRead s.data.toList).2]) ∧ Below w.heap.size w w' := by
  have HR := Lib.hid hR
  have hnA : (⟨3, A, (M.edRead B.data.toList).1, ⟨#[]⟩, (M.rd C.data.toList).1⟩ : M.Dd).name.size ≤ maxLen := by show A.size ≤ _; unfold maxLen; omega
  have hnP : (⟨3, A, (M.edRead B.data.toList).1, ⟨#[]⟩, (M.rd C.data.toList).1⟩ : M.Dd).page.size ≤ maxLen := by show 0 ≤ _; omega
  clear hR
  have m0 := (Mem.start w).new zC 27
  go_enter Tryz.func9, Tryz.ntmps9
  go_wp2_with fail
  refine (l1Split_any s 32 _ hs).mono ?_
  rintro r w1 ⟨v, rfl, hrow, b1⟩
  obtain ⟨g, cap, rfl, hg0, hg⟩ := row_holds hrow [X, A, B, C] hL (by simp)
  simp only [World.size_alloc, List.map_cons, List.map_nil] at hg0 hg
  replace m0 := (m0.below b1).add hg
  have zR : w.heap.size < w1.heap.size := (m0.2.2 _ (by simp)).1
  have zg : g < w1.heap.size := hg.1
  have hwr : IntKind.i64.wrap 3 = 3 := by decide
  clear b1 hrow hL hg
  go_upto_region 2 with (fail)
  go_cut [5] (fun s5 wx => ReadW2 w g 3 #[.string X, .string A, .string B, .string C] s5 wx)
  case first =>
    refine wp_region_tr (Mem w [(g, #[.string X, .string A, .string B, .string C]), (w.heap.size, zC)] [w.heap.size]) (.read 1 (.read 2 (.read 3 (.two 0 7 (.two 4 7 (.read 5 (.read 6 (.one 7 (.one 8 .done)))) (.one 4 (.read 5 (.read 6 (.one 8 .done))))) (.one 0 (.one 4 (.read 5 (.read 6 (.one 8 .done))))))))) (by kernel_rfl) (by kernel_rfl) (fun _ _ _ _ _ h => h) (by kernel_rfl) (by decide) ?_ ?_
    · exact m0.drew
    intro hHeld
    repeat (first
      | (refine tr_reads (by simp only [List.getElem?_toArray, List.getElem?_cons_succ, List.getElem?_cons_zero]; first | done | rfl) (by rfl) ?_; apply Exists.intro; apply And.intro; (focus (intro w hSw; (try (have hq := Holds.four (Mem.get hSw g #[.string X, .string A, .string B, .string C] (by simp)))); go_split_ands; go_simp; (try with_reducible rfl); done)); (try simp only [Act.put, List.setIfInBounds_toArray, List.set_cons_zero, List.set_cons_succ]))
      | (refine tr_two ?_ ?_)
      | (refine tr_one (by simp only [List.getElem?_toArray, List.getElem?_cons_zero]; first | done | rfl) (by rfl) (fun K hK => ?_); go_simp; go_at_call 26; refine (l3Words_at _).mono ?_; rintro r w2 ⟨rfl, rfl⟩; go_simp; refine hK.out _ _ _ (fun x h => h) (by first | exact (m0.alloc _).drew | exact ((m0.alloc _).alloc _).drew) ?_; clear hHeld hK; intro hHeld; (try simp only [Act.put, List.setIfInBounds_toArray, List.set_cons_zero, List.set_cons_succ]))
      | (refine tr_one (by simp only [List.getElem?_toArray, List.getElem?_cons_succ, List.getElem?_cons_zero]; first | done | rfl) (by rfl) (fun K hK => ?_); go_simp; go_at_call 25; refine (l1At_words _ X _ (by first | exact words_at0 _ _ | exact words_at1 _ _ _ | exact words_at2 _ _ _)).mono ?_; rintro r w2 ⟨rfl, rfl⟩; rw [hk]; go_simp; refine hK.out _ _ _ (fun x h => h) (by first | exact (m0.alloc _).drew | exact ((m0.alloc _).alloc _).drew) ?_; clear hHeld hK; intro hHeld; (try simp only [Act.put, List.setIfInBounds_toArray, List.set_cons_zero, List.set_cons_succ]))
      | (refine tr_one (by simp only [List.getElem?_toArray, List.getElem?_cons_succ, List.getElem?_cons_zero]; first | done | rfl) (by rfl) (fun K hK => ?_); go_simp; refine hK.out _ _ _ (fun x h => h) (by first | exact (m0.alloc _).drew | exact ((m0.alloc _).alloc _).drew) ?_; clear hHeld hK; intro hHeld; (try simp only [Act.put, List.setIfInBounds_toArray, List.set_cons_zero, List.set_cons_succ]))
      | (refine tr_end ?_; go_wp2; go_meet; (first | exact ⟨_, rfl, zR, fun e => Nat.ne_of_lt zg e.symm, ((m0.new (d0C 3) _).alloc _).drew⟩ | exact ⟨_, rfl, Nat.lt_succ_of_lt zR, fun e => Nat.ne_of_lt (Nat.lt_succ_of_lt zg) e.symm, (m0.new1 _ (d0C 3) _).drew⟩)))
  case rest =>
    clear m0 zR zg hwr
    obtain ⟨G, rfl, hG, hGg, m⟩ := hcut
    have hG' : w.heap.size ≤ G := Nat.le_of_lt hG
    have hGR : w.heap.size ≠ G := Nat.ne_of_lt hG
    have hgG : g ≠ G := fun e => hGg e.symm
    have hne : ∀ p ∈ [(g, (#[.string X, .string A, .string B, .string C] : Array Value)), (w.heap.size, zC)], p.1 ≠ G := by simp [hgG, hGR]
    simp only [d0C] at m
    obtain ⟨d0, d1, d2, d3, d4, d5, d6⟩ := (m.get G #[.int .i64 3, .string ⟨#[]⟩, .int .i64 0, .int .i64 0, .int .i64 0, .string ⟨#[]⟩, .int .i64 0] (by simp)).seven
    obtain ⟨t0, t1, t2, t3, t4, t5, t6⟩ := (m.loose G (by simp)).seven
    obtain ⟨p0, p1, p2, p3⟩ := (m.get g #[.string X, .string A, .string B, .string C] (by simp)).four
    have zG := (m.2.2 G (by simp)).1
    have zR := (m.2.2 w.heap.size (by simp)).1
    have zg := (m.get g #[.string X, .string A, .string B, .string C] (by simp)).1
    go_wp2_with fail
    clear d0 d1 d2 d3 d4 d5 d6 t0 t1 t2 t3 t4 t5 t6 p0 p1 p2 p3 zG zR zg
    replace m := ((m.put hG' hne 1 (.string A)).alloc (.cells #[.int .i64 0, .int .i64 3, .int .i64 5, .int .i64 4, .int .i64 4, .int .i64 3, .int .i64 4] 3))
    simp only [List.setIfInBounds_toArray, List.set_cons_zero, List.set_cons_succ] at m
    generalize (wc.setCell ⟨G, 1, none⟩ (.string A)).alloc (.cells #[.int .i64 0, .int .i64 3, .int .i64 5, .int .i64 4, .int .i64 4, .int .i64 3, .int .i64 4] 3) = wd at m ⊢
    refine (in_i _ _ _ _).mono ?_
    rintro e w' ⟨rfl, rfl⟩
    rw [show M.inI 3 2 5 = true by decide]
    rcases g0 : (M.edRead B.data.toList).2 with _ | _
    ·
      have HE : Hid (M.deedRead s.data.toList = (M.zeroDd, false)) := Lib.hid (by rw [HR.out, g0]; rfl)
      obtain ⟨d0, d1, d2, d3, d4, d5, d6⟩ := (m.get G #[.int .i64 3, .string A, .int .i64 0, .int .i64 0, .int .i64 0, .string ⟨#[]⟩, .int .i64 0] (by simp)).seven
      obtain ⟨t0, t1, t2, t3, t4, t5, t6⟩ := (m.loose G (by simp)).seven
      obtain ⟨p0, p1, p2, p3⟩ := (m.get g #[.string X, .string A, .string B, .string C] (by simp)).four
      have zG := (m.2.2 G (by simp)).1
      have zR := (m.2.2 w.heap.size (by simp)).1
      have zg := (m.get g #[.string X, .string A, .string B, .string C] (by simp)).1
      go_wp2_with fail
      clear d0 d1 d2 d3 d4 d5 d6 t0 t1 t2 t3 t4 t5 t6 p0 p1 p2 p3 zG zR zg
      refine (specReadEdition B _ sB).mono ?_
      rintro r w2 ⟨rfl, b1⟩
      replace m := m.below b1
      clear b1
      obtain ⟨d0, d1, d2, d3, d4, d5, d6⟩ := (m.get G #[.int .i64 3, .string A, .int .i64 0, .int .i64 0, .int .i64 0, .string ⟨#[]⟩, .int .i64 0] (by simp)).seven
      obtain ⟨t0, t1, t2, t3, t4, t5, t6⟩ := (m.loose G (by simp)).seven
      obtain ⟨p0, p1, p2, p3⟩ := (m.get g #[.string X, .string A, .string B, .string C] (by simp)).four
      have zG := (m.2.2 G (by simp)).1
      have zR := (m.2.2 w.heap.size (by simp)).1
      have zg := (m.get g #[.string X, .string A, .string B, .string C] (by simp)).1
      go_wp2_with fail
      clear d0 d1 d2 d3 d4 d5 d6 t0 t1 t2 t3 t4 t5 t6 p0 p1 p2 p3 zG zR zg
      replace m := (((m.put hG' hne 2 (.int .i64 (M.edRead B.data.toList).1.ma)).put hG' hne 3 (.int .i64 (M.edRead B.data.toList).1.mi)).put hG' hne 4 (.int .i64 (M.edRead B.data.toList).1.pa))
      simp only [List.setIfInBounds_toArray, List.set_cons_zero, List.set_cons_succ] at m
      refine (l1Read_any C _ (by unfold maxLen; omega)).mono ?_
      rintro r w3 ⟨rfl, rfl⟩
      obtain ⟨d0, d1, d2, d3, d4, d5, d6⟩ := (m.get G #[.int .i64 3, .string A, .int .i64 (M.edRead B.data.toList).1.ma, .int .i64 (M.edRead B.data.toList).1.mi, .int .i64 (M.edRead B.data.toList).1.pa, .string ⟨#[]⟩, .int .i64 0] (by simp)).seven
      obtain ⟨t0, t1, t2, t3, t4, t5, t6⟩ := (m.loose G (by simp)).seven
      obtain ⟨p0, p1, p2, p3⟩ := (m.get g #[.string X, .string A, .string B, .string C] (by simp)).four
      have zG := (m.2.2 G (by simp)).1
      have zR := (m.2.2 w.heap.size (by simp)).1
      have zg := (m.get g #[.string X, .string A, .string B, .string C] (by simp)).1
      obtain ⟨q0, q1, q2, q3, q4, q5, q6⟩ := (m.get w.heap.size zC (by simp)).seven
      obtain ⟨v0, v1, v2, v3, v4, v5, v6⟩ := (m.loose w.heap.size (by simp)).seven
      go_wp2
      replace m := (m.put hG' hne 6 (.int .i64 (M.rd C.data.toList).1))
      simp only [List.setIfInBounds_toArray, List.set_cons_zero, List.set_cons_succ] at m
      exact bodyPost_ret (results_sd M.zeroDd false w.heap.size _ _ rfl rfl ((m.get w.heap.size zC (by simp)).put7 _ _ _ _ _ _ _)) rfl ⟨ret_dd HE.out, far7 m.1 (Nat.le_refl _) _ _ _ _ _ _ _⟩
    ·
      rcases g1 : (M.rd C.data.toList).2 with _ | _
      ·
        have HE : Hid (M.deedRead s.data.toList = (M.zeroDd, false)) := Lib.hid (by rw [HR.out, g0, g1]; rfl)
        obtain ⟨d0, d1, d2, d3, d4, d5, d6⟩ := (m.get G #[.int .i64 3, .string A, .int .i64 0, .int .i64 0, .int .i64 0, .string ⟨#[]⟩, .int .i64 0] (by simp)).seven
        obtain ⟨t0, t1, t2, t3, t4, t5, t6⟩ := (m.loose G (by simp)).seven
        obtain ⟨p0, p1, p2, p3⟩ := (m.get g #[.string X, .string A, .string B, .string C] (by simp)).four
        have zG := (m.2.2 G (by simp)).1
        have zR := (m.2.2 w.heap.size (by simp)).1
        have zg := (m.get g #[.string X, .string A, .string B, .string C] (by simp)).1
        go_wp2_with fail
        clear d0 d1 d2 d3 d4 d5 d6 t0 t1 t2 t3 t4 t5 t6 p0 p1 p2 p3 zG zR zg
        refine (specReadEdition B _ sB).mono ?_
        rintro r w2 ⟨rfl, b1⟩
        replace m := m.below b1
        clear b1
        obtain ⟨d0, d1, d2, d3, d4, d5, d6⟩ := (m.get G #[.int .i64 3, .string A, .int .i64 0, .int .i64 0, .int .i64 0, .string ⟨#[]⟩, .int .i64 0] (by simp)).seven
        obtain ⟨t0, t1, t2, t3, t4, t5, t6⟩ := (m.loose G (by simp)).seven
        obtain ⟨p0, p1, p2, p3⟩ := (m.get g #[.string X, .string A, .string B, .string C] (by simp)).four
        have zG := (m.2.2 G (by simp)).1
        have zR := (m.2.2 w.heap.size (by simp)).1
        have zg := (m.get g #[.string X, .string A, .string B, .string C] (by simp)).1
        go_wp2_with fail
        clear d0 d1 d2 d3 d4 d5 d6 t0 t1 t2 t3 t4 t5 t6 p0 p1 p2 p3 zG zR zg
        replace m := (((m.put hG' hne 2 (.int .i64 (M.edRead B.data.toList).1.ma)).put hG' hne 3 (.int .i64 (M.edRead B.data.toList).1.mi)).put hG' hne 4 (.int .i64 (M.edRead B.data.toList).1.pa))
        simp only [List.setIfInBounds_toArray, List.set_cons_zero, List.set_cons_succ] at m
        refine (l1Read_any C _ (by unfold maxLen; omega)).mono ?_
        rintro r w3 ⟨rfl, rfl⟩
        obtain ⟨d0, d1, d2, d3, d4, d5, d6⟩ := (m.get G #[.int .i64 3, .string A, .int .i64 (M.edRead B.data.toList).1.ma, .int .i64 (M.edRead B.data.toList).1.mi, .int .i64 (M.edRead B.data.toList).1.pa, .string ⟨#[]⟩, .int .i64 0] (by simp)).seven
        obtain ⟨t0, t1, t2, t3, t4, t5, t6⟩ := (m.loose G (by simp)).seven
        obtain ⟨p0, p1, p2, p3⟩ := (m.get g #[.string X, .string A, .string B, .string C] (by simp)).four
        have zG := (m.2.2 G (by simp)).1
        have zR := (m.2.2 w.heap.size (by simp)).1
        have zg := (m.get g #[.string X, .string A, .string B, .string C] (by simp)).1
        obtain ⟨q0, q1, q2, q3, q4, q5, q6⟩ := (m.get w.heap.size zC (by simp)).seven
        obtain ⟨v0, v1, v2, v3, v4, v5, v6⟩ := (m.loose w.heap.size (by simp)).seven
        go_wp2
        replace m := (m.put hG' hne 6 (.int .i64 (M.rd C.data.toList).1))
        simp only [List.setIfInBounds_toArray, List.set_cons_zero, List.set_cons_succ] at m
        exact bodyPost_ret (results_sd M.zeroDd false w.heap.size _ _ rfl rfl ((m.get w.heap.size zC (by simp)).put7 _ _ _ _ _ _ _)) rfl ⟨ret_dd HE.out, far7 m.1 (Nat.le_refl _) _ _ _ _ _ _ _⟩
      ·
        rcases hD : M.deedOk ⟨3, A, (M.edRead B.data.toList).1, ⟨#[]⟩, (M.rd C.data.toList).1⟩ with _ | _
        ·
          have HE : Hid (M.deedRead s.data.toList = (M.zeroDd, false)) := Lib.hid (by rw [HR.out, g0, g1, hD]; rfl)
          have HD := Lib.hid hD
          clear hD
          obtain ⟨d0, d1, d2, d3, d4, d5, d6⟩ := (m.get G #[.int .i64 3, .string A, .int .i64 0, .int .i64 0, .int .i64 0, .string ⟨#[]⟩, .int .i64 0] (by simp)).seven
          obtain ⟨t0, t1, t2, t3, t4, t5, t6⟩ := (m.loose G (by simp)).seven
          obtain ⟨p0, p1, p2, p3⟩ := (m.get g #[.string X, .string A, .string B, .string C] (by simp)).four
          have zG := (m.2.2 G (by simp)).1
          have zR := (m.2.2 w.heap.size (by simp)).1
          have zg := (m.get g #[.string X, .string A, .string B, .string C] (by simp)).1
          go_wp2_with fail
          clear d0 d1 d2 d3 d4 d5 d6 t0 t1 t2 t3 t4 t5 t6 p0 p1 p2 p3 zG zR zg
          refine (specReadEdition B _ sB).mono ?_
          rintro r w2 ⟨rfl, b1⟩
          replace m := m.below b1
          clear b1
          obtain ⟨d0, d1, d2, d3, d4, d5, d6⟩ := (m.get G #[.int .i64 3, .string A, .int .i64 0, .int .i64 0, .int .i64 0, .string ⟨#[]⟩, .int .i64 0] (by simp)).seven
          obtain ⟨t0, t1, t2, t3, t4, t5, t6⟩ := (m.loose G (by simp)).seven
          obtain ⟨p0, p1, p2, p3⟩ := (m.get g #[.string X, .string A, .string B, .string C] (by simp)).four
          have zG := (m.2.2 G (by simp)).1
          have zR := (m.2.2 w.heap.size (by simp)).1
          have zg := (m.get g #[.string X, .string A, .string B, .string C] (by simp)).1
          go_wp2_with fail
          clear d0 d1 d2 d3 d4 d5 d6 t0 t1 t2 t3 t4 t5 t6 p0 p1 p2 p3 zG zR zg
          replace m := (((m.put hG' hne 2 (.int .i64 (M.edRead B.data.toList).1.ma)).put hG' hne 3 (.int .i64 (M.edRead B.data.toList).1.mi)).put hG' hne 4 (.int .i64 (M.edRead B.data.toList).1.pa))
          simp only [List.setIfInBounds_toArray, List.set_cons_zero, List.set_cons_succ] at m
          refine (l1Read_any C _ (by unfold maxLen; omega)).mono ?_
          rintro r w3 ⟨rfl, rfl⟩
          obtain ⟨d0, d1, d2, d3, d4, d5, d6⟩ := (m.get G #[.int .i64 3, .string A, .int .i64 (M.edRead B.data.toList).1.ma, .int .i64 (M.edRead B.data.toList).1.mi, .int .i64 (M.edRead B.data.toList).1.pa, .string ⟨#[]⟩, .int .i64 0] (by simp)).seven
          obtain ⟨t0, t1, t2, t3, t4, t5, t6⟩ := (m.loose G (by simp)).seven
          obtain ⟨p0, p1, p2, p3⟩ := (m.get g #[.string X, .string A, .string B, .string C] (by simp)).four
          have zG := (m.2.2 G (by simp)).1
          have zR := (m.2.2 w.heap.size (by simp)).1
          have zg := (m.get g #[.string X, .string A, .string B, .string C] (by simp)).1
          go_wp2_with fail
          clear d0 d1 d2 d3 d4 d5 d6 t0 t1 t2 t3 t4 t5 t6 p0 p1 p2 p3 zG zR zg
          replace m := (m.put hG' hne 6 (.int .i64 (M.rd C.data.toList).1))
          simp only [List.setIfInBounds_toArray, List.set_cons_zero, List.set_cons_succ] at m
          refine (specDeedOk ⟨3, A, (M.edRead B.data.toList).1, ⟨#[]⟩, (M.rd C.data.toList).1⟩ _ hnA hnP).mono ?_
          rintro r w4 ⟨hr, b1⟩
          rw [HD.out] at hr
          obtain rfl := hr
          replace m := m.below b1
          clear b1
          obtain ⟨d0, d1, d2, d3, d4, d5, d6⟩ := (m.get G #[.int .i64 3, .string A, .int .i64 (M.edRead B.data.toList).1.ma, .int .i64 (M.edRead B.data.toList).1.mi, .int .i64 (M.edRead B.data.toList).1.pa, .string ⟨#[]⟩, .int .i64 (M.rd C.data.toList).1] (by simp)).seven
          obtain ⟨t0, t1, t2, t3, t4, t5, t6⟩ := (m.loose G (by simp)).seven
          obtain ⟨p0, p1, p2, p3⟩ := (m.get g #[.string X, .string A, .string B, .string C] (by simp)).four
          have zG := (m.2.2 G (by simp)).1
          have zR := (m.2.2 w.heap.size (by simp)).1
          have zg := (m.get g #[.string X, .string A, .string B, .string C] (by simp)).1
          obtain ⟨q0, q1, q2, q3, q4, q5, q6⟩ := (m.get w.heap.size zC (by simp)).seven
          obtain ⟨v0, v1, v2, v3, v4, v5, v6⟩ := (m.loose w.heap.size (by simp)).seven
          go_wp2
          exact bodyPost_ret (results_sd M.zeroDd false w.heap.size _ _ rfl rfl ((m.get w.heap.size zC (by simp)).put7 _ _ _ _ _ _ _)) rfl ⟨ret_dd HE.out, far7 m.1 (Nat.le_refl _) _ _ _ _ _ _ _⟩
        ·
          have HE : Hid (M.deedRead s.data.toList = (⟨3, A, (M.edRead B.data.toList).1, ⟨#[]⟩, (M.rd C.data.toList).1⟩, true)) := Lib.hid (by rw [HR.out, g0, g1, hD]; rfl)
          have HD := Lib.hid hD
          clear hD
          obtain ⟨d0, d1, d2, d3, d4, d5, d6⟩ := (m.get G #[.int .i64 3, .string A, .int .i64 0, .int .i64 0, .int .i64 0, .string ⟨#[]⟩, .int .i64 0] (by simp)).seven
          obtain ⟨t0, t1, t2, t3, t4, t5, t6⟩ := (m.loose G (by simp)).seven
          obtain ⟨p0, p1, p2, p3⟩ := (m.get g #[.string X, .string A, .string B, .string C] (by simp)).four
          have zG := (m.2.2 G (by simp)).1
          have zR := (m.2.2 w.heap.size (by simp)).1
          have zg := (m.get g #[.string X, .string A, .string B, .string C] (by simp)).1
          go_wp2_with fail
          clear d0 d1 d2 d3 d4 d5 d6 t0 t1 t2 t3 t4 t5 t6 p0 p1 p2 p3 zG zR zg
          refine (specReadEdition B _ sB).mono ?_
          rintro r w2 ⟨rfl, b1⟩
          replace m := m.below b1
          clear b1
          obtain ⟨d0, d1, d2, d3, d4, d5, d6⟩ := (m.get G #[.int .i64 3, .string A, .int .i64 0, .int .i64 0, .int .i64 0, .string ⟨#[]⟩, .int .i64 0] (by simp)).seven
          obtain ⟨t0, t1, t2, t3, t4, t5, t6⟩ := (m.loose G (by simp)).seven
          obtain ⟨p0, p1, p2, p3⟩ := (m.get g #[.string X, .string A, .string B, .string C] (by simp)).four
          have zG := (m.2.2 G (by simp)).1
          have zR := (m.2.2 w.heap.size (by simp)).1
          have zg := (m.get g #[.string X, .string A, .string B, .string C] (by simp)).1
          go_wp2_with fail
          clear d0 d1 d2 d3 d4 d5 d6 t0 t1 t2 t3 t4 t5 t6 p0 p1 p2 p3 zG zR zg
          replace m := (((m.put hG' hne 2 (.int .i64 (M.edRead B.data.toList).1.ma)).put hG' hne 3 (.int .i64 (M.edRead B.data.toList).1.mi)).put hG' hne 4 (.int .i64 (M.edRead B.data.toList).1.pa))
          simp only [List.setIfInBounds_toArray, List.set_cons_zero, List.set_cons_succ] at m
          refine (l1Read_any C _ (by unfold maxLen; omega)).mono ?_
          rintro r w3 ⟨rfl, rfl⟩
          obtain ⟨d0, d1, d2, d3, d4, d5, d6⟩ := (m.get G #[.int .i64 3, .string A, .int .i64 (M.edRead B.data.toList).1.ma, .int .i64 (M.edRead B.data.toList).1.mi, .int .i64 (M.edRead B.data.toList).1.pa, .string ⟨#[]⟩, .int .i64 0] (by simp)).seven
          obtain ⟨t0, t1, t2, t3, t4, t5, t6⟩ := (m.loose G (by simp)).seven
          obtain ⟨p0, p1, p2, p3⟩ := (m.get g #[.string X, .string A, .string B, .string C] (by simp)).four
          have zG := (m.2.2 G (by simp)).1
          have zR := (m.2.2 w.heap.size (by simp)).1
          have zg := (m.get g #[.string X, .string A, .string B, .string C] (by simp)).1
          go_wp2_with fail
          clear d0 d1 d2 d3 d4 d5 d6 t0 t1 t2 t3 t4 t5 t6 p0 p1 p2 p3 zG zR zg
          replace m := (m.put hG' hne 6 (.int .i64 (M.rd C.data.toList).1))
          simp only [List.setIfInBounds_toArray, List.set_cons_zero, List.set_cons_succ] at m
          refine (specDeedOk ⟨3, A, (M.edRead B.data.toList).1, ⟨#[]⟩, (M.rd C.data.toList).1⟩ _ hnA hnP).mono ?_
          rintro r w4 ⟨hr, b1⟩
          rw [HD.out] at hr
          obtain rfl := hr
          replace m := m.below b1
          clear b1
          obtain ⟨d0, d1, d2, d3, d4, d5, d6⟩ := (m.get G #[.int .i64 3, .string A, .int .i64 (M.edRead B.data.toList).1.ma, .int .i64 (M.edRead B.data.toList).1.mi, .int .i64 (M.edRead B.data.toList).1.pa, .string ⟨#[]⟩, .int .i64 (M.rd C.data.toList).1] (by simp)).seven
          obtain ⟨t0, t1, t2, t3, t4, t5, t6⟩ := (m.loose G (by simp)).seven
          obtain ⟨p0, p1, p2, p3⟩ := (m.get g #[.string X, .string A, .string B, .string C] (by simp)).four
          have zG := (m.2.2 G (by simp)).1
          have zR := (m.2.2 w.heap.size (by simp)).1
          have zg := (m.get g #[.string X, .string A, .string B, .string C] (by simp)).1
          obtain ⟨q0, q1, q2, q3, q4, q5, q6⟩ := (m.get w.heap.size zC (by simp)).seven
          obtain ⟨v0, v1, v2, v3, v4, v5, v6⟩ := (m.loose w.heap.size (by simp)).seven
          go_wp2
          exact bodyPost_ret (results_sd ⟨3, A, (M.edRead B.data.toList).1, ⟨#[]⟩, (M.rd C.data.toList).1⟩ true w.heap.size _ _ rfl rfl ((m.get w.heap.size zC (by simp)).put7 _ _ _ _ _ _ _)) rfl ⟨ret_dd HE.out, far7 m.1 (Nat.le_refl _) _ _ _ _ _ _ _⟩
set_option maxHeartbeats 4000000 in
theorem specRead_show (s X A B C : ByteArray) (w : World) (hs : s.size ≤ 1048576) (hL : M.split 32 s.data.toList = [X, A, B, C].map (·.data.toList)) (hk : kd X = 4) (sA : A.size ≤ 1048576) (sB : B.size ≤ 1048576) (sC : C.size ≤ 1048576) (hR : M.deedRead s.data.toList = if ((M.edRead B.data.toList).2 && (M.rd C.data.toList).2) && M.deedOk ⟨4, A, (M.edRead B.data.toList).1, ⟨#[]⟩, (M.rd C.data.toList).1⟩ then (⟨4, A, (M.edRead B.data.toList).1, ⟨#[]⟩, (M.rd C.data.toList).1⟩, true) else (M.zeroDd, false)) :
    Calls Tryz.prog 9 #[.string s] w fun r w' => r = .returned (.tuple #[ddV (M.deedRead s.data.toList).1, .bool (M.deedRead s.data.toList).2]) ∧ Below w.heap.size w w' := by
  have HR := Lib.hid hR
  have hnA : (⟨4, A, (M.edRead B.data.toList).1, ⟨#[]⟩, (M.rd C.data.toList).1⟩ : M.Dd).name.size ≤ maxLen := by show A.size ≤ _; unfold maxLen; omega
  have hnP : (⟨4, A, (M.edRead B.data.toList).1, ⟨#[]⟩, (M.rd C.data.toList).1⟩ : M.Dd).page.size ≤ maxLen := by show 0 ≤ _; omega
  clear hR
  have m0 := (Mem.start w).new zC 27
  go_enter Tryz.func9, Tryz.ntmps9
  go_wp2_with fail
  refine (l1Split_any s 32 _ hs).mono ?_
  rintro r w1 ⟨v, rfl, hrow, b1⟩
  obtain ⟨g, cap, rfl, hg0, hg⟩ := row_holds hrow [X, A, B, C] hL (by simp)
  simp only [World.size_alloc, List.map_cons, List.map_nil] at hg0 hg
  replace m0 := (m0.below b1).add hg
  have zR : w.heap.size < w1.heap.size := (m0.2.2 _ (by simp)).1
  have zg : g < w1.heap.size := hg.1
  have hwr : IntKind.i64.wrap 4 = 4 := by decide
  clear b1 hrow hL hg
  go_upto_region 2 with (fail)
  go_cut [5] (fun s5 wx => ReadW2 w g 4 #[.string X, .string A, .string B, .string C] s5 wx)
  case first =>
    refine wp_region_tr (Mem w [(g, #[.string X, .string A, .string B, .string C]), (w.heap.size, zC)] [w.heap.size]) (.read 1 (.read 2 (.read 3 (.two 0 7 (.two 4 7 (.read 5 (.read 6 (.one 7 (.one 8 .done)))) (.one 4 (.read 5 (.read 6 (.one 8 .done))))) (.one 0 (.one 4 (.read 5 (.read 6 (.one 8 .done))))))))) (by kernel_rfl) (by kernel_rfl) (fun _ _ _ _ _ h => h) (by kernel_rfl) (by decide) ?_ ?_
    · exact m0.drew
    intro hHeld
    repeat (first
      | (refine tr_reads (by simp only [List.getElem?_toArray, List.getElem?_cons_succ, List.getElem?_cons_zero]; first | done | rfl) (by rfl) ?_; apply Exists.intro; apply And.intro; (focus (intro w hSw; (try (have hq := Holds.four (Mem.get hSw g #[.string X, .string A, .string B, .string C] (by simp)))); go_split_ands; go_simp; (try with_reducible rfl); done)); (try simp only [Act.put, List.setIfInBounds_toArray, List.set_cons_zero, List.set_cons_succ]))
      | (refine tr_two ?_ ?_)
      | (refine tr_one (by simp only [List.getElem?_toArray, List.getElem?_cons_zero]; first | done | rfl) (by rfl) (fun K hK => ?_); go_simp; go_at_call 26; refine (l3Words_at _).mono ?_; rintro r w2 ⟨rfl, rfl⟩; go_simp; refine hK.out _ _ _ (fun x h => h) (by first | exact (m0.alloc _).drew | exact ((m0.alloc _).alloc _).drew) ?_; clear hHeld hK; intro hHeld; (try simp only [Act.put, List.setIfInBounds_toArray, List.set_cons_zero, List.set_cons_succ]))
      | (refine tr_one (by simp only [List.getElem?_toArray, List.getElem?_cons_succ, List.getElem?_cons_zero]; first | done | rfl) (by rfl) (fun K hK => ?_); go_simp; go_at_call 25; refine (l1At_words _ X _ (by first | exact words_at0 _ _ | exact words_at1 _ _ _ | exact words_at2 _ _ _)).mono ?_; rintro r w2 ⟨rfl, rfl⟩; rw [hk]; go_simp; refine hK.out _ _ _ (fun x h => h) (by first | exact (m0.alloc _).drew | exact ((m0.alloc _).alloc _).drew) ?_; clear hHeld hK; intro hHeld; (try simp only [Act.put, List.setIfInBounds_toArray, List.set_cons_zero, List.set_cons_succ]))
      | (refine tr_one (by simp only [List.getElem?_toArray, List.getElem?_cons_succ, List.getElem?_cons_zero]; first | done | rfl) (by rfl) (fun K hK => ?_); go_simp; refine hK.out _ _ _ (fun x h => h) (by first | exact (m0.alloc _).drew | exact ((m0.alloc _).alloc _).drew) ?_; clear hHeld hK; intro hHeld; (try simp only [Act.put, List.setIfInBounds_toArray, List.set_cons_zero, List.set_cons_succ]))
      | (refine tr_end ?_; go_wp2; go_meet; (first | exact ⟨_, rfl, zR, fun e => Nat.ne_of_lt zg e.symm, ((m0.new (d0C 4) _).alloc _).drew⟩ | exact ⟨_, rfl, Nat.lt_succ_of_lt zR, fun e => Nat.ne_of_lt (Nat.lt_succ_of_lt zg) e.symm, (m0.new1 _ (d0C 4) _).drew⟩)))
  case rest =>
    clear m0 zR zg hwr
    obtain ⟨G, rfl, hG, hGg, m⟩ := hcut
    have hG' : w.heap.size ≤ G := Nat.le_of_lt hG
    have hGR : w.heap.size ≠ G := Nat.ne_of_lt hG
    have hgG : g ≠ G := fun e => hGg e.symm
    have hne : ∀ p ∈ [(g, (#[.string X, .string A, .string B, .string C] : Array Value)), (w.heap.size, zC)], p.1 ≠ G := by simp [hgG, hGR]
    simp only [d0C] at m
    obtain ⟨d0, d1, d2, d3, d4, d5, d6⟩ := (m.get G #[.int .i64 4, .string ⟨#[]⟩, .int .i64 0, .int .i64 0, .int .i64 0, .string ⟨#[]⟩, .int .i64 0] (by simp)).seven
    obtain ⟨t0, t1, t2, t3, t4, t5, t6⟩ := (m.loose G (by simp)).seven
    obtain ⟨p0, p1, p2, p3⟩ := (m.get g #[.string X, .string A, .string B, .string C] (by simp)).four
    have zG := (m.2.2 G (by simp)).1
    have zR := (m.2.2 w.heap.size (by simp)).1
    have zg := (m.get g #[.string X, .string A, .string B, .string C] (by simp)).1
    go_wp2_with fail
    clear d0 d1 d2 d3 d4 d5 d6 t0 t1 t2 t3 t4 t5 t6 p0 p1 p2 p3 zG zR zg
    replace m := ((m.put hG' hne 1 (.string A)).alloc (.cells #[.int .i64 0, .int .i64 3, .int .i64 5, .int .i64 4, .int .i64 4, .int .i64 3, .int .i64 4] 3))
    simp only [List.setIfInBounds_toArray, List.set_cons_zero, List.set_cons_succ] at m
    generalize (wc.setCell ⟨G, 1, none⟩ (.string A)).alloc (.cells #[.int .i64 0, .int .i64 3, .int .i64 5, .int .i64 4, .int .i64 4, .int .i64 3, .int .i64 4] 3) = wd at m ⊢
    refine (in_i _ _ _ _).mono ?_
    rintro e w' ⟨rfl, rfl⟩
    rw [show M.inI 4 2 5 = true by decide]
    rcases g0 : (M.edRead B.data.toList).2 with _ | _
    ·
      have HE : Hid (M.deedRead s.data.toList = (M.zeroDd, false)) := Lib.hid (by rw [HR.out, g0]; rfl)
      obtain ⟨d0, d1, d2, d3, d4, d5, d6⟩ := (m.get G #[.int .i64 4, .string A, .int .i64 0, .int .i64 0, .int .i64 0, .string ⟨#[]⟩, .int .i64 0] (by simp)).seven
      obtain ⟨t0, t1, t2, t3, t4, t5, t6⟩ := (m.loose G (by simp)).seven
      obtain ⟨p0, p1, p2, p3⟩ := (m.get g #[.string X, .string A, .string B, .string C] (by simp)).four
      have zG := (m.2.2 G (by simp)).1
      have zR := (m.2.2 w.heap.size (by simp)).1
      have zg := (m.get g #[.string X, .string A, .string B, .string C] (by simp)).1
      go_wp2_with fail
      clear d0 d1 d2 d3 d4 d5 d6 t0 t1 t2 t3 t4 t5 t6 p0 p1 p2 p3 zG zR zg
      refine (specReadEdition B _ sB).mono ?_
      rintro r w2 ⟨rfl, b1⟩
      replace m := m.below b1
      clear b1
      obtain ⟨d0, d1, d2, d3, d4, d5, d6⟩ := (m.get G #[.int .i64 4, .string A, .int .i64 0, .int .i64 0, .int .i64 0, .string ⟨#[]⟩, .int .i64 0] (by simp)).seven
      obtain ⟨t0, t1, t2, t3, t4, t5, t6⟩ := (m.loose G (by simp)).seven
      obtain ⟨p0, p1, p2, p3⟩ := (m.get g #[.string X, .string A, .string B, .string C] (by simp)).four
      have zG := (m.2.2 G (by simp)).1
      have zR := (m.2.2 w.heap.size (by simp)).1
      have zg := (m.get g #[.string X, .string A, .string B, .string C] (by simp)).1
      go_wp2_with fail
      clear d0 d1 d2 d3 d4 d5 d6 t0 t1 t2 t3 t4 t5 t6 p0 p1 p2 p3 zG zR zg
      replace m := (((m.put hG' hne 2 (.int .i64 (M.edRead B.data.toList).1.ma)).put hG' hne 3 (.int .i64 (M.edRead B.data.toList).1.mi)).put hG' hne 4 (.int .i64 (M.edRead B.data.toList).1.pa))
      simp only [List.setIfInBounds_toArray, List.set_cons_zero, List.set_cons_succ] at m
      refine (l1Read_any C _ (by unfold maxLen; omega)).mono ?_
      rintro r w3 ⟨rfl, rfl⟩
      obtain ⟨d0, d1, d2, d3, d4, d5, d6⟩ := (m.get G #[.int .i64 4, .string A, .int .i64 (M.edRead B.data.toList).1.ma, .int .i64 (M.edRead B.data.toList).1.mi, .int .i64 (M.edRead B.data.toList).1.pa, .string ⟨#[]⟩, .int .i64 0] (by simp)).seven
      obtain ⟨t0, t1, t2, t3, t4, t5, t6⟩ := (m.loose G (by simp)).seven
      obtain ⟨p0, p1, p2, p3⟩ := (m.get g #[.string X, .string A, .string B, .string C] (by simp)).four
      have zG := (m.2.2 G (by simp)).1
      have zR := (m.2.2 w.heap.size (by simp)).1
      have zg := (m.get g #[.string X, .string A, .string B, .string C] (by simp)).1
      obtain ⟨q0, q1, q2, q3, q4, q5, q6⟩ := (m.get w.heap.size zC (by simp)).seven
      obtain ⟨v0, v1, v2, v3, v4, v5, v6⟩ := (m.loose w.heap.size (by simp)).seven
      go_wp2
      replace m := (m.put hG' hne 6 (.int .i64 (M.rd C.data.toList).1))
      simp only [List.setIfInBounds_toArray, List.set_cons_zero, List.set_cons_succ] at m
      exact bodyPost_ret (results_sd M.zeroDd false w.heap.size _ _ rfl rfl ((m.get w.heap.size zC (by simp)).put7 _ _ _ _ _ _ _)) rfl ⟨ret_dd HE.out, far7 m.1 (Nat.le_refl _) _ _ _ _ _ _ _⟩
    ·
      rcases g1 : (M.rd C.data.toList).2 with _ | _
      ·
        have HE : Hid (M.deedRead s.data.toList = (M.zeroDd, false)) := Lib.hid (by rw [HR.out, g0, g1]; rfl)
        obtain ⟨d0, d1, d2, d3, d4, d5, d6⟩ := (m.get G #[.int .i64 4, .string A, .int .i64 0, .int .i64 0, .int .i64 0, .string ⟨#[]⟩, .int .i64 0] (by simp)).seven
        obtain ⟨t0, t1, t2, t3, t4, t5, t6⟩ := (m.loose G (by simp)).seven
        obtain ⟨p0, p1, p2, p3⟩ := (m.get g #[.string X, .string A, .string B, .string C] (by simp)).four
        have zG := (m.2.2 G (by simp)).1
        have zR := (m.2.2 w.heap.size (by simp)).1
        have zg := (m.get g #[.string X, .string A, .string B, .string C] (by simp)).1
        go_wp2_with fail
        clear d0 d1 d2 d3 d4 d5 d6 t0 t1 t2 t3 t4 t5 t6 p0 p1 p2 p3 zG zR zg
        refine (specReadEdition B _ sB).mono ?_
        rintro r w2 ⟨rfl, b1⟩
        replace m := m.below b1
        clear b1
        obtain ⟨d0, d1, d2, d3, d4, d5, d6⟩ := (m.get G #[.int .i64 4, .string A, .int .i64 0, .int .i64 0, .int .i64 0, .string ⟨#[]⟩, .int .i64 0] (by simp)).seven
        obtain ⟨t0, t1, t2, t3, t4, t5, t6⟩ := (m.loose G (by simp)).seven
        obtain ⟨p0, p1, p2, p3⟩ := (m.get g #[.string X, .string A, .string B, .string C] (by simp)).four
        have zG := (m.2.2 G (by simp)).1
        have zR := (m.2.2 w.heap.size (by simp)).1
        have zg := (m.get g #[.string X, .string A, .string B, .string C] (by simp)).1
        go_wp2_with fail
        clear d0 d1 d2 d3 d4 d5 d6 t0 t1 t2 t3 t4 t5 t6 p0 p1 p2 p3 zG zR zg
        replace m := (((m.put hG' hne 2 (.int .i64 (M.edRead B.data.toList).1.ma)).put hG' hne 3 (.int .i64 (M.edRead B.data.toList).1.mi)).put hG' hne 4 (.int .i64 (M.edRead B.data.toList).1.pa))
        simp only [List.setIfInBounds_toArray, List.set_cons_zero, List.set_cons_succ] at m
        refine (l1Read_any C _ (by unfold maxLen; omega)).mono ?_
        rintro r w3 ⟨rfl, rfl⟩
        obtain ⟨d0, d1, d2, d3, d4, d5, d6⟩ := (m.get G #[.int .i64 4, .string A, .int .i64 (M.edRead B.data.toList).1.ma, .int .i64 (M.edRead B.data.toList).1.mi, .int .i64 (M.edRead B.data.toList).1.pa, .string ⟨#[]⟩, .int .i64 0] (by simp)).seven
        obtain ⟨t0, t1, t2, t3, t4, t5, t6⟩ := (m.loose G (by simp)).seven
        obtain ⟨p0, p1, p2, p3⟩ := (m.get g #[.string X, .string A, .string B, .string C] (by simp)).four
        have zG := (m.2.2 G (by simp)).1
        have zR := (m.2.2 w.heap.size (by simp)).1
        have zg := (m.get g #[.string X, .string A, .string B, .string C] (by simp)).1
        obtain ⟨q0, q1, q2, q3, q4, q5, q6⟩ := (m.get w.heap.size zC (by simp)).seven
        obtain ⟨v0, v1, v2, v3, v4, v5, v6⟩ := (m.loose w.heap.size (by simp)).seven
        go_wp2
        replace m := (m.put hG' hne 6 (.int .i64 (M.rd C.data.toList).1))
        simp only [List.setIfInBounds_toArray, List.set_cons_zero, List.set_cons_succ] at m
        exact bodyPost_ret (results_sd M.zeroDd false w.heap.size _ _ rfl rfl ((m.get w.heap.size zC (by simp)).put7 _ _ _ _ _ _ _)) rfl ⟨ret_dd HE.out, far7 m.1 (Nat.le_refl _) _ _ _ _ _ _ _⟩
      ·
        rcases hD : M.deedOk ⟨4, A, (M.edRead B.data.toList).1, ⟨#[]⟩, (M.rd C.data.toList).1⟩ with _ | _
        ·
          have HE : Hid (M.deedRead s.data.toList = (M.zeroDd, false)) := Lib.hid (by rw [HR.out, g0, g1, hD]; rfl)
          have HD := Lib.hid hD
          clear hD
          obtain ⟨d0, d1, d2, d3, d4, d5, d6⟩ := (m.get G #[.int .i64 4, .string A, .int .i64 0, .int .i64 0, .int .i64 0, .string ⟨#[]⟩, .int .i64 0] (by simp)).seven
          obtain ⟨t0, t1, t2, t3, t4, t5, t6⟩ := (m.loose G (by simp)).seven
          obtain ⟨p0, p1, p2, p3⟩ := (m.get g #[.string X, .string A, .string B, .string C] (by simp)).four
          have zG := (m.2.2 G (by simp)).1
          have zR := (m.2.2 w.heap.size (by simp)).1
          have zg := (m.get g #[.string X, .string A, .string B, .string C] (by simp)).1
          go_wp2_with fail
          clear d0 d1 d2 d3 d4 d5 d6 t0 t1 t2 t3 t4 t5 t6 p0 p1 p2 p3 zG zR zg
          refine (specReadEdition B _ sB).mono ?_
          rintro r w2 ⟨rfl, b1⟩
          replace m := m.below b1
          clear b1
          obtain ⟨d0, d1, d2, d3, d4, d5, d6⟩ := (m.get G #[.int .i64 4, .string A, .int .i64 0, .int .i64 0, .int .i64 0, .string ⟨#[]⟩, .int .i64 0] (by simp)).seven
          obtain ⟨t0, t1, t2, t3, t4, t5, t6⟩ := (m.loose G (by simp)).seven
          obtain ⟨p0, p1, p2, p3⟩ := (m.get g #[.string X, .string A, .string B, .string C] (by simp)).four
          have zG := (m.2.2 G (by simp)).1
          have zR := (m.2.2 w.heap.size (by simp)).1
          have zg := (m.get g #[.string X, .string A, .string B, .string C] (by simp)).1
          go_wp2_with fail
          clear d0 d1 d2 d3 d4 d5 d6 t0 t1 t2 t3 t4 t5 t6 p0 p1 p2 p3 zG zR zg
          replace m := (((m.put hG' hne 2 (.int .i64 (M.edRead B.data.toList).1.ma)).put hG' hne 3 (.int .i64 (M.edRead B.data.toList).1.mi)).put hG' hne 4 (.int .i64 (M.edRead B.data.toList).1.pa))
          simp only [List.setIfInBounds_toArray, List.set_cons_zero, List.set_cons_succ] at m
          refine (l1Read_any C _ (by unfold maxLen; omega)).mono ?_
          rintro r w3 ⟨rfl, rfl⟩
          obtain ⟨d0, d1, d2, d3, d4, d5, d6⟩ := (m.get G #[.int .i64 4, .string A, .int .i64 (M.edRead B.data.toList).1.ma, .int .i64 (M.edRead B.data.toList).1.mi, .int .i64 (M.edRead B.data.toList).1.pa, .string ⟨#[]⟩, .int .i64 0] (by simp)).seven
          obtain ⟨t0, t1, t2, t3, t4, t5, t6⟩ := (m.loose G (by simp)).seven
          obtain ⟨p0, p1, p2, p3⟩ := (m.get g #[.string X, .string A, .string B, .string C] (by simp)).four
          have zG := (m.2.2 G (by simp)).1
          have zR := (m.2.2 w.heap.size (by simp)).1
          have zg := (m.get g #[.string X, .string A, .string B, .string C] (by simp)).1
          go_wp2_with fail
          clear d0 d1 d2 d3 d4 d5 d6 t0 t1 t2 t3 t4 t5 t6 p0 p1 p2 p3 zG zR zg
          replace m := (m.put hG' hne 6 (.int .i64 (M.rd C.data.toList).1))
          simp only [List.setIfInBounds_toArray, List.set_cons_zero, List.set_cons_succ] at m
          refine (specDeedOk ⟨4, A, (M.edRead B.data.toList).1, ⟨#[]⟩, (M.rd C.data.toList).1⟩ _ hnA hnP).mono ?_
          rintro r w4 ⟨hr, b1⟩
          rw [HD.out] at hr
          obtain rfl := hr
          replace m := m.below b1
          clear b1
          obtain ⟨d0, d1, d2, d3, d4, d5, d6⟩ := (m.get G #[.int .i64 4, .string A, .int .i64 (M.edRead B.data.toList).1.ma, .int .i64 (M.edRead B.data.toList).1.mi, .int .i64 (M.edRead B.data.toList).1.pa, .string ⟨#[]⟩, .int .i64 (M.rd C.data.toList).1] (by simp)).seven
          obtain ⟨t0, t1, t2, t3, t4, t5, t6⟩ := (m.loose G (by simp)).seven
          obtain ⟨p0, p1, p2, p3⟩ := (m.get g #[.string X, .string A, .string B, .string C] (by simp)).four
          have zG := (m.2.2 G (by simp)).1
          have zR := (m.2.2 w.heap.size (by simp)).1
          have zg := (m.get g #[.string X, .string A, .string B, .string C] (by simp)).1
          obtain ⟨q0, q1, q2, q3, q4, q5, q6⟩ := (m.get w.heap.size zC (by simp)).seven
          obtain ⟨v0, v1, v2, v3, v4, v5, v6⟩ := (m.loose w.heap.size (by simp)).seven
          go_wp2
          exact bodyPost_ret (results_sd M.zeroDd false w.heap.size _ _ rfl rfl ((m.get w.heap.size zC (by simp)).put7 _ _ _ _ _ _ _)) rfl ⟨ret_dd HE.out, far7 m.1 (Nat.le_refl _) _ _ _ _ _ _ _⟩
        ·
          have HE : Hid (M.deedRead s.data.toList = (⟨4, A, (M.edRead B.data.toList).1, ⟨#[]⟩, (M.rd C.data.toList).1⟩, true)) := Lib.hid (by rw [HR.out, g0, g1, hD]; rfl)
          have HD := Lib.hid hD
          clear hD
          obtain ⟨d0, d1, d2, d3, d4, d5, d6⟩ := (m.get G #[.int .i64 4, .string A, .int .i64 0, .int .i64 0, .int .i64 0, .string ⟨#[]⟩, .int .i64 0] (by simp)).seven
          obtain ⟨t0, t1, t2, t3, t4, t5, t6⟩ := (m.loose G (by simp)).seven
          obtain ⟨p0, p1, p2, p3⟩ := (m.get g #[.string X, .string A, .string B, .string C] (by simp)).four
          have zG := (m.2.2 G (by simp)).1
          have zR := (m.2.2 w.heap.size (by simp)).1
          have zg := (m.get g #[.string X, .string A, .string B, .string C] (by simp)).1
          go_wp2_with fail
          clear d0 d1 d2 d3 d4 d5 d6 t0 t1 t2 t3 t4 t5 t6 p0 p1 p2 p3 zG zR zg
          refine (specReadEdition B _ sB).mono ?_
          rintro r w2 ⟨rfl, b1⟩
          replace m := m.below b1
          clear b1
          obtain ⟨d0, d1, d2, d3, d4, d5, d6⟩ := (m.get G #[.int .i64 4, .string A, .int .i64 0, .int .i64 0, .int .i64 0, .string ⟨#[]⟩, .int .i64 0] (by simp)).seven
          obtain ⟨t0, t1, t2, t3, t4, t5, t6⟩ := (m.loose G (by simp)).seven
          obtain ⟨p0, p1, p2, p3⟩ := (m.get g #[.string X, .string A, .string B, .string C] (by simp)).four
          have zG := (m.2.2 G (by simp)).1
          have zR := (m.2.2 w.heap.size (by simp)).1
          have zg := (m.get g #[.string X, .string A, .string B, .string C] (by simp)).1
          go_wp2_with fail
          clear d0 d1 d2 d3 d4 d5 d6 t0 t1 t2 t3 t4 t5 t6 p0 p1 p2 p3 zG zR zg
          replace m := (((m.put hG' hne 2 (.int .i64 (M.edRead B.data.toList).1.ma)).put hG' hne 3 (.int .i64 (M.edRead B.data.toList).1.mi)).put hG' hne 4 (.int .i64 (M.edRead B.data.toList).1.pa))
          simp only [List.setIfInBounds_toArray, List.set_cons_zero, List.set_cons_succ] at m
          refine (l1Read_any C _ (by unfold maxLen; omega)).mono ?_
          rintro r w3 ⟨rfl, rfl⟩
          obtain ⟨d0, d1, d2, d3, d4, d5, d6⟩ := (m.get G #[.int .i64 4, .string A, .int .i64 (M.edRead B.data.toList).1.ma, .int .i64 (M.edRead B.data.toList).1.mi, .int .i64 (M.edRead B.data.toList).1.pa, .string ⟨#[]⟩, .int .i64 0] (by simp)).seven
          obtain ⟨t0, t1, t2, t3, t4, t5, t6⟩ := (m.loose G (by simp)).seven
          obtain ⟨p0, p1, p2, p3⟩ := (m.get g #[.string X, .string A, .string B, .string C] (by simp)).four
          have zG := (m.2.2 G (by simp)).1
          have zR := (m.2.2 w.heap.size (by simp)).1
          have zg := (m.get g #[.string X, .string A, .string B, .string C] (by simp)).1
          go_wp2_with fail
          clear d0 d1 d2 d3 d4 d5 d6 t0 t1 t2 t3 t4 t5 t6 p0 p1 p2 p3 zG zR zg
          replace m := (m.put hG' hne 6 (.int .i64 (M.rd C.data.toList).1))
          simp only [List.setIfInBounds_toArray, List.set_cons_zero, List.set_cons_succ] at m
          refine (specDeedOk ⟨4, A, (M.edRead B.data.toList).1, ⟨#[]⟩, (M.rd C.data.toList).1⟩ _ hnA hnP).mono ?_
          rintro r w4 ⟨hr, b1⟩
          rw [HD.out] at hr
          obtain rfl := hr
          replace m := m.below b1
          clear b1
          obtain ⟨d0, d1, d2, d3, d4, d5, d6⟩ := (m.get G #[.int .i64 4, .string A, .int .i64 (M.edRead B.data.toList).1.ma, .int .i64 (M.edRead B.data.toList).1.mi, .int .i64 (M.edRead B.data.toList).1.pa, .string ⟨#[]⟩, .int .i64 (M.rd C.data.toList).1] (by simp)).seven
          obtain ⟨t0, t1, t2, t3, t4, t5, t6⟩ := (m.loose G (by simp)).seven
          obtain ⟨p0, p1, p2, p3⟩ := (m.get g #[.string X, .string A, .string B, .string C] (by simp)).four
          have zG := (m.2.2 G (by simp)).1
          have zR := (m.2.2 w.heap.size (by simp)).1
          have zg := (m.get g #[.string X, .string A, .string B, .string C] (by simp)).1
          obtain ⟨q0, q1, q2, q3, q4, q5, q6⟩ := (m.get w.heap.size zC (by simp)).seven
          obtain ⟨v0, v1, v2, v3, v4, v5, v6⟩ := (m.loose w.heap.size (by simp)).seven
          go_wp2
          exact bodyPost_ret (results_sd ⟨4, A, (M.edRead B.data.toList).1, ⟨#[]⟩, (M.rd C.data.toList).1⟩ true w.heap.size _ _ rfl rfl ((m.get w.heap.size zC (by simp)).put7 _ _ _ _ _ _ _)) rfl ⟨ret_dd HE.out, far7 m.1 (Nat.le_refl _) _ _ _ _ _ _ _⟩
set_option maxHeartbeats 4000000 in
theorem specRead_fetch (s X A B : ByteArray) (w : World) (hs : s.size ≤ 1048576) (hL : M.split 32 s.data.toList = [X, A, B].map (·.data.toList)) (hk : kd X = 5) (sA : A.size ≤ 1048576) (sB : B.size ≤ 1048576) (hR : M.deedRead s.data.toList = if ((M.edRead B.data.toList).2) && M.deedOk ⟨5, A, (M.edRead B.data.toList).1, ⟨#[]⟩, 0⟩ then (⟨5, A, (M.edRead B.data.toList).1, ⟨#[]⟩, 0⟩, true) else (M.zeroDd, false)) :
    Calls Tryz.prog 9 #[.string s] w fun r w' => r = .returned (.tuple #[ddV (M.deedRead s.data.toList).1, .bool (M.deedRead s.data.toList).2]) ∧ Below w.heap.size w w' := by
  have HR := Lib.hid hR
  have hnA : (⟨5, A, (M.edRead B.data.toList).1, ⟨#[]⟩, 0⟩ : M.Dd).name.size ≤ maxLen := by show A.size ≤ _; unfold maxLen; omega
  have hnP : (⟨5, A, (M.edRead B.data.toList).1, ⟨#[]⟩, 0⟩ : M.Dd).page.size ≤ maxLen := by show 0 ≤ _; omega
  clear hR
  have m0 := (Mem.start w).new zC 27
  go_enter Tryz.func9, Tryz.ntmps9
  go_wp2_with fail
  refine (l1Split_any s 32 _ hs).mono ?_
  rintro r w1 ⟨v, rfl, hrow, b1⟩
  obtain ⟨g, cap, rfl, hg0, hg⟩ := row_holds hrow [X, A, B] hL (by simp)
  simp only [World.size_alloc, List.map_cons, List.map_nil] at hg0 hg
  replace m0 := (m0.below b1).add hg
  have zR : w.heap.size < w1.heap.size := (m0.2.2 _ (by simp)).1
  have zg : g < w1.heap.size := hg.1
  have hwr : IntKind.i64.wrap 5 = 5 := by decide
  clear b1 hrow hL hg
  go_upto_region 2 with (fail)
  go_cut [5] (fun s5 wx => ReadW2 w g 5 #[.string X, .string A, .string B] s5 wx)
  case first =>
    refine wp_region_tr (Mem w [(g, #[.string X, .string A, .string B]), (w.heap.size, zC)] [w.heap.size]) (.read 1 (.read 2 (.read 3 (.two 0 7 (.two 4 7 (.read 5 (.read 6 (.one 7 (.one 8 .done)))) (.one 4 (.read 5 (.read 6 (.one 8 .done))))) (.one 0 (.one 4 (.read 5 (.read 6 (.one 8 .done))))))))) (by kernel_rfl) (by kernel_rfl) (fun _ _ _ _ _ h => h) (by kernel_rfl) (by decide) ?_ ?_
    · exact m0.drew
    intro hHeld
    repeat (first
      | (refine tr_reads (by simp only [List.getElem?_toArray, List.getElem?_cons_succ, List.getElem?_cons_zero]; first | done | rfl) (by rfl) ?_; apply Exists.intro; apply And.intro; (focus (intro w hSw; (try (have hq := Holds.three (Mem.get hSw g #[.string X, .string A, .string B] (by simp)))); go_split_ands; go_simp; (try with_reducible rfl); done)); (try simp only [Act.put, List.setIfInBounds_toArray, List.set_cons_zero, List.set_cons_succ]))
      | (refine tr_two ?_ ?_)
      | (refine tr_one (by simp only [List.getElem?_toArray, List.getElem?_cons_zero]; first | done | rfl) (by rfl) (fun K hK => ?_); go_simp; go_at_call 26; refine (l3Words_at _).mono ?_; rintro r w2 ⟨rfl, rfl⟩; go_simp; refine hK.out _ _ _ (fun x h => h) (by first | exact (m0.alloc _).drew | exact ((m0.alloc _).alloc _).drew) ?_; clear hHeld hK; intro hHeld; (try simp only [Act.put, List.setIfInBounds_toArray, List.set_cons_zero, List.set_cons_succ]))
      | (refine tr_one (by simp only [List.getElem?_toArray, List.getElem?_cons_succ, List.getElem?_cons_zero]; first | done | rfl) (by rfl) (fun K hK => ?_); go_simp; go_at_call 25; refine (l1At_words _ X _ (by first | exact words_at0 _ _ | exact words_at1 _ _ _ | exact words_at2 _ _ _)).mono ?_; rintro r w2 ⟨rfl, rfl⟩; rw [hk]; go_simp; refine hK.out _ _ _ (fun x h => h) (by first | exact (m0.alloc _).drew | exact ((m0.alloc _).alloc _).drew) ?_; clear hHeld hK; intro hHeld; (try simp only [Act.put, List.setIfInBounds_toArray, List.set_cons_zero, List.set_cons_succ]))
      | (refine tr_one (by simp only [List.getElem?_toArray, List.getElem?_cons_succ, List.getElem?_cons_zero]; first | done | rfl) (by rfl) (fun K hK => ?_); go_simp; refine hK.out _ _ _ (fun x h => h) (by first | exact (m0.alloc _).drew | exact ((m0.alloc _).alloc _).drew) ?_; clear hHeld hK; intro hHeld; (try simp only [Act.put, List.setIfInBounds_toArray, List.set_cons_zero, List.set_cons_succ]))
      | (refine tr_end ?_; go_wp2; go_meet; (first | exact ⟨_, rfl, zR, fun e => Nat.ne_of_lt zg e.symm, ((m0.new (d0C 5) _).alloc _).drew⟩ | exact ⟨_, rfl, Nat.lt_succ_of_lt zR, fun e => Nat.ne_of_lt (Nat.lt_succ_of_lt zg) e.symm, (m0.new1 _ (d0C 5) _).drew⟩)))
  case rest =>
    clear m0 zR zg hwr
    obtain ⟨G, rfl, hG, hGg, m⟩ := hcut
    have hG' : w.heap.size ≤ G := Nat.le_of_lt hG
    have hGR : w.heap.size ≠ G := Nat.ne_of_lt hG
    have hgG : g ≠ G := fun e => hGg e.symm
    have hne : ∀ p ∈ [(g, (#[.string X, .string A, .string B] : Array Value)), (w.heap.size, zC)], p.1 ≠ G := by simp [hgG, hGR]
    simp only [d0C] at m
    obtain ⟨d0, d1, d2, d3, d4, d5, d6⟩ := (m.get G #[.int .i64 5, .string ⟨#[]⟩, .int .i64 0, .int .i64 0, .int .i64 0, .string ⟨#[]⟩, .int .i64 0] (by simp)).seven
    obtain ⟨t0, t1, t2, t3, t4, t5, t6⟩ := (m.loose G (by simp)).seven
    obtain ⟨p0, p1, p2⟩ := (m.get g #[.string X, .string A, .string B] (by simp)).three
    have zG := (m.2.2 G (by simp)).1
    have zR := (m.2.2 w.heap.size (by simp)).1
    have zg := (m.get g #[.string X, .string A, .string B] (by simp)).1
    go_wp2_with fail
    clear d0 d1 d2 d3 d4 d5 d6 t0 t1 t2 t3 t4 t5 t6 p0 p1 p2 zG zR zg
    replace m := ((m.put hG' hne 1 (.string A)).alloc (.cells #[.int .i64 0, .int .i64 3, .int .i64 5, .int .i64 4, .int .i64 4, .int .i64 3, .int .i64 4] 3))
    simp only [List.setIfInBounds_toArray, List.set_cons_zero, List.set_cons_succ] at m
    generalize (wc.setCell ⟨G, 1, none⟩ (.string A)).alloc (.cells #[.int .i64 0, .int .i64 3, .int .i64 5, .int .i64 4, .int .i64 4, .int .i64 3, .int .i64 4] 3) = wd at m ⊢
    refine (in_i _ _ _ _).mono ?_
    rintro e w' ⟨rfl, rfl⟩
    rw [show M.inI 5 2 5 = true by decide]
    rcases g0 : (M.edRead B.data.toList).2 with _ | _
    ·
      have HE : Hid (M.deedRead s.data.toList = (M.zeroDd, false)) := Lib.hid (by rw [HR.out, g0]; rfl)
      obtain ⟨d0, d1, d2, d3, d4, d5, d6⟩ := (m.get G #[.int .i64 5, .string A, .int .i64 0, .int .i64 0, .int .i64 0, .string ⟨#[]⟩, .int .i64 0] (by simp)).seven
      obtain ⟨t0, t1, t2, t3, t4, t5, t6⟩ := (m.loose G (by simp)).seven
      obtain ⟨p0, p1, p2⟩ := (m.get g #[.string X, .string A, .string B] (by simp)).three
      have zG := (m.2.2 G (by simp)).1
      have zR := (m.2.2 w.heap.size (by simp)).1
      have zg := (m.get g #[.string X, .string A, .string B] (by simp)).1
      go_wp2_with fail
      clear d0 d1 d2 d3 d4 d5 d6 t0 t1 t2 t3 t4 t5 t6 p0 p1 p2 zG zR zg
      refine (specReadEdition B _ sB).mono ?_
      rintro r w2 ⟨rfl, b1⟩
      replace m := m.below b1
      clear b1
      obtain ⟨d0, d1, d2, d3, d4, d5, d6⟩ := (m.get G #[.int .i64 5, .string A, .int .i64 0, .int .i64 0, .int .i64 0, .string ⟨#[]⟩, .int .i64 0] (by simp)).seven
      obtain ⟨t0, t1, t2, t3, t4, t5, t6⟩ := (m.loose G (by simp)).seven
      obtain ⟨p0, p1, p2⟩ := (m.get g #[.string X, .string A, .string B] (by simp)).three
      have zG := (m.2.2 G (by simp)).1
      have zR := (m.2.2 w.heap.size (by simp)).1
      have zg := (m.get g #[.string X, .string A, .string B] (by simp)).1
      obtain ⟨q0, q1, q2, q3, q4, q5, q6⟩ := (m.get w.heap.size zC (by simp)).seven
      obtain ⟨v0, v1, v2, v3, v4, v5, v6⟩ := (m.loose w.heap.size (by simp)).seven
      go_wp2
      replace m := (((m.put hG' hne 2 (.int .i64 (M.edRead B.data.toList).1.ma)).put hG' hne 3 (.int .i64 (M.edRead B.data.toList).1.mi)).put hG' hne 4 (.int .i64 (M.edRead B.data.toList).1.pa))
      simp only [List.setIfInBounds_toArray, List.set_cons_zero, List.set_cons_succ] at m
      exact bodyPost_ret (results_sd M.zeroDd false w.heap.size _ _ rfl rfl ((m.get w.heap.size zC (by simp)).put7 _ _ _ _ _ _ _)) rfl ⟨ret_dd HE.out, far7 m.1 (Nat.le_refl _) _ _ _ _ _ _ _⟩
    ·
      rcases hD : M.deedOk ⟨5, A, (M.edRead B.data.toList).1, ⟨#[]⟩, 0⟩ with _ | _
      ·
        have HE : Hid (M.deedRead s.data.toList = (M.zeroDd, false)) := Lib.hid (by rw [HR.out, g0, hD]; rfl)
        have HD := Lib.hid hD
        clear hD
        obtain ⟨d0, d1, d2, d3, d4, d5, d6⟩ := (m.get G #[.int .i64 5, .string A, .int .i64 0, .int .i64 0, .int .i64 0, .string ⟨#[]⟩, .int .i64 0] (by simp)).seven
        obtain ⟨t0, t1, t2, t3, t4, t5, t6⟩ := (m.loose G (by simp)).seven
        obtain ⟨p0, p1, p2⟩ := (m.get g #[.string X, .string A, .string B] (by simp)).three
        have zG := (m.2.2 G (by simp)).1
        have zR := (m.2.2 w.heap.size (by simp)).1
        have zg := (m.get g #[.string X, .string A, .string B] (by simp)).1
        go_wp2_with fail
        clear d0 d1 d2 d3 d4 d5 d6 t0 t1 t2 t3 t4 t5 t6 p0 p1 p2 zG zR zg
        refine (specReadEdition B _ sB).mono ?_
        rintro r w2 ⟨rfl, b1⟩
        replace m := m.below b1
        clear b1
        obtain ⟨d0, d1, d2, d3, d4, d5, d6⟩ := (m.get G #[.int .i64 5, .string A, .int .i64 0, .int .i64 0, .int .i64 0, .string ⟨#[]⟩, .int .i64 0] (by simp)).seven
        obtain ⟨t0, t1, t2, t3, t4, t5, t6⟩ := (m.loose G (by simp)).seven
        obtain ⟨p0, p1, p2⟩ := (m.get g #[.string X, .string A, .string B] (by simp)).three
        have zG := (m.2.2 G (by simp)).1
        have zR := (m.2.2 w.heap.size (by simp)).1
        have zg := (m.get g #[.string X, .string A, .string B] (by simp)).1
        go_wp2_with fail
        clear d0 d1 d2 d3 d4 d5 d6 t0 t1 t2 t3 t4 t5 t6 p0 p1 p2 zG zR zg
        replace m := (((m.put hG' hne 2 (.int .i64 (M.edRead B.data.toList).1.ma)).put hG' hne 3 (.int .i64 (M.edRead B.data.toList).1.mi)).put hG' hne 4 (.int .i64 (M.edRead B.data.toList).1.pa))
        simp only [List.setIfInBounds_toArray, List.set_cons_zero, List.set_cons_succ] at m
        refine (specDeedOk ⟨5, A, (M.edRead B.data.toList).1, ⟨#[]⟩, 0⟩ _ hnA hnP).mono ?_
        rintro r w4 ⟨hr, b1⟩
        rw [HD.out] at hr
        obtain rfl := hr
        replace m := m.below b1
        clear b1
        obtain ⟨d0, d1, d2, d3, d4, d5, d6⟩ := (m.get G #[.int .i64 5, .string A, .int .i64 (M.edRead B.data.toList).1.ma, .int .i64 (M.edRead B.data.toList).1.mi, .int .i64 (M.edRead B.data.toList).1.pa, .string ⟨#[]⟩, .int .i64 0] (by simp)).seven
        obtain ⟨t0, t1, t2, t3, t4, t5, t6⟩ := (m.loose G (by simp)).seven
        obtain ⟨p0, p1, p2⟩ := (m.get g #[.string X, .string A, .string B] (by simp)).three
        have zG := (m.2.2 G (by simp)).1
        have zR := (m.2.2 w.heap.size (by simp)).1
        have zg := (m.get g #[.string X, .string A, .string B] (by simp)).1
        obtain ⟨q0, q1, q2, q3, q4, q5, q6⟩ := (m.get w.heap.size zC (by simp)).seven
        obtain ⟨v0, v1, v2, v3, v4, v5, v6⟩ := (m.loose w.heap.size (by simp)).seven
        go_wp2
        exact bodyPost_ret (results_sd M.zeroDd false w.heap.size _ _ rfl rfl ((m.get w.heap.size zC (by simp)).put7 _ _ _ _ _ _ _)) rfl ⟨ret_dd HE.out, far7 m.1 (Nat.le_refl _) _ _ _ _ _ _ _⟩
      ·
        have HE : Hid (M.deedRead s.data.toList = (⟨5, A, (M.edRead B.data.toList).1, ⟨#[]⟩, 0⟩, true)) := Lib.hid (by rw [HR.out, g0, hD]; rfl)
        have HD := Lib.hid hD
        clear hD
        obtain ⟨d0, d1, d2, d3, d4, d5, d6⟩ := (m.get G #[.int .i64 5, .string A, .int .i64 0, .int .i64 0, .int .i64 0, .string ⟨#[]⟩, .int .i64 0] (by simp)).seven
        obtain ⟨t0, t1, t2, t3, t4, t5, t6⟩ := (m.loose G (by simp)).seven
        obtain ⟨p0, p1, p2⟩ := (m.get g #[.string X, .string A, .string B] (by simp)).three
        have zG := (m.2.2 G (by simp)).1
        have zR := (m.2.2 w.heap.size (by simp)).1
        have zg := (m.get g #[.string X, .string A, .string B] (by simp)).1
        go_wp2_with fail
        clear d0 d1 d2 d3 d4 d5 d6 t0 t1 t2 t3 t4 t5 t6 p0 p1 p2 zG zR zg
        refine (specReadEdition B _ sB).mono ?_
        rintro r w2 ⟨rfl, b1⟩
        replace m := m.below b1
        clear b1
        obtain ⟨d0, d1, d2, d3, d4, d5, d6⟩ := (m.get G #[.int .i64 5, .string A, .int .i64 0, .int .i64 0, .int .i64 0, .string ⟨#[]⟩, .int .i64 0] (by simp)).seven
        obtain ⟨t0, t1, t2, t3, t4, t5, t6⟩ := (m.loose G (by simp)).seven
        obtain ⟨p0, p1, p2⟩ := (m.get g #[.string X, .string A, .string B] (by simp)).three
        have zG := (m.2.2 G (by simp)).1
        have zR := (m.2.2 w.heap.size (by simp)).1
        have zg := (m.get g #[.string X, .string A, .string B] (by simp)).1
        go_wp2_with fail
        clear d0 d1 d2 d3 d4 d5 d6 t0 t1 t2 t3 t4 t5 t6 p0 p1 p2 zG zR zg
        replace m := (((m.put hG' hne 2 (.int .i64 (M.edRead B.data.toList).1.ma)).put hG' hne 3 (.int .i64 (M.edRead B.data.toList).1.mi)).put hG' hne 4 (.int .i64 (M.edRead B.data.toList).1.pa))
        simp only [List.setIfInBounds_toArray, List.set_cons_zero, List.set_cons_succ] at m
        refine (specDeedOk ⟨5, A, (M.edRead B.data.toList).1, ⟨#[]⟩, 0⟩ _ hnA hnP).mono ?_
        rintro r w4 ⟨hr, b1⟩
        rw [HD.out] at hr
        obtain rfl := hr
        replace m := m.below b1
        clear b1
        obtain ⟨d0, d1, d2, d3, d4, d5, d6⟩ := (m.get G #[.int .i64 5, .string A, .int .i64 (M.edRead B.data.toList).1.ma, .int .i64 (M.edRead B.data.toList).1.mi, .int .i64 (M.edRead B.data.toList).1.pa, .string ⟨#[]⟩, .int .i64 0] (by simp)).seven
        obtain ⟨t0, t1, t2, t3, t4, t5, t6⟩ := (m.loose G (by simp)).seven
        obtain ⟨p0, p1, p2⟩ := (m.get g #[.string X, .string A, .string B] (by simp)).three
        have zG := (m.2.2 G (by simp)).1
        have zR := (m.2.2 w.heap.size (by simp)).1
        have zg := (m.get g #[.string X, .string A, .string B] (by simp)).1
        obtain ⟨q0, q1, q2, q3, q4, q5, q6⟩ := (m.get w.heap.size zC (by simp)).seven
        obtain ⟨v0, v1, v2, v3, v4, v5, v6⟩ := (m.loose w.heap.size (by simp)).seven
        go_wp2
        exact bodyPost_ret (results_sd ⟨5, A, (M.edRead B.data.toList).1, ⟨#[]⟩, 0⟩ true w.heap.size _ _ rfl rfl ((m.get w.heap.size zC (by simp)).put7 _ _ _ _ _ _ _)) rfl ⟨ret_dd HE.out, far7 m.1 (Nat.le_refl _) _ _ _ _ _ _ _⟩
set_option maxHeartbeats 4000000 in
theorem specRead_give (s X A B C : ByteArray) (w : World) (hs : s.size ≤ 1048576) (hL : M.split 32 s.data.toList = [X, A, B, C].map (·.data.toList)) (hk : kd X = 6) (sA : A.size ≤ 1048576) (sB : B.size ≤ 1048576) (sC : C.size ≤ 1048576) (hR : M.deedRead s.data.toList = if ((M.rd B.data.toList).2 && (M.rd C.data.toList).2) && M.deedOk ⟨6, A, ⟨(M.rd C.data.toList).1, 0, 0⟩, ⟨#[]⟩, (M.rd B.data.toList).1⟩ then (⟨6, A, ⟨(M.rd C.data.toList).1, 0, 0⟩, ⟨#[]⟩, (M.rd B.data.toList).1⟩, true) else (M.zeroDd, false)) :
    Calls Tryz.prog 9 #[.string s] w fun r w' => r = .returned (.tuple #[ddV (M.deedRead s.data.toList).1, .bool (M.deedRead s.data.toList).2]) ∧ Below w.heap.size w w' := by
  have HR := Lib.hid hR
  have hnA : (⟨6, A, ⟨(M.rd C.data.toList).1, 0, 0⟩, ⟨#[]⟩, (M.rd B.data.toList).1⟩ : M.Dd).name.size ≤ maxLen := by show A.size ≤ _; unfold maxLen; omega
  have hnP : (⟨6, A, ⟨(M.rd C.data.toList).1, 0, 0⟩, ⟨#[]⟩, (M.rd B.data.toList).1⟩ : M.Dd).page.size ≤ maxLen := by show 0 ≤ _; omega
  clear hR
  have m0 := (Mem.start w).new zC 27
  go_enter Tryz.func9, Tryz.ntmps9
  go_wp2_with fail
  refine (l1Split_any s 32 _ hs).mono ?_
  rintro r w1 ⟨v, rfl, hrow, b1⟩
  obtain ⟨g, cap, rfl, hg0, hg⟩ := row_holds hrow [X, A, B, C] hL (by simp)
  simp only [World.size_alloc, List.map_cons, List.map_nil] at hg0 hg
  replace m0 := (m0.below b1).add hg
  have zR : w.heap.size < w1.heap.size := (m0.2.2 _ (by simp)).1
  have zg : g < w1.heap.size := hg.1
  have hwr : IntKind.i64.wrap 6 = 6 := by decide
  clear b1 hrow hL hg
  go_upto_region 2 with (fail)
  go_cut [5] (fun s5 wx => ReadW2 w g 6 #[.string X, .string A, .string B, .string C] s5 wx)
  case first =>
    refine wp_region_tr (Mem w [(g, #[.string X, .string A, .string B, .string C]), (w.heap.size, zC)] [w.heap.size]) (.read 1 (.read 2 (.read 3 (.two 0 7 (.two 4 7 (.read 5 (.read 6 (.one 7 (.one 8 .done)))) (.one 4 (.read 5 (.read 6 (.one 8 .done))))) (.one 0 (.one 4 (.read 5 (.read 6 (.one 8 .done))))))))) (by kernel_rfl) (by kernel_rfl) (fun _ _ _ _ _ h => h) (by kernel_rfl) (by decide) ?_ ?_
    · exact m0.drew
    intro hHeld
    repeat (first
      | (refine tr_reads (by simp only [List.getElem?_toArray, List.getElem?_cons_succ, List.getElem?_cons_zero]; first | done | rfl) (by rfl) ?_; apply Exists.intro; apply And.intro; (focus (intro w hSw; (try (have hq := Holds.four (Mem.get hSw g #[.string X, .string A, .string B, .string C] (by simp)))); go_split_ands; go_simp; (try with_reducible rfl); done)); (try simp only [Act.put, List.setIfInBounds_toArray, List.set_cons_zero, List.set_cons_succ]))
      | (refine tr_two ?_ ?_)
      | (refine tr_one (by simp only [List.getElem?_toArray, List.getElem?_cons_zero]; first | done | rfl) (by rfl) (fun K hK => ?_); go_simp; go_at_call 26; refine (l3Words_at _).mono ?_; rintro r w2 ⟨rfl, rfl⟩; go_simp; refine hK.out _ _ _ (fun x h => h) (by first | exact (m0.alloc _).drew | exact ((m0.alloc _).alloc _).drew) ?_; clear hHeld hK; intro hHeld; (try simp only [Act.put, List.setIfInBounds_toArray, List.set_cons_zero, List.set_cons_succ]))
      | (refine tr_one (by simp only [List.getElem?_toArray, List.getElem?_cons_succ, List.getElem?_cons_zero]; first | done | rfl) (by rfl) (fun K hK => ?_); go_simp; go_at_call 25; refine (l1At_words _ X _ (by first | exact words_at0 _ _ | exact words_at1 _ _ _ | exact words_at2 _ _ _)).mono ?_; rintro r w2 ⟨rfl, rfl⟩; rw [hk]; go_simp; refine hK.out _ _ _ (fun x h => h) (by first | exact (m0.alloc _).drew | exact ((m0.alloc _).alloc _).drew) ?_; clear hHeld hK; intro hHeld; (try simp only [Act.put, List.setIfInBounds_toArray, List.set_cons_zero, List.set_cons_succ]))
      | (refine tr_one (by simp only [List.getElem?_toArray, List.getElem?_cons_succ, List.getElem?_cons_zero]; first | done | rfl) (by rfl) (fun K hK => ?_); go_simp; refine hK.out _ _ _ (fun x h => h) (by first | exact (m0.alloc _).drew | exact ((m0.alloc _).alloc _).drew) ?_; clear hHeld hK; intro hHeld; (try simp only [Act.put, List.setIfInBounds_toArray, List.set_cons_zero, List.set_cons_succ]))
      | (refine tr_end ?_; go_wp2; go_meet; (first | exact ⟨_, rfl, zR, fun e => Nat.ne_of_lt zg e.symm, ((m0.new (d0C 6) _).alloc _).drew⟩ | exact ⟨_, rfl, Nat.lt_succ_of_lt zR, fun e => Nat.ne_of_lt (Nat.lt_succ_of_lt zg) e.symm, (m0.new1 _ (d0C 6) _).drew⟩)))
  case rest =>
    clear m0 zR zg hwr
    obtain ⟨G, rfl, hG, hGg, m⟩ := hcut
    have hG' : w.heap.size ≤ G := Nat.le_of_lt hG
    have hGR : w.heap.size ≠ G := Nat.ne_of_lt hG
    have hgG : g ≠ G := fun e => hGg e.symm
    have hne : ∀ p ∈ [(g, (#[.string X, .string A, .string B, .string C] : Array Value)), (w.heap.size, zC)], p.1 ≠ G := by simp [hgG, hGR]
    simp only [d0C] at m
    obtain ⟨d0, d1, d2, d3, d4, d5, d6⟩ := (m.get G #[.int .i64 6, .string ⟨#[]⟩, .int .i64 0, .int .i64 0, .int .i64 0, .string ⟨#[]⟩, .int .i64 0] (by simp)).seven
    obtain ⟨t0, t1, t2, t3, t4, t5, t6⟩ := (m.loose G (by simp)).seven
    obtain ⟨p0, p1, p2, p3⟩ := (m.get g #[.string X, .string A, .string B, .string C] (by simp)).four
    have zG := (m.2.2 G (by simp)).1
    have zR := (m.2.2 w.heap.size (by simp)).1
    have zg := (m.get g #[.string X, .string A, .string B, .string C] (by simp)).1
    go_wp2_with fail
    clear d0 d1 d2 d3 d4 d5 d6 t0 t1 t2 t3 t4 t5 t6 p0 p1 p2 p3 zG zR zg
    replace m := ((m.put hG' hne 1 (.string A)).alloc (.cells #[.int .i64 0, .int .i64 3, .int .i64 5, .int .i64 4, .int .i64 4, .int .i64 3, .int .i64 4] 3))
    simp only [List.setIfInBounds_toArray, List.set_cons_zero, List.set_cons_succ] at m
    generalize (wc.setCell ⟨G, 1, none⟩ (.string A)).alloc (.cells #[.int .i64 0, .int .i64 3, .int .i64 5, .int .i64 4, .int .i64 4, .int .i64 3, .int .i64 4] 3) = wd at m ⊢
    refine (in_i _ _ _ _).mono ?_
    rintro e w' ⟨rfl, rfl⟩
    rw [show M.inI 6 2 5 = false by decide]
    rcases g0 : (M.rd B.data.toList).2 with _ | _
    ·
      have HE : Hid (M.deedRead s.data.toList = (M.zeroDd, false)) := Lib.hid (by rw [HR.out, g0]; rfl)
      obtain ⟨d0, d1, d2, d3, d4, d5, d6⟩ := (m.get G #[.int .i64 6, .string A, .int .i64 0, .int .i64 0, .int .i64 0, .string ⟨#[]⟩, .int .i64 0] (by simp)).seven
      obtain ⟨t0, t1, t2, t3, t4, t5, t6⟩ := (m.loose G (by simp)).seven
      obtain ⟨p0, p1, p2, p3⟩ := (m.get g #[.string X, .string A, .string B, .string C] (by simp)).four
      have zG := (m.2.2 G (by simp)).1
      have zR := (m.2.2 w.heap.size (by simp)).1
      have zg := (m.get g #[.string X, .string A, .string B, .string C] (by simp)).1
      go_wp2_with fail
      clear d0 d1 d2 d3 d4 d5 d6 t0 t1 t2 t3 t4 t5 t6 p0 p1 p2 p3 zG zR zg
      refine (l1Read_any B _ (by unfold maxLen; omega)).mono ?_
      rintro r w3 ⟨rfl, rfl⟩
      obtain ⟨d0, d1, d2, d3, d4, d5, d6⟩ := (m.get G #[.int .i64 6, .string A, .int .i64 0, .int .i64 0, .int .i64 0, .string ⟨#[]⟩, .int .i64 0] (by simp)).seven
      obtain ⟨t0, t1, t2, t3, t4, t5, t6⟩ := (m.loose G (by simp)).seven
      obtain ⟨p0, p1, p2, p3⟩ := (m.get g #[.string X, .string A, .string B, .string C] (by simp)).four
      have zG := (m.2.2 G (by simp)).1
      have zR := (m.2.2 w.heap.size (by simp)).1
      have zg := (m.get g #[.string X, .string A, .string B, .string C] (by simp)).1
      go_wp2_with fail
      clear d0 d1 d2 d3 d4 d5 d6 t0 t1 t2 t3 t4 t5 t6 p0 p1 p2 p3 zG zR zg
      replace m := (m.put hG' hne 6 (.int .i64 (M.rd B.data.toList).1))
      simp only [List.setIfInBounds_toArray, List.set_cons_zero, List.set_cons_succ] at m
      refine (l1Read_any C _ (by unfold maxLen; omega)).mono ?_
      rintro r w3 ⟨rfl, rfl⟩
      obtain ⟨d0, d1, d2, d3, d4, d5, d6⟩ := (m.get G #[.int .i64 6, .string A, .int .i64 0, .int .i64 0, .int .i64 0, .string ⟨#[]⟩, .int .i64 (M.rd B.data.toList).1] (by simp)).seven
      obtain ⟨t0, t1, t2, t3, t4, t5, t6⟩ := (m.loose G (by simp)).seven
      obtain ⟨p0, p1, p2, p3⟩ := (m.get g #[.string X, .string A, .string B, .string C] (by simp)).four
      have zG := (m.2.2 G (by simp)).1
      have zR := (m.2.2 w.heap.size (by simp)).1
      have zg := (m.get g #[.string X, .string A, .string B, .string C] (by simp)).1
      obtain ⟨q0, q1, q2, q3, q4, q5, q6⟩ := (m.get w.heap.size zC (by simp)).seven
      obtain ⟨v0, v1, v2, v3, v4, v5, v6⟩ := (m.loose w.heap.size (by simp)).seven
      go_wp2
      replace m := (m.put hG' hne 2 (.int .i64 (M.rd C.data.toList).1))
      simp only [List.setIfInBounds_toArray, List.set_cons_zero, List.set_cons_succ] at m
      exact bodyPost_ret (results_sd M.zeroDd false w.heap.size _ _ rfl rfl ((m.get w.heap.size zC (by simp)).put7 _ _ _ _ _ _ _)) rfl ⟨ret_dd HE.out, far7 m.1 (Nat.le_refl _) _ _ _ _ _ _ _⟩
    ·
      rcases g1 : (M.rd C.data.toList).2 with _ | _
      ·
        have HE : Hid (M.deedRead s.data.toList = (M.zeroDd, false)) := Lib.hid (by rw [HR.out, g0, g1]; rfl)
        obtain ⟨d0, d1, d2, d3, d4, d5, d6⟩ := (m.get G #[.int .i64 6, .string A, .int .i64 0, .int .i64 0, .int .i64 0, .string ⟨#[]⟩, .int .i64 0] (by simp)).seven
        obtain ⟨t0, t1, t2, t3, t4, t5, t6⟩ := (m.loose G (by simp)).seven
        obtain ⟨p0, p1, p2, p3⟩ := (m.get g #[.string X, .string A, .string B, .string C] (by simp)).four
        have zG := (m.2.2 G (by simp)).1
        have zR := (m.2.2 w.heap.size (by simp)).1
        have zg := (m.get g #[.string X, .string A, .string B, .string C] (by simp)).1
        go_wp2_with fail
        clear d0 d1 d2 d3 d4 d5 d6 t0 t1 t2 t3 t4 t5 t6 p0 p1 p2 p3 zG zR zg
        refine (l1Read_any B _ (by unfold maxLen; omega)).mono ?_
        rintro r w3 ⟨rfl, rfl⟩
        obtain ⟨d0, d1, d2, d3, d4, d5, d6⟩ := (m.get G #[.int .i64 6, .string A, .int .i64 0, .int .i64 0, .int .i64 0, .string ⟨#[]⟩, .int .i64 0] (by simp)).seven
        obtain ⟨t0, t1, t2, t3, t4, t5, t6⟩ := (m.loose G (by simp)).seven
        obtain ⟨p0, p1, p2, p3⟩ := (m.get g #[.string X, .string A, .string B, .string C] (by simp)).four
        have zG := (m.2.2 G (by simp)).1
        have zR := (m.2.2 w.heap.size (by simp)).1
        have zg := (m.get g #[.string X, .string A, .string B, .string C] (by simp)).1
        go_wp2_with fail
        clear d0 d1 d2 d3 d4 d5 d6 t0 t1 t2 t3 t4 t5 t6 p0 p1 p2 p3 zG zR zg
        replace m := (m.put hG' hne 6 (.int .i64 (M.rd B.data.toList).1))
        simp only [List.setIfInBounds_toArray, List.set_cons_zero, List.set_cons_succ] at m
        refine (l1Read_any C _ (by unfold maxLen; omega)).mono ?_
        rintro r w3 ⟨rfl, rfl⟩
        obtain ⟨d0, d1, d2, d3, d4, d5, d6⟩ := (m.get G #[.int .i64 6, .string A, .int .i64 0, .int .i64 0, .int .i64 0, .string ⟨#[]⟩, .int .i64 (M.rd B.data.toList).1] (by simp)).seven
        obtain ⟨t0, t1, t2, t3, t4, t5, t6⟩ := (m.loose G (by simp)).seven
        obtain ⟨p0, p1, p2, p3⟩ := (m.get g #[.string X, .string A, .string B, .string C] (by simp)).four
        have zG := (m.2.2 G (by simp)).1
        have zR := (m.2.2 w.heap.size (by simp)).1
        have zg := (m.get g #[.string X, .string A, .string B, .string C] (by simp)).1
        obtain ⟨q0, q1, q2, q3, q4, q5, q6⟩ := (m.get w.heap.size zC (by simp)).seven
        obtain ⟨v0, v1, v2, v3, v4, v5, v6⟩ := (m.loose w.heap.size (by simp)).seven
        go_wp2
        replace m := (m.put hG' hne 2 (.int .i64 (M.rd C.data.toList).1))
        simp only [List.setIfInBounds_toArray, List.set_cons_zero, List.set_cons_succ] at m
        exact bodyPost_ret (results_sd M.zeroDd false w.heap.size _ _ rfl rfl ((m.get w.heap.size zC (by simp)).put7 _ _ _ _ _ _ _)) rfl ⟨ret_dd HE.out, far7 m.1 (Nat.le_refl _) _ _ _ _ _ _ _⟩
      ·
        rcases hD : M.deedOk ⟨6, A, ⟨(M.rd C.data.toList).1, 0, 0⟩, ⟨#[]⟩, (M.rd B.data.toList).1⟩ with _ | _
        ·
          have HE : Hid (M.deedRead s.data.toList = (M.zeroDd, false)) := Lib.hid (by rw [HR.out, g0, g1, hD]; rfl)
          have HD := Lib.hid hD
          clear hD
          obtain ⟨d0, d1, d2, d3, d4, d5, d6⟩ := (m.get G #[.int .i64 6, .string A, .int .i64 0, .int .i64 0, .int .i64 0, .string ⟨#[]⟩, .int .i64 0] (by simp)).seven
          obtain ⟨t0, t1, t2, t3, t4, t5, t6⟩ := (m.loose G (by simp)).seven
          obtain ⟨p0, p1, p2, p3⟩ := (m.get g #[.string X, .string A, .string B, .string C] (by simp)).four
          have zG := (m.2.2 G (by simp)).1
          have zR := (m.2.2 w.heap.size (by simp)).1
          have zg := (m.get g #[.string X, .string A, .string B, .string C] (by simp)).1
          go_wp2_with fail
          clear d0 d1 d2 d3 d4 d5 d6 t0 t1 t2 t3 t4 t5 t6 p0 p1 p2 p3 zG zR zg
          refine (l1Read_any B _ (by unfold maxLen; omega)).mono ?_
          rintro r w3 ⟨rfl, rfl⟩
          obtain ⟨d0, d1, d2, d3, d4, d5, d6⟩ := (m.get G #[.int .i64 6, .string A, .int .i64 0, .int .i64 0, .int .i64 0, .string ⟨#[]⟩, .int .i64 0] (by simp)).seven
          obtain ⟨t0, t1, t2, t3, t4, t5, t6⟩ := (m.loose G (by simp)).seven
          obtain ⟨p0, p1, p2, p3⟩ := (m.get g #[.string X, .string A, .string B, .string C] (by simp)).four
          have zG := (m.2.2 G (by simp)).1
          have zR := (m.2.2 w.heap.size (by simp)).1
          have zg := (m.get g #[.string X, .string A, .string B, .string C] (by simp)).1
          go_wp2_with fail
          clear d0 d1 d2 d3 d4 d5 d6 t0 t1 t2 t3 t4 t5 t6 p0 p1 p2 p3 zG zR zg
          replace m := (m.put hG' hne 6 (.int .i64 (M.rd B.data.toList).1))
          simp only [List.setIfInBounds_toArray, List.set_cons_zero, List.set_cons_succ] at m
          refine (l1Read_any C _ (by unfold maxLen; omega)).mono ?_
          rintro r w3 ⟨rfl, rfl⟩
          obtain ⟨d0, d1, d2, d3, d4, d5, d6⟩ := (m.get G #[.int .i64 6, .string A, .int .i64 0, .int .i64 0, .int .i64 0, .string ⟨#[]⟩, .int .i64 (M.rd B.data.toList).1] (by simp)).seven
          obtain ⟨t0, t1, t2, t3, t4, t5, t6⟩ := (m.loose G (by simp)).seven
          obtain ⟨p0, p1, p2, p3⟩ := (m.get g #[.string X, .string A, .string B, .string C] (by simp)).four
          have zG := (m.2.2 G (by simp)).1
          have zR := (m.2.2 w.heap.size (by simp)).1
          have zg := (m.get g #[.string X, .string A, .string B, .string C] (by simp)).1
          go_wp2_with fail
          clear d0 d1 d2 d3 d4 d5 d6 t0 t1 t2 t3 t4 t5 t6 p0 p1 p2 p3 zG zR zg
          replace m := (m.put hG' hne 2 (.int .i64 (M.rd C.data.toList).1))
          simp only [List.setIfInBounds_toArray, List.set_cons_zero, List.set_cons_succ] at m
          refine (specDeedOk ⟨6, A, ⟨(M.rd C.data.toList).1, 0, 0⟩, ⟨#[]⟩, (M.rd B.data.toList).1⟩ _ hnA hnP).mono ?_
          rintro r w4 ⟨hr, b1⟩
          rw [HD.out] at hr
          obtain rfl := hr
          replace m := m.below b1
          clear b1
          obtain ⟨d0, d1, d2, d3, d4, d5, d6⟩ := (m.get G #[.int .i64 6, .string A, .int .i64 (M.rd C.data.toList).1, .int .i64 0, .int .i64 0, .string ⟨#[]⟩, .int .i64 (M.rd B.data.toList).1] (by simp)).seven
          obtain ⟨t0, t1, t2, t3, t4, t5, t6⟩ := (m.loose G (by simp)).seven
          obtain ⟨p0, p1, p2, p3⟩ := (m.get g #[.string X, .string A, .string B, .string C] (by simp)).four
          have zG := (m.2.2 G (by simp)).1
          have zR := (m.2.2 w.heap.size (by simp)).1
          have zg := (m.get g #[.string X, .string A, .string B, .string C] (by simp)).1
          obtain ⟨q0, q1, q2, q3, q4, q5, q6⟩ := (m.get w.heap.size zC (by simp)).seven
          obtain ⟨v0, v1, v2, v3, v4, v5, v6⟩ := (m.loose w.heap.size (by simp)).seven
          go_wp2
          exact bodyPost_ret (results_sd M.zeroDd false w.heap.size _ _ rfl rfl ((m.get w.heap.size zC (by simp)).put7 _ _ _ _ _ _ _)) rfl ⟨ret_dd HE.out, far7 m.1 (Nat.le_refl _) _ _ _ _ _ _ _⟩
        ·
          have HE : Hid (M.deedRead s.data.toList = (⟨6, A, ⟨(M.rd C.data.toList).1, 0, 0⟩, ⟨#[]⟩, (M.rd B.data.toList).1⟩, true)) := Lib.hid (by rw [HR.out, g0, g1, hD]; rfl)
          have HD := Lib.hid hD
          clear hD
          obtain ⟨d0, d1, d2, d3, d4, d5, d6⟩ := (m.get G #[.int .i64 6, .string A, .int .i64 0, .int .i64 0, .int .i64 0, .string ⟨#[]⟩, .int .i64 0] (by simp)).seven
          obtain ⟨t0, t1, t2, t3, t4, t5, t6⟩ := (m.loose G (by simp)).seven
          obtain ⟨p0, p1, p2, p3⟩ := (m.get g #[.string X, .string A, .string B, .string C] (by simp)).four
          have zG := (m.2.2 G (by simp)).1
          have zR := (m.2.2 w.heap.size (by simp)).1
          have zg := (m.get g #[.string X, .string A, .string B, .string C] (by simp)).1
          go_wp2_with fail
          clear d0 d1 d2 d3 d4 d5 d6 t0 t1 t2 t3 t4 t5 t6 p0 p1 p2 p3 zG zR zg
          refine (l1Read_any B _ (by unfold maxLen; omega)).mono ?_
          rintro r w3 ⟨rfl, rfl⟩
          obtain ⟨d0, d1, d2, d3, d4, d5, d6⟩ := (m.get G #[.int .i64 6, .string A, .int .i64 0, .int .i64 0, .int .i64 0, .string ⟨#[]⟩, .int .i64 0] (by simp)).seven
          obtain ⟨t0, t1, t2, t3, t4, t5, t6⟩ := (m.loose G (by simp)).seven
          obtain ⟨p0, p1, p2, p3⟩ := (m.get g #[.string X, .string A, .string B, .string C] (by simp)).four
          have zG := (m.2.2 G (by simp)).1
          have zR := (m.2.2 w.heap.size (by simp)).1
          have zg := (m.get g #[.string X, .string A, .string B, .string C] (by simp)).1
          go_wp2_with fail
          clear d0 d1 d2 d3 d4 d5 d6 t0 t1 t2 t3 t4 t5 t6 p0 p1 p2 p3 zG zR zg
          replace m := (m.put hG' hne 6 (.int .i64 (M.rd B.data.toList).1))
          simp only [List.setIfInBounds_toArray, List.set_cons_zero, List.set_cons_succ] at m
          refine (l1Read_any C _ (by unfold maxLen; omega)).mono ?_
          rintro r w3 ⟨rfl, rfl⟩
          obtain ⟨d0, d1, d2, d3, d4, d5, d6⟩ := (m.get G #[.int .i64 6, .string A, .int .i64 0, .int .i64 0, .int .i64 0, .string ⟨#[]⟩, .int .i64 (M.rd B.data.toList).1] (by simp)).seven
          obtain ⟨t0, t1, t2, t3, t4, t5, t6⟩ := (m.loose G (by simp)).seven
          obtain ⟨p0, p1, p2, p3⟩ := (m.get g #[.string X, .string A, .string B, .string C] (by simp)).four
          have zG := (m.2.2 G (by simp)).1
          have zR := (m.2.2 w.heap.size (by simp)).1
          have zg := (m.get g #[.string X, .string A, .string B, .string C] (by simp)).1
          go_wp2_with fail
          clear d0 d1 d2 d3 d4 d5 d6 t0 t1 t2 t3 t4 t5 t6 p0 p1 p2 p3 zG zR zg
          replace m := (m.put hG' hne 2 (.int .i64 (M.rd C.data.toList).1))
          simp only [List.setIfInBounds_toArray, List.set_cons_zero, List.set_cons_succ] at m
          refine (specDeedOk ⟨6, A, ⟨(M.rd C.data.toList).1, 0, 0⟩, ⟨#[]⟩, (M.rd B.data.toList).1⟩ _ hnA hnP).mono ?_
          rintro r w4 ⟨hr, b1⟩
          rw [HD.out] at hr
          obtain rfl := hr
          replace m := m.below b1
          clear b1
          obtain ⟨d0, d1, d2, d3, d4, d5, d6⟩ := (m.get G #[.int .i64 6, .string A, .int .i64 (M.rd C.data.toList).1, .int .i64 0, .int .i64 0, .string ⟨#[]⟩, .int .i64 (M.rd B.data.toList).1] (by simp)).seven
          obtain ⟨t0, t1, t2, t3, t4, t5, t6⟩ := (m.loose G (by simp)).seven
          obtain ⟨p0, p1, p2, p3⟩ := (m.get g #[.string X, .string A, .string B, .string C] (by simp)).four
          have zG := (m.2.2 G (by simp)).1
          have zR := (m.2.2 w.heap.size (by simp)).1
          have zg := (m.get g #[.string X, .string A, .string B, .string C] (by simp)).1
          obtain ⟨q0, q1, q2, q3, q4, q5, q6⟩ := (m.get w.heap.size zC (by simp)).seven
          obtain ⟨v0, v1, v2, v3, v4, v5, v6⟩ := (m.loose w.heap.size (by simp)).seven
          go_wp2
          exact bodyPost_ret (results_sd ⟨6, A, ⟨(M.rd C.data.toList).1, 0, 0⟩, ⟨#[]⟩, (M.rd B.data.toList).1⟩ true w.heap.size _ _ rfl rfl ((m.get w.heap.size zC (by simp)).put7 _ _ _ _ _ _ _)) rfl ⟨ret_dd HE.out, far7 m.1 (Nat.le_refl _) _ _ _ _ _ _ _⟩
end Go.Proofs.YtiibklhalgookaaGreatDoor
