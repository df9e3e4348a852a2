/- Proved, in parts: Proved: the program's test whether a letter is right answers a plain Lean function; nothing that was there is written. Condition: texts and lists of at most a million. -/
import Derived.Test.YtdoeiphnalbinaaGreatPart22
import Derived.Test.YtdoeiphnalbinaaGreatPart24
namespace Go.Proofs.YtdoeiphnalbinaaGreat
open Go.RowKit
set_option maxRecDepth 20000
namespace M
def ltZero (l : Lt) : Lt := ⟨l.kind, l.frm, l.dst, l.reign, 0, 0, [], 0, false, ([], [])⟩
def Lt.kindI (l : Lt) : Bool :=
  if l.kind = 1 then decide (l = ({ (M.ltZero l) with index := l.index, mark := l.mark } : M.Lt)) else if l.kind = 2 then decide (l = ({ (M.ltZero l) with yes := l.yes } : M.Lt)) else if l.kind = 3 then decide (l = ({ (M.ltZero l) with index := l.index, mark := l.mark, list := l.list, commit := l.commit } : M.Lt))
  else if l.kind = 4 then decide (l = ({ (M.ltZero l) with yes := l.yes, index := l.index } : M.Lt)) else if l.kind = 5 then decide (l = ({ (M.ltZero l) with index := l.index, mark := l.mark, book := l.book } : M.Lt)) else false
def isS (i n : Int) : Bool := decide (0 ≤ i) && decide (i < n)
def Lt.goes (l : Lt) (n : Int) : Bool := cok n && (isS l.frm n && (isS l.dst n && (l.frm != l.dst)))
def Lt.nums (l : Lt) : Bool := inI l.index 0 400 && (inI l.commit 0 400 && (decide (0 ≤ l.mark) && decide (l.mark ≤ l.reign)))
def Lt.listI (l : Lt) : Bool := decide (l.list.length ≤ 5) && (l.list.all entryOk && (upFrom l.mark l.list && l.list.all (fun e => decide (e.reign ≤ l.reign))))
def ltOkI (l : Lt) (n : Int) : Bool := l.goes n && (inI l.reign 1 1000 && (l.nums && (l.listI && (bkOk l.book.1 l.book.2 && l.kindI))))
end M
set_option maxHeartbeats 2000000 in
theorem tells_any (s o : LLt) (v : Value) (w : World) (hs : LtIn 1048576 w s) (ho : LtIn 1048576 w o)
    (honly : ∀ w', Below w.heap.size w w' → Calls Tryz.prog 77 #[ltV s, v] w' fun e w'' => e = .returned (ltV o) ∧ Below w'.heap.size w' w'') :
    Calls Tryz.prog 45 #[ltV s, v] w fun e w' => e = .returned (.bool (decide (s.d = o.d))) ∧ Below w.heap.size w w' := by
  have h0 := holds_new w (ltA s) 37
  have b0 := (Below.refl w.heap.size w).alloc (Nat.le_refl _) (.cells (ltA s) 37)
  have HS := Lib.hid hs
  have HO := Lib.hid ho
  have HC := Lib.hid honly
  clear hs ho honly
  obtain ⟨Q, hQ⟩ : ∃ Q, decide (s.d = o.d) = Q := ⟨_, rfl⟩
  have HQ := Lib.hid hQ
  rw [hQ]
  clear hQ
  go_enter Tryz.func45, Tryz.ntmps45
  go_upto_region 1 with (fail)
  generalize hw1 : w.alloc (.cells (ltA s) 37) = w1 at h0 b0 ⊢
  clear hw1
  obtain ⟨k0, k1, k2, k3, k4, k5, k6, k7, k8, k9, k10⟩ := h0.at11
  have zl := h0.1
  have hsame : ∀ w', Below w.heap.size w w' → Calls Tryz.prog 76 #[ltV s, ltV o] w' fun e w'' => e = .returned (.bool Q) ∧ Below w'.heap.size w' w'' := fun w' hb => by
    have h := implSameLetter s o w' (HS.out.below hb) (HO.out.below hb)
    rw [HQ.out] at h
    exact h
  have HSA := Lib.hid hsame
  clear hsame
  go_wp2_with fail
  refine wp_region_seq (fun w' => Below w1.heap.size w1 w') [(0, true), (1, true), (2, true), (3, false), (4, false), (5, true)] (by kernel_rfl) (by kernel_rfl) (fun _ _ _ _ _ h => h) (by kernel_rfl) (by decide) (Below.refl _ _).drew ?_
  intro hHeld
  repeat (first
    | (refine seq_skip (by simp only [List.getElem?_toArray, List.getElem?_cons_succ, List.getElem?_cons_zero]; first | done | rfl) (by rfl) ?_; (try simp only [Act.put, List.setIfInBounds_toArray, List.set_cons_zero, List.set_cons_succ]))
    | (refine seq_reads (by simp only [List.getElem?_toArray, List.getElem?_cons_succ, List.getElem?_cons_zero]; first | done | rfl) (by rfl) ?_; apply Exists.intro; apply And.intro; (focus (intro w hSw; obtain ⟨hcS, -⟩ := bcell hSw; go_simp; (try with_reducible rfl); done)); (try simp only [Act.put, List.setIfInBounds_toArray, List.set_cons_zero, List.set_cons_succ]))
    | (refine seq_pass (by simp only [List.getElem?_toArray, List.getElem?_cons_succ, List.getElem?_cons_zero]; first | done | rfl) (by rfl) hHeld ?_; clear hHeld; intro hHeld; (try simp only [Act.put, List.setIfInBounds_toArray, List.set_cons_zero, List.set_cons_succ]))
    | (refine seq_call (by simp only [List.getElem?_toArray, List.getElem?_cons_succ, List.getElem?_cons_zero]; first | done | rfl) (by rfl) (fun K hK => ?_); go_simp; go_at_call 77; refine (HC.out _ (next b0 hHeld)).mono ?_; rintro r w1 ⟨rfl, b1⟩; go_simp; refine hK.out _ _ (next hHeld b1) ?_; clear hK hHeld; intro hHeld; (try simp only [Act.put, List.setIfInBounds_toArray, List.set_cons_zero, List.set_cons_succ]))
    | (refine seq_call (by simp only [List.getElem?_toArray, List.getElem?_cons_succ, List.getElem?_cons_zero]; first | done | rfl) (by rfl) (fun K hK => ?_); go_simp; go_at_call 76; refine (HSA.out _ (next b0 hHeld)).mono ?_; rintro r w1 ⟨rfl, b1⟩; go_simp; refine hK.out _ _ (next hHeld b1) ?_; clear hK hHeld; intro hHeld; (try simp only [Act.put, List.setIfInBounds_toArray, List.set_cons_zero, List.set_cons_succ])))
  refine seq_end ?_
  go_wp2
  go_ret
  exact ⟨rfl, next b0 hHeld⟩
theorem isScribe_any (i n : Int) (w : World) : Calls Tryz.prog 34 #[.int .i64 i, .int .i64 n] w fun e w' => e = .returned (.bool (M.isS i n)) ∧ w = w' := by
  by_cases h : 0 ≤ i
  · go_enter Tryz.func34, Tryz.ntmps34
    go_wp2
    go_ret
    exact ⟨by simp [M.isS, h], rfl⟩
  · go_enter Tryz.func34, Tryz.ntmps34
    go_wp2
    go_ret
    exact ⟨by simp [M.isS]; omega, rfl⟩
theorem indexOk_any (i : Int) (w : World) : Calls Tryz.prog 35 #[.int .i64 i] w fun e w' => e = .returned (.bool (M.inI i 0 400)) ∧ w = w' := by
  by_cases h : 0 ≤ i
  · go_enter Tryz.func35, Tryz.ntmps35
    go_wp2
    go_ret
    exact ⟨by simp [M.inI, h], rfl⟩
  · go_enter Tryz.func35, Tryz.ntmps35
    go_wp2
    go_ret
    exact ⟨by simp [M.inI]; omega, rfl⟩
set_option maxHeartbeats 4000000 in
theorem goes_any (s : LLt) (n : Int) (w : World) (hs : LtIn 1048576 w s) :
    Calls Tryz.prog 17 #[ltV s, .int .i64 n] w fun e w' => e = .returned (.bool (M.Lt.goes s.d n)) ∧ Below w.heap.size w w' := by
  have h0 := holds_new w (ltA s) 37
  have b0 := (Below.refl w.heap.size w).alloc (Nat.le_refl _) (.cells (ltA s) 37)
  have HS := Lib.hid hs
  have hlen : s.en.l.length ≤ 1048576 := hs.en.len
  clear hs
  obtain ⟨x0, hx0⟩ : ∃ b, M.cok n = b := ⟨_, rfl⟩
  obtain ⟨x1, hx1⟩ : ∃ b, M.isS s.frm n = b := ⟨_, rfl⟩
  obtain ⟨x2, hx2⟩ : ∃ b, M.isS s.dst n = b := ⟨_, rfl⟩
  obtain ⟨x3, hx3⟩ : ∃ b, (s.frm != s.dst) = b := ⟨_, rfl⟩
  have hw : M.Lt.goes s.d n = (x0 && (x1 && (x2 && x3))) := by
    rw [← hx0, ← hx1, ← hx2, ← hx3]; rfl
  have HW := Lib.hid hw
  have Hx0 := Lib.hid hx0
  have Hx1 := Lib.hid hx1
  have Hx2 := Lib.hid hx2
  have Hx3 := Lib.hid hx3
  clear hw hx0 hx1 hx2
  go_enter Tryz.func17, Tryz.ntmps17
  obtain ⟨k0, k1, k2, k3, k4, k5, k6, k7, k8, k9, k10⟩ := h0.at11
  go_wp2_with fail
  refine (implCountOk _ _).mono ?_
  rintro r w1 ⟨rfl, rfl⟩
  rw [Hx0.out]
  rcases x0 with _ | _
  · go_wp2
    go_ret
    exact ⟨ret_bool (by rw [HW.out] <;> first | rfl | simp), b0⟩
  · go_wp2_with fail
    refine (isScribe_any _ _ _).mono ?_
    rintro r w1 ⟨rfl, rfl⟩
    rw [Hx1.out]
    rcases x1 with _ | _
    · go_wp2
      go_ret
      exact ⟨ret_bool (by rw [HW.out] <;> first | rfl | simp), b0⟩
    · go_wp2_with fail
      refine (isScribe_any _ _ _).mono ?_
      rintro r w1 ⟨rfl, rfl⟩
      rw [Hx2.out]
      rcases x2 with _ | _
      · go_wp2
        go_ret
        exact ⟨ret_bool (by rw [HW.out] <;> first | rfl | simp), b0⟩
      · rcases x3 with _ | _
        · go_wp2
          go_ret
          exact ⟨ret_bool (by rw [HW.out] <;> first | rfl | simp), b0⟩
        · go_wp2
          go_ret
          exact ⟨ret_bool (by rw [HW.out] <;> first | rfl | simp), b0⟩
set_option maxHeartbeats 4000000 in
theorem nums_any (s : LLt) (w : World) (hs : LtIn 1048576 w s) :
    Calls Tryz.prog 19 #[ltV s] w fun e w' => e = .returned (.bool (M.Lt.nums s.d)) ∧ Below w.heap.size w w' := by
  have h0 := holds_new w (ltA s) 37
  have b0 := (Below.refl w.heap.size w).alloc (Nat.le_refl _) (.cells (ltA s) 37)
  have HS := Lib.hid hs
  have hlen : s.en.l.length ≤ 1048576 := hs.en.len
  clear hs
  obtain ⟨x0, hx0⟩ : ∃ b, M.inI s.index 0 400 = b := ⟨_, rfl⟩
  obtain ⟨x1, hx1⟩ : ∃ b, M.inI s.commit 0 400 = b := ⟨_, rfl⟩
  obtain ⟨x2, hx2⟩ : ∃ b, decide (0 ≤ s.mark) = b := ⟨_, rfl⟩
  obtain ⟨x3, hx3⟩ : ∃ b, decide (s.mark ≤ s.reign) = b := ⟨_, rfl⟩
  have hw : M.Lt.nums s.d = (x0 && (x1 && (x2 && x3))) := by
    rw [← hx0, ← hx1, ← hx2, ← hx3]; rfl
  have HW := Lib.hid hw
  have Hx0 := Lib.hid hx0
  have Hx1 := Lib.hid hx1
  have Hx2 := Lib.hid hx2
  have Hx3 := Lib.hid hx3
  clear hw hx0 hx1
  go_enter Tryz.func19, Tryz.ntmps19
  obtain ⟨k0, k1, k2, k3, k4, k5, k6, k7, k8, k9, k10⟩ := h0.at11
  go_wp2_with fail
  refine (indexOk_any _ _).mono ?_
  rintro r w1 ⟨rfl, rfl⟩
  rw [Hx0.out]
  rcases x0 with _ | _
  · go_wp2
    go_ret
    exact ⟨ret_bool (by rw [HW.out] <;> first | rfl | simp), b0⟩
  · go_wp2_with fail
    refine (indexOk_any _ _).mono ?_
    rintro r w1 ⟨rfl, rfl⟩
    rw [Hx1.out]
    rcases x1 with _ | _
    · go_wp2
      go_ret
      exact ⟨ret_bool (by rw [HW.out] <;> first | rfl | simp), b0⟩
    · rcases x2 with _ | _
      · go_wp2
        go_ret
        exact ⟨ret_bool (by rw [HW.out] <;> first | rfl | simp), b0⟩
      · rcases x3 with _ | _
        · go_wp2
          go_ret
          exact ⟨ret_bool (by rw [HW.out] <;> first | rfl | simp), b0⟩
        · go_wp2
          go_ret
          exact ⟨ret_bool (by rw [HW.out] <;> first | rfl | simp), b0⟩
set_option maxHeartbeats 1000000 in
theorem listClo_any (c : M.En) (s : LLt) (G : Nat) (w : World) (hG : Holds w G (ltA s)) :
    Calls Tryz.prog 39 #[enV c, .pointer (some ⟨G, 0, none⟩)] w fun r w' => r = .returned (.bool (decide (c.reign ≤ s.reign))) ∧ Below w.heap.size w w' := by
  have b0 := (Below.refl w.heap.size w).alloc (Nat.le_refl _) (.cells (enC c) 53)
  obtain ⟨k0, k1, k2, k3, k4, k5, k6, k7, k8, k9, k10⟩ := (hG.below b0).at11
  have zl := (hG.below b0).1
  have zg := hG.1
  obtain ⟨q0, q1, q2, q3, q4, q5, q6, q7, q8, q9, q10⟩ := hG.at11
  go_enter Tryz.func39, Tryz.ntmps39
  go_wp2
  go_ret
  exact ⟨rfl, b0⟩
set_option maxHeartbeats 1000000 in
theorem all1_reign (c : M.En) (s : LLt) (g G : Nat) (w : World) (hg : w.cell? ⟨g, 0, none⟩ = some (.func (.func 39) #[] #[.pointer (some ⟨G, 0, none⟩)])) (hG : Holds w G (ltA s)) :
    Calls Tryz.prog 65 #[enV c, .pointer (some ⟨g, 0, none⟩)] w fun r w' => r = .returned (.bool (!decide (c.reign ≤ s.reign))) ∧ Below w.heap.size w w' := by
  have b0 := (Below.refl w.heap.size w).alloc (Nat.le_refl _) (.cells (enC c) 53)
  have hgl : g < w.heap.size := World.block_lt_of_cell? w _ hg
  have HG := Lib.hid (hG.below b0)
  clear hG
  go_enter Tryz.func65, Tryz.ntmps65
  go_wp2_with fail
  refine (listClo_any c s G _ HG.out).mono ?_
  rintro r w1 ⟨rfl, b1⟩
  go_wp2
  go_ret
  exact ⟨rfl, next b0 b1⟩
set_option maxHeartbeats 1000000 in
theorem all_reign (s : LLt) (G : Nat) (w : World) (hG : Holds w G (ltA s)) (hl : Ens w s.en.ad s.en.l) (hlen : s.en.l.length ≤ 1048576) :
    Calls Tryz.prog 36 #[s.en.v, .func (.func 39) #[] #[.pointer (some ⟨G, 0, none⟩)]] w fun r w' => r = .returned (.bool (s.en.l.all (fun e => decide (e.reign ≤ s.reign)))) ∧ Below w.heap.size w w' := by
  have b0 := (Below.refl w.heap.size w).alloc (Nat.le_refl _) (.cells #[.func (.func 39) #[] #[.pointer (some ⟨G, 0, none⟩)]] 77)
  have HB : Hid (((s.en.l.findIdx (fun c => !decide (c.reign ≤ s.reign)) : Int) == (s.en.l.length : Int)) = s.en.l.all (fun e => decide (e.reign ≤ s.reign))) := Lib.hid (all_findIdxG _ _)
  have HL := Lib.hid hl
  have HG := Lib.hid (hG.below b0)
  clear hl hG
  go_enter Tryz.func36, Tryz.ntmps36
  go_wp2_with fail
  refine (enfirst_all (fun c => !decide (c.reign ≤ s.reign)) s.en.ad s.en.l s.en.cap _ _ (HL.out.alloc _) hlen (fun c w' hc hb => all1_reign c s _ G w' (box_cells hb 0) (HG.out.below hb))).mono ?_
  rintro r w1 ⟨rfl, b1⟩
  go_wp2
  go_ret
  exact ⟨ret_bool HB.out, next b0 b1⟩
set_option maxHeartbeats 4000000 in
theorem listI_any (s : LLt) (w : World) (hs : LtIn 1048576 w s) :
    Calls Tryz.prog 20 #[ltV s] w fun e w' => e = .returned (.bool (M.Lt.listI s.d)) ∧ Below w.heap.size w w' := by
  have h0 := holds_new w (ltA s) 37
  have b0 := (Below.refl w.heap.size w).alloc (Nat.le_refl _) (.cells (ltA s) 37)
  have HS := Lib.hid hs
  have hlen : s.en.l.length ≤ 1048576 := hs.en.len
  clear hs
  obtain ⟨x0, hx0⟩ : ∃ b, decide ((s.en.l.length : Int) ≤ 5) = b := ⟨_, rfl⟩
  obtain ⟨x1, hx1⟩ : ∃ b, s.en.l.all M.entryOk = b := ⟨_, rfl⟩
  obtain ⟨x2, hx2⟩ : ∃ b, M.upFrom s.mark s.en.l = b := ⟨_, rfl⟩
  obtain ⟨x3, hx3⟩ : ∃ b, s.en.l.all (fun e => decide (e.reign ≤ s.reign)) = b := ⟨_, rfl⟩
  have hw : M.Lt.listI s.d = (x0 && (x1 && (x2 && x3))) := by
    have h5 : decide (s.d.list.length ≤ 5) = x0 := by
      show decide (s.en.l.length ≤ 5) = x0
      rw [← hx0, Bool.eq_iff_iff, decide_eq_true_eq, decide_eq_true_eq]
      omega
    unfold M.Lt.listI
    rw [h5, ← hx1, ← hx2, ← hx3]; rfl
  have HW := Lib.hid hw
  have Hx0 := Lib.hid hx0
  have Hx1 := Lib.hid hx1
  have Hx2 := Lib.hid hx2
  have Hx3 := Lib.hid hx3
  clear hw hx1 hx2 hx3
  go_enter Tryz.func20, Tryz.ntmps20
  obtain ⟨k0, k1, k2, k3, k4, k5, k6, k7, k8, k9, k10⟩ := h0.at11
  rcases x0 with _ | _
  · go_wp2
    go_ret
    exact ⟨ret_bool (by rw [HW.out] <;> first | rfl | simp), b0⟩
  · go_wp2_with fail
    refine (all_entryOk s.en.ad s.en.l s.en.cap _ (HS.out.en.en.below b0) hlen HS.out.en.txt).mono ?_
    rintro r w1 ⟨rfl, b1⟩
    rw [Hx1.out]
    replace h0 := h0.below b1
    replace b0 := next b0 b1
    clear k0 k1 k2 k3 k4 k5 k6 k7 k8 k9 k10 b1
    obtain ⟨k0, k1, k2, k3, k4, k5, k6, k7, k8, k9, k10⟩ := h0.at11
    rcases x1 with _ | _
    · go_wp2
      go_ret
      exact ⟨ret_bool (by rw [HW.out] <;> first | rfl | simp), b0⟩
    · go_wp2_with fail
      refine (reignsOk_any _ s.en.ad s.en.l s.en.cap _ (HS.out.en.en.below b0) hlen).mono ?_
      rintro r w1 ⟨rfl, b1⟩
      rw [Hx2.out]
      replace h0 := h0.below b1
      replace b0 := next b0 b1
      clear k0 k1 k2 k3 k4 k5 k6 k7 k8 k9 k10 b1
      obtain ⟨k0, k1, k2, k3, k4, k5, k6, k7, k8, k9, k10⟩ := h0.at11
      rcases x2 with _ | _
      · go_wp2
        go_ret
        exact ⟨ret_bool (by rw [HW.out] <;> first | rfl | simp), b0⟩
      · go_wp2_with fail
        refine (all_reign s _ _ h0 (HS.out.en.en.below b0) hlen).mono ?_
        rintro r w1 ⟨rfl, b1⟩
        rw [Hx3.out]
        replace h0 := h0.below b1
        replace b0 := next b0 b1
        clear k0 k1 k2 k3 k4 k5 k6 k7 k8 k9 k10 b1
        obtain ⟨k0, k1, k2, k3, k4, k5, k6, k7, k8, k9, k10⟩ := h0.at11
        rcases x3 with _ | _
        · go_wp2
          go_ret
          exact ⟨ret_bool (by rw [HW.out] <;> first | rfl | simp), b0⟩
        · go_wp2
          go_ret
          exact ⟨ret_bool (by rw [HW.out] <;> first | rfl | simp), b0⟩
theorem er_none (n : Nat) (w : World) : ErIn n w Sl.none := ⟨.inl rfl, Nat.zero_le _, Nat.zero_le _, fun _ => rfl, fun _ h => absurd h (by simp [Sl.none])⟩
theorem bk_none (n : Nat) (w : World) : BkIn n w ⟨Sl.none, Sl.none⟩ := ⟨⟨.inl rfl, fun _ h => absurd h (by simp [Sl.none])⟩, fun _ h => absurd h (by simp [Sl.none]), Nat.zero_le _, fun _ h => absurd h (by simp [Sl.none]), .inl rfl, fun _ => rfl, Nat.zero_le _, fun _ h => absurd h (by simp [Sl.none])⟩
set_option maxHeartbeats 8000000 in
theorem kindI_any (s : LLt) (w : World) (hs : LtIn 1048576 w s) :
    Calls Tryz.prog 22 #[ltV s] w fun e w' => e = .returned (.bool (M.Lt.kindI s.d)) ∧ Below w.heap.size w w' := by
  have h0 := holds_new w (ltA s) 37
  have b0 := (Below.refl w.heap.size w).alloc (Nat.le_refl _) (.cells (ltA s) 37)
  have HS := Lib.hid hs
  clear hs
  obtain ⟨Q, hQ⟩ : ∃ Q, M.Lt.kindI s.d = Q := ⟨_, rfl⟩
  have hQ2 : (if s.kind = 1 then decide (s.d = ({ (ltZero s) with index := s.index, mark := s.mark } : LLt).d) else if s.kind = 2 then decide (s.d = ({ (ltZero s) with yes := s.yes } : LLt).d) else if s.kind = 3 then decide (s.d = ({ (ltZero s) with index := s.index, mark := s.mark, en := s.en, commit := s.commit } : LLt).d) else if s.kind = 4 then decide (s.d = ({ (ltZero s) with yes := s.yes, index := s.index } : LLt).d) else if s.kind = 5 then decide (s.d = ({ (ltZero s) with index := s.index, mark := s.mark, bk := s.bk } : LLt).d) else false) = Q := hQ
  rw [hQ]
  clear hQ
  go_enter Tryz.func22, Tryz.ntmps22
  obtain ⟨k0, k1, k2, k3, k4, k5, k6, k7, k8, k9, k10⟩ := h0.at11
  by_cases t1 : s.kind = 1
  · rw [if_pos t1] at hQ2
    have HQ2 := Lib.hid hQ2
    clear hQ2
    have e1 : (s.kind == 1) = true := by simp [t1]
    have e2 : (s.kind == 2) = false := by simp [t1]
    have e3 : (s.kind == 3) = false := by simp [t1]
    have e4 : (s.kind == 4) = false := by simp [t1]
    have e5 : (s.kind == 5) = false := by simp [t1]
    clear t1
    go_wp2_with fail
    have bz := b0.alloc (by simp) (.cells #[.func (.func 46) #[] #[], .func (.func 47) #[] #[]] 133)
    have hg := holds_new (w.alloc (.cells (ltA s) 37)) #[.func (.func 46) #[] #[], .func (.func 47) #[] #[]] 133
    rw [World.size_alloc] at hg
    refine (tells_any s ({ (ltZero s) with index := s.index, mark := s.mark } : LLt) _ _ (HS.out.below bz) ⟨er_none _ _, bk_none _ _⟩ (fun w' hb => onlyAsk s _ w' ((hg.below hb).2 0 _ rfl) ((hg.below hb).2 1 _ rfl) (hg.below hb).1)).mono ?_
    rintro r w1 ⟨rfl, b1⟩
    rw [HQ2.out]
    go_wp2
    go_ret
    exact ⟨rfl, next bz b1⟩
  by_cases t2 : s.kind = 2
  · rw [if_neg t1, if_pos t2] at hQ2
    have HQ2 := Lib.hid hQ2
    clear hQ2
    have e1 : (s.kind == 1) = false := by simp [t2]
    have e2 : (s.kind == 2) = true := by simp [t2]
    have e3 : (s.kind == 3) = false := by simp [t2]
    have e4 : (s.kind == 4) = false := by simp [t2]
    have e5 : (s.kind == 5) = false := by simp [t2]
    clear t1 t2
    go_wp2_with fail
    have bz := b0.alloc (by simp) (.cells #[.func (.func 48) #[] #[]] 133)
    have hg := holds_new (w.alloc (.cells (ltA s) 37)) #[.func (.func 48) #[] #[]] 133
    rw [World.size_alloc] at hg
    refine (tells_any s ({ (ltZero s) with yes := s.yes } : LLt) _ _ (HS.out.below bz) ⟨er_none _ _, bk_none _ _⟩ (fun w' hb => onlyVote s _ w' ((hg.below hb).2 0 _ rfl) (hg.below hb).1)).mono ?_
    rintro r w1 ⟨rfl, b1⟩
    rw [HQ2.out]
    go_wp2
    go_ret
    exact ⟨rfl, next bz b1⟩
  by_cases t3 : s.kind = 3
  · rw [if_neg t1, if_neg t2, if_pos t3] at hQ2
    have HQ2 := Lib.hid hQ2
    clear hQ2
    have e1 : (s.kind == 1) = false := by simp [t3]
    have e2 : (s.kind == 2) = false := by simp [t3]
    have e3 : (s.kind == 3) = true := by simp [t3]
    have e4 : (s.kind == 4) = false := by simp [t3]
    have e5 : (s.kind == 5) = false := by simp [t3]
    clear t1 t2 t3
    go_wp2_with fail
    have bz := b0.alloc (by simp) (.cells #[.func (.func 46) #[] #[], .func (.func 47) #[] #[], .func (.func 49) #[] #[], .func (.func 50) #[] #[]] 133)
    have hg := holds_new (w.alloc (.cells (ltA s) 37)) #[.func (.func 46) #[] #[], .func (.func 47) #[] #[], .func (.func 49) #[] #[], .func (.func 50) #[] #[]] 133
    rw [World.size_alloc] at hg
    refine (tells_any s ({ (ltZero s) with index := s.index, mark := s.mark, en := s.en, commit := s.commit } : LLt) _ _ (HS.out.below bz) ⟨HS.out.en.below bz, bk_none _ _⟩ (fun w' hb => onlyAdd s _ w' ((hg.below hb).2 0 _ rfl) ((hg.below hb).2 1 _ rfl) ((hg.below hb).2 2 _ rfl) ((hg.below hb).2 3 _ rfl) (hg.below hb).1)).mono ?_
    rintro r w1 ⟨rfl, b1⟩
    rw [HQ2.out]
    go_wp2
    go_ret
    exact ⟨rfl, next bz b1⟩
  by_cases t4 : s.kind = 4
  · rw [if_neg t1, if_neg t2, if_neg t3, if_pos t4] at hQ2
    have HQ2 := Lib.hid hQ2
    clear hQ2
    have e1 : (s.kind == 1) = false := by simp [t4]
    have e2 : (s.kind == 2) = false := by simp [t4]
    have e3 : (s.kind == 3) = false := by simp [t4]
    have e4 : (s.kind == 4) = true := by simp [t4]
    have e5 : (s.kind == 5) = false := by simp [t4]
    clear t1 t2 t3 t4
    go_wp2_with fail
    have bz := b0.alloc (by simp) (.cells #[.func (.func 48) #[] #[], .func (.func 46) #[] #[]] 133)
    have hg := holds_new (w.alloc (.cells (ltA s) 37)) #[.func (.func 48) #[] #[], .func (.func 46) #[] #[]] 133
    rw [World.size_alloc] at hg
    refine (tells_any s ({ (ltZero s) with yes := s.yes, index := s.index } : LLt) _ _ (HS.out.below bz) ⟨er_none _ _, bk_none _ _⟩ (fun w' hb => onlyGot s _ w' ((hg.below hb).2 0 _ rfl) ((hg.below hb).2 1 _ rfl) (hg.below hb).1)).mono ?_
    rintro r w1 ⟨rfl, b1⟩
    rw [HQ2.out]
    go_wp2
    go_ret
    exact ⟨rfl, next bz b1⟩
  by_cases t5 : s.kind = 5
  · rw [if_neg t1, if_neg t2, if_neg t3, if_neg t4, if_pos t5] at hQ2
    have HQ2 := Lib.hid hQ2
    clear hQ2
    have e1 : (s.kind == 1) = false := by simp [t5]
    have e2 : (s.kind == 2) = false := by simp [t5]
    have e3 : (s.kind == 3) = false := by simp [t5]
    have e4 : (s.kind == 4) = false := by simp [t5]
    have e5 : (s.kind == 5) = true := by simp [t5]
    clear t1 t2 t3 t4 t5
    go_wp2_with fail
    have bz := b0.alloc (by simp) (.cells #[.func (.func 46) #[] #[], .func (.func 47) #[] #[], .func (.func 51) #[] #[]] 133)
    have hg := holds_new (w.alloc (.cells (ltA s) 37)) #[.func (.func 46) #[] #[], .func (.func 47) #[] #[], .func (.func 51) #[] #[]] 133
    rw [World.size_alloc] at hg
    refine (tells_any s ({ (ltZero s) with index := s.index, mark := s.mark, bk := s.bk } : LLt) _ _ (HS.out.below bz) ⟨er_none _ _, HS.out.bk.below bz⟩ (fun w' hb => onlyGift s _ w' ((hg.below hb).2 0 _ rfl) ((hg.below hb).2 1 _ rfl) ((hg.below hb).2 2 _ rfl) (hg.below hb).1)).mono ?_
    rintro r w1 ⟨rfl, b1⟩
    rw [HQ2.out]
    go_wp2
    go_ret
    exact ⟨rfl, next bz b1⟩
  rw [if_neg t1, if_neg t2, if_neg t3, if_neg t4, if_neg t5] at hQ2
  subst hQ2
  go_wp2
  go_ret
  exact ⟨rfl, b0⟩
theorem ltImplBook (b : LBk) (w : World) (h : BkIn 1048576 w b) : Calls Tryz.prog 21 #[b.v] w fun e w' => e = .returned (.bool (M.bkOk b.d.1 b.d.2)) ∧ Below w.heap.size w w' := implBookOk b.sf.ad b.sf.l b.sf.cap b.la.ad b.la.l b.la.cap w h.sf h.sfl h.sft h.la h.lal
set_option maxHeartbeats 4000000 in
theorem implLetterOkI (s : LLt) (n : Int) (w : World) (hs : LtIn 1048576 w s) :
    Calls Tryz.prog 7 #[ltV s, .int .i64 n] w fun e w' => e = .returned (.bool (M.ltOkI s.d n)) ∧ Below w.heap.size w w' := by
  have h0 := holds_new w (ltA s) 37
  have b0 := (Below.refl w.heap.size w).alloc (Nat.le_refl _) (.cells (ltA s) 37)
  have HS := Lib.hid hs
  have hlen : s.en.l.length ≤ 1048576 := hs.en.len
  clear hs
  obtain ⟨x0, hx0⟩ : ∃ b, M.Lt.goes s.d n = b := ⟨_, rfl⟩
  obtain ⟨x1, hx1⟩ : ∃ b, M.inI s.reign 1 1000 = b := ⟨_, rfl⟩
  obtain ⟨x2, hx2⟩ : ∃ b, M.Lt.nums s.d = b := ⟨_, rfl⟩
  obtain ⟨x3, hx3⟩ : ∃ b, M.Lt.listI s.d = b := ⟨_, rfl⟩
  obtain ⟨x4, hx4⟩ : ∃ b, M.bkOk s.bk.d.1 s.bk.d.2 = b := ⟨_, rfl⟩
  obtain ⟨x5, hx5⟩ : ∃ b, M.Lt.kindI s.d = b := ⟨_, rfl⟩
  have hw : M.ltOkI s.d n = (x0 && (x1 && (x2 && (x3 && (x4 && x5))))) := by
    rw [← hx0, ← hx1, ← hx2, ← hx3, ← hx4, ← hx5]; rfl
  have HW := Lib.hid hw
  have Hx0 := Lib.hid hx0
  have Hx1 := Lib.hid hx1
  have Hx2 := Lib.hid hx2
  have Hx3 := Lib.hid hx3
  have Hx4 := Lib.hid hx4
  have Hx5 := Lib.hid hx5
  clear hw hx0 hx1 hx2 hx3 hx4 hx5
  go_enter Tryz.func7, Tryz.ntmps7
  obtain ⟨k0, k1, k2, k3, k4, k5, k6, k7, k8, k9, k10⟩ := h0.at11
  go_wp2_with fail
  refine (goes_any s n _ (HS.out.below b0)).mono ?_
  rintro r w1 ⟨rfl, b1⟩
  rw [Hx0.out]
  replace h0 := h0.below b1
  replace b0 := next b0 b1
  clear k0 k1 k2 k3 k4 k5 k6 k7 k8 k9 k10 b1
  obtain ⟨k0, k1, k2, k3, k4, k5, k6, k7, k8, k9, k10⟩ := h0.at11
  rcases x0 with _ | _
  · go_wp2
    go_ret
    exact ⟨ret_bool (by rw [HW.out] <;> first | rfl | simp), b0⟩
  · go_wp2_with fail
    refine (reignOk_any _ _).mono ?_
    rintro r w1 ⟨rfl, rfl⟩
    rw [Hx1.out]
    rcases x1 with _ | _
    · go_wp2
      go_ret
      exact ⟨ret_bool (by rw [HW.out] <;> first | rfl | simp), b0⟩
    · go_wp2_with fail
      refine (nums_any s _ (HS.out.below b0)).mono ?_
      rintro r w1 ⟨rfl, b1⟩
      rw [Hx2.out]
      replace h0 := h0.below b1
      replace b0 := next b0 b1
      clear k0 k1 k2 k3 k4 k5 k6 k7 k8 k9 k10 b1
      obtain ⟨k0, k1, k2, k3, k4, k5, k6, k7, k8, k9, k10⟩ := h0.at11
      rcases x2 with _ | _
      · go_wp2
        go_ret
        exact ⟨ret_bool (by rw [HW.out] <;> first | rfl | simp), b0⟩
      · go_wp2_with fail
        refine (listI_any s _ (HS.out.below b0)).mono ?_
        rintro r w1 ⟨rfl, b1⟩
        rw [Hx3.out]
        replace h0 := h0.below b1
        replace b0 := next b0 b1
        clear k0 k1 k2 k3 k4 k5 k6 k7 k8 k9 k10 b1
        obtain ⟨k0, k1, k2, k3, k4, k5, k6, k7, k8, k9, k10⟩ := h0.at11
        rcases x3 with _ | _
        · go_wp2
          go_ret
          exact ⟨ret_bool (by rw [HW.out] <;> first | rfl | simp), b0⟩
        · go_wp2_with fail
          refine (ltImplBook s.bk _ (HS.out.bk.below b0)).mono ?_
          rintro r w1 ⟨rfl, b1⟩
          rw [Hx4.out]
          replace h0 := h0.below b1
          replace b0 := next b0 b1
          clear k0 k1 k2 k3 k4 k5 k6 k7 k8 k9 k10 b1
          obtain ⟨k0, k1, k2, k3, k4, k5, k6, k7, k8, k9, k10⟩ := h0.at11
          rcases x4 with _ | _
          · go_wp2
            go_ret
            exact ⟨ret_bool (by rw [HW.out] <;> first | rfl | simp), b0⟩
          · go_wp2_with fail
            refine (kindI_any s _ (HS.out.below b0)).mono ?_
            rintro r w1 ⟨rfl, b1⟩
            rw [Hx5.out]
            replace h0 := h0.below b1
            replace b0 := next b0 b1
            clear k0 k1 k2 k3 k4 k5 k6 k7 k8 k9 k10 b1
            obtain ⟨k0, k1, k2, k3, k4, k5, k6, k7, k8, k9, k10⟩ := h0.at11
            rcases x5 with _ | _
            · go_wp2
              go_ret
              exact ⟨ret_bool (by rw [HW.out] <;> first | rfl | simp), b0⟩
            · go_wp2
              go_ret
              exact ⟨ret_bool (by rw [HW.out] <;> first | rfl | simp), b0⟩
end Go.Proofs.YtdoeiphnalbinaaGreat
