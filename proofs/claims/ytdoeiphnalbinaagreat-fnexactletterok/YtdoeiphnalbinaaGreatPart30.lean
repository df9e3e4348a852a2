/- Proved, in parts: Proved: the model's test of a roll, its last number and the reign of an entry answer the plain Lean functions that the program's answer; nothing that was there is written. Condition: texts and lists of at most a million. Proved: the model's test of a letter answers a plain Lean function; nothing that was there is written. Condition: texts and lists of at most a million. -/
import Derived.Test.YtdoeiphnalbinaaGreatPart24
import Derived.Test.YtdoeiphnalbinaaGreatPart29
import Derived.Test.YtdoeiphnalbinaaGreatPart15
namespace Go.Proofs.YtdoeiphnalbinaaGreat
open Go.RowKit
set_option maxRecDepth 20000
set_option linter.unusedVariables false
set_option maxHeartbeats 2000000 in
theorem l8List_any (r : Int) (A : Option Addr) (l : List M.En) (cap : Nat) (w : World) (hl : Ens w A l) (hlen : l.length ≤ 1048576) (hp : ∀ e ∈ l, enIn 1048576 e) :
    Calls Tryz.prog 28 #[.slice A l.length cap, .int .i64 r] w fun e w' => e = .returned (.bool (M.listOk r l)) ∧ Below w.heap.size w w' := by
  have HP := Lib.hid hp
  clear hp
  go_enter Tryz.func28, Tryz.ntmps28
  go_wp2
  go_loopw [1, 5] (fun a i wr => ∃ j : Nat, i = .int .i64 j ∧ a = .int .i64 (M.reignAhead r l j) ∧ j ≤ l.length ∧ M.OkTo r l j ∧ Below w.heap.size w wr) (fun _ i _ => l.length - (intOf i).toNat)
  case atStart => exact ⟨0, rfl, rfl, Nat.zero_le _, M.OkTo.zero r l, Below.refl _ _⟩
  case round =>
    obtain ⟨j, rfl, rfl, hj, hup, hbl⟩ := hrel
    by_cases hlt : j < l.length
    · have hj' := Ens_at (hl.below hbl) hlt
      obtain ⟨b, o, rfl, zb, c0, c1, c2, c3, c4, c5, c6, c7, c8, c9⟩ := hj'
      obtain ⟨hn, hg⟩ : enIn 1048576 l[j] := HP.out l[j] (List.getElem_mem hlt)
      have HA := Lib.hid hl
      have HU := Lib.hid hup
      have HS := Lib.hid (M.reignAhead_succ (r := r) hlt)
      obtain ⟨K, hK⟩ : ∃ K, M.reignAhead r l j = K := ⟨_, rfl⟩
      have HK := Lib.hid hK
      rw [hK]
      clear hl hup hK
      rcases he : M.entryOk l[j] with _ | _
      · have HE : Hid (M.listOk r l = false) := Lib.hid (M.list_not hlt (.inl he))
        have HQ := Lib.hid he
        clear he
        go_wp2_with fail
        refine (specEntryOk l[j] _ (by unfold maxLen; omega) (by unfold maxLen; omega)).mono ?_
        rintro e w1 ⟨rfl, b1⟩
        rw [HQ.out]
        go_wp2
        go_ret
        exact ⟨ret_bool HE.out.symm, next hbl b1⟩
      · have HQ := Lib.hid he
        clear he
        by_cases hr : K ≤ l[j].reign
        · have HN := Lib.hid (HU.out.next hlt HQ.out (by rw [HK.out]; exact hr))
          go_wp2_with fail
          refine (specEntryOk l[j] _ (by unfold maxLen; omega) (by unfold maxLen; omega)).mono ?_
          rintro e w1 ⟨rfl, b1⟩
          rw [HQ.out]
          have d0 := (b1.cell (p := ⟨b, o + j * 10, none⟩) zb).trans c0
          clear c0 c1 c2 c3 c4 c5 c6 c7 c8 c9
          go_wp2
          go_roundw
          case rel => exact ⟨j + 1, by go_num, by rw [HS.out], by omega, HN.out, next hbl b1⟩
          case measure => simp [intOf]; omega
        · have HE : Hid (M.listOk r l = false) := Lib.hid (M.list_not hlt (.inr (by rw [HK.out]; exact hr)))
          go_wp2_with fail
          refine (specEntryOk l[j] _ (by unfold maxLen; omega) (by unfold maxLen; omega)).mono ?_
          rintro e w1 ⟨rfl, b1⟩
          rw [HQ.out]
          have d0 := (b1.cell (p := ⟨b, o + j * 10, none⟩) zb).trans c0
          clear c0 c1 c2 c3 c4 c5 c6 c7 c8 c9
          go_wp2
          go_ret
          exact ⟨ret_bool HE.out.symm, next hbl b1⟩
    · have hj' : j = l.length := by omega
      subst hj'
      have HE : Hid (M.listOk r l = true) := Lib.hid hup.all
      clear hup
      go_wp2
      go_ret
      exact ⟨ret_bool HE.out.symm, hbl⟩
end Go.Proofs.YtdoeiphnalbinaaGreat
namespace Go.Proofs.YtdoeiphnalbinaaGreat
open Go.RowKit
set_option maxRecDepth 20000

theorem ltBookOk (b : LBk) (w : World) (h : BkIn 1048576 w b) : Calls Tryz.prog 29 #[b.v] w fun e w' => e = .returned (.bool (M.bkOk b.d.1 b.d.2)) ∧ Below w.heap.size w w' := specBookOk b.sf.ad b.sf.l b.sf.cap b.la.ad b.la.l b.la.cap w h.sf h.sfl h.sft h.la h.lal
theorem ltList (s : Sl M.En) (r : Int) (w : World) (h : ErIn 1048576 w s) : Calls Tryz.prog 28 #[s.v, .int .i64 r] w fun e w' => e = .returned (.bool (M.listOk r s.l)) ∧ Below w.heap.size w w' := l8List_any r s.ad s.l s.cap w h.en h.len h.txt
theorem len0 (n : Nat) : ((n : Int) == 0) = decide (n = 0) := by rw [Bool.eq_iff_iff]; simp
theorem int0 (n : Int) : (n == 0) = decide (n = 0) := by rw [Bool.eq_iff_iff]; simp
set_option maxHeartbeats 8000000 in
theorem l11Bare_any (s : LLt) (w : World) (hs : LtIn 1048576 w s) :
    Calls Tryz.prog 14 #[ltV s] w fun e w' => e = .returned (.bool s.d.bare) ∧ Below w.heap.size w w' := by
  have b0 := (Below.refl w.heap.size w).alloc (Nat.le_refl _) (.cells (ltA s) 37)
  have h0 := holds_new w (ltA s) 37
  have HS := Lib.hid hs
  have hlen : s.en.l.length ≤ 1048576 := hs.en.len
  have hsfl : s.bk.sf.l.length ≤ 1048576 := hs.bk.sfl
  have hlal : s.bk.la.l.length ≤ 1048576 := hs.bk.lal
  clear hs
  obtain ⟨cl, hcl⟩ : ∃ b, ((s.en.l.length : Int) == 0) = b := ⟨_, rfl⟩
  obtain ⟨cc, hcc⟩ : ∃ b, (s.commit == 0) = b := ⟨_, rfl⟩
  obtain ⟨ci, hci⟩ : ∃ b, (s.index == 0) = b := ⟨_, rfl⟩
  obtain ⟨cm, hcm⟩ : ∃ b, (s.mark == 0) = b := ⟨_, rfl⟩
  obtain ⟨c5, hc5⟩ : ∃ b, decide ((s.en.l.length : Int) ≤ 5) = b := ⟨_, rfl⟩
  obtain ⟨cy, hcy⟩ : ∃ b, s.yes = b := ⟨_, rfl⟩
  obtain ⟨cb, hcb⟩ : ∃ b, M.bkOk s.bk.d.1 s.bk.d.2 = b := ⟨_, rfl⟩
  obtain ⟨ck, hck⟩ : ∃ b, M.listOk s.mark s.en.l = b := ⟨_, rfl⟩
  obtain ⟨e1, he1⟩ : ∃ b, ((s.bk.sf.l.length : Int) == 0) = b := ⟨_, rfl⟩
  obtain ⟨e2, he2⟩ : ∃ b, ((s.bk.la.l.length : Int) == 0) = b := ⟨_, rfl⟩
  have x1 : decide (s.d.list.length = 0) = cl := by rw [← hcl, len0]; rfl
  have x2 : decide (s.d.commit = 0) = cc := by rw [← hcc, int0]; rfl
  have x3 : decide (s.d.index = 0) = ci := by rw [← hci, int0]; rfl
  have x4 : decide (s.d.mark = 0) = cm := by rw [← hcm, int0]; rfl
  have x5 : decide (s.d.list.length ≤ 5) = c5 := by
    show decide (s.en.l.length ≤ 5) = c5
    rw [← hc5, Bool.eq_iff_iff, decide_eq_true_eq, decide_eq_true_eq]
    omega
  have x6 : s.d.noBook = (e1 && e2) := by
    rw [← he1, ← he2, len0, len0]
    show (decide ((s.bk.sf.l.map Wr.wk).length = 0) && decide (s.bk.la.l.length = 0)) = _
    rw [List.length_map]
  have x7 : s.d.yes = cy := hcy
  have x8 : M.bkOk s.d.book.1 s.d.book.2 = cb := hcb
  have x9 : M.listOk s.d.mark s.d.list = ck := hck
  have hx : s.d.bare = (if s.kind = 1 then cl && (cc && (!cy && (e1 && e2))) else if s.kind = 2 then ci && (cm && (cl && (cc && (e1 && e2)))) else if s.kind = 3 then !cy && ((e1 && e2) && (c5 && ck)) else if s.kind = 4 then cm && (cl && (cc && (e1 && e2))) else if s.kind = 5 then cl && (cc && (!cy && cb)) else false) := by
    unfold M.Lt.bare
    rw [x1, x2, x3, x4, x5, x6, x7, x8, x9]
    rfl
  have HW := Lib.hid hx
  have HCB := Lib.hid hcb
  have HCK := Lib.hid hck
  clear x1 x2 x3 x4 x5 x6 x7 x8 x9 hx hcb hck
  go_enter Tryz.func14, Tryz.ntmps14
  obtain ⟨k0, k1, k2, k3, k4, k5, k6, k7, k8, k9, k10⟩ := h0.at11
  rcases e1 with _ | _
  · by_cases t1 : s.kind = 1
    · have hv := HW.out
      rw [if_pos t1] at hv
      have HV := Lib.hid hv
      clear hv
      have q1 : (s.kind == 1) = true := by simp [t1]
      rcases cl with _ | _
      · go_wp2
        go_ret
        exact ⟨ret_bool (by rw [HV.out] <;> first | rfl | simp), b0⟩
      · rcases cc with _ | _
        · go_wp2
          go_ret
          exact ⟨ret_bool (by rw [HV.out] <;> first | rfl | simp), b0⟩
        · rcases cy with _ | _
          · go_wp2
            go_ret
            exact ⟨ret_bool (by rw [HV.out] <;> first | rfl | simp), b0⟩
          · go_wp2
            go_ret
            exact ⟨ret_bool (by rw [HV.out] <;> first | rfl | simp), b0⟩
    · skip
      by_cases t2 : s.kind = 2
      · have hv := HW.out
        rw [if_neg t1, if_pos t2] at hv
        have HV := Lib.hid hv
        clear hv
        have q2 : (s.kind == 2) = true := by simp [t2]
        have q1 : (s.kind == 1) = false := by simp [t1]
        rcases ci with _ | _
        · go_wp2
          go_ret
          exact ⟨ret_bool (by rw [HV.out] <;> first | rfl | simp), b0⟩
        · rcases cm with _ | _
          · go_wp2
            go_ret
            exact ⟨ret_bool (by rw [HV.out] <;> first | rfl | simp), b0⟩
          · rcases cl with _ | _
            · go_wp2
              go_ret
              exact ⟨ret_bool (by rw [HV.out] <;> first | rfl | simp), b0⟩
            · rcases cc with _ | _
              · go_wp2
                go_ret
                exact ⟨ret_bool (by rw [HV.out] <;> first | rfl | simp), b0⟩
              · go_wp2
                go_ret
                exact ⟨ret_bool (by rw [HV.out] <;> first | rfl | simp), b0⟩
      · skip
        by_cases t3 : s.kind = 3
        · have hv := HW.out
          rw [if_neg t1, if_neg t2, if_pos t3] at hv
          have HV := Lib.hid hv
          clear hv
          have q3 : (s.kind == 3) = true := by simp [t3]
          have q1 : (s.kind == 1) = false := by simp [t1]
          have q2 : (s.kind == 2) = false := by simp [t2]
          rcases cy with _ | _
          · go_wp2
            go_ret
            exact ⟨ret_bool (by rw [HV.out] <;> first | rfl | simp), b0⟩
          · go_wp2
            go_ret
            exact ⟨ret_bool (by rw [HV.out] <;> first | rfl | simp), b0⟩
        · skip
          by_cases t4 : s.kind = 4
          · have hv := HW.out
            rw [if_neg t1, if_neg t2, if_neg t3, if_pos t4] at hv
            have HV := Lib.hid hv
            clear hv
            have q4 : (s.kind == 4) = true := by simp [t4]
            have q1 : (s.kind == 1) = false := by simp [t1]
            have q2 : (s.kind == 2) = false := by simp [t2]
            have q3 : (s.kind == 3) = false := by simp [t3]
            rcases cm with _ | _
            · go_wp2
              go_ret
              exact ⟨ret_bool (by rw [HV.out] <;> first | rfl | simp), b0⟩
            · rcases cl with _ | _
              · go_wp2
                go_ret
                exact ⟨ret_bool (by rw [HV.out] <;> first | rfl | simp), b0⟩
              · rcases cc with _ | _
                · go_wp2
                  go_ret
                  exact ⟨ret_bool (by rw [HV.out] <;> first | rfl | simp), b0⟩
                · go_wp2
                  go_ret
                  exact ⟨ret_bool (by rw [HV.out] <;> first | rfl | simp), b0⟩
          · skip
            by_cases t5 : s.kind = 5
            · have hv := HW.out
              rw [if_neg t1, if_neg t2, if_neg t3, if_neg t4, if_pos t5] at hv
              have HV := Lib.hid hv
              clear hv
              have q5 : (s.kind == 5) = true := by simp [t5]
              have q1 : (s.kind == 1) = false := by simp [t1]
              have q2 : (s.kind == 2) = false := by simp [t2]
              have q3 : (s.kind == 3) = false := by simp [t3]
              have q4 : (s.kind == 4) = false := by simp [t4]
              rcases cl with _ | _
              · go_wp2
                go_ret
                exact ⟨ret_bool (by rw [HV.out] <;> first | rfl | simp), b0⟩
              · rcases cc with _ | _
                · go_wp2
                  go_ret
                  exact ⟨ret_bool (by rw [HV.out] <;> first | rfl | simp), b0⟩
                · rcases cy with _ | _
                  · go_wp2_with fail
                    refine (ltBookOk s.bk _ (HS.out.bk.below b0)).mono ?_
                    rintro r w1 ⟨rfl, b1⟩
                    replace b0 := next b0 b1
                    clear b1
                    rw [HCB.out]
                    go_wp2
                    go_ret
                    exact ⟨ret_bool (by rw [HV.out] <;> first | rfl | simp), b0⟩
                  · go_wp2
                    go_ret
                    exact ⟨ret_bool (by rw [HV.out] <;> first | rfl | simp), b0⟩
            · skip
              have hv := HW.out
              rw [if_neg t1, if_neg t2, if_neg t3, if_neg t4, if_neg t5] at hv
              have HV := Lib.hid hv
              clear hv
              have q1 : (s.kind == 1) = false := by simp [t1]
              have q2 : (s.kind == 2) = false := by simp [t2]
              have q3 : (s.kind == 3) = false := by simp [t3]
              have q4 : (s.kind == 4) = false := by simp [t4]
              have q5 : (s.kind == 5) = false := by simp [t5]
              go_wp2
              go_ret
              exact ⟨ret_bool (by rw [HV.out] <;> first | rfl | simp), b0⟩
  · rcases e2 with _ | _
    · by_cases t1 : s.kind = 1
      · have hv := HW.out
        rw [if_pos t1] at hv
        have HV := Lib.hid hv
        clear hv
        have q1 : (s.kind == 1) = true := by simp [t1]
        rcases cl with _ | _
        · go_wp2
          go_ret
          exact ⟨ret_bool (by rw [HV.out] <;> first | rfl | simp), b0⟩
        · rcases cc with _ | _
          · go_wp2
            go_ret
            exact ⟨ret_bool (by rw [HV.out] <;> first | rfl | simp), b0⟩
          · rcases cy with _ | _
            · go_wp2
              go_ret
              exact ⟨ret_bool (by rw [HV.out] <;> first | rfl | simp), b0⟩
            · go_wp2
              go_ret
              exact ⟨ret_bool (by rw [HV.out] <;> first | rfl | simp), b0⟩
      · skip
        by_cases t2 : s.kind = 2
        · have hv := HW.out
          rw [if_neg t1, if_pos t2] at hv
          have HV := Lib.hid hv
          clear hv
          have q2 : (s.kind == 2) = true := by simp [t2]
          have q1 : (s.kind == 1) = false := by simp [t1]
          rcases ci with _ | _
          · go_wp2
            go_ret
            exact ⟨ret_bool (by rw [HV.out] <;> first | rfl | simp), b0⟩
          · rcases cm with _ | _
            · go_wp2
              go_ret
              exact ⟨ret_bool (by rw [HV.out] <;> first | rfl | simp), b0⟩
            · rcases cl with _ | _
              · go_wp2
                go_ret
                exact ⟨ret_bool (by rw [HV.out] <;> first | rfl | simp), b0⟩
              · rcases cc with _ | _
                · go_wp2
                  go_ret
                  exact ⟨ret_bool (by rw [HV.out] <;> first | rfl | simp), b0⟩
                · go_wp2
                  go_ret
                  exact ⟨ret_bool (by rw [HV.out] <;> first | rfl | simp), b0⟩
        · skip
          by_cases t3 : s.kind = 3
          · have hv := HW.out
            rw [if_neg t1, if_neg t2, if_pos t3] at hv
            have HV := Lib.hid hv
            clear hv
            have q3 : (s.kind == 3) = true := by simp [t3]
            have q1 : (s.kind == 1) = false := by simp [t1]
            have q2 : (s.kind == 2) = false := by simp [t2]
            rcases cy with _ | _
            · go_wp2
              go_ret
              exact ⟨ret_bool (by rw [HV.out] <;> first | rfl | simp), b0⟩
            · go_wp2
              go_ret
              exact ⟨ret_bool (by rw [HV.out] <;> first | rfl | simp), b0⟩
          · skip
            by_cases t4 : s.kind = 4
            · have hv := HW.out
              rw [if_neg t1, if_neg t2, if_neg t3, if_pos t4] at hv
              have HV := Lib.hid hv
              clear hv
              have q4 : (s.kind == 4) = true := by simp [t4]
              have q1 : (s.kind == 1) = false := by simp [t1]
              have q2 : (s.kind == 2) = false := by simp [t2]
              have q3 : (s.kind == 3) = false := by simp [t3]
              rcases cm with _ | _
              · go_wp2
                go_ret
                exact ⟨ret_bool (by rw [HV.out] <;> first | rfl | simp), b0⟩
              · rcases cl with _ | _
                · go_wp2
                  go_ret
                  exact ⟨ret_bool (by rw [HV.out] <;> first | rfl | simp), b0⟩
                · rcases cc with _ | _
                  · go_wp2
                    go_ret
                    exact ⟨ret_bool (by rw [HV.out] <;> first | rfl | simp), b0⟩
                  · go_wp2
                    go_ret
                    exact ⟨ret_bool (by rw [HV.out] <;> first | rfl | simp), b0⟩
            · skip
              by_cases t5 : s.kind = 5
              · have hv := HW.out
                rw [if_neg t1, if_neg t2, if_neg t3, if_neg t4, if_pos t5] at hv
                have HV := Lib.hid hv
                clear hv
                have q5 : (s.kind == 5) = true := by simp [t5]
                have q1 : (s.kind == 1) = false := by simp [t1]
                have q2 : (s.kind == 2) = false := by simp [t2]
                have q3 : (s.kind == 3) = false := by simp [t3]
                have q4 : (s.kind == 4) = false := by simp [t4]
                rcases cl with _ | _
                · go_wp2
                  go_ret
                  exact ⟨ret_bool (by rw [HV.out] <;> first | rfl | simp), b0⟩
                · rcases cc with _ | _
                  · go_wp2
                    go_ret
                    exact ⟨ret_bool (by rw [HV.out] <;> first | rfl | simp), b0⟩
                  · rcases cy with _ | _
                    · go_wp2_with fail
                      refine (ltBookOk s.bk _ (HS.out.bk.below b0)).mono ?_
                      rintro r w1 ⟨rfl, b1⟩
                      replace b0 := next b0 b1
                      clear b1
                      rw [HCB.out]
                      go_wp2
                      go_ret
                      exact ⟨ret_bool (by rw [HV.out] <;> first | rfl | simp), b0⟩
                    · go_wp2
                      go_ret
                      exact ⟨ret_bool (by rw [HV.out] <;> first | rfl | simp), b0⟩
              · skip
                have hv := HW.out
                rw [if_neg t1, if_neg t2, if_neg t3, if_neg t4, if_neg t5] at hv
                have HV := Lib.hid hv
                clear hv
                have q1 : (s.kind == 1) = false := by simp [t1]
                have q2 : (s.kind == 2) = false := by simp [t2]
                have q3 : (s.kind == 3) = false := by simp [t3]
                have q4 : (s.kind == 4) = false := by simp [t4]
                have q5 : (s.kind == 5) = false := by simp [t5]
                go_wp2
                go_ret
                exact ⟨ret_bool (by rw [HV.out] <;> first | rfl | simp), b0⟩
    · by_cases t1 : s.kind = 1
      · have hv := HW.out
        rw [if_pos t1] at hv
        have HV := Lib.hid hv
        clear hv
        have q1 : (s.kind == 1) = true := by simp [t1]
        rcases cl with _ | _
        · go_wp2
          go_ret
          exact ⟨ret_bool (by rw [HV.out] <;> first | rfl | simp), b0⟩
        · rcases cc with _ | _
          · go_wp2
            go_ret
            exact ⟨ret_bool (by rw [HV.out] <;> first | rfl | simp), b0⟩
          · rcases cy with _ | _
            · go_wp2
              go_ret
              exact ⟨ret_bool (by rw [HV.out] <;> first | rfl | simp), b0⟩
            · go_wp2
              go_ret
              exact ⟨ret_bool (by rw [HV.out] <;> first | rfl | simp), b0⟩
      · skip
        by_cases t2 : s.kind = 2
        · have hv := HW.out
          rw [if_neg t1, if_pos t2] at hv
          have HV := Lib.hid hv
          clear hv
          have q2 : (s.kind == 2) = true := by simp [t2]
          have q1 : (s.kind == 1) = false := by simp [t1]
          rcases ci with _ | _
          · go_wp2
            go_ret
            exact ⟨ret_bool (by rw [HV.out] <;> first | rfl | simp), b0⟩
          · rcases cm with _ | _
            · go_wp2
              go_ret
              exact ⟨ret_bool (by rw [HV.out] <;> first | rfl | simp), b0⟩
            · rcases cl with _ | _
              · go_wp2
                go_ret
                exact ⟨ret_bool (by rw [HV.out] <;> first | rfl | simp), b0⟩
              · rcases cc with _ | _
                · go_wp2
                  go_ret
                  exact ⟨ret_bool (by rw [HV.out] <;> first | rfl | simp), b0⟩
                · go_wp2
                  go_ret
                  exact ⟨ret_bool (by rw [HV.out] <;> first | rfl | simp), b0⟩
        · skip
          by_cases t3 : s.kind = 3
          · have hv := HW.out
            rw [if_neg t1, if_neg t2, if_pos t3] at hv
            have HV := Lib.hid hv
            clear hv
            have q3 : (s.kind == 3) = true := by simp [t3]
            have q1 : (s.kind == 1) = false := by simp [t1]
            have q2 : (s.kind == 2) = false := by simp [t2]
            rcases cy with _ | _
            · rcases c5 with _ | _
              · go_wp2
                go_ret
                exact ⟨ret_bool (by rw [HV.out] <;> first | rfl | simp), b0⟩
              · go_wp2_with fail
                refine (ltList s.en s.mark _ (HS.out.en.below b0)).mono ?_
                rintro r w1 ⟨rfl, b1⟩
                replace b0 := next b0 b1
                clear b1
                rw [HCK.out]
                go_wp2
                go_ret
                exact ⟨ret_bool (by rw [HV.out] <;> first | rfl | simp), b0⟩
            · go_wp2
              go_ret
              exact ⟨ret_bool (by rw [HV.out] <;> first | rfl | simp), b0⟩
          · skip
            by_cases t4 : s.kind = 4
            · have hv := HW.out
              rw [if_neg t1, if_neg t2, if_neg t3, if_pos t4] at hv
              have HV := Lib.hid hv
              clear hv
              have q4 : (s.kind == 4) = true := by simp [t4]
              have q1 : (s.kind == 1) = false := by simp [t1]
              have q2 : (s.kind == 2) = false := by simp [t2]
              have q3 : (s.kind == 3) = false := by simp [t3]
              rcases cm with _ | _
              · go_wp2
                go_ret
                exact ⟨ret_bool (by rw [HV.out] <;> first | rfl | simp), b0⟩
              · rcases cl with _ | _
                · go_wp2
                  go_ret
                  exact ⟨ret_bool (by rw [HV.out] <;> first | rfl | simp), b0⟩
                · rcases cc with _ | _
                  · go_wp2
                    go_ret
                    exact ⟨ret_bool (by rw [HV.out] <;> first | rfl | simp), b0⟩
                  · go_wp2
                    go_ret
                    exact ⟨ret_bool (by rw [HV.out] <;> first | rfl | simp), b0⟩
            · skip
              by_cases t5 : s.kind = 5
              · have hv := HW.out
                rw [if_neg t1, if_neg t2, if_neg t3, if_neg t4, if_pos t5] at hv
                have HV := Lib.hid hv
                clear hv
                have q5 : (s.kind == 5) = true := by simp [t5]
                have q1 : (s.kind == 1) = false := by simp [t1]
                have q2 : (s.kind == 2) = false := by simp [t2]
                have q3 : (s.kind == 3) = false := by simp [t3]
                have q4 : (s.kind == 4) = false := by simp [t4]
                rcases cl with _ | _
                · go_wp2
                  go_ret
                  exact ⟨ret_bool (by rw [HV.out] <;> first | rfl | simp), b0⟩
                · rcases cc with _ | _
                  · go_wp2
                    go_ret
                    exact ⟨ret_bool (by rw [HV.out] <;> first | rfl | simp), b0⟩
                  · rcases cy with _ | _
                    · go_wp2_with fail
                      refine (ltBookOk s.bk _ (HS.out.bk.below b0)).mono ?_
                      rintro r w1 ⟨rfl, b1⟩
                      replace b0 := next b0 b1
                      clear b1
                      rw [HCB.out]
                      go_wp2
                      go_ret
                      exact ⟨ret_bool (by rw [HV.out] <;> first | rfl | simp), b0⟩
                    · go_wp2
                      go_ret
                      exact ⟨ret_bool (by rw [HV.out] <;> first | rfl | simp), b0⟩
              · skip
                have hv := HW.out
                rw [if_neg t1, if_neg t2, if_neg t3, if_neg t4, if_neg t5] at hv
                have HV := Lib.hid hv
                clear hv
                have q1 : (s.kind == 1) = false := by simp [t1]
                have q2 : (s.kind == 2) = false := by simp [t2]
                have q3 : (s.kind == 3) = false := by simp [t3]
                have q4 : (s.kind == 4) = false := by simp [t4]
                have q5 : (s.kind == 5) = false := by simp [t5]
                go_wp2
                go_ret
                exact ⟨ret_bool (by rw [HV.out] <;> first | rfl | simp), b0⟩
end Go.Proofs.YtdoeiphnalbinaaGreat
