/- Proved, in parts: Proved: the model's test whether two letters are the same in all answers whether they are, as plain data; nothing that was there is written. Condition: texts and lists of at most a million. -/
import Derived.Test.YtdoeiphnalbinaaPart12
import Derived.Test.YtdoeiphnalbinaaPart14
import Derived.Test.YtdoeiphnalbinaaPart02
namespace Go.Proofs.Ytdoeiphnalbinaa
open Go.RowKit
set_option maxRecDepth 20000
set_option maxHeartbeats 16000000 in
theorem specSameLetter (a b : LLt) (w : World) (ha : LtIn 1048576 w a) (hb : LtIn 1048576 w b) :
    Calls Try.prog 10 #[ltV a, ltV b] w fun e w' => e = .returned (.bool (decide (a.d = b.d))) ∧ Below w.heap.size w w' := by
  have h0 := (holds_new w (ltA a) 37).alloc (.cells (ltA b) 37)
  have h1 := holds_new (w.alloc (.cells (ltA a) 37)) (ltA b) 37
  have b0 := ((Below.refl w.heap.size w).alloc (Nat.le_refl _) (.cells (ltA a) 37)).alloc (by simp) (.cells (ltA b) 37)
  rw [World.size_alloc] at h1
  obtain ⟨k0, k1, k2, k3, k4, k5, k6, k7, k8, k9, k10⟩ := h0.at11
  obtain ⟨m0, m1, m2, m3, m4, m5, m6, m7, m8, m9, m10⟩ := h1.at11
  have HA := Lib.hid ha
  have HB := Lib.hid hb
  have hal := ha.en.len
  have hbl0 := hb.en.len
  clear ha hb
  obtain ⟨c0, hc0⟩ : ∃ c, (a.kind != b.kind) = c := ⟨_, rfl⟩
  obtain ⟨c1, hc1⟩ : ∃ c, (a.frm != b.frm) = c := ⟨_, rfl⟩
  obtain ⟨c2, hc2⟩ : ∃ c, (a.dst != b.dst) = c := ⟨_, rfl⟩
  obtain ⟨c3, hc3⟩ : ∃ c, (a.reign != b.reign) = c := ⟨_, rfl⟩
  obtain ⟨c4, hc4⟩ : ∃ c, (a.index != b.index) = c := ⟨_, rfl⟩
  obtain ⟨c5, hc5⟩ : ∃ c, (a.mark != b.mark) = c := ⟨_, rfl⟩
  obtain ⟨c6, hc6⟩ : ∃ c, decide (a.en.l = b.en.l) = c := ⟨_, rfl⟩
  obtain ⟨c7, hc7⟩ : ∃ c, (a.commit != b.commit) = c := ⟨_, rfl⟩
  obtain ⟨c8, hc8⟩ : ∃ c, (a.yes == b.yes) = c := ⟨_, rfl⟩
  obtain ⟨c9, hc9⟩ : ∃ c, M.bkSame a.bk.d b.bk.d = c := ⟨_, rfl⟩
  obtain ⟨cl, hcl⟩ : ∃ c, ((a.en.l.length : Int) != (b.en.l.length : Int)) = c := ⟨_, rfl⟩
  have hx : decide (a.d = b.d) = (!c0 && (!c1 && (!c2 && (!c3 && (!c4 && (!c5 && (!c7 && (c8 && (!cl && (c9 && c6)))))))))) := by
    have t6 : c6 = (!cl && c6) := by
      rcases hv : c6 with _ | _
      · simp
      · rw [hv] at hc6
        have h := of_decide_eq_true hc6
        rw [← hcl, h]; simp
    rw [M.lt_same]
    show ((a.kind == b.kind) && ((a.frm == b.frm) && ((a.dst == b.dst) && ((a.reign == b.reign) && ((a.index == b.index) && ((a.mark == b.mark) && (decide (a.en.l = b.en.l) && ((a.commit == b.commit) && ((a.yes == b.yes) && M.bkSame a.bk.d b.bk.d))))))))) = _
    rw [hc6, t6, hc8, hc9, ← hc0, ← hc1, ← hc2, ← hc3, ← hc4, ← hc5, ← hc7]
    simp only [bne, Bool.not_not]
    cases (a.kind == b.kind) <;> cases (a.frm == b.frm) <;> cases (a.dst == b.dst) <;> cases (a.reign == b.reign) <;> cases (a.index == b.index) <;> cases (a.mark == b.mark) <;> cases (a.commit == b.commit) <;> cases c8 <;> cases c9 <;> cases cl <;> cases c6 <;> rfl
  have HW := Lib.hid hx
  have HC6 := Lib.hid hc6
  have HC9 := Lib.hid hc9
  have HCL := Lib.hid hcl
  clear hx hc6 hc9
  go_enter Try.func10, Try.ntmps10
  rcases c0 with _ | _
  · rcases c1 with _ | _
    · rcases c2 with _ | _
      · rcases c3 with _ | _
        · rcases c4 with _ | _
          · rcases c5 with _ | _
            · rcases c7 with _ | _
              · obtain ⟨ya, hya⟩ : ∃ y, a.yes = y := ⟨_, rfl⟩
                obtain ⟨yb, hyb⟩ : ∃ y, b.yes = y := ⟨_, rfl⟩
                rw [hya, hyb] at hc8
                simp only [hya] at k8
                simp only [hyb] at m8
                rcases ya with _ | _ <;> rcases yb with _ | _
                · obtain rfl : c8 = true := hc8.symm
                  rcases cl with _ | _
                  · go_wp2_with fail
                    refine (l10Same_any a.bk b.bk _ (HA.out.bk.below b0) (HB.out.bk.below b0)).mono ?_
                    rintro r w1 ⟨rfl, b1⟩
                    replace h0 := h0.below b1
                    replace h1 := h1.below b1
                    replace b0 := next b0 b1
                    clear k0 k1 k2 k3 k4 k5 k6 k7 k8 k9 k10 m0 m1 m2 m3 m4 m5 m6 m7 m8 m9 m10 b1
                    obtain ⟨k0, k1, k2, k3, k4, k5, k6, k7, k8, k9, k10⟩ := h0.at11
                    obtain ⟨m0, m1, m2, m3, m4, m5, m6, m7, m8, m9, m10⟩ := h1.at11
                    rw [HC9.out]
                    rcases c9 with _ | _
                    · go_wp2
                      go_ret
                      exact ⟨ret_bool (by rw [HW.out] <;> first | rfl | simp), b0⟩
                    · have hll : a.en.l.length = b.en.l.length := by have hq := HCL.out; simp at hq; omega
                      have HLL := Lib.hid hll
                      have HX : Hid (decide (a.d = b.d) = decide (a.en.l = b.en.l)) := Lib.hid (by rw [HW.out, HC6.out]; simp)
                      clear hll
                      go_upto_region 4 with (fail)
                      clear k0 k1 k2 k3 k4 k5 k6 k7 k8 k9 k10 m0 m1 m2 m3 m4 m5 m6 m7 m8 m9 m10
                      have H0 := Lib.hid h0
                      have H1 := Lib.hid h1
                      have B0 := Lib.hid b0
                      clear h0 h1 b0
                      go_wp2_with fail
                      go_loopw [5] (fun i wr => ∃ j : Nat, i = .int .i64 j ∧ j ≤ a.en.l.length ∧ a.en.l.take j = b.en.l.take j ∧ Below w1.heap.size w1 wr) (fun i _ => a.en.l.length - (intOf i).toNat)
                      case atStart => exact ⟨0, rfl, Nat.zero_le _, by simp, Below.refl _ _⟩
                      case round =>
                        obtain ⟨j, rfl, hj, hup, hbl⟩ := hrel
                        have HU := Lib.hid hup
                        have H0r := Lib.hid (H0.out.below hbl)
                        have H1r := Lib.hid (H1.out.below hbl)
                        obtain ⟨k0, k1, k2, k3, k4, k5, k6, k7, k8, k9, k10⟩ := H0r.out.at11
                        obtain ⟨m0, m1, m2, m3, m4, m5, m6, m7, m8, m9, m10⟩ := H1r.out.at11
                        have z0 := H0r.out.1
                        have z1 := H1r.out.1
                        clear hup
                        by_cases hlt : j < a.en.l.length
                        · have hlt2 : j < b.en.l.length := by have := HLL.out; omega
                          obtain ⟨g, o, ea, zb, e0, e1, e2, e3, e4, e5, e6, e7, e8, e9⟩ := Ens_at (HA.out.en.en.below (next B0.out hbl)) hlt
                          obtain ⟨g', o', eb, zb', d0, d1, d2, d3, d4, d5, d6, d7, d8, d9⟩ := Ens_at (HB.out.en.en.below (next B0.out hbl)) hlt2
                          have w2 : IntKind.i64.wrap (j : Int) = j := by simp [IntKind.wrap, IntKind.bits, IntKind.signed]; omega
                          simp only [Sl.v] at k6 m6
                          rw [ea] at k6
                          rw [eb] at m6
                          clear k0 k1 k2 k3 k4 k5 k7 k8 k9 k10 m0 m1 m2 m3 m4 m5 m7 m8 m9 m10
                          go_wp2_with fail
                          refine wp_region_seq (fun w' => Below wr.heap.size wr w') [(0, true), (1, true), (2, true), (3, true), (4, true), (5, true), (6, true), (7, true), (8, true), (9, true), (10, true)] (by kernel_rfl) (by kernel_rfl) (fun _ _ _ _ _ h => h) (by kernel_rfl) (by decide) (Below.refl _ _).drew ?_
                          intro hHeld
                          repeat (first
                            | (refine seq_read (by simp only [List.getElem?_toArray, List.getElem?_cons_succ, List.getElem?_cons_zero]; first | done | rfl) (by rfl) (fun w _ => enxneq_read rfl rfl rfl w) ?_; (try simp only [Act.put, List.setIfInBounds_toArray, List.set_cons_zero, List.set_cons_succ]))
                            | (refine seq_skip (by simp only [List.getElem?_toArray, List.getElem?_cons_succ, List.getElem?_cons_zero]; first | done | rfl) (by rfl) ?_; (try simp only [Act.put, List.setIfInBounds_toArray, List.set_cons_zero, List.set_cons_succ]))
                            | (refine seq_reads (by simp only [List.getElem?_toArray, List.getElem?_cons_succ, List.getElem?_cons_zero]; first | done | rfl) (by rfl) ?_; apply Exists.intro; apply And.intro; (focus (intro w hSw; obtain ⟨hcS, -⟩ := bcell hSw; go_simp; (try with_reducible rfl); done)); (try simp only [Act.put, List.setIfInBounds_toArray, List.set_cons_zero, List.set_cons_succ]))
                            | (refine seq_pass (by simp only [List.getElem?_toArray, List.getElem?_cons_succ, List.getElem?_cons_zero]; first | done | rfl) (by rfl) hHeld ?_; clear hHeld; intro hHeld; (try simp only [Act.put, List.setIfInBounds_toArray, List.set_cons_zero, List.set_cons_succ])))
                          refine seq_end ?_
                          rcases hq : M.enxEq a.en.l[j] b.en.l[j] with _ | _
                          · have HE : Hid (decide (a.d = b.d) = false) := Lib.hid (by
                              rw [HX.out]
                              refine decide_eq_false (fun e => ?_)
                              have e3 : a.en.l[j] = b.en.l[j] := by simp [e]
                              rw [(M.enxEq_iff _ _).2 e3] at hq; cases hq)
                            go_wp2
                            go_ret
                            exact ⟨ret_bool HE.out.symm, next (next B0.out hbl) hHeld⟩
                          · have HN := Lib.hid (show a.en.l.take (j + 1) = b.en.l.take (j + 1) by
                              rw [List.take_succ_eq_append_getElem hlt, List.take_succ_eq_append_getElem hlt2, HU.out, (M.enxEq_iff _ _).1 hq])
                            go_wp2
                            go_roundw
                            case rel => exact ⟨j + 1, by go_num, by omega, HN.out, next hbl hHeld⟩
                            case measure => simp [intOf]; omega
                        · have HE : Hid (decide (a.d = b.d) = true) := Lib.hid (by
                            rw [HX.out]
                            refine decide_eq_true ?_
                            have h1 := HU.out
                            have h2 := HLL.out
                            rwa [List.take_of_length_le (by omega), List.take_of_length_le (by omega)] at h1)
                          simp only [Sl.v] at k6
                          go_wp2
                          go_ret
                          exact ⟨ret_bool HE.out.symm, next B0.out hbl⟩
                  · go_wp2
                    go_ret
                    exact ⟨ret_bool (by rw [HW.out] <;> first | rfl | simp), b0⟩
                · obtain rfl : c8 = false := hc8.symm
                  go_wp2
                  go_ret
                  exact ⟨ret_bool (by rw [HW.out] <;> first | rfl | simp), b0⟩
                · obtain rfl : c8 = false := hc8.symm
                  go_wp2
                  go_ret
                  exact ⟨ret_bool (by rw [HW.out] <;> first | rfl | simp), b0⟩
                · obtain rfl : c8 = true := hc8.symm
                  rcases cl with _ | _
                  · go_wp2_with fail
                    refine (l10Same_any a.bk b.bk _ (HA.out.bk.below b0) (HB.out.bk.below b0)).mono ?_
                    rintro r w1 ⟨rfl, b1⟩
                    replace h0 := h0.below b1
                    replace h1 := h1.below b1
                    replace b0 := next b0 b1
                    clear k0 k1 k2 k3 k4 k5 k6 k7 k8 k9 k10 m0 m1 m2 m3 m4 m5 m6 m7 m8 m9 m10 b1
                    obtain ⟨k0, k1, k2, k3, k4, k5, k6, k7, k8, k9, k10⟩ := h0.at11
                    obtain ⟨m0, m1, m2, m3, m4, m5, m6, m7, m8, m9, m10⟩ := h1.at11
                    rw [HC9.out]
                    rcases c9 with _ | _
                    · go_wp2
                      go_ret
                      exact ⟨ret_bool (by rw [HW.out] <;> first | rfl | simp), b0⟩
                    · have hll : a.en.l.length = b.en.l.length := by have hq := HCL.out; simp at hq; omega
                      have HLL := Lib.hid hll
                      have HX : Hid (decide (a.d = b.d) = decide (a.en.l = b.en.l)) := Lib.hid (by rw [HW.out, HC6.out]; simp)
                      clear hll
                      go_upto_region 4 with (fail)
                      clear k0 k1 k2 k3 k4 k5 k6 k7 k8 k9 k10 m0 m1 m2 m3 m4 m5 m6 m7 m8 m9 m10
                      have H0 := Lib.hid h0
                      have H1 := Lib.hid h1
                      have B0 := Lib.hid b0
                      clear h0 h1 b0
                      go_wp2_with fail
                      go_loopw [5] (fun i wr => ∃ j : Nat, i = .int .i64 j ∧ j ≤ a.en.l.length ∧ a.en.l.take j = b.en.l.take j ∧ Below w1.heap.size w1 wr) (fun i _ => a.en.l.length - (intOf i).toNat)
                      case atStart => exact ⟨0, rfl, Nat.zero_le _, by simp, Below.refl _ _⟩
                      case round =>
                        obtain ⟨j, rfl, hj, hup, hbl⟩ := hrel
                        have HU := Lib.hid hup
                        have H0r := Lib.hid (H0.out.below hbl)
                        have H1r := Lib.hid (H1.out.below hbl)
                        obtain ⟨k0, k1, k2, k3, k4, k5, k6, k7, k8, k9, k10⟩ := H0r.out.at11
                        obtain ⟨m0, m1, m2, m3, m4, m5, m6, m7, m8, m9, m10⟩ := H1r.out.at11
                        have z0 := H0r.out.1
                        have z1 := H1r.out.1
                        clear hup
                        by_cases hlt : j < a.en.l.length
                        · have hlt2 : j < b.en.l.length := by have := HLL.out; omega
                          obtain ⟨g, o, ea, zb, e0, e1, e2, e3, e4, e5, e6, e7, e8, e9⟩ := Ens_at (HA.out.en.en.below (next B0.out hbl)) hlt
                          obtain ⟨g', o', eb, zb', d0, d1, d2, d3, d4, d5, d6, d7, d8, d9⟩ := Ens_at (HB.out.en.en.below (next B0.out hbl)) hlt2
                          have w2 : IntKind.i64.wrap (j : Int) = j := by simp [IntKind.wrap, IntKind.bits, IntKind.signed]; omega
                          simp only [Sl.v] at k6 m6
                          rw [ea] at k6
                          rw [eb] at m6
                          clear k0 k1 k2 k3 k4 k5 k7 k8 k9 k10 m0 m1 m2 m3 m4 m5 m7 m8 m9 m10
                          go_wp2_with fail
                          refine wp_region_seq (fun w' => Below wr.heap.size wr w') [(0, true), (1, true), (2, true), (3, true), (4, true), (5, true), (6, true), (7, true), (8, true), (9, true), (10, true)] (by kernel_rfl) (by kernel_rfl) (fun _ _ _ _ _ h => h) (by kernel_rfl) (by decide) (Below.refl _ _).drew ?_
                          intro hHeld
                          repeat (first
                            | (refine seq_read (by simp only [List.getElem?_toArray, List.getElem?_cons_succ, List.getElem?_cons_zero]; first | done | rfl) (by rfl) (fun w _ => enxneq_read rfl rfl rfl w) ?_; (try simp only [Act.put, List.setIfInBounds_toArray, List.set_cons_zero, List.set_cons_succ]))
                            | (refine seq_skip (by simp only [List.getElem?_toArray, List.getElem?_cons_succ, List.getElem?_cons_zero]; first | done | rfl) (by rfl) ?_; (try simp only [Act.put, List.setIfInBounds_toArray, List.set_cons_zero, List.set_cons_succ]))
                            | (refine seq_reads (by simp only [List.getElem?_toArray, List.getElem?_cons_succ, List.getElem?_cons_zero]; first | done | rfl) (by rfl) ?_; apply Exists.intro; apply And.intro; (focus (intro w hSw; obtain ⟨hcS, -⟩ := bcell hSw; go_simp; (try with_reducible rfl); done)); (try simp only [Act.put, List.setIfInBounds_toArray, List.set_cons_zero, List.set_cons_succ]))
                            | (refine seq_pass (by simp only [List.getElem?_toArray, List.getElem?_cons_succ, List.getElem?_cons_zero]; first | done | rfl) (by rfl) hHeld ?_; clear hHeld; intro hHeld; (try simp only [Act.put, List.setIfInBounds_toArray, List.set_cons_zero, List.set_cons_succ])))
                          refine seq_end ?_
                          rcases hq : M.enxEq a.en.l[j] b.en.l[j] with _ | _
                          · have HE : Hid (decide (a.d = b.d) = false) := Lib.hid (by
                              rw [HX.out]
                              refine decide_eq_false (fun e => ?_)
                              have e3 : a.en.l[j] = b.en.l[j] := by simp [e]
                              rw [(M.enxEq_iff _ _).2 e3] at hq; cases hq)
                            go_wp2
                            go_ret
                            exact ⟨ret_bool HE.out.symm, next (next B0.out hbl) hHeld⟩
                          · have HN := Lib.hid (show a.en.l.take (j + 1) = b.en.l.take (j + 1) by
                              rw [List.take_succ_eq_append_getElem hlt, List.take_succ_eq_append_getElem hlt2, HU.out, (M.enxEq_iff _ _).1 hq])
                            go_wp2
                            go_roundw
                            case rel => exact ⟨j + 1, by go_num, by omega, HN.out, next hbl hHeld⟩
                            case measure => simp [intOf]; omega
                        · have HE : Hid (decide (a.d = b.d) = true) := Lib.hid (by
                            rw [HX.out]
                            refine decide_eq_true ?_
                            have h1 := HU.out
                            have h2 := HLL.out
                            rwa [List.take_of_length_le (by omega), List.take_of_length_le (by omega)] at h1)
                          simp only [Sl.v] at k6
                          go_wp2
                          go_ret
                          exact ⟨ret_bool HE.out.symm, next B0.out hbl⟩
                  · go_wp2
                    go_ret
                    exact ⟨ret_bool (by rw [HW.out] <;> first | rfl | simp), b0⟩
              · go_wp2
                go_ret
                exact ⟨ret_bool (by rw [HW.out] <;> first | rfl | simp), b0⟩
            · go_wp2
              go_ret
              exact ⟨ret_bool (by rw [HW.out] <;> first | rfl | simp), b0⟩
          · go_wp2
            go_ret
            exact ⟨ret_bool (by rw [HW.out] <;> first | rfl | simp), b0⟩
        · go_wp2
          go_ret
          exact ⟨ret_bool (by rw [HW.out] <;> first | rfl | simp), b0⟩
      · go_wp2
        go_ret
        exact ⟨ret_bool (by rw [HW.out] <;> first | rfl | simp), b0⟩
    · go_wp2
      go_ret
      exact ⟨ret_bool (by rw [HW.out] <;> first | rfl | simp), b0⟩
  · go_wp2
    go_ret
    exact ⟨ret_bool (by rw [HW.out] <;> first | rfl | simp), b0⟩
end Go.Proofs.Ytdoeiphnalbinaa
