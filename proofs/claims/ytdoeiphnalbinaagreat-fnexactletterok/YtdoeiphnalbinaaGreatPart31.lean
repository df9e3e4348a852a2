/- Proved, in parts: Proved: the model's test whether a letter is right answers a plain Lean function; nothing that was there is written. Condition: texts and lists of at most a million. -/
import Derived.Test.YtdoeiphnalbinaaGreatPart30
import Derived.Test.YtdoeiphnalbinaaGreatPart14
namespace Go.Proofs.YtdoeiphnalbinaaGreat
open Go.RowKit
set_option maxRecDepth 20000
set_option maxHeartbeats 16000000 in
theorem specLetterOk (s : LLt) (n : Int) (w : World) (hs : LtIn 1048576 w s) :
    Calls Tryz.prog 5 #[ltV s, .int .i64 n] w fun e w' => e = .returned (.bool (M.ltOk s.d n)) ∧ Below w.heap.size w w' := by
  have b0 := (Below.refl w.heap.size w).alloc (Nat.le_refl _) (.cells (ltA s) 37)
  have h0 := holds_new w (ltA s) 37
  have HS := Lib.hid hs
  have hlen : s.en.l.length ≤ 1048576 := hs.en.len
  clear hs
  obtain ⟨x0, hx0⟩ : ∃ b, M.inI s.frm 0 (n - 1) = b := ⟨_, rfl⟩
  obtain ⟨x1, hx1⟩ : ∃ b, M.inI s.dst 0 (n - 1) = b := ⟨_, rfl⟩
  obtain ⟨x2, hx2⟩ : ∃ b, (s.frm == s.dst) = b := ⟨_, rfl⟩
  obtain ⟨x3, hx3⟩ : ∃ b, M.inI s.reign 1 1000 = b := ⟨_, rfl⟩
  obtain ⟨x4, hx4⟩ : ∃ b, s.d.bare = b := ⟨_, rfl⟩
  obtain ⟨y0, hy0⟩ : ∃ b, M.inI s.index 0 400 = b := ⟨_, rfl⟩
  obtain ⟨y1, hy1⟩ : ∃ b, M.inI s.commit 0 400 = b := ⟨_, rfl⟩
  obtain ⟨y2, hy2⟩ : ∃ b, M.inI s.mark 0 s.reign = b := ⟨_, rfl⟩
  obtain ⟨y3, hy3⟩ : ∃ b, decide (s.d.top ≤ s.reign) = b := ⟨_, rfl⟩
  have hw : M.ltOk s.d n = (M.cok n && (x0 && (x1 && (!x2 && (x3 && (x4 && (y0 && (y1 && (y2 && y3))))))))) := by
    have hne : decide (s.d.frm ≠ s.d.dst) = !x2 := by
      rw [← hx2]; show decide (s.frm ≠ s.dst) = !(s.frm == s.dst)
      rw [Bool.eq_iff_iff]; simp
    unfold M.ltOk
    rw [hne, ← hx0, ← hx1, ← hx3, ← hx4, ← hy0, ← hy1, ← hy2, ← hy3]
    rfl
  have HW := Lib.hid hw
  have HX0 := Lib.hid hx0
  have HX1 := Lib.hid hx1
  have HX3 := Lib.hid hx3
  have HX4 := Lib.hid hx4
  have HY0 := Lib.hid hy0
  have HY1 := Lib.hid hy1
  have HY2 := Lib.hid hy2
  have HY3 := Lib.hid hy3
  clear hw hx0 hx1 hx3 hx4 hy0 hy1 hy2 hy3
  rcases hc : M.cok n with _ | _
  · rw [hc] at HW
    have HC := Lib.hid hc
    clear hc
    go_enter Tryz.func5, Tryz.ntmps5
    obtain ⟨k0, k1, k2, k3, k4, k5, k6, k7, k8, k9, k10⟩ := h0.at11
    go_wp2_with fail
    refine (specCountOk _ _).mono ?_
    rintro r w1 ⟨rfl, rfl⟩
    rw [HC.out]
    go_wp2
    go_ret
    exact ⟨ret_bool (by rw [HW.out] <;> first | rfl | simp), b0⟩
  · rw [hc] at HW
    have HC := Lib.hid hc
    have hn : n = 3 ∨ n = 5 := by simpa [M.cok] using hc
    have hn1 : IntKind.i64.wrap (n - 1) = n - 1 := by rcases hn with rfl | rfl <;> rfl
    clear hc hn
    go_enter Tryz.func5, Tryz.ntmps5
    obtain ⟨k0, k1, k2, k3, k4, k5, k6, k7, k8, k9, k10⟩ := h0.at11
    go_wp2_with fail
    refine (specCountOk _ _).mono ?_
    rintro r w1 ⟨rfl, rfl⟩
    rw [HC.out]
    go_wp2_with fail
    refine (in_i _ _ _ _).mono ?_
    rintro r w1 ⟨rfl, rfl⟩
    rw [HX0.out]
    rcases x0 with _ | _
    · go_wp2
      go_ret
      exact ⟨ret_bool (by rw [HW.out] <;> first | rfl | simp), b0⟩
    · go_wp2_with fail
      refine (in_i _ _ _ _).mono ?_
      rintro r w1 ⟨rfl, rfl⟩
      rw [HX1.out]
      rcases x1 with _ | _
      · go_wp2
        go_ret
        exact ⟨ret_bool (by rw [HW.out] <;> first | rfl | simp), b0⟩
      · rcases x2 with _ | _
        · go_wp2_with fail
          refine (l7Reign_any _ _).mono ?_
          rintro r w1 ⟨rfl, rfl⟩
          rw [HX3.out]
          rcases x3 with _ | _
          · go_wp2
            go_ret
            exact ⟨ret_bool (by rw [HW.out] <;> first | rfl | simp), b0⟩
          · go_wp2_with fail
            refine (l11Bare_any s _ (HS.out.below b0)).mono ?_
            rintro r w1 ⟨rfl, b1⟩
            replace h0 := h0.below b1
            replace b0 := next b0 b1
            clear k0 k1 k2 k3 k4 k5 k6 k7 k8 k9 k10 b1
            obtain ⟨k0, k1, k2, k3, k4, k5, k6, k7, k8, k9, k10⟩ := h0.at11
            have zz := h0.1
            rw [HX4.out]
            rcases x4 with _ | _
            · go_wp2
              go_ret
              exact ⟨ret_bool (by rw [HW.out] <;> first | rfl | simp), b0⟩
            · by_cases hl : 0 < s.en.l.length
              · obtain ⟨top, htop⟩ : ∃ x, x = (s.en.l[s.en.l.length - 1]'(by omega)).reign := ⟨_, rfl⟩
                have ht : s.d.top = top := by
                  rw [htop]; show M.Lt.top _ = _
                  unfold M.Lt.top
                  exact dif_pos hl
                obtain ⟨g, o, ea, zb, e0, e1, e2, e3, e4, e5, e6, e7, e8, e9⟩ := Ens_at (HS.out.en.en.below b0) (i := s.en.l.length - 1) (by omega)
                rw [← htop] at e0
                have hw : IntKind.i64.wrap ((s.en.l.length : Int) - 1) = ((s.en.l.length - 1 : Nat) : Int) := by
                  simp [IntKind.wrap, IntKind.bits, IntKind.signed]; omega
                have hlt : s.en.l.length - 1 < s.en.l.length := by omega
                simp only [Sl.v] at k6
                rw [ea] at k6
                rw [ht] at HY3
                clear e1 e2 e3 e4 e5 e6 e7 e8 e9 htop ht
                have hy3 := HY3.out
                go_wp2_with fail
                refine (in_i _ _ _ _).mono ?_
                rintro r w1 ⟨rfl, rfl⟩
                rw [HY0.out]
                rcases y0 with _ | _
                · go_wp2
                  go_ret
                  exact ⟨ret_bool (by rw [HW.out] <;> first | rfl | simp), b0⟩
                · go_wp2_with fail
                  refine (in_i _ _ _ _).mono ?_
                  rintro r w1 ⟨rfl, rfl⟩
                  rw [HY1.out]
                  rcases y1 with _ | _
                  · go_wp2
                    go_ret
                    exact ⟨ret_bool (by rw [HW.out] <;> first | rfl | simp), b0⟩
                  · go_wp2_with fail
                    refine (in_i _ _ _ _).mono ?_
                    rintro r w1 ⟨rfl, rfl⟩
                    rw [HY2.out]
                    rcases y2 with _ | _
                    · go_wp2
                      go_ret
                      exact ⟨ret_bool (by rw [HW.out] <;> first | rfl | simp), b0⟩
                    · rcases y3 with _ | _
                      · go_wp2
                        go_ret
                        exact ⟨ret_bool (by rw [HW.out] <;> first | rfl | simp), b0⟩
                      · go_wp2
                        go_ret
                        exact ⟨ret_bool (by rw [HW.out] <;> first | rfl | simp), b0⟩
              · have ht : s.d.top = s.mark := by
                  show M.Lt.top _ = _
                  unfold M.Lt.top
                  exact dif_neg hl
                simp only [Sl.v] at k6
                rw [ht] at HY3
                clear ht
                have hy3 := HY3.out
                go_wp2_with fail
                refine (in_i _ _ _ _).mono ?_
                rintro r w1 ⟨rfl, rfl⟩
                rw [HY0.out]
                rcases y0 with _ | _
                · go_wp2
                  go_ret
                  exact ⟨ret_bool (by rw [HW.out] <;> first | rfl | simp), b0⟩
                · go_wp2_with fail
                  refine (in_i _ _ _ _).mono ?_
                  rintro r w1 ⟨rfl, rfl⟩
                  rw [HY1.out]
                  rcases y1 with _ | _
                  · go_wp2
                    go_ret
                    exact ⟨ret_bool (by rw [HW.out] <;> first | rfl | simp), b0⟩
                  · go_wp2_with fail
                    refine (in_i _ _ _ _).mono ?_
                    rintro r w1 ⟨rfl, rfl⟩
                    rw [HY2.out]
                    rcases y2 with _ | _
                    · go_wp2
                      go_ret
                      exact ⟨ret_bool (by rw [HW.out] <;> first | rfl | simp), b0⟩
                    · rcases y3 with _ | _
                      · go_wp2
                        go_ret
                        exact ⟨ret_bool (by rw [HW.out] <;> first | rfl | simp), b0⟩
                      · go_wp2
                        go_ret
                        exact ⟨ret_bool (by rw [HW.out] <;> first | rfl | simp), b0⟩
        · go_wp2
          go_ret
          exact ⟨ret_bool (by rw [HW.out] <;> first | rfl | simp), b0⟩
end Go.Proofs.YtdoeiphnalbinaaGreat
