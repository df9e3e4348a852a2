/- Proved, in parts: Proved: NameOk and PageOk, of the program and of its model, answer one and the same Lean function at every text of at most maxLen bytes, and leave the world as it is. -/
import Derived.Test.YtdoeiphnalbinaaGreatPart01
import Derived.Scope
import Derived.Lib.Hide
import Derived.WalkMore
import Derived.ScopeJumps
import Derived.Test.YtdoeiphnalbinaaGreatPart05
namespace Go.Proofs.YtdoeiphnalbinaaGreat
open Go.RowKit

theorem isSmall_any (n : Int) (w : World) : Calls Tryz.prog 110 #[.int .u8 n] w fun e w' => e = .returned (.bool (M.smallI n)) ∧ w = w' := by
  by_cases h1 : 97 ≤ n
  · by_cases h2 : n ≤ 122
    · go_enter Tryz.func110, Tryz.ntmps110
      go_wp2
      go_ret
      exact ⟨by simp [M.smallI, h1, h2], rfl⟩
    · go_enter Tryz.func110, Tryz.ntmps110
      go_wp2
      go_ret
      exact ⟨by simp [M.smallI, h1, h2], rfl⟩
  · go_enter Tryz.func110, Tryz.ntmps110
    go_wp2
    go_ret
    exact ⟨by simp [M.smallI]; omega, rfl⟩

theorem isDigit_any (n : Int) (w : World) : Calls Tryz.prog 129 #[.int .u8 n] w fun e w' => e = .returned (.bool (M.digitI n)) ∧ w = w' := by
  by_cases h1 : 48 ≤ n
  · by_cases h2 : n ≤ 57
    · go_enter Tryz.func129, Tryz.ntmps129
      go_wp2
      go_ret
      exact ⟨by simp [M.digitI, h1, h2], rfl⟩
    · go_enter Tryz.func129, Tryz.ntmps129
      go_wp2
      go_ret
      exact ⟨by simp [M.digitI, h1, h2], rfl⟩
  · go_enter Tryz.func129, Tryz.ntmps129
    go_wp2
    go_ret
    exact ⟨by simp [M.digitI]; omega, rfl⟩

set_option maxHeartbeats 400000 in
theorem specPageOk (s : ByteArray) (w : World) (hs : s.size ≤ maxLen) :
    Calls Tryz.prog 121 #[.string s] w fun e w' => e = .returned (.bool (M.pageOk s.data.toList)) ∧ w = w' := by
  unfold maxLen at hs
  go_enter Tryz.func121, Tryz.ntmps121
  go_wp2
  go_loop [3] (fun i => ∃ k : Nat, k ≤ s.size ∧ i = .int .i64 k ∧ (s.data.toList.take k).all M.pageB = true) (fun i => s.size - (intOf i).toNat)
  case atStart => exact ⟨0, Nat.zero_le _, rfl, rfl⟩
  case round =>
    obtain ⟨k, hk, rfl, hall⟩ := hrel
    have HA := Lib.hid hall
    clear hall
    by_cases hlt : k < s.size
    · by_cases hb : M.pageB s[k] = true
      · have HB := Lib.hid (M.page_step_yes s k hlt hb HA.out)
        have hc : (97 ≤ (s[k].toNat : Int) ∧ (s[k].toNat : Int) ≤ 122) ∨ (48 ≤ (s[k].toNat : Int) ∧ (s[k].toNat : Int) ≤ 57) := by
          simpa [M.pageB, M.small, M.digit, M.smallI, M.digitI] using hb
        clear hb
        go_wp2
        all_goals
          go_round
          case rel => exact ⟨k + 1, by omega, by go_num, HB.out⟩
          case measure => simp [intOf]; omega
      · have HB := Lib.hid (M.page_no s k hlt (by simpa using hb))
        have hc : ((s[k].toNat : Int) < 97 ∨ 122 < (s[k].toNat : Int)) ∧ ((s[k].toNat : Int) < 48 ∨ 57 < (s[k].toNat : Int)) := by
          simp [M.pageB, M.small, M.digit, M.smallI, M.digitI] at hb
          omega
        clear hb
        go_wp2
        all_goals
          go_ret
          exact ⟨ret_bool HB.out.symm, rfl⟩
    · obtain rfl : k = s.size := by omega
      have HB := Lib.hid (M.page_all s HA.out)
      go_wp2
      go_ret
      exact ⟨ret_bool (by rw [HB.out]; exact decide_eq_decide.2 (by omega)), rfl⟩

def PJ (s : ByteArray) (w : World) (l : Nat) (a : Act) (w' : World) : Prop :=
  ∃ (k : Nat) (u4 u5 u6 u7 u8 u9 u10 u11 u12 u13 u14 u15 u16 u17 u18 u19 u20 u21 u22 u23 u24 : Value), l = 0 ∧ w = w' ∧ k ≤ s.size ∧ (s.data.toList.take k).all M.pageB = true ∧
    a = { tmps := #[.string s, undef, .bool false, .int .i64 k, u4, u5, u6, u7, u8, u9, u10, u11, u12, u13, u14, u15, u16, u17, u18, u19, u20, u21, u22, u23, u24], defers := [] }

set_option maxHeartbeats 400000 in
theorem implPageOk (s : ByteArray) (w : World) (hs : s.size ≤ maxLen) :
    Calls Tryz.prog 123 #[.string s] w fun e w' => e = .returned (.bool (M.pageOk s.data.toList)) ∧ w = w' := by
  unfold maxLen at hs
  by_cases hl : 12 < s.size
  · have HB := Lib.hid (M.page_long s hl)
    go_enter Tryz.func123, Tryz.ntmps123
    go_wp2
    go_step3
    go_wp2
    rw [Exit.noGoto_ret]
    go_ret
    exact ⟨ret_bool HB.out.symm, rfl⟩
  · go_enter Tryz.func123, Tryz.ntmps123
    go_wp2
    refine wp_scope_labels (PJ s w) (fun _ a _ => s.size - (intOf (a.tmps.getD 3 undef)).toNat) ?_ ?_
    · rintro l a w' ⟨k, u4, u5, u6, u7, u8, u9, u10, u11, u12, u13, u14, u15, u16, u17, u18, u19, u20, u21, u22, u23, u24, rfl, rfl, hk, hall, rfl⟩
      refine ⟨_, rfl, ?_⟩
      have HA := Lib.hid hall
      clear hall
      by_cases hlt : k < s.size
      · have hne : ((k : Int) == (s.size : Int)) = false := by simp; omega
        rcases hS : M.smallI ((s[k].toNat : Nat) : Int) with _ | _
        · rcases hD : M.digitI ((s[k].toNat : Nat) : Int) with _ | _
          · have HB := Lib.hid (M.page_no s k hlt (by simp [M.pageB, M.small, M.digit, hS, hD]))
            go_wp2_with (first | (go_at_call 110; refine (isSmall_any _ _).mono ?_; rintro e w' ⟨rfl, rfl⟩) | (go_at_call 129; refine (isDigit_any _ _).mono ?_; rintro e w' ⟨rfl, rfl⟩))
            go_ret
            exact ⟨ret_bool HB.out.symm, rfl⟩
          · have HB := Lib.hid (M.page_step_yes s k hlt (by simp [M.pageB, M.small, M.digit, hS, hD]) HA.out)
            go_wp2_with (first | (go_at_call 110; refine (isSmall_any _ _).mono ?_; rintro e w' ⟨rfl, rfl⟩) | (go_at_call 129; refine (isDigit_any _ _).mono ?_; rintro e w' ⟨rfl, rfl⟩))
            go_step3
            refine ⟨⟨k + 1, _, _, _, _, _, _, _, _, _, _, _, _, _, _, _, _, _, _, _, _, _, rfl, rfl, by omega, HB.out, rfl⟩, ?_⟩
            simp [intOf]; omega
        · have HB := Lib.hid (M.page_step_yes s k hlt (by simp [M.pageB, M.small, M.digit, hS]) HA.out)
          go_wp2_with (first | (go_at_call 110; refine (isSmall_any _ _).mono ?_; rintro e w' ⟨rfl, rfl⟩) | (go_at_call 129; refine (isDigit_any _ _).mono ?_; rintro e w' ⟨rfl, rfl⟩))
          go_step3
          refine ⟨⟨k + 1, _, _, _, _, _, _, _, _, _, _, _, _, _, _, _, _, _, _, _, _, _, rfl, rfl, by omega, HB.out, rfl⟩, ?_⟩
          simp [intOf]; omega
      · obtain rfl : k = s.size := by omega
        have HB := Lib.hid (M.page_all s HA.out)
        go_wp2
        go_ret
        exact ⟨ret_bool (by rw [HB.out]; simp; omega), rfl⟩
    · intro hpass
      have HP := Lib.hid hpass
      clear hpass
      go_wp2
      go_step3
      rename_i hK
      refine hK _ _ ?_
      exact HP.out 0 _ _ _ rfl ⟨0, _, _, _, _, _, _, _, _, _, _, _, _, _, _, _, _, _, _, _, _, _, rfl, rfl, Nat.zero_le _, rfl, rfl⟩

set_option maxHeartbeats 1000000 in
theorem specNameOk (s : ByteArray) (w : World) (hs : s.size ≤ maxLen) :
    Calls Tryz.prog 104 #[.string s] w fun e w' => e = .returned (.bool (M.nameOk s.data.toList)) ∧ w = w' := by
  unfold maxLen at hs
  go_enter Tryz.func104, Tryz.ntmps104
  go_wp2
  go_loop [3] (fun i => ∃ k : Nat, i = .int .i64 k ∧ M.Nrel s k) (fun i => s.size - (intOf i).toNat)
  case atStart => exact ⟨0, rfl, M.Nrel_zero s⟩
  case round =>
    obtain ⟨k, rfl, hr⟩ := hrel
    have hk := hr.1
    have HR := Lib.hid hr
    clear hr
    by_cases hlt : k < s.size
    · by_cases hsm : 97 ≤ (s[k].toNat : Int) ∧ (s[k].toNat : Int) ≤ 122
      · have HN := Lib.hid (M.Nrel_small s k hlt HR.out (by simp [M.small, M.smallI, hsm]))
        obtain ⟨h1, h2⟩ := hsm
        go_wp2
        go_round
        case rel => exact ⟨k + 1, by go_num, HN.out⟩
        case measure => simp [intOf]; omega
      · have hsf : M.small s[k] = false := by simp [M.small, M.smallI]; omega
        have HS := Lib.hid hsf
        clear hsf
        by_cases hd : s[k].toNat = 45
        · have hd2 : ((s[k].toNat : Int) != 45) = false := by simp; omega
          have hle : (s[k].toNat : Int) ≤ 45 := by omega
          by_cases h0 : k = 0
          · have HN := Lib.hid (M.Nrel_stfalse s k hlt HR.out HS.out (by rw [h0]; rfl))
            have h0' : ((k : Int) == 0) = true := by simp [h0]
            clear hd h0
            go_wp2
            go_ret
            exact ⟨ret_bool HN.out.symm, rfl⟩
          · have h0' : ((k : Int) == 0) = false := by simp [h0]
            by_cases hl : k + 1 = s.size
            · have HN := Lib.hid (M.Nrel_last s k hlt HR.out HS.out hd hl)
              have hl' : ((k : Int) == (s.size : Int) - 1) = true := by simp; omega
              have hp : 1 ≤ s.size := by omega
              clear hd h0 hl
              go_wp2
              go_ret
              exact ⟨ret_bool HN.out.symm, rfl⟩
            · have hp : 1 ≤ s.size := by omega
              obtain ⟨j, rfl⟩ : ∃ j, k = j + 1 := ⟨k - 1, by omega⟩
              clear h0'
              have h0' : ((j : Int) + 1 == 0) = false := by simp; omega
              have hl' : ((j : Int) + 1 == (s.size : Int) - 1) = false := by simp; omega
              have hj : j < s.size := by omega
              have hst := M.st_prev s (j + 1) (by omega) (by omega)
              simp only [Nat.add_sub_cancel] at hst
              by_cases hpd : s[j].toNat = 45
              · have HN := Lib.hid (M.Nrel_stfalse s (j + 1) hlt HR.out HS.out (by rw [hst]; simpa using hpd))
                have hpd' : ((s[j].toNat : Int) == 45) = true := by simp; omega
                clear hd h0 hl hst hpd
                go_wp2
                go_ret
                exact ⟨ret_bool HN.out.symm, rfl⟩
              · have HN := Lib.hid (M.Nrel_dash s (j + 1) hlt HR.out hd hl (by rw [hst]; simpa using hpd))
                have hpd' : ((s[j].toNat : Int) == 45) = false := by simp; omega
                clear hd h0 hl hst hpd
                go_wp2
                go_round
                case rel => exact ⟨j + 1 + 1, by go_num, HN.out⟩
                case measure => simp [intOf]; omega
        · have HN := Lib.hid (M.Nrel_other s k hlt HR.out HS.out hd)
          have hd2 : ((s[k].toNat : Int) != 45) = true := by simp; omega
          clear hd
          by_cases h1 : 97 ≤ (s[k].toNat : Int)
          · have h2 : decide ((s[k].toNat : Int) ≤ 122) = false := by simp; omega
            go_wp2
            go_ret
            exact ⟨ret_bool HN.out.symm, rfl⟩
          · go_wp2
            go_ret
            exact ⟨ret_bool HN.out.symm, rfl⟩
    · obtain rfl : k = s.size := by omega
      have HN := Lib.hid (M.Nrel_end s HR.out)
      go_wp2_with (go_at_call 12; refine (in_any _ _ _ _).mono ?_; rintro e w' ⟨rfl, rfl⟩)
      go_ret
      exact ⟨ret_bool (by rw [HN.out, decide_eq_decide.2 (show (1 : Int) ≤ (s.size : Int) ↔ 1 ≤ s.size by omega), decide_eq_decide.2 (show (s.size : Int) ≤ 8 ↔ s.size ≤ 8 by omega)]), rfl⟩


def NJ (s : ByteArray) (w : World) (l : Nat) (a : Act) (w' : World) : Prop :=
  ∃ (k : Nat) (u4 u5 u6 u7 u8 u9 u10 u11 u12 u13 u14 u15 u16 u17 u18 u19 u20 u21 u22 u23 u24 u25 u26 u27 u28 u29 u30 u31 u32 u33 u34 u35 : Value), w = w' ∧ k ≤ s.size ∧
    (l = 0 ∧ M.nm false s.data.toList = M.nm false (s.data.toList.drop k) ∨ l = 1 ∧ M.nm false s.data.toList = M.nm true (s.data.toList.drop k)) ∧
    a = { tmps := #[.string s, undef, .bool false, .int .i64 k, u4, u5, u6, u7, u8, u9, u10, u11, u12, u13, u14, u15, u16, u17, u18, u19, u20, u21, u22, u23, u24, u25, u26, u27, u28, u29, u30, u31, u32, u33, u34, u35], defers := [] }

set_option maxHeartbeats 1000000 in
theorem implNameOk (s : ByteArray) (w : World) (hs : s.size ≤ maxLen) :
    Calls Tryz.prog 92 #[.string s] w fun e w' => e = .returned (.bool (M.nameOk s.data.toList)) ∧ w = w' := by
  unfold maxLen at hs
  by_cases hl : 8 < s.size
  · have HB := Lib.hid (M.name_long s hl)
    go_enter Tryz.func92, Tryz.ntmps92
    go_wp2
    go_step3
    go_wp2
    rw [Exit.noGoto_ret]
    go_ret
    exact ⟨ret_bool HB.out.symm, rfl⟩
  · go_enter Tryz.func92, Tryz.ntmps92
    go_wp2
    refine wp_scope_labels (NJ s w) (fun _ a _ => s.size - (intOf (a.tmps.getD 3 undef)).toNat) ?_ ?_
    · rintro l a w' ⟨k, u4,u5,u6,u7,u8,u9,u10,u11,u12,u13,u14,u15,u16,u17,u18,u19,u20,u21,u22,u23,u24,u25,u26,u27,u28,u29,u30,u31,u32,u33,u34,u35, rfl, hk, hq, rfl⟩
      rcases hq with ⟨rfl, hq⟩ | ⟨rfl, hq⟩
      · refine ⟨_, rfl, ?_⟩
        have HQ := Lib.hid hq
        clear hq
        by_cases hlt : k < s.size
        · have hne : ((k : Int) == (s.size : Int)) = false := by simp; omega
          rcases hS : M.smallI ((s[k].toNat : Nat) : Int) with _ | _
          · have HN := Lib.hid (M.name_no s (HQ.out.trans (M.nm_false_no s k hlt hS)))
            go_wp2_with (go_at_call 110; refine (isSmall_any _ _).mono ?_; rintro e w' ⟨rfl, rfl⟩)
            go_ret
            exact ⟨ret_bool HN.out.symm, rfl⟩
          · have HM := Lib.hid (HQ.out.trans (M.nm_small s k hlt hS false))
            go_wp2_with (go_at_call 110; refine (isSmall_any _ _).mono ?_; rintro e w' ⟨rfl, rfl⟩)
            go_step3
            rename_i hK
            refine hK _ _ ?_
            clear hK HQ hS hne
            by_cases hlt1 : k + 1 < s.size
            · have hne1 : (((k : Int) + 1 : Int) == (s.size : Int)) = false := by simp; omega
              by_cases hd : s[k + 1].toNat = 45
              · have hd1 : ((s[k + 1].toNat : Int) == 45) = true := by simp; omega
                have HN := Lib.hid (HM.out.trans (M.nm_dash s (k + 1) hlt1 hd))
                clear hd
                go_wp2_with (go_at_call 110; refine (isSmall_any _ _).mono ?_; rintro e w' ⟨rfl, rfl⟩)
                go_step3
                refine ⟨⟨k + 1 + 1, _, _, _, _, _, _, _, _, _, _, _, _, _, _, _, _, _, _, _, _, _, _, _, _, _, _, _, _, _, _, _, _, rfl, by omega, .inl ⟨rfl, HN.out⟩, rfl⟩, ?_⟩
                simp [intOf]; omega
              · have hd1 : ((s[k + 1].toNat : Int) == 45) = false := by simp; omega
                rcases hS1 : M.smallI ((s[k + 1].toNat : Nat) : Int) with _ | _
                · have HN := Lib.hid (M.name_no s (HM.out.trans (M.nm_other_no s (k + 1) hlt1 hS1 hd true)))
                  clear hd
                  go_wp2_with (go_at_call 110; refine (isSmall_any _ _).mono ?_; rintro e w' ⟨rfl, rfl⟩)
                  go_ret
                  exact ⟨ret_bool HN.out.symm, rfl⟩
                · have HN := Lib.hid (HM.out.trans (M.nm_small s (k + 1) hlt1 hS1 true))
                  clear hd
                  go_wp2_with (go_at_call 110; refine (isSmall_any _ _).mono ?_; rintro e w' ⟨rfl, rfl⟩)
                  go_step3
                  refine ⟨⟨k + 1 + 1, _, _, _, _, _, _, _, _, _, _, _, _, _, _, _, _, _, _, _, _, _, _, _, _, _, _, _, _, _, _, _, _, rfl, by omega, .inr ⟨rfl, HN.out⟩, rfl⟩, ?_⟩
                  simp [intOf]; omega
            · have hne1 : (((k : Int) + 1 : Int) == (s.size : Int)) = true := by simp; omega
              have HN : Hid (M.nameOk s.data.toList = true) := Lib.hid (M.name_yes s (by omega) (by
                have e : k + 1 = s.size := by omega
                have h := HM.out
                rw [e, M.nm_end] at h; exact h))
              go_wp2
              go_ret
              exact ⟨ret_bool HN.out.symm, rfl⟩
        · have hne : ((k : Int) == (s.size : Int)) = true := by simp; omega
          have HN : Hid (M.nameOk s.data.toList = false) := Lib.hid (M.name_no s (by
            have e : k = s.size := by omega
            have h := HQ.out
            rw [e, M.nm_end] at h; exact h))
          go_wp2
          go_ret
          exact ⟨ret_bool HN.out.symm, rfl⟩
      · refine ⟨_, rfl, ?_⟩
        have HQ := Lib.hid hq
        clear hq
        by_cases hlt1 : k < s.size
        · have hne1 : ((k : Int) == (s.size : Int)) = false := by simp; omega
          by_cases hd : s[k].toNat = 45
          · have hd1 : ((s[k].toNat : Int) == 45) = true := by simp; omega
            have HN := Lib.hid (HQ.out.trans (M.nm_dash s (k) hlt1 hd))
            clear hd
            go_wp2_with (go_at_call 110; refine (isSmall_any _ _).mono ?_; rintro e w' ⟨rfl, rfl⟩)
            go_step3
            refine ⟨⟨k + 1, _, _, _, _, _, _, _, _, _, _, _, _, _, _, _, _, _, _, _, _, _, _, _, _, _, _, _, _, _, _, _, _, rfl, by omega, .inl ⟨rfl, HN.out⟩, rfl⟩, ?_⟩
            simp [intOf]; omega
          · have hd1 : ((s[k].toNat : Int) == 45) = false := by simp; omega
            rcases hS1 : M.smallI ((s[k].toNat : Nat) : Int) with _ | _
            · have HN := Lib.hid (M.name_no s (HQ.out.trans (M.nm_other_no s (k) hlt1 hS1 hd true)))
              clear hd
              go_wp2_with (go_at_call 110; refine (isSmall_any _ _).mono ?_; rintro e w' ⟨rfl, rfl⟩)
              go_ret
              exact ⟨ret_bool HN.out.symm, rfl⟩
            · have HN := Lib.hid (HQ.out.trans (M.nm_small s (k) hlt1 hS1 true))
              clear hd
              go_wp2_with (go_at_call 110; refine (isSmall_any _ _).mono ?_; rintro e w' ⟨rfl, rfl⟩)
              go_step3
              refine ⟨⟨k + 1, _, _, _, _, _, _, _, _, _, _, _, _, _, _, _, _, _, _, _, _, _, _, _, _, _, _, _, _, _, _, _, _, rfl, by omega, .inr ⟨rfl, HN.out⟩, rfl⟩, ?_⟩
              simp [intOf]; omega
        · have hne1 : ((k : Int) == (s.size : Int)) = true := by simp; omega
          have HN : Hid (M.nameOk s.data.toList = true) := Lib.hid (M.name_yes s (by omega) (by
            have e : k = s.size := by omega
            have h := HQ.out
            rw [e, M.nm_end] at h; exact h))
          go_wp2
          go_ret
          exact ⟨ret_bool HN.out.symm, rfl⟩
    · intro hpass
      have HP := Lib.hid hpass
      clear hpass
      go_wp2
      go_step3
      rename_i hK
      refine hK _ _ ?_
      exact HP.out 0 _ _ _ rfl ⟨0, _, _, _, _, _, _, _, _, _, _, _, _, _, _, _, _, _, _, _, _, _, _, _, _, _, _, _, _, _, _, _, _, rfl, Nat.zero_le _, .inl ⟨rfl, rfl⟩, rfl⟩
end Go.Proofs.YtdoeiphnalbinaaGreat
