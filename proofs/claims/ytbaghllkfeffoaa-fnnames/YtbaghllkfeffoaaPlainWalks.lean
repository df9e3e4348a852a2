/- Proved: Plain, of the program and of its model, answers one and the same Lean function at every text of at most maxLen bytes, and writes nothing that was there. -/
import Derived.Test.YtbaghllkfeffoaaNameWalks
import Derived.Test.YtbaghllkfeffoaaBytes
namespace Go.Proofs.Ytbaghllkfeffoaa
open Go.RowKit

theorem ret_int {k : IntKind} {a b : Int} (h : a = b) : Ending.returned (.int k a) = .returned (.int k b) := by rw [h]

theorem plainByte_any (n : Int) (h0 : 0 ≤ n) (h1 : n ≤ 255) (w : World) : Calls Try.prog 21 #[.int .u8 n] w fun e w' => e = .returned (.int .u8 (M.plainI n)) ∧ w = w' := by
  by_cases a : 65 ≤ n ∧ n ≤ 90
  · have e1 : M.plainI n = n + 32 := by unfold M.plainI; rw [if_pos a]
    have HE := Lib.hid e1
    clear e1
    obtain ⟨a1, a2⟩ := a
    go_enter Try.func21, Try.ntmps21
    go_wp2
    go_ret
    exact ⟨ret_int (by rw [HE.out]; omega), rfl⟩
  · by_cases b : n = 95
    · have e1 : M.plainI n = 45 := by unfold M.plainI; rw [if_neg a, if_pos b]
      have HE := Lib.hid e1
      clear e1
      subst b
      go_enter Try.func21, Try.ntmps21
      go_wp2
      go_ret
      exact ⟨ret_int (by rw [HE.out]), rfl⟩
    · have e1 : M.plainI n = n := by unfold M.plainI; rw [if_neg a, if_neg b]
      have HE := Lib.hid e1
      clear e1
      have hb : (n == 95) = false := by simpa using b
      by_cases c : 65 ≤ n
      · have c2 : decide (n ≤ 90) = false := by simp; omega
        go_enter Try.func21, Try.ntmps21
        go_wp2
        go_ret
        exact ⟨ret_int (by rw [HE.out]), rfl⟩
      · go_enter Try.func21, Try.ntmps21
        go_wp2
        go_ret
        exact ⟨ret_int (by rw [HE.out]), rfl⟩

def plainS (s : ByteArray) : ByteArray := ⟨(M.plain s.data.toList).toArray⟩

set_option maxHeartbeats 400000 in
theorem implPlain (s : ByteArray) (w : World) (hs : s.size ≤ maxLen) :
    Calls Try.prog 10 #[.string s] w fun e w' => e = .returned (.string (plainS s)) ∧ Below w.heap.size w w' := by
  unfold maxLen at hs
  have hconv := run_bytes_of_string (P := Try.prog) w 9 22 5 s Try.underlying9 Try.underlying22 Try.underlying5
  have hrow := BRow.of_conv w s (grownCap w s.size 0 5)
  have hcap := grownCap_ge w s.size 0 5
  generalize grownCap w s.size 0 5 = cap at hconv hrow hcap
  generalize bytesRow s cap = C at hconv hrow
  have HR := Lib.hid hrow
  clear hrow
  go_enter Try.func10, Try.ntmps10
  go_wp2
  go_loopw [10] (fun i wr => ∃ k : Nat, k ≤ s.size ∧ i = .int .i64 k ∧ BRow wr w.heap.size (M.mix s.data.toList k) ∧ Below w.heap.size w wr) (fun i _ => s.size - (intOf i).toNat)
  case atStart => exact ⟨0, Nat.zero_le _, rfl, HR.out, ((Below.refl _ _).alloc (Nat.le_refl _) _).drew⟩
  case round =>
    obtain ⟨k, hk, rfl, hrow, hbel⟩ := hrel
    clear hconv HR
    by_cases hlt : k < s.size
    · have hkl : k < s.data.toList.length := by simpa using hlt
      have hc := hrow.2 k (by rw [M.mix_length _ _ (by omega)]; exact hkl)
      rw [M.mix_at _ _ hkl] at hc
      have HS := Lib.hid (hrow.store k (M.plainB s.data.toList[k]))
      rw [M.mix_set _ _ hkl, M.plainB_toNat] at HS
      have hb : (s.data.toList[k].toNat : Int) ≤ 255 := by have := s.data.toList[k].toNat_lt; omega
      have HW := Lib.hid hrow
      clear hrow
      generalize s.data.toList[k] = c at *
      obtain ⟨hc1, hc2⟩ := hc
      go_wp2_with (go_at_call 21; refine (plainByte_any _ (by omega) (by omega) _).mono ?_; rintro e w' ⟨rfl, rfl⟩)
      go_roundw
      case rel => exact ⟨k + 1, by omega, by go_num, HS.out, hbel.setCell (Nat.le_refl _) _⟩
      case measure => simp [intOf]; omega
    · have hk' : k = s.size := by omega
      rw [M.mix_all _ _ (by simp; omega)] at hrow
      have hback := hrow.back (P := Try.prog) 22 9 5 cap s.size (by rw [M.plain_length]; simp) Try.underlying22 Try.underlying5 Try.underlying9
      clear hrow hk'
      go_wp2
      go_ret
      exact ⟨rfl, hbel⟩

set_option maxHeartbeats 400000 in
theorem specPlain (s : ByteArray) (w : World) (hs : s.size ≤ maxLen) :
    Calls Try.prog 13 #[.string s] w fun e w' => e = .returned (.string (plainS s)) ∧ Below w.heap.size w w' := by
  unfold maxLen at hs
  have hconv := run_bytes_of_string (P := Try.prog) w 9 22 5 s Try.underlying9 Try.underlying22 Try.underlying5
  have hrow := BRow.of_conv w s (grownCap w s.size 0 5)
  generalize grownCap w s.size 0 5 = cap at hconv hrow
  generalize bytesRow s cap = C at hconv hrow
  have HR := Lib.hid hrow
  clear hrow
  go_enter Try.func13, Try.ntmps13
  go_wp2
  go_loopw [4] (fun i wr => ∃ k : Nat, k ≤ s.size ∧ i = .int .i64 k ∧ BRow wr w.heap.size (M.mix s.data.toList k) ∧ Below w.heap.size w wr) (fun i _ => s.size - (intOf i).toNat)
  case atStart => exact ⟨0, Nat.zero_le _, rfl, HR.out, ((Below.refl _ _).alloc (Nat.le_refl _) _).drew⟩
  case round =>
    obtain ⟨k, hk, rfl, hrow, hbel⟩ := hrel
    clear hconv HR
    by_cases hlt : k < s.size
    · have hkl : k < s.data.toList.length := by simpa using hlt
      have hml := M.mix_length s.data.toList k (by omega)
      have hc := hrow.2 k (by rw [hml]; exact hkl)
      rw [M.mix_at _ _ hkl] at hc
      have hsame : M.plainB s.data.toList[k] = s.data.toList[k] → M.mix s.data.toList (k + 1) = M.mix s.data.toList k := by
        intro e
        rw [← M.mix_set _ _ hkl, e]
        have h2 := M.mix_at _ _ hkl
        conv => lhs; rw [← h2]
        exact List.set_getElem_self _
      have hpi := M.plainB_toNat s.data.toList[k]
      have HS := Lib.hid (hrow.store k (M.plainB s.data.toList[k]))
      rw [M.mix_set _ _ hkl] at HS
      have hb : (s.data.toList[k].toNat : Int) ≤ 255 := by have := s.data.toList[k].toNat_lt; omega
      have HW := Lib.hid hrow
      have HM := Lib.hid hsame
      have HP := Lib.hid hpi
      clear hrow hsame hml hpi
      generalize s.data.toList[k] = c at *
      obtain ⟨hc1, hc2⟩ := hc
      by_cases a : 65 ≤ (c.toNat : Int) ∧ (c.toNat : Int) ≤ 90
      · have e1 : M.plainI (c.toNat : Int) = c.toNat + 32 := by unfold M.plainI; rw [if_pos a]
        rw [HP.out, e1] at HS
        clear e1
        obtain ⟨a1, a2⟩ := a
        go_wp2
        go_roundw
        case rel => exact ⟨k + 1, by omega, by go_num, HS.out, hbel.setCell (Nat.le_refl _) _⟩
        case measure => simp [intOf]; omega
      · by_cases b : (c.toNat : Int) = 95
        · have e1 : M.plainI (c.toNat : Int) = 45 := by unfold M.plainI; rw [if_neg a, if_pos b]
          rw [HP.out, e1] at HS
          clear e1
          have b1 : ((c.toNat : Int) == 95) = true := by simpa using b
          have b2 : decide ((c.toNat : Int) ≤ 90) = false := by simp; omega
          have b3 : 65 ≤ (c.toNat : Int) := by omega
          clear b a
          go_wp2
          go_roundw
          case rel => exact ⟨k + 1, by omega, by go_num, HS.out, hbel.setCell (Nat.le_refl _) _⟩
          case measure => simp [intOf]; omega
        · have e1 : M.plainI (c.toNat : Int) = c.toNat := by unfold M.plainI; rw [if_neg a, if_neg b]
          have e2 : M.plainB c = c := UInt8.toNat_inj.1 (by have := HP.out; omega)
          have HX := Lib.hid (HM.out e2)
          clear e1 e2
          have b1 : ((c.toNat : Int) == 95) = false := by simpa using b
          clear b
          by_cases b3 : 65 ≤ (c.toNat : Int)
          · have b2 : decide ((c.toNat : Int) ≤ 90) = false := by simp; omega
            go_wp2
            go_roundw
            case rel => exact ⟨k + 1, by omega, by go_num, by rw [HX.out]; exact HW.out, hbel⟩
            case measure => simp [intOf]; omega
          · go_wp2
            go_roundw
            case rel => exact ⟨k + 1, by omega, by go_num, by rw [HX.out]; exact HW.out, hbel⟩
            case measure => simp [intOf]; omega
    · have hk' : k = s.size := by omega
      rw [M.mix_all _ _ (by simp; omega)] at hrow
      have hback := hrow.back (P := Try.prog) 22 9 5 cap s.size (by rw [M.plain_length]; simp) Try.underlying22 Try.underlying5 Try.underlying9
      clear hrow hk'
      go_wp2
      go_ret
      exact ⟨rfl, hbel⟩
end Go.Proofs.Ytbaghllkfeffoaa
