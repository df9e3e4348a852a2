/- Proved: the laws' helper counts a list of works as the plain Lean function does; it writes nothing that was there. -/
import Derived.Test.YteiopndlakkeaaaShelfMem
namespace Go.Proofs.Yteiopndlakkeaaa
open Go.RowKit

set_option maxHeartbeats 1000000 in
theorem szWorkS_small (A : Option Addr) (l : List Wr) (cap : Nat) (n : Int) (w : World) (h1 : n ≤ 1048576) (hl : Wks w A l) (h : (l.length + szWrs l : Int) ≤ n) :
    Calls Try.prog 26 #[.slice A l.length cap, .int .i64 n] w fun r w' => r = .returned (.int .i64 (n - l.length - szWrs l)) ∧ Below w.heap.size w w' := by
  go_enter Try.func26, Try.ntmps26
  go_wp2
  go_loopw [1, 5] (fun x i wr => ∃ j : Nat, i = .int .i64 j ∧ j ≤ l.length ∧ x = .int .i64 (n - l.length - szWrs (l.take j)) ∧ Wks wr A l ∧ Below w.heap.size w wr) (fun _ i _ => l.length - (intOf i).toNat)
  case atStart => exact ⟨0, rfl, Nat.zero_le _, by simp [szWrs], hl, Below.refl _ _⟩
  case round =>
    obtain ⟨j, rfl, hj, rfl, hl', hb⟩ := hrel
    have hle := szWrs_take_le l j
    by_cases hlt : j < l.length
    · have hs := szWrs_take l j hlt
      have hle' := szWrs_take_le l (j + 1)
      have HS := Lib.hid hs
      have hp : (szWr l[j] : Int) ≤ n - l.length - szWrs (l.take j) := by omega
      have HP := Lib.hid hp
      clear hs hp
      obtain ⟨b, o, rfl, hbl, c0, c1, c2, hc⟩ := Wks_at hl' hlt
      have HC := Lib.hid hc
      clear hc
      go_wp2_with fail
      refine (szWork_small l[j].name l[j].owner l[j].ad l[j].cps l[j].cap _ _ (by omega) HC.out (by have := HP.out; unfold szWr at this; omega)).mono ?_
      rintro r w1 ⟨rfl, b1⟩
      have h0 : 0 ≤ n - (l.length : Int) - (szWrs (l.take j) : Int) - (l[j].name.size : Int) - (l[j].cps.length : Int) - (M.szPages l[j].cps : Int) := by have := HP.out; unfold szWr at this; omega
      go_wp2
      go_roundw
      case rel => exact ⟨j + 1, by go_num, by omega, by rw [HS.out]; unfold szWr; go_num, hl'.below b1, next hb b1⟩
      case measure => simp [intOf]; omega
    · have hj' : j = l.length := by omega
      subst hj'
      go_wp2
      go_ret
      exact ⟨ret_int (by rw [List.take_length]), hb⟩

set_option maxHeartbeats 1000000 in
theorem szWorkS_big (A : Option Addr) (l : List Wr) (cap : Nat) (n : Int) (w : World) (h0 : 0 ≤ n) (h1 : n ≤ 1048576) (hl : Wks w A l) (hlen : l.length ≤ maxLen) (hp : WrsIn maxLen l) (h : n < (l.length + szWrs l : Int)) :
    Calls Try.prog 26 #[.slice A l.length cap, .int .i64 n] w fun r w' => r = .returned (.int .i64 (-1)) ∧ Below w.heap.size w w' := by
  unfold maxLen at hlen
  by_cases hshort : n < l.length
  · go_enter Try.func26, Try.ntmps26
    go_wp2
    go_ret
    exact ⟨rfl, Below.refl _ _⟩
  · go_enter Try.func26, Try.ntmps26
    go_wp2
    go_loopw [1, 5] (fun x i wr => ∃ j : Nat, i = .int .i64 j ∧ j ≤ l.length ∧ (szWrs (l.take j) : Int) ≤ n - l.length ∧ x = .int .i64 (n - l.length - szWrs (l.take j)) ∧ Wks wr A l ∧ Below w.heap.size w wr) (fun _ i _ => l.length - (intOf i).toNat)
    case atStart => exact ⟨0, rfl, Nat.zero_le _, by simp [szWrs]; omega, by simp [szWrs], hl, Below.refl _ _⟩
    case round =>
      obtain ⟨j, rfl, hj, hle, rfl, hl', hb⟩ := hrel
      by_cases hlt : j < l.length
      · have HS := Lib.hid (szWrs_take l j hlt)
        have HPJ := Lib.hid (hp l[j] (List.getElem_mem hlt))
        obtain ⟨b, o, rfl, hbl, c0, c1, c2, hc⟩ := Wks_at hl' hlt
        have HC := Lib.hid hc
        clear hc
        by_cases hfit : (szWr l[j] : Int) ≤ n - l.length - szWrs (l.take j)
        · have HP := Lib.hid hfit
          clear hfit
          go_wp2_with fail
          refine (szWork_small l[j].name l[j].owner l[j].ad l[j].cps l[j].cap _ _ (by omega) HC.out (by have := HP.out; unfold szWr at this; omega)).mono ?_
          rintro r w1 ⟨rfl, b1⟩
          have h0 : 0 ≤ n - (l.length : Int) - (szWrs (l.take j) : Int) - (l[j].name.size : Int) - (l[j].cps.length : Int) - (M.szPages l[j].cps : Int) := by have := HP.out; unfold szWr at this; omega
          go_wp2
          go_roundw
          case rel => exact ⟨j + 1, by go_num, by omega, by have := HP.out; rw [HS.out]; simp; omega, by rw [HS.out]; unfold szWr; go_num, hl'.below b1, next hb b1⟩
          case measure => simp [intOf]; omega
        · have HP : Hid (n - l.length - szWrs (l.take j) < (szWr l[j] : Int)) := Lib.hid (by omega)
          clear hfit
          go_wp2_with fail
          refine (szWork_big l[j].name l[j].owner l[j].ad l[j].cps l[j].cap _ _ (by omega) (by omega) HC.out HPJ.out.1 HPJ.out.2.1 HPJ.out.2.2 (by have := HP.out; unfold szWr at this; omega)).mono ?_
          rintro r w1 ⟨rfl, b1⟩
          go_wp2
          go_ret
          exact ⟨rfl, next hb b1⟩
      · have hj' : j = l.length := by omega
        subst hj'
        rw [List.take_length] at hle
        omega
end Go.Proofs.Yteiopndlakkeaaa
