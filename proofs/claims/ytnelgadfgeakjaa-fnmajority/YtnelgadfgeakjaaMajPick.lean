/- Proved: the laws' own choice of a number below another one is such a number; the bytes are few. -/
import Derived.Test.YtnelgadfgeakjaaCode
namespace Go.Proofs.Ytnelgadfgeakjaa
open Go.RowKit
set_option maxRecDepth 20000

set_option maxHeartbeats 2000000 in
theorem pick_any (B : Nat) (a : Option Addr) (len cap : Nat) (s n : Int) (w : World) (hc : CodeOk B w a len) (hl : len ≤ 4096) (s0 : 0 ≤ s) (s1 : s ≤ 31) (n0 : 1 ≤ n) (n1 : n ≤ 32) :
    Calls Try.prog 24 #[.slice a len cap, .int .i64 s, .int .i64 n] w fun e w' => ∃ k : Int, 0 ≤ k ∧ k < n ∧ e = .returned (.int .i64 k) ∧ w = w' := by
  have HC := Lib.hid hc
  clear hc
  go_enter Try.func24, Try.ntmps24
  go_upto_region 3 with (fail)
  go_wp2_with fail
  go_loopw [7, 8] (fun k i wr => ∃ (j : Nat) (x : Int), i = .int .i64 j ∧ j ≤ len ∧ k = .int .i64 x ∧ 0 ≤ x ∧ x ≤ 1000003 ∧ w = wr) (fun _ i _ => len - (intOf i).toNat)
  case atStart => exact ⟨0, (len : Int) + 7919 * s, rfl, Nat.zero_le _, rfl, by omega, by omega, rfl⟩
  case round =>
    obtain ⟨j, x, rfl, hj, rfl, x0, x1, rfl⟩ := hrel
    by_cases hlt : j < len
    · obtain ⟨b, off, y, rfl, hb, y0, y1, c1⟩ := HC.out j hlt
      have hw : wrap64 y = y := IntWalk.wrap64_in _ ⟨by omega, by omega⟩
      go_wp2
      go_roundw
      case rel => exact ⟨j + 1, _, by go_num, by omega, rfl, by omega, by omega, by trivial⟩
      case measure => simp [intOf]; omega
    · go_wp2
      go_ret
      exact ⟨x % n, Int.emod_nonneg _ (by omega), Int.emod_lt_of_pos _ (by omega), rfl, rfl⟩
end Go.Proofs.Ytnelgadfgeakjaa
