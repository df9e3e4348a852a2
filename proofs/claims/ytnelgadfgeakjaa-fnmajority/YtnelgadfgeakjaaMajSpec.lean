/- Proved: the model's CountOk, MostOf, InSet, With, SizeOf answer plain Lean functions at every number, and leave the world as it is; no condition. -/
import Derived.Test.YtnelgadfgeakjaaMajDefs
import Derived.Test.YtnelgadfgeakjaaJumps
import Derived.ScopeJumps
import Derived.Scope
import Derived.WalkMore
namespace Go.Proofs.Ytnelgadfgeakjaa
open Go.RowKit

theorem specCountOk (n : Int) (w : World) : Calls Try.prog 23 #[.int .i64 n] w fun e w' => e = .returned (.bool (M.cok n)) ∧ w = w' := by
  by_cases h3 : n = 3
  · have hk : (n == 3) = true := by simp [h3]
    go_enter Try.func23, Try.ntmps23
    go_wp2
    go_ret
    exact ⟨ret_bool (by simp [M.cok, h3]), rfl⟩
  · have hk : (n == 3) = false := by simp [h3]
    go_enter Try.func23, Try.ntmps23
    go_wp2
    go_ret
    exact ⟨ret_bool (by simp [M.cok, h3]), rfl⟩

theorem specMostOf (n : Int) (w : World) : Calls Try.prog 19 #[.int .i64 n] w fun e w' => e = .returned (.int .i64 (M.most n)) ∧ w = w' := by
  rcases hk : M.cok n with _ | _
  · go_enter Try.func19, Try.ntmps19
    go_wp2_with (go_at_call 23; refine (specCountOk _ _).mono ?_; rintro e w' ⟨rfl, rfl⟩)
    go_ret
    exact ⟨ret_int (by simp [M.most, hk]), rfl⟩
  · have hn : n = 3 ∨ n = 5 := by simpa [M.cok] using hk
    have hm : M.most n = n / 2 + 1 := M.most_of hn
    go_enter Try.func19, Try.ntmps19
    go_wp2_with (go_at_call 23; refine (specCountOk _ _).mono ?_; rintro e w' ⟨rfl, rfl⟩)
    go_ret
    exact ⟨ret_int (by rw [hm]), rfl⟩

theorem l9Set_any (s : Int) (w : World) : Calls Try.prog 35 #[.int .i64 s] w fun e w' => e = .returned (.bool (M.isSet s)) ∧ w = w' := by
  go_enter Try.func35, Try.ntmps35
  go_wp2_with (go_at_call 36; refine (in_any _ _ _ _).mono ?_; rintro e w' ⟨rfl, rfl⟩)
  go_ret
  exact ⟨ret_bool rfl, rfl⟩

theorem one_any (i : Int) (w : World) : Calls Try.prog 36 #[.int .i64 i, .int .i64 0, .int .i64 4] w fun e w' => e = .returned (.bool (M.isOne i)) ∧ w = w' := in_any i 0 4 w

theorem specInSet (s i : Int) (w : World) : Calls Try.prog 21 #[.int .i64 s, .int .i64 i] w fun e w' => e = .returned (.bool (M.inSet s i)) ∧ w = w' := by
  rcases hs : M.isSet s with _ | _
  · go_enter Try.func21, Try.ntmps21
    go_wp2_with (first | (go_at_call 35; refine (l9Set_any _ _).mono ?_; rintro e w' ⟨rfl, rfl⟩; simp only [hs]) | (go_at_call 36; refine (one_any _ _).mono ?_; rintro e w' ⟨rfl, rfl⟩))
    go_ret
    exact ⟨ret_bool (by simp [M.inSet, hs]), rfl⟩
  · rcases hi : M.isOne i with _ | _
    · go_enter Try.func21, Try.ntmps21
      go_wp2_with (first | (go_at_call 35; refine (l9Set_any _ _).mono ?_; rintro e w' ⟨rfl, rfl⟩; simp only [hs]) | (go_at_call 36; refine (one_any _ _).mono ?_; rintro e w' ⟨rfl, rfl⟩; simp only [hi]))
      go_ret
      exact ⟨ret_bool (by simp [M.inSet, hi]), rfl⟩
    · obtain ⟨s0, s1⟩ : 0 ≤ s ∧ s ≤ 31 := by simpa [M.isSet] using hs
      obtain ⟨i0, i1⟩ : 0 ≤ i ∧ i ≤ 4 := by simpa [M.isOne] using hi
      have hb := bit_run (i := i) s0 s1
      have HE : Hid (M.inSet s i = (s / 2 ^ i.toNat % 2 == 1)) := Lib.hid (by simp [M.inSet, hs, hi, M.bitAt])
      go_enter Try.func21, Try.ntmps21
      go_wp2_with (first | (go_at_call 35; refine (l9Set_any _ _).mono ?_; rintro e w' ⟨rfl, rfl⟩; simp only [hs]) | (go_at_call 36; refine (one_any _ _).mono ?_; rintro e w' ⟨rfl, rfl⟩; simp only [hi]))
      go_ret
      exact ⟨ret_bool HE.out.symm, rfl⟩

theorem specWith (s i : Int) (w : World) : Calls Try.prog 17 #[.int .i64 s, .int .i64 i] w fun e w' => e = .returned (.int .i64 (M.withS s i)) ∧ w = w' := by
  rcases hs : M.isSet s with _ | _
  · go_enter Try.func17, Try.ntmps17
    go_wp2_with (first | (go_at_call 35; refine (l9Set_any _ _).mono ?_; rintro e w' ⟨rfl, rfl⟩; simp only [hs]) | (go_at_call 36; refine (one_any _ _).mono ?_; rintro e w' ⟨rfl, rfl⟩))
    go_ret
    exact ⟨ret_int (by simp [M.withS, hs]), rfl⟩
  · rcases hi : M.isOne i with _ | _
    · go_enter Try.func17, Try.ntmps17
      go_wp2_with (first | (go_at_call 35; refine (l9Set_any _ _).mono ?_; rintro e w' ⟨rfl, rfl⟩; simp only [hs]) | (go_at_call 36; refine (one_any _ _).mono ?_; rintro e w' ⟨rfl, rfl⟩; simp only [hi]))
      go_ret
      exact ⟨ret_int (by simp [M.withS, hi]), rfl⟩
    · obtain ⟨s0, s1⟩ : 0 ≤ s ∧ s ≤ 31 := by simpa [M.isSet] using hs
      obtain ⟨i0, i1⟩ : 0 ≤ i ∧ i ≤ 4 := by simpa [M.isOne] using hi
      have HO := Lib.hid (fun y => or_run (y := y) hs hi)
      go_enter Try.func17, Try.ntmps17
      go_wp2_with (first | (go_at_call 35; refine (l9Set_any _ _).mono ?_; rintro e w' ⟨rfl, rfl⟩; simp only [hs]) | (go_at_call 36; refine (one_any _ _).mono ?_; rintro e w' ⟨rfl, rfl⟩; simp only [hi]))
      go_ret
      exact ⟨ret_int (HO.out _ (pow_wrap hi)), rfl⟩

theorem specSizeOf (s : Int) (w : World) : Calls Try.prog 18 #[.int .i64 s] w fun e w' => e = .returned (.int .i64 (M.sizeOf s)) ∧ w = w' := by
  rcases hs : M.isSet s with _ | _
  · go_enter Try.func18, Try.ntmps18
    go_wp2_with (go_at_call 35; refine (l9Set_any _ _).mono ?_; rintro e w' ⟨rfl, rfl⟩; simp only [hs])
    go_ret
    exact ⟨ret_int (by simp [M.sizeOf, hs]), rfl⟩
  · obtain ⟨s0, s1⟩ : 0 ≤ s ∧ s ≤ 31 := by simpa [M.isSet] using hs
    have HE := Lib.hid (M.sizeTo_five hs)
    go_enter Try.func18, Try.ntmps18
    go_wp2_with (go_at_call 35; refine (l9Set_any _ _).mono ?_; rintro e w' ⟨rfl, rfl⟩; simp only [hs])
    clear hs
    go_loopw [3, 4] (fun n i wr => ∃ j : Nat, i = .int .i64 j ∧ n = .int .i64 (M.sizeTo s j) ∧ j ≤ 5 ∧ w = wr) (fun _ i _ => 5 - (intOf i).toNat)
    case atStart => exact ⟨0, rfl, rfl, Nat.zero_le _, rfl⟩
    case round =>
      obtain ⟨j, rfl, rfl, hj, rfl⟩ := hrel
      by_cases hlt : j < 5
      · have HB : Hid (wrap64 (M.sizeTo s j + bits .and .i64 (s / 2 ^ j) 1) = M.sizeTo s (j + 1)) := Lib.hid (by
          have hb := bit_run (i := (j : Int)) s0 s1
          simp only [Int.toNat_natCast] at hb
          obtain ⟨K, hK⟩ : ∃ K, s / 2 ^ j % 2 = K := ⟨_, rfl⟩
          have hs : M.sizeTo s j + K = M.sizeTo s (j + 1) := by rw [← hK]; rfl
          have hk : 0 ≤ K ∧ K < 2 := by omega
          have := M.sizeTo_in s j
          rw [hb, hK, IntWalk.wrap64_in _ ⟨by omega, by omega⟩, hs])
        obtain ⟨n0, n1⟩ := M.sizeTo_in s j
        go_wp2
        go_roundw
        case rel => exact ⟨j + 1, by go_num, by rw [HB.out], by omega, by trivial⟩
        case measure => simp [intOf]; omega
      · have hj5 : j = 5 := by omega
        subst hj5
        go_wp2
        go_ret
        exact ⟨ret_int HE.out, rfl⟩

end Go.Proofs.Ytnelgadfgeakjaa
