/- Proved: the program's CountOk, MostOf, InSet, With, SizeOf answer plain Lean functions at every number, and leave the world as it is; no condition. -/
import Derived.Test.YtnelgadfgeakjaaMajDefs
import Derived.Test.YtnelgadfgeakjaaJumps
import Derived.ScopeJumps
import Derived.Scope
import Derived.WalkMore
namespace Go.Proofs.Ytnelgadfgeakjaa
open Go.RowKit

theorem implCountOk (n : Int) (w : World) : Calls Try.prog 22 #[.int .i64 n] w fun e w' => e = .returned (.bool (M.cok n)) ∧ w = w' := by
  by_cases h3 : n = 3
  · have hk : (n == 3) = true := by simp [h3]
    go_enter Try.func22, Try.ntmps22
    go_wp2
    go_ret
    exact ⟨ret_bool (by simp [M.cok, h3]), rfl⟩
  · have hk : (n == 3) = false := by simp [h3]
    go_enter Try.func22, Try.ntmps22
    go_wp2
    go_ret
    exact ⟨ret_bool (by simp [M.cok, h3]), rfl⟩

theorem implMostOf (n : Int) (w : World) : Calls Try.prog 16 #[.int .i64 n] w fun e w' => e = .returned (.int .i64 (M.most n)) ∧ w = w' := by
  rcases hk : M.cok n with _ | _
  · go_enter Try.func16, Try.ntmps16
    go_wp2_with (go_at_call 22; refine (implCountOk _ _).mono ?_; rintro e w' ⟨rfl, rfl⟩)
    go_ret
    exact ⟨ret_int (by simp [M.most, hk]), rfl⟩
  · have hn : n = 3 ∨ n = 5 := by simpa [M.cok] using hk
    have hm : M.most n = n / 2 + 1 := M.most_of hn
    go_enter Try.func16, Try.ntmps16
    go_wp2_with (go_at_call 22; refine (implCountOk _ _).mono ?_; rintro e w' ⟨rfl, rfl⟩)
    go_ret
    exact ⟨ret_int (by rw [hm]), rfl⟩

theorem setOk_any (s : Int) (w : World) : Calls Try.prog 31 #[.int .i64 s] w fun e w' => e = .returned (.bool (M.isSet s)) ∧ w = w' := by
  by_cases s0 : 0 ≤ s
  · by_cases s1 : s ≤ 31
    · go_enter Try.func31, Try.ntmps31
      go_wp2
      go_ret
      exact ⟨ret_bool (by simp [M.isSet, s0, s1]), rfl⟩
    · go_enter Try.func31, Try.ntmps31
      go_wp2
      go_ret
      exact ⟨ret_bool (by simp [M.isSet, s0, s1]), rfl⟩
  · go_enter Try.func31, Try.ntmps31
    go_wp2
    go_ret
    exact ⟨ret_bool (by have hx : M.isSet s = false := (by simp only [M.isSet, Bool.and_eq_false_iff, decide_eq_false_iff_not]; omega)
                        rw [hx]; first | done | simp [s0]), rfl⟩

theorem bitOk_any (i : Int) (w : World) : Calls Try.prog 32 #[.int .i64 i] w fun e w' => e = .returned (.bool (M.isOne i)) ∧ w = w' := by
  by_cases i0 : 0 ≤ i
  · by_cases i1 : i < 5
    · go_enter Try.func32, Try.ntmps32
      go_wp2
      go_ret
      exact ⟨ret_bool (by have : i ≤ 4 := by omega
                          simp [M.isOne, i0, this]), rfl⟩
    · go_enter Try.func32, Try.ntmps32
      go_wp2
      go_ret
      exact ⟨ret_bool (by have : ¬ i ≤ 4 := by omega
                          simp [M.isOne, i0, this]), rfl⟩
  · go_enter Try.func32, Try.ntmps32
    go_wp2
    go_ret
    exact ⟨ret_bool (by have hx : M.isOne i = false := (by simp only [M.isOne, Bool.and_eq_false_iff, decide_eq_false_iff_not]; omega)
                        rw [hx]; first | done | simp [i0]), rfl⟩

theorem implInSet (s i : Int) (w : World) : Calls Try.prog 20 #[.int .i64 s, .int .i64 i] w fun e w' => e = .returned (.bool (M.inSet s i)) ∧ w = w' := by
  rcases hs : M.isSet s with _ | _
  · go_enter Try.func20, Try.ntmps20
    go_wp2_with (first | (go_at_call 31; refine (setOk_any _ _).mono ?_; rintro e w' ⟨rfl, rfl⟩; simp only [hs]) | (go_at_call 32; refine (bitOk_any _ _).mono ?_; rintro e w' ⟨rfl, rfl⟩))
    go_ret
    exact ⟨ret_bool (by simp [M.inSet, hs]), rfl⟩
  · rcases hi : M.isOne i with _ | _
    · go_enter Try.func20, Try.ntmps20
      go_wp2_with (first | (go_at_call 31; refine (setOk_any _ _).mono ?_; rintro e w' ⟨rfl, rfl⟩; simp only [hs]) | (go_at_call 32; refine (bitOk_any _ _).mono ?_; rintro e w' ⟨rfl, rfl⟩; simp only [hi]))
      go_ret
      exact ⟨ret_bool (by simp [M.inSet, hi]), rfl⟩
    · obtain ⟨s0, s1⟩ : 0 ≤ s ∧ s ≤ 31 := by simpa [M.isSet] using hs
      obtain ⟨i0, i1⟩ : 0 ≤ i ∧ i ≤ 4 := by simpa [M.isOne] using hi
      have hb := bit_run (i := i) s0 s1
      have HE : Hid (M.inSet s i = (s / 2 ^ i.toNat % 2 == 1)) := Lib.hid (by simp [M.inSet, hs, hi, M.bitAt])
      go_enter Try.func20, Try.ntmps20
      go_wp2_with (first | (go_at_call 31; refine (setOk_any _ _).mono ?_; rintro e w' ⟨rfl, rfl⟩; simp only [hs]) | (go_at_call 32; refine (bitOk_any _ _).mono ?_; rintro e w' ⟨rfl, rfl⟩; simp only [hi]))
      go_ret
      exact ⟨ret_bool HE.out.symm, rfl⟩

theorem implWith (s i : Int) (w : World) : Calls Try.prog 13 #[.int .i64 s, .int .i64 i] w fun e w' => e = .returned (.int .i64 (M.withS s i)) ∧ w = w' := by
  rcases hs : M.isSet s with _ | _
  · go_enter Try.func13, Try.ntmps13
    go_wp2_with (first | (go_at_call 31; refine (setOk_any _ _).mono ?_; rintro e w' ⟨rfl, rfl⟩; simp only [hs]) | (go_at_call 32; refine (bitOk_any _ _).mono ?_; rintro e w' ⟨rfl, rfl⟩))
    go_ret
    exact ⟨ret_int (by simp [M.withS, hs]), rfl⟩
  · rcases hi : M.isOne i with _ | _
    · go_enter Try.func13, Try.ntmps13
      go_wp2_with (first | (go_at_call 31; refine (setOk_any _ _).mono ?_; rintro e w' ⟨rfl, rfl⟩; simp only [hs]) | (go_at_call 32; refine (bitOk_any _ _).mono ?_; rintro e w' ⟨rfl, rfl⟩; simp only [hi]))
      go_ret
      exact ⟨ret_int (by simp [M.withS, hi]), rfl⟩
    · obtain ⟨s0, s1⟩ : 0 ≤ s ∧ s ≤ 31 := by simpa [M.isSet] using hs
      obtain ⟨i0, i1⟩ : 0 ≤ i ∧ i ≤ 4 := by simpa [M.isOne] using hi
      have HO := Lib.hid (fun y => or_run (y := y) hs hi)
      go_enter Try.func13, Try.ntmps13
      go_wp2_with (first | (go_at_call 31; refine (setOk_any _ _).mono ?_; rintro e w' ⟨rfl, rfl⟩; simp only [hs]) | (go_at_call 32; refine (bitOk_any _ _).mono ?_; rintro e w' ⟨rfl, rfl⟩; simp only [hi]))
      go_ret
      exact ⟨ret_int (HO.out _ (pow_wrap hi)), rfl⟩

namespace M
def o1 (s : Int) : Int := IntKind.u64.wrap (bits .and .u64 (s / 2) 6148914691236517205 + bits .and .u64 s 6148914691236517205)
def o2 (s : Int) : Int := IntKind.u64.wrap (bits .and .u64 (s / 4) 3689348814741910323 + bits .and .u64 s 3689348814741910323)
def o3 (s : Int) : Int := bits .and .u64 (IntKind.u64.wrap (s / 16 + s)) 1085102592571150095
def o4 (s : Int) : Int := IntKind.u64.wrap (s + s / 256)
def o5 (s : Int) : Int := IntKind.u64.wrap (s + s / 65536)
def o6 (s : Int) : Int := IntKind.u64.wrap (s + s / 4294967296)
theorem ones_fin : ∀ s : Fin 32, bits .and .i64 (wrap64 (o6 (o5 (o4 (o3 (o2 (o1 (s.val : Int)))))))) 127 = sizeOf (s.val : Int) := by decide +kernel
theorem ones {s : Int} (s0 : 0 ≤ s) (s1 : s ≤ 31) : bits .and .i64 (wrap64 (o6 (o5 (o4 (o3 (o2 (o1 s))))))) 127 = sizeOf s := by
  have h := ones_fin ⟨s.toNat, by omega⟩
  have e1 : ((s.toNat : Nat) : Int) = s := by omega
  simp only [e1] at h
  exact h
end M
theorem ones_small (s : Int) (s0 : 0 ≤ s) (s1 : s ≤ 31) (w : World) : Calls Try.prog 33 #[.int .u64 s] w fun e w' => e = .returned (.int .i64 (M.sizeOf s)) ∧ w = w' := by
  have HE := Lib.hid (M.ones s0 s1)
  go_enter Try.func33, Try.ntmps33
  go_wp2
  go_ret
  exact ⟨ret_int HE.out, rfl⟩

theorem implSizeOf (s : Int) (w : World) : Calls Try.prog 14 #[.int .i64 s] w fun e w' => e = .returned (.int .i64 (M.sizeOf s)) ∧ w = w' := by
  rcases hs : M.isSet s with _ | _
  · go_enter Try.func14, Try.ntmps14
    go_wp2_with (go_at_call 31; refine (setOk_any _ _).mono ?_; rintro e w' ⟨rfl, rfl⟩; simp only [hs])
    go_ret
    exact ⟨ret_int (by simp [M.sizeOf, hs]), rfl⟩
  · obtain ⟨s0, s1⟩ : 0 ≤ s ∧ s ≤ 31 := by simpa [M.isSet] using hs
    have hw : IntKind.u64.wrap s = s := by simp [IntKind.wrap, IntKind.bits, IntKind.signed]; omega
    go_enter Try.func14, Try.ntmps14
    go_wp2_with (first | (go_at_call 31; refine (setOk_any _ _).mono ?_; rintro e w' ⟨rfl, rfl⟩; simp only [hs]) | (go_at_call 33; rw [hw]; refine (ones_small _ s0 s1 _).mono ?_; rintro e w' ⟨rfl, rfl⟩) | (go_at_call 33; refine (ones_small _ s0 s1 _).mono ?_; rintro e w' ⟨rfl, rfl⟩))
    go_ret
    exact ⟨rfl, rfl⟩

end Go.Proofs.Ytnelgadfgeakjaa
