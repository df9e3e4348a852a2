/- Proved: plain facts on sets of scribes as numbers, how many are more than half, and what the machine's shifts and ors of such numbers give; no program is named here; no condition. -/
import Derived.Test.YtnelgadfgeakjaaCore
import Derived.IntWalk
namespace Go.Proofs.Ytnelgadfgeakjaa
open Go.RowKit
namespace M

def cok (n : Int) : Bool := n == 3 || n == 5
def most (n : Int) : Int := if cok n then n / 2 + 1 else 0
def isSet (s : Int) : Bool := decide (0 ≤ s) && decide (s ≤ 31)
def isOne (i : Int) : Bool := decide (0 ≤ i) && decide (i ≤ 4)
def bitAt (s i : Int) : Bool := s / 2 ^ i.toNat % 2 == 1
def inSet (s i : Int) : Bool := isSet s && isOne i && bitAt s i
def withS (s i : Int) : Int := if isSet s && isOne i then (if bitAt s i then s else s + 2 ^ i.toNat) else -1
def sizeOf (s : Int) : Int := if isSet s then s % 2 + s / 2 % 2 + s / 4 % 2 + s / 8 % 2 + s / 16 % 2 else -1

def sizeTo (s : Int) : Nat → Int
  | 0 => 0
  | j + 1 => sizeTo s j + s / 2 ^ j % 2
theorem sizeTo_in (s : Int) : ∀ j : Nat, 0 ≤ sizeTo s j ∧ sizeTo s j ≤ j
  | 0 => ⟨Int.le_refl _, Int.le_refl _⟩
  | j + 1 => by
    have h := sizeTo_in s j
    show 0 ≤ sizeTo s j + s / 2 ^ j % 2 ∧ sizeTo s j + s / 2 ^ j % 2 ≤ ((j + 1 : Nat) : Int)
    omega
theorem sizeTo_five {s : Int} (h : isSet s = true) : sizeTo s 5 = sizeOf s := by
  have h1 : (0 : Int) + s / 1 % 2 + s / 2 % 2 + s / 4 % 2 + s / 8 % 2 + s / 16 % 2 = sizeTo s 5 := rfl
  rw [← h1]
  unfold sizeOf
  rw [if_pos h]
  omega
theorem most_of {n : Int} (h : n = 3 ∨ n = 5) : most n = n / 2 + 1 := by
  rcases h with rfl | rfl <;> rfl
theorem most_none {n : Int} (h3 : n ≠ 3) (h5 : n ≠ 5) : most n = 0 := by
  simp [most, cok, h3, h5]

/-- The bits of two small numbers. -/
theorem or_fin : ∀ s : Fin 32, ∀ i : Fin 5, IntKind.i64.wrap ((BitVec.ofInt 64 (s.val : Int) ||| BitVec.ofInt 64 (2 ^ i.val : Int)).toNat : Nat) = withS s.val i.val := by decide
theorem and_fin : ∀ s : Fin 32, IntKind.i64.wrap ((BitVec.ofInt 64 (s.val : Int) &&& BitVec.ofInt 64 (1 : Int)).toNat : Nat) = (s.val : Int) % 2 := by decide

end M

theorem or_run {s i y : Int} (hs : M.isSet s = true) (hi : M.isOne i = true) (hy : y = 2 ^ i.toNat) : bits .or .i64 s y = M.withS s i := by
  subst hy
  obtain ⟨s0, s1⟩ : 0 ≤ s ∧ s ≤ 31 := by simpa [M.isSet] using hs
  obtain ⟨i0, i1⟩ : 0 ≤ i ∧ i ≤ 4 := by simpa [M.isOne] using hi
  have h := M.or_fin ⟨s.toNat, by omega⟩ ⟨i.toNat, by omega⟩
  have e1 : ((s.toNat : Nat) : Int) = s := by omega
  have e2 : ((i.toNat : Nat) : Int) = i := by omega
  simp only [e1, e2] at h
  exact h

theorem and_run {s : Int} (h0 : 0 ≤ s) (h1 : s ≤ 31) : bits .and .i64 s 1 = s % 2 := by
  have h := M.and_fin ⟨s.toNat, by omega⟩
  have e1 : ((s.toNat : Nat) : Int) = s := by omega
  simp only [e1] at h
  exact h

/-- A set, shifted down, stays between 0 and 31. -/
theorem shr_small {s i : Int} (h0 : 0 ≤ s) (h1 : s ≤ 31) : 0 ≤ s / 2 ^ i.toNat ∧ s / 2 ^ i.toNat ≤ 31 := by
  have hp : (0 : Int) < 2 ^ i.toNat := Int.pow_pos (by decide)
  refine ⟨Int.ediv_nonneg h0 (Int.le_of_lt hp), ?_⟩
  exact Int.le_trans (Int.ediv_le_self _ h0) h1

theorem bit_run {s i : Int} (h0 : 0 ≤ s) (h1 : s ≤ 31) : bits .and .i64 (s / 2 ^ i.toNat) 1 = s / 2 ^ i.toNat % 2 := and_run (shr_small h0 h1).1 (shr_small h0 h1).2

theorem pow_fin : ∀ i : Fin 5, (0 : Int) ≤ 2 ^ i.val ∧ (2 : Int) ^ i.val ≤ 16 := by decide
theorem pow_wrap {i : Int} (hi : M.isOne i = true) : wrap64 (2 ^ i.toNat) = 2 ^ i.toNat := by
  obtain ⟨i0, i1⟩ : 0 ≤ i ∧ i ≤ 4 := by simpa [M.isOne] using hi
  have h := pow_fin ⟨i.toNat, by omega⟩
  exact IntWalk.wrap64_in _ ⟨by have := h.1; simp only at this; omega, by have := h.2; simp only at this; omega⟩

end Go.Proofs.Ytnelgadfgeakjaa
