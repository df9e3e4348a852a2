/- Proved: plain facts on sets of more than half: any two have one in both; a set with one more in it. No program is named here; no condition. -/
import Derived.Test.YtnelgadfgeakjaaMajDefs
namespace Go.Proofs.Ytnelgadfgeakjaa
open Go.RowKit
namespace M

/-- Is one of the first k in both? -/
def both (a b : Int) : Nat → Bool
  | 0 => false
  | k + 1 => both a b k || (inSet a k && inSet b k)
theorem maj3 : ∀ a : Fin 8, ∀ b : Fin 8, 2 ≤ sizeOf (a.val : Int) → 2 ≤ sizeOf (b.val : Int) → both (a.val : Int) (b.val : Int) 3 = true := by decide +kernel
theorem maj5 : ∀ a : Fin 32, ∀ b : Fin 32, 3 ≤ sizeOf (a.val : Int) → 3 ≤ sizeOf (b.val : Int) → both (a.val : Int) (b.val : Int) 5 = true := by decide +kernel
theorem both_most {n : Nat} (hn : n = 3 ∨ n = 5) {a b : Int} (a0 : 0 ≤ a) (a1 : a < 2 ^ n) (b0 : 0 ≤ b) (b1 : b < 2 ^ n) (ha : most n ≤ sizeOf a) (hb : most n ≤ sizeOf b) : both a b n = true := by
  obtain ⟨a, rfl⟩ := Int.eq_ofNat_of_zero_le a0
  obtain ⟨b, rfl⟩ := Int.eq_ofNat_of_zero_le b0
  rcases hn with rfl | rfl
  · have h3 : most ((3 : Nat) : Int) = 2 := rfl
    rw [h3] at ha hb
    exact maj3 ⟨a, by omega⟩ ⟨b, by omega⟩ ha hb
  · have h5 : most ((5 : Nat) : Int) = 3 := rfl
    rw [h5] at ha hb
    exact maj5 ⟨a, by omega⟩ ⟨b, by omega⟩ ha hb

theorem with_fin : ∀ s : Fin 32, ∀ i : Fin 5, 0 ≤ withS (s.val : Int) (i.val : Int) ∧ withS (s.val : Int) (i.val : Int) ≤ 31 ∧ inSet (withS (s.val : Int) (i.val : Int)) (i.val : Int) = true ∧
    (inSet (s.val : Int) (i.val : Int) = true → withS (s.val : Int) (i.val : Int) = (s.val : Int)) ∧ (inSet (s.val : Int) (i.val : Int) = false → sizeOf (withS (s.val : Int) (i.val : Int)) = sizeOf (s.val : Int) + 1) ∧ 0 ≤ sizeOf (s.val : Int) ∧ sizeOf (s.val : Int) ≤ 5 := by decide +kernel
theorem with_all {s i : Int} (hs : isSet s = true) (hi : isOne i = true) : 0 ≤ withS s i ∧ inSet (withS s i) i = true ∧ (inSet s i = true → withS s i = s) ∧ (inSet s i = false → sizeOf (withS s i) = sizeOf s + 1) ∧ 0 ≤ sizeOf s ∧ sizeOf s ≤ 5 := by
  obtain ⟨s0, s1⟩ : 0 ≤ s ∧ s ≤ 31 := by simpa [isSet] using hs
  obtain ⟨i0, i1⟩ : 0 ≤ i ∧ i ≤ 4 := by simpa [isOne] using hi
  have h := with_fin ⟨s.toNat, by omega⟩ ⟨i.toNat, by omega⟩
  have e1 : ((s.toNat : Nat) : Int) = s := by omega
  have e2 : ((i.toNat : Nat) : Int) = i := by omega
  simp only [e1, e2] at h
  exact ⟨h.1, h.2.2⟩
theorem with_none {s i : Int} (h : (isSet s && isOne i) = false) : withS s i = -1 := by
  unfold withS
  rw [if_neg (by rw [h]; simp)]
theorem size_in (s : Int) : -1 ≤ sizeOf s ∧ sizeOf s ≤ 5 := by
  unfold sizeOf
  split <;> omega

end M
end Go.Proofs.Ytnelgadfgeakjaa
