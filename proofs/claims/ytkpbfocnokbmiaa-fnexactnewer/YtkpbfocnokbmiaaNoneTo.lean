/- Proved: plain facts on the first place of a list at which something is so; no program is named here; no condition. -/
import Derived.Test.YtkpbfocnokbmiaaCore
namespace Go.Proofs.Ytkpbfocnokbmiaa
def GNoneTo {α : Type} (p : α → Bool) (l : List α) (j : Nat) : Prop := ∀ (i : Nat) (h : i < l.length), i < j → p l[i] = false
theorem GNoneTo.zero {α : Type} (p : α → Bool) (l : List α) : GNoneTo p l 0 := fun _ _ h => absurd h (by omega)
theorem GNoneTo.next {α : Type} {p : α → Bool} {l : List α} {j : Nat} (h : GNoneTo p l j) (hj : j < l.length) (hp : p l[j] = false) : GNoneTo p l (j + 1) := fun i hi hij => by
  by_cases e : i = j
  · subst e; exact hp
  · exact h i hi (by omega)
theorem GNoneTo.hit {α : Type} {p : α → Bool} {l : List α} {j : Nat} (h : GNoneTo p l j) (hj : j < l.length) (hp : p l[j] = true) : l.findIdx p = j :=
  (List.findIdx_eq hj).2 ⟨hp, fun i hi => by simpa using h i (by omega) hi⟩
theorem GNoneTo.all {α : Type} {p : α → Bool} {l : List α} (h : GNoneTo p l l.length) : l.findIdx p = l.length :=
  List.findIdx_eq_length.2 fun x hx => by
    obtain ⟨i, hi, rfl⟩ := List.mem_iff_getElem.1 hx
    simp [h i hi hi]
theorem all_findIdxG {α : Type} (q : α → Bool) (l : List α) : ((l.findIdx (fun c => !q c) : Int) == (l.length : Int)) = l.all q := by
  rcases h : l.all q with _ | _
  · have : ¬ l.findIdx (fun c => !q c) = l.length := fun e => by
      have h1 := List.findIdx_eq_length.1 e
      have h2 : l.all q = true := List.all_eq_true.2 fun x hx => by simpa using h1 x hx
      rw [h] at h2; cases h2
    simp only [beq_eq_false_iff_ne]
    omega
  · have : l.findIdx (fun c => !q c) = l.length := List.findIdx_eq_length.2 fun x hx => by simp [List.all_eq_true.1 h x hx]
    rw [this]; simp
/-- Each of the first j is ahead of the next. -/
def GRisesTo {α : Type} (lt : α → α → Bool) (l : List α) (j : Nat) : Prop := ∀ (i : Nat) (h : i + 1 < l.length), i + 1 < j → lt l[i] l[i + 1] = true
def grises {α : Type} (lt : α → α → Bool) : List α → Bool
  | a :: b :: l => lt a b && grises lt (b :: l)
  | _ => true
theorem grises_iff {α : Type} (lt : α → α → Bool) : ∀ l : List α, grises lt l = true ↔ ∀ (i : Nat) (h : i + 1 < l.length), lt l[i] l[i + 1] = true
  | [] => by simp [grises]
  | [a] => by simp [grises]
  | a :: b :: l => by
    have ih := grises_iff lt (b :: l)
    simp only [grises, Bool.and_eq_true, ih]
    constructor
    · rintro ⟨h1, h2⟩ i hi
      cases i with
      | zero => exact h1
      | succ i => exact h2 i (by simpa using hi)
    · intro h
      exact ⟨h 0 (by simp), fun i hi => h (i + 1) (by simpa using hi)⟩
theorem GRisesTo.one {α : Type} (lt : α → α → Bool) (l : List α) : GRisesTo lt l 1 := fun _ _ h => absurd h (by omega)
theorem GRisesTo.next {α : Type} {lt : α → α → Bool} {l : List α} {k : Nat} (h : GRisesTo lt l (k + 1)) (hk : k + 1 < l.length) (ho : lt l[k] l[k + 1] = true) : GRisesTo lt l (k + 2) := fun i hi hij => by
  by_cases e : i = k
  · subst e; exact ho
  · exact h i hi (by omega)
theorem GRisesTo.all {α : Type} {lt : α → α → Bool} {l : List α} {j : Nat} (h : GRisesTo lt l j) (hj : l.length ≤ j) : grises lt l = true := (grises_iff lt l).2 fun i hi => h i hi (by omega)
theorem grises_not {α : Type} {lt : α → α → Bool} {l : List α} {k : Nat} (hk : k + 1 < l.length) (ho : lt l[k] l[k + 1] = false) : grises lt l = false := by
  rcases hc : grises lt l with _ | _
  · rfl
  · have := (grises_iff lt l).1 hc k hk
    rw [ho] at this; cases this
end Go.Proofs.Ytkpbfocnokbmiaa
