/- Proved: plain facts on what more than half have reached: one number alone is reached, and a falling list shows it at its middle; how an insertion keeps its order. No program is named here; no condition. -/
import Derived.Test.YtnelgadfgeakjaaMajDefs
namespace Go.Proofs.Ytnelgadfgeakjaa
open Go.RowKit
namespace M

/-- More than half are not below r, and not more than half above it. -/
def Reach (m : Nat) (l : List Int) (r : Int) : Prop := m ≤ l.countP (fun x => decide (r ≤ x)) ∧ l.countP (fun x => decide (r < x)) < m

theorem Reach.one {m : Nat} {l : List Int} {r s : Int} (h : Reach m l r) (k : Reach m l s) : r = s := by
  have key : ∀ a b : Int, a < b → l.countP (fun x => decide (b ≤ x)) ≤ l.countP (fun x => decide (a < x)) := fun a b hab =>
    List.countP_mono_left (fun x _ hx => by simp only [decide_eq_true_eq] at *; omega)
  rcases Int.lt_trichotomy r s with hlt | he | hlt
  · have := key r s hlt; have := h.2; have := k.1; omega
  · exact he
  · have := key s r hlt; have := k.2; have := h.1; omega

/-- The same numbers, told by how many of a kind there are. -/
def SameMany (l s : List Int) : Prop := s.length = l.length ∧ ∀ p : Int → Bool, s.countP p = l.countP p
theorem SameMany.refl (l : List Int) : SameMany l l := ⟨rfl, fun _ => rfl⟩
theorem SameMany.reach {m : Nat} {l s : List Int} {r : Int} (h : SameMany l s) (k : Reach m s r) : Reach m l r := by
  refine ⟨?_, ?_⟩
  · rw [← h.2]; exact k.1
  · rw [← h.2]; exact k.2
theorem SameMany.swap {l s : List Int} (h : SameMany l s) {i j : Nat} (hi : i < s.length) (hj : j < s.length) (hij : i ≠ j) :
    SameMany l ((s.set i s[j]).set j s[i]) := by
  refine ⟨by simp [h.1], fun p => ?_⟩
  rw [← h.2 p, List.countP_set (by simpa using hj), List.countP_set hi, List.getElem_set_ne hij]
  have key : ∀ (n : Nat) (hn : n < s.length), p s[n] = true → 0 < s.countP p := fun n hn hp => List.countP_pos_iff.2 ⟨s[n], List.getElem_mem hn, hp⟩
  have k1 := key i hi
  have k2 := key j hj
  by_cases h1 : p s[i] = true <;> by_cases h2 : p s[j] = true <;> simp only [h1, h2, if_true, if_false, Bool.false_eq_true] <;> first | omega | (have := k1 h1; omega) | (have := k2 h2; omega)

/-- Falling up to i, but that the one at k may stand too far back. -/
def FallsBut (s : List Int) (i k : Nat) : Prop := ∀ a b : Nat, a < b → b ≤ i → b ≠ k → ∀ (hb : b < s.length) (ha : a < s.length), s[b] ≤ s[a]
def Falls (s : List Int) (i : Nat) : Prop := ∀ a b : Nat, a < b → b < i → ∀ (hb : b < s.length) (ha : a < s.length), s[b] ≤ s[a]

theorem Falls.start {s : List Int} {i : Nat} (h : Falls s i) : FallsBut s i i := fun a b hab hbi hbk hb ha => h a b hab (by omega) hb ha
theorem FallsBut.first {s : List Int} {i : Nat} (h : FallsBut s i 0) : Falls s (i + 1) := fun a b hab hbi hb ha => h a b hab (by omega) (by omega) hb ha
theorem FallsBut.stands {s : List Int} {i k : Nat} (h : FallsBut s i k) (hk : 0 < k) (hki : k ≤ i) (hi : i < s.length) (hs : s[k]'(by omega) ≤ s[k - 1]'(by omega)) : Falls s (i + 1) := by
  intro a b hab hbi hb ha
  by_cases hbk : b = k
  · subst hbk
    by_cases hak : a = b - 1
    · subst hak; exact hs
    · exact Int.le_trans hs (h a (b - 1) (by omega) (by omega) (by omega) (by omega) ha)
  · exact h a b hab (by omega) hbk hb ha
theorem FallsBut.step {s : List Int} {i k : Nat} (h : FallsBut s i k) (hk : 0 < k) (hki : k ≤ i) (hi : i < s.length) (hs : s[k - 1]'(by omega) < s[k]'(by omega)) :
    FallsBut ((s.set k (s[k - 1]'(by omega))).set (k - 1) (s[k]'(by omega))) i (k - 1) := by
  intro a b hab hbi hbk hb ha
  simp only [List.length_set] at hb ha
  simp only [List.getElem_set]
  rw [if_neg (by omega : ¬ k - 1 = b)]
  by_cases hbk' : k = b
  · subst hbk'
    rw [if_pos rfl]
    by_cases hak : k - 1 = a
    · rw [if_pos hak]; omega
    · rw [if_neg hak, if_neg (by omega)]
      exact h a (k - 1) (by omega) (by omega) (by omega) (by omega) ha
  · rw [if_neg hbk']
    by_cases hak : k - 1 = a
    · rw [if_pos hak]
      exact h k b (by omega) hbi (by omega) hb (by omega)
    · rw [if_neg hak]
      by_cases hak' : k = a
      · rw [if_pos hak']
        exact h (k - 1) b (by omega) hbi (by omega) hb (by omega)
      · rw [if_neg hak']
        exact h a b hab hbi (by omega) hb ha

theorem Falls.mid3 {a b c : Int} (h : Falls [a, b, c] 3) : Reach 2 [a, b, c] b := by
  have h1 : b ≤ a := h 0 1 (by decide) (by decide) (by simp) (by simp)
  have h2 : c ≤ b := h 1 2 (by decide) (by decide) (by simp) (by simp)
  unfold Reach
  simp only [List.countP_cons, List.countP_nil, decide_eq_true_eq]
  repeat (first | split | omega)
theorem Falls.mid5 {a b c d e : Int} (h : Falls [a, b, c, d, e] 5) : Reach 3 [a, b, c, d, e] c := by
  have h1 : b ≤ a := h 0 1 (by decide) (by decide) (by simp) (by simp)
  have h2 : c ≤ b := h 1 2 (by decide) (by decide) (by simp) (by simp)
  have h3 : d ≤ c := h 2 3 (by decide) (by decide) (by simp) (by simp)
  have h4 : e ≤ d := h 3 4 (by decide) (by decide) (by simp) (by simp)
  unfold Reach
  simp only [List.countP_cons, List.countP_nil, decide_eq_true_eq]
  have e1 : c ≤ a := by omega
  have e2 : ¬ c < d := by omega
  have e3 : ¬ c < e := by omega
  have e4 : ¬ c < c := by omega
  have e5 : c ≤ c := by omega
  simp only [e1, h2, e5, e2, e3, e4, if_true, if_false]
  repeat (first | split | omega)
theorem Falls.at3 {s : List Int} (hs : s.length = 3) (h : Falls s 3) (h1 : 1 < s.length) : Reach 2 s s[1] := by
  match s, hs, h, h1 with
  | [_, _, _], _, h, _ => exact h.mid3
theorem Falls.at5 {s : List Int} (hs : s.length = 5) (h : Falls s 5) (h1 : 2 < s.length) : Reach 3 s s[2] := by
  match s, hs, h, h1 with
  | [_, _, _, _, _], _, h, _ => exact h.mid5

end M
end Go.Proofs.Ytnelgadfgeakjaa
