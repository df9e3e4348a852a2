/- Proved: plain facts on numbers in a heap (a list in which none is greater than the one above it): what a swap upwards, a swap downwards and the taking of the first one leave; no program is named here; no condition. -/
import Derived.Test.YtnelgadfgeakjaaReachLaw
namespace Go.Proofs.Ytnelgadfgeakjaa
open Go.RowKit
namespace M

def gat (s : List Int) (j : Nat) : Int := s.getD j 0
theorem gat_lt {s : List Int} {j : Nat} (h : j < s.length) : gat s j = s[j] := by simp [gat, h]
theorem gat_some {s : List Int} {j : Nat} (h : j < s.length) : s[j]? = some (gat s j) := by rw [gat_lt h]; exact List.getElem?_eq_getElem h
def swp (s : List Int) (i k : Nat) : List Int := (s.set i (gat s k)).set k (gat s i)
theorem swp_len (s : List Int) (i k : Nat) : (swp s i k).length = s.length := by simp [swp]
theorem gat_set {s : List Int} {i j : Nat} {x : Int} (hi : i < s.length) : gat (s.set i x) j = if i = j then x else gat s j := by
  unfold gat
  rw [List.getD_eq_getElem?_getD, List.getD_eq_getElem?_getD, List.getElem?_set]
  by_cases h : i = j
  · subst h; simp [hi]
  · simp [h]
theorem gat_swp {s : List Int} {i k j : Nat} (hi : i < s.length) (hk : k < s.length) : gat (swp s i k) j = if k = j then gat s i else if i = j then gat s k else gat s j := by
  unfold swp
  rw [gat_set (by simpa using hk)]
  split
  · rfl
  · rw [gat_set hi]
theorem swp_many {s : List Int} {i k : Nat} (hi : i < s.length) (hk : k < s.length) (hik : i ≠ k) (p : Int → Bool) : (swp s i k).countP p = s.countP p := by
  have h := (SameMany.refl s).swap hi hk hik
  have := h.2 p
  unfold swp
  rw [gat_lt hi, gat_lt hk]
  exact this

def Hp (s : List Int) (n : Nat) : Prop := ∀ j, 0 < j → j < n → gat s j ≤ gat s ((j - 1) / 2)
def HpUp (s : List Int) (n k : Nat) : Prop := (∀ j, 0 < j → j < n → j ≠ k → gat s j ≤ gat s ((j - 1) / 2)) ∧ (∀ j, 0 < j → j < n → (j - 1) / 2 = k → 0 < k → gat s j ≤ gat s ((k - 1) / 2))
def HpDown (s : List Int) (n k : Nat) : Prop := (∀ j, 0 < j → j < n → (j - 1) / 2 ≠ k → gat s j ≤ gat s ((j - 1) / 2)) ∧ (∀ j, 0 < j → j < n → (j - 1) / 2 = k → 0 < k → gat s j ≤ gat s ((k - 1) / 2))

theorem HpUp.first {s : List Int} {n : Nat} (h : HpUp s n 0) : Hp s n := fun j h0 hn => h.1 j h0 hn (by omega)
theorem HpUp.stands {s : List Int} {n k : Nat} (h : HpUp s n k) (hs : gat s k ≤ gat s ((k - 1) / 2)) : Hp s n := fun j h0 hn => by
  by_cases hj : j = k
  · subst hj; exact hs
  · exact h.1 j h0 hn hj
theorem HpUp.step {s : List Int} {n k : Nat} (h : HpUp s n k) (hk : 0 < k) (hkn : k < n) (hn : n ≤ s.length) (hs : gat s ((k - 1) / 2) < gat s k) : HpUp (swp s ((k - 1) / 2) k) n ((k - 1) / 2) := by
  obtain ⟨p, hp⟩ : ∃ p, (k - 1) / 2 = p := ⟨_, rfl⟩
  rw [hp] at hs ⊢
  have hpk : p < k := by omega
  have G : ∀ j, gat (swp s p k) j = if k = j then gat s p else if p = j then gat s k else gat s j := fun j => gat_swp (by omega) (by omega)
  refine ⟨fun j h0 hj hne => ?_, fun j h0 hj hq hp0 => ?_⟩
  · rw [G, G]
    by_cases hjk : k = j
    · subst hjk
      rw [if_pos rfl, hp, if_neg (by omega), if_pos rfl]; omega
    · rw [if_neg hjk, if_neg (by omega)]
      by_cases hqk : k = (j - 1) / 2
      · rw [if_pos hqk]
        have := h.2 j h0 hj hqk.symm hk
        rwa [hp] at this
      · rw [if_neg hqk]
        have h1 := h.1 j h0 hj (by omega)
        by_cases hqp : p = (j - 1) / 2
        · rw [if_pos hqp]; rw [← hqp] at h1; omega
        · rw [if_neg hqp]; exact h1
  · rw [G, G]
    have hgp := h.1 p (by omega) (by omega) (by omega)
    rw [if_neg (by omega : ¬ k = (p - 1) / 2), if_neg (by omega : ¬ p = (p - 1) / 2)]
    by_cases hjk : k = j
    · rw [if_pos hjk]; exact hgp
    · rw [if_neg hjk, if_neg (by omega)]
      have h1 := h.1 j h0 hj (by omega)
      rw [hq] at h1; omega
theorem HpDown.step {s : List Int} {n k c : Nat} (h : HpDown s n k) (hc0 : 0 < c) (hcn : c < n) (hck : (c - 1) / 2 = k) (hn : n ≤ s.length) (hs : gat s k < gat s c) (hg : ∀ j, 0 < j → j < n → (j - 1) / 2 = k → gat s j ≤ gat s c) : HpDown (swp s k c) n c := by
  have hkc : k < c := by omega
  have G : ∀ j, gat (swp s k c) j = if c = j then gat s k else if k = j then gat s c else gat s j := fun j => gat_swp (by omega) (by omega)
  refine ⟨fun j h0 hj hne => ?_, fun j h0 hj hq hp0 => ?_⟩
  · rw [G, G]
    rw [if_neg (by omega : ¬ c = (j - 1) / 2)]
    by_cases hjc : c = j
    · subst hjc
      rw [if_pos rfl, if_pos hck.symm]; omega
    · rw [if_neg hjc]
      by_cases hjk : k = j
      · subst hjk
        rw [if_pos rfl, if_neg (by omega)]
        exact h.2 c hc0 hcn hck h0
      · rw [if_neg hjk]
        by_cases hqk : k = (j - 1) / 2
        · rw [if_pos hqk]; exact hg j h0 hj hqk.symm
        · rw [if_neg hqk]; exact h.1 j h0 hj (by omega)
  · rw [G, G, if_neg (by omega : ¬ c = j), if_neg (by omega : ¬ k = j), hck, if_neg (by omega), if_pos rfl]
    have := h.1 j h0 hj (by omega)
    rwa [hq] at this
theorem HpDown.stands {s : List Int} {n k : Nat} (h : HpDown s n k) (hg : ∀ j, 0 < j → j < n → (j - 1) / 2 = k → gat s j ≤ gat s k) : Hp s n := fun j h0 hj => by
  by_cases hq : (j - 1) / 2 = k
  · rw [hq]; exact hg j h0 hj hq
  · exact h.1 j h0 hj hq
/-- The first and the last one are exchanged. -/
theorem Hp.taken {s : List Int} {n : Nat} (h : Hp s (n + 1)) (hn : n + 1 ≤ s.length) : HpDown (swp s 0 n) n 0 := by
  refine ⟨fun j h0 hj hne => ?_, fun j h0 hj hq hp0 => by omega⟩
  rw [gat_swp (by omega) (by omega), gat_swp (by omega) (by omega), if_neg (by omega), if_neg (by omega), if_neg (by omega), if_neg (by omega)]
  exact h j h0 (by omega)
theorem Hp.first {s : List Int} {n : Nat} (h : Hp s n) : ∀ j, j < n → gat s j ≤ gat s 0 := fun j => by
  induction j using Nat.strongRecOn with
  | _ j ih =>
    intro hj
    by_cases h0 : j = 0
    · subst h0; exact Int.le_refl _
    · exact Int.le_trans (h j (by omega) hj) (ih _ (by omega) (by omega))
theorem Hp.mem {s : List Int} (h : Hp s s.length) : ∀ x ∈ s, x ≤ gat s 0 := fun x hx => by
  obtain ⟨j, hj, rfl⟩ := List.getElem_of_mem hx
  have := h.first j hj
  rwa [gat_lt hj] at this
theorem Hp.more {s : List Int} {n : Nat} (h : Hp s n) (x : Int) (hn : n = s.length) : HpUp (s ++ [x]) (n + 1) n := by
  have G : ∀ j, j < n → gat (s ++ [x]) j = gat s j := fun j hj => by
    unfold gat; rw [List.getD_eq_getElem?_getD, List.getD_eq_getElem?_getD, List.getElem?_append_left (by omega)]
  refine ⟨fun j h0 hj hne => ?_, fun j h0 hj hq hp0 => by omega⟩
  rw [G j (by omega), G _ (by omega)]
  exact h j h0 (by omega)
theorem gat_take {s : List Int} {n j : Nat} (h : j < n) : gat (s.take n) j = gat s j := by
  unfold gat; rw [List.getD_eq_getElem?_getD, List.getD_eq_getElem?_getD, List.getElem?_take, if_pos h]
theorem Hp.take {s : List Int} {n : Nat} (h : Hp s n) : Hp (s.take n) n := fun j h0 hj => by
  rw [gat_take hj, gat_take (by omega)]; exact h j h0 hj

/-- What is left and what was taken: the same numbers, and none that is left is greater than one that was taken. -/
def Left (l h q : List Int) : Prop := Hp h h.length ∧ (∀ p : Int → Bool, h.countP p + q.countP p = l.countP p) ∧ (∀ x ∈ q, gat h 0 ≤ x)
theorem Left.start {l h : List Int} (hh : Hp h h.length) (hm : ∀ p : Int → Bool, h.countP p = l.countP p) : Left l h [] := ⟨hh, fun p => by rw [hm p]; rfl, fun x hx => by simp at hx⟩
theorem Left.take {l h q g : List Int} (k : Left l h q) (hg : Hp g g.length) (hm : ∀ p : Int → Bool, h.countP p = g.countP p + [gat h 0].countP p) (h0 : 0 < g.length) : Left l g (gat h 0 :: q) := by
  have hle : gat g 0 ≤ gat h 0 := by
    have h1 : g[0] ∈ g := List.getElem_mem _
    rw [gat_lt h0]
    refine k.1.mem _ ?_
    have h2 : 0 < g.countP (fun x => x == g[0]) := List.countP_pos_iff.2 ⟨g[0], h1, by simp⟩
    have h3 := hm (fun x => x == g[0])
    obtain ⟨y, hy, he⟩ := List.countP_pos_iff.1 (show 0 < h.countP (fun x => x == g[0]) by omega)
    have : y = g[0] := by simpa using he
    rwa [this] at hy
  refine ⟨hg, fun p => ?_, fun x hx => ?_⟩
  · have h1 := hm p
    have h2 := k.2.1 p
    have h3 : (gat h 0 :: q).countP p = [gat h 0].countP p + q.countP p := by
      rw [show gat h 0 :: q = [gat h 0] ++ q from rfl, List.countP_append]
    omega
  · rcases List.mem_cons.1 hx with rfl | hx
    · exact hle
    · exact Int.le_trans hle (k.2.2 x hx)
theorem Left.reach {l h q : List Int} (k : Left l h q) (h0 : 0 < h.length) : Reach (q.length + 1) l (gat h 0) := by
  refine ⟨?_, ?_⟩
  · rw [← k.2.1]
    have h1 : 0 < h.countP (fun x => decide (gat h 0 ≤ x)) := List.countP_pos_iff.2 ⟨h[0], List.getElem_mem _, by rw [gat_lt h0]; simp⟩
    have h2 : q.countP (fun x => decide (gat h 0 ≤ x)) = q.length := List.countP_eq_length.2 fun x hx => by simpa using k.2.2 x hx
    omega
  · rw [← k.2.1]
    have h1 : h.countP (fun x => decide (gat h 0 < x)) = 0 := List.countP_eq_zero.2 fun x hx => by have := k.1.mem x hx; simp; omega
    have h2 : q.countP (fun x => decide (gat h 0 < x)) ≤ q.length := List.countP_le_length
    omega

end M
end Go.Proofs.Ytnelgadfgeakjaa
