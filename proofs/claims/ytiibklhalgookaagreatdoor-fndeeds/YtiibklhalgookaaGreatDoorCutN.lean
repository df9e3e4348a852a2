/- Proved: a text cut at the first two bytes of a kind, against the text cut at all of them; no program is named here; no condition. -/
import Derived.Test.YtiibklhalgookaaGreatDoorEdMathB
import Derived.Lib.Split
namespace Go.Proofs.YtiibklhalgookaaGreatDoor
namespace M

theorem index_cons (b c : UInt8) (r : List UInt8) : Lib.index (c :: r) [b] = if c = b then 0 else if Lib.index r [b] = -1 then -1 else Lib.index r [b] + 1 := by
  by_cases h : c = b
  · subst h
    simp [Lib.index]
  · have h' : ¬ b = c := fun e => h e.symm
    simp [Lib.index, h, h']
theorem index_nil (b : UInt8) : Lib.index [] [b] = -1 := by simp [Lib.index]

theorem index_not (b : UInt8) : ∀ l : List UInt8, b ∉ l → Lib.index l [b] = -1
  | [], _ => index_nil b
  | c :: r, h => by
    simp at h
    rw [index_cons, if_neg (fun e => h.1 e.symm), if_pos (index_not b r h.2)]
theorem index_at (b : UInt8) : ∀ a r : List UInt8, b ∉ a → Lib.index (a ++ b :: r) [b] = a.length
  | [], r, _ => by rw [List.nil_append, index_cons, if_pos rfl]; rfl
  | c :: a, r, h => by
    simp at h
    have ih := index_at b a r h.2
    rw [List.cons_append, index_cons, if_neg (fun e => h.1 e.symm), ih, if_neg (by omega)]
    simp
theorem cut_first (b : UInt8) (l : List UInt8) : b ∉ l ∨ ∃ a r, l = a ++ b :: r ∧ b ∉ a := by
  induction l with
  | nil => simp
  | cons c l ih =>
    by_cases h : c = b
    · exact .inr ⟨[], l, by rw [h]; rfl, by simp⟩
    · rcases ih with ih | ⟨a, r, e, ha⟩
      · exact .inl (by simp; exact ⟨fun e => h e.symm, ih⟩)
      · exact .inr ⟨c :: a, r, by rw [e]; rfl, by simp; exact ⟨fun e => h e.symm, ha⟩⟩

theorem splitK_not (b : UInt8) (k : Nat) (l : List UInt8) (h : b ∉ l) : Lib.splitK [b] 0 k l = [l] := by
  cases k with
  | zero => rfl
  | succ k => unfold Lib.splitK; rw [if_pos (by rw [index_not b l h]; rfl)]
theorem splitK_at (b : UInt8) (k : Nat) (a r : List UInt8) (h : b ∉ a) : Lib.splitK [b] 0 (k + 1) (a ++ b :: r) = a :: Lib.splitK [b] 0 k r := by
  rw [Lib.splitK, index_at b a r h, if_neg (by simp)]
  congr 1
  · simp
  · simp

/-- The three parts that the program cuts a text into, or fewer. -/
theorem cut3 (l : List UInt8) : (∃ a b c, l = a ++ 46 :: (b ++ 46 :: c) ∧ 46 ∉ a ∧ 46 ∉ b ∧ Lib.splitK [46] 0 (min 3 (l.length + 1) - 1) l = [a, b, c]) ∨ ((split 46 l).length ≠ 3 ∧ (Lib.splitK [46] 0 (min 3 (l.length + 1) - 1) l).length ≠ 3) := by
  rcases cut_first 46 l with h | ⟨a, r, rfl, ha⟩
  · exact .inr ⟨by rw [split_one 46 l h]; simp, by rw [splitK_not _ _ _ h]; simp⟩
  · rcases cut_first 46 r with h | ⟨b, c, rfl, hb⟩
    · refine .inr ⟨by rw [split_more 46 a r ha, split_one 46 r h]; simp, ?_⟩
      obtain ⟨k, hk⟩ : ∃ k, min 3 ((a ++ 46 :: r).length + 1) - 1 = k + 1 := ⟨min 3 ((a ++ 46 :: r).length + 1) - 2, by simp; omega⟩
      rw [hk, splitK_at 46 k a r ha, splitK_not _ _ _ h]; simp
    · refine .inl ⟨a, b, c, rfl, ha, hb, ?_⟩
      have hk : min 3 ((a ++ 46 :: (b ++ 46 :: c)).length + 1) - 1 = 2 := by simp; omega
      rw [hk, splitK_at 46 1 a _ ha, splitK_at 46 0 b c hb]; rfl

theorem rd_dot (c : List UInt8) (h : 46 ∈ c) : (rd c).2 = false := by
  rcases e : (rd c).2 with _ | _
  · rfl
  · exfalso
    have ht := rd_text e
    rw [ht] at h
    unfold intText at h
    split at h
    · simp at h
      exact digs_not _ 46 (by decide) h
    · exact digs_not _ 46 (by decide) h

theorem edRead_cut {l a b c : List UInt8} (hl : l = a ++ 46 :: (b ++ 46 :: c)) (ha : 46 ∉ a) (hb : 46 ∉ b) :
    edRead l = if (rd a).2 && (rd b).2 && (rd c).2 && edOk ⟨(rd a).1, (rd b).1, (rd c).1⟩ then (⟨(rd a).1, (rd b).1, (rd c).1⟩, true) else (⟨0, 0, 0⟩, false) := by
  have hs : split 46 l = a :: b :: split 46 c := by rw [hl, split_more 46 a _ ha, split_more 46 b c hb]
  by_cases hc : 46 ∈ c
  · rw [rd_dot c hc]
    have hn : (split 46 l).length ≠ 3 := by
      rw [hs]
      rcases cut_first 46 c with h | ⟨x, y, rfl, hx⟩
      · exact absurd hc h
      · rw [split_more 46 x y hx]
        intro e
        simp at e
        exact split_ne 46 y e
    unfold edRead
    split
    · rename_i p q t e
      rw [e] at hn; exact absurd rfl hn
    · simp [zeroEd]
  · rw [split_one 46 c hc] at hs
    unfold edRead
    rw [hs]
    rfl
end M
end Go.Proofs.YtiibklhalgookaaGreatDoor
