/- Proved: a number that is read is written so, and what is written is read; likewise an edition; no program is named here; no condition. -/
import Derived.Test.YtnelgadfgeakjaaEdMath
namespace Go.Proofs.Ytnelgadfgeakjaa
namespace M

theorem isDig_dig (d : Nat) (h : d < 10) : isDig (dig d) = true := by
  unfold isDig; rw [dig_toNat d h]; simp; omega
theorem dig_of (c : UInt8) (h : isDig c = true) : dig (c.toNat - 48) = c := by
  simp [isDig] at h
  apply UInt8.toNat_inj.1
  rw [dig_toNat _ (by omega)]; omega

theorem digsF_all : ∀ (f n : Nat), (digsF f n).all isDig = true
  | 0, _ => by simp [digsF]
  | f + 1, n => by
    unfold digsF; split
    · rename_i h; simp [isDig_dig n h]
    · rw [List.all_append, digsF_all f (n / 10)]; simp [isDig_dig (n % 10) (by omega)]
theorem digs_all (n : Nat) : (digs n).all isDig = true := digsF_all 20 n

theorem digsF_val : ∀ (f n : Nat), n < 10 ^ f → valOf (digsF f n) = n
  | 0, n, h => by have : n = 0 := by simpa using h
                  subst this; rfl
  | f + 1, n, h => by
    unfold digsF; split
    · rename_i h10
      simp [valOf, dig_toNat n h10]
    · rw [valOf_snoc, digsF_val f (n / 10) (by rw [Nat.pow_succ] at h; omega), dig_toNat _ (by omega)]; omega
theorem digs_val (n : Nat) (h : n < 10 ^ 20) : valOf (digs n) = n := digsF_val 20 n h

theorem digsF_head : ∀ (f n : Nat), n < 10 ^ f → 10 ≤ n → ∃ c r, digsF f n = c :: r ∧ 48 < c.toNat
  | 0, n, h, h1 => by have : n = 0 := by simpa using h
                      omega
  | f + 1, n, h, h1 => by
    unfold digsF
    rw [if_neg (by omega)]
    by_cases h2 : 10 ≤ n / 10
    · obtain ⟨c, r, e, hc⟩ := digsF_head f (n / 10) (by rw [Nat.pow_succ] at h; omega) h2
      exact ⟨c, r ++ [dig (n % 10)], by rw [e]; rfl, hc⟩
    · cases f with
      | zero => simp at h; omega
      | succ f =>
        refine ⟨dig (n / 10), [dig (n % 10)], ?_, ?_⟩
        · unfold digsF; rw [if_pos (by omega)]; rfl
        · rw [dig_toNat _ (by omega)]; omega

theorem digsF_len : ∀ (f n k : Nat), n < 10 ^ k → 1 ≤ k → (digsF f n).length ≤ k
  | 0, _, _, _, _ => by simp [digsF]
  | f + 1, n, k, h, hk => by
    unfold digsF; split
    · simp; omega
    · rename_i h10
      obtain ⟨j, rfl⟩ : ∃ j, k = j + 1 := ⟨k - 1, by omega⟩
      have hj : 1 ≤ j := by
        rcases Nat.eq_zero_or_pos j with rfl | hj
        · simp at h; omega
        · exact hj
      have := digsF_len f (n / 10) j (by rw [Nat.pow_succ] at h; omega) hj
      simp; omega

theorem natRead_digs (n : Nat) (h : n < 10 ^ 9) : natRead (digs n) = some n := by
  have h20 : n < 10 ^ 20 := Nat.lt_trans h (by decide)
  have hl := digsF_len 20 n 9 h (by decide)
  have hne := digs_ne n
  rw [natRead_some (digs n) (by have : (digs n).length ≠ 0 := fun e => hne (List.eq_nil_of_length_eq_zero e)
                                omega) hl (digs_all n) ?_, digs_val n h20]
  rintro ⟨e1, e2⟩
  by_cases h10 : n < 10
  · rw [digs_small n h10] at e2; simp at e2
  · obtain ⟨c, r, e, hc⟩ := digsF_head 20 n h20 (by omega)
    unfold digs at e1
    rw [e] at e1
    simp at e1; omega

theorem digs_of : ∀ (k : Nat) (l : List UInt8), l.length = k → l ≠ [] → l.all isDig = true → l.length ≤ 20 → ¬ (l.head?.map UInt8.toNat = some 48 ∧ 1 < l.length) → digs (valOf l) = l ∧ (1 < l.length → 0 < valOf l)
  | 0, l, hk, hne, _, _, _ => absurd (List.eq_nil_of_length_eq_zero hk) hne
  | k + 1, l, hk, hne, hd, h20, hz => by
    have hlt := valOf_lt l hd
    have hlt' : valOf l < 10 ^ 20 := Nat.lt_of_lt_of_le hlt (Nat.pow_le_pow_right (by omega) h20)
    obtain ⟨r, c, rfl⟩ : ∃ r c, l = r ++ [c] := ⟨l.dropLast, l.getLast hne, (List.dropLast_concat_getLast hne).symm⟩
    rw [List.all_append] at hd
    simp only [List.all_cons, List.all_nil, Bool.and_true, Bool.and_eq_true] at hd
    have hc := hd.2
    have hc' := hc
    simp [isDig] at hc'
    rw [valOf_snoc] at hlt' ⊢
    have e1 : (valOf r * 10 + (c.toNat - 48)) / 10 = valOf r := by omega
    have e2 : (valOf r * 10 + (c.toNat - 48)) % 10 = c.toNat - 48 := by omega
    rw [digs_last _ hlt', e1, e2, dig_of c hc]
    rcases r with _ | ⟨x, r⟩
    · exact ⟨rfl, by simp⟩
    · have ih := digs_of k (x :: r) (by simpa using hk) (by simp) hd.1 (by simp at h20 ⊢; omega) (by
        rintro ⟨a, b⟩; exact hz ⟨by simpa using a, by simp⟩)
      have hpos : 0 < valOf (x :: r) := by
        rcases r with _ | ⟨y, r⟩
        · have hx : isDig x = true := by simpa using hd.1
          simp [isDig] at hx
          have hx2 : x.toNat ≠ 48 := fun e => hz ⟨by simp [e], by simp⟩
          simp [valOf]; omega
        · exact ih.2 (by simp)
      refine ⟨?_, fun _ => by omega⟩
      unfold digs0
      rw [if_neg (by omega), ih.1]

theorem natRead_digs_of {l : List UInt8} {n : Nat} (h : natRead l = some n) : l = digs n := by
  unfold natRead at h
  split at h
  · cases h
  · rename_i hh
    injection h with h
    simp only [not_or] at hh
    obtain ⟨h1, h2, h3, h4⟩ := hh
    have hne : l ≠ [] := fun e => by rw [e] at h1; simp at h1
    rw [← h]
    exact (digs_of l.length l rfl hne (by simpa using h3) (by omega) h4).1.symm
theorem natRead_lt {l : List UInt8} {n : Nat} (h : natRead l = some n) : n < 10 ^ 9 := by
  unfold natRead at h
  split at h
  · cases h
  · rename_i hh
    injection h with h
    simp only [not_or] at hh
    obtain ⟨h1, h2, h3, h4⟩ := hh
    have := valOf_lt l (by simpa using h3)
    rw [← h]
    exact Nat.lt_of_lt_of_le this (Nat.pow_le_pow_right (by omega) (by omega))

theorem head_not_sign (n : Nat) : (digs n).head?.map UInt8.toNat ≠ some 45 := by
  have h := digs_all n
  cases e : digs n with
  | nil => simp
  | cons c r =>
    rw [e] at h
    simp [isDig] at h
    simp; omega

/-- A number that is not below 0 is read from what is written. -/
theorem rd_digs (n : Nat) (h : n < 10 ^ 9) : rd (digs n) = ((n : Int), true) := rd_pos_some _ (head_not_sign n) (natRead_digs n h)
/-- What is read is written so. -/
theorem rd_text {l : List UInt8} (h : (rd l).2 = true) : l = intText (rd l).1 := by
  unfold rd at h ⊢
  cases e : intRead l with
  | none => rw [e] at h; cases h
  | some n =>
    unfold intRead at e
    show l = intText n
    split at e
    · rename_i hs
      split at e
      · cases e
      · rename_i h0
        obtain ⟨m, hm, rfl⟩ := Option.map_eq_some_iff.1 e
        have hd := natRead_digs_of hm
        have hm0 : m ≠ 0 := by
          rintro rfl
          rw [hd] at h0
          exact h0 rfl
        cases l with
        | nil => simp at hs
        | cons c r =>
          have hc : c = 45 := by apply UInt8.toNat_inj.1; simpa using hs
          have hr : r = digs m := by simpa using hd
          unfold intText
          rw [if_pos (by omega), hc, hr]; simp
    · obtain ⟨m, hm, rfl⟩ := Option.map_eq_some_iff.1 e
      unfold intText
      rw [if_neg (by omega)]
      exact natRead_digs_of hm
end M
end Go.Proofs.Ytnelgadfgeakjaa
