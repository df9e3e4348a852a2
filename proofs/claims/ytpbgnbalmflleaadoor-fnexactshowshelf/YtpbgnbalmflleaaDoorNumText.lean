/- Proved: the library's words on numbers in decimal digits and this document's are the same: what is written, what is read; no program is named here; no condition. -/
import Derived.Test.YtpbgnbalmflleaaDoorDigitsB
import Derived.Lib.ItoaNum
import Derived.Lib.ParseIntB
namespace Go.Proofs.YtpbgnbalmflleaaDoor
namespace M

theorem ofNat_dig (d : Nat) : UInt8.ofNat (48 + d) = dig d := rfl

theorem decDigits_eq : ∀ (f n : Nat), n < 10 ^ f → 1 ≤ f → Lib.decDigits n = digsF f n
  | 0, _, _, h => by omega
  | f + 1, n, hn, _ => by
    rw [Lib.decDigits]
    unfold digsF
    by_cases h : n < 10
    · rw [dif_pos h, if_pos h, ofNat_dig]
    · rw [dif_neg h, if_neg h, ofNat_dig]
      cases f with
      | zero => simp at hn; omega
      | succ f => rw [decDigits_eq (f + 1) (n / 10) (by rw [Nat.pow_succ] at hn; omega) (by omega)]

theorem itoa_eq (n : Int) (h0 : -9223372036854775808 ≤ n) (h1 : n ≤ 9223372036854775807) : Lib.itoa n = intText n := by
  have e : (10 : Nat) ^ 20 = 100000000000000000000 := by decide
  unfold Lib.itoa intText digs
  by_cases h : n < 0
  · rw [if_pos h, if_pos h, decDigits_eq 20 _ (by rw [e]; omega) (by omega)]
  · rw [if_neg h, if_neg h, decDigits_eq 20 _ (by rw [e]; omega) (by omega)]
    congr 1
    omega

/-- Digits are read to their number, where it is small. -/
theorem parseUintM_val : ∀ (l : List UInt8) (a : Nat), l.all isDig = true → (a + 1) * 10 ^ l.length ≤ 1000000000 → Lib.parseUintM 18446744073709551615 a l = .ok (l.foldl (fun n c => n * 10 + (c.toNat - 48)) a)
  | [], a, _, _ => rfl
  | c :: r, a, h, hb => by
    simp only [List.all_cons, Bool.and_eq_true, isDig, decide_eq_true_eq] at h
    rw [List.length_cons, Nat.pow_succ, Nat.mul_comm (10 ^ r.length) 10, ← Nat.mul_assoc] at hb
    have hp : 0 < 10 ^ r.length := Nat.pow_pos (by omega)
    have ha : (a + 1) * 10 ≤ 1000000000 := Nat.le_trans (Nat.le_mul_of_pos_right _ (by omega)) hb
    unfold Lib.parseUintM
    rw [if_pos h.1, if_neg (by omega), if_neg (by omega)]
    rw [parseUintM_val r (a * 10 + (c.toNat - 48)) h.2 (Nat.le_trans (Nat.mul_le_mul_right _ (by omega)) hb)]
    rfl

theorem parseUintB_digs (n : Nat) (h : n < 10 ^ 9) : Lib.parseUintB 64 (digs n) = .ok n := by
  unfold Lib.parseUintB
  rw [if_neg (digs_ne n)]
  have hl : (digs n).length ≤ 9 := digsF_len 20 n 9 h (by decide)
  have hp : (10 : Nat) ^ (digs n).length ≤ 10 ^ 9 := Nat.pow_le_pow_right (by omega) hl
  have e : (2 : Nat) ^ 64 - 1 = 18446744073709551615 := by decide
  rw [e, parseUintM_val (digs n) 0 (digs_all n) (by omega)]
  exact congrArg _ (digs_val n (Nat.lt_trans h (by decide)))

theorem digs_cons (n : Nat) : ∃ c r, digs n = c :: r ∧ isDig c = true := by
  have h := digs_all n
  cases e : digs n with
  | nil => exact absurd e (digs_ne n)
  | cons c r => rw [e] at h; simp at h; exact ⟨c, r, rfl, h.1⟩

theorem parse_text (n : Int) (h0 : -999999999 ≤ n) (h1 : n ≤ 999999999) : Lib.parseIntB 64 (intText n) = .ok n := by
  have hlt : n.natAbs < 10 ^ 9 := by have : (10 : Nat) ^ 9 = 1000000000 := by decide
                                     omega
  have hu := parseUintB_digs n.natAbs hlt
  have e63 : (2 : Nat) ^ (64 - 1) = 9223372036854775808 := by decide
  unfold intText
  by_cases h : n < 0
  · rw [if_pos h]
    unfold Lib.parseIntB
    simp only [show (45 : UInt8).toNat = 45 from rfl]
    rw [if_pos (by simp), hu]
    simp only [e63]
    rw [if_neg (by simp), if_neg (by omega)]
    simp
    omega
  · rw [if_neg h]
    obtain ⟨c, r, e, hc⟩ := digs_cons n.natAbs
    simp [isDig] at hc
    rw [e] at hu ⊢
    unfold Lib.parseIntB
    simp only []
    rw [if_neg (by omega), hu]
    simp only [e63]
    rw [if_neg (by omega), if_neg (by omega), if_neg (by omega)]
    congr 1
    omega

theorem rd_of_text (n : Int) (h0 : -999999999 ≤ n) (h1 : n ≤ 999999999) : rd (intText n) = (n, true) := by
  have hlt : n.natAbs < 10 ^ 9 := by have : (10 : Nat) ^ 9 = 1000000000 := by decide
                                     omega
  unfold intText
  by_cases h : n < 0
  · rw [if_pos h]
    rw [rd_neg_some (n := n.natAbs) (45 :: digs n.natAbs) rfl ?_ (natRead_digs _ hlt)]
    · simp; omega
    · show ((digs n.natAbs).head?.map UInt8.toNat) ≠ some 48
      by_cases h10 : n.natAbs < 10
      · rw [digs_small _ h10]; simp [dig_toNat _ h10]; omega
      · obtain ⟨c, r, e, hc⟩ := digsF_head 20 n.natAbs (Nat.lt_trans hlt (by decide)) (by omega)
        unfold digs; rw [e]; simp; omega
  · rw [if_neg h, rd_digs _ hlt]
    simp; omega

theorem rd_bound {l : List UInt8} (h : (rd l).2 = true) : -999999999 ≤ (rd l).1 ∧ (rd l).1 ≤ 999999999 := by
  unfold rd at h ⊢
  cases e : intRead l with
  | none => rw [e] at h; cases h
  | some n =>
    have e9 : (10 : Nat) ^ 9 = 1000000000 := by decide
    unfold intRead at e
    show -999999999 ≤ n ∧ n ≤ 999999999
    split at e
    · split at e
      · cases e
      · obtain ⟨m, hm, rfl⟩ := Option.map_eq_some_iff.1 e
        have := natRead_lt hm
        omega
    · obtain ⟨m, hm, rfl⟩ := Option.map_eq_some_iff.1 e
      have := natRead_lt hm
      omega

theorem rd_zero {l : List UInt8} (h : (rd l).2 = false) : rd l = (0, false) := by
  unfold rd at h ⊢
  cases e : intRead l with
  | none => rfl
  | some n => rw [e] at h; cases h

/-- What the program reads: what ParseInt makes of it, if that is small and is written so. -/
theorem rd_ok {l : List UInt8} {v : Int} (h0 : -999999999 ≤ v) (h1 : v ≤ 999999999) (ht : intText v = l) : rd l = (v, true) := by
  rw [← ht]; exact rd_of_text v h0 h1
theorem rd_not_ok {l : List UInt8} (hp : ∀ v, Lib.parseIntB 64 l = .ok v → -999999999 ≤ v → v ≤ 999999999 → intText v ≠ l) : rd l = (0, false) := by
  rcases h : (rd l).2 with _ | _
  · exact rd_zero h
  · exfalso
    have ht := rd_text h
    have hb := rd_bound h
    have hq := parse_text (rd l).1 hb.1 hb.2
    rw [← ht] at hq
    exact hp _ hq hb.1 hb.2 ht.symm
theorem rd_out {l : List UInt8} {v : Int} (hv : Lib.parseIntB 64 l = .ok v) (h : v < -999999999 ∨ 999999999 < v) : rd l = (0, false) := by
  refine rd_not_ok fun u hu a b => ?_
  have h2 := hv.symm.trans hu
  injection h2 with h2
  omega
theorem rd_other {l : List UInt8} {v : Int} (hv : Lib.parseIntB 64 l = .ok v) (h : intText v ≠ l) : rd l = (0, false) := by
  refine rd_not_ok fun u hu a b => ?_
  have h2 := hv.symm.trans hu
  injection h2 with h2
  rw [← h2]; exact h
end M
end Go.Proofs.YtpbgnbalmflleaaDoor
