/- Proved: plain facts on numbers written in decimal digits, and read from them; no program is named here; no condition. -/
namespace Go.Proofs.Ytnelgadfgeakjaa
namespace M

/-- The digit d as a byte. -/
def dig (d : Nat) : UInt8 := (48 + d).toUInt8
theorem dig_toNat (d : Nat) (h : d < 10) : (dig d).toNat = 48 + d := by
  unfold dig; rw [Nat.toUInt8_eq, UInt8.toNat_ofNat_of_lt' (by simp only [UInt8.size]; omega)]

/-- The decimal digits of n, by fuel. -/
def digsF : Nat → Nat → List UInt8
  | 0, _ => []
  | f + 1, n => if n < 10 then [dig n] else digsF f (n / 10) ++ [dig (n % 10)]
def digs (n : Nat) : List UInt8 := digsF 20 n
/-- The same, nothing for 0. -/
def digs0 (n : Nat) : List UInt8 := if n = 0 then [] else digs n
/-- A number as it is written. -/
def intText (n : Int) : List UInt8 := if n < 0 then 45 :: digs n.natAbs else digs n.natAbs

theorem digsF_more : ∀ (f n : Nat), n < 10 ^ (f + 1) → digsF (f + 2) n = digsF (f + 1) n
  | 0, n, h => by
    have : n < 10 := by simpa using h
    simp [digsF, this]
  | f + 1, n, h => by
    have hd : n / 10 < 10 ^ (f + 1) := by rw [Nat.pow_succ] at h; omega
    have ih := digsF_more f (n / 10) hd
    by_cases h10 : n < 10
    · simp [h10, digsF]
    · have e1 : digsF (f + 1 + 2) n = digsF (f + 2) (n / 10) ++ [dig (n % 10)] := by rw [digsF, if_neg h10]
      have e2 : digsF (f + 1 + 1) n = digsF (f + 1) (n / 10) ++ [dig (n % 10)] := by rw [digsF, if_neg h10]
      rw [e1, e2, ih]

theorem digs_step (n : Nat) (h : n < 10 ^ 20) (h10 : ¬ n < 10) : digs n = digs (n / 10) ++ [dig (n % 10)] := by
  unfold digs
  rw [digsF, if_neg h10, ← digsF_more 18 (n / 10) (by omega)]

theorem digs_small (n : Nat) (h10 : n < 10) : digs n = [dig n] := by
  unfold digs; rw [digsF, if_pos h10]

theorem digs_last (n : Nat) (h : n < 10 ^ 20) : digs n = digs0 (n / 10) ++ [dig (n % 10)] := by
  unfold digs0
  by_cases h10 : n < 10
  · rw [digs_small n h10, if_pos (by omega), Nat.mod_eq_of_lt h10]; rfl
  · rw [digs_step n h h10, if_neg (by omega)]

theorem digs_ne (n : Nat) : digs n ≠ [] := by
  unfold digs digsF; split <;> simp

theorem digsF_length : ∀ (f n : Nat), (digsF f n).length ≤ f
  | 0, _ => by simp [digsF]
  | f + 1, n => by
    unfold digsF; split
    · simp
    · have := digsF_length f (n / 10); simp; omega

theorem digs_length (n : Nat) : (digs n).length ≤ 20 := digsF_length 20 n
theorem intText_length (n : Int) : (intText n).length ≤ 21 := by
  have := digs_length n.natAbs; unfold intText; split <;> simp <;> omega

/-- What has been written, and what is left, of N: the head of each round. -/
def Irel (N m : Nat) (l : List UInt8) : Prop := l.length ≤ 20 ∧ (l = [] ∧ m = N ∨ l ≠ [] ∧ digs0 m ++ l = digs N)
theorem Irel_start (N : Nat) : Irel N N [] := ⟨by simp, .inl ⟨rfl, rfl⟩⟩
theorem Irel_step {N m : Nat} {l : List UInt8} (hN : N < 10 ^ 20) (hm : m ≤ N) (h : Irel N m l) (hgo : l = [] ∨ m ≠ 0) : Irel N (m / 10) (dig (m % 10) :: l) := by
  have key : digs0 (m / 10) ++ dig (m % 10) :: l = digs N := by
    rcases h.2 with ⟨rfl, rfl⟩ | ⟨hl, h⟩
    · rw [digs_last m hN]
    · have hm0 : m ≠ 0 := by rcases hgo with h1 | h1; exact absurd h1 hl; exact h1
      have e : digs0 m = digs m := by unfold digs0; rw [if_neg hm0]
      rw [← h, e, digs_last m (by omega)]; simp
  refine ⟨?_, .inr ⟨by simp, key⟩⟩
  have hl := digs_length N
  rw [← key] at hl
  simp at hl ⊢; omega
theorem Irel_end {N : Nat} {l : List UInt8} (h : Irel N 0 l) (hl : l ≠ []) : l = digs N := by
  rcases h.2 with ⟨h1, _⟩ | ⟨_, h⟩
  · exact absurd h1 hl
  · simpa [digs0] using h

/-- Is c a digit? -/
def isDig (c : UInt8) : Bool := decide (48 ≤ c.toNat) && decide (c.toNat ≤ 57)
def valOf (l : List UInt8) : Nat := l.foldl (fun n c => n * 10 + (c.toNat - 48)) 0
theorem valOf_snoc (l : List UInt8) (c : UInt8) : valOf (l ++ [c]) = valOf l * 10 + (c.toNat - 48) := by simp [valOf]
theorem valOf_aux : ∀ (l : List UInt8) (a : Nat), l.all isDig = true → l.foldl (fun n c => n * 10 + (c.toNat - 48)) a < (a + 1) * 10 ^ l.length
  | [], a, _ => by simp
  | c :: r, a, h => by
    simp only [List.all_cons, Bool.and_eq_true, isDig, decide_eq_true_eq] at h
    have ih := valOf_aux r (a * 10 + (c.toNat - 48)) h.2
    rw [List.foldl_cons, List.length_cons, Nat.pow_succ]
    refine Nat.lt_of_lt_of_le ih ?_
    rw [Nat.mul_comm (10 ^ r.length) 10, ← Nat.mul_assoc]
    exact Nat.mul_le_mul_right _ (by omega)
theorem valOf_lt (l : List UInt8) (h : l.all isDig = true) : valOf l < 10 ^ l.length := by
  have := valOf_aux l 0 h; simpa [valOf] using this

/-- The digits of a number: 1 to 9 of them, no nought ahead of others. -/
def natRead (l : List UInt8) : Option Nat :=
  if l.length < 1 ∨ 9 < l.length ∨ l.all isDig = false ∨ (l.head?.map UInt8.toNat = some 48 ∧ 1 < l.length) then none else some (valOf l)
/-- A number as it is read: with a sign ahead below 0. -/
def intRead (l : List UInt8) : Option Int :=
  if l.head?.map UInt8.toNat = some 45 then
    (if (l.drop 1).head?.map UInt8.toNat = some 48 then none else (natRead (l.drop 1)).map fun (n : Nat) => -(n : Int))
  else (natRead l).map fun (n : Nat) => (n : Int)
/-- As a pair: the number and true, or 0 and false. -/
def rd (l : List UInt8) : Int × Bool := match intRead l with
  | some n => (n, true)
  | none => (0, false)

theorem natRead_none (l : List UInt8) (h : l.length < 1 ∨ 9 < l.length ∨ l.all isDig = false ∨ (l.head?.map UInt8.toNat = some 48 ∧ 1 < l.length)) : natRead l = none := by
  unfold natRead; rw [if_pos h]
theorem natRead_some (l : List UInt8) (h1 : 1 ≤ l.length) (h9 : l.length ≤ 9) (hd : l.all isDig = true) (h0 : ¬ (l.head?.map UInt8.toNat = some 48 ∧ 1 < l.length)) : natRead l = some (valOf l) := by
  unfold natRead; rw [if_neg]
  rintro (h | h | h | h)
  · omega
  · omega
  · rw [hd] at h; cases h
  · exact h0 h
theorem rd_pos_none (l : List UInt8) (hs : l.head?.map UInt8.toNat ≠ some 45) (h : natRead l = none) : rd l = (0, false) := by
  unfold rd intRead; rw [if_neg hs, h]; rfl
theorem rd_pos_some (l : List UInt8) (hs : l.head?.map UInt8.toNat ≠ some 45) {n : Nat} (h : natRead l = some n) : rd l = ((n : Int), true) := by
  unfold rd intRead; rw [if_neg hs, h]; rfl
theorem rd_neg_none (l : List UInt8) (hs : l.head?.map UInt8.toNat = some 45) (h : (l.drop 1).head?.map UInt8.toNat = some 48 ∨ natRead (l.drop 1) = none) : rd l = (0, false) := by
  unfold rd intRead; rw [if_pos hs]
  by_cases h0 : (l.drop 1).head?.map UInt8.toNat = some 48
  · rw [if_pos h0]
  · rw [if_neg h0, h.resolve_left h0]; rfl
theorem rd_neg_some (l : List UInt8) (hs : l.head?.map UInt8.toNat = some 45) (h0 : (l.drop 1).head?.map UInt8.toNat ≠ some 48) {n : Nat} (h : natRead (l.drop 1) = some n) : rd l = (-(n : Int), true) := by
  unfold rd intRead; rw [if_pos hs, if_neg h0, h]; rfl

theorem head_at (s : ByteArray) (i : Nat) (h : i < s.size) : (s.data.toList.drop i).head?.map UInt8.toNat = some s[i].toNat := by
  rw [List.head?_drop, List.getElem?_eq_getElem (by simpa using h)]; rfl
theorem valOf_take9 (r : List UInt8) (j : Nat) (h : (r.take j).all isDig = true) : valOf (r.take j) < 10 ^ j := by
  have h1 := valOf_lt (r.take j) h
  exact Nat.lt_of_lt_of_le h1 (Nat.pow_le_pow_right (by omega) (by simp; omega))
theorem take_drop_snoc (s : ByteArray) (i j : Nat) (h : j + i < s.size) : (s.data.toList.drop i).take (j + 1) = (s.data.toList.drop i).take j ++ [s[j + i]] := by
  rw [List.take_succ_eq_append_getElem (by simp; omega)]
  congr 1
  simp [Nat.add_comm i j]
  rfl
theorem nodig (s : ByteArray) (i j : Nat) (h : j + i < s.size) (hd : isDig s[j + i] = false) : (s.data.toList.drop i).all isDig = false := by
  rw [← List.take_append_drop (j + 1) (s.data.toList.drop i), take_drop_snoc s i j h]
  simp [hd]
theorem take_all (s : ByteArray) (i j : Nat) (h : s.size ≤ j + i) : (s.data.toList.drop i).take j = s.data.toList.drop i := by
  rw [List.take_of_length_le (by simp; omega)]
/-- The number that the j digits from place i on make. -/
def valAt (s : ByteArray) (i j : Nat) : Nat := valOf ((s.data.toList.drop i).take j)
def digAt (s : ByteArray) (i j : Nat) : Bool := ((s.data.toList.drop i).take j).all isDig
theorem len0 (s : ByteArray) : s.data.toList.length = s.size := by simp
theorem drop_len (s : ByteArray) (i : Nat) : (s.data.toList.drop i).length = s.size - i := by simp
end M
end Go.Proofs.Ytnelgadfgeakjaa
