/- Proved, in parts: Proved: plain facts on lists of bytes, names and pages; no program is named here; no condition. Proved: plain facts on numbers written in decimal digits, and read from them; no program is named here; no condition. Proved: plain facts on a text cut at a byte; no program is named here; no condition. Proved: plain facts on editions; no program is named here; no condition. -/
namespace Go.Proofs.YteomdakohlikeaaGreat
namespace M

def smallI (n : Int) : Bool := decide (97 ≤ n) && decide (n ≤ 122)
def digitI (n : Int) : Bool := decide (48 ≤ n) && decide (n ≤ 57)
def small (c : UInt8) : Bool := smallI (c.toNat : Int)
def digit (c : UInt8) : Bool := digitI (c.toNat : Int)
def pageB (c : UInt8) : Bool := small c || digit c
def pageOk (l : List UInt8) : Bool := decide (l.length ≤ 12) && l.all pageB

theorem take_snoc (s : ByteArray) (k : Nat) (h : k < s.size) : s.data.toList.take (k + 1) = s.data.toList.take k ++ [s[k]] := by
  rw [List.take_succ_eq_append_getElem (by simpa using h)]; rfl

theorem drop_cons (s : ByteArray) (k : Nat) (h : k < s.size) : s.data.toList.drop k = s[k] :: s.data.toList.drop (k + 1) := by
  rw [List.drop_eq_getElem_cons (by simpa using h)]; rfl

theorem len_toList (s : ByteArray) : s.data.toList.length = s.size := by simp

theorem page_step_yes (s : ByteArray) (k : Nat) (h : k < s.size) (hb : pageB s[k] = true) (ha : (s.data.toList.take k).all pageB = true) :
    (s.data.toList.take (k + 1)).all pageB = true := by
  rw [take_snoc s k h, List.all_append, ha]; simp [hb]

theorem page_no (s : ByteArray) (k : Nat) (h : k < s.size) (hb : pageB s[k] = false) : pageOk s.data.toList = false := by
  unfold pageOk
  have : s.data.toList.all pageB = false := by
    rw [← List.take_append_drop k s.data.toList, List.all_append, drop_cons s k h]; simp [hb]
  rw [this]; simp

theorem page_all (s : ByteArray) (ha : (s.data.toList.take s.size).all pageB = true) : pageOk s.data.toList = decide (s.size ≤ 12) := by
  unfold pageOk
  rw [List.take_of_length_le (by simp)] at ha
  rw [ha]; simp

theorem page_long (s : ByteArray) (h : 12 < s.size) : pageOk s.data.toList = false := by
  unfold pageOk; simp; omega

/-- The two states of a name's reading: 'false' where a letter is wanted, 'true' behind a letter. -/
def nm : Bool → List UInt8 → Bool
  | false, [] => false
  | false, c :: r => small c && nm true r
  | true, [] => true
  | true, c :: r => if c.toNat = 45 then nm false r else small c && nm true r
def nameOk (l : List UInt8) : Bool := decide (l.length ≤ 8) && nm false l

theorem small_not_dash {c : UInt8} (h : small c = true) : c.toNat ≠ 45 := by
  intro e; unfold small smallI at h; rw [e] at h; simp at h

/-- Behind which kind of byte place k stands. -/
def stB (l : List UInt8) : Nat → Bool
  | 0 => false
  | k + 1 => decide ((l.getD k 0).toNat ≠ 45)

theorem getD_at (s : ByteArray) (k : Nat) (h : k < s.size) : s.data.toList.getD k 0 = s[k] := by
  rw [List.getD_eq_getElem?_getD, List.getElem?_eq_getElem (by simpa using h)]; rfl

theorem nm_small (s : ByteArray) (k : Nat) (h : k < s.size) (hc : small s[k] = true) (b : Bool) :
    nm b (s.data.toList.drop k) = nm true (s.data.toList.drop (k + 1)) := by
  rw [drop_cons s k h]
  cases b
  · simp [nm, hc]
  · simp [nm, hc, small_not_dash hc]

theorem st_small (s : ByteArray) (k : Nat) (h : k < s.size) (hc : s[k].toNat ≠ 45) : stB s.data.toList (k + 1) = true := by
  simp only [stB, getD_at s k h]; simpa using hc

theorem nm_dash (s : ByteArray) (k : Nat) (h : k < s.size) (hc : s[k].toNat = 45) :
    nm true (s.data.toList.drop k) = nm false (s.data.toList.drop (k + 1)) := by
  rw [drop_cons s k h]; simp [nm, hc]

theorem st_dash (s : ByteArray) (k : Nat) (h : k < s.size) (hc : s[k].toNat = 45) : stB s.data.toList (k + 1) = false := by
  simp only [stB, getD_at s k h]; simpa using hc

theorem nm_false_no (s : ByteArray) (k : Nat) (h : k < s.size) (hs : small s[k] = false) :
    nm false (s.data.toList.drop k) = false := by
  rw [drop_cons s k h]; simp [nm, hs]

theorem nm_other_no (s : ByteArray) (k : Nat) (h : k < s.size) (hs : small s[k] = false) (hc : s[k].toNat ≠ 45) (b : Bool) :
    nm b (s.data.toList.drop k) = false := by
  rw [drop_cons s k h]; cases b
  · simp [nm, hs]
  · simp [nm, hs, hc]

theorem nm_end (s : ByteArray) (b : Bool) : nm b (s.data.toList.drop s.size) = b := by
  rw [List.drop_of_length_le (by simp)]; cases b <;> rfl

theorem name_no (s : ByteArray) (h : nm false s.data.toList = false) : nameOk s.data.toList = false := by
  unfold nameOk; rw [h]; simp

theorem name_long (s : ByteArray) (h : 8 < s.size) : nameOk s.data.toList = false := by
  unfold nameOk; simp; omega

theorem name_yes (s : ByteArray) (h : s.size ≤ 8) (h1 : nm false s.data.toList = true) : nameOk s.data.toList = true := by
  unfold nameOk; rw [h1]; simp; omega

/-- What holds at the head of each round of the model's loop. -/
def Nrel (s : ByteArray) (k : Nat) : Prop := k ≤ s.size ∧ nm false s.data.toList = nm (stB s.data.toList k) (s.data.toList.drop k) ∧ (k = s.size → stB s.data.toList k = decide (k ≠ 0))

theorem Nrel_zero (s : ByteArray) : Nrel s 0 := ⟨Nat.zero_le _, rfl, fun _ => rfl⟩

theorem Nrel_small (s : ByteArray) (k : Nat) (h : k < s.size) (hr : Nrel s k) (hc : small s[k] = true) : Nrel s (k + 1) := by
  have hd := st_small s k h (small_not_dash hc)
  refine ⟨h, ?_, fun _ => ?_⟩
  · rw [hr.2.1, nm_small s k h hc, hd]
  · rw [hd]; simp

theorem Nrel_dash (s : ByteArray) (k : Nat) (h : k < s.size) (hr : Nrel s k) (hc : s[k].toNat = 45) (hl : k + 1 ≠ s.size) (hp : stB s.data.toList k = true) : Nrel s (k + 1) := by
  refine ⟨h, ?_, fun e => absurd e hl⟩
  rw [hr.2.1, hp, nm_dash s k h hc, st_dash s k h hc]

theorem Nrel_other (s : ByteArray) (k : Nat) (h : k < s.size) (hr : Nrel s k) (hs : small s[k] = false) (hc : s[k].toNat ≠ 45) : nameOk s.data.toList = false := by
  apply name_no; rw [hr.2.1]; exact nm_other_no s k h hs hc _

theorem Nrel_stfalse (s : ByteArray) (k : Nat) (h : k < s.size) (hr : Nrel s k) (hs : small s[k] = false) (hp : stB s.data.toList k = false) : nameOk s.data.toList = false := by
  apply name_no; rw [hr.2.1, hp]; exact nm_false_no s k h hs

theorem Nrel_last (s : ByteArray) (k : Nat) (h : k < s.size) (hr : Nrel s k) (hs : small s[k] = false) (hc : s[k].toNat = 45) (hl : k + 1 = s.size) : nameOk s.data.toList = false := by
  apply name_no; rw [hr.2.1]
  cases hb : stB s.data.toList k
  · exact nm_false_no s k h hs
  · rw [nm_dash s k h hc, hl, nm_end]

theorem Nrel_end (s : ByteArray) (hr : Nrel s s.size) : nameOk s.data.toList = (decide (1 ≤ s.size) && decide (s.size ≤ 8)) := by
  unfold nameOk
  rw [hr.2.1, nm_end, hr.2.2 rfl]
  rw [Bool.and_comm, len_toList, decide_eq_decide.2 (show s.size ≠ 0 ↔ 1 ≤ s.size by omega)]

theorem st_prev (s : ByteArray) (k : Nat) (h0 : 0 < k) (h : k - 1 < s.size) : stB s.data.toList k = decide (s[k - 1].toNat ≠ 45) := by
  obtain ⟨j, rfl⟩ : ∃ j, k = j + 1 := ⟨k - 1, by omega⟩
  simp only [stB, Nat.add_sub_cancel]
  rw [getD_at s j (by omega)]

def plainI (n : Int) : Int := if 65 ≤ n ∧ n ≤ 90 then n + 32 else if n = 95 then 45 else n
theorem plainI_bd (n : Int) (h0 : 0 ≤ n) (h1 : n ≤ 255) : 0 ≤ plainI n ∧ plainI n ≤ 255 := by
  unfold plainI; split
  · omega
  · split <;> omega
def plainB (c : UInt8) : UInt8 := (plainI (c.toNat : Int)).toNat.toUInt8
def plain (l : List UInt8) : List UInt8 := l.map plainB
theorem plainB_toNat (c : UInt8) : ((plainB c).toNat : Int) = plainI (c.toNat : Int) := by
  have := plainI_bd c.toNat (by omega) (by have := c.toNat_lt; omega)
  unfold plainB
  rw [Nat.toUInt8_eq, UInt8.toNat_ofNat_of_lt' (by simp only [UInt8.size]; omega)]; omega

/-- A text whose first k bytes are plain already. -/
def mix (l : List UInt8) (k : Nat) : List UInt8 := (plain l).take k ++ l.drop k
theorem mix_zero (l : List UInt8) : mix l 0 = l := rfl
theorem plain_length (l : List UInt8) : (plain l).length = l.length := by simp [plain]
theorem mix_length (l : List UInt8) (k : Nat) (h : k ≤ l.length) : (mix l k).length = l.length := by
  simp [mix, plain_length]; omega
theorem mix_all (l : List UInt8) (k : Nat) (h : l.length ≤ k) : mix l k = plain l := by
  unfold mix
  rw [List.take_of_length_le (by rw [plain_length]; exact h), List.drop_of_length_le h, List.append_nil]
theorem mix_at (l : List UInt8) (k : Nat) (h : k < l.length) : (mix l k)[k]'(by rw [mix_length l k (by omega)]; exact h) = l[k] := by
  unfold mix
  rw [List.getElem_append_right (by simp [plain_length]; omega)]
  simp [plain_length, Nat.min_eq_left (Nat.le_of_lt h)]
theorem mix_set (l : List UInt8) (k : Nat) (h : k < l.length) : (mix l k).set k (plainB l[k]) = mix l (k + 1) := by
  unfold mix
  rw [List.set_append_right _ _ (by simp [plain_length]; omega)]
  have e : k - ((plain l).take k).length = 0 := by simp [plain_length]; omega
  rw [e, List.take_succ_eq_append_getElem (by rw [plain_length]; exact h), List.drop_eq_getElem_cons h, List.set_cons_zero]
  simp [plain]
end M
end Go.Proofs.YteomdakohlikeaaGreat
namespace Go.Proofs.YteomdakohlikeaaGreat
namespace M

/-- The digit d as a byte. -/
def dig (d : Nat) : UInt8 := (48 + d).toUInt8
theorem dig_toNat (d : Nat) (h : d < 10) : (dig d).toNat = 48 + d := by
  unfold dig; rw [Nat.toUInt8_eq, UInt8.toNat_ofNat_of_lt' (by simp only [UInt8.size]; omega)]

/-- The decimal digits of n, by fuel. -/
def digsF : Nat → Nat → List UInt8
  | 0, _ => []
  | f + 1, n => if n < 10 then [dig n] else digsF f (n / 10) ++ [dig (n % 10)]
def digs (n : Nat) : List UInt8 := digsF 20 n
/-- The same, nothing for 0. -/
def digs0 (n : Nat) : List UInt8 := if n = 0 then [] else digs n
/-- A number as it is written. -/
def intText (n : Int) : List UInt8 := if n < 0 then 45 :: digs n.natAbs else digs n.natAbs

theorem digsF_more : ∀ (f n : Nat), n < 10 ^ (f + 1) → digsF (f + 2) n = digsF (f + 1) n
  | 0, n, h => by
    have : n < 10 := by simpa using h
    simp [digsF, this]
  | f + 1, n, h => by
    have hd : n / 10 < 10 ^ (f + 1) := by rw [Nat.pow_succ] at h; omega
    have ih := digsF_more f (n / 10) hd
    by_cases h10 : n < 10
    · simp [h10, digsF]
    · have e1 : digsF (f + 1 + 2) n = digsF (f + 2) (n / 10) ++ [dig (n % 10)] := by rw [digsF, if_neg h10]
      have e2 : digsF (f + 1 + 1) n = digsF (f + 1) (n / 10) ++ [dig (n % 10)] := by rw [digsF, if_neg h10]
      rw [e1, e2, ih]

theorem digs_step (n : Nat) (h : n < 10 ^ 20) (h10 : ¬ n < 10) : digs n = digs (n / 10) ++ [dig (n % 10)] := by
  unfold digs
  rw [digsF, if_neg h10, ← digsF_more 18 (n / 10) (by omega)]

theorem digs_small (n : Nat) (h10 : n < 10) : digs n = [dig n] := by
  unfold digs; rw [digsF, if_pos h10]

theorem digs_last (n : Nat) (h : n < 10 ^ 20) : digs n = digs0 (n / 10) ++ [dig (n % 10)] := by
  unfold digs0
  by_cases h10 : n < 10
  · rw [digs_small n h10, if_pos (by omega), Nat.mod_eq_of_lt h10]; rfl
  · rw [digs_step n h h10, if_neg (by omega)]

theorem digs_ne (n : Nat) : digs n ≠ [] := by
  unfold digs digsF; split <;> simp

theorem digsF_length : ∀ (f n : Nat), (digsF f n).length ≤ f
  | 0, _ => by simp [digsF]
  | f + 1, n => by
    unfold digsF; split
    · simp
    · have := digsF_length f (n / 10); simp; omega

theorem digs_length (n : Nat) : (digs n).length ≤ 20 := digsF_length 20 n
theorem intText_length (n : Int) : (intText n).length ≤ 21 := by
  have := digs_length n.natAbs; unfold intText; split <;> simp <;> omega

/-- What has been written, and what is left, of N: the head of each round. -/
def Irel (N m : Nat) (l : List UInt8) : Prop := l.length ≤ 20 ∧ (l = [] ∧ m = N ∨ l ≠ [] ∧ digs0 m ++ l = digs N)
theorem Irel_start (N : Nat) : Irel N N [] := ⟨by simp, .inl ⟨rfl, rfl⟩⟩
theorem Irel_step {N m : Nat} {l : List UInt8} (hN : N < 10 ^ 20) (hm : m ≤ N) (h : Irel N m l) (hgo : l = [] ∨ m ≠ 0) : Irel N (m / 10) (dig (m % 10) :: l) := by
  have key : digs0 (m / 10) ++ dig (m % 10) :: l = digs N := by
    rcases h.2 with ⟨rfl, rfl⟩ | ⟨hl, h⟩
    · rw [digs_last m hN]
    · have hm0 : m ≠ 0 := by rcases hgo with h1 | h1; exact absurd h1 hl; exact h1
      have e : digs0 m = digs m := by unfold digs0; rw [if_neg hm0]
      rw [← h, e, digs_last m (by omega)]; simp
  refine ⟨?_, .inr ⟨by simp, key⟩⟩
  have hl := digs_length N
  rw [← key] at hl
  simp at hl ⊢; omega
theorem Irel_end {N : Nat} {l : List UInt8} (h : Irel N 0 l) (hl : l ≠ []) : l = digs N := by
  rcases h.2 with ⟨h1, _⟩ | ⟨_, h⟩
  · exact absurd h1 hl
  · simpa [digs0] using h

/-- Is c a digit? -/
def isDig (c : UInt8) : Bool := decide (48 ≤ c.toNat) && decide (c.toNat ≤ 57)
def valOf (l : List UInt8) : Nat := l.foldl (fun n c => n * 10 + (c.toNat - 48)) 0
theorem valOf_snoc (l : List UInt8) (c : UInt8) : valOf (l ++ [c]) = valOf l * 10 + (c.toNat - 48) := by simp [valOf]
theorem valOf_aux : ∀ (l : List UInt8) (a : Nat), l.all isDig = true → l.foldl (fun n c => n * 10 + (c.toNat - 48)) a < (a + 1) * 10 ^ l.length
  | [], a, _ => by simp
  | c :: r, a, h => by
    simp only [List.all_cons, Bool.and_eq_true, isDig, decide_eq_true_eq] at h
    have ih := valOf_aux r (a * 10 + (c.toNat - 48)) h.2
    rw [List.foldl_cons, List.length_cons, Nat.pow_succ]
    refine Nat.lt_of_lt_of_le ih ?_
    rw [Nat.mul_comm (10 ^ r.length) 10, ← Nat.mul_assoc]
    exact Nat.mul_le_mul_right _ (by omega)
theorem valOf_lt (l : List UInt8) (h : l.all isDig = true) : valOf l < 10 ^ l.length := by
  have := valOf_aux l 0 h; simpa [valOf] using this

/-- The digits of a number: 1 to 9 of them, no nought ahead of others. -/
def natRead (l : List UInt8) : Option Nat :=
  if l.length < 1 ∨ 9 < l.length ∨ l.all isDig = false ∨ (l.head?.map UInt8.toNat = some 48 ∧ 1 < l.length) then none else some (valOf l)
/-- A number as it is read: with a sign ahead below 0. -/
def intRead (l : List UInt8) : Option Int :=
  if l.head?.map UInt8.toNat = some 45 then
    (if (l.drop 1).head?.map UInt8.toNat = some 48 then none else (natRead (l.drop 1)).map fun (n : Nat) => -(n : Int))
  else (natRead l).map fun (n : Nat) => (n : Int)
/-- As a pair: the number and true, or 0 and false. -/
def rd (l : List UInt8) : Int × Bool := match intRead l with
  | some n => (n, true)
  | none => (0, false)

theorem natRead_none (l : List UInt8) (h : l.length < 1 ∨ 9 < l.length ∨ l.all isDig = false ∨ (l.head?.map UInt8.toNat = some 48 ∧ 1 < l.length)) : natRead l = none := by
  unfold natRead; rw [if_pos h]
theorem natRead_some (l : List UInt8) (h1 : 1 ≤ l.length) (h9 : l.length ≤ 9) (hd : l.all isDig = true) (h0 : ¬ (l.head?.map UInt8.toNat = some 48 ∧ 1 < l.length)) : natRead l = some (valOf l) := by
  unfold natRead; rw [if_neg]
  rintro (h | h | h | h)
  · omega
  · omega
  · rw [hd] at h; cases h
  · exact h0 h
theorem rd_pos_none (l : List UInt8) (hs : l.head?.map UInt8.toNat ≠ some 45) (h : natRead l = none) : rd l = (0, false) := by
  unfold rd intRead; rw [if_neg hs, h]; rfl
theorem rd_pos_some (l : List UInt8) (hs : l.head?.map UInt8.toNat ≠ some 45) {n : Nat} (h : natRead l = some n) : rd l = ((n : Int), true) := by
  unfold rd intRead; rw [if_neg hs, h]; rfl
theorem rd_neg_none (l : List UInt8) (hs : l.head?.map UInt8.toNat = some 45) (h : (l.drop 1).head?.map UInt8.toNat = some 48 ∨ natRead (l.drop 1) = none) : rd l = (0, false) := by
  unfold rd intRead; rw [if_pos hs]
  by_cases h0 : (l.drop 1).head?.map UInt8.toNat = some 48
  · rw [if_pos h0]
  · rw [if_neg h0, h.resolve_left h0]; rfl
theorem rd_neg_some (l : List UInt8) (hs : l.head?.map UInt8.toNat = some 45) (h0 : (l.drop 1).head?.map UInt8.toNat ≠ some 48) {n : Nat} (h : natRead (l.drop 1) = some n) : rd l = (-(n : Int), true) := by
  unfold rd intRead; rw [if_pos hs, if_neg h0, h]; rfl

theorem head_at (s : ByteArray) (i : Nat) (h : i < s.size) : (s.data.toList.drop i).head?.map UInt8.toNat = some s[i].toNat := by
  rw [List.head?_drop, List.getElem?_eq_getElem (by simpa using h)]; rfl
theorem valOf_take9 (r : List UInt8) (j : Nat) (h : (r.take j).all isDig = true) : valOf (r.take j) < 10 ^ j := by
  have h1 := valOf_lt (r.take j) h
  exact Nat.lt_of_lt_of_le h1 (Nat.pow_le_pow_right (by omega) (by simp; omega))
theorem take_drop_snoc (s : ByteArray) (i j : Nat) (h : j + i < s.size) : (s.data.toList.drop i).take (j + 1) = (s.data.toList.drop i).take j ++ [s[j + i]] := by
  rw [List.take_succ_eq_append_getElem (by simp; omega)]
  congr 1
  simp [Nat.add_comm i j]
  rfl
theorem nodig (s : ByteArray) (i j : Nat) (h : j + i < s.size) (hd : isDig s[j + i] = false) : (s.data.toList.drop i).all isDig = false := by
  rw [← List.take_append_drop (j + 1) (s.data.toList.drop i), take_drop_snoc s i j h]
  simp [hd]
theorem take_all (s : ByteArray) (i j : Nat) (h : s.size ≤ j + i) : (s.data.toList.drop i).take j = s.data.toList.drop i := by
  rw [List.take_of_length_le (by simp; omega)]
/-- The number that the j digits from place i on make. -/
def valAt (s : ByteArray) (i j : Nat) : Nat := valOf ((s.data.toList.drop i).take j)
def digAt (s : ByteArray) (i j : Nat) : Bool := ((s.data.toList.drop i).take j).all isDig
theorem len0 (s : ByteArray) : s.data.toList.length = s.size := by simp
theorem drop_len (s : ByteArray) (i : Nat) : (s.data.toList.drop i).length = s.size - i := by simp
end M
end Go.Proofs.YteomdakohlikeaaGreat
namespace Go.Proofs.YteomdakohlikeaaGreat
namespace M

def glue (cur : List UInt8) : List (List UInt8) → List (List UInt8)
  | [] => [cur]
  | h :: t => (cur ++ h) :: t
/-- The parts of a text between the bytes b. -/
def split (b : UInt8) : List UInt8 → List (List UInt8)
  | [] => [[]]
  | c :: r => if c = b then [] :: split b r else glue [c] (split b r)
theorem glue_ne (cur : List UInt8) (l : List (List UInt8)) : glue cur l ≠ [] := by cases l <;> simp [glue]
theorem split_ne (b : UInt8) (l : List UInt8) : split b l ≠ [] := by
  cases l with
  | nil => simp [split]
  | cons c r => unfold split; split
                · simp
                · exact glue_ne _ _
theorem glue_nil {l : List (List UInt8)} (h : l ≠ []) : glue [] l = l := by
  cases l with
  | nil => exact absurd rfl h
  | cons h t => simp [glue]
theorem glue_glue (a b : List UInt8) (l : List (List UInt8)) : glue a (glue b l) = glue (a ++ b) l := by
  cases l <;> simp [glue]

theorem glue_le {n : Nat} {cur : List UInt8} {l : List (List UInt8)} (hc : cur.length ≤ 1) (h : ∀ x ∈ l, x.length ≤ n) : ∀ x ∈ glue cur l, x.length ≤ n + 1 := by
  intro x hx
  cases l with
  | nil => simp [glue] at hx; subst hx; omega
  | cons a t =>
    simp only [glue, List.mem_cons] at hx
    rcases hx with rfl | hx
    · have := h a (by simp); simp; omega
    · have := h x (by simp [hx]); omega
theorem split_le (b : UInt8) : ∀ (l : List UInt8), ∀ x ∈ split b l, x.length ≤ l.length
  | [] => by simp [split]
  | c :: r => by
    intro x hx
    have ih := split_le b r
    unfold split at hx
    split at hx
    · simp only [List.mem_cons] at hx
      rcases hx with rfl | hx
      · simp
      · have := ih x hx; simp; omega
    · exact glue_le (by simp) ih x hx

/-- The head of each round: k bytes are behind, the part under way began at f, P are the parts that are done. -/
def Srel (b : UInt8) (L : List UInt8) (f k : Nat) (P : List (List UInt8)) : Prop :=
  f ≤ k ∧ P.length ≤ k ∧ (k ≤ L.length ∧ split b L = P ++ glue ((L.take k).drop f) (split b (L.drop k)) ∨ k = L.length + 1 ∧ split b L = P)
theorem Srel_start (b : UInt8) (L : List UInt8) : Srel b L 0 0 [] :=
  ⟨Nat.le_refl _, by simp, .inl ⟨Nat.zero_le _, by simp [glue_nil (split_ne b L)]⟩⟩
theorem Srel_last {b : UInt8} {L : List UInt8} {f : Nat} {P : List (List UInt8)} (h : Srel b L f L.length P) : Srel b L (L.length + 1) (L.length + 1) (P ++ [L.drop f]) := by
  obtain ⟨hf, hp, h | h⟩ := h
  · refine ⟨Nat.le_refl _, by simp; omega, .inr ⟨rfl, ?_⟩⟩
    have h2 := h.2
    rw [List.drop_of_length_le (Nat.le_refl _), List.take_of_length_le (Nat.le_refl _)] at h2
    simpa [split, glue] using h2
  · omega
theorem Srel_cut {b : UInt8} {L : List UInt8} {f k : Nat} {P : List (List UInt8)} (h : Srel b L f k P) (hk : k < L.length) (hb : L[k] = b) : Srel b L (k + 1) (k + 1) (P ++ [(L.take k).drop f]) := by
  obtain ⟨hf, hp, h | h⟩ := h
  · refine ⟨Nat.le_refl _, by simp; omega, .inl ⟨hk, ?_⟩⟩
    have e1 : split b (L.drop k) = [] :: split b (L.drop (k + 1)) := by
      rw [List.drop_eq_getElem_cons hk, hb]; simp [split]
    have e2 : (L.take (k + 1)).drop (k + 1) = [] := List.drop_of_length_le (by simp; omega)
    rw [h.2, e1, e2, glue_nil (split_ne b _)]
    simp [glue]
  · omega
theorem Srel_on {b : UInt8} {L : List UInt8} {f k : Nat} {P : List (List UInt8)} (h : Srel b L f k P) (hk : k < L.length) (hb : L[k] ≠ b) : Srel b L f (k + 1) P := by
  obtain ⟨hf, hp, h | h⟩ := h
  · refine ⟨by omega, by omega, .inl ⟨hk, ?_⟩⟩
    rw [h.2, List.drop_eq_getElem_cons hk]
    simp only [split, if_neg hb]
    rw [glue_glue, List.take_succ_eq_append_getElem hk, List.drop_append_of_le_length (by simp; omega)]
  · omega
theorem Srel_end {b : UInt8} {L : List UInt8} {f k : Nat} {P : List (List UInt8)} (h : Srel b L f k P) (hk : L.length < k) : split b L = P := by
  obtain ⟨_, _, h | h⟩ := h
  · omega
  · exact h.2
end M
end Go.Proofs.YteomdakohlikeaaGreat
namespace Go.Proofs.YteomdakohlikeaaGreat
namespace M

structure Ed where
  ma : Int
  mi : Int
  pa : Int
deriving DecidableEq

def inI (x lo hi : Int) : Bool := decide (lo ≤ x) && decide (x ≤ hi)
def edOk (e : Ed) : Bool := inI e.ma 0 99 && inI e.mi 0 99 && inI e.pa 0 99
def edText (e : Ed) : List UInt8 := intText e.ma ++ ([46] ++ (intText e.mi ++ ([46] ++ intText e.pa)))
def edShow (e : Ed) : List UInt8 := if edOk e then edText e else []
def older (a b : Ed) : Bool := if a.ma ≠ b.ma then decide (a.ma < b.ma) else if a.mi ≠ b.mi then decide (a.mi < b.mi) else decide (a.pa < b.pa)
def fits (h w : Ed) : Bool := edOk h && edOk w && decide (h.ma = w.ma) && !older h w
def zeroEd : Ed := ⟨0, 0, 0⟩
def edRead (l : List UInt8) : Ed × Bool :=
  match split 46 l with
  | [a, b, c] => if (rd a).2 && (rd b).2 && (rd c).2 && edOk ⟨(rd a).1, (rd b).1, (rd c).1⟩ then (⟨(rd a).1, (rd b).1, (rd c).1⟩, true) else (zeroEd, false)
  | _ => (zeroEd, false)

theorem older_iff (a b : Ed) : older a b = true ↔ a.ma < b.ma ∨ a.ma = b.ma ∧ (a.mi < b.mi ∨ a.mi = b.mi ∧ a.pa < b.pa) := by
  unfold older
  by_cases h1 : a.ma = b.ma
  · rw [if_neg (by simpa using h1)]
    by_cases h2 : a.mi = b.mi
    · rw [if_neg (by simpa using h2)]; simp; omega
    · rw [if_pos h2]; simp; omega
  · rw [if_pos h1]; simp; omega
theorem older_iff_f (a b : Ed) : older a b = false ↔ ¬ (a.ma < b.ma ∨ a.ma = b.ma ∧ (a.mi < b.mi ∨ a.mi = b.mi ∧ a.pa < b.pa)) := by
  rw [← older_iff]; simp
theorem ed_ext (a b : Ed) : a = b ↔ a.ma = b.ma ∧ a.mi = b.mi ∧ a.pa = b.pa := by
  cases a; cases b; simp
theorem older_irrefl (a : Ed) : older a a = false := by rw [older_iff_f]; omega
theorem older_asymm (a b : Ed) (h : older a b = true) : older b a = false := by rw [older_iff] at h; rw [older_iff_f]; omega
theorem older_trans (a b c : Ed) (h : older a b = true) (k : older b c = true) : older a c = true := by rw [older_iff] at h k ⊢; omega
theorem older_total (a b : Ed) (h : older a b = false) (k : older b a = false) : a = b := by rw [older_iff_f] at h k; rw [ed_ext]; omega
end M
end Go.Proofs.YteomdakohlikeaaGreat
