/- Proved: plain facts on lists of bytes, names and pages; no program is named here; no condition. -/
namespace Go.Proofs.Ytnelgadfgeakjaa
namespace M

def smallI (n : Int) : Bool := decide (97 ≤ n) && decide (n ≤ 122)
def digitI (n : Int) : Bool := decide (48 ≤ n) && decide (n ≤ 57)
def small (c : UInt8) : Bool := smallI (c.toNat : Int)
def digit (c : UInt8) : Bool := digitI (c.toNat : Int)
def pageB (c : UInt8) : Bool := small c || digit c
def pageOk (l : List UInt8) : Bool := decide (l.length ≤ 12) && l.all pageB

theorem take_snoc (s : ByteArray) (k : Nat) (h : k < s.size) : s.data.toList.take (k + 1) = s.data.toList.take k ++ [s[k]] := by
  rw [List.take_succ_eq_append_getElem (by simpa using h)]; rfl

theorem drop_cons (s : ByteArray) (k : Nat) (h : k < s.size) : s.data.toList.drop k = s[k] :: s.data.toList.drop (k + 1) := by
  rw [List.drop_eq_getElem_cons (by simpa using h)]; rfl

theorem len_toList (s : ByteArray) : s.data.toList.length = s.size := by simp

theorem page_step_yes (s : ByteArray) (k : Nat) (h : k < s.size) (hb : pageB s[k] = true) (ha : (s.data.toList.take k).all pageB = true) :
    (s.data.toList.take (k + 1)).all pageB = true := by
  rw [take_snoc s k h, List.all_append, ha]; simp [hb]

theorem page_no (s : ByteArray) (k : Nat) (h : k < s.size) (hb : pageB s[k] = false) : pageOk s.data.toList = false := by
  unfold pageOk
  have : s.data.toList.all pageB = false := by
    rw [← List.take_append_drop k s.data.toList, List.all_append, drop_cons s k h]; simp [hb]
  rw [this]; simp

theorem page_all (s : ByteArray) (ha : (s.data.toList.take s.size).all pageB = true) : pageOk s.data.toList = decide (s.size ≤ 12) := by
  unfold pageOk
  rw [List.take_of_length_le (by simp)] at ha
  rw [ha]; simp

theorem page_long (s : ByteArray) (h : 12 < s.size) : pageOk s.data.toList = false := by
  unfold pageOk; simp; omega

/-- The two states of a name's reading: 'false' where a letter is wanted, 'true' behind a letter. -/
def nm : Bool → List UInt8 → Bool
  | false, [] => false
  | false, c :: r => small c && nm true r
  | true, [] => true
  | true, c :: r => if c.toNat = 45 then nm false r else small c && nm true r
def nameOk (l : List UInt8) : Bool := decide (l.length ≤ 8) && nm false l

theorem small_not_dash {c : UInt8} (h : small c = true) : c.toNat ≠ 45 := by
  intro e; unfold small smallI at h; rw [e] at h; simp at h

/-- Behind which kind of byte place k stands. -/
def stB (l : List UInt8) : Nat → Bool
  | 0 => false
  | k + 1 => decide ((l.getD k 0).toNat ≠ 45)

theorem getD_at (s : ByteArray) (k : Nat) (h : k < s.size) : s.data.toList.getD k 0 = s[k] := by
  rw [List.getD_eq_getElem?_getD, List.getElem?_eq_getElem (by simpa using h)]; rfl

theorem nm_small (s : ByteArray) (k : Nat) (h : k < s.size) (hc : small s[k] = true) (b : Bool) :
    nm b (s.data.toList.drop k) = nm true (s.data.toList.drop (k + 1)) := by
  rw [drop_cons s k h]
  cases b
  · simp [nm, hc]
  · simp [nm, hc, small_not_dash hc]

theorem st_small (s : ByteArray) (k : Nat) (h : k < s.size) (hc : s[k].toNat ≠ 45) : stB s.data.toList (k + 1) = true := by
  simp only [stB, getD_at s k h]; simpa using hc

theorem nm_dash (s : ByteArray) (k : Nat) (h : k < s.size) (hc : s[k].toNat = 45) :
    nm true (s.data.toList.drop k) = nm false (s.data.toList.drop (k + 1)) := by
  rw [drop_cons s k h]; simp [nm, hc]

theorem st_dash (s : ByteArray) (k : Nat) (h : k < s.size) (hc : s[k].toNat = 45) : stB s.data.toList (k + 1) = false := by
  simp only [stB, getD_at s k h]; simpa using hc

theorem nm_false_no (s : ByteArray) (k : Nat) (h : k < s.size) (hs : small s[k] = false) :
    nm false (s.data.toList.drop k) = false := by
  rw [drop_cons s k h]; simp [nm, hs]

theorem nm_other_no (s : ByteArray) (k : Nat) (h : k < s.size) (hs : small s[k] = false) (hc : s[k].toNat ≠ 45) (b : Bool) :
    nm b (s.data.toList.drop k) = false := by
  rw [drop_cons s k h]; cases b
  · simp [nm, hs]
  · simp [nm, hs, hc]

theorem nm_end (s : ByteArray) (b : Bool) : nm b (s.data.toList.drop s.size) = b := by
  rw [List.drop_of_length_le (by simp)]; cases b <;> rfl

theorem name_no (s : ByteArray) (h : nm false s.data.toList = false) : nameOk s.data.toList = false := by
  unfold nameOk; rw [h]; simp

theorem name_long (s : ByteArray) (h : 8 < s.size) : nameOk s.data.toList = false := by
  unfold nameOk; simp; omega

theorem name_yes (s : ByteArray) (h : s.size ≤ 8) (h1 : nm false s.data.toList = true) : nameOk s.data.toList = true := by
  unfold nameOk; rw [h1]; simp; omega

/-- What holds at the head of each round of the model's loop. -/
def Nrel (s : ByteArray) (k : Nat) : Prop := k ≤ s.size ∧ nm false s.data.toList = nm (stB s.data.toList k) (s.data.toList.drop k) ∧ (k = s.size → stB s.data.toList k = decide (k ≠ 0))

theorem Nrel_zero (s : ByteArray) : Nrel s 0 := ⟨Nat.zero_le _, rfl, fun _ => rfl⟩

theorem Nrel_small (s : ByteArray) (k : Nat) (h : k < s.size) (hr : Nrel s k) (hc : small s[k] = true) : Nrel s (k + 1) := by
  have hd := st_small s k h (small_not_dash hc)
  refine ⟨h, ?_, fun _ => ?_⟩
  · rw [hr.2.1, nm_small s k h hc, hd]
  · rw [hd]; simp

theorem Nrel_dash (s : ByteArray) (k : Nat) (h : k < s.size) (hr : Nrel s k) (hc : s[k].toNat = 45) (hl : k + 1 ≠ s.size) (hp : stB s.data.toList k = true) : Nrel s (k + 1) := by
  refine ⟨h, ?_, fun e => absurd e hl⟩
  rw [hr.2.1, hp, nm_dash s k h hc, st_dash s k h hc]

theorem Nrel_other (s : ByteArray) (k : Nat) (h : k < s.size) (hr : Nrel s k) (hs : small s[k] = false) (hc : s[k].toNat ≠ 45) : nameOk s.data.toList = false := by
  apply name_no; rw [hr.2.1]; exact nm_other_no s k h hs hc _

theorem Nrel_stfalse (s : ByteArray) (k : Nat) (h : k < s.size) (hr : Nrel s k) (hs : small s[k] = false) (hp : stB s.data.toList k = false) : nameOk s.data.toList = false := by
  apply name_no; rw [hr.2.1, hp]; exact nm_false_no s k h hs

theorem Nrel_last (s : ByteArray) (k : Nat) (h : k < s.size) (hr : Nrel s k) (hs : small s[k] = false) (hc : s[k].toNat = 45) (hl : k + 1 = s.size) : nameOk s.data.toList = false := by
  apply name_no; rw [hr.2.1]
  cases hb : stB s.data.toList k
  · exact nm_false_no s k h hs
  · rw [nm_dash s k h hc, hl, nm_end]

theorem Nrel_end (s : ByteArray) (hr : Nrel s s.size) : nameOk s.data.toList = (decide (1 ≤ s.size) && decide (s.size ≤ 8)) := by
  unfold nameOk
  rw [hr.2.1, nm_end, hr.2.2 rfl]
  rw [Bool.and_comm, len_toList, decide_eq_decide.2 (show s.size ≠ 0 ↔ 1 ≤ s.size by omega)]

theorem st_prev (s : ByteArray) (k : Nat) (h0 : 0 < k) (h : k - 1 < s.size) : stB s.data.toList k = decide (s[k - 1].toNat ≠ 45) := by
  obtain ⟨j, rfl⟩ : ∃ j, k = j + 1 := ⟨k - 1, by omega⟩
  simp only [stB, Nat.add_sub_cancel]
  rw [getD_at s j (by omega)]

def plainI (n : Int) : Int := if 65 ≤ n ∧ n ≤ 90 then n + 32 else if n = 95 then 45 else n
theorem plainI_bd (n : Int) (h0 : 0 ≤ n) (h1 : n ≤ 255) : 0 ≤ plainI n ∧ plainI n ≤ 255 := by
  unfold plainI; split
  · omega
  · split <;> omega
def plainB (c : UInt8) : UInt8 := (plainI (c.toNat : Int)).toNat.toUInt8
def plain (l : List UInt8) : List UInt8 := l.map plainB
theorem plainB_toNat (c : UInt8) : ((plainB c).toNat : Int) = plainI (c.toNat : Int) := by
  have := plainI_bd c.toNat (by omega) (by have := c.toNat_lt; omega)
  unfold plainB
  rw [Nat.toUInt8_eq, UInt8.toNat_ofNat_of_lt' (by simp only [UInt8.size]; omega)]; omega

/-- A text whose first k bytes are plain already. -/
def mix (l : List UInt8) (k : Nat) : List UInt8 := (plain l).take k ++ l.drop k
theorem mix_zero (l : List UInt8) : mix l 0 = l := rfl
theorem plain_length (l : List UInt8) : (plain l).length = l.length := by simp [plain]
theorem mix_length (l : List UInt8) (k : Nat) (h : k ≤ l.length) : (mix l k).length = l.length := by
  simp [mix, plain_length]; omega
theorem mix_all (l : List UInt8) (k : Nat) (h : l.length ≤ k) : mix l k = plain l := by
  unfold mix
  rw [List.take_of_length_le (by rw [plain_length]; exact h), List.drop_of_length_le h, List.append_nil]
theorem mix_at (l : List UInt8) (k : Nat) (h : k < l.length) : (mix l k)[k]'(by rw [mix_length l k (by omega)]; exact h) = l[k] := by
  unfold mix
  rw [List.getElem_append_right (by simp [plain_length]; omega)]
  simp [plain_length, Nat.min_eq_left (Nat.le_of_lt h)]
theorem mix_set (l : List UInt8) (k : Nat) (h : k < l.length) : (mix l k).set k (plainB l[k]) = mix l (k + 1) := by
  unfold mix
  rw [List.set_append_right _ _ (by simp [plain_length]; omega)]
  have e : k - ((plain l).take k).length = 0 := by simp [plain_length]; omega
  rw [e, List.take_succ_eq_append_getElem (by rw [plain_length]; exact h), List.drop_eq_getElem_cons h, List.set_cons_zero]
  simp [plain]
end M
end Go.Proofs.Ytnelgadfgeakjaa
