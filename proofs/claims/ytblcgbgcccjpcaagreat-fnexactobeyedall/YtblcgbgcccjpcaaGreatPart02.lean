/- Proved, in parts: Proved: plain facts on numbers written in decimal digits, and read from them; no program is named here; no condition. Proved: facts on a row of bytes that a call has made for itself: read, stored into, turned back into a text; no condition. Proved: the model's l1Int writes a number's digits, at every number of 64 bits; it writes nothing that was there. Proved: plain facts on a text cut at a byte; no program is named here; no condition. Proved: the model's l1Split cuts a text of at most a million bytes at a byte; its list lies in new memory; it writes nothing that was there. Proved: plain facts on editions; no program is named here; no condition. Proved: the model's functions on editions answer plain Lean functions, at every edition; they write nothing that was there. -/
import Derived.WalkKit
import Derived.Laws.IdiomStrings
import Derived.Lib.Hide
import Derived.Test.YtblcgbgcccjpcaaGreatPart01
import Derived.Lib.Strings
import Derived.Deep.RegionHeld3
import Derived.Deep.DeepCutAuto
namespace Go.Proofs.YtblcgbgcccjpcaaGreat
namespace M

/-- The digit d as a byte. -/
def dig (d : Nat) : UInt8 := (48 + d).toUInt8
theorem dig_toNat (d : Nat) (h : d < 10) : (dig d).toNat = 48 + d := by
  unfold dig; rw [Nat.toUInt8_eq, UInt8.toNat_ofNat_of_lt' (by simp only [UInt8.size]; omega)]

/-- The decimal digits of n, by fuel. -/
def digsF : Nat → Nat → List UInt8
  | 0, _ => []
  | f + 1, n => if n < 10 then [dig n] else digsF f (n / 10) ++ [dig (n % 10)]
def digs (n : Nat) : List UInt8 := digsF 20 n
/-- The same, nothing for 0. -/
def digs0 (n : Nat) : List UInt8 := if n = 0 then [] else digs n
/-- A number as it is written. -/
def intText (n : Int) : List UInt8 := if n < 0 then 45 :: digs n.natAbs else digs n.natAbs

theorem digsF_more : ∀ (f n : Nat), n < 10 ^ (f + 1) → digsF (f + 2) n = digsF (f + 1) n
  | 0, n, h => by
    have : n < 10 := by simpa using h
    simp [digsF, this]
  | f + 1, n, h => by
    have hd : n / 10 < 10 ^ (f + 1) := by rw [Nat.pow_succ] at h; omega
    have ih := digsF_more f (n / 10) hd
    by_cases h10 : n < 10
    · simp [h10, digsF]
    · have e1 : digsF (f + 1 + 2) n = digsF (f + 2) (n / 10) ++ [dig (n % 10)] := by rw [digsF, if_neg h10]
      have e2 : digsF (f + 1 + 1) n = digsF (f + 1) (n / 10) ++ [dig (n % 10)] := by rw [digsF, if_neg h10]
      rw [e1, e2, ih]

theorem digs_step (n : Nat) (h : n < 10 ^ 20) (h10 : ¬ n < 10) : digs n = digs (n / 10) ++ [dig (n % 10)] := by
  unfold digs
  rw [digsF, if_neg h10, ← digsF_more 18 (n / 10) (by omega)]

theorem digs_small (n : Nat) (h10 : n < 10) : digs n = [dig n] := by
  unfold digs; rw [digsF, if_pos h10]

theorem digs_last (n : Nat) (h : n < 10 ^ 20) : digs n = digs0 (n / 10) ++ [dig (n % 10)] := by
  unfold digs0
  by_cases h10 : n < 10
  · rw [digs_small n h10, if_pos (by omega), Nat.mod_eq_of_lt h10]; rfl
  · rw [digs_step n h h10, if_neg (by omega)]

theorem digs_ne (n : Nat) : digs n ≠ [] := by
  unfold digs digsF; split <;> simp

theorem digsF_length : ∀ (f n : Nat), (digsF f n).length ≤ f
  | 0, _ => by simp [digsF]
  | f + 1, n => by
    unfold digsF; split
    · simp
    · have := digsF_length f (n / 10); simp; omega

theorem digs_length (n : Nat) : (digs n).length ≤ 20 := digsF_length 20 n
theorem intText_length (n : Int) : (intText n).length ≤ 21 := by
  have := digs_length n.natAbs; unfold intText; split <;> simp <;> omega

/-- What has been written, and what is left, of N: the head of each round. -/
def Irel (N m : Nat) (l : List UInt8) : Prop := l.length ≤ 20 ∧ (l = [] ∧ m = N ∨ l ≠ [] ∧ digs0 m ++ l = digs N)
theorem Irel_start (N : Nat) : Irel N N [] := ⟨by simp, .inl ⟨rfl, rfl⟩⟩
theorem Irel_step {N m : Nat} {l : List UInt8} (hN : N < 10 ^ 20) (hm : m ≤ N) (h : Irel N m l) (hgo : l = [] ∨ m ≠ 0) : Irel N (m / 10) (dig (m % 10) :: l) := by
  have key : digs0 (m / 10) ++ dig (m % 10) :: l = digs N := by
    rcases h.2 with ⟨rfl, rfl⟩ | ⟨hl, h⟩
    · rw [digs_last m hN]
    · have hm0 : m ≠ 0 := by rcases hgo with h1 | h1; exact absurd h1 hl; exact h1
      have e : digs0 m = digs m := by unfold digs0; rw [if_neg hm0]
      rw [← h, e, digs_last m (by omega)]; simp
  refine ⟨?_, .inr ⟨by simp, key⟩⟩
  have hl := digs_length N
  rw [← key] at hl
  simp at hl ⊢; omega
theorem Irel_end {N : Nat} {l : List UInt8} (h : Irel N 0 l) (hl : l ≠ []) : l = digs N := by
  rcases h.2 with ⟨h1, _⟩ | ⟨_, h⟩
  · exact absurd h1 hl
  · simpa [digs0] using h

/-- Is c a digit? -/
def isDig (c : UInt8) : Bool := decide (48 ≤ c.toNat) && decide (c.toNat ≤ 57)
def valOf (l : List UInt8) : Nat := l.foldl (fun n c => n * 10 + (c.toNat - 48)) 0
theorem valOf_snoc (l : List UInt8) (c : UInt8) : valOf (l ++ [c]) = valOf l * 10 + (c.toNat - 48) := by simp [valOf]
theorem valOf_aux : ∀ (l : List UInt8) (a : Nat), l.all isDig = true → l.foldl (fun n c => n * 10 + (c.toNat - 48)) a < (a + 1) * 10 ^ l.length
  | [], a, _ => by simp
  | c :: r, a, h => by
    simp only [List.all_cons, Bool.and_eq_true, isDig, decide_eq_true_eq] at h
    have ih := valOf_aux r (a * 10 + (c.toNat - 48)) h.2
    rw [List.foldl_cons, List.length_cons, Nat.pow_succ]
    refine Nat.lt_of_lt_of_le ih ?_
    rw [Nat.mul_comm (10 ^ r.length) 10, ← Nat.mul_assoc]
    exact Nat.mul_le_mul_right _ (by omega)
theorem valOf_lt (l : List UInt8) (h : l.all isDig = true) : valOf l < 10 ^ l.length := by
  have := valOf_aux l 0 h; simpa [valOf] using this

/-- The digits of a number: 1 to 9 of them, no nought ahead of others. -/
def natRead (l : List UInt8) : Option Nat :=
  if l.length < 1 ∨ 9 < l.length ∨ l.all isDig = false ∨ (l.head?.map UInt8.toNat = some 48 ∧ 1 < l.length) then none else some (valOf l)
/-- A number as it is read: with a sign ahead below 0. -/
def intRead (l : List UInt8) : Option Int :=
  if l.head?.map UInt8.toNat = some 45 then
    (if (l.drop 1).head?.map UInt8.toNat = some 48 then none else (natRead (l.drop 1)).map fun (n : Nat) => -(n : Int))
  else (natRead l).map fun (n : Nat) => (n : Int)
/-- As a pair: the number and true, or 0 and false. -/
def rd (l : List UInt8) : Int × Bool := match intRead l with
  | some n => (n, true)
  | none => (0, false)

theorem natRead_none (l : List UInt8) (h : l.length < 1 ∨ 9 < l.length ∨ l.all isDig = false ∨ (l.head?.map UInt8.toNat = some 48 ∧ 1 < l.length)) : natRead l = none := by
  unfold natRead; rw [if_pos h]
theorem natRead_some (l : List UInt8) (h1 : 1 ≤ l.length) (h9 : l.length ≤ 9) (hd : l.all isDig = true) (h0 : ¬ (l.head?.map UInt8.toNat = some 48 ∧ 1 < l.length)) : natRead l = some (valOf l) := by
  unfold natRead; rw [if_neg]
  rintro (h | h | h | h)
  · omega
  · omega
  · rw [hd] at h; cases h
  · exact h0 h
theorem rd_pos_none (l : List UInt8) (hs : l.head?.map UInt8.toNat ≠ some 45) (h : natRead l = none) : rd l = (0, false) := by
  unfold rd intRead; rw [if_neg hs, h]; rfl
theorem rd_pos_some (l : List UInt8) (hs : l.head?.map UInt8.toNat ≠ some 45) {n : Nat} (h : natRead l = some n) : rd l = ((n : Int), true) := by
  unfold rd intRead; rw [if_neg hs, h]; rfl
theorem rd_neg_none (l : List UInt8) (hs : l.head?.map UInt8.toNat = some 45) (h : (l.drop 1).head?.map UInt8.toNat = some 48 ∨ natRead (l.drop 1) = none) : rd l = (0, false) := by
  unfold rd intRead; rw [if_pos hs]
  by_cases h0 : (l.drop 1).head?.map UInt8.toNat = some 48
  · rw [if_pos h0]
  · rw [if_neg h0, h.resolve_left h0]; rfl
theorem rd_neg_some (l : List UInt8) (hs : l.head?.map UInt8.toNat = some 45) (h0 : (l.drop 1).head?.map UInt8.toNat ≠ some 48) {n : Nat} (h : natRead (l.drop 1) = some n) : rd l = (-(n : Int), true) := by
  unfold rd intRead; rw [if_pos hs, if_neg h0, h]; rfl

theorem head_at (s : ByteArray) (i : Nat) (h : i < s.size) : (s.data.toList.drop i).head?.map UInt8.toNat = some s[i].toNat := by
  rw [List.head?_drop, List.getElem?_eq_getElem (by simpa using h)]; rfl
theorem valOf_take9 (r : List UInt8) (j : Nat) (h : (r.take j).all isDig = true) : valOf (r.take j) < 10 ^ j := by
  have h1 := valOf_lt (r.take j) h
  exact Nat.lt_of_lt_of_le h1 (Nat.pow_le_pow_right (by omega) (by simp; omega))
theorem take_drop_snoc (s : ByteArray) (i j : Nat) (h : j + i < s.size) : (s.data.toList.drop i).take (j + 1) = (s.data.toList.drop i).take j ++ [s[j + i]] := by
  rw [List.take_succ_eq_append_getElem (by simp; omega)]
  congr 1
  simp [Nat.add_comm i j]
  rfl
theorem nodig (s : ByteArray) (i j : Nat) (h : j + i < s.size) (hd : isDig s[j + i] = false) : (s.data.toList.drop i).all isDig = false := by
  rw [← List.take_append_drop (j + 1) (s.data.toList.drop i), take_drop_snoc s i j h]
  simp [hd]
theorem take_all (s : ByteArray) (i j : Nat) (h : s.size ≤ j + i) : (s.data.toList.drop i).take j = s.data.toList.drop i := by
  rw [List.take_of_length_le (by simp; omega)]
/-- The number that the j digits from place i on make. -/
def valAt (s : ByteArray) (i j : Nat) : Nat := valOf ((s.data.toList.drop i).take j)
def digAt (s : ByteArray) (i j : Nat) : Bool := ((s.data.toList.drop i).take j).all isDig
theorem len0 (s : ByteArray) : s.data.toList.length = s.size := by simp
theorem drop_len (s : ByteArray) (i : Nat) : (s.data.toList.drop i).length = s.size - i := by simp
end M
end Go.Proofs.YtblcgbgcccjpcaaGreat
namespace Go.Proofs.YtblcgbgcccjpcaaGreat
open Go.RowKit

/-- Block g holds the bytes l, and none of these cells is frozen. -/
def BRow (w : World) (g : Nat) (l : List UInt8) : Prop :=
  g < w.heap.size ∧ ∀ j (hj : j < l.length), w.cell? ⟨g, j, none⟩ = some (.int .u8 (l[j].toNat : Int)) ∧ w.frozen? ⟨g, j, none⟩ = false

theorem BRow.drew {w : World} {g : Nat} {l : List UInt8} (h : BRow w g l) : BRow w.drew g l := h

theorem BRow.kept {w w' : World} {g : Nat} {l : List UInt8} {row : Option Nat} (h : BRow w g l) (hg : w.grownBy w' row) (hne : some g ≠ row) : BRow w' g l := by
  have hb := hg.block g h.1 hne
  refine ⟨Nat.lt_of_lt_of_le h.1 hg.size, fun j hj => ⟨?_, ?_⟩⟩
  · exact (World.cell?_of_block (a := ⟨g, j, none⟩) hb).trans (h.2 j hj).1
  · exact (World.frozen?_of_block (a := ⟨g, j, none⟩) hb).trans (h.2 j hj).2

theorem BRow.of_conv (w : World) (s : ByteArray) (cap : Nat) (e : TypeId) :
    BRow (w.alloc (.cells (bytesRow s cap) e ((bytesRow s cap).size, (bytesRow s cap).size + 1))) w.heap.size s.data.toList := by
  refine ⟨by simp, fun j hj => ?_⟩
  have hj' : j < s.data.size := by simpa using hj
  have hz : s.data.size ≤ (bytesRow s cap).size := by unfold bytesRow; simp
  refine ⟨?_, ?_⟩
  · rw [World.cell?_alloc_mark, bytesRow_at s cap j hj']; simp
  · rw [World.frozen?_alloc_mark]; simp; omega

theorem BRow.store {w : World} {g : Nat} {l : List UInt8} (h : BRow w g l) (k : Nat) (c : UInt8) :
    BRow (w.setCell ⟨g, k, none⟩ (.int .u8 (c.toNat : Int))) g (l.set k c) := by
  refine ⟨by simpa using h.1, fun j hj => ?_⟩
  have hj' : j < l.length := by simpa using hj
  refine ⟨?_, by rw [World.frozen?_setCell]; exact (h.2 j hj').2⟩
  by_cases e : k = j
  · subst e
    rw [World.cell?_setCell_same w _ _ (h.2 k hj').1]; simp
  · rw [World.cell?_setCell_other w _ _ _ (by simp), (h.2 j hj').1]
    simp [e]

theorem BRow.back {P : Program} {w : World} {g : Nat} {l : List UInt8} (h : BRow w g l) (src dst e : TypeId) (cap n : Nat) (hn : l.length = n)
    (hs : P.underlying src = some (.slice e)) (he : P.underlying e = some (.int .u8)) (hd : P.underlying dst = some .string) :
    (convert src dst (.slice (some ⟨g, 0, none⟩) n cap)).run P w = .ok (.string ⟨l.toArray⟩) w := by
  subst hn
  exact run_convert_bytes_back w src dst e ⟨g, 0, none⟩ cap l hs he hd (fun j hj => by rw [show (⟨g, 0, none⟩ : Addr).add j = ⟨g, j, none⟩ from by unfold Addr.add; split <;> simp_all]; exact (h.2 j hj).1)
end Go.Proofs.YtblcgbgcccjpcaaGreat
namespace Go.Proofs.YtblcgbgcccjpcaaGreat
open Go.RowKit

theorem one_byte (w : World) (d : Nat) (hd : d < 10) (x : Int) (hx : x = 48 + (d : Int)) :
    (convert 22 9 (.slice (some ⟨w.heap.size, 0, none⟩) 1 1)).run Tryz.prog (w.alloc (.cells #[.int .u8 x] 5)) = .ok (.string ⟨#[M.dig d]⟩) (w.alloc (.cells #[.int .u8 x] 5)) := by
  refine run_convert_bytes_back _ 22 9 5 ⟨w.heap.size, 0, none⟩ 1 [M.dig d] Tryz.underlying22 Tryz.underlying5 Tryz.underlying9 ?_
  intro j hj
  have hj0 : j = 0 := by simpa using hj
  subst hj0
  show (w.alloc _).cell? ⟨w.heap.size, 0, none⟩ = _
  rw [World.cell?_alloc_mark]
  simp [M.dig_toNat d hd, hx]

theorem cat_mk (a b : List UInt8) : (⟨a.toArray⟩ ++ ⟨b.toArray⟩ : ByteArray) = ⟨(a ++ b).toArray⟩ := by
  apply ByteArray.ext; simp

def blank : Value → Nat
  | .string s => if s.size = 0 then 1 else 0
  | _ => 0

theorem blank_nil : blank (.string ⟨#[]⟩) = 1 := rfl
theorem blank_cons (c : UInt8) (r : List UInt8) : blank (.string ⟨(c :: r).toArray⟩) = 0 := rfl
theorem ret_str {a b : List UInt8} (h : a = b) : Ending.returned (.string ⟨a.toArray⟩) = .returned (.string ⟨b.toArray⟩) := by rw [h]

theorem nonempty_of (s : ByteArray) (h : 0 < s.size) : s.toList.isEmpty = false := by
  rw [ByteArray.toList_eq, List.isEmpty_eq_false_iff]
  intro e
  have := congrArg List.length e
  simp at this
  have hz : s.size = 0 := by rw [← ByteArray.size_data, this]; rfl
  omega
theorem ret_rd {p : Int × Bool} {a : Int} {b : Bool} (h : p = (a, b)) : Ending.returned (.tuple #[.int .i64 a, .bool b]) = .returned (.tuple #[.int .i64 p.1, .bool p.2]) := by rw [h]

end Go.Proofs.YtblcgbgcccjpcaaGreat
namespace Go.Proofs.YtblcgbgcccjpcaaGreat
namespace M

def glue (cur : List UInt8) : List (List UInt8) → List (List UInt8)
  | [] => [cur]
  | h :: t => (cur ++ h) :: t
/-- The parts of a text between the bytes b. -/
def split (b : UInt8) : List UInt8 → List (List UInt8)
  | [] => [[]]
  | c :: r => if c = b then [] :: split b r else glue [c] (split b r)
theorem glue_ne (cur : List UInt8) (l : List (List UInt8)) : glue cur l ≠ [] := by cases l <;> simp [glue]
theorem split_ne (b : UInt8) (l : List UInt8) : split b l ≠ [] := by
  cases l with
  | nil => simp [split]
  | cons c r => unfold split; split
                · simp
                · exact glue_ne _ _
theorem glue_nil {l : List (List UInt8)} (h : l ≠ []) : glue [] l = l := by
  cases l with
  | nil => exact absurd rfl h
  | cons h t => simp [glue]
theorem glue_glue (a b : List UInt8) (l : List (List UInt8)) : glue a (glue b l) = glue (a ++ b) l := by
  cases l <;> simp [glue]

theorem glue_le {n : Nat} {cur : List UInt8} {l : List (List UInt8)} (hc : cur.length ≤ 1) (h : ∀ x ∈ l, x.length ≤ n) : ∀ x ∈ glue cur l, x.length ≤ n + 1 := by
  intro x hx
  cases l with
  | nil => simp [glue] at hx; subst hx; omega
  | cons a t =>
    simp only [glue, List.mem_cons] at hx
    rcases hx with rfl | hx
    · have := h a (by simp); simp; omega
    · have := h x (by simp [hx]); omega
theorem split_le (b : UInt8) : ∀ (l : List UInt8), ∀ x ∈ split b l, x.length ≤ l.length
  | [] => by simp [split]
  | c :: r => by
    intro x hx
    have ih := split_le b r
    unfold split at hx
    split at hx
    · simp only [List.mem_cons] at hx
      rcases hx with rfl | hx
      · simp
      · have := ih x hx; simp; omega
    · exact glue_le (by simp) ih x hx

/-- The head of each round: k bytes are behind, the part under way began at f, P are the parts that are done. -/
def Srel (b : UInt8) (L : List UInt8) (f k : Nat) (P : List (List UInt8)) : Prop :=
  f ≤ k ∧ P.length ≤ k ∧ (k ≤ L.length ∧ split b L = P ++ glue ((L.take k).drop f) (split b (L.drop k)) ∨ k = L.length + 1 ∧ split b L = P)
theorem Srel_start (b : UInt8) (L : List UInt8) : Srel b L 0 0 [] :=
  ⟨Nat.le_refl _, by simp, .inl ⟨Nat.zero_le _, by simp [glue_nil (split_ne b L)]⟩⟩
theorem Srel_last {b : UInt8} {L : List UInt8} {f : Nat} {P : List (List UInt8)} (h : Srel b L f L.length P) : Srel b L (L.length + 1) (L.length + 1) (P ++ [L.drop f]) := by
  obtain ⟨hf, hp, h | h⟩ := h
  · refine ⟨Nat.le_refl _, by simp; omega, .inr ⟨rfl, ?_⟩⟩
    have h2 := h.2
    rw [List.drop_of_length_le (Nat.le_refl _), List.take_of_length_le (Nat.le_refl _)] at h2
    simpa [split, glue] using h2
  · omega
theorem Srel_cut {b : UInt8} {L : List UInt8} {f k : Nat} {P : List (List UInt8)} (h : Srel b L f k P) (hk : k < L.length) (hb : L[k] = b) : Srel b L (k + 1) (k + 1) (P ++ [(L.take k).drop f]) := by
  obtain ⟨hf, hp, h | h⟩ := h
  · refine ⟨Nat.le_refl _, by simp; omega, .inl ⟨hk, ?_⟩⟩
    have e1 : split b (L.drop k) = [] :: split b (L.drop (k + 1)) := by
      rw [List.drop_eq_getElem_cons hk, hb]; simp [split]
    have e2 : (L.take (k + 1)).drop (k + 1) = [] := List.drop_of_length_le (by simp; omega)
    rw [h.2, e1, e2, glue_nil (split_ne b _)]
    simp [glue]
  · omega
theorem Srel_on {b : UInt8} {L : List UInt8} {f k : Nat} {P : List (List UInt8)} (h : Srel b L f k P) (hk : k < L.length) (hb : L[k] ≠ b) : Srel b L f (k + 1) P := by
  obtain ⟨hf, hp, h | h⟩ := h
  · refine ⟨by omega, by omega, .inl ⟨hk, ?_⟩⟩
    rw [h.2, List.drop_eq_getElem_cons hk]
    simp only [split, if_neg hb]
    rw [glue_glue, List.take_succ_eq_append_getElem hk, List.drop_append_of_le_length (by simp; omega)]
  · omega
theorem Srel_end {b : UInt8} {L : List UInt8} {f k : Nat} {P : List (List UInt8)} (h : Srel b L f k P) (hk : L.length < k) : split b L = P := by
  obtain ⟨_, _, h | h⟩ := h
  · omega
  · exact h.2
end M
end Go.Proofs.YtblcgbgcccjpcaaGreat
namespace Go.Proofs.YtblcgbgcccjpcaaGreat
open Go.RowKit

def strOf (l : List UInt8) : Value := .string ⟨l.toArray⟩
/-- v is a list of the texts ls, in memory of the call's own, from block B on. -/
def StrRow (B : Nat) (w : World) (v : Value) (ls : List (List UInt8)) : Prop :=
  w.ownsRow B 9 1 v ls.length (ls.map strOf)

theorem Tryz.infoStr : (Tryz.prog.info? 9).map (fun i => (i.zero, i.size, i.bytes)) = some (some (.string ⟨#[]⟩), 1, 16) := by kernel_rfl

theorem extract_str (s : ByteArray) (f k : Nat) : Value.string (s.extract f k) = strOf ((s.data.toList.take k).drop f) := by
  unfold strOf
  congr 1
  apply ByteArray.ext
  apply Array.toList_inj.1
  rw [Lib.extract_data, List.drop_take]

theorem strRow_snoc {B : Nat} {w : World} {v : Value} {P : List (List UInt8)} {s : ByteArray} {fn k : Nat} {x : List UInt8} (h : w.ownsRow B 9 1 v (P.length + 1) (P.map strOf ++ [.string (s.extract fn k)])) (hx : (s.data.toList.take k).drop fn = x) : StrRow B w v (P ++ [x]) := by
  unfold StrRow
  rw [List.length_append, List.length_singleton, List.map_append, List.map_singleton, ← hx, ← extract_str]
  exact h

theorem below_grow {B e n size : Nat} {w wr w1 : World} {v : Value} {xs : List Value} {o : Obj} (hb : Below w.heap.size w wr) (ho : wr.ownsRow B e size v n xs) (hg : (wr.alloc o).grownBy w1 v.ownBlock) (hB : w.heap.size ≤ B := by exact Nat.le_refl _) : Below w.heap.size w w1 :=
  (hb.alloc hb.size o).grown hg (by have := hb.size; simp; omega) (fun k hk => Nat.le_trans hB (ho.lt k hk).1)

theorem StrRow.open {B : Nat} {w : World} {v : Value} {ls : List (List UInt8)} (h : StrRow B w v ls) (hne : ls ≠ []) :
    ∃ g cap, v = .slice (some ⟨g, 0, none⟩) ls.length cap ∧ B ≤ g ∧ g < w.heap.size ∧ ∀ j (hj : j < ls.length), w.cell? ⟨g, j, none⟩ = some (strOf ls[j]) := by
  have h0 := h
  unfold StrRow at h
  rcases h.2 with ⟨_, hn⟩ | ⟨g, cap, cur, rfl, hB, hg, _⟩
  · exact absurd (List.eq_nil_of_length_eq_zero hn) hne
  · refine ⟨g, cap, rfl, hB, (Array.getElem?_eq_some_iff.1 hg).1, fun j hj => ?_⟩
    rw [World.ownsRow.cellAt h j (by omega)]
    simp [hj]

end Go.Proofs.YtblcgbgcccjpcaaGreat
namespace Go.Proofs.YtblcgbgcccjpcaaGreat
namespace M

structure Ed where
  ma : Int
  mi : Int
  pa : Int
deriving DecidableEq

def inI (x lo hi : Int) : Bool := decide (lo ≤ x) && decide (x ≤ hi)
def edOk (e : Ed) : Bool := inI e.ma 0 99 && inI e.mi 0 99 && inI e.pa 0 99
def edText (e : Ed) : List UInt8 := intText e.ma ++ ([46] ++ (intText e.mi ++ ([46] ++ intText e.pa)))
def edShow (e : Ed) : List UInt8 := if edOk e then edText e else []
def older (a b : Ed) : Bool := if a.ma ≠ b.ma then decide (a.ma < b.ma) else if a.mi ≠ b.mi then decide (a.mi < b.mi) else decide (a.pa < b.pa)
def fits (h w : Ed) : Bool := edOk h && edOk w && decide (h.ma = w.ma) && !older h w
def zeroEd : Ed := ⟨0, 0, 0⟩
def edRead (l : List UInt8) : Ed × Bool :=
  match split 46 l with
  | [a, b, c] => if (rd a).2 && (rd b).2 && (rd c).2 && edOk ⟨(rd a).1, (rd b).1, (rd c).1⟩ then (⟨(rd a).1, (rd b).1, (rd c).1⟩, true) else (zeroEd, false)
  | _ => (zeroEd, false)

theorem older_iff (a b : Ed) : older a b = true ↔ a.ma < b.ma ∨ a.ma = b.ma ∧ (a.mi < b.mi ∨ a.mi = b.mi ∧ a.pa < b.pa) := by
  unfold older
  by_cases h1 : a.ma = b.ma
  · rw [if_neg (by simpa using h1)]
    by_cases h2 : a.mi = b.mi
    · rw [if_neg (by simpa using h2)]; simp; omega
    · rw [if_pos h2]; simp; omega
  · rw [if_pos h1]; simp; omega
theorem older_iff_f (a b : Ed) : older a b = false ↔ ¬ (a.ma < b.ma ∨ a.ma = b.ma ∧ (a.mi < b.mi ∨ a.mi = b.mi ∧ a.pa < b.pa)) := by
  rw [← older_iff]; simp
theorem ed_ext (a b : Ed) : a = b ↔ a.ma = b.ma ∧ a.mi = b.mi ∧ a.pa = b.pa := by
  cases a; cases b; simp
theorem older_irrefl (a : Ed) : older a a = false := by rw [older_iff_f]; omega
theorem older_asymm (a b : Ed) (h : older a b = true) : older b a = false := by rw [older_iff] at h; rw [older_iff_f]; omega
theorem older_trans (a b c : Ed) (h : older a b = true) (k : older b c = true) : older a c = true := by rw [older_iff] at h k ⊢; omega
theorem older_total (a b : Ed) (h : older a b = false) (k : older b a = false) : a = b := by rw [older_iff_f] at h k; rw [ed_ext]; omega
end M
end Go.Proofs.YtblcgbgcccjpcaaGreat
namespace Go.Proofs.YtblcgbgcccjpcaaGreat
open Go.RowKit

abbrev edV (e : M.Ed) : Value := .agg #[.int .i64 e.ma, .int .i64 e.mi, .int .i64 e.pa]

theorem in_i (x lo hi : Int) (w : World) : Calls Tryz.prog 60 #[.int .i64 x, .int .i64 lo, .int .i64 hi] w fun e w' => e = .returned (.bool (M.inI x lo hi)) ∧ w = w' := in_any x lo hi w

set_option maxHeartbeats 1000000 in
theorem specEditionOk (e : M.Ed) (w : World) :
    Calls Tryz.prog 133 #[edV e] w fun r w' => r = .returned (.bool (M.edOk e)) ∧ Below w.heap.size w w' := by
  rcases h1 : M.inI e.ma 0 99 with _ | _
  · have HE : Hid (M.edOk e = false) := Lib.hid (by simp [M.edOk, h1])
    go_enter Tryz.func133, Tryz.ntmps133
    go_wp2_with (go_at_call 60; refine (in_i _ _ _ _).mono ?_; rintro e w' ⟨rfl, rfl⟩)
    go_ret
    exact ⟨ret_bool HE.out.symm, (Below.refl _ _).alloc (Nat.le_refl _) _⟩
  · rcases h2 : M.inI e.mi 0 99 with _ | _
    · have HE : Hid (M.edOk e = false) := Lib.hid (by simp [M.edOk, h2])
      go_enter Tryz.func133, Tryz.ntmps133
      go_wp2_with (go_at_call 60; refine (in_i _ _ _ _).mono ?_; rintro e w' ⟨rfl, rfl⟩)
      go_ret
      exact ⟨ret_bool HE.out.symm, (Below.refl _ _).alloc (Nat.le_refl _) _⟩
    · have HE : Hid (M.edOk e = M.inI e.pa 0 99) := Lib.hid (by simp [M.edOk, h1, h2])
      go_enter Tryz.func133, Tryz.ntmps133
      go_wp2_with (go_at_call 60; refine (in_i _ _ _ _).mono ?_; rintro e w' ⟨rfl, rfl⟩)
      go_ret
      exact ⟨ret_bool HE.out.symm, (Below.refl _ _).alloc (Nat.le_refl _) _⟩

set_option maxHeartbeats 1000000 in
theorem specOlder (a b : M.Ed) (w : World) :
    Calls Tryz.prog 121 #[edV a, edV b] w fun r w' => r = .returned (.bool (M.older a b)) ∧ Below w.heap.size w w' := by
  by_cases h1 : a.ma = b.ma
  · have h1' : (a.ma != b.ma) = false := by simpa using h1
    have h1'' : (a.ma == b.ma) = true := by simpa using h1
    by_cases h2 : a.mi = b.mi
    · have h2' : (a.mi != b.mi) = false := by simpa using h2
      have HE : Hid (M.older a b = decide (a.pa < b.pa)) := Lib.hid (by unfold M.older; rw [if_neg (by simpa using h1), if_neg (by simpa using h2)])
      clear h1 h2
      go_enter Tryz.func121, Tryz.ntmps121
      go_wp2
      go_ret
      exact ⟨ret_bool HE.out.symm, ((Below.refl _ _).alloc (Nat.le_refl _) _).alloc (by simp) _⟩
    · have h2' : (a.mi != b.mi) = true := by simpa using h2
      have HE : Hid (M.older a b = decide (a.mi < b.mi)) := Lib.hid (by unfold M.older; rw [if_neg (by simpa using h1), if_pos h2])
      clear h1 h2
      go_enter Tryz.func121, Tryz.ntmps121
      go_wp2
      go_ret
      exact ⟨ret_bool HE.out.symm, ((Below.refl _ _).alloc (Nat.le_refl _) _).alloc (by simp) _⟩
  · have h1' : (a.ma != b.ma) = true := by simpa using h1
    have HE : Hid (M.older a b = decide (a.ma < b.ma)) := Lib.hid (by unfold M.older; rw [if_pos h1])
    clear h1
    go_enter Tryz.func121, Tryz.ntmps121
    go_wp2
    go_ret
    exact ⟨ret_bool HE.out.symm, ((Below.refl _ _).alloc (Nat.le_refl _) _).alloc (by simp) _⟩

def dS (n : Nat) : ByteArray := ⟨(M.digs n).toArray⟩
theorem dS_list (n : Nat) : (dS n).data.toList = M.digs n := rfl
theorem dS_size (n : Nat) : (dS n).size ≤ 20 := M.digs_length n

theorem set3 {w w1 : World} (h : Below w.heap.size w w1) (x y z : Value) : Below w.heap.size w (((w1.setCell ⟨w.heap.size, 0, none⟩ x).setCell ⟨w.heap.size, 1, none⟩ y).setCell ⟨w.heap.size, 2, none⟩ z) :=
  ((h.setCell (Nat.le_refl _) _).setCell (Nat.le_refl _) _).setCell (Nat.le_refl _) _

theorem ret_ed {p : M.Ed × Bool} {a b c : Int} {k : Bool} (h : p = (⟨a, b, c⟩, k)) : Ending.returned (.tuple #[.agg #[.int .i64 a, .int .i64 b, .int .i64 c], .bool k]) = .returned (.tuple #[edV p.1, .bool p.2]) := by rw [h]

theorem strRow_three {B : Nat} {w : World} {v : Value} {ls : List (List UInt8)} {a b c : List UInt8} (h : StrRow B w v ls) (hl : ls = [a, b, c]) :
    ∃ g cap, v = .slice (some ⟨g, 0, none⟩) 3 cap ∧ B ≤ g ∧ g < w.heap.size ∧ w.cell? ⟨g, 0, none⟩ = some (.string ⟨a.toArray⟩) ∧ w.cell? ⟨g, 1, none⟩ = some (.string ⟨b.toArray⟩) ∧ w.cell? ⟨g, 2, none⟩ = some (.string ⟨c.toArray⟩) := by
  subst hl
  obtain ⟨g, cap, rfl, h0, h1, hc⟩ := h.open (by simp)
  exact ⟨g, cap, rfl, h0, h1, hc 0 (by simp), hc 1 (by simp), hc 2 (by simp)⟩

theorem edRead_other {l : List UInt8} (h : (M.split 46 l).length ≠ 3) : M.edRead l = (⟨0, 0, 0⟩, false) := by
  unfold M.edRead
  split
  · rename_i a b c e; rw [e] at h; exact absurd rfl h
  · rfl
theorem edRead_three {l a b c : List UInt8} (h : M.split 46 l = [a, b, c]) : M.edRead l = if (M.rd a).2 && (M.rd b).2 && (M.rd c).2 && M.edOk ⟨(M.rd a).1, (M.rd b).1, (M.rd c).1⟩ then (⟨(M.rd a).1, (M.rd b).1, (M.rd c).1⟩, true) else (⟨0, 0, 0⟩, false) := by
  unfold M.edRead; rw [h]; rfl

end Go.Proofs.YtblcgbgcccjpcaaGreat
