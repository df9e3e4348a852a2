/- Proved, in parts: Proved: plain facts on a text cut at a byte; no program is named here; no condition. Proved: plain facts on editions; no program is named here; no condition. Proved: a number that is read is written so, and what is written is read; likewise an edition; no program is named here; no condition. Proved: a text that is cut is its parts joined; an edition that is read is shown so, and what is shown is read; no program is named here; no condition. Proved: what deeds are, in plain Lean; no program is named here; no condition. Proved: what copies and works are, in plain Lean; no program is named here; no condition. Proved: facts on a row of bytes that a call has made for itself: read, stored into, turned back into a text; no condition. Proved: the model's l1Int writes a number's digits, at every number of 64 bits; it writes nothing that was there. Proved: the model's l1Split cuts a text of at most a million bytes at a byte; its list lies in new memory; it writes nothing that was there. -/
import Derived.Test.YtjdaeecmgkhpmaaGreatPart01
import Derived.WalkKit
import Derived.Laws.IdiomStrings
import Derived.Lib.Hide
import Derived.Lib.Strings
namespace Go.Proofs.YtjdaeecmgkhpmaaGreat
namespace M

def glue (cur : List UInt8) : List (List UInt8) → List (List UInt8)
  | [] => [cur]
  | h :: t => (cur ++ h) :: t
/-- The parts of a text between the bytes b. -/
def split (b : UInt8) : List UInt8 → List (List UInt8)
  | [] => [[]]
  | c :: r => if c = b then [] :: split b r else glue [c] (split b r)
theorem glue_ne (cur : List UInt8) (l : List (List UInt8)) : glue cur l ≠ [] := by cases l <;> simp [glue]
theorem split_ne (b : UInt8) (l : List UInt8) : split b l ≠ [] := by
  cases l with
  | nil => simp [split]
  | cons c r => unfold split; split
                · simp
                · exact glue_ne _ _
theorem glue_nil {l : List (List UInt8)} (h : l ≠ []) : glue [] l = l := by
  cases l with
  | nil => exact absurd rfl h
  | cons h t => simp [glue]
theorem glue_glue (a b : List UInt8) (l : List (List UInt8)) : glue a (glue b l) = glue (a ++ b) l := by
  cases l <;> simp [glue]

theorem glue_le {n : Nat} {cur : List UInt8} {l : List (List UInt8)} (hc : cur.length ≤ 1) (h : ∀ x ∈ l, x.length ≤ n) : ∀ x ∈ glue cur l, x.length ≤ n + 1 := by
  intro x hx
  cases l with
  | nil => simp [glue] at hx; subst hx; omega
  | cons a t =>
    simp only [glue, List.mem_cons] at hx
    rcases hx with rfl | hx
    · have := h a (by simp); simp; omega
    · have := h x (by simp [hx]); omega
theorem split_le (b : UInt8) : ∀ (l : List UInt8), ∀ x ∈ split b l, x.length ≤ l.length
  | [] => by simp [split]
  | c :: r => by
    intro x hx
    have ih := split_le b r
    unfold split at hx
    split at hx
    · simp only [List.mem_cons] at hx
      rcases hx with rfl | hx
      · simp
      · have := ih x hx; simp; omega
    · exact glue_le (by simp) ih x hx

/-- The head of each round: k bytes are behind, the part under way began at f, P are the parts that are done. -/
def Srel (b : UInt8) (L : List UInt8) (f k : Nat) (P : List (List UInt8)) : Prop :=
  f ≤ k ∧ P.length ≤ k ∧ (k ≤ L.length ∧ split b L = P ++ glue ((L.take k).drop f) (split b (L.drop k)) ∨ k = L.length + 1 ∧ split b L = P)
theorem Srel_start (b : UInt8) (L : List UInt8) : Srel b L 0 0 [] :=
  ⟨Nat.le_refl _, by simp, .inl ⟨Nat.zero_le _, by simp [glue_nil (split_ne b L)]⟩⟩
theorem Srel_last {b : UInt8} {L : List UInt8} {f : Nat} {P : List (List UInt8)} (h : Srel b L f L.length P) : Srel b L (L.length + 1) (L.length + 1) (P ++ [L.drop f]) := by
  obtain ⟨hf, hp, h | h⟩ := h
  · refine ⟨Nat.le_refl _, by simp; omega, .inr ⟨rfl, ?_⟩⟩
    have h2 := h.2
    rw [List.drop_of_length_le (Nat.le_refl _), List.take_of_length_le (Nat.le_refl _)] at h2
    simpa [split, glue] using h2
  · omega
theorem Srel_cut {b : UInt8} {L : List UInt8} {f k : Nat} {P : List (List UInt8)} (h : Srel b L f k P) (hk : k < L.length) (hb : L[k] = b) : Srel b L (k + 1) (k + 1) (P ++ [(L.take k).drop f]) := by
  obtain ⟨hf, hp, h | h⟩ := h
  · refine ⟨Nat.le_refl _, by simp; omega, .inl ⟨hk, ?_⟩⟩
    have e1 : split b (L.drop k) = [] :: split b (L.drop (k + 1)) := by
      rw [List.drop_eq_getElem_cons hk, hb]; simp [split]
    have e2 : (L.take (k + 1)).drop (k + 1) = [] := List.drop_of_length_le (by simp; omega)
    rw [h.2, e1, e2, glue_nil (split_ne b _)]
    simp [glue]
  · omega
theorem Srel_on {b : UInt8} {L : List UInt8} {f k : Nat} {P : List (List UInt8)} (h : Srel b L f k P) (hk : k < L.length) (hb : L[k] ≠ b) : Srel b L f (k + 1) P := by
  obtain ⟨hf, hp, h | h⟩ := h
  · refine ⟨by omega, by omega, .inl ⟨hk, ?_⟩⟩
    rw [h.2, List.drop_eq_getElem_cons hk]
    simp only [split, if_neg hb]
    rw [glue_glue, List.take_succ_eq_append_getElem hk, List.drop_append_of_le_length (by simp; omega)]
  · omega
theorem Srel_end {b : UInt8} {L : List UInt8} {f k : Nat} {P : List (List UInt8)} (h : Srel b L f k P) (hk : L.length < k) : split b L = P := by
  obtain ⟨_, _, h | h⟩ := h
  · omega
  · exact h.2
end M
end Go.Proofs.YtjdaeecmgkhpmaaGreat
namespace Go.Proofs.YtjdaeecmgkhpmaaGreat
namespace M

structure Ed where
  ma : Int
  mi : Int
  pa : Int
deriving DecidableEq

def inI (x lo hi : Int) : Bool := decide (lo ≤ x) && decide (x ≤ hi)
def edOk (e : Ed) : Bool := inI e.ma 0 99 && inI e.mi 0 99 && inI e.pa 0 99
def edText (e : Ed) : List UInt8 := intText e.ma ++ ([46] ++ (intText e.mi ++ ([46] ++ intText e.pa)))
def edShow (e : Ed) : List UInt8 := if edOk e then edText e else []
def older (a b : Ed) : Bool := if a.ma ≠ b.ma then decide (a.ma < b.ma) else if a.mi ≠ b.mi then decide (a.mi < b.mi) else decide (a.pa < b.pa)
def fits (h w : Ed) : Bool := edOk h && edOk w && decide (h.ma = w.ma) && !older h w
def zeroEd : Ed := ⟨0, 0, 0⟩
def edRead (l : List UInt8) : Ed × Bool :=
  match split 46 l with
  | [a, b, c] => if (rd a).2 && (rd b).2 && (rd c).2 && edOk ⟨(rd a).1, (rd b).1, (rd c).1⟩ then (⟨(rd a).1, (rd b).1, (rd c).1⟩, true) else (zeroEd, false)
  | _ => (zeroEd, false)

theorem older_iff (a b : Ed) : older a b = true ↔ a.ma < b.ma ∨ a.ma = b.ma ∧ (a.mi < b.mi ∨ a.mi = b.mi ∧ a.pa < b.pa) := by
  unfold older
  by_cases h1 : a.ma = b.ma
  · rw [if_neg (by simpa using h1)]
    by_cases h2 : a.mi = b.mi
    · rw [if_neg (by simpa using h2)]; simp; omega
    · rw [if_pos h2]; simp; omega
  · rw [if_pos h1]; simp; omega
theorem older_iff_f (a b : Ed) : older a b = false ↔ ¬ (a.ma < b.ma ∨ a.ma = b.ma ∧ (a.mi < b.mi ∨ a.mi = b.mi ∧ a.pa < b.pa)) := by
  rw [← older_iff]; simp
theorem ed_ext (a b : Ed) : a = b ↔ a.ma = b.ma ∧ a.mi = b.mi ∧ a.pa = b.pa := by
  cases a; cases b; simp
theorem older_irrefl (a : Ed) : older a a = false := by rw [older_iff_f]; omega
theorem older_asymm (a b : Ed) (h : older a b = true) : older b a = false := by rw [older_iff] at h; rw [older_iff_f]; omega
theorem older_trans (a b c : Ed) (h : older a b = true) (k : older b c = true) : older a c = true := by rw [older_iff] at h k ⊢; omega
theorem older_total (a b : Ed) (h : older a b = false) (k : older b a = false) : a = b := by rw [older_iff_f] at h k; rw [ed_ext]; omega
end M
end Go.Proofs.YtjdaeecmgkhpmaaGreat
namespace Go.Proofs.YtjdaeecmgkhpmaaGreat
namespace M

theorem isDig_dig (d : Nat) (h : d < 10) : isDig (dig d) = true := by
  unfold isDig; rw [dig_toNat d h]; simp; omega
theorem dig_of (c : UInt8) (h : isDig c = true) : dig (c.toNat - 48) = c := by
  simp [isDig] at h
  apply UInt8.toNat_inj.1
  rw [dig_toNat _ (by omega)]; omega

theorem digsF_all : ∀ (f n : Nat), (digsF f n).all isDig = true
  | 0, _ => by simp [digsF]
  | f + 1, n => by
    unfold digsF; split
    · rename_i h; simp [isDig_dig n h]
    · rw [List.all_append, digsF_all f (n / 10)]; simp [isDig_dig (n % 10) (by omega)]
theorem digs_all (n : Nat) : (digs n).all isDig = true := digsF_all 20 n

theorem digsF_val : ∀ (f n : Nat), n < 10 ^ f → valOf (digsF f n) = n
  | 0, n, h => by have : n = 0 := by simpa using h
                  subst this; rfl
  | f + 1, n, h => by
    unfold digsF; split
    · rename_i h10
      simp [valOf, dig_toNat n h10]
    · rw [valOf_snoc, digsF_val f (n / 10) (by rw [Nat.pow_succ] at h; omega), dig_toNat _ (by omega)]; omega
theorem digs_val (n : Nat) (h : n < 10 ^ 20) : valOf (digs n) = n := digsF_val 20 n h

theorem digsF_head : ∀ (f n : Nat), n < 10 ^ f → 10 ≤ n → ∃ c r, digsF f n = c :: r ∧ 48 < c.toNat
  | 0, n, h, h1 => by have : n = 0 := by simpa using h
                      omega
  | f + 1, n, h, h1 => by
    unfold digsF
    rw [if_neg (by omega)]
    by_cases h2 : 10 ≤ n / 10
    · obtain ⟨c, r, e, hc⟩ := digsF_head f (n / 10) (by rw [Nat.pow_succ] at h; omega) h2
      exact ⟨c, r ++ [dig (n % 10)], by rw [e]; rfl, hc⟩
    · cases f with
      | zero => simp at h; omega
      | succ f =>
        refine ⟨dig (n / 10), [dig (n % 10)], ?_, ?_⟩
        · unfold digsF; rw [if_pos (by omega)]; rfl
        · rw [dig_toNat _ (by omega)]; omega

theorem digsF_len : ∀ (f n k : Nat), n < 10 ^ k → 1 ≤ k → (digsF f n).length ≤ k
  | 0, _, _, _, _ => by simp [digsF]
  | f + 1, n, k, h, hk => by
    unfold digsF; split
    · simp; omega
    · rename_i h10
      obtain ⟨j, rfl⟩ : ∃ j, k = j + 1 := ⟨k - 1, by omega⟩
      have hj : 1 ≤ j := by
        rcases Nat.eq_zero_or_pos j with rfl | hj
        · simp at h; omega
        · exact hj
      have := digsF_len f (n / 10) j (by rw [Nat.pow_succ] at h; omega) hj
      simp; omega

theorem natRead_digs (n : Nat) (h : n < 10 ^ 9) : natRead (digs n) = some n := by
  have h20 : n < 10 ^ 20 := Nat.lt_trans h (by decide)
  have hl := digsF_len 20 n 9 h (by decide)
  have hne := digs_ne n
  rw [natRead_some (digs n) (by have : (digs n).length ≠ 0 := fun e => hne (List.eq_nil_of_length_eq_zero e)
                                omega) hl (digs_all n) ?_, digs_val n h20]
  rintro ⟨e1, e2⟩
  by_cases h10 : n < 10
  · rw [digs_small n h10] at e2; simp at e2
  · obtain ⟨c, r, e, hc⟩ := digsF_head 20 n h20 (by omega)
    unfold digs at e1
    rw [e] at e1
    simp at e1; omega

theorem digs_of : ∀ (k : Nat) (l : List UInt8), l.length = k → l ≠ [] → l.all isDig = true → l.length ≤ 20 → ¬ (l.head?.map UInt8.toNat = some 48 ∧ 1 < l.length) → digs (valOf l) = l ∧ (1 < l.length → 0 < valOf l)
  | 0, l, hk, hne, _, _, _ => absurd (List.eq_nil_of_length_eq_zero hk) hne
  | k + 1, l, hk, hne, hd, h20, hz => by
    have hlt := valOf_lt l hd
    have hlt' : valOf l < 10 ^ 20 := Nat.lt_of_lt_of_le hlt (Nat.pow_le_pow_right (by omega) h20)
    obtain ⟨r, c, rfl⟩ : ∃ r c, l = r ++ [c] := ⟨l.dropLast, l.getLast hne, (List.dropLast_concat_getLast hne).symm⟩
    rw [List.all_append] at hd
    simp only [List.all_cons, List.all_nil, Bool.and_true, Bool.and_eq_true] at hd
    have hc := hd.2
    have hc' := hc
    simp [isDig] at hc'
    rw [valOf_snoc] at hlt' ⊢
    have e1 : (valOf r * 10 + (c.toNat - 48)) / 10 = valOf r := by omega
    have e2 : (valOf r * 10 + (c.toNat - 48)) % 10 = c.toNat - 48 := by omega
    rw [digs_last _ hlt', e1, e2, dig_of c hc]
    rcases r with _ | ⟨x, r⟩
    · exact ⟨rfl, by simp⟩
    · have ih := digs_of k (x :: r) (by simpa using hk) (by simp) hd.1 (by simp at h20 ⊢; omega) (by
        rintro ⟨a, b⟩; exact hz ⟨by simpa using a, by simp⟩)
      have hpos : 0 < valOf (x :: r) := by
        rcases r with _ | ⟨y, r⟩
        · have hx : isDig x = true := by simpa using hd.1
          simp [isDig] at hx
          have hx2 : x.toNat ≠ 48 := fun e => hz ⟨by simp [e], by simp⟩
          simp [valOf]; omega
        · exact ih.2 (by simp)
      refine ⟨?_, fun _ => by omega⟩
      unfold digs0
      rw [if_neg (by omega), ih.1]

theorem natRead_digs_of {l : List UInt8} {n : Nat} (h : natRead l = some n) : l = digs n := by
  unfold natRead at h
  split at h
  · cases h
  · rename_i hh
    injection h with h
    simp only [not_or] at hh
    obtain ⟨h1, h2, h3, h4⟩ := hh
    have hne : l ≠ [] := fun e => by rw [e] at h1; simp at h1
    rw [← h]
    exact (digs_of l.length l rfl hne (by simpa using h3) (by omega) h4).1.symm
theorem natRead_lt {l : List UInt8} {n : Nat} (h : natRead l = some n) : n < 10 ^ 9 := by
  unfold natRead at h
  split at h
  · cases h
  · rename_i hh
    injection h with h
    simp only [not_or] at hh
    obtain ⟨h1, h2, h3, h4⟩ := hh
    have := valOf_lt l (by simpa using h3)
    rw [← h]
    exact Nat.lt_of_lt_of_le this (Nat.pow_le_pow_right (by omega) (by omega))

theorem head_not_sign (n : Nat) : (digs n).head?.map UInt8.toNat ≠ some 45 := by
  have h := digs_all n
  cases e : digs n with
  | nil => simp
  | cons c r =>
    rw [e] at h
    simp [isDig] at h
    simp; omega

/-- A number that is not below 0 is read from what is written. -/
theorem rd_digs (n : Nat) (h : n < 10 ^ 9) : rd (digs n) = ((n : Int), true) := rd_pos_some _ (head_not_sign n) (natRead_digs n h)
/-- What is read is written so. -/
theorem rd_text {l : List UInt8} (h : (rd l).2 = true) : l = intText (rd l).1 := by
  unfold rd at h ⊢
  cases e : intRead l with
  | none => rw [e] at h; cases h
  | some n =>
    unfold intRead at e
    show l = intText n
    split at e
    · rename_i hs
      split at e
      · cases e
      · rename_i h0
        obtain ⟨m, hm, rfl⟩ := Option.map_eq_some_iff.1 e
        have hd := natRead_digs_of hm
        have hm0 : m ≠ 0 := by
          rintro rfl
          rw [hd] at h0
          exact h0 rfl
        cases l with
        | nil => simp at hs
        | cons c r =>
          have hc : c = 45 := by apply UInt8.toNat_inj.1; simpa using hs
          have hr : r = digs m := by simpa using hd
          unfold intText
          rw [if_pos (by omega), hc, hr]; simp
    · obtain ⟨m, hm, rfl⟩ := Option.map_eq_some_iff.1 e
      unfold intText
      rw [if_neg (by omega)]
      exact natRead_digs_of hm
end M
end Go.Proofs.YtjdaeecmgkhpmaaGreat
namespace Go.Proofs.YtjdaeecmgkhpmaaGreat
namespace M

def join (b : UInt8) : List (List UInt8) → List UInt8
  | [] => []
  | [x] => x
  | x :: y :: r => x ++ b :: join b (y :: r)
theorem join_glue (b c : UInt8) {l : List (List UInt8)} (h : l ≠ []) : join b (glue [c] l) = c :: join b l := by
  match l, h with
  | [x], _ => rfl
  | x :: y :: r, _ => rfl
theorem join_nil (b : UInt8) {l : List (List UInt8)} (h : l ≠ []) : join b ([] :: l) = b :: join b l := by
  match l, h with
  | x :: r, _ => rfl
theorem join_split (b : UInt8) : ∀ l : List UInt8, join b (split b l) = l
  | [] => rfl
  | c :: r => by
    unfold split; split
    · rename_i h; rw [join_nil b (split_ne b r), join_split b r, h]
    · rw [join_glue b c (split_ne b r), join_split b r]
theorem split_one (b : UInt8) : ∀ l : List UInt8, b ∉ l → split b l = [l]
  | [], _ => rfl
  | c :: r, h => by
    simp only [List.mem_cons, not_or] at h
    unfold split
    rw [if_neg (fun e => h.1 e.symm), split_one b r h.2]; rfl
theorem split_more (b : UInt8) : ∀ (l r : List UInt8), b ∉ l → split b (l ++ b :: r) = l :: split b r
  | [], r, _ => by simp [split]
  | c :: l, r, h => by
    simp only [List.mem_cons, not_or] at h
    have e1 : split b (c :: (l ++ b :: r)) = glue [c] (split b (l ++ b :: r)) := by
      conv => lhs; unfold split
      rw [if_neg (fun e => h.1 e.symm)]
    show split b (c :: (l ++ b :: r)) = _
    rw [e1, split_more b l r h.2]; rfl
theorem digs_not (n : Nat) (b : UInt8) (hb : isDig b = false) : b ∉ digs n := by
  intro h
  have := (List.all_eq_true.1 (digs_all n)) b h
  rw [hb] at this; cases this

theorem edOk_iff (e : Ed) : edOk e = true ↔ (0 ≤ e.ma ∧ e.ma ≤ 99) ∧ (0 ≤ e.mi ∧ e.mi ≤ 99) ∧ (0 ≤ e.pa ∧ e.pa ≤ 99) := by
  simp [edOk, inI]; omega
theorem intText_pos {x : Int} (h : 0 ≤ x) : intText x = digs x.toNat := by
  unfold intText; rw [if_neg (by omega)]; congr 1; omega

theorem edRead_text (e : Ed) (h : edOk e = true) : edRead (edText e) = (e, true) := by
  obtain ⟨h1, h2, h3⟩ := (edOk_iff e).1 h
  have es : split 46 (edText e) = [digs e.ma.toNat, digs e.mi.toNat, digs e.pa.toNat] := by
    unfold edText
    rw [intText_pos h1.1, intText_pos h2.1, intText_pos h3.1]
    show split 46 (digs _ ++ 46 :: (digs _ ++ 46 :: digs _)) = _
    rw [split_more 46 _ _ (digs_not _ _ rfl), split_more 46 _ _ (digs_not _ _ rfl), split_one 46 _ (digs_not _ _ rfl)]
  unfold edRead
  rw [es]
  simp only [rd_digs e.ma.toNat (by omega), rd_digs e.mi.toNat (by omega), rd_digs e.pa.toNat (by omega)]
  have ee : (⟨(e.ma.toNat : Int), (e.mi.toNat : Int), (e.pa.toNat : Int)⟩ : Ed) = e := by
    rw [ed_ext]; simp only; omega
  rw [ee, h]; rfl
theorem edRead_show (e : Ed) (h : edOk e = true) : edRead (edShow e) = (e, true) := by
  unfold edShow; rw [if_pos h]; exact edRead_text e h
theorem edShow_read {l : List UInt8} (h : (edRead l).2 = true) : edShow (edRead l).1 = l ∧ edOk (edRead l).1 = true := by
  have hj := join_split 46 l
  unfold edRead at h ⊢
  split
  · rename_i a b c es
    rw [es] at h hj
    simp only at h
    split at h
    · rename_i hc
      rw [if_pos hc]
      simp only [Bool.and_eq_true] at hc
      obtain ⟨⟨⟨r1, r2⟩, r3⟩, r4⟩ := hc
      refine ⟨?_, r4⟩
      simp only
      unfold edShow
      rw [if_pos r4]
      unfold edText
      simp only
      rw [← rd_text r1, ← rd_text r2, ← rd_text r3, ← hj]
      simp [join]
    · cases h
  · rename_i hn
    split at h
    · rename_i a b c es; exact absurd es (hn a b c)
    · cases h
theorem edRead_zero {l : List UInt8} (h : (edRead l).2 = false) : (edRead l).1 = ⟨0, 0, 0⟩ := by
  unfold edRead at h ⊢
  split
  · rename_i a b c es
    rw [es] at h
    simp only at h
    split at h
    · cases h
    · rename_i hc; rw [if_neg hc]; rfl
  · rfl
theorem edText_ne (e : Ed) : edText e ≠ [] := by
  unfold edText; simp
theorem edShow_empty (e : Ed) : edShow e = [] ↔ edOk e = false := by
  unfold edShow
  cases h : edOk e
  · simp
  · simp [edText_ne]
theorem edText_len (e : Ed) (h : edOk e = true) : (edText e).length ≤ 62 := by
  have := intText_length e.ma; have := intText_length e.mi; have := intText_length e.pa
  have h' := (edOk_iff e).1 h
  have l1 := digs_length e.ma.toNat; have l2 := digs_length e.mi.toNat; have l3 := digs_length e.pa.toNat
  unfold edText
  rw [intText_pos h'.1.1, intText_pos h'.2.1.1, intText_pos h'.2.2.1]
  simp; omega

theorem fits_self (e : Ed) : fits e e = edOk e := by
  unfold fits; rw [older_irrefl]; simp
theorem fits_true {a b : Ed} (h : fits a b = true) : a.ma = b.ma ∧ older a b = false := by
  unfold fits at h; simp at h; exact ⟨h.1.2, h.2⟩
theorem fits_trans {a b c : Ed} (h : fits a b = true) (k : fits b c = true) : fits a c = true := by
  unfold fits at *
  simp only [Bool.and_eq_true, Bool.not_eq_true', decide_eq_true_eq] at *
  refine ⟨⟨⟨h.1.1.1, k.1.1.2⟩, by rw [h.1.2, k.1.2]⟩, ?_⟩
  rw [older_iff_f] at *
  have := h.2; have := k.2; have := h.1.2; have := k.1.2
  omega
end M
end Go.Proofs.YtjdaeecmgkhpmaaGreat
namespace Go.Proofs.YtjdaeecmgkhpmaaGreat
namespace M

structure Dd where
  kind : Int
  name : ByteArray
  ed : Ed
  page : ByteArray
  who : Int
deriving DecidableEq

def nilB : ByteArray := ⟨#[]⟩
def mkB (l : List UInt8) : ByteArray := ⟨l.toArray⟩
def zeroDd : Dd := ⟨0, nilB, zeroEd, nilB, 0⟩

def deedOk (d : Dd) : Bool :=
  nameOk d.name.data.toList && edOk d.ed && pageOk d.page.data.toList && inI d.who 0 3 && (decide (d.kind = 2) || decide (d.page.size = 0)) &&
    (if d.kind = 1 then decide (d.ed = zeroEd) else if d.kind = 5 then decide (d.who = 0) else if d.kind = 6 then decide (d.ed.mi = 0) && decide (d.ed.pa = 0) else inI d.kind 2 4)

def wClaim : List UInt8 := [99, 108, 97, 105, 109]
def wPut : List UInt8 := [112, 117, 116]
def wHide : List UInt8 := [104, 105, 100, 101]
def wShow : List UInt8 := [115, 104, 111, 119]
def wFetch : List UInt8 := [102, 101, 116, 99, 104]
def wGive : List UInt8 := [103, 105, 118, 101]
def pageText (p : ByteArray) : List UInt8 := if p.size = 0 then [45] else p.data.toList
def pageRead (l : List UInt8) : ByteArray := if l = [45] then nilB else mkB l

def deedWords (d : Dd) : List (List UInt8) :=
  if d.kind = 1 then [wClaim, d.name.data.toList, intText d.who]
  else if d.kind = 2 then [wPut, d.name.data.toList, edText d.ed, pageText d.page, intText d.who]
  else if d.kind = 3 then [wHide, d.name.data.toList, edText d.ed, intText d.who]
  else if d.kind = 4 then [wShow, d.name.data.toList, edText d.ed, intText d.who]
  else if d.kind = 5 then [wFetch, d.name.data.toList, edText d.ed]
  else [wGive, d.name.data.toList, intText d.who, intText d.ed.ma]
def deedText (d : Dd) : List UInt8 := join 32 (deedWords d)
def deedShow (d : Dd) : List UInt8 := if deedOk d then deedText d else []

/-- The deed that some words tell, and whether each of them is of its form. -/
def deedShape : List (List UInt8) → Option (Dd × Bool)
  | [k, n, a] => if k = wClaim then some (⟨1, mkB n, zeroEd, nilB, (rd a).1⟩, (rd a).2)
      else if k = wFetch then some (⟨5, mkB n, (edRead a).1, nilB, 0⟩, (edRead a).2) else none
  | [k, n, a, b] => if k = wHide then some (⟨3, mkB n, (edRead a).1, nilB, (rd b).1⟩, (edRead a).2 && (rd b).2)
      else if k = wShow then some (⟨4, mkB n, (edRead a).1, nilB, (rd b).1⟩, (edRead a).2 && (rd b).2)
      else if k = wGive then some (⟨6, mkB n, ⟨(rd b).1, 0, 0⟩, nilB, (rd a).1⟩, (rd a).2 && (rd b).2) else none
  | [k, n, a, b, c] => if k = wPut then some (⟨2, mkB n, (edRead a).1, pageRead b, (rd c).1⟩, (edRead a).2 && decide (b ≠ []) && (rd c).2) else none
  | _ => none
def deedRead (l : List UInt8) : Dd × Bool := match deedShape (split 32 l) with
  | none => (zeroDd, false)
  | some (d, g) => if g && deedOk d then (d, true) else (zeroDd, false)
theorem size0 {s : ByteArray} (h : s.size = 0) : s = nilB := by
  apply ByteArray.ext; exact Array.eq_empty_of_size_eq_zero h

/-- What a right deed is, kind by kind. -/
theorem deedOk_iff (d : Dd) : deedOk d = true ↔ nameOk d.name.data.toList = true ∧ edOk d.ed = true ∧ pageOk d.page.data.toList = true ∧ (0 ≤ d.who ∧ d.who ≤ 3) ∧ (d.kind = 2 ∨ d.page.size = 0) ∧
    ((d.kind = 1 ∧ d.ed = zeroEd) ∨ d.kind = 2 ∨ d.kind = 3 ∨ d.kind = 4 ∨ (d.kind = 5 ∧ d.who = 0) ∨ (d.kind = 6 ∧ d.ed.mi = 0 ∧ d.ed.pa = 0)) := by
  simp only [deedOk, inI, Bool.and_eq_true, Bool.or_eq_true, decide_eq_true_eq, and_assoc]
  refine and_congr_right fun _ => and_congr_right fun _ => and_congr_right fun _ => and_congr_right fun _ => and_congr_right fun _ => and_congr_right fun _ => ?_
  by_cases h1 : d.kind = 1
  · rw [if_pos h1]; simp [h1]
  · rw [if_neg h1]
    by_cases h5 : d.kind = 5
    · rw [if_pos h5]; simp [h5]
    · rw [if_neg h5]
      by_cases h6 : d.kind = 6
      · rw [if_pos h6]; simp [h6]
      · rw [if_neg h6]; simp [h1, h5, h6]; omega

end M
end Go.Proofs.YtjdaeecmgkhpmaaGreat
namespace Go.Proofs.YtjdaeecmgkhpmaaGreat
namespace M

structure Cp where
  ed : Ed
  page : ByteArray
  hidden : Bool
deriving DecidableEq
structure Wk where
  name : ByteArray
  owner : Int
  copies : List Cp
deriving DecidableEq

def cpOk (c : Cp) : Bool := edOk c.ed && pageOk c.page.data.toList
/-- Each is older than the next one. -/
def risesB : List Cp → Bool
  | a :: b :: l => older a.ed b.ed && risesB (b :: l)
  | _ => true
def cpsOk (l : List Cp) : Bool := l.all cpOk && risesB l
def wkOk (w : Wk) : Bool := nameOk w.name.data.toList && inI w.owner 0 3 && decide (w.copies.length ≤ 8) && cpsOk w.copies
def zeroCp : Cp := ⟨zeroEd, nilB, false⟩
def zeroWk : Wk := ⟨nilB, 0, []⟩

/-- How much the bounds of the laws count of a list of copies. -/
def szPages : List Cp → Nat
  | [] => 0
  | c :: l => c.page.size + szPages l
theorem szPages_take (l : List Cp) (i : Nat) (h : i < l.length) : szPages (l.take (i + 1)) = szPages (l.take i) + l[i].page.size := by
  induction l generalizing i with
  | nil => simp at h
  | cons c l ih =>
    cases i with
    | zero => simp [szPages]
    | succ i => simp [szPages, ih i (by simpa using h)]; omega
theorem szPages_take_le (l : List Cp) (i : Nat) : szPages (l.take i) ≤ szPages l := by
  induction l generalizing i with
  | nil => simp [szPages]
  | cons c l ih =>
    cases i with
    | zero => simp [szPages]
    | succ i => have := ih i; simp [szPages]; omega
theorem szPages_mem (l : List Cp) (c : Cp) (h : c ∈ l) : c.page.size ≤ szPages l := by
  induction l with
  | nil => simp at h
  | cons d l ih =>
    rcases List.mem_cons.1 h with rfl | h
    · simp [szPages]
    · have := ih h; simp [szPages]; omega

/-! ### All are right and each is older than the next: seen place by place. -/
def pairOk (l : List Cp) (i : Nat) : Bool := match l[i]?, l[i + 1]? with
  | some a, some b => older a.ed b.ed
  | _, _ => true
theorem risesB_iff : ∀ l : List Cp, risesB l = true ↔ ∀ (i : Nat) (h : i + 1 < l.length), older l[i].ed l[i + 1].ed = true
  | [] => by simp [risesB]
  | [a] => by simp [risesB]
  | a :: b :: l => by
    have ih := risesB_iff (b :: l)
    simp only [risesB, Bool.and_eq_true, ih]
    constructor
    · rintro ⟨h0, h⟩ i hi
      cases i with
      | zero => exact h0
      | succ i => exact h i (by simpa using hi)
    · intro h
      exact ⟨h 0 (by simp), fun i hi => h (i + 1) (by simpa using hi)⟩
theorem cpsOk_iff (l : List Cp) : cpsOk l = true ↔ ∀ (i : Nat) (h : i < l.length), cpOk l[i] = true ∧ (∀ j (e : i = j + 1), older (l[j]'(by omega)).ed l[i].ed = true) := by
  unfold cpsOk
  rw [Bool.and_eq_true, risesB_iff, List.all_eq_true]
  constructor
  · rintro ⟨h1, h2⟩ i hi
    exact ⟨h1 _ (List.getElem_mem hi), fun j e => by subst e; exact h2 j hi⟩
  · intro h
    exact ⟨fun c hc => by
      obtain ⟨i, hi, rfl⟩ := List.mem_iff_getElem.1 hc
      exact (h i hi).1, fun i hi => (h (i + 1) hi).2 i rfl⟩
/-- Up to here all is right. -/
def upTo (l : List Cp) (k : Nat) : Prop := ∀ (i : Nat) (h : i < l.length), i < k → cpOk l[i] = true ∧ (∀ j (e : i = j + 1), older (l[j]'(by omega)).ed l[i].ed = true)
theorem upTo_zero (l : List Cp) : upTo l 0 := fun _ _ h => absurd h (by omega)
theorem upTo_all (l : List Cp) (h : upTo l l.length) : cpsOk l = true := (cpsOk_iff l).2 fun i hi => h i hi hi
theorem upTo_first {l : List Cp} (h : 0 < l.length) (h0 : cpOk l[0] = true) : upTo l 1 := fun i hi hk => by
  obtain rfl : i = 0 := by omega
  exact ⟨h0, fun j e => by omega⟩
theorem upTo_next {l : List Cp} {k : Nat} (h : upTo l (k + 1)) (hk : k + 1 < l.length) (h0 : cpOk l[k + 1] = true) (h1 : older l[k].ed l[k + 1].ed = true) : upTo l (k + 2) := fun i hi hk' => by
  by_cases e : i = k + 1
  · subst e; exact ⟨h0, fun j e => by obtain rfl : j = k := by omega
                                      exact h1⟩
  · exact h i hi (by omega)
theorem cpsOk_not_copy {l : List Cp} {k : Nat} (h : k < l.length) (h0 : cpOk l[k] = false) : cpsOk l = false := by
  rcases hc : cpsOk l with _ | _
  · rfl
  · have := ((cpsOk_iff l).1 hc k h).1; rw [h0] at this; cases this
theorem cpsOk_not_older {l : List Cp} {k : Nat} (h : k + 1 < l.length) (h0 : older l[k].ed l[k + 1].ed = false) : cpsOk l = false := by
  rcases hc : cpsOk l with _ | _
  · rfl
  · have := ((cpsOk_iff l).1 hc (k + 1) h).2 k rfl; rw [h0] at this; cases this
end M
end Go.Proofs.YtjdaeecmgkhpmaaGreat
namespace Go.Proofs.YtjdaeecmgkhpmaaGreat
open Go.RowKit

/-- Block g holds the bytes l, and none of these cells is frozen. -/
def BRow (w : World) (g : Nat) (l : List UInt8) : Prop :=
  g < w.heap.size ∧ ∀ j (hj : j < l.length), w.cell? ⟨g, j, none⟩ = some (.int .u8 (l[j].toNat : Int)) ∧ w.frozen? ⟨g, j, none⟩ = false

theorem BRow.drew {w : World} {g : Nat} {l : List UInt8} (h : BRow w g l) : BRow w.drew g l := h

theorem BRow.kept {w w' : World} {g : Nat} {l : List UInt8} {row : Option Nat} (h : BRow w g l) (hg : w.grownBy w' row) (hne : some g ≠ row) : BRow w' g l := by
  have hb := hg.block g h.1 hne
  refine ⟨Nat.lt_of_lt_of_le h.1 hg.size, fun j hj => ⟨?_, ?_⟩⟩
  · exact (World.cell?_of_block (a := ⟨g, j, none⟩) hb).trans (h.2 j hj).1
  · exact (World.frozen?_of_block (a := ⟨g, j, none⟩) hb).trans (h.2 j hj).2

theorem BRow.of_conv (w : World) (s : ByteArray) (cap : Nat) (e : TypeId) :
    BRow (w.alloc (.cells (bytesRow s cap) e ((bytesRow s cap).size, (bytesRow s cap).size + 1))) w.heap.size s.data.toList := by
  refine ⟨by simp, fun j hj => ?_⟩
  have hj' : j < s.data.size := by simpa using hj
  have hz : s.data.size ≤ (bytesRow s cap).size := by unfold bytesRow; simp
  refine ⟨?_, ?_⟩
  · rw [World.cell?_alloc_mark, bytesRow_at s cap j hj']; simp
  · rw [World.frozen?_alloc_mark]; simp; omega

theorem BRow.store {w : World} {g : Nat} {l : List UInt8} (h : BRow w g l) (k : Nat) (c : UInt8) :
    BRow (w.setCell ⟨g, k, none⟩ (.int .u8 (c.toNat : Int))) g (l.set k c) := by
  refine ⟨by simpa using h.1, fun j hj => ?_⟩
  have hj' : j < l.length := by simpa using hj
  refine ⟨?_, by rw [World.frozen?_setCell]; exact (h.2 j hj').2⟩
  by_cases e : k = j
  · subst e
    rw [World.cell?_setCell_same w _ _ (h.2 k hj').1]; simp
  · rw [World.cell?_setCell_other w _ _ _ (by simp), (h.2 j hj').1]
    simp [e]

theorem BRow.back {P : Program} {w : World} {g : Nat} {l : List UInt8} (h : BRow w g l) (src dst e : TypeId) (cap n : Nat) (hn : l.length = n)
    (hs : P.underlying src = some (.slice e)) (he : P.underlying e = some (.int .u8)) (hd : P.underlying dst = some .string) :
    (convert src dst (.slice (some ⟨g, 0, none⟩) n cap)).run P w = .ok (.string ⟨l.toArray⟩) w := by
  subst hn
  exact run_convert_bytes_back w src dst e ⟨g, 0, none⟩ cap l hs he hd (fun j hj => by rw [show (⟨g, 0, none⟩ : Addr).add j = ⟨g, j, none⟩ from by unfold Addr.add; split <;> simp_all]; exact (h.2 j hj).1)
end Go.Proofs.YtjdaeecmgkhpmaaGreat
namespace Go.Proofs.YtjdaeecmgkhpmaaGreat
open Go.RowKit

theorem one_byte (w : World) (d : Nat) (hd : d < 10) (x : Int) (hx : x = 48 + (d : Int)) :
    (convert 130 9 (.slice (some ⟨w.heap.size, 0, none⟩) 1 1)).run Tryz.prog (w.alloc (.cells #[.int .u8 x] 5)) = .ok (.string ⟨#[M.dig d]⟩) (w.alloc (.cells #[.int .u8 x] 5)) := by
  refine run_convert_bytes_back _ 130 9 5 ⟨w.heap.size, 0, none⟩ 1 [M.dig d] Tryz.underlying130 Tryz.underlying5 Tryz.underlying9 ?_
  intro j hj
  have hj0 : j = 0 := by simpa using hj
  subst hj0
  show (w.alloc _).cell? ⟨w.heap.size, 0, none⟩ = _
  rw [World.cell?_alloc_mark]
  simp [M.dig_toNat d hd, hx]

theorem cat_mk (a b : List UInt8) : (⟨a.toArray⟩ ++ ⟨b.toArray⟩ : ByteArray) = ⟨(a ++ b).toArray⟩ := by
  apply ByteArray.ext; simp

def blank : Value → Nat
  | .string s => if s.size = 0 then 1 else 0
  | _ => 0

theorem blank_nil : blank (.string ⟨#[]⟩) = 1 := rfl
theorem blank_cons (c : UInt8) (r : List UInt8) : blank (.string ⟨(c :: r).toArray⟩) = 0 := rfl
theorem ret_str {a b : List UInt8} (h : a = b) : Ending.returned (.string ⟨a.toArray⟩) = .returned (.string ⟨b.toArray⟩) := by rw [h]

theorem nonempty_of (s : ByteArray) (h : 0 < s.size) : s.toList.isEmpty = false := by
  rw [ByteArray.toList_eq, List.isEmpty_eq_false_iff]
  intro e
  have := congrArg List.length e
  simp at this
  have hz : s.size = 0 := by rw [← ByteArray.size_data, this]; rfl
  omega
theorem ret_rd {p : Int × Bool} {a : Int} {b : Bool} (h : p = (a, b)) : Ending.returned (.tuple #[.int .i64 a, .bool b]) = .returned (.tuple #[.int .i64 p.1, .bool p.2]) := by rw [h]

end Go.Proofs.YtjdaeecmgkhpmaaGreat
namespace Go.Proofs.YtjdaeecmgkhpmaaGreat
open Go.RowKit

def strOf (l : List UInt8) : Value := .string ⟨l.toArray⟩
/-- v is a list of the texts ls, in memory of the call's own, from block B on. -/
def StrRow (B : Nat) (w : World) (v : Value) (ls : List (List UInt8)) : Prop :=
  w.ownsRow B 9 1 v ls.length (ls.map strOf)

theorem Tryz.infoStr : (Tryz.prog.info? 9).map (fun i => (i.zero, i.size, i.bytes)) = some (some (.string ⟨#[]⟩), 1, 16) := by kernel_rfl

theorem extract_str (s : ByteArray) (f k : Nat) : Value.string (s.extract f k) = strOf ((s.data.toList.take k).drop f) := by
  unfold strOf
  congr 1
  apply ByteArray.ext
  apply Array.toList_inj.1
  rw [Lib.extract_data, List.drop_take]

theorem strRow_snoc {B : Nat} {w : World} {v : Value} {P : List (List UInt8)} {s : ByteArray} {fn k : Nat} {x : List UInt8} (h : w.ownsRow B 9 1 v (P.length + 1) (P.map strOf ++ [.string (s.extract fn k)])) (hx : (s.data.toList.take k).drop fn = x) : StrRow B w v (P ++ [x]) := by
  unfold StrRow
  rw [List.length_append, List.length_singleton, List.map_append, List.map_singleton, ← hx, ← extract_str]
  exact h

theorem below_grow {B e n size : Nat} {w wr w1 : World} {v : Value} {xs : List Value} {o : Obj} (hb : Below w.heap.size w wr) (ho : wr.ownsRow B e size v n xs) (hg : (wr.alloc o).grownBy w1 v.ownBlock) (hB : w.heap.size ≤ B := by exact Nat.le_refl _) : Below w.heap.size w w1 :=
  (hb.alloc hb.size o).grown hg (by have := hb.size; simp; omega) (fun k hk => Nat.le_trans hB (ho.lt k hk).1)

theorem StrRow.open {B : Nat} {w : World} {v : Value} {ls : List (List UInt8)} (h : StrRow B w v ls) (hne : ls ≠ []) :
    ∃ g cap, v = .slice (some ⟨g, 0, none⟩) ls.length cap ∧ B ≤ g ∧ g < w.heap.size ∧ ∀ j (hj : j < ls.length), w.cell? ⟨g, j, none⟩ = some (strOf ls[j]) := by
  have h0 := h
  unfold StrRow at h
  rcases h.2 with ⟨_, hn⟩ | ⟨g, cap, cur, rfl, hB, hg, _⟩
  · exact absurd (List.eq_nil_of_length_eq_zero hn) hne
  · refine ⟨g, cap, rfl, hB, (Array.getElem?_eq_some_iff.1 hg).1, fun j hj => ?_⟩
    rw [World.ownsRow.cellAt h j (by omega)]
    simp [hj]

end Go.Proofs.YtjdaeecmgkhpmaaGreat
