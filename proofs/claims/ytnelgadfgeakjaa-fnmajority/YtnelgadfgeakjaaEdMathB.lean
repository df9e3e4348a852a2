/- Proved: a text that is cut is its parts joined; an edition that is read is shown so, and what is shown is read; no program is named here; no condition. -/
import Derived.Test.YtnelgadfgeakjaaDigitsB
namespace Go.Proofs.Ytnelgadfgeakjaa
namespace M

def join (b : UInt8) : List (List UInt8) → List UInt8
  | [] => []
  | [x] => x
  | x :: y :: r => x ++ b :: join b (y :: r)
theorem join_glue (b c : UInt8) {l : List (List UInt8)} (h : l ≠ []) : join b (glue [c] l) = c :: join b l := by
  match l, h with
  | [x], _ => rfl
  | x :: y :: r, _ => rfl
theorem join_nil (b : UInt8) {l : List (List UInt8)} (h : l ≠ []) : join b ([] :: l) = b :: join b l := by
  match l, h with
  | x :: r, _ => rfl
theorem join_split (b : UInt8) : ∀ l : List UInt8, join b (split b l) = l
  | [] => rfl
  | c :: r => by
    unfold split; split
    · rename_i h; rw [join_nil b (split_ne b r), join_split b r, h]
    · rw [join_glue b c (split_ne b r), join_split b r]
theorem split_one (b : UInt8) : ∀ l : List UInt8, b ∉ l → split b l = [l]
  | [], _ => rfl
  | c :: r, h => by
    simp only [List.mem_cons, not_or] at h
    unfold split
    rw [if_neg (fun e => h.1 e.symm), split_one b r h.2]; rfl
theorem split_more (b : UInt8) : ∀ (l r : List UInt8), b ∉ l → split b (l ++ b :: r) = l :: split b r
  | [], r, _ => by simp [split]
  | c :: l, r, h => by
    simp only [List.mem_cons, not_or] at h
    have e1 : split b (c :: (l ++ b :: r)) = glue [c] (split b (l ++ b :: r)) := by
      conv => lhs; unfold split
      rw [if_neg (fun e => h.1 e.symm)]
    show split b (c :: (l ++ b :: r)) = _
    rw [e1, split_more b l r h.2]; rfl
theorem digs_not (n : Nat) (b : UInt8) (hb : isDig b = false) : b ∉ digs n := by
  intro h
  have := (List.all_eq_true.1 (digs_all n)) b h
  rw [hb] at this; cases this

theorem edOk_iff (e : Ed) : edOk e = true ↔ (0 ≤ e.ma ∧ e.ma ≤ 99) ∧ (0 ≤ e.mi ∧ e.mi ≤ 99) ∧ (0 ≤ e.pa ∧ e.pa ≤ 99) := by
  simp [edOk, inI]; omega
theorem intText_pos {x : Int} (h : 0 ≤ x) : intText x = digs x.toNat := by
  unfold intText; rw [if_neg (by omega)]; congr 1; omega

theorem edRead_text (e : Ed) (h : edOk e = true) : edRead (edText e) = (e, true) := by
  obtain ⟨h1, h2, h3⟩ := (edOk_iff e).1 h
  have es : split 46 (edText e) = [digs e.ma.toNat, digs e.mi.toNat, digs e.pa.toNat] := by
    unfold edText
    rw [intText_pos h1.1, intText_pos h2.1, intText_pos h3.1]
    show split 46 (digs _ ++ 46 :: (digs _ ++ 46 :: digs _)) = _
    rw [split_more 46 _ _ (digs_not _ _ rfl), split_more 46 _ _ (digs_not _ _ rfl), split_one 46 _ (digs_not _ _ rfl)]
  unfold edRead
  rw [es]
  simp only [rd_digs e.ma.toNat (by omega), rd_digs e.mi.toNat (by omega), rd_digs e.pa.toNat (by omega)]
  have ee : (⟨(e.ma.toNat : Int), (e.mi.toNat : Int), (e.pa.toNat : Int)⟩ : Ed) = e := by
    rw [ed_ext]; simp only; omega
  rw [ee, h]; rfl
theorem edRead_show (e : Ed) (h : edOk e = true) : edRead (edShow e) = (e, true) := by
  unfold edShow; rw [if_pos h]; exact edRead_text e h
theorem edShow_read {l : List UInt8} (h : (edRead l).2 = true) : edShow (edRead l).1 = l ∧ edOk (edRead l).1 = true := by
  have hj := join_split 46 l
  unfold edRead at h ⊢
  split
  · rename_i a b c es
    rw [es] at h hj
    simp only at h
    split at h
    · rename_i hc
      rw [if_pos hc]
      simp only [Bool.and_eq_true] at hc
      obtain ⟨⟨⟨r1, r2⟩, r3⟩, r4⟩ := hc
      refine ⟨?_, r4⟩
      simp only
      unfold edShow
      rw [if_pos r4]
      unfold edText
      simp only
      rw [← rd_text r1, ← rd_text r2, ← rd_text r3, ← hj]
      simp [join]
    · cases h
  · rename_i hn
    split at h
    · rename_i a b c es; exact absurd es (hn a b c)
    · cases h
theorem edRead_zero {l : List UInt8} (h : (edRead l).2 = false) : (edRead l).1 = ⟨0, 0, 0⟩ := by
  unfold edRead at h ⊢
  split
  · rename_i a b c es
    rw [es] at h
    simp only at h
    split at h
    · cases h
    · rename_i hc; rw [if_neg hc]; rfl
  · rfl
theorem edText_ne (e : Ed) : edText e ≠ [] := by
  unfold edText; simp
theorem edShow_empty (e : Ed) : edShow e = [] ↔ edOk e = false := by
  unfold edShow
  cases h : edOk e
  · simp
  · simp [edText_ne]
theorem edText_len (e : Ed) (h : edOk e = true) : (edText e).length ≤ 62 := by
  have := intText_length e.ma; have := intText_length e.mi; have := intText_length e.pa
  have h' := (edOk_iff e).1 h
  have l1 := digs_length e.ma.toNat; have l2 := digs_length e.mi.toNat; have l3 := digs_length e.pa.toNat
  unfold edText
  rw [intText_pos h'.1.1, intText_pos h'.2.1.1, intText_pos h'.2.2.1]
  simp; omega

theorem fits_self (e : Ed) : fits e e = edOk e := by
  unfold fits; rw [older_irrefl]; simp
theorem fits_true {a b : Ed} (h : fits a b = true) : a.ma = b.ma ∧ older a b = false := by
  unfold fits at h; simp at h; exact ⟨h.1.2, h.2⟩
theorem fits_trans {a b c : Ed} (h : fits a b = true) (k : fits b c = true) : fits a c = true := by
  unfold fits at *
  simp only [Bool.and_eq_true, Bool.not_eq_true', decide_eq_true_eq] at *
  refine ⟨⟨⟨h.1.1.1, k.1.1.2⟩, by rw [h.1.2, k.1.2]⟩, ?_⟩
  rw [older_iff_f] at *
  have := h.2; have := k.2; have := h.1.2; have := k.1.2
  omega
end M
end Go.Proofs.Ytnelgadfgeakjaa
