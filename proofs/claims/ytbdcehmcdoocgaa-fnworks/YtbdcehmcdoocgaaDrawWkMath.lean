/- Proved: plain facts on works that are drawn: how small they are, and that filling one up ends; no program is named here; no condition. -/
import Derived.Test.YtbdcehmcdoocgaaWorkMathB
namespace Go.Proofs.Ytbdcehmcdoocgaa
namespace M

def smallWk (n : Nat) (w : Wk) : Prop := w.name.size ≤ 64 ∧ w.copies.length ≤ n ∧ ∀ c ∈ w.copies, c.page.size ≤ 64
theorem small_zero (n : Nat) : smallWk n zeroWk := ⟨by simp [zeroWk, nilB]; decide, by simp [zeroWk], by simp [zeroWk]⟩
theorem smallWk.mono {n m : Nat} {w : Wk} (h : smallWk n w) (hm : n ≤ m) : smallWk m w := ⟨h.1, Nat.le_trans h.2.1 hm, h.2.2⟩
theorem putAt_mem {l : List Cp} {k : Nat} {c x : Cp} (h : x ∈ putAt l k c) : x = c ∨ x ∈ l := by
  unfold putAt at h
  rcases List.mem_append.1 h with h | h
  · exact .inr (List.mem_of_mem_take h)
  · rcases List.mem_cons.1 h with h | h
    · exact .inl h
    · exact .inr (List.mem_of_mem_drop h)
theorem small_printed {n : Nat} {w : Wk} {e : Ed} {p : ByteArray} (hs : smallWk n w) (hn : 9 ≤ n) (hp : p.size ≤ 64) : smallWk n (printed w e p).1 := by
  rcases hk : wkOk w with _ | _
  · rw [printed_bad e p hk]; exact small_zero n
  · have h8 := (wkOk_rises hk).2.1
    unfold printed
    rw [if_pos hk]
    split
    · exact hs
    · refine ⟨hs.1, ?_, fun c hc => ?_⟩
      · show (putAt w.copies _ _).length ≤ n
        rw [putAt_len _ _ _ (place_le _ _)]; omega
      · rcases putAt_mem hc with rfl | hc
        · exact hp
        · exact hs.2.2 c hc
theorem veilAt_mem {l : List Cp} {k : Nat} {h : Bool} {x : Cp} (hx : x ∈ veilAt l k h) : ∃ c ∈ l, x.page = c.page := by
  unfold veilAt at hx
  obtain ⟨i, hi, rfl⟩ := List.mem_iff_getElem.1 hx
  have hi' : i < l.length := by simpa using hi
  refine ⟨l[i], List.getElem_mem hi', ?_⟩
  rw [List.getElem_modify]
  split <;> rfl
theorem small_veiled {n : Nat} {w : Wk} {e : Ed} {h : Bool} (hs : smallWk n w) : smallWk n (veiled w e h).1 := by
  rcases hk : wkOk w with _ | _
  · rw [veiled_bad e h hk]; exact small_zero n
  · unfold veiled
    rw [if_pos hk]
    split
    · refine ⟨hs.1, ?_, fun c hc => ?_⟩
      · show (veilAt w.copies _ _).length ≤ n
        rw [veilAt_len]; exact hs.2.1
      · obtain ⟨d, hd, e⟩ := veilAt_mem hc
        rw [e]; exact hs.2.2 d hd
    · exact hs

/-- How many copies stand where the filling up may still meet them. -/
def five (i : Nat) (c : Cp) : Bool := decide (c.ed.ma = 5 ∧ c.ed.pa = 0 ∧ (i : Int) ≤ c.ed.mi)
def fives (l : List Cp) (i : Nat) : Nat := l.countP (five i)
theorem fives_le (l : List Cp) (i : Nat) : fives l i ≤ l.length := List.countP_le_length
theorem five_mono {i : Nat} {c : Cp} (h : five (i + 1) c = true) : five i c = true := by
  simp only [five, decide_eq_true_eq] at h ⊢
  refine ⟨h.1, h.2.1, ?_⟩
  have := h.2.2
  omega
theorem fives_mono (l : List Cp) (i : Nat) : fives l (i + 1) ≤ fives l i := List.countP_mono_left fun _ _ h => five_mono h
theorem fives_lt : ∀ (l : List Cp) (i : Nat) (c : Cp), c ∈ l → c.ed = ⟨5, i, 0⟩ → fives l (i + 1) < fives l i
  | [], i, c, h, _ => by simp at h
  | d :: l, i, c, h, hc => by
    unfold fives
    rw [List.countP_cons, List.countP_cons]
    rcases List.mem_cons.1 h with rfl | h
    · have h1 : five i c = true := by simp [five, hc]
      have h2 : five (i + 1) c = false := by simp [five, hc]; omega
      have := fives_mono l i
      unfold fives at this
      rw [if_pos h1, if_neg (by rw [h2]; simp)]; omega
    · have ih := fives_lt l i c h hc
      unfold fives at ih
      rcases h2 : five (i + 1) d with _ | _
      · simp; split <;> omega
      · rw [if_pos rfl, if_pos (five_mono h2)]; omega
theorem fives_putAt (l : List Cp) (k i : Nat) (c : Cp) (hc : five i c = false) : fives (putAt l k c) i = fives l i := by
  unfold fives putAt
  rw [List.countP_append, List.countP_cons, if_neg (by rw [hc]; simp)]
  have := congrArg (List.countP (five i)) (List.take_append_drop k l)
  rw [List.countP_append] at this
  omega
/-- The page of the copies that fill up. -/
abbrev x1B : ByteArray := ⟨#[120, 49]⟩
theorem x1_ok (i : Nat) (hi : i ≤ 99) : cpOk ⟨⟨5, i, 0⟩, x1B, false⟩ = true := by
  have h1 : edOk ⟨5, (i : Int), 0⟩ = true := (edOk_iff _).2 (by simp only; omega)
  have h2 : pageOk x1B.data.toList = true := by decide
  simp [cpOk, h1, h2]
theorem fill_step {w : Wk} {i : Nat} (hk : wkOk w = true) (hl : w.copies.length < 8) (hi : i ≤ 99) :
    (8 - (printed w ⟨5, i, 0⟩ x1B).1.copies.length) + fives (printed w ⟨5, i, 0⟩ x1B).1.copies (i + 1) < (8 - w.copies.length) + fives w.copies i ∧ (printed w ⟨5, i, 0⟩ x1B).1.copies.length ≤ 8 := by
  by_cases hf : findEd w.copies ⟨5, i, 0⟩ < w.copies.length
  · rw [printed_there _ hk hf]
    have h1 : isEd ⟨5, i, 0⟩ (w.copies[findEd w.copies ⟨5, i, 0⟩]'hf) = true := List.findIdx_getElem (w := hf)
    have h2 : (w.copies[findEd w.copies ⟨5, i, 0⟩]'hf).ed = ⟨5, i, 0⟩ := by simpa [isEd] using h1
    have := fives_lt w.copies i _ (List.getElem_mem hf) h2
    exact ⟨by simp only; omega, by simp only; omega⟩
  · have hx := x1_ok i hi
    have he : printed w ⟨5, i, 0⟩ x1B = ({ w with copies := putAt w.copies (place w.copies ⟨5, i, 0⟩) ⟨⟨5, i, 0⟩, x1B, false⟩ }, true) := by
      unfold printed
      rw [if_pos hk, if_neg]
      rintro (h | h | h)
      · exact hf h
      · rw [hx] at h; cases h
      · omega
    rw [he]
    have h5 : five (i + 1) ⟨⟨5, (i : Int), 0⟩, x1B, false⟩ = false := by simp [five]; omega
    have h6 := fives_putAt w.copies (place w.copies ⟨5, i, 0⟩) (i + 1) ⟨⟨5, i, 0⟩, x1B, false⟩ h5
    have h7 := putAt_len w.copies (place w.copies ⟨5, i, 0⟩) ⟨⟨5, i, 0⟩, x1B, false⟩ (place_le _ _)
    have h8 := fives_mono w.copies i
    constructor
    · show (8 - (putAt _ _ _).length) + fives (putAt _ _ _) (i + 1) < _
      rw [h6, h7]; omega
    · show (putAt _ _ _).length ≤ 8
      rw [h7]; omega
end M
end Go.Proofs.Ytbdcehmcdoocgaa
