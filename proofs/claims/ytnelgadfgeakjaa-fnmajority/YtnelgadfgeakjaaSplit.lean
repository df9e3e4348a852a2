/- Proved: plain facts on a text cut at a byte; no program is named here; no condition. -/
namespace Go.Proofs.Ytnelgadfgeakjaa
namespace M

def glue (cur : List UInt8) : List (List UInt8) → List (List UInt8)
  | [] => [cur]
  | h :: t => (cur ++ h) :: t
/-- The parts of a text between the bytes b. -/
def split (b : UInt8) : List UInt8 → List (List UInt8)
  | [] => [[]]
  | c :: r => if c = b then [] :: split b r else glue [c] (split b r)
theorem glue_ne (cur : List UInt8) (l : List (List UInt8)) : glue cur l ≠ [] := by cases l <;> simp [glue]
theorem split_ne (b : UInt8) (l : List UInt8) : split b l ≠ [] := by
  cases l with
  | nil => simp [split]
  | cons c r => unfold split; split
                · simp
                · exact glue_ne _ _
theorem glue_nil {l : List (List UInt8)} (h : l ≠ []) : glue [] l = l := by
  cases l with
  | nil => exact absurd rfl h
  | cons h t => simp [glue]
theorem glue_glue (a b : List UInt8) (l : List (List UInt8)) : glue a (glue b l) = glue (a ++ b) l := by
  cases l <;> simp [glue]

theorem glue_le {n : Nat} {cur : List UInt8} {l : List (List UInt8)} (hc : cur.length ≤ 1) (h : ∀ x ∈ l, x.length ≤ n) : ∀ x ∈ glue cur l, x.length ≤ n + 1 := by
  intro x hx
  cases l with
  | nil => simp [glue] at hx; subst hx; omega
  | cons a t =>
    simp only [glue, List.mem_cons] at hx
    rcases hx with rfl | hx
    · have := h a (by simp); simp; omega
    · have := h x (by simp [hx]); omega
theorem split_le (b : UInt8) : ∀ (l : List UInt8), ∀ x ∈ split b l, x.length ≤ l.length
  | [] => by simp [split]
  | c :: r => by
    intro x hx
    have ih := split_le b r
    unfold split at hx
    split at hx
    · simp only [List.mem_cons] at hx
      rcases hx with rfl | hx
      · simp
      · have := ih x hx; simp; omega
    · exact glue_le (by simp) ih x hx

/-- The head of each round: k bytes are behind, the part under way began at f, P are the parts that are done. -/
def Srel (b : UInt8) (L : List UInt8) (f k : Nat) (P : List (List UInt8)) : Prop :=
  f ≤ k ∧ P.length ≤ k ∧ (k ≤ L.length ∧ split b L = P ++ glue ((L.take k).drop f) (split b (L.drop k)) ∨ k = L.length + 1 ∧ split b L = P)
theorem Srel_start (b : UInt8) (L : List UInt8) : Srel b L 0 0 [] :=
  ⟨Nat.le_refl _, by simp, .inl ⟨Nat.zero_le _, by simp [glue_nil (split_ne b L)]⟩⟩
theorem Srel_last {b : UInt8} {L : List UInt8} {f : Nat} {P : List (List UInt8)} (h : Srel b L f L.length P) : Srel b L (L.length + 1) (L.length + 1) (P ++ [L.drop f]) := by
  obtain ⟨hf, hp, h | h⟩ := h
  · refine ⟨Nat.le_refl _, by simp; omega, .inr ⟨rfl, ?_⟩⟩
    have h2 := h.2
    rw [List.drop_of_length_le (Nat.le_refl _), List.take_of_length_le (Nat.le_refl _)] at h2
    simpa [split, glue] using h2
  · omega
theorem Srel_cut {b : UInt8} {L : List UInt8} {f k : Nat} {P : List (List UInt8)} (h : Srel b L f k P) (hk : k < L.length) (hb : L[k] = b) : Srel b L (k + 1) (k + 1) (P ++ [(L.take k).drop f]) := by
  obtain ⟨hf, hp, h | h⟩ := h
  · refine ⟨Nat.le_refl _, by simp; omega, .inl ⟨hk, ?_⟩⟩
    have e1 : split b (L.drop k) = [] :: split b (L.drop (k + 1)) := by
      rw [List.drop_eq_getElem_cons hk, hb]; simp [split]
    have e2 : (L.take (k + 1)).drop (k + 1) = [] := List.drop_of_length_le (by simp; omega)
    rw [h.2, e1, e2, glue_nil (split_ne b _)]
    simp [glue]
  · omega
theorem Srel_on {b : UInt8} {L : List UInt8} {f k : Nat} {P : List (List UInt8)} (h : Srel b L f k P) (hk : k < L.length) (hb : L[k] ≠ b) : Srel b L f (k + 1) P := by
  obtain ⟨hf, hp, h | h⟩ := h
  · refine ⟨by omega, by omega, .inl ⟨hk, ?_⟩⟩
    rw [h.2, List.drop_eq_getElem_cons hk]
    simp only [split, if_neg hb]
    rw [glue_glue, List.take_succ_eq_append_getElem hk, List.drop_append_of_le_length (by simp; omega)]
  · omega
theorem Srel_end {b : UInt8} {L : List UInt8} {f k : Nat} {P : List (List UInt8)} (h : Srel b L f k P) (hk : L.length < k) : split b L = P := by
  obtain ⟨_, _, h | h⟩ := h
  · omega
  · exact h.2
end M
end Go.Proofs.Ytnelgadfgeakjaa
