/- Proved: plain facts on the text of a shelf: how it is joined, and how long it is; no program is named here; no condition. -/
import Derived.Test.YtpbgnbalmflleaaDoorShelfMem
import Derived.Test.YtpbgnbalmflleaaDoorEdMathB
import Derived.Lib.Join
namespace Go.Proofs.YtpbgnbalmflleaaDoor
namespace M

def cpText (c : Cp) : List UInt8 := edText c.ed ++ ([61] ++ (c.page.data.toList ++ (if c.hidden then [42] else [])))
def wkHead (w : Wk) : List UInt8 := w.name.data.toList ++ ([64] ++ intText w.owner)
def wkWords (w : Wk) : List (List UInt8) := wkHead w :: w.copies.map cpText
def wkText (w : Wk) : List UInt8 := Lib.join (wkWords w) [32]
def sfText (l : List Wk) : List UInt8 := Lib.join (l.map wkText) [47]
def sfShow (l : List Wk) : List UInt8 := if sfOk l then sfText l else []

theorem join_snoc (x : List UInt8) (xs : List (List UInt8)) (y sep : List UInt8) : Lib.join (x :: (xs ++ [y])) sep = Lib.join (x :: xs) sep ++ (sep ++ y) := by
  rw [Lib.join_cons, Lib.join_cons]
  simp [Lib.joinTail, List.append_assoc]
theorem join_take (l : List (List UInt8)) (sep : List UInt8) (i : Nat) (hi : i < l.length) : Lib.join (l.take (i + 1)) sep = if i = 0 then l[i] else Lib.join (l.take i) sep ++ (sep ++ l[i]) := by
  rw [List.take_succ_eq_append_getElem hi]
  by_cases h : i = 0
  · subst h
    rw [if_pos rfl, List.take_zero, List.nil_append, Lib.join_one]
  · rw [if_neg h]
    obtain ⟨x, xs, hx⟩ : ∃ x xs, l.take i = x :: xs := by
      cases hl : l.take i with
      | nil => have := congrArg List.length hl; rw [List.length_take] at this; simp only [List.length_nil] at this; omega
      | cons x xs => exact ⟨x, xs, rfl⟩
    rw [hx, List.cons_append, join_snoc]
theorem joinTail_len (sep : List UInt8) (n : Nat) : ∀ xs : List (List UInt8), (∀ x ∈ xs, x.length ≤ n) → (Lib.joinTail sep xs).length ≤ xs.length * (n + sep.length)
  | [], _ => by simp [Lib.joinTail]
  | x :: xs, h => by
    have ih := joinTail_len sep n xs fun y hy => h y (List.mem_cons_of_mem _ hy)
    have hx := h x (by simp)
    unfold Lib.joinTail at ih ⊢
    simp only [List.map_cons, List.flatten_cons, List.length_append, List.length_cons, Nat.succ_mul]
    omega
theorem join_len (sep : List UInt8) (n : Nat) (xs : List (List UInt8)) (h : ∀ x ∈ xs, x.length ≤ n) : (Lib.join xs sep).length ≤ xs.length * (n + sep.length) := by
  cases xs with
  | nil => simp [Lib.join_nil]
  | cons x xs =>
    rw [Lib.join_cons, List.length_append, List.length_cons, Nat.succ_mul]
    have := joinTail_len sep n xs fun y hy => h y (List.mem_cons_of_mem _ hy)
    have := h x (by simp)
    omega
theorem cpText_len {c : Cp} (h : cpOk c = true) : (cpText c).length ≤ 76 := by
  simp only [cpOk, Bool.and_eq_true, pageOk, decide_eq_true_eq] at h
  have h1 := edText_len c.ed h.1
  have h2 := h.2.1
  unfold cpText
  rcases c.hidden with _ | _ <;> simp only [List.length_append, List.length_singleton, List.length_nil, if_true, Bool.false_eq_true, if_false] <;> omega
theorem wkHead_len {w : Wk} (h : wkOk w = true) : (wkHead w).length ≤ 30 := by
  simp only [wkOk, Bool.and_eq_true, nameOk, decide_eq_true_eq] at h
  have h1 := h.1.1.1.1
  have h2 := intText_length w.owner
  unfold wkHead
  simp only [List.length_append, List.length_singleton]
  omega
theorem wkWords_len {w : Wk} (h : wkOk w = true) : ∀ x ∈ wkWords w, x.length ≤ 76 := by
  intro x hx
  have hall : ∀ c ∈ w.copies, cpOk c = true := by
    simp only [wkOk, cpsOk, Bool.and_eq_true, List.all_eq_true] at h
    exact h.2.1
  rcases List.mem_cons.1 hx with rfl | hx
  · have := wkHead_len h; omega
  · obtain ⟨c, hc, rfl⟩ := List.mem_map.1 hx
    exact cpText_len (hall c hc)
theorem wkOk_len {w : Wk} (h : wkOk w = true) : w.copies.length ≤ 8 := by
  simp only [wkOk, Bool.and_eq_true, decide_eq_true_eq] at h
  exact h.1.2
theorem wkOk_cp {w : Wk} (h : wkOk w = true) : ∀ c ∈ w.copies, cpOk c = true := by
  simp only [wkOk, cpsOk, Bool.and_eq_true, List.all_eq_true] at h
  exact h.2.1
theorem wkOk_owner {w : Wk} (h : wkOk w = true) : 0 ≤ w.owner ∧ w.owner ≤ 3 := by
  simp only [wkOk, Bool.and_eq_true, inI, decide_eq_true_eq] at h
  have := h.1.1.2
  omega
theorem wkOk_name {w : Wk} (h : wkOk w = true) : w.name.data.toList.length ≤ 8 := by
  simp only [wkOk, Bool.and_eq_true, nameOk, decide_eq_true_eq] at h
  exact h.1.1.1.1
theorem wkText_len {w : Wk} (h : wkOk w = true) : (wkText w).length ≤ 700 := by
  have := join_len [32] 76 (wkWords w) (wkWords_len h)
  have h8 := wkOk_len h
  unfold wkText
  unfold wkWords at this ⊢
  simp only [List.length_cons, List.length_map, List.length_nil] at this ⊢
  omega
theorem sfOk_all {l : List Wk} (h : sfOk l = true) : (∀ w ∈ l, wkOk w = true) ∧ l.length ≤ 5 := by
  simp only [sfOk, Bool.and_eq_true, decide_eq_true_eq, List.all_eq_true] at h
  exact ⟨h.2.1, h.1⟩
theorem sfText_len {l : List Wk} (h : sfOk l = true) : (sfText l).length ≤ 4000 := by
  obtain ⟨h1, h2⟩ := sfOk_all h
  have := join_len [47] 700 (l.map wkText) (fun x hx => by
    obtain ⟨w, hw, rfl⟩ := List.mem_map.1 hx
    exact wkText_len (h1 w hw))
  unfold sfText
  simp only [List.length_map, List.length_cons, List.length_nil] at this ⊢
  omega
end M
end Go.Proofs.YtpbgnbalmflleaaDoor
