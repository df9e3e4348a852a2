/- Proved, in parts: Proved: the program's and the model's ways to test a letter say the same of every letter. No program is named here; no condition. -/
import Derived.Test.YtdoeiphnalbinaaGreatPart25
namespace Go.Proofs.YtdoeiphnalbinaaGreat
open Go.RowKit
namespace M
theorem up_all (R : Int) : ∀ (l : List En) (r : Int), upFrom r l = true → ((∀ e ∈ l, e.reign ≤ R) ↔ ∀ h : 0 < l.length, (l[l.length - 1]'(by omega)).reign ≤ R)
  | [], _, _ => by simp
  | [e], _, _ => by simp
  | e :: f :: l, r, hu => by
    simp only [upFrom, Bool.and_eq_true, decide_eq_true_eq] at hu
    obtain ⟨h1, h2, h3⟩ := hu
    have ih := up_all R (f :: l) e.reign (by simp [upFrom, h2, h3])
    have hlast : ∀ h : 0 < (e :: f :: l).length, ((e :: f :: l)[(e :: f :: l).length - 1]'(by omega)) = ((f :: l)[(f :: l).length - 1]'(by simp)) := fun _ => by simp
    constructor
    · intro h _
      rw [hlast (by simp)]
      exact ih.1 (fun x hx => h x (List.mem_cons_of_mem _ hx)) (by simp)
    · intro h x hx
      have h5 : ∀ x ∈ f :: l, x.reign ≤ R := ih.2 (fun _ => by have := h (by simp); rwa [hlast (by simp)] at this)
      rcases List.mem_cons.1 hx with rfl | hx
      · have := h5 f (by simp); omega
      · exact h5 x hx
theorem top_le {l : Lt} (R : Int) (hm : l.mark ≤ R) (hu : upFrom l.mark l.list = true) : l.top ≤ R ↔ ∀ e ∈ l.list, e.reign ≤ R := by
  rw [up_all R l.list l.mark hu]
  unfold Lt.top
  by_cases h : 0 < l.list.length
  · rw [dif_pos h]
    exact ⟨fun k _ => k, fun k => k h⟩
  · rw [dif_neg h]
    exact ⟨fun _ k => absurd k h, fun _ => hm⟩
theorem isS_in (i n : Int) : isS i n = inI i 0 (n - 1) := by
  unfold isS inI
  congr 1
  rw [Bool.eq_iff_iff, decide_eq_true_eq, decide_eq_true_eq]
  omega
theorem bk_nil : bkOk [] [] = true := by rfl
theorem noBook_iff (l : Lt) : l.noBook = true ↔ l.book = ([], []) := by
  obtain ⟨_, _, _, _, _, _, _, _, _, b1, b2⟩ := l
  simp [Lt.noBook]
theorem list0_iff (l : Lt) : decide (l.list.length = 0) = true ↔ l.list = [] := by simp
/-- What is asked of a letter whose kind is right. -/
def Lt.rest (l : Lt) (n : Int) : Prop := cok n = true ∧ inI l.frm 0 (n - 1) = true ∧ inI l.dst 0 (n - 1) = true ∧ l.frm ≠ l.dst ∧ inI l.reign 1 1000 = true ∧ inI l.index 0 400 = true ∧ inI l.commit 0 400 = true ∧ inI l.mark 0 l.reign = true
theorem ltOk_iff (l : Lt) (n : Int) : ltOk l n = true ↔ l.rest n ∧ l.bare = true ∧ l.top ≤ l.reign := by
  unfold ltOk Lt.rest
  simp only [Bool.and_eq_true, decide_eq_true_eq]
  constructor
  · rintro ⟨a, b, c, d, e, f, g, h, i, j⟩
    exact ⟨⟨a, b, c, d, e, g, h, i⟩, f, j⟩
  · rintro ⟨⟨a, b, c, d, e, g, h, i⟩, f, j⟩
    exact ⟨a, b, c, d, e, f, g, h, i, j⟩
theorem ltOkI_iff (l : Lt) (n : Int) : ltOkI l n = true ↔ l.rest n ∧ l.listI = true ∧ bkOk l.book.1 l.book.2 = true ∧ l.kindI = true := by
  unfold ltOkI Lt.rest Lt.goes Lt.nums
  rw [isS_in, isS_in]
  have hm : inI l.mark 0 l.reign = (decide (0 ≤ l.mark) && decide (l.mark ≤ l.reign)) := rfl
  have hd : (l.frm != l.dst) = true ↔ l.frm ≠ l.dst := by simp
  rw [hm]
  simp only [Bool.and_eq_true, hd]
  constructor
  · rintro ⟨⟨a, b, c, d⟩, e, ⟨f, g, h⟩, i, j, k⟩
    exact ⟨⟨a, b, c, d, e, f, g, h⟩, i, j, k⟩
  · rintro ⟨⟨a, b, c, d, e, f, g, h⟩, i, j, k⟩
    exact ⟨⟨a, b, c, d⟩, e, ⟨f, g, h⟩, i, j, k⟩
theorem listI_nil {l : Lt} (h : l.list = []) : l.listI = true := by simp [Lt.listI, h, upFrom]
theorem top_nil {l : Lt} (h : l.list = []) : l.top = l.mark := by simp [Lt.top, h]
theorem lt_ext {a b : Lt} : a = b ↔ a.kind = b.kind ∧ a.frm = b.frm ∧ a.dst = b.dst ∧ a.reign = b.reign ∧ a.index = b.index ∧ a.mark = b.mark ∧ a.list = b.list ∧ a.commit = b.commit ∧ a.yes = b.yes ∧ a.book = b.book := by
  obtain ⟨_, _, _, _, _, _, _, _, _, _⟩ := a
  obtain ⟨_, _, _, _, _, _, _, _, _, _⟩ := b
  simp
theorem ltOk_same (l : Lt) (n : Int) : ltOkI l n = ltOk l n := by
  rw [Bool.eq_iff_iff, ltOkI_iff, ltOk_iff]
  refine and_congr_right fun hr => ?_
  have hmr : 0 ≤ l.mark ∧ l.mark ≤ l.reign := by
    have := hr.2.2.2.2.2.2.2
    simpa [inI] using this
  have hnb := noBook_iff l
  have hl0 := list0_iff l
  have hbn : l.book = ([], []) → bkOk l.book.1 l.book.2 = true := fun h => by rw [h]; exact bk_nil
  by_cases k1 : l.kind = 1
  · have hk : l.kindI = true ↔ l.list = [] ∧ l.commit = 0 ∧ l.yes = false ∧ l.book = ([], []) := by
      unfold Lt.kindI
      rw [if_pos k1, decide_eq_true_eq, lt_ext]
      simp [ltZero]
    have hb : l.bare = true ↔ l.list = [] ∧ l.commit = 0 ∧ l.yes = false ∧ l.book = ([], []) := by
      unfold Lt.bare
      rw [if_pos k1]
      simp only [Bool.and_eq_true, hnb, hl0, decide_eq_true_eq, Bool.not_eq_true']
    rw [hk, hb]
    constructor
    · rintro ⟨_, _, h⟩
      exact ⟨h, by rw [top_nil h.1]; exact hmr.2⟩
    · rintro ⟨h, _⟩
      exact ⟨listI_nil h.1, hbn h.2.2.2, h⟩
  by_cases k2 : l.kind = 2
  · have hk : l.kindI = true ↔ l.index = 0 ∧ l.mark = 0 ∧ l.list = [] ∧ l.commit = 0 ∧ l.book = ([], []) := by
      unfold Lt.kindI
      rw [if_neg k1, if_pos k2, decide_eq_true_eq, lt_ext]
      simp [ltZero]
    have hb : l.bare = true ↔ l.index = 0 ∧ l.mark = 0 ∧ l.list = [] ∧ l.commit = 0 ∧ l.book = ([], []) := by
      unfold Lt.bare
      rw [if_neg k1, if_pos k2]
      simp only [Bool.and_eq_true, hnb, hl0, decide_eq_true_eq]
    rw [hk, hb]
    constructor
    · rintro ⟨_, _, h⟩
      exact ⟨h, by rw [top_nil h.2.2.1]; exact hmr.2⟩
    · rintro ⟨h, _⟩
      exact ⟨listI_nil h.2.2.1, hbn h.2.2.2.2, h⟩
  by_cases k3 : l.kind = 3
  · have hk : l.kindI = true ↔ l.yes = false ∧ l.book = ([], []) := by
      unfold Lt.kindI
      rw [if_neg k1, if_neg k2, if_pos k3, decide_eq_true_eq, lt_ext]
      simp [ltZero]
    have hb : l.bare = true ↔ l.yes = false ∧ l.book = ([], []) ∧ l.list.length ≤ 5 ∧ l.list.all entryOk = true ∧ upFrom l.mark l.list = true := by
      unfold Lt.bare listOk
      rw [if_neg k1, if_neg k2, if_pos k3]
      simp only [Bool.and_eq_true, hnb, decide_eq_true_eq, Bool.not_eq_true']
    have hli : l.listI = true ↔ l.list.length ≤ 5 ∧ l.list.all entryOk = true ∧ upFrom l.mark l.list = true ∧ ∀ e ∈ l.list, e.reign ≤ l.reign := by
      unfold Lt.listI
      have ha : l.list.all (fun e => decide (e.reign ≤ l.reign)) = true ↔ ∀ e ∈ l.list, e.reign ≤ l.reign := by simp
      simp only [Bool.and_eq_true, decide_eq_true_eq, ha]
    rw [hk, hb, hli]
    constructor
    · rintro ⟨⟨a, b, c, d⟩, _, e, f⟩
      exact ⟨⟨e, f, a, b, c⟩, (top_le _ hmr.2 c).2 d⟩
    · rintro ⟨⟨e, f, a, b, c⟩, d⟩
      exact ⟨⟨a, b, c, (top_le _ hmr.2 c).1 d⟩, hbn f, e, f⟩
  by_cases k4 : l.kind = 4
  · have hk : l.kindI = true ↔ l.mark = 0 ∧ l.list = [] ∧ l.commit = 0 ∧ l.book = ([], []) := by
      unfold Lt.kindI
      rw [if_neg k1, if_neg k2, if_neg k3, if_pos k4, decide_eq_true_eq, lt_ext]
      simp [ltZero]
    have hb : l.bare = true ↔ l.mark = 0 ∧ l.list = [] ∧ l.commit = 0 ∧ l.book = ([], []) := by
      unfold Lt.bare
      rw [if_neg k1, if_neg k2, if_neg k3, if_pos k4]
      simp only [Bool.and_eq_true, hnb, hl0, decide_eq_true_eq]
    rw [hk, hb]
    constructor
    · rintro ⟨_, _, h⟩
      exact ⟨h, by rw [top_nil h.2.1]; exact hmr.2⟩
    · rintro ⟨h, _⟩
      exact ⟨listI_nil h.2.1, hbn h.2.2.2, h⟩
  by_cases k5 : l.kind = 5
  · have hk : l.kindI = true ↔ l.list = [] ∧ l.commit = 0 ∧ l.yes = false := by
      unfold Lt.kindI
      rw [if_neg k1, if_neg k2, if_neg k3, if_neg k4, if_pos k5, decide_eq_true_eq, lt_ext]
      simp [ltZero]
    have hb : l.bare = true ↔ l.list = [] ∧ l.commit = 0 ∧ l.yes = false ∧ bkOk l.book.1 l.book.2 = true := by
      unfold Lt.bare
      rw [if_neg k1, if_neg k2, if_neg k3, if_neg k4, if_pos k5]
      simp only [Bool.and_eq_true, hl0, decide_eq_true_eq, Bool.not_eq_true']
    rw [hk, hb]
    constructor
    · rintro ⟨_, b, h⟩
      exact ⟨⟨h.1, h.2.1, h.2.2, b⟩, by rw [top_nil h.1]; exact hmr.2⟩
    · rintro ⟨⟨a, b, c, d⟩, _⟩
      exact ⟨listI_nil a, d, a, b, c⟩
  have hk : l.kindI = false := by unfold Lt.kindI; rw [if_neg k1, if_neg k2, if_neg k3, if_neg k4, if_neg k5]
  have hb : l.bare = false := by unfold Lt.bare; rw [if_neg k1, if_neg k2, if_neg k3, if_neg k4, if_neg k5]
  rw [hk, hb]
  simp
end M
theorem implLetterOk (s : LLt) (n : Int) (w : World) (hs : LtIn 1048576 w s) :
    Calls Tryz.prog 7 #[ltV s, .int .i64 n] w fun e w' => e = .returned (.bool (M.ltOk s.d n)) ∧ Below w.heap.size w w' := by
  rw [← M.ltOk_same]
  exact implLetterOkI s n w hs
end Go.Proofs.YtdoeiphnalbinaaGreat
