/- Proved: the laws' helpers that make a work of the program's own types out of the laws' answer the same work, in new memory; they write nothing that was there. -/
import Derived.Test.YtnelgadfgeakjaaWorkSz
import Derived.Test.YtnelgadfgeakjaaDeedWalks
import Derived.OwnWalk
import Derived.Deep.Onto
namespace Go.Proofs.Ytnelgadfgeakjaa
open Go.RowKit

theorem Own.below {w w' : World} {base e k n : Nat} {v : Value} {xs : List Value} (h : w.ownsRow base e k v n xs) (hb : Below w.heap.size w w') : w'.ownsRow base e k v n xs := by
  obtain ⟨hl, h | ⟨g, cap, cur, hv, h1, hh, h2⟩⟩ := h
  · exact ⟨hl, .inl h⟩
  · exact ⟨hl, .inr ⟨g, cap, cur, hv, h1, (hb.block g (Array.getElem?_eq_some_iff.1 hh).1).trans hh, h2⟩⟩

theorem set5 (xs ys : List Value) (a b c d e f0 f1 f2 f3 f4 : Value) (n : Nat) (hn : n = xs.length) :
    (((((xs ++ a :: b :: c :: d :: e :: ys).set n f0).set (n + 1) f1).set (n + 2) f2).set (n + 3) f3).set (n + 4) f4 = xs ++ f0 :: f1 :: f2 :: f3 :: f4 :: ys := by
  subst hn; simp
theorem five_of {l : List Value} {n : Nat} (h : l.length = (n + 1) * 5) : ∃ a b c d e r, l = a :: b :: c :: d :: e :: r ∧ r.length = n * 5 := by
  match l, h with
  | a :: b :: c :: d :: e :: r, h => exact ⟨a, b, c, d, e, r, rfl, by simp at h; omega⟩
  | [], h => simp at h
  | [_], h => simp at h; omega
  | [_, _], h => simp at h; omega
  | [_, _, _], h => simp at h; omega
  | [_, _, _, _], h => simp at h; omega

/-- Five stores into a row. -/
theorem own_put5 {w : World} {base e g n cap j : Nat} {xs ys : List Value} {f0 f1 f2 f3 f4 : Value} {a b c d r : Value} (h : w.ownsRow base e 5 (.slice (some ⟨g, 0, none⟩) n cap) n (xs ++ a :: b :: c :: d :: r :: ys)) (hj : j = xs.length) :
    (((((w.setCell ⟨g, j, none⟩ f0).setCell ⟨g, j + 1, none⟩ f1).setCell ⟨g, j + 2, none⟩ f2).setCell ⟨g, j + 3, none⟩ f3).setCell ⟨g, j + 4, none⟩ f4).ownsRow base e 5 (.slice (some ⟨g, 0, none⟩) n cap) n (xs ++ f0 :: f1 :: f2 :: f3 :: f4 :: ys) := by
  have := ((((h.stored j f0).1.stored (j + 1) f1).1.stored (j + 2) f2).1.stored (j + 3) f3).1.stored (j + 4) f4
  rw [set5 xs ys a b c d r f0 f1 f2 f3 f4 j hj] at this
  exact this.1
theorem own_cells5 {w : World} {base e g n cap j : Nat} {xs ys : List Value} {a b c d r : Value} (h : w.ownsRow base e 5 (.slice (some ⟨g, 0, none⟩) n cap) n (xs ++ a :: b :: c :: d :: r :: ys)) (hj : j = xs.length) :
    (w.cell? ⟨g, j, none⟩ = some a ∧ w.cell? ⟨g, j + 1, none⟩ = some b ∧ w.cell? ⟨g, j + 2, none⟩ = some c ∧ w.cell? ⟨g, j + 3, none⟩ = some d ∧ w.cell? ⟨g, j + 4, none⟩ = some r) ∧
    (w.frozen? ⟨g, j, none⟩ = false ∧ w.frozen? ⟨g, j + 1, none⟩ = false ∧ w.frozen? ⟨g, j + 2, none⟩ = false ∧ w.frozen? ⟨g, j + 3, none⟩ = false ∧ w.frozen? ⟨g, j + 4, none⟩ = false) := by
  have hl := h.1
  simp at hl
  subst hj
  refine ⟨⟨?_, ?_, ?_, ?_, ?_⟩, h.frozenAt _, h.frozenAt _, h.frozenAt _, h.frozenAt _, h.frozenAt _⟩ <;> (rw [h.cellAt _ (by omega)]; simp)

end Go.Proofs.Ytnelgadfgeakjaa
