/- Proved: facts on slices whose elements are records of a fixed number of cells: what they hold stays behind calls and new blocks; no program's function is named here; no condition. -/
import Derived.Test.YtnelgadfgeakjaaMem
import Derived.Laws.OwnMore
import Derived.Laws.AppendOwn
import Derived.Deep.AppendLies
namespace Go.Proofs.Ytnelgadfgeakjaa
open Go.RowKit

/-- The cells of a list of records. -/
def cellsOf {α : Type} (enc : α → List Value) (l : List α) : List Value := l.flatMap enc

theorem cellsOf_len {α : Type} {enc : α → List Value} {k : Nat} (hk : ∀ x, (enc x).length = k) : ∀ l : List α, (cellsOf enc l).length = l.length * k
  | [] => by simp [cellsOf]
  | x :: l => by
    have := cellsOf_len hk l
    unfold cellsOf at this ⊢
    rw [List.flatMap_cons, List.length_append, this, hk, List.length_cons, Nat.succ_mul]; omega

theorem cellsOf_at {α : Type} {enc : α → List Value} {k : Nat} (hk : ∀ x, (enc x).length = k) : ∀ (l : List α) (i t : Nat) (x : α), l[i]? = some x → t < k → (cellsOf enc l)[i * k + t]? = (enc x)[t]?
  | [], i, t, x, h, _ => by simp at h
  | y :: l, 0, t, x, h, ht => by
    simp at h; subst h
    unfold cellsOf
    rw [List.flatMap_cons, Nat.zero_mul, Nat.zero_add, List.getElem?_append_left (by rw [hk]; exact ht)]
  | y :: l, i + 1, t, x, h, ht => by
    simp at h
    have := cellsOf_at hk l i t x h ht
    unfold cellsOf at this ⊢
    rw [List.flatMap_cons, List.getElem?_append_right (by rw [hk, Nat.succ_mul]; omega), hk, ← this]
    congr 1
    rw [Nat.succ_mul]; omega

theorem cellsOf_append {α : Type} (enc : α → List Value) (l m : List α) : cellsOf enc (l ++ m) = cellsOf enc l ++ cellsOf enc m := by
  unfold cellsOf; simp
theorem cellsOf_take {α : Type} {enc : α → List Value} {k : Nat} (hk : ∀ x, (enc x).length = k) : ∀ (l : List α) (i : Nat), (cellsOf enc l).take (i * k) = cellsOf enc (l.take i)
  | [], i => by simp [cellsOf]
  | x :: l, 0 => by simp [cellsOf]
  | x :: l, i + 1 => by
    have := cellsOf_take hk l i
    unfold cellsOf at this ⊢
    rw [List.flatMap_cons, List.take_succ_cons, List.flatMap_cons, ← this, List.take_append, hk, List.take_of_length_le (by rw [hk, Nat.succ_mul]; omega)]
    congr 2
    rw [Nat.succ_mul]; omega
theorem cellsOf_drop {α : Type} {enc : α → List Value} {k : Nat} (hk : ∀ x, (enc x).length = k) : ∀ (l : List α) (i : Nat), (cellsOf enc l).drop (i * k) = cellsOf enc (l.drop i)
  | [], i => by simp [cellsOf]
  | x :: l, 0 => by simp [cellsOf]
  | x :: l, i + 1 => by
    have := cellsOf_drop hk l i
    unfold cellsOf at this ⊢
    rw [List.flatMap_cons, List.drop_succ_cons, ← this, List.drop_append, hk, List.drop_of_length_le (by rw [hk, Nat.succ_mul]; omega)]
    rw [List.nil_append]
    congr 1
    rw [Nat.succ_mul]; omega

/-- A slice at A holds the records of l. -/
def Flat {α : Type} (enc : α → List Value) (k : Nat) (w : World) (A : Option Addr) (l : List α) : Prop :=
  l = [] ∨ ∃ b o, A = some ⟨b, o, none⟩ ∧ b < w.heap.size ∧ ∀ (i t : Nat) (x : α) (u : Value), l[i]? = some x → (enc x)[t]? = some u → w.cell? ⟨b, o + i * k + t, none⟩ = some u

section
variable {α : Type} {enc : α → List Value} {k : Nat} {w w' : World} {A : Option Addr} {l : List α}
theorem Flat.keep (h : Flat enc k w A l) (hs : w.heap.size ≤ w'.heap.size) (hb : ∀ b o, A = some ⟨b, o, none⟩ → w'.heap[b]? = w.heap[b]?) : Flat enc k w' A l := by
  rcases h with h | ⟨b, o, rfl, hlt, h⟩
  · exact .inl h
  · exact .inr ⟨b, o, rfl, by omega, fun i t x u hi ht => (World.cell?_of_block (a := ⟨b, o + i * k + t, none⟩) (hb b o rfl)).trans (h i t x u hi ht)⟩
theorem Flat.below (h : Flat enc k w A l) (hb : Below w.heap.size w w') : Flat enc k w' A l := by
  rcases h with h | ⟨b, o, rfl, hlt, h⟩
  · exact .inl h
  · exact .inr ⟨b, o, rfl, Nat.lt_of_lt_of_le hlt hb.size, fun i t x u hi ht => (hb.cell (p := ⟨b, o + i * k + t, none⟩) hlt).trans (h i t x u hi ht)⟩
theorem Flat.alloc (h : Flat enc k w A l) (o : Obj) : Flat enc k (w.alloc o) A l := h.below ((Below.refl _ _).alloc (Nat.le_refl _) o)
theorem Flat.drew (h : Flat enc k w A l) : Flat enc k w.drew A l := h
theorem Flat.at {i : Nat} (h : Flat enc k w A l) (hi : i < l.length) : ∃ b o, A = some ⟨b, o, none⟩ ∧ b < w.heap.size ∧ ∀ (t : Nat) (u : Value), (enc l[i])[t]? = some u → w.cell? ⟨b, o + i * k + t, none⟩ = some u := by
  rcases h with rfl | ⟨b, o, rfl, hlt, h⟩
  · simp at hi
  · exact ⟨b, o, rfl, hlt, fun t u ht => h i t l[i] u (List.getElem?_eq_getElem hi) ht⟩

/-- A row of the call's own, read as records. -/
theorem own_flat {base : Nat} {e : TypeId} {v : Value} (hk : ∀ x, (enc x).length = k) (h : w.ownsRow base e k v l.length (cellsOf enc l)) : ∃ A c, v = .slice A l.length c ∧ l.length ≤ c ∧ Flat enc k w A l := by
  obtain ⟨hlen, ⟨rfl, h0⟩ | ⟨g, cap, cur, rfl, hb, hh, hn, hm, hsz, ht⟩⟩ := h
  · have : l = [] := List.length_eq_zero_iff.1 h0
    subst this
    exact ⟨none, 0, rfl, Nat.le_refl _, .inl rfl⟩
  · refine ⟨_, cap, rfl, hn, .inr ⟨g, 0, rfl, ?_, fun i t x u hi hu => ?_⟩⟩
    · rcases Nat.lt_or_ge g w.heap.size with h' | h'
      · exact h'
      · rw [Array.getElem?_eq_none h'] at hh; cases hh
    · have htk : t < k := by
        rcases Nat.lt_or_ge t k with h' | h'
        · exact h'
        · rw [List.getElem?_eq_none (by rw [hk]; exact h')] at hu; cases hu
      have h1 := cellsOf_at hk l i t x hi htk
      have hil : i < l.length := (List.getElem?_eq_some_iff.1 hi).1
      have hlt : i * k + t < l.length * k := by
        have : (i + 1) * k ≤ l.length * k := Nat.mul_le_mul_right k hil
        rw [Nat.succ_mul] at this; omega
      rw [hu, ← ht, List.getElem?_take_of_lt hlt] at h1
      unfold World.cell?
      rw [hh]
      simp only [Nat.zero_add]
      rw [← Array.getElem?_toList]
      simpa using h1
end
end Go.Proofs.Ytnelgadfgeakjaa
