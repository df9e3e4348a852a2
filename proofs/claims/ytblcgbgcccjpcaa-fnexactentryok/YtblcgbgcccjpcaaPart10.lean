/- Proved, in parts: Proved: facts on a memory that is told by a list of blocks and what they hold: they stay behind calls, new blocks and writes into one of them; no program's function is named here; no condition. Proved: facts on slices whose elements are records of a fixed number of cells: what they hold stays behind calls and new blocks; no program's function is named here; no condition. Proved: what copies and works are, in plain Lean; no program is named here; no condition. Proved: the laws' helpers on copies and works (their size, their copy, their likeness) answer plain Lean functions; they write nothing that was there. -/
import Derived.Test.YtblcgbgcccjpcaaPart06
import Derived.Laws.OwnMore
import Derived.Laws.AppendOwn
import Derived.Deep.AppendLies
import Derived.Test.YtblcgbgcccjpcaaPart05
namespace Go.Proofs.Ytblcgbgcccjpcaa
open Go.RowKit

theorem farM {w w1 : World} {B g : Nat} (h : Below B w w1) (hg : B ≤ g) (j : Nat) (v : Value) : Below B w (w1.setCell ⟨g, j, none⟩ v) := h.setCell hg v
theorem other_cell {w : World} {g k j i : Nat} {v : Value} (h : k ≠ g) : (w.setCell ⟨g, j, none⟩ v).cell? ⟨k, i, none⟩ = w.cell? ⟨k, i, none⟩ :=
  World.cell?_of_block (a := ⟨k, i, none⟩) (Below.heap_setCell _ _ _ _ h)
theorem Holds.putM {w : World} {g : Nat} {C : Array Value} (h : Holds w g C) (j : Nat) (v : Value) : Holds (w.setCell ⟨g, j, none⟩ v) g (C.setIfInBounds j v) := by
  refine ⟨by simpa using h.1, fun i u hi => ?_⟩
  by_cases e : j = i
  · subst e
    rw [Array.getElem?_setIfInBounds_self] at hi
    split at hi
    · rename_i hlt
      cases hi
      exact World.cell?_setCell_same w _ _ (h.2 j _ (Array.getElem?_eq_getElem hlt))
    · cases hi
  · rw [Array.getElem?_setIfInBounds_ne e] at hi
    rw [World.cell?_setCell_other w _ _ _ (fun h => e (by injection h))]; exact h.2 i u hi
theorem Holds.otherM {w : World} {g k j : Nat} {C : Array Value} {v : Value} (h : Holds w k C) (hk : k ≠ g) : Holds (w.setCell ⟨g, j, none⟩ v) k C :=
  ⟨by simpa using h.1, fun i u hi => (other_cell hk).trans (h.2 i u hi)⟩

/-- Nothing that was there in w0 has changed; each block of hs holds its cells; each block of ls may be written. -/
def Mem (w0 : World) (hs : List (Nat × Array Value)) (ls : List Nat) (x : World) : Prop :=
  Below w0.heap.size w0 x ∧ (∀ p ∈ hs, Holds x p.1 p.2) ∧ ∀ g ∈ ls, g < x.heap.size ∧ Loose x g

theorem Mem.start (w0 : World) : Mem w0 [] [] w0 := ⟨Below.refl _ _, by simp, by simp⟩
theorem Mem.below {w0 : World} {hs : List (Nat × Array Value)} {ls : List Nat} {x y : World} (h : Mem w0 hs ls x) (hb : Below x.heap.size x y) : Mem w0 hs ls y :=
  ⟨h.1.trans (hb.mono h.1.size), fun p hp => (h.2.1 p hp).below hb, fun g hg => ⟨Nat.lt_of_lt_of_le (h.2.2 g hg).1 hb.size, (h.2.2 g hg).2.below (h.2.2 g hg).1 hb⟩⟩
theorem Mem.alloc {w0 : World} {hs : List (Nat × Array Value)} {ls : List Nat} {x : World} (h : Mem w0 hs ls x) (o : Obj) : Mem w0 hs ls (x.alloc o) := h.below ((Below.refl _ _).alloc (Nat.le_refl _) o)
theorem Mem.add {w0 : World} {hs : List (Nat × Array Value)} {ls : List Nat} {x : World} {g : Nat} {C : Array Value} (h : Mem w0 hs ls x) (hg : Holds x g C) : Mem w0 ((g, C) :: hs) ls x :=
  ⟨h.1, fun p hp => by rcases List.mem_cons.1 hp with rfl | hp; exact hg; exact h.2.1 p hp, h.2.2⟩
/-- A new block: it holds its cells, and may be written. -/
theorem Mem.new {w0 : World} {hs : List (Nat × Array Value)} {ls : List Nat} {x : World} (h : Mem w0 hs ls x) (C : Array Value) (t : TypeId) : Mem w0 ((x.heap.size, C) :: hs) (x.heap.size :: ls) (x.alloc (.cells C t)) := by
  have h' := (h.alloc (.cells C t)).add (holds_new x C t)
  refine ⟨h'.1, h'.2.1, fun g hg => ?_⟩
  rcases List.mem_cons.1 hg with rfl | hg
  · exact ⟨by simp, loose_new x C t⟩
  · exact h'.2.2 g hg
theorem Mem.get {w0 : World} {hs : List (Nat × Array Value)} {ls : List Nat} {x : World} (h : Mem w0 hs ls x) (g : Nat) (C : Array Value) (hp : (g, C) ∈ hs) : Holds x g C := h.2.1 (g, C) hp
theorem Mem.tail {w0 : World} {p : Nat × Array Value} {hs : List (Nat × Array Value)} {ls : List Nat} {x : World} (h : Mem w0 (p :: hs) ls x) : Mem w0 hs ls x := ⟨h.1, fun q hq => h.2.1 q (List.mem_cons_of_mem _ hq), h.2.2⟩
theorem Mem.drop {w0 : World} {p : Nat × Array Value} {hs : List (Nat × Array Value)} {g : Nat} {ls : List Nat} {x : World} (h : Mem w0 (p :: hs) (g :: ls) x) : Mem w0 hs ls x :=
  ⟨h.1, fun q hq => h.2.1 q (List.mem_cons_of_mem _ hq), fun k hk => h.2.2 k (List.mem_cons_of_mem _ hk)⟩
/-- A write into the block that is told first. -/
theorem Mem.put {w0 : World} {g : Nat} {C : Array Value} {hs : List (Nat × Array Value)} {ls : List Nat} {x : World} (h : Mem w0 ((g, C) :: hs) ls x) (hg : w0.heap.size ≤ g) (hn : ∀ p ∈ hs, p.1 ≠ g) (j : Nat) (v : Value) :
    Mem w0 ((g, C.setIfInBounds j v) :: hs) ls (x.setCell ⟨g, j, none⟩ v) := by
  refine ⟨farM h.1 hg j v, fun p hp => ?_, fun k hk => ⟨by simpa using (h.2.2 k hk).1, fun i => by rw [World.frozen?_setCell]; exact (h.2.2 k hk).2 i⟩⟩
  rcases List.mem_cons.1 hp with rfl | hp
  · exact (h.2.1 (g, C) (by simp)).putM j v
  · exact (h.2.1 p (List.mem_cons_of_mem _ hp)).otherM (hn p hp)
theorem Mem.drew {w0 : World} {hs : List (Nat × Array Value)} {ls : List Nat} {x : World} (h : Mem w0 hs ls x) : Mem w0 hs ls x.drew := ⟨h.1.drew, h.2.1, h.2.2⟩
theorem Mem.loose {w0 : World} {hs : List (Nat × Array Value)} {ls : List Nat} {x : World} (h : Mem w0 hs ls x) (g : Nat) (hp : g ∈ ls) : Loose x g := (h.2.2 g hp).2
end Go.Proofs.Ytblcgbgcccjpcaa
namespace Go.Proofs.Ytblcgbgcccjpcaa
open Go.RowKit

/-- The cells of a list of records. -/
def cellsOf {α : Type} (enc : α → List Value) (l : List α) : List Value := l.flatMap enc

theorem cellsOf_len {α : Type} {enc : α → List Value} {k : Nat} (hk : ∀ x, (enc x).length = k) : ∀ l : List α, (cellsOf enc l).length = l.length * k
  | [] => by simp [cellsOf]
  | x :: l => by
    have := cellsOf_len hk l
    unfold cellsOf at this ⊢
    rw [List.flatMap_cons, List.length_append, this, hk, List.length_cons, Nat.succ_mul]; omega

theorem cellsOf_at {α : Type} {enc : α → List Value} {k : Nat} (hk : ∀ x, (enc x).length = k) : ∀ (l : List α) (i t : Nat) (x : α), l[i]? = some x → t < k → (cellsOf enc l)[i * k + t]? = (enc x)[t]?
  | [], i, t, x, h, _ => by simp at h
  | y :: l, 0, t, x, h, ht => by
    simp at h; subst h
    unfold cellsOf
    rw [List.flatMap_cons, Nat.zero_mul, Nat.zero_add, List.getElem?_append_left (by rw [hk]; exact ht)]
  | y :: l, i + 1, t, x, h, ht => by
    simp at h
    have := cellsOf_at hk l i t x h ht
    unfold cellsOf at this ⊢
    rw [List.flatMap_cons, List.getElem?_append_right (by rw [hk, Nat.succ_mul]; omega), hk, ← this]
    congr 1
    rw [Nat.succ_mul]; omega

theorem cellsOf_append {α : Type} (enc : α → List Value) (l m : List α) : cellsOf enc (l ++ m) = cellsOf enc l ++ cellsOf enc m := by
  unfold cellsOf; simp
theorem cellsOf_take {α : Type} {enc : α → List Value} {k : Nat} (hk : ∀ x, (enc x).length = k) : ∀ (l : List α) (i : Nat), (cellsOf enc l).take (i * k) = cellsOf enc (l.take i)
  | [], i => by simp [cellsOf]
  | x :: l, 0 => by simp [cellsOf]
  | x :: l, i + 1 => by
    have := cellsOf_take hk l i
    unfold cellsOf at this ⊢
    rw [List.flatMap_cons, List.take_succ_cons, List.flatMap_cons, ← this, List.take_append, hk, List.take_of_length_le (by rw [hk, Nat.succ_mul]; omega)]
    congr 2
    rw [Nat.succ_mul]; omega
theorem cellsOf_drop {α : Type} {enc : α → List Value} {k : Nat} (hk : ∀ x, (enc x).length = k) : ∀ (l : List α) (i : Nat), (cellsOf enc l).drop (i * k) = cellsOf enc (l.drop i)
  | [], i => by simp [cellsOf]
  | x :: l, 0 => by simp [cellsOf]
  | x :: l, i + 1 => by
    have := cellsOf_drop hk l i
    unfold cellsOf at this ⊢
    rw [List.flatMap_cons, List.drop_succ_cons, ← this, List.drop_append, hk, List.drop_of_length_le (by rw [hk, Nat.succ_mul]; omega)]
    rw [List.nil_append]
    congr 1
    rw [Nat.succ_mul]; omega

/-- A slice at A holds the records of l. -/
def Flat {α : Type} (enc : α → List Value) (k : Nat) (w : World) (A : Option Addr) (l : List α) : Prop :=
  l = [] ∨ ∃ b o, A = some ⟨b, o, none⟩ ∧ b < w.heap.size ∧ ∀ (i t : Nat) (x : α) (u : Value), l[i]? = some x → (enc x)[t]? = some u → w.cell? ⟨b, o + i * k + t, none⟩ = some u

section
variable {α : Type} {enc : α → List Value} {k : Nat} {w w' : World} {A : Option Addr} {l : List α}
theorem Flat.keep (h : Flat enc k w A l) (hs : w.heap.size ≤ w'.heap.size) (hb : ∀ b o, A = some ⟨b, o, none⟩ → w'.heap[b]? = w.heap[b]?) : Flat enc k w' A l := by
  rcases h with h | ⟨b, o, rfl, hlt, h⟩
  · exact .inl h
  · exact .inr ⟨b, o, rfl, by omega, fun i t x u hi ht => (World.cell?_of_block (a := ⟨b, o + i * k + t, none⟩) (hb b o rfl)).trans (h i t x u hi ht)⟩
theorem Flat.below (h : Flat enc k w A l) (hb : Below w.heap.size w w') : Flat enc k w' A l := by
  rcases h with h | ⟨b, o, rfl, hlt, h⟩
  · exact .inl h
  · exact .inr ⟨b, o, rfl, Nat.lt_of_lt_of_le hlt hb.size, fun i t x u hi ht => (hb.cell (p := ⟨b, o + i * k + t, none⟩) hlt).trans (h i t x u hi ht)⟩
theorem Flat.alloc (h : Flat enc k w A l) (o : Obj) : Flat enc k (w.alloc o) A l := h.below ((Below.refl _ _).alloc (Nat.le_refl _) o)
theorem Flat.drew (h : Flat enc k w A l) : Flat enc k w.drew A l := h
theorem Flat.at {i : Nat} (h : Flat enc k w A l) (hi : i < l.length) : ∃ b o, A = some ⟨b, o, none⟩ ∧ b < w.heap.size ∧ ∀ (t : Nat) (u : Value), (enc l[i])[t]? = some u → w.cell? ⟨b, o + i * k + t, none⟩ = some u := by
  rcases h with rfl | ⟨b, o, rfl, hlt, h⟩
  · simp at hi
  · exact ⟨b, o, rfl, hlt, fun t u ht => h i t l[i] u (List.getElem?_eq_getElem hi) ht⟩

/-- A row of the call's own, read as records. -/
theorem own_flat {base : Nat} {e : TypeId} {v : Value} (hk : ∀ x, (enc x).length = k) (h : w.ownsRow base e k v l.length (cellsOf enc l)) : ∃ A c, v = .slice A l.length c ∧ l.length ≤ c ∧ Flat enc k w A l := by
  obtain ⟨hlen, ⟨rfl, h0⟩ | ⟨g, cap, cur, rfl, hb, hh, hn, hm, hsz, ht⟩⟩ := h
  · have : l = [] := List.length_eq_zero_iff.1 h0
    subst this
    exact ⟨none, 0, rfl, Nat.le_refl _, .inl rfl⟩
  · refine ⟨_, cap, rfl, hn, .inr ⟨g, 0, rfl, ?_, fun i t x u hi hu => ?_⟩⟩
    · rcases Nat.lt_or_ge g w.heap.size with h' | h'
      · exact h'
      · rw [Array.getElem?_eq_none h'] at hh; cases hh
    · have htk : t < k := by
        rcases Nat.lt_or_ge t k with h' | h'
        · exact h'
        · rw [List.getElem?_eq_none (by rw [hk]; exact h')] at hu; cases hu
      have h1 := cellsOf_at hk l i t x hi htk
      have hil : i < l.length := (List.getElem?_eq_some_iff.1 hi).1
      have hlt : i * k + t < l.length * k := by
        have : (i + 1) * k ≤ l.length * k := Nat.mul_le_mul_right k hil
        rw [Nat.succ_mul] at this; omega
      rw [hu, ← ht, List.getElem?_take_of_lt hlt] at h1
      unfold World.cell?
      rw [hh]
      simp only [Nat.zero_add]
      rw [← Array.getElem?_toList]
      simpa using h1
end
end Go.Proofs.Ytblcgbgcccjpcaa
namespace Go.Proofs.Ytblcgbgcccjpcaa
namespace M

structure Cp where
  ed : Ed
  page : ByteArray
  hidden : Bool
deriving DecidableEq
structure Wk where
  name : ByteArray
  owner : Int
  copies : List Cp
deriving DecidableEq

def cpOk (c : Cp) : Bool := edOk c.ed && pageOk c.page.data.toList
/-- Each is older than the next one. -/
def risesB : List Cp → Bool
  | a :: b :: l => older a.ed b.ed && risesB (b :: l)
  | _ => true
def cpsOk (l : List Cp) : Bool := l.all cpOk && risesB l
def wkOk (w : Wk) : Bool := nameOk w.name.data.toList && inI w.owner 0 3 && decide (w.copies.length ≤ 8) && cpsOk w.copies
def zeroCp : Cp := ⟨zeroEd, nilB, false⟩
def zeroWk : Wk := ⟨nilB, 0, []⟩

/-- How much the bounds of the laws count of a list of copies. -/
def szPages : List Cp → Nat
  | [] => 0
  | c :: l => c.page.size + szPages l
theorem szPages_take (l : List Cp) (i : Nat) (h : i < l.length) : szPages (l.take (i + 1)) = szPages (l.take i) + l[i].page.size := by
  induction l generalizing i with
  | nil => simp at h
  | cons c l ih =>
    cases i with
    | zero => simp [szPages]
    | succ i => simp [szPages, ih i (by simpa using h)]; omega
theorem szPages_take_le (l : List Cp) (i : Nat) : szPages (l.take i) ≤ szPages l := by
  induction l generalizing i with
  | nil => simp [szPages]
  | cons c l ih =>
    cases i with
    | zero => simp [szPages]
    | succ i => have := ih i; simp [szPages]; omega
theorem szPages_mem (l : List Cp) (c : Cp) (h : c ∈ l) : c.page.size ≤ szPages l := by
  induction l with
  | nil => simp at h
  | cons d l ih =>
    rcases List.mem_cons.1 h with rfl | h
    · simp [szPages]
    · have := ih h; simp [szPages]; omega

/-! ### All are right and each is older than the next: seen place by place. -/
def pairOk (l : List Cp) (i : Nat) : Bool := match l[i]?, l[i + 1]? with
  | some a, some b => older a.ed b.ed
  | _, _ => true
theorem risesB_iff : ∀ l : List Cp, risesB l = true ↔ ∀ (i : Nat) (h : i + 1 < l.length), older l[i].ed l[i + 1].ed = true
  | [] => by simp [risesB]
  | [a] => by simp [risesB]
  | a :: b :: l => by
    have ih := risesB_iff (b :: l)
    simp only [risesB, Bool.and_eq_true, ih]
    constructor
    · rintro ⟨h0, h⟩ i hi
      cases i with
      | zero => exact h0
      | succ i => exact h i (by simpa using hi)
    · intro h
      exact ⟨h 0 (by simp), fun i hi => h (i + 1) (by simpa using hi)⟩
theorem cpsOk_iff (l : List Cp) : cpsOk l = true ↔ ∀ (i : Nat) (h : i < l.length), cpOk l[i] = true ∧ (∀ j (e : i = j + 1), older (l[j]'(by omega)).ed l[i].ed = true) := by
  unfold cpsOk
  rw [Bool.and_eq_true, risesB_iff, List.all_eq_true]
  constructor
  · rintro ⟨h1, h2⟩ i hi
    exact ⟨h1 _ (List.getElem_mem hi), fun j e => by subst e; exact h2 j hi⟩
  · intro h
    exact ⟨fun c hc => by
      obtain ⟨i, hi, rfl⟩ := List.mem_iff_getElem.1 hc
      exact (h i hi).1, fun i hi => (h (i + 1) hi).2 i rfl⟩
/-- Up to here all is right. -/
def upTo (l : List Cp) (k : Nat) : Prop := ∀ (i : Nat) (h : i < l.length), i < k → cpOk l[i] = true ∧ (∀ j (e : i = j + 1), older (l[j]'(by omega)).ed l[i].ed = true)
theorem upTo_zero (l : List Cp) : upTo l 0 := fun _ _ h => absurd h (by omega)
theorem upTo_all (l : List Cp) (h : upTo l l.length) : cpsOk l = true := (cpsOk_iff l).2 fun i hi => h i hi hi
theorem upTo_first {l : List Cp} (h : 0 < l.length) (h0 : cpOk l[0] = true) : upTo l 1 := fun i hi hk => by
  obtain rfl : i = 0 := by omega
  exact ⟨h0, fun j e => by omega⟩
theorem upTo_next {l : List Cp} {k : Nat} (h : upTo l (k + 1)) (hk : k + 1 < l.length) (h0 : cpOk l[k + 1] = true) (h1 : older l[k].ed l[k + 1].ed = true) : upTo l (k + 2) := fun i hi hk' => by
  by_cases e : i = k + 1
  · subst e; exact ⟨h0, fun j e => by obtain rfl : j = k := by omega
                                      exact h1⟩
  · exact h i hi (by omega)
theorem cpsOk_not_copy {l : List Cp} {k : Nat} (h : k < l.length) (h0 : cpOk l[k] = false) : cpsOk l = false := by
  rcases hc : cpsOk l with _ | _
  · rfl
  · have := ((cpsOk_iff l).1 hc k h).1; rw [h0] at this; cases this
theorem cpsOk_not_older {l : List Cp} {k : Nat} (h : k + 1 < l.length) (h0 : older l[k].ed l[k + 1].ed = false) : cpsOk l = false := by
  rcases hc : cpsOk l with _ | _
  · rfl
  · have := ((cpsOk_iff l).1 hc (k + 1) h).2 k rfl; rw [h0] at this; cases this
end M
end Go.Proofs.Ytblcgbgcccjpcaa
namespace Go.Proofs.Ytblcgbgcccjpcaa
open Go.RowKit

abbrev cpL (c : M.Cp) : List Value := [.int .i64 c.ed.ma, .int .i64 c.ed.mi, .int .i64 c.ed.pa, .string c.page, .bool c.hidden]
abbrev cpV (c : M.Cp) : Value := .agg #[.int .i64 c.ed.ma, .int .i64 c.ed.mi, .int .i64 c.ed.pa, .string c.page, .bool c.hidden]
theorem cpL_len (c : M.Cp) : (cpL c).length = 5 := rfl
abbrev Cps (w : World) (A : Option Addr) (l : List M.Cp) : Prop := Flat cpL 5 w A l

theorem Cps_at {w : World} {A : Option Addr} {l : List M.Cp} {i : Nat} (h : Cps w A l) (hi : i < l.length) : ∃ b o, A = some ⟨b, o, none⟩ ∧ b < w.heap.size ∧
    w.cell? ⟨b, o + i * 5, none⟩ = some (.int .i64 l[i].ed.ma) ∧ w.cell? ⟨b, o + i * 5 + 1, none⟩ = some (.int .i64 l[i].ed.mi) ∧ w.cell? ⟨b, o + i * 5 + 2, none⟩ = some (.int .i64 l[i].ed.pa) ∧ w.cell? ⟨b, o + i * 5 + 3, none⟩ = some (.string l[i].page) ∧ w.cell? ⟨b, o + i * 5 + 4, none⟩ = some (.bool l[i].hidden) := by
  obtain ⟨b, o, rfl, hb, h⟩ := h.at hi
  exact ⟨b, o, rfl, hb, h 0 _ rfl, h 1 _ rfl, h 2 _ rfl, h 3 _ rfl, h 4 _ rfl⟩

theorem addr_add (b o n : Nat) : (⟨b, o, none⟩ : Addr).add n = ⟨b, o + n, none⟩ := by
  unfold Addr.add; split
  · subst_vars; rfl
  · rfl

abbrev wkL (name : ByteArray) (owner : Int) (A : Option Addr) (n c : Nat) : Array Value := #[.string name, .int .i64 owner, .slice A n c]
abbrev wkV (name : ByteArray) (owner : Int) (A : Option Addr) (n c : Nat) : Value := .agg (wkL name owner A n c)

end Go.Proofs.Ytblcgbgcccjpcaa
