/- Proved, in parts: Proved: facts on slices whose elements are records of a fixed number of cells: what they hold stays behind calls and new blocks; no program's function is named here; no condition. Proved: what copies and works are, in plain Lean; no program is named here; no condition. Proved: the laws' helpers on copies and works (their size, their copy, their likeness) answer plain Lean functions; they write nothing that was there. Proved: an argument that is a slice of records is a list of them, and an argument that is a work is its name, owner and copies; no program is named here. -/
import Derived.Test.YtblcgbgcccjpcaaPart10
import Derived.Laws.OwnMore
import Derived.Laws.AppendOwn
import Derived.Deep.AppendLies
import Derived.Test.YtblcgbgcccjpcaaPart06
import Derived.Test.YtblcgbgcccjpcaaPart05
import Derived.WalkKit
import Derived.Lib.SmallJoins
import Derived.Deep.Slices
import Derived.ChangeSame
namespace Go.Proofs.Ytblcgbgcccjpcaa
open Go.RowKit

/-- The cells of a list of records. -/
def cellsOf {α : Type} (enc : α → List Value) (l : List α) : List Value := l.flatMap enc

theorem cellsOf_len {α : Type} {enc : α → List Value} {k : Nat} (hk : ∀ x, (enc x).length = k) : ∀ l : List α, (cellsOf enc l).length = l.length * k
  | [] => by simp [cellsOf]
  | x :: l => by
    have := cellsOf_len hk l
    unfold cellsOf at this ⊢
    rw [List.flatMap_cons, List.length_append, this, hk, List.length_cons, Nat.succ_mul]; omega

theorem cellsOf_at {α : Type} {enc : α → List Value} {k : Nat} (hk : ∀ x, (enc x).length = k) : ∀ (l : List α) (i t : Nat) (x : α), l[i]? = some x → t < k → (cellsOf enc l)[i * k + t]? = (enc x)[t]?
  | [], i, t, x, h, _ => by simp at h
  | y :: l, 0, t, x, h, ht => by
    simp at h; subst h
    unfold cellsOf
    rw [List.flatMap_cons, Nat.zero_mul, Nat.zero_add, List.getElem?_append_left (by rw [hk]; exact ht)]
  | y :: l, i + 1, t, x, h, ht => by
    simp at h
    have := cellsOf_at hk l i t x h ht
    unfold cellsOf at this ⊢
    rw [List.flatMap_cons, List.getElem?_append_right (by rw [hk, Nat.succ_mul]; omega), hk, ← this]
    congr 1
    rw [Nat.succ_mul]; omega

theorem cellsOf_append {α : Type} (enc : α → List Value) (l m : List α) : cellsOf enc (l ++ m) = cellsOf enc l ++ cellsOf enc m := by
  unfold cellsOf; simp
theorem cellsOf_take {α : Type} {enc : α → List Value} {k : Nat} (hk : ∀ x, (enc x).length = k) : ∀ (l : List α) (i : Nat), (cellsOf enc l).take (i * k) = cellsOf enc (l.take i)
  | [], i => by simp [cellsOf]
  | x :: l, 0 => by simp [cellsOf]
  | x :: l, i + 1 => by
    have := cellsOf_take hk l i
    unfold cellsOf at this ⊢
    rw [List.flatMap_cons, List.take_succ_cons, List.flatMap_cons, ← this, List.take_append, hk, List.take_of_length_le (by rw [hk, Nat.succ_mul]; omega)]
    congr 2
    rw [Nat.succ_mul]; omega
theorem cellsOf_drop {α : Type} {enc : α → List Value} {k : Nat} (hk : ∀ x, (enc x).length = k) : ∀ (l : List α) (i : Nat), (cellsOf enc l).drop (i * k) = cellsOf enc (l.drop i)
  | [], i => by simp [cellsOf]
  | x :: l, 0 => by simp [cellsOf]
  | x :: l, i + 1 => by
    have := cellsOf_drop hk l i
    unfold cellsOf at this ⊢
    rw [List.flatMap_cons, List.drop_succ_cons, ← this, List.drop_append, hk, List.drop_of_length_le (by rw [hk, Nat.succ_mul]; omega)]
    rw [List.nil_append]
    congr 1
    rw [Nat.succ_mul]; omega

/-- A slice at A holds the records of l. -/
def Flat {α : Type} (enc : α → List Value) (k : Nat) (w : World) (A : Option Addr) (l : List α) : Prop :=
  l = [] ∨ ∃ b o, A = some ⟨b, o, none⟩ ∧ b < w.heap.size ∧ ∀ (i t : Nat) (x : α) (u : Value), l[i]? = some x → (enc x)[t]? = some u → w.cell? ⟨b, o + i * k + t, none⟩ = some u

section
variable {α : Type} {enc : α → List Value} {k : Nat} {w w' : World} {A : Option Addr} {l : List α}
theorem Flat.keep (h : Flat enc k w A l) (hs : w.heap.size ≤ w'.heap.size) (hb : ∀ b o, A = some ⟨b, o, none⟩ → w'.heap[b]? = w.heap[b]?) : Flat enc k w' A l := by
  rcases h with h | ⟨b, o, rfl, hlt, h⟩
  · exact .inl h
  · exact .inr ⟨b, o, rfl, by omega, fun i t x u hi ht => (World.cell?_of_block (a := ⟨b, o + i * k + t, none⟩) (hb b o rfl)).trans (h i t x u hi ht)⟩
theorem Flat.below (h : Flat enc k w A l) (hb : Below w.heap.size w w') : Flat enc k w' A l := by
  rcases h with h | ⟨b, o, rfl, hlt, h⟩
  · exact .inl h
  · exact .inr ⟨b, o, rfl, Nat.lt_of_lt_of_le hlt hb.size, fun i t x u hi ht => (hb.cell (p := ⟨b, o + i * k + t, none⟩) hlt).trans (h i t x u hi ht)⟩
theorem Flat.alloc (h : Flat enc k w A l) (o : Obj) : Flat enc k (w.alloc o) A l := h.below ((Below.refl _ _).alloc (Nat.le_refl _) o)
theorem Flat.drew (h : Flat enc k w A l) : Flat enc k w.drew A l := h
theorem Flat.at {i : Nat} (h : Flat enc k w A l) (hi : i < l.length) : ∃ b o, A = some ⟨b, o, none⟩ ∧ b < w.heap.size ∧ ∀ (t : Nat) (u : Value), (enc l[i])[t]? = some u → w.cell? ⟨b, o + i * k + t, none⟩ = some u := by
  rcases h with rfl | ⟨b, o, rfl, hlt, h⟩
  · simp at hi
  · exact ⟨b, o, rfl, hlt, fun t u ht => h i t l[i] u (List.getElem?_eq_getElem hi) ht⟩

/-- A row of the call's own, read as records. -/
theorem own_flat {base : Nat} {e : TypeId} {v : Value} (hk : ∀ x, (enc x).length = k) (h : w.ownsRow base e k v l.length (cellsOf enc l)) : ∃ A c, v = .slice A l.length c ∧ l.length ≤ c ∧ Flat enc k w A l := by
  obtain ⟨hlen, ⟨rfl, h0⟩ | ⟨g, cap, cur, rfl, hb, hh, hn, hm, hsz, ht⟩⟩ := h
  · have : l = [] := List.length_eq_zero_iff.1 h0
    subst this
    exact ⟨none, 0, rfl, Nat.le_refl _, .inl rfl⟩
  · refine ⟨_, cap, rfl, hn, .inr ⟨g, 0, rfl, ?_, fun i t x u hi hu => ?_⟩⟩
    · rcases Nat.lt_or_ge g w.heap.size with h' | h'
      · exact h'
      · rw [Array.getElem?_eq_none h'] at hh; cases hh
    · have htk : t < k := by
        rcases Nat.lt_or_ge t k with h' | h'
        · exact h'
        · rw [List.getElem?_eq_none (by rw [hk]; exact h')] at hu; cases hu
      have h1 := cellsOf_at hk l i t x hi htk
      have hil : i < l.length := (List.getElem?_eq_some_iff.1 hi).1
      have hlt : i * k + t < l.length * k := by
        have : (i + 1) * k ≤ l.length * k := Nat.mul_le_mul_right k hil
        rw [Nat.succ_mul] at this; omega
      rw [hu, ← ht, List.getElem?_take_of_lt hlt] at h1
      unfold World.cell?
      rw [hh]
      simp only [Nat.zero_add]
      rw [← Array.getElem?_toList]
      simpa using h1
end
end Go.Proofs.Ytblcgbgcccjpcaa
namespace Go.Proofs.Ytblcgbgcccjpcaa
namespace M

structure Cp where
  ed : Ed
  page : ByteArray
  hidden : Bool
deriving DecidableEq
structure Wk where
  name : ByteArray
  owner : Int
  copies : List Cp
deriving DecidableEq

def cpOk (c : Cp) : Bool := edOk c.ed && pageOk c.page.data.toList
/-- Each is older than the next one. -/
def risesB : List Cp → Bool
  | a :: b :: l => older a.ed b.ed && risesB (b :: l)
  | _ => true
def cpsOk (l : List Cp) : Bool := l.all cpOk && risesB l
def wkOk (w : Wk) : Bool := nameOk w.name.data.toList && inI w.owner 0 3 && decide (w.copies.length ≤ 8) && cpsOk w.copies
def zeroCp : Cp := ⟨zeroEd, nilB, false⟩
def zeroWk : Wk := ⟨nilB, 0, []⟩

/-- How much the bounds of the laws count of a list of copies. -/
def szPages : List Cp → Nat
  | [] => 0
  | c :: l => c.page.size + szPages l
theorem szPages_take (l : List Cp) (i : Nat) (h : i < l.length) : szPages (l.take (i + 1)) = szPages (l.take i) + l[i].page.size := by
  induction l generalizing i with
  | nil => simp at h
  | cons c l ih =>
    cases i with
    | zero => simp [szPages]
    | succ i => simp [szPages, ih i (by simpa using h)]; omega
theorem szPages_take_le (l : List Cp) (i : Nat) : szPages (l.take i) ≤ szPages l := by
  induction l generalizing i with
  | nil => simp [szPages]
  | cons c l ih =>
    cases i with
    | zero => simp [szPages]
    | succ i => have := ih i; simp [szPages]; omega
theorem szPages_mem (l : List Cp) (c : Cp) (h : c ∈ l) : c.page.size ≤ szPages l := by
  induction l with
  | nil => simp at h
  | cons d l ih =>
    rcases List.mem_cons.1 h with rfl | h
    · simp [szPages]
    · have := ih h; simp [szPages]; omega

/-! ### All are right and each is older than the next: seen place by place. -/
def pairOk (l : List Cp) (i : Nat) : Bool := match l[i]?, l[i + 1]? with
  | some a, some b => older a.ed b.ed
  | _, _ => true
theorem risesB_iff : ∀ l : List Cp, risesB l = true ↔ ∀ (i : Nat) (h : i + 1 < l.length), older l[i].ed l[i + 1].ed = true
  | [] => by simp [risesB]
  | [a] => by simp [risesB]
  | a :: b :: l => by
    have ih := risesB_iff (b :: l)
    simp only [risesB, Bool.and_eq_true, ih]
    constructor
    · rintro ⟨h0, h⟩ i hi
      cases i with
      | zero => exact h0
      | succ i => exact h i (by simpa using hi)
    · intro h
      exact ⟨h 0 (by simp), fun i hi => h (i + 1) (by simpa using hi)⟩
theorem cpsOk_iff (l : List Cp) : cpsOk l = true ↔ ∀ (i : Nat) (h : i < l.length), cpOk l[i] = true ∧ (∀ j (e : i = j + 1), older (l[j]'(by omega)).ed l[i].ed = true) := by
  unfold cpsOk
  rw [Bool.and_eq_true, risesB_iff, List.all_eq_true]
  constructor
  · rintro ⟨h1, h2⟩ i hi
    exact ⟨h1 _ (List.getElem_mem hi), fun j e => by subst e; exact h2 j hi⟩
  · intro h
    exact ⟨fun c hc => by
      obtain ⟨i, hi, rfl⟩ := List.mem_iff_getElem.1 hc
      exact (h i hi).1, fun i hi => (h (i + 1) hi).2 i rfl⟩
/-- Up to here all is right. -/
def upTo (l : List Cp) (k : Nat) : Prop := ∀ (i : Nat) (h : i < l.length), i < k → cpOk l[i] = true ∧ (∀ j (e : i = j + 1), older (l[j]'(by omega)).ed l[i].ed = true)
theorem upTo_zero (l : List Cp) : upTo l 0 := fun _ _ h => absurd h (by omega)
theorem upTo_all (l : List Cp) (h : upTo l l.length) : cpsOk l = true := (cpsOk_iff l).2 fun i hi => h i hi hi
theorem upTo_first {l : List Cp} (h : 0 < l.length) (h0 : cpOk l[0] = true) : upTo l 1 := fun i hi hk => by
  obtain rfl : i = 0 := by omega
  exact ⟨h0, fun j e => by omega⟩
theorem upTo_next {l : List Cp} {k : Nat} (h : upTo l (k + 1)) (hk : k + 1 < l.length) (h0 : cpOk l[k + 1] = true) (h1 : older l[k].ed l[k + 1].ed = true) : upTo l (k + 2) := fun i hi hk' => by
  by_cases e : i = k + 1
  · subst e; exact ⟨h0, fun j e => by obtain rfl : j = k := by omega
                                      exact h1⟩
  · exact h i hi (by omega)
theorem cpsOk_not_copy {l : List Cp} {k : Nat} (h : k < l.length) (h0 : cpOk l[k] = false) : cpsOk l = false := by
  rcases hc : cpsOk l with _ | _
  · rfl
  · have := ((cpsOk_iff l).1 hc k h).1; rw [h0] at this; cases this
theorem cpsOk_not_older {l : List Cp} {k : Nat} (h : k + 1 < l.length) (h0 : older l[k].ed l[k + 1].ed = false) : cpsOk l = false := by
  rcases hc : cpsOk l with _ | _
  · rfl
  · have := ((cpsOk_iff l).1 hc (k + 1) h).2 k rfl; rw [h0] at this; cases this
end M
end Go.Proofs.Ytblcgbgcccjpcaa
namespace Go.Proofs.Ytblcgbgcccjpcaa
open Go.RowKit

abbrev cpL (c : M.Cp) : List Value := [.int .i64 c.ed.ma, .int .i64 c.ed.mi, .int .i64 c.ed.pa, .string c.page, .bool c.hidden]
abbrev cpV (c : M.Cp) : Value := .agg #[.int .i64 c.ed.ma, .int .i64 c.ed.mi, .int .i64 c.ed.pa, .string c.page, .bool c.hidden]
theorem cpL_len (c : M.Cp) : (cpL c).length = 5 := rfl
abbrev Cps (w : World) (A : Option Addr) (l : List M.Cp) : Prop := Flat cpL 5 w A l

theorem Cps_at {w : World} {A : Option Addr} {l : List M.Cp} {i : Nat} (h : Cps w A l) (hi : i < l.length) : ∃ b o, A = some ⟨b, o, none⟩ ∧ b < w.heap.size ∧
    w.cell? ⟨b, o + i * 5, none⟩ = some (.int .i64 l[i].ed.ma) ∧ w.cell? ⟨b, o + i * 5 + 1, none⟩ = some (.int .i64 l[i].ed.mi) ∧ w.cell? ⟨b, o + i * 5 + 2, none⟩ = some (.int .i64 l[i].ed.pa) ∧ w.cell? ⟨b, o + i * 5 + 3, none⟩ = some (.string l[i].page) ∧ w.cell? ⟨b, o + i * 5 + 4, none⟩ = some (.bool l[i].hidden) := by
  obtain ⟨b, o, rfl, hb, h⟩ := h.at hi
  exact ⟨b, o, rfl, hb, h 0 _ rfl, h 1 _ rfl, h 2 _ rfl, h 3 _ rfl, h 4 _ rfl⟩

theorem addr_add (b o n : Nat) : (⟨b, o, none⟩ : Addr).add n = ⟨b, o + n, none⟩ := by
  unfold Addr.add; split
  · subst_vars; rfl
  · rfl

abbrev wkL (name : ByteArray) (owner : Int) (A : Option Addr) (n c : Nat) : Array Value := #[.string name, .int .i64 owner, .slice A n c]
abbrev wkV (name : ByteArray) (owner : Int) (A : Option Addr) (n c : Nat) : Value := .agg (wkL name owner A n c)

end Go.Proofs.Ytblcgbgcccjpcaa
namespace Go.Proofs.Ytblcgbgcccjpcaa
open Go.ChangeShapes Go.WideShapes Go.ChangeAt Go.RowKit Go.Joins Go.Deep

theorem cell_spot {w : World} {a : Addr} {v : Value} (h : w.cell? a = some v) : a = ⟨a.block, a.off, none⟩ := by
  unfold World.cell? at h
  rcases a with ⟨b, o, _ | s⟩
  · rfl
  · split at h <;> simp at h

section
variable {H : Type} {enc : TypeId × Value → H} {P : Program} {w : World} {base : Nat} {spare : Nat → Bool} {held : Bool}

theorem open_rows {α : Type} [Inhabited α] {en : α → List Value} {k : Nat} {Q : α → Prop} {t e : TypeId} {fuel : Nat} {cs : List Value} {x : DataW H × List MemPlace} (ht : P.underlying t = some (.slice e)) (hk : P.cellsOf e = k) (hk0 : 0 < k)
    (hlen : ∀ x, (en x).length = k) (op : ∀ (n : Nat) (cs : List Value) (x : DataW H × List MemPlace), DataW.trod enc P w base spare held n e cs = some x → ∃ c, cs = en c ∧ Q c)
    (h : DataW.trod enc P w base spare held fuel t cs = some x) : ∃ (A : Option Addr) (l : List α) (c : Nat), cs = [.slice A l.length c] ∧ Flat en k w A l ∧ l.length ≤ c ∧ c ≤ maxLen ∧ ∀ x ∈ l, Q x := by
  subst hk
  rcases open_slice ht h with ⟨rfl, _⟩ | ⟨a, len, cap, m, n, D, Pl, rfl, hb, hl, hm, hmm, hx, hi⟩
  · exact ⟨none, [], 0, rfl, .inl rfl, Nat.le_refl _, Nat.zero_le _, by simp⟩
  · have hlm : len ≤ m := by rw [hmm]; split <;> omega
    have hall : ∀ i, i < len → ∃ c, Q c ∧ ∀ t u, (en c)[t]? = some u → w.cell? (a.add (i * P.cellsOf e + t)) = some u := by
      intro i hil
      obtain ⟨cs', hc, ht'⟩ := hi i (by omega)
      obtain ⟨c, rfl, hq⟩ := op n cs' _ ht'
      obtain ⟨_, hcl, hat⟩ := World.cells?_some hc
      refine ⟨c, hq, fun t u hu => ?_⟩
      have htl : t < P.cellsOf e := by
        rcases Nat.lt_or_ge t (en c).length with h' | h'
        · rw [hlen] at h'; exact h'
        · rw [List.getElem?_eq_none h'] at hu; cases hu
      have := hat t htl
      rw [← Go.Deep.add_add, this, hu]
    obtain ⟨F, hF⟩ : ∃ F : Nat → α, ∀ i, i < len → Q (F i) ∧ ∀ t u, (en (F i))[t]? = some u → w.cell? (a.add (i * P.cellsOf e + t)) = some u := by
      refine ⟨fun i => if h : i < len then Classical.choose (hall i h) else default, fun i hil => ?_⟩
      simp only [dif_pos hil]
      exact Classical.choose_spec (hall i hil)
    refine ⟨some a, (List.range len).map F, cap, by simp, ?_, by simpa using hl, hm, fun y hy => ?_⟩
    · rcases Nat.eq_zero_or_pos len with h0 | h0
      · subst h0; exact .inl rfl
      · have h1 : (en (F 0))[0]? = some ((en (F 0))[0]'(by rw [hlen]; exact hk0)) := List.getElem?_eq_getElem _
        have h2 := (hF 0 h0).2 0 _ h1
        have h3 : a.add (0 * P.cellsOf e + 0) = a := by simp [Addr.add]
        rw [h3] at h2
        have ha := cell_spot h2
        rw [ha]
        refine .inr ⟨a.block, a.off, rfl, World.block_lt_of_cell? w _ h2, fun i t x u hi hu => ?_⟩
        rw [List.getElem?_map] at hi
        have hil : i < len := by
          rcases Nat.lt_or_ge i len with h' | h'
          · exact h'
          · rw [List.getElem?_eq_none (by simpa using h')] at hi; cases hi
        rw [List.getElem?_range hil] at hi
        simp at hi
        subst hi
        have := (hF i hil).2 t u hu
        rw [ha, addr_add, ← Nat.add_assoc] at this
        exact this
    · simp at hy
      obtain ⟨i, hil, rfl⟩ := hy
      exact (hF i hil).1

theorem cells_ed {t : TypeId} {g0 g1 g2 : Field} {n : Nat} {cs : List Value} {x : DataW H × List MemPlace} (hs : P.underlying t = some (.struct #[g0, g1, g2])) (hC : P.cellsOf t = 3)
    (po : [g0.offset, g1.offset, g2.offset] = [0, 1, 2]) (pk : [P.cellsOf g0.type, P.cellsOf g1.type, P.cellsOf g2.type] = [1, 1, 1])
    (x0 : P.underlying g0.type = some (.int .i64)) (x1 : P.underlying g1.type = some (.int .i64)) (x2 : P.underlying g2.type = some (.int .i64))
    (h : DataW.trod enc P w base spare held n t cs = some x) : ∃ e : M.Ed, cs = [.int .i64 e.ma, .int .i64 e.mi, .int .i64 e.pa] := by
  obtain ⟨zs, m, _, _, hl, hlen', hfld'⟩ := DataW.trod_struct hs h
  simp only [List.cons.injEq, and_true] at po pk
  obtain ⟨p0, p1, p2⟩ := po
  obtain ⟨q0, q1, q2⟩ := pk
  match cs, hl.trans hC with
  | [c0, c1, c2], _ =>
    match zs, hlen' with
    | [z0, z1, z2], _ =>
      have i0 := hfld' 0 g0 rfl
      have i1 := hfld' 1 g1 rfl
      have i2 := hfld' 2 g2 rfl
      simp only [p0, p1, p2, q0, q1, q2, List.drop_zero, List.drop_succ_cons, List.take_succ_cons, List.take_zero, List.getElem?_cons_zero, List.getElem?_cons_succ] at i0 i1 i2
      obtain ⟨b0, j0, _⟩ := DataW.trod_int x0 i0
      obtain ⟨b1, j1, _⟩ := DataW.trod_int x1 i1
      obtain ⟨b2, j2, _⟩ := DataW.trod_int x2 i2
      simp only [List.cons.injEq, and_true] at j0 j1 j2
      subst j0 j1 j2
      exact ⟨⟨b0, b1, b2⟩, rfl⟩

theorem cells_cp {t : TypeId} {f0 f1 f2 g0 g1 g2 : Field} {n : Nat} {cs : List Value} {x : DataW H × List MemPlace} (hs : P.underlying t = some (.struct #[f0, f1, f2])) (hC : P.cellsOf t = 5)
    (ho : [f0.offset, f1.offset, f2.offset] = [0, 3, 4]) (hk : [P.cellsOf f0.type, P.cellsOf f1.type, P.cellsOf f2.type] = [3, 1, 1])
    (u0 : P.underlying f0.type = some (.struct #[g0, g1, g2])) (u1 : P.underlying f1.type = some .string) (u2 : P.underlying f2.type = some .bool)
    (po : [g0.offset, g1.offset, g2.offset] = [0, 1, 2]) (pk : [P.cellsOf g0.type, P.cellsOf g1.type, P.cellsOf g2.type] = [1, 1, 1])
    (x0 : P.underlying g0.type = some (.int .i64)) (x1 : P.underlying g1.type = some (.int .i64)) (x2 : P.underlying g2.type = some (.int .i64))
    (h : DataW.trod enc P w base spare held n t cs = some x) : ∃ c : M.Cp, cs = cpL c ∧ c.page.size ≤ maxLen := by
  obtain ⟨zs, m, _, _, hl, hlen', hfld'⟩ := DataW.trod_struct hs h
  simp only [List.cons.injEq, and_true] at ho hk
  obtain ⟨p0, p1, p2⟩ := ho
  obtain ⟨q0, q1, q2⟩ := hk
  match cs, hl.trans hC with
  | [c0, c1, c2, c3, c4], _ =>
    match zs, hlen' with
    | [z0, z1, z2], _ =>
      have i0 := hfld' 0 f0 rfl
      have i1 := hfld' 1 f1 rfl
      have i2 := hfld' 2 f2 rfl
      simp only [p0, p1, p2, q0, q1, q2, List.drop_zero, List.drop_succ_cons, List.take_succ_cons, List.take_zero, List.getElem?_cons_zero, List.getElem?_cons_succ] at i0 i1 i2
      obtain ⟨e, j0⟩ := cells_ed u0 q0 po pk x0 x1 x2 i0
      obtain ⟨s, j1, _, hsz⟩ := DataW.trod_string u1 i1
      obtain ⟨b, j2, _⟩ := DataW.trod_bool u2 i2
      simp only [List.cons.injEq, and_true] at j0 j1 j2
      obtain ⟨rfl, rfl, rfl⟩ := j0
      subst j1 j2
      exact ⟨⟨e, s, b⟩, rfl, hsz⟩

theorem open_wk {r : Reach} {b0 : Nat} {t tc te : TypeId} {h0 h1 h2 f0 f1 f2 g0 g1 g2 : Field} {v : Value} {d : DataW H} {p : List MemPlace} (hs : P.underlying t = some (.struct #[h0, h1, h2])) (hC : P.cellsOf t = 3)
    (so : [h0.offset, h1.offset, h2.offset] = [0, 1, 2]) (sk : [P.cellsOf h0.type, P.cellsOf h1.type, P.cellsOf h2.type] = [1, 1, 1])
    (y0 : P.underlying h0.type = some .string) (y1 : P.underlying h1.type = some (.int .i64)) (y2 : h2.type = tc) (y3 : P.underlying tc = some (.slice te))
    (hcs : P.underlying te = some (.struct #[f0, f1, f2])) (hcC : P.cellsOf te = 5)
    (ho : [f0.offset, f1.offset, f2.offset] = [0, 3, 4]) (hk : [P.cellsOf f0.type, P.cellsOf f1.type, P.cellsOf f2.type] = [3, 1, 1])
    (u0 : P.underlying f0.type = some (.struct #[g0, g1, g2])) (u1 : P.underlying f1.type = some .string) (u2 : P.underlying f2.type = some .bool)
    (po : [g0.offset, g1.offset, g2.offset] = [0, 1, 2]) (pk : [P.cellsOf g0.type, P.cellsOf g1.type, P.cellsOf g2.type] = [1, 1, 1])
    (x0 : P.underlying g0.type = some (.int .i64)) (x1 : P.underlying g1.type = some (.int .i64)) (x2 : P.underlying g2.type = some (.int .i64))
    (hv : Value.okWide P w r b0 t v) (h : DataW.Trod enc P w base spare held t v d p) :
    ∃ (name : ByteArray) (owner : Int) (A : Option Addr) (l : List M.Cp) (c : Nat), v = wkV name owner A l.length c ∧ name.size ≤ maxLen ∧ Cps w A l ∧ l.length ≤ maxLen ∧ ∀ x ∈ l, x.page.size ≤ maxLen := by
  obtain ⟨cs, rfl, hsz⟩ := okWide_struct hs hv
  obtain ⟨l⟩ := cs
  match l, hsz.trans hC with
  | [c0, c1, c2], _ =>
    obtain ⟨fuel, hf⟩ := h
    obtain ⟨xs, n, _, hx, _, hlen, hg⟩ := DataW.trod_struct hs hf
    simp only [List.cons.injEq, and_true] at so sk
    obtain ⟨p0, p1, p2⟩ := so
    obtain ⟨q0, q1, q2⟩ := sk
    match xs, hlen with
    | [z0, z1, z2], _ =>
      have i0 := hg 0 h0 rfl
      have i1 := hg 1 h1 rfl
      have i2 := hg 2 h2 rfl
      simp only [Value.cells, p0, p1, p2, q0, q1, q2, List.drop_zero, List.drop_succ_cons, List.take_succ_cons, List.take_zero, List.getElem?_cons_zero, List.getElem?_cons_succ] at i0 i1 i2
      obtain ⟨s, j0, _, hss⟩ := DataW.trod_string y0 i0
      obtain ⟨b, j1, _⟩ := DataW.trod_int y1 i1
      rw [y2] at i2
      haveI : Inhabited M.Cp := ⟨M.zeroCp⟩
      obtain ⟨A, l, c, j2, hfl, hlc, hcm, hq⟩ := open_rows (en := cpL) (Q := fun c => c.page.size ≤ maxLen) y3 hcC (by omega) cpL_len (fun n cs x hx => cells_cp hcs hcC ho hk u0 u1 u2 po pk x0 x1 x2 hx) i2
      simp only [List.cons.injEq, and_true] at j0 j1 j2
      subst j0 j1 j2
      exact ⟨s, b, A, l, c, rfl, hss, hfl, by omega, hq⟩
end
end Go.Proofs.Ytblcgbgcccjpcaa
