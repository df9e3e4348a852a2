/- Proved, in parts: Proved: how a roll stands in memory, and what is asked of one, as plain Lean functions; no program is named here; no condition. Proved: plain facts on sets of scribes as numbers, how many are more than half, and what the machine's shifts and ors of such numbers give; no program is named here; no condition. Proved: the model's CountOk, MostOf, InSet, With, SizeOf answer plain Lean functions at every number, and leave the world as it is; no condition. Proved: plain facts on what more than half have reached: one number alone is reached, and a falling list shows it at its middle; how an insertion keeps its order. No program is named here; no condition. Proved: append of a slice of records onto a row of the call's own, the source nil, empty or not; cuts of such a row; no program's function is named here. Condition: the bytes fit. Proved: the model's Reached answers the number that more than half have reached, -1 of other lists, and writes nothing that was there; the list holds at most as many numbers as there are. Proved: an argument that is a slice of records is a list of them, and an argument that is a work is its name, owner and copies; no program is named here. Proved: the laws' helpers on lists of numbers: a copy is in new memory, and two lists of the same numbers are alike; an argument that is a slice of numbers is a list of them. Condition: at most 1048576 numbers. Proved: facts on blocks of a few cells: what they hold, that they may be written, and what they hold behind writes into all of their cells; no program's function is named here; no condition. Proved: a box of 15 cells that is written whole, or read whole; no program is named here; no condition. Proved: how a roll, a book and a scribe stand in memory, with the places of their lists, and what they are as plain data; when they can be read. No program's function is named here; no condition. -/
import Derived.Test.YtdoeiphnalbinaaPart05
import Derived.Test.YtdoeiphnalbinaaPart06
import Derived.Test.YtdoeiphnalbinaaPart01
import Derived.IntWalk
import Derived.Test.YtdoeiphnalbinaaPart02
import Derived.ScopeJumps
import Derived.Scope
import Derived.WalkMore
import Derived.Test.YtdoeiphnalbinaaPart03
import Derived.OwnWalk
import Derived.Deep.Onto
import Derived.WalkKit
import Derived.Lib.SmallJoins
import Derived.Deep.Slices
import Derived.ChangeSame
import Derived.Test.YtdoeiphnalbinaaPart04
namespace Go.Proofs.Ytdoeiphnalbinaa
open Go.RowKit
abbrev roA (b r : Int) (A : Option Addr) (n c : Nat) : Array Value := #[.int .i64 b, .int .i64 r, .slice A n c]
abbrev roV (b r : Int) (A : Option Addr) (n c : Nat) : Value := .agg (roA b r A n c)
namespace M
/-- No reign is less than the one ahead. -/
def upFrom : Int → List En → Bool
  | _, [] => true
  | k, e :: l => decide (k ≤ e.reign) && upFrom e.reign l
/-- The reign of which the walk asks next, behind the first j. -/
def reignAhead (r : Int) (l : List En) (j : Nat) : Int := match j with
  | 0 => r
  | j + 1 => match l[j]? with
    | some e => e.reign
    | none => r
theorem reignAhead_succ {r : Int} {l : List En} {j : Nat} (h : j < l.length) : reignAhead r l (j + 1) = l[j].reign := by
  unfold reignAhead
  simp [List.getElem?_eq_getElem h]
theorem reignAhead_cons {r : Int} {e : En} {l : List En} {j : Nat} (h : j ≤ l.length) : reignAhead r (e :: l) (j + 1) = reignAhead e.reign l j := by
  cases j with
  | zero => rfl
  | succ j => rw [reignAhead_succ (by simp; omega), reignAhead_succ (by omega)]; simp
theorem upFrom_iff (r : Int) (l : List En) : upFrom r l = true ↔ ∀ (j : Nat) (h : j < l.length), reignAhead r l j ≤ l[j].reign := by
  induction l generalizing r with
  | nil => simp [upFrom]
  | cons e l ih =>
    simp only [upFrom, Bool.and_eq_true, decide_eq_true_eq, ih]
    constructor
    · rintro ⟨h1, h2⟩ j hj
      cases j with
      | zero => exact h1
      | succ j =>
        have hj' : j < l.length := by simpa using hj
        rw [reignAhead_cons (by omega)]
        exact h2 j hj'
    · intro h
      refine ⟨h 0 (by simp), fun j hj => ?_⟩
      have := h (j + 1) (by simpa using hj)
      rw [reignAhead_cons (by omega)] at this
      exact this
/-- The first j are not less than the one ahead. -/
def UpTo (r : Int) (l : List En) (j : Nat) : Prop := ∀ (i : Nat) (h : i < l.length), i < j → reignAhead r l i ≤ l[i].reign
theorem UpTo.zero (r : Int) (l : List En) : UpTo r l 0 := fun _ _ h => absurd h (by omega)
theorem UpTo.next {r : Int} {l : List En} {j : Nat} (h : UpTo r l j) (hj : j < l.length) (hr : reignAhead r l j ≤ l[j].reign) : UpTo r l (j + 1) := fun i hi hij => by
  by_cases e : i = j
  · subst e; exact hr
  · exact h i hi (by omega)
theorem UpTo.all {r : Int} {l : List En} (h : UpTo r l l.length) : upFrom r l = true := (upFrom_iff r l).2 fun i hi => h i hi hi
/-- What the model asks of a list's entries, one by one. -/
def listOk (r : Int) (l : List En) : Bool := l.all entryOk && upFrom r l
/-- The first j are right and not less than the one ahead. -/
def OkTo (r : Int) (l : List En) (j : Nat) : Prop := ∀ (i : Nat) (h : i < l.length), i < j → entryOk l[i] = true ∧ reignAhead r l i ≤ l[i].reign
theorem OkTo.zero (r : Int) (l : List En) : OkTo r l 0 := fun _ _ h => absurd h (by omega)
theorem OkTo.next {r : Int} {l : List En} {j : Nat} (h : OkTo r l j) (hj : j < l.length) (he : entryOk l[j] = true) (hr : reignAhead r l j ≤ l[j].reign) : OkTo r l (j + 1) := fun i hi hij => by
  by_cases e : i = j
  · subst e; exact ⟨he, hr⟩
  · exact h i hi (by omega)
theorem OkTo.all {r : Int} {l : List En} (h : OkTo r l l.length) : listOk r l = true := by
  simp only [listOk, Bool.and_eq_true]
  exact ⟨List.all_eq_true.2 fun x hx => by obtain ⟨i, hi, rfl⟩ := List.mem_iff_getElem.1 hx; exact (h i hi hi).1, (upFrom_iff r l).2 fun i hi => (h i hi hi).2⟩
end M
end Go.Proofs.Ytdoeiphnalbinaa
namespace Go.Proofs.Ytdoeiphnalbinaa
open Go.RowKit
namespace M

def cok (n : Int) : Bool := n == 3 || n == 5
def most (n : Int) : Int := if cok n then n / 2 + 1 else 0
end M

end Go.Proofs.Ytdoeiphnalbinaa
namespace Go.Proofs.Ytdoeiphnalbinaa
open Go.RowKit

end Go.Proofs.Ytdoeiphnalbinaa
namespace Go.Proofs.Ytdoeiphnalbinaa
open Go.RowKit
namespace M

/-- More than half are not below r, and not more than half above it. -/
def Reach (m : Nat) (l : List Int) (r : Int) : Prop := m ≤ l.countP (fun x => decide (r ≤ x)) ∧ l.countP (fun x => decide (r < x)) < m

theorem Reach.one {m : Nat} {l : List Int} {r s : Int} (h : Reach m l r) (k : Reach m l s) : r = s := by
  have key : ∀ a b : Int, a < b → l.countP (fun x => decide (b ≤ x)) ≤ l.countP (fun x => decide (a < x)) := fun a b hab =>
    List.countP_mono_left (fun x _ hx => by simp only [decide_eq_true_eq] at *; omega)
  rcases Int.lt_trichotomy r s with hlt | he | hlt
  · have := key r s hlt; have := h.2; have := k.1; omega
  · exact he
  · have := key s r hlt; have := k.2; have := h.1; omega

/-- The same numbers, told by how many of a kind there are. -/
def SameMany (l s : List Int) : Prop := s.length = l.length ∧ ∀ p : Int → Bool, s.countP p = l.countP p
theorem SameMany.refl (l : List Int) : SameMany l l := ⟨rfl, fun _ => rfl⟩
/-- Falling up to i, but that the one at k may stand too far back. -/
def FallsBut (s : List Int) (i k : Nat) : Prop := ∀ a b : Nat, a < b → b ≤ i → b ≠ k → ∀ (hb : b < s.length) (ha : a < s.length), s[b] ≤ s[a]
def Falls (s : List Int) (i : Nat) : Prop := ∀ a b : Nat, a < b → b < i → ∀ (hb : b < s.length) (ha : a < s.length), s[b] ≤ s[a]

theorem Falls.start {s : List Int} {i : Nat} (h : Falls s i) : FallsBut s i i := fun a b hab hbi hbk hb ha => h a b hab (by omega) hb ha
theorem FallsBut.first {s : List Int} {i : Nat} (h : FallsBut s i 0) : Falls s (i + 1) := fun a b hab hbi hb ha => h a b hab (by omega) (by omega) hb ha
theorem FallsBut.stands {s : List Int} {i k : Nat} (h : FallsBut s i k) (hk : 0 < k) (hki : k ≤ i) (hi : i < s.length) (hs : s[k]'(by omega) ≤ s[k - 1]'(by omega)) : Falls s (i + 1) := by
  intro a b hab hbi hb ha
  by_cases hbk : b = k
  · subst hbk
    by_cases hak : a = b - 1
    · subst hak; exact hs
    · exact Int.le_trans hs (h a (b - 1) (by omega) (by omega) (by omega) (by omega) ha)
  · exact h a b hab (by omega) hbk hb ha
end M
end Go.Proofs.Ytdoeiphnalbinaa
namespace Go.Proofs.Ytdoeiphnalbinaa
open Go.RowKit

section
variable {α : Type} {enc : α → List Value} {k : Nat} {w w' : World} {l : List α}
end

end Go.Proofs.Ytdoeiphnalbinaa
namespace Go.Proofs.Ytdoeiphnalbinaa
open Go.RowKit

abbrev inL (x : Int) : List Value := [.int .i64 x]
abbrev Ints (w : World) (A : Option Addr) (l : List Int) : Prop := Flat inL 1 w A l
end Go.Proofs.Ytdoeiphnalbinaa
namespace Go.Proofs.Ytdoeiphnalbinaa
open Go.ChangeShapes Go.WideShapes Go.ChangeAt Go.RowKit Go.Joins Go.Deep

theorem cell_spot {w : World} {a : Addr} {v : Value} (h : w.cell? a = some v) : a = ⟨a.block, a.off, none⟩ := by
  unfold World.cell? at h
  rcases a with ⟨b, o, _ | s⟩
  · rfl
  · split at h <;> simp at h

section
variable {H : Type} {enc : TypeId × Value → H} {P : Program} {w : World} {base : Nat} {spare : Nat → Bool} {held : Bool}

theorem open_rows {α : Type} [Inhabited α] {en : α → List Value} {k : Nat} {Q : α → Prop} {t e : TypeId} {fuel : Nat} {cs : List Value} {x : DataW H × List MemPlace} (ht : P.underlying t = some (.slice e)) (hk : P.cellsOf e = k) (hk0 : 0 < k)
    (hlen : ∀ x, (en x).length = k) (op : ∀ (n : Nat) (cs : List Value) (x : DataW H × List MemPlace), DataW.trod enc P w base spare held n e cs = some x → ∃ c, cs = en c ∧ Q c)
    (h : DataW.trod enc P w base spare held fuel t cs = some x) : ∃ (A : Option Addr) (l : List α) (c : Nat), cs = [.slice A l.length c] ∧ Flat en k w A l ∧ l.length ≤ c ∧ c ≤ maxLen ∧ ∀ x ∈ l, Q x := by
  subst hk
  rcases open_slice ht h with ⟨rfl, _⟩ | ⟨a, len, cap, m, n, D, Pl, rfl, hb, hl, hm, hmm, hx, hi⟩
  · exact ⟨none, [], 0, rfl, .inl rfl, Nat.le_refl _, Nat.zero_le _, by simp⟩
  · have hlm : len ≤ m := by rw [hmm]; split <;> omega
    have hall : ∀ i, i < len → ∃ c, Q c ∧ ∀ t u, (en c)[t]? = some u → w.cell? (a.add (i * P.cellsOf e + t)) = some u := by
      intro i hil
      obtain ⟨cs', hc, ht'⟩ := hi i (by omega)
      obtain ⟨c, rfl, hq⟩ := op n cs' _ ht'
      obtain ⟨_, hcl, hat⟩ := World.cells?_some hc
      refine ⟨c, hq, fun t u hu => ?_⟩
      have htl : t < P.cellsOf e := by
        rcases Nat.lt_or_ge t (en c).length with h' | h'
        · rw [hlen] at h'; exact h'
        · rw [List.getElem?_eq_none h'] at hu; cases hu
      have := hat t htl
      rw [← Go.Deep.add_add, this, hu]
    obtain ⟨F, hF⟩ : ∃ F : Nat → α, ∀ i, i < len → Q (F i) ∧ ∀ t u, (en (F i))[t]? = some u → w.cell? (a.add (i * P.cellsOf e + t)) = some u := by
      refine ⟨fun i => if h : i < len then Classical.choose (hall i h) else default, fun i hil => ?_⟩
      simp only [dif_pos hil]
      exact Classical.choose_spec (hall i hil)
    refine ⟨some a, (List.range len).map F, cap, by simp, ?_, by simpa using hl, hm, fun y hy => ?_⟩
    · rcases Nat.eq_zero_or_pos len with h0 | h0
      · subst h0; exact .inl rfl
      · have h1 : (en (F 0))[0]? = some ((en (F 0))[0]'(by rw [hlen]; exact hk0)) := List.getElem?_eq_getElem _
        have h2 := (hF 0 h0).2 0 _ h1
        have h3 : a.add (0 * P.cellsOf e + 0) = a := by simp [Addr.add]
        rw [h3] at h2
        have ha := cell_spot h2
        rw [ha]
        refine .inr ⟨a.block, a.off, rfl, World.block_lt_of_cell? w _ h2, fun i t x u hi hu => ?_⟩
        rw [List.getElem?_map] at hi
        have hil : i < len := by
          rcases Nat.lt_or_ge i len with h' | h'
          · exact h'
          · rw [List.getElem?_eq_none (by simpa using h')] at hi; cases hi
        rw [List.getElem?_range hil] at hi
        simp at hi
        subst hi
        have := (hF i hil).2 t u hu
        rw [ha, addr_add, ← Nat.add_assoc] at this
        exact this
    · simp at hy
      obtain ⟨i, hil, rfl⟩ := hy
      exact (hF i hil).1

theorem cells_ed {t : TypeId} {g0 g1 g2 : Field} {n : Nat} {cs : List Value} {x : DataW H × List MemPlace} (hs : P.underlying t = some (.struct #[g0, g1, g2])) (hC : P.cellsOf t = 3)
    (po : [g0.offset, g1.offset, g2.offset] = [0, 1, 2]) (pk : [P.cellsOf g0.type, P.cellsOf g1.type, P.cellsOf g2.type] = [1, 1, 1])
    (x0 : P.underlying g0.type = some (.int .i64)) (x1 : P.underlying g1.type = some (.int .i64)) (x2 : P.underlying g2.type = some (.int .i64))
    (h : DataW.trod enc P w base spare held n t cs = some x) : ∃ e : M.Ed, cs = [.int .i64 e.ma, .int .i64 e.mi, .int .i64 e.pa] := by
  obtain ⟨zs, m, _, _, hl, hlen', hfld'⟩ := DataW.trod_struct hs h
  simp only [List.cons.injEq, and_true] at po pk
  obtain ⟨p0, p1, p2⟩ := po
  obtain ⟨q0, q1, q2⟩ := pk
  match cs, hl.trans hC with
  | [c0, c1, c2], _ =>
    match zs, hlen' with
    | [z0, z1, z2], _ =>
      have i0 := hfld' 0 g0 rfl
      have i1 := hfld' 1 g1 rfl
      have i2 := hfld' 2 g2 rfl
      simp only [p0, p1, p2, q0, q1, q2, List.drop_zero, List.drop_succ_cons, List.take_succ_cons, List.take_zero, List.getElem?_cons_zero, List.getElem?_cons_succ] at i0 i1 i2
      obtain ⟨b0, j0, _⟩ := DataW.trod_int x0 i0
      obtain ⟨b1, j1, _⟩ := DataW.trod_int x1 i1
      obtain ⟨b2, j2, _⟩ := DataW.trod_int x2 i2
      simp only [List.cons.injEq, and_true] at j0 j1 j2
      subst j0 j1 j2
      exact ⟨⟨b0, b1, b2⟩, rfl⟩

theorem cells_cp {t : TypeId} {f0 f1 f2 g0 g1 g2 : Field} {n : Nat} {cs : List Value} {x : DataW H × List MemPlace} (hs : P.underlying t = some (.struct #[f0, f1, f2])) (hC : P.cellsOf t = 5)
    (ho : [f0.offset, f1.offset, f2.offset] = [0, 3, 4]) (hk : [P.cellsOf f0.type, P.cellsOf f1.type, P.cellsOf f2.type] = [3, 1, 1])
    (u0 : P.underlying f0.type = some (.struct #[g0, g1, g2])) (u1 : P.underlying f1.type = some .string) (u2 : P.underlying f2.type = some .bool)
    (po : [g0.offset, g1.offset, g2.offset] = [0, 1, 2]) (pk : [P.cellsOf g0.type, P.cellsOf g1.type, P.cellsOf g2.type] = [1, 1, 1])
    (x0 : P.underlying g0.type = some (.int .i64)) (x1 : P.underlying g1.type = some (.int .i64)) (x2 : P.underlying g2.type = some (.int .i64))
    (h : DataW.trod enc P w base spare held n t cs = some x) : ∃ c : M.Cp, cs = cpL c ∧ c.page.size ≤ maxLen := by
  obtain ⟨zs, m, _, _, hl, hlen', hfld'⟩ := DataW.trod_struct hs h
  simp only [List.cons.injEq, and_true] at ho hk
  obtain ⟨p0, p1, p2⟩ := ho
  obtain ⟨q0, q1, q2⟩ := hk
  match cs, hl.trans hC with
  | [c0, c1, c2, c3, c4], _ =>
    match zs, hlen' with
    | [z0, z1, z2], _ =>
      have i0 := hfld' 0 f0 rfl
      have i1 := hfld' 1 f1 rfl
      have i2 := hfld' 2 f2 rfl
      simp only [p0, p1, p2, q0, q1, q2, List.drop_zero, List.drop_succ_cons, List.take_succ_cons, List.take_zero, List.getElem?_cons_zero, List.getElem?_cons_succ] at i0 i1 i2
      obtain ⟨e, j0⟩ := cells_ed u0 q0 po pk x0 x1 x2 i0
      obtain ⟨s, j1, _, hsz⟩ := DataW.trod_string u1 i1
      obtain ⟨b, j2, _⟩ := DataW.trod_bool u2 i2
      simp only [List.cons.injEq, and_true] at j0 j1 j2
      obtain ⟨rfl, rfl, rfl⟩ := j0
      subst j1 j2
      exact ⟨⟨e, s, b⟩, rfl, hsz⟩

end
end Go.Proofs.Ytdoeiphnalbinaa
namespace Go.Proofs.Ytdoeiphnalbinaa
open Go.ChangeShapes Go.WideShapes Go.ChangeAt Go.RowKit Go.Joins Go.Deep

/-- v is a list of numbers in memory of one's own from block B on. -/
abbrev IntsOwn (B : Nat) (w : World) (v : Value) (l : List Int) : Prop := w.ownsRow B 2 1 v l.length (cellsOf inL l)
section
variable {H : Type} {enc : TypeId × Value → H} {P : Program} {w : World} {base : Nat} {spare : Nat → Bool} {held : Bool}
end

end Go.Proofs.Ytdoeiphnalbinaa
namespace Go.Proofs.Ytdoeiphnalbinaa
open Go.RowKit

theorem Loose.fz11 {w : World} {g : Nat} (h : Loose w g) : w.frozen? ⟨g, 0, none⟩ = false ∧ w.frozen? ⟨g, 1, none⟩ = false ∧ w.frozen? ⟨g, 2, none⟩ = false ∧ w.frozen? ⟨g, 3, none⟩ = false ∧ w.frozen? ⟨g, 4, none⟩ = false ∧ w.frozen? ⟨g, 5, none⟩ = false ∧ w.frozen? ⟨g, 6, none⟩ = false ∧ w.frozen? ⟨g, 7, none⟩ = false ∧ w.frozen? ⟨g, 8, none⟩ = false ∧ w.frozen? ⟨g, 9, none⟩ = false ∧ w.frozen? ⟨g, 10, none⟩ = false := ⟨h 0, h 1, h 2, h 3, h 4, h 5, h 6, h 7, h 8, h 9, h 10⟩
theorem Holds.at11 {w : World} {g : Nat} {c0 c1 c2 c3 c4 c5 c6 c7 c8 c9 c10 : Value} (h : Holds w g #[c0, c1, c2, c3, c4, c5, c6, c7, c8, c9, c10]) : w.cell? ⟨g, 0, none⟩ = some c0 ∧ w.cell? ⟨g, 1, none⟩ = some c1 ∧ w.cell? ⟨g, 2, none⟩ = some c2 ∧ w.cell? ⟨g, 3, none⟩ = some c3 ∧ w.cell? ⟨g, 4, none⟩ = some c4 ∧ w.cell? ⟨g, 5, none⟩ = some c5 ∧ w.cell? ⟨g, 6, none⟩ = some c6 ∧ w.cell? ⟨g, 7, none⟩ = some c7 ∧ w.cell? ⟨g, 8, none⟩ = some c8 ∧ w.cell? ⟨g, 9, none⟩ = some c9 ∧ w.cell? ⟨g, 10, none⟩ = some c10 := ⟨h.2 0 _ rfl, h.2 1 _ rfl, h.2 2 _ rfl, h.2 3 _ rfl, h.2 4 _ rfl, h.2 5 _ rfl, h.2 6 _ rfl, h.2 7 _ rfl, h.2 8 _ rfl, h.2 9 _ rfl, h.2 10 _ rfl⟩

theorem Loose.putM {w : World} {g k j : Nat} (h : Loose w k) (v : Value) : Loose (w.setCell ⟨g, j, none⟩ v) k := fun i => by rw [World.frozen?_setCell]; exact h i
end Go.Proofs.Ytdoeiphnalbinaa
namespace Go.Proofs.Ytdoeiphnalbinaa
open Go.RowKit
end Go.Proofs.Ytdoeiphnalbinaa
namespace Go.Proofs.Ytdoeiphnalbinaa
open Go.RowKit

/-- A list as it stands in memory. -/
structure Sl (α : Type) where
  ad : Option Addr
  cap : Nat
  l : List α
abbrev Sl.v {α : Type} (s : Sl α) : Value := .slice s.ad s.l.length s.cap
def Sl.none {α : Type} : Sl α := ⟨Option.none, 0, []⟩
structure LRo where
  b : Int
  r : Int
  en : Sl M.En
structure LBk where
  sf : Sl Wr
  la : Sl M.La
structure LSc where
  reign : Int
  vote : Int
  ro : LRo
  kept : LBk
  awake : Bool
  role : Int
  commit : Int
  votes : Int
  next : Sl Int
  mat : Sl Int
  now : LBk
namespace M
structure Ro where
  b : Int
  r : Int
  l : List En
structure Sc where
  reign : Int
  vote : Int
  ro : Ro
  kept : Bk
  awake : Bool
  role : Int
  commit : Int
  votes : Int
  next : List Int
  mat : List Int
  now : Bk
end M
def LRo.d (r : LRo) : M.Ro := ⟨r.b, r.r, r.en.l⟩
def LBk.d (b : LBk) : M.Bk := (b.sf.l.map Wr.wk, b.la.l)
def LSc.d (s : LSc) : M.Sc := ⟨s.reign, s.vote, s.ro.d, s.kept.d, s.awake, s.role, s.commit, s.votes, s.next.l, s.mat.l, s.now.d⟩

abbrev LRo.v (r : LRo) : Value := roV r.b r.r r.en.ad r.en.l.length r.en.cap
abbrev LBk.v (b : LBk) : Value := bkV b.sf.ad b.sf.l.length b.sf.cap b.la.ad b.la.l.length b.la.cap
/-- A list can be read, and is of at most n. -/
structure RoIn (n : Nat) (w : World) (r : LRo) : Prop where
  en : Ens w r.en.ad r.en.l
  len : r.en.l.length ≤ n
  cap : r.en.l.length ≤ r.en.cap
  none : r.en.ad = .none → r.en.cap = 0
  txt : ∀ e ∈ r.en.l, enIn n e
structure BkIn (n : Nat) (w : World) (b : LBk) : Prop where
  sf : Wks w b.sf.ad b.sf.l
  sfn : ∀ r ∈ b.sf.l, r.ad = .none → r.cap = 0
  sfl : b.sf.l.length ≤ n
  sft : WrsIn n b.sf.l
  la : Las w b.la.ad b.la.l
  lan : b.la.ad = .none → b.la.cap = 0
  lal : b.la.l.length ≤ n
  lat : ∀ c ∈ b.la.l, laIn n c
structure IsIn (n : Nat) (w : World) (s : Sl Int) : Prop where
  is : Ints w s.ad s.l
  none : s.ad = .none → s.cap = 0
  len : s.l.length ≤ n
structure ScIn (n : Nat) (w : World) (s : LSc) : Prop where
  ro : RoIn n w s.ro
  kept : BkIn n w s.kept
  next : IsIn n w s.next
  mat : IsIn n w s.mat
  now : BkIn n w s.now
theorem RoIn.below {n : Nat} {w w' : World} {r : LRo} (h : RoIn n w r) (hb : Below w.heap.size w w') : RoIn n w' r := { h with en := h.en.below hb }
theorem BkIn.below {n : Nat} {w w' : World} {b : LBk} (h : BkIn n w b) (hb : Below w.heap.size w w') : BkIn n w' b := { h with sf := h.sf.below hb, la := h.la.below hb }
theorem IsIn.below {n : Nat} {w w' : World} {s : Sl Int} (h : IsIn n w s) (hb : Below w.heap.size w w') : IsIn n w' s := { h with is := h.is.below hb }
theorem ScIn.below {n : Nat} {w w' : World} {s : LSc} (h : ScIn n w s) (hb : Below w.heap.size w w') : ScIn n w' s := ⟨h.ro.below hb, h.kept.below hb, h.next.below hb, h.mat.below hb, h.now.below hb⟩
theorem ScIn.alloc {n : Nat} {w : World} {s : LSc} (h : ScIn n w s) (o : Obj) : ScIn n (w.alloc o) s := h.below ((Below.refl _ _).alloc (Nat.le_refl _) o)
theorem ScIn.drew {n : Nat} {w : World} {s : LSc} (h : ScIn n w s) : ScIn n w.drew s := h.below (Below.refl _ _).drew

end Go.Proofs.Ytdoeiphnalbinaa
