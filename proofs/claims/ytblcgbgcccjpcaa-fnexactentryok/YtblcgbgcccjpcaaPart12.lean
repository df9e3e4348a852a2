/- Proved, in parts: Proved: the laws' helpers on one reply and one last (its size, its copy, its likeness) answer plain Lean functions; they write nothing that was there. No condition. Proved: the laws' own tests tell a copy, a list of copies and a work like themselves; they write nothing that was there. No condition. Proved: the laws' helpers on lists of records of the type Last (their size, their copy, their likeness) answer plain Lean functions; they write nothing that was there. Condition: lists of at most a million. Proved: plain facts on the first place of a list at which something is so; no program is named here; no condition. Proved: the program's WorkOk answers the same plain Lean function as the model's; it writes nothing that was there. Proved: the program's ShelfOk answers as the plain Lean function does; it writes nothing that was there. Condition: texts and lists of at most a million. Proved: the program's test of a book answers a plain Lean function; nothing that was there is written. Condition: texts and lists of at most a million. -/
import Derived.Test.YtblcgbgcccjpcaaPart06
import Derived.Test.YtblcgbgcccjpcaaPart09
import Derived.Test.YtblcgbgcccjpcaaPart11
import Derived.StillTailTactics
import Derived.Test.YtblcgbgcccjpcaaPart01
import Derived.Test.YtblcgbgcccjpcaaPart10
import Derived.IntWalk
namespace Go.Proofs.Ytblcgbgcccjpcaa
open Go.RowKit
set_option maxRecDepth 20000
abbrev laL (c : M.La) : List Value := [.int .i64 c.client, .int .i64 c.seq, .int .i64 c.code, .string c.page]
abbrev laA (c : M.La) : Array Value := #[.int .i64 c.client, .int .i64 c.seq, .int .i64 c.code, .string c.page]
abbrev laV (c : M.La) : Value := .agg #[.int .i64 c.client, .int .i64 c.seq, .int .i64 c.code, .string c.page]
theorem laL_len (c : M.La) : (laL c).length = 4 := rfl
abbrev laIn (n : Nat) (c : M.La) : Prop := c.page.size ≤ n

end Go.Proofs.Ytblcgbgcccjpcaa
namespace Go.Proofs.Ytblcgbgcccjpcaa
open Go.RowKit
set_option maxRecDepth 20000

/-- A row of one's own, read as copies. -/
theorem own_at {w : World} {base e g c : Nat} {l : List M.Cp} (h : w.ownsRow base e 5 (.slice (some ⟨g, 0, none⟩) l.length c) l.length (cellsOf cpL l)) : Cps w (some ⟨g, 0, none⟩) l := by
  obtain ⟨A, c', hv, _, hf⟩ := own_flat cpL_len h
  have hA : some ⟨g, 0, none⟩ = A := by injection hv
  rw [hA]; exact hf

end Go.Proofs.Ytblcgbgcccjpcaa
namespace Go.Proofs.Ytblcgbgcccjpcaa
open Go.RowKit
set_option maxRecDepth 20000
abbrev Las (w : World) (A : Option Addr) (l : List M.La) : Prop := Flat laL 4 w A l
theorem Las_at {w : World} {A : Option Addr} {l : List M.La} {i : Nat} (h : Las w A l) (hi : i < l.length) : ∃ b o, A = some ⟨b, o, none⟩ ∧ b < w.heap.size ∧
    w.cell? ⟨b, o + i * 4, none⟩ = some (.int .i64 l[i].client) ∧ w.cell? ⟨b, o + i * 4 + 1, none⟩ = some (.int .i64 l[i].seq) ∧ w.cell? ⟨b, o + i * 4 + 2, none⟩ = some (.int .i64 l[i].code) ∧ w.cell? ⟨b, o + i * 4 + 3, none⟩ = some (.string l[i].page) := by
  obtain ⟨b, o, rfl, hb, h⟩ := h.at hi
  exact ⟨b, o, rfl, hb, h 0 _ rfl, h 1 _ rfl, h 2 _ rfl, h 3 _ rfl⟩
def szLas : List M.La → Nat
  | [] => 0
  | c :: l => (c.page.size) + szLas l
theorem szLas_take (l : List M.La) (i : Nat) (h : i < l.length) : szLas (l.take (i + 1)) = szLas (l.take i) + (l[i].page.size) := by
  induction l generalizing i with
  | nil => simp at h
  | cons c l ih =>
    cases i with
    | zero => simp [szLas]
    | succ i => simp [szLas, ih i (by simpa using h)]; omega
theorem szLas_take_le (l : List M.La) (i : Nat) : szLas (l.take i) ≤ szLas l := by
  induction l generalizing i with
  | nil => simp [szLas]
  | cons c l ih =>
    cases i with
    | zero => simp [szLas]
    | succ i => have := ih i; simp [szLas]; omega
theorem szLas_mem (l : List M.La) (c : M.La) (h : c ∈ l) : (c.page.size) ≤ szLas l := by
  induction l with
  | nil => simp at h
  | cons d l ih =>
    rcases List.mem_cons.1 h with rfl | h
    · simp [szLas]
    · have := ih h; simp [szLas]; omega

theorem setLas (xs ys : List Value) (a0 a1 a2 a3 f0 f1 f2 f3 : Value) (n : Nat) (hn : n = xs.length) :
    ((((xs ++ a0 :: a1 :: a2 :: a3 :: ys).set (n) f0).set (n + 1) f1).set (n + 2) f2).set (n + 3) f3 = xs ++ f0 :: f1 :: f2 :: f3 :: ys := by
  subst hn; simp
theorem la_of {l : List Value} {n : Nat} (h : l.length = (n + 1) * 4) : ∃ a0 a1 a2 a3 r, l = a0 :: a1 :: a2 :: a3 :: r ∧ r.length = n * 4 := by
  match l, h with
  | a0 :: a1 :: a2 :: a3 :: r, h => exact ⟨a0, a1, a2, a3, r, rfl, by simp at h; omega⟩
  | [], h => simp at h
  | [_], h => simp at h; omega
  | [_, _], h => simp at h; omega
  | [_, _, _], h => simp at h; omega

theorem own_putLas {w : World} {base e g n cap j : Nat} {xs ys : List Value} {f0 f1 f2 f3 a0 a1 a2 a3 : Value} (h : w.ownsRow base e 4 (.slice (some ⟨g, 0, none⟩) n cap) n (xs ++ a0 :: a1 :: a2 :: a3 :: ys)) (hj : j = xs.length) :
    (((((w.setCell ⟨g, j, none⟩ f0).setCell ⟨g, j + 1, none⟩ f1).setCell ⟨g, j + 2, none⟩ f2).setCell ⟨g, j + 3, none⟩ f3)).ownsRow base e 4 (.slice (some ⟨g, 0, none⟩) n cap) n (xs ++ f0 :: f1 :: f2 :: f3 :: ys) := by
  have := ((((h.stored j f0).1.stored (j + 1) f1).1.stored (j + 2) f2).1.stored (j + 3) f3)
  rw [setLas xs ys a0 a1 a2 a3 f0 f1 f2 f3 j hj] at this
  exact this.1
theorem own_cellsLas {w : World} {base e g n cap j : Nat} {xs ys : List Value} {a0 a1 a2 a3 : Value} (h : w.ownsRow base e 4 (.slice (some ⟨g, 0, none⟩) n cap) n (xs ++ a0 :: a1 :: a2 :: a3 :: ys)) (hj : j = xs.length) :
    (w.cell? ⟨g, j, none⟩ = some a0 ∧ w.cell? ⟨g, j + 1, none⟩ = some a1 ∧ w.cell? ⟨g, j + 2, none⟩ = some a2 ∧ w.cell? ⟨g, j + 3, none⟩ = some a3) ∧
    (w.frozen? ⟨g, j, none⟩ = false ∧ w.frozen? ⟨g, j + 1, none⟩ = false ∧ w.frozen? ⟨g, j + 2, none⟩ = false ∧ w.frozen? ⟨g, j + 3, none⟩ = false) := by
  have hl := h.1
  simp at hl
  subst hj
  refine ⟨⟨?_, ?_, ?_, ?_⟩, h.frozenAt _, h.frozenAt _, h.frozenAt _, h.frozenAt _⟩ <;> (rw [h.cellAt _ (by omega)]; simp)

theorem own_atLas {w : World} {base e g c : Nat} {l : List M.La} (h : w.ownsRow base e 4 (.slice (some ⟨g, 0, none⟩) l.length c) l.length (cellsOf laL l)) : Las w (some ⟨g, 0, none⟩) l := by
  obtain ⟨A, c', hv, _, hf⟩ := own_flat laL_len h
  have hA : some ⟨g, 0, none⟩ = A := by injection hv
  rw [hA]; exact hf

end Go.Proofs.Ytblcgbgcccjpcaa
namespace Go.Proofs.Ytblcgbgcccjpcaa
def GNoneTo {α : Type} (p : α → Bool) (l : List α) (j : Nat) : Prop := ∀ (i : Nat) (h : i < l.length), i < j → p l[i] = false
theorem GNoneTo.zero {α : Type} (p : α → Bool) (l : List α) : GNoneTo p l 0 := fun _ _ h => absurd h (by omega)
theorem GNoneTo.next {α : Type} {p : α → Bool} {l : List α} {j : Nat} (h : GNoneTo p l j) (hj : j < l.length) (hp : p l[j] = false) : GNoneTo p l (j + 1) := fun i hi hij => by
  by_cases e : i = j
  · subst e; exact hp
  · exact h i hi (by omega)
theorem GNoneTo.hit {α : Type} {p : α → Bool} {l : List α} {j : Nat} (h : GNoneTo p l j) (hj : j < l.length) (hp : p l[j] = true) : l.findIdx p = j :=
  (List.findIdx_eq hj).2 ⟨hp, fun i hi => by simpa using h i (by omega) hi⟩
theorem GNoneTo.all {α : Type} {p : α → Bool} {l : List α} (h : GNoneTo p l l.length) : l.findIdx p = l.length :=
  List.findIdx_eq_length.2 fun x hx => by
    obtain ⟨i, hi, rfl⟩ := List.mem_iff_getElem.1 hx
    simp [h i hi hi]
theorem all_findIdxG {α : Type} (q : α → Bool) (l : List α) : ((l.findIdx (fun c => !q c) : Int) == (l.length : Int)) = l.all q := by
  rcases h : l.all q with _ | _
  · have : ¬ l.findIdx (fun c => !q c) = l.length := fun e => by
      have h1 := List.findIdx_eq_length.1 e
      have h2 : l.all q = true := List.all_eq_true.2 fun x hx => by simpa using h1 x hx
      rw [h] at h2; cases h2
    simp only [beq_eq_false_iff_ne]
    omega
  · have : l.findIdx (fun c => !q c) = l.length := List.findIdx_eq_length.2 fun x hx => by simp [List.all_eq_true.1 h x hx]
    rw [this]; simp
/-- Each of the first j is ahead of the next. -/
def GRisesTo {α : Type} (lt : α → α → Bool) (l : List α) (j : Nat) : Prop := ∀ (i : Nat) (h : i + 1 < l.length), i + 1 < j → lt l[i] l[i + 1] = true
def grises {α : Type} (lt : α → α → Bool) : List α → Bool
  | a :: b :: l => lt a b && grises lt (b :: l)
  | _ => true
theorem grises_iff {α : Type} (lt : α → α → Bool) : ∀ l : List α, grises lt l = true ↔ ∀ (i : Nat) (h : i + 1 < l.length), lt l[i] l[i + 1] = true
  | [] => by simp [grises]
  | [a] => by simp [grises]
  | a :: b :: l => by
    have ih := grises_iff lt (b :: l)
    simp only [grises, Bool.and_eq_true, ih]
    constructor
    · rintro ⟨h1, h2⟩ i hi
      cases i with
      | zero => exact h1
      | succ i => exact h2 i (by simpa using hi)
    · intro h
      exact ⟨h 0 (by simp), fun i hi => h (i + 1) (by simpa using hi)⟩
theorem GRisesTo.one {α : Type} (lt : α → α → Bool) (l : List α) : GRisesTo lt l 1 := fun _ _ h => absurd h (by omega)
theorem GRisesTo.next {α : Type} {lt : α → α → Bool} {l : List α} {k : Nat} (h : GRisesTo lt l (k + 1)) (hk : k + 1 < l.length) (ho : lt l[k] l[k + 1] = true) : GRisesTo lt l (k + 2) := fun i hi hij => by
  by_cases e : i = k
  · subst e; exact ho
  · exact h i hi (by omega)
theorem GRisesTo.all {α : Type} {lt : α → α → Bool} {l : List α} {j : Nat} (h : GRisesTo lt l j) (hj : l.length ≤ j) : grises lt l = true := (grises_iff lt l).2 fun i hi => h i hi (by omega)
theorem grises_not {α : Type} {lt : α → α → Bool} {l : List α} {k : Nat} (hk : k + 1 < l.length) (ho : lt l[k] l[k + 1] = false) : grises lt l = false := by
  rcases hc : grises lt l with _ | _
  · rfl
  · have := (grises_iff lt l).1 hc k hk
    rw [ho] at this; cases this
end Go.Proofs.Ytblcgbgcccjpcaa
namespace Go.Proofs.Ytblcgbgcccjpcaa
open Go.RowKit
set_option maxRecDepth 20000

/-- None of the first j is so. -/
def NoneTo (p : M.Cp → Bool) (l : List M.Cp) (j : Nat) : Prop := ∀ (i : Nat) (h : i < l.length), i < j → p l[i] = false
theorem NoneTo.zero (p : M.Cp → Bool) (l : List M.Cp) : NoneTo p l 0 := fun _ _ h => absurd h (by omega)
theorem NoneTo.next {p : M.Cp → Bool} {l : List M.Cp} {j : Nat} (h : NoneTo p l j) (hj : j < l.length) (hp : p l[j] = false) : NoneTo p l (j + 1) := fun i hi hij => by
  by_cases e : i = j
  · subst e; exact hp
  · exact h i hi (by omega)
theorem NoneTo.hit {p : M.Cp → Bool} {l : List M.Cp} {j : Nat} (h : NoneTo p l j) (hj : j < l.length) (hp : p l[j] = true) : l.findIdx p = j :=
  (List.findIdx_eq hj).2 ⟨hp, fun i hi => h i (by omega) hi⟩
theorem NoneTo.all {p : M.Cp → Bool} {l : List M.Cp} (h : NoneTo p l l.length) : l.findIdx p = l.length :=
  List.findIdx_eq_length.2 fun x hx => by
    obtain ⟨i, hi, rfl⟩ := List.mem_iff_getElem.1 hx
    simp [h i hi hi]

theorem all_findIdx (l : List M.Cp) : ((l.findIdx (fun c => !M.cpOk c) : Int) == (l.length : Int)) = l.all M.cpOk := by
  rw [Bool.eq_iff_iff, beq_iff_eq, List.all_eq_true]
  constructor
  · intro h x hx
    have := List.findIdx_eq_length.1 (show l.findIdx (fun c => !M.cpOk c) = l.length by omega) x hx
    simpa using this
  · intro h
    have : l.findIdx (fun c => !M.cpOk c) = l.length := List.findIdx_eq_length.2 fun x hx => by simp [h x hx]
    omega

/-- Each of the first j is older than the next. -/
def RisesTo (l : List M.Cp) (j : Nat) : Prop := ∀ (i : Nat) (h : i + 1 < l.length), i + 1 < j → M.older l[i].ed l[i + 1].ed = true
theorem RisesTo.one (l : List M.Cp) : RisesTo l 1 := fun _ _ h => absurd h (by omega)
theorem RisesTo.next {l : List M.Cp} {k : Nat} (h : RisesTo l (k + 1)) (hk : k + 1 < l.length) (ho : M.older l[k].ed l[k + 1].ed = true) : RisesTo l (k + 2) := fun i hi hij => by
  by_cases e : i = k
  · subst e; exact ho
  · exact h i hi (by omega)
theorem RisesTo.all {l : List M.Cp} {j : Nat} (h : RisesTo l j) (hj : l.length ≤ j) : M.risesB l = true := (M.risesB_iff l).2 fun i hi => h i hi (by omega)
theorem rises_not {l : List M.Cp} {k : Nat} (hk : k + 1 < l.length) (ho : M.older l[k].ed l[k + 1].ed = false) : M.risesB l = false := by
  rcases hc : M.risesB l with _ | _
  · rfl
  · have := (M.risesB_iff l).1 hc k hk; rw [ho] at this; cases this

end Go.Proofs.Ytblcgbgcccjpcaa
namespace Go.Proofs.Ytblcgbgcccjpcaa
open Go.RowKit
set_option maxRecDepth 20000

abbrev wrV (r : Wr) : Value := wkV r.name r.owner r.ad r.cps.length r.cap
def WNoneTo (p : Wr → Bool) (l : List Wr) (j : Nat) : Prop := ∀ (i : Nat) (h : i < l.length), i < j → p l[i] = false
theorem WNoneTo.zero (p : Wr → Bool) (l : List Wr) : WNoneTo p l 0 := fun _ _ h => absurd h (by omega)
theorem WNoneTo.next {p : Wr → Bool} {l : List Wr} {j : Nat} (h : WNoneTo p l j) (hj : j < l.length) (hp : p l[j] = false) : WNoneTo p l (j + 1) := fun i hi hij => by
  by_cases e : i = j
  · subst e; exact hp
  · exact h i hi (by omega)
theorem WNoneTo.hit {p : Wr → Bool} {l : List Wr} {j : Nat} (h : WNoneTo p l j) (hj : j < l.length) (hp : p l[j] = true) : l.findIdx p = j :=
  (List.findIdx_eq hj).2 ⟨hp, fun i hi => h i (by omega) hi⟩
theorem WNoneTo.all {p : Wr → Bool} {l : List Wr} (h : WNoneTo p l l.length) : l.findIdx p = l.length :=
  List.findIdx_eq_length.2 fun x hx => by
    obtain ⟨i, hi, rfl⟩ := List.mem_iff_getElem.1 hx
    simp [h i hi hi]

theorem all_findIdxW (l : List Wr) : ((l.findIdx (fun c => !M.wkOk c.wk) : Int) == (l.length : Int)) = (l.map Wr.wk).all M.wkOk := by
  rw [Bool.eq_iff_iff, beq_iff_eq, List.all_eq_true]
  constructor
  · intro h x hx
    obtain ⟨y, hy, rfl⟩ := List.mem_map.1 hx
    have := List.findIdx_eq_length.1 (show l.findIdx (fun c => !M.wkOk c.wk) = l.length by omega) y hy
    simpa using this
  · intro h
    have : l.findIdx (fun c => !M.wkOk c.wk) = l.length := List.findIdx_eq_length.2 fun x hx => by simp [h x.wk (List.mem_map_of_mem hx)]
    omega

/-- Each of the first j is ahead of the next. -/
def WRisesTo (l : List Wr) (j : Nat) : Prop := ∀ (i : Nat) (h : i + 1 < l.length), i + 1 < j → M.nameLt l[i].name l[i + 1].name = true
theorem WRisesTo.one (l : List Wr) : WRisesTo l 1 := fun _ _ h => absurd h (by omega)
theorem WRisesTo.next {l : List Wr} {k : Nat} (h : WRisesTo l (k + 1)) (hk : k + 1 < l.length) (ho : M.nameLt l[k].name l[k + 1].name = true) : WRisesTo l (k + 2) := fun i hi hij => by
  by_cases e : i = k
  · subst e; exact ho
  · exact h i hi (by omega)
theorem WRisesTo.all {l : List Wr} {j : Nat} (h : WRisesTo l j) (hj : l.length ≤ j) : M.risesN (l.map Wr.wk) = true := (M.risesN_iff _).2 fun i hi => by
  have hi' : i + 1 < l.length := by simpa using hi
  simpa [Wr.wk] using h i hi' (by omega)
theorem wrises_not {l : List Wr} {k : Nat} (hk : k + 1 < l.length) (ho : M.nameLt l[k].name l[k + 1].name = false) : M.risesN (l.map Wr.wk) = false := by
  rcases hc : M.risesN (l.map Wr.wk) with _ | _
  · rfl
  · have := (M.risesN_iff _).1 hc k (by simpa using hk)
    simp [Wr.wk] at this
    rw [ho] at this; cases this

end Go.Proofs.Ytblcgbgcccjpcaa
namespace Go.Proofs.Ytblcgbgcccjpcaa
open Go.RowKit
set_option maxRecDepth 20000
namespace M
def laOk (c : La) : Bool := inI c.client 0 3 && inI c.seq 1 1000
def laLt (a b : La) : Bool := decide (a.client < b.client)
def lasOk (l : List La) : Bool := l.all laOk && grises laLt l
def bkOk (s : List Wk) (l : List La) : Bool := sfOk s && lasOk l
end M
/-- A book: its works in memory, its lasts. -/
abbrev bkA (A : Option Addr) (n c : Nat) (B : Option Addr) (m e : Nat) : Array Value := #[.slice A n c, .slice B m e]
abbrev bkV (A : Option Addr) (n c : Nat) (B : Option Addr) (m e : Nat) : Value := .agg (bkA A n c B m e)

end Go.Proofs.Ytblcgbgcccjpcaa
