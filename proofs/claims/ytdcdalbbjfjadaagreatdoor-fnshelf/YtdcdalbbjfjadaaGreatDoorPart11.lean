/- Proved, in parts: Proved: plain facts on works: the place of an edition among copies that rise; no program is named here; no condition. Proved: the language's own test whether two editions are alike is whether they are the same three numbers; no condition. Proved: facts on blocks of a few cells: what they hold, that they may be written, and what they hold behind writes into all of their cells; no program's function is named here; no condition. Proved: contracts of the library over this program, each by one application of a theorem of the kit; what each asks stands in its head. -/
import Derived.Test.YtdcdalbbjfjadaaGreatDoorPart02
import Derived.Test.YtdcdalbbjfjadaaGreatDoorPart03
import Derived.Calls
import Derived.KernelRfl
import Derived.Test.YtdcdalbbjfjadaaGreatDoorPart01
import Derived.Shelf.Strings.Builder1
import Derived.Shelf.Strings.Builder2
import Derived.Shelf.Strings.OnBuilder
import Derived.Shelf.Small.Bits
import Derived.Shelf.Strings.BuilderF
import Derived.Shelf.Strings.BuilderK
import Derived.Shelf.Strings.Builder2Cap
import Derived.Shelf.Strconv.Itoa0
import Derived.Shelf.Strconv.Itoa1
import Derived.Shelf.LaysM
import Derived.Shelf.Strconv.Itoa2
import Derived.Shelf.Strconv.Itoa3
import Derived.Shelf.Strconv.Itoa4
import Derived.Shelf.Strconv.Clone
import Derived.Shelf.Sort.Plain
import Derived.Shelf.Slices.In.SortNone
import Derived.Test.YtdcdalbbjfjadaaGreatDoorProg
namespace Go.Proofs.YtdcdalbbjfjadaaGreatDoor
namespace M

/-- Where the copy of an edition stands. -/
def isEd (e : Ed) (c : Cp) : Bool := decide (c.ed = e)
def notOlder (e : Ed) (c : Cp) : Bool := !older c.ed e
def findEd (l : List Cp) (e : Ed) : Nat := l.findIdx (isEd e)
/-- The same as the model tells it. -/
def findInt (l : List Cp) (e : Ed) : Int := if findEd l e < l.length then (findEd l e : Int) else -1
theorem findInt_pos {l : List Cp} {e : Ed} (h : findEd l e < l.length) : findInt l e = findEd l e := if_pos h
theorem findInt_neg {l : List Cp} {e : Ed} (h : findEd l e = l.length) : findInt l e = -1 := if_neg (by omega)
def place (l : List Cp) (e : Ed) : Nat := l.findIdx (notOlder e)
def isAt (l : List Cp) (e : Ed) : Bool := match l[place l e]? with
  | some c => isEd e c
  | none => false

theorem rises_lt {l : List Cp} (h : risesB l = true) : ∀ (j i : Nat) (hi : i < j) (hj : j < l.length), older (l[i]'(by omega)).ed l[j].ed = true := by
  intro j
  induction j with
  | zero => intro i hi; omega
  | succ j ih =>
    intro i hi hj
    have h1 := (risesB_iff l).1 h j hj
    by_cases e : i = j
    · subst e; exact h1
    · exact older_trans _ _ _ (ih i (by omega) (by omega)) h1

/-- Among copies that rise an edition that is there is at its place. -/
theorem place_find {l : List Cp} (h : risesB l = true) (e : Ed) : (isAt l e = true ∧ findEd l e < l.length ∧ place l e = findEd l e) ∨ (isAt l e = false ∧ findEd l e = l.length) := by
  by_cases hf : findEd l e < l.length
  · left
    have h1 : isEd e (l[findEd l e]'hf) = true := List.findIdx_getElem (w := hf)
    have h2 : (l[findEd l e]'hf).ed = e := by simpa [isEd] using h1
    have hp : place l e = findEd l e := by
      refine (List.findIdx_eq hf).2 ⟨?_, fun j hj => ?_⟩
      · simp [notOlder, h2, older_irrefl]
      · have := rises_lt h (findEd l e) j hj hf
        rw [h2] at this
        simp [notOlder, this]
    refine ⟨?_, hf, hp⟩
    unfold isAt
    rw [hp, List.getElem?_eq_getElem hf]
    exact h1
  · right
    have hf' : findEd l e = l.length := by
      have := List.findIdx_le_length (p := isEd e) (xs := l)
      unfold findEd at hf ⊢; omega
    refine ⟨?_, hf'⟩
    unfold isAt
    rcases hp : l[place l e]? with _ | c
    · rfl
    · have hm : c ∈ l := List.mem_of_getElem? hp
      have := List.findIdx_eq_length.1 hf' c hm
      simpa using this

def copyIn (w : Wk) (e : Ed) : Cp × Bool := if wkOk w then match w.copies[findEd w.copies e]? with
  | some c => (c, true)
  | none => (zeroCp, false) else (zeroCp, false)
theorem copyIn_bad {w : Wk} (e : Ed) (h : wkOk w = false) : copyIn w e = (zeroCp, false) := by simp [copyIn, h]
theorem copyIn_none {w : Wk} {e : Ed} (h : findEd w.copies e = w.copies.length) : copyIn w e = (zeroCp, false) := by
  unfold copyIn
  rw [h, List.getElem?_eq_none (Nat.le_refl _)]
  split <;> rfl
theorem copyIn_some {w : Wk} {e : Ed} (h : wkOk w = true) (hf : findEd w.copies e < w.copies.length) : copyIn w e = (w.copies[findEd w.copies e], true) := by
  unfold copyIn
  rw [if_pos h, List.getElem?_eq_getElem hf]
theorem wkOk_rises {w : Wk} (h : wkOk w = true) : risesB w.copies = true ∧ w.copies.length ≤ 8 ∧ (∀ c ∈ w.copies, cpOk c = true) := by
  simp only [wkOk, cpsOk, Bool.and_eq_true, decide_eq_true_eq, List.all_eq_true] at h
  exact ⟨h.2.2, h.1.2, h.2.1⟩

/-- Is it shown, and does it fit? -/
def shown (want : Ed) (c : Cp) : Bool := !c.hidden && fits c.ed want
/-- The last of the first k that is so. -/
def lastTo (p : Cp → Bool) (l : List Cp) : Nat → Option Nat
  | 0 => none
  | k + 1 => match l[k]? with
    | some c => if p c then some k else lastTo p l k
    | none => lastTo p l k
theorem lastTo_no {p : Cp → Bool} {l : List Cp} {k : Nat} (hk : k < l.length) (h : p l[k] = false) : lastTo p l (k + 1) = lastTo p l k := by
  simp [lastTo, List.getElem?_eq_getElem hk, h]
/-- How far a search from the end has come: nothing is left, or place j is next. -/
def Back (p : Cp → Bool) (l : List Cp) (i : Int) : Prop := (i = -1 ∧ lastTo p l l.length = none) ∨ ∃ j : Nat, i = j ∧ j < l.length ∧ lastTo p l l.length = lastTo p l (j + 1)
theorem Back.start (p : Cp → Bool) (l : List Cp) : Back p l ((l.length : Int) - 1) := by
  rcases Nat.eq_zero_or_pos l.length with h | h
  · exact .inl ⟨by omega, by rw [h]; rfl⟩
  · exact .inr ⟨l.length - 1, by omega, by omega, by rw [Nat.sub_add_cancel h]⟩
theorem Back.next {p : Cp → Bool} {l : List Cp} {j : Nat} (hj : j < l.length) (h : lastTo p l l.length = lastTo p l (j + 1)) (hp : p l[j] = false) : Back p l ((j : Int) - 1) := by
  rw [lastTo_no hj hp] at h
  rcases Nat.eq_zero_or_pos j with h0 | h0
  · exact .inl ⟨by omega, by rw [h, h0]; rfl⟩
  · exact .inr ⟨j - 1, by omega, by omega, by rw [h, Nat.sub_add_cancel h0]⟩
end M
end Go.Proofs.YtdcdalbbjfjadaaGreatDoor
namespace Go.Proofs.YtdcdalbbjfjadaaGreatDoor
open Go.RowKit
set_option maxRecDepth 20000

theorem ed_eql (a b : M.Ed) (w : World) : (binOp .eql 26 (edV a) (edV b)).run Tryz.prog w = .ok (.bool (decide (a = b))) w := by
  by_cases h0 : a.ma = b.ma
  · have h0' : (a.ma == b.ma) = true := by simpa using h0
    by_cases h1 : a.mi = b.mi
    · have h1' : (a.mi == b.mi) = true := by simpa using h1
      have e : decide (a = b) = (a.pa == b.pa) := by rw [Bool.eq_iff_iff]; simp [M.ed_ext, h0, h1]
      rcases h2' : (a.pa == b.pa) with _ | _ <;> rw [e, h2'] <;> simp [go_sem, h0', h1', h2', Tryz.underlying26, Tryz.underlying2]
    · have h1' : (a.mi == b.mi) = false := by simpa using h1
      have e : decide (a = b) = false := by simp [M.ed_ext, h1]
      rw [e]
      simp [go_sem, h0', h1']
  · have h0' : (a.ma == b.ma) = false := by simpa using h0
    have e : decide (a = b) = false := by simp [M.ed_ext, h0]
    rw [e]
    simp [go_sem, h0']
theorem eql_read {A : Act} {o : Oper} {x y : Operand} {a b : M.Ed} (ho : o.op = .binOp .eql 26 x y 26) (hx : A.eval x = edV a) (hy : A.eval y = edV b) (w : World) :
    (execOp A.eval o).run Tryz.prog w = .ok (.value (.bool (decide (a = b)))) w := by
  unfold execOp
  rw [ho]
  have hg := fun (op : BinOp) (x y : Operand) (xs ys : Array Value) (w : World) => run_eqGuard_agg (P := Tryz.prog) w op 26 x y xs ys (by kernel_rfl)
  have he := fun w => ed_eql a b w
  simp only [edV] at he hx hy
  simp only [hx, hy, Sem.run_bind, hg, he, Result.andThen_ok, Sem.run_pure]
end Go.Proofs.YtdcdalbbjfjadaaGreatDoor
namespace Go.Proofs.YtdcdalbbjfjadaaGreatDoor
open Go.RowKit

theorem Holds.wr2 {w : World} {g : Nat} {c0 c1 : Value} (h : Holds w g #[c0, c1]) (a0 a1 : Value) : Holds ((w.setCell ⟨g, 0, none⟩ a0).setCell ⟨g, 1, none⟩ a1) g #[a0, a1] := by
  have := ((h.putM 0 a0).putM 1 a1)
  simpa only [List.setIfInBounds_toArray, List.set_cons_zero, List.set_cons_succ] using this
theorem Holds.wr3 {w : World} {g : Nat} {c0 c1 c2 : Value} (h : Holds w g #[c0, c1, c2]) (a0 a1 a2 : Value) : Holds (((w.setCell ⟨g, 0, none⟩ a0).setCell ⟨g, 1, none⟩ a1).setCell ⟨g, 2, none⟩ a2) g #[a0, a1, a2] := by
  have := (((h.putM 0 a0).putM 1 a1).putM 2 a2)
  simpa only [List.setIfInBounds_toArray, List.set_cons_zero, List.set_cons_succ] using this
theorem far_3 {w w1 : World} {B g : Nat} (h : Below B w w1) (hg : B ≤ g) (a0 a1 a2 : Value) : Below B w (((w1.setCell ⟨g, 0, none⟩ a0).setCell ⟨g, 1, none⟩ a1).setCell ⟨g, 2, none⟩ a2) :=
  farM (farM (farM h hg _ _) hg _ _) hg _ _
theorem Holds.off3 {w : World} {g k : Nat} {C : Array Value} (h : Holds w k C) (hk : k ≠ g) (a0 a1 a2 : Value) : Holds (((w.setCell ⟨g, 0, none⟩ a0).setCell ⟨g, 1, none⟩ a1).setCell ⟨g, 2, none⟩ a2) k C :=
  (((h.otherM hk).otherM hk).otherM hk)
theorem Loose.fz3 {w : World} {g : Nat} (h : Loose w g) : w.frozen? ⟨g, 0, none⟩ = false ∧ w.frozen? ⟨g, 1, none⟩ = false ∧ w.frozen? ⟨g, 2, none⟩ = false := ⟨h 0, h 1, h 2⟩
theorem Holds.at3 {w : World} {g : Nat} {c0 c1 c2 : Value} (h : Holds w g #[c0, c1, c2]) : w.cell? ⟨g, 0, none⟩ = some c0 ∧ w.cell? ⟨g, 1, none⟩ = some c1 ∧ w.cell? ⟨g, 2, none⟩ = some c2 := ⟨h.2 0 _ rfl, h.2 1 _ rfl, h.2 2 _ rfl⟩

theorem Holds.wr5 {w : World} {g : Nat} {c0 c1 c2 c3 c4 : Value} (h : Holds w g #[c0, c1, c2, c3, c4]) (a0 a1 a2 a3 a4 : Value) : Holds (((((w.setCell ⟨g, 0, none⟩ a0).setCell ⟨g, 1, none⟩ a1).setCell ⟨g, 2, none⟩ a2).setCell ⟨g, 3, none⟩ a3).setCell ⟨g, 4, none⟩ a4) g #[a0, a1, a2, a3, a4] := by
  have := (((((h.putM 0 a0).putM 1 a1).putM 2 a2).putM 3 a3).putM 4 a4)
  simpa only [List.setIfInBounds_toArray, List.set_cons_zero, List.set_cons_succ] using this
theorem far_5 {w w1 : World} {B g : Nat} (h : Below B w w1) (hg : B ≤ g) (a0 a1 a2 a3 a4 : Value) : Below B w (((((w1.setCell ⟨g, 0, none⟩ a0).setCell ⟨g, 1, none⟩ a1).setCell ⟨g, 2, none⟩ a2).setCell ⟨g, 3, none⟩ a3).setCell ⟨g, 4, none⟩ a4) :=
  farM (farM (farM (farM (farM h hg _ _) hg _ _) hg _ _) hg _ _) hg _ _
theorem Loose.fz5 {w : World} {g : Nat} (h : Loose w g) : w.frozen? ⟨g, 0, none⟩ = false ∧ w.frozen? ⟨g, 1, none⟩ = false ∧ w.frozen? ⟨g, 2, none⟩ = false ∧ w.frozen? ⟨g, 3, none⟩ = false ∧ w.frozen? ⟨g, 4, none⟩ = false := ⟨h 0, h 1, h 2, h 3, h 4⟩
theorem Holds.at5 {w : World} {g : Nat} {c0 c1 c2 c3 c4 : Value} (h : Holds w g #[c0, c1, c2, c3, c4]) : w.cell? ⟨g, 0, none⟩ = some c0 ∧ w.cell? ⟨g, 1, none⟩ = some c1 ∧ w.cell? ⟨g, 2, none⟩ = some c2 ∧ w.cell? ⟨g, 3, none⟩ = some c3 ∧ w.cell? ⟨g, 4, none⟩ = some c4 := ⟨h.2 0 _ rfl, h.2 1 _ rfl, h.2 2 _ rfl, h.2 3 _ rfl, h.2 4 _ rfl⟩

theorem Holds.wr7 {w : World} {g : Nat} {c0 c1 c2 c3 c4 c5 c6 : Value} (h : Holds w g #[c0, c1, c2, c3, c4, c5, c6]) (a0 a1 a2 a3 a4 a5 a6 : Value) : Holds (((((((w.setCell ⟨g, 0, none⟩ a0).setCell ⟨g, 1, none⟩ a1).setCell ⟨g, 2, none⟩ a2).setCell ⟨g, 3, none⟩ a3).setCell ⟨g, 4, none⟩ a4).setCell ⟨g, 5, none⟩ a5).setCell ⟨g, 6, none⟩ a6) g #[a0, a1, a2, a3, a4, a5, a6] := by
  have := (((((((h.putM 0 a0).putM 1 a1).putM 2 a2).putM 3 a3).putM 4 a4).putM 5 a5).putM 6 a6)
  simpa only [List.setIfInBounds_toArray, List.set_cons_zero, List.set_cons_succ] using this
theorem far_7 {w w1 : World} {B g : Nat} (h : Below B w w1) (hg : B ≤ g) (a0 a1 a2 a3 a4 a5 a6 : Value) : Below B w (((((((w1.setCell ⟨g, 0, none⟩ a0).setCell ⟨g, 1, none⟩ a1).setCell ⟨g, 2, none⟩ a2).setCell ⟨g, 3, none⟩ a3).setCell ⟨g, 4, none⟩ a4).setCell ⟨g, 5, none⟩ a5).setCell ⟨g, 6, none⟩ a6) :=
  farM (farM (farM (farM (farM (farM (farM h hg _ _) hg _ _) hg _ _) hg _ _) hg _ _) hg _ _) hg _ _
theorem Holds.at9 {w : World} {g : Nat} {c0 c1 c2 c3 c4 c5 c6 c7 c8 : Value} (h : Holds w g #[c0, c1, c2, c3, c4, c5, c6, c7, c8]) : w.cell? ⟨g, 0, none⟩ = some c0 ∧ w.cell? ⟨g, 1, none⟩ = some c1 ∧ w.cell? ⟨g, 2, none⟩ = some c2 ∧ w.cell? ⟨g, 3, none⟩ = some c3 ∧ w.cell? ⟨g, 4, none⟩ = some c4 ∧ w.cell? ⟨g, 5, none⟩ = some c5 ∧ w.cell? ⟨g, 6, none⟩ = some c6 ∧ w.cell? ⟨g, 7, none⟩ = some c7 ∧ w.cell? ⟨g, 8, none⟩ = some c8 := ⟨h.2 0 _ rfl, h.2 1 _ rfl, h.2 2 _ rfl, h.2 3 _ rfl, h.2 4 _ rfl, h.2 5 _ rfl, h.2 6 _ rfl, h.2 7 _ rfl, h.2 8 _ rfl⟩

theorem Loose.putM {w : World} {g k j : Nat} (h : Loose w k) (v : Value) : Loose (w.setCell ⟨g, j, none⟩ v) k := fun i => by rw [World.frozen?_setCell]; exact h i
theorem Loose.wr2 {w : World} {g k : Nat} (h : Loose w k) (a0 a1 : Value) : Loose ((w.setCell ⟨g, 0, none⟩ a0).setCell ⟨g, 1, none⟩ a1) k := ((h.putM a0).putM a1)
theorem Loose.wr3 {w : World} {g k : Nat} (h : Loose w k) (a0 a1 a2 : Value) : Loose (((w.setCell ⟨g, 0, none⟩ a0).setCell ⟨g, 1, none⟩ a1).setCell ⟨g, 2, none⟩ a2) k := (((h.putM a0).putM a1).putM a2)
theorem Loose.wr5 {w : World} {g k : Nat} (h : Loose w k) (a0 a1 a2 a3 a4 : Value) : Loose (((((w.setCell ⟨g, 0, none⟩ a0).setCell ⟨g, 1, none⟩ a1).setCell ⟨g, 2, none⟩ a2).setCell ⟨g, 3, none⟩ a3).setCell ⟨g, 4, none⟩ a4) k := (((((h.putM a0).putM a1).putM a2).putM a3).putM a4)
theorem Loose.wr7 {w : World} {g k : Nat} (h : Loose w k) (a0 a1 a2 a3 a4 a5 a6 : Value) : Loose (((((((w.setCell ⟨g, 0, none⟩ a0).setCell ⟨g, 1, none⟩ a1).setCell ⟨g, 2, none⟩ a2).setCell ⟨g, 3, none⟩ a3).setCell ⟨g, 4, none⟩ a4).setCell ⟨g, 5, none⟩ a5).setCell ⟨g, 6, none⟩ a6) k := (((((((h.putM a0).putM a1).putM a2).putM a3).putM a4).putM a5).putM a6)
end Go.Proofs.YtdcdalbbjfjadaaGreatDoor
namespace Go.Proofs
open Go.Shelf
open Go.Lib
open Go.RowKit
open Go.RowKit Go.Sort
open Go.RowKit Go.Sort Go.Lib
open Go.Sort Go.RowKit
def Tryz.lays156_ren : Go.Shelf.Ren := ⟨fun | 156 => 39 | 165 => 77 | 166 => 78 | 169 => 79 | 240 => 102 | 241 => 103 | 276 => 119 | 277 => 120 | n => n, fun | 31 => 66 | 9 => 9 | 3 => 3 | 4 => 4 | 0 => 0 | 20 => 20 | 72 => 107 | 76 => 111 | 70 => 105 | 37 => 22 | 75 => 110 | 127 => 140 | 164 => 153 | 5 => 5 | 80 => 113 | n => n, fun | n => n⟩
theorem Tryz.lays156 : Go.Proofs.Lays.n156 Tryz.prog Tryz.lays156_ren := {
  mixed := by kernel_rfl
  f156 := Tryz.func39.trans (congrArg some (by kernel_rfl))
  f165 := Tryz.func77.trans (congrArg some (by kernel_rfl))
  f166 := Tryz.func78.trans (congrArg some (by kernel_rfl))
  f169 := Tryz.func79.trans (congrArg some (by kernel_rfl))
  f240 := Tryz.func102.trans (congrArg some (by kernel_rfl))
  f241 := Tryz.func103.trans (congrArg some (by kernel_rfl))
  f276 := Tryz.func119.trans (congrArg some (by kernel_rfl))
  f277 := Tryz.func120.trans (congrArg some (by kernel_rfl))
  t0 := Tryz.underlying0
  a0 := Tryz.isAgg0
  z0 := Tryz.sizeOf0
  v0 := Tryz.zeroValue0
  t3 := Tryz.underlying3
  a3 := Tryz.isAgg3
  z3 := Tryz.sizeOf3
  v3 := Tryz.zeroValue3
  t4 := Tryz.underlying4
  a4 := Tryz.isAgg4
  z4 := Tryz.sizeOf4
  v4 := Tryz.zeroValue4
  t9 := Tryz.underlying9
  a9 := Tryz.isAgg9
  z9 := Tryz.sizeOf9
  v9 := Tryz.zeroValue9
  t20 := Tryz.underlying20
  a20 := Tryz.isAgg20
  z20 := Tryz.sizeOf20
  v20 := Tryz.zeroValue20
  t31 := Tryz.underlying66
  a31 := Tryz.isAgg66
  z31 := Tryz.sizeOf66
  v31 := Tryz.zeroValue66
  t37 := Tryz.underlying22
  a37 := Tryz.isAgg22
  z37 := Tryz.sizeOf22
  v37 := Tryz.zeroValue22
  t70 := Tryz.underlying105
  a70 := Tryz.isAgg105
  z70 := Tryz.sizeOf105
  v70 := Tryz.zeroValue105
  t72 := Tryz.underlying107
  a72 := Tryz.isAgg107
  z72 := Tryz.sizeOf107
  v72 := Tryz.zeroValue107
  t75 := Tryz.underlying110
  a75 := Tryz.isAgg110
  z75 := Tryz.sizeOf110
  v75 := Tryz.zeroValue110
  t76 := Tryz.underlying111
  a76 := Tryz.isAgg111
  z76 := Tryz.sizeOf111
  v76 := Tryz.zeroValue111
  t127 := Tryz.underlying140
  a127 := Tryz.isAgg140
  z127 := Tryz.sizeOf140
  v127 := Tryz.zeroValue140
  t164 := Tryz.underlying153
  a164 := Tryz.isAgg153
  z164 := Tryz.sizeOf153
  v164 := Tryz.zeroValue153 }
theorem Tryz.Builder_Extra_156 : Builder.Extra Tryz.prog Tryz.lays156_ren := {
  sizeBuilder := by kernel_rfl
  liesBuilder := by kernel_rfl
  t5 := Tryz.underlying5
  a5 := Tryz.isAgg5
  z5 := Tryz.sizeOf5
  v5 := Tryz.zeroValue5
  infoByte := by kernel_rfl
  cellsByte := by kernel_rfl
  sizeByte := by kernel_rfl
  neB5 := by decide }
theorem Tryz.strings_Join (bk o c : Nat) (xs : List ByteArray) (sep : ByteArray) (w : World) (hcells : ∀ (j : Nat) x, xs[j]? = some x → w.cell? ⟨bk, o + j, none⟩ = some (.string x)) (hbk : bk < w.heap.size) (hN : xs.length ≤ 140737488355328) (hcap : xs.length ≤ c) (hlen : (Lib.join (xs.map (·.data.toList)) sep.data.toList).length ≤ 140737488355328) :
    Calls Tryz.prog 39 #[.slice (some ⟨bk, o, none⟩) xs.length c, .string sep] w fun e w' => e = .returned (.string ⟨(Lib.join (xs.map (·.data.toList)) sep.data.toList).toArray⟩) ∧ Below w.heap.size w w' := Any.strings_Join Tryz.lays156 Tryz.Builder_Extra_156 bk o c xs sep w hcells hbk hN hcap hlen
def Tryz.lays173_ren : Go.Shelf.Ren := ⟨fun | 173 => 100 | 246 => 117 | 283 => 135 | 284 => 136 | 285 => 137 | 286 => 138 | 129 => 133 | 317 => 146 | 318 => 147 | 319 => 148 | 320 => 149 | 337 => 151 | 338 => 152 | n => n, fun | 2 => 2 | 3 => 3 | 9 => 9 | 4 => 4 | 171 => 172 | 0 => 0 | 53 => 170 | 37 => 22 | 5 => 5 | 173 => 174 | 212 => 184 | 51 => 168 | 20 => 20 | 213 => 185 | 46 => 141 | 232 => 190 | 233 => 191 | n => n, fun | 17 => 1 | 18 => 2 | 19 => 3 | n => n⟩
theorem Tryz.lays173 : Go.Proofs.Lays.n173 Tryz.prog Tryz.lays173_ren := {
  mixed := by kernel_rfl
  f129 := Tryz.func133.trans (congrArg some (by kernel_rfl))
  f173 := Tryz.func100.trans (congrArg some (by kernel_rfl))
  f246 := Tryz.func117.trans (congrArg some (by kernel_rfl))
  f283 := Tryz.func135.trans (congrArg some (by kernel_rfl))
  f284 := Tryz.func136.trans (congrArg some (by kernel_rfl))
  f285 := Tryz.func137.trans (congrArg some (by kernel_rfl))
  f286 := Tryz.func138.trans (congrArg some (by kernel_rfl))
  f317 := Tryz.func146.trans (congrArg some (by kernel_rfl))
  f318 := Tryz.func147.trans (congrArg some (by kernel_rfl))
  f319 := Tryz.func148.trans (congrArg some (by kernel_rfl))
  f320 := Tryz.func149.trans (congrArg some (by kernel_rfl))
  f337 := Tryz.func151.trans (congrArg some (by kernel_rfl))
  f338 := Tryz.func152.trans (congrArg some (by kernel_rfl))
  t0 := Tryz.underlying0
  a0 := Tryz.isAgg0
  z0 := Tryz.sizeOf0
  v0 := Tryz.zeroValue0
  t2 := Tryz.underlying2
  a2 := Tryz.isAgg2
  z2 := Tryz.sizeOf2
  v2 := Tryz.zeroValue2
  t3 := Tryz.underlying3
  a3 := Tryz.isAgg3
  z3 := Tryz.sizeOf3
  v3 := Tryz.zeroValue3
  t4 := Tryz.underlying4
  a4 := Tryz.isAgg4
  z4 := Tryz.sizeOf4
  v4 := Tryz.zeroValue4
  t5 := Tryz.underlying5
  a5 := Tryz.isAgg5
  z5 := Tryz.sizeOf5
  v5 := Tryz.zeroValue5
  t9 := Tryz.underlying9
  a9 := Tryz.isAgg9
  z9 := Tryz.sizeOf9
  v9 := Tryz.zeroValue9
  t20 := Tryz.underlying20
  a20 := Tryz.isAgg20
  z20 := Tryz.sizeOf20
  v20 := Tryz.zeroValue20
  t37 := Tryz.underlying22
  a37 := Tryz.isAgg22
  z37 := Tryz.sizeOf22
  v37 := Tryz.zeroValue22
  t46 := Tryz.underlying141
  a46 := Tryz.isAgg141
  z46 := Tryz.sizeOf141
  v46 := Tryz.zeroValue141
  t51 := Tryz.underlying168
  a51 := Tryz.isAgg168
  z51 := Tryz.sizeOf168
  v51 := Tryz.zeroValue168
  t53 := Tryz.underlying170
  a53 := Tryz.isAgg170
  z53 := Tryz.sizeOf170
  v53 := Tryz.zeroValue170
  t171 := Tryz.underlying172
  a171 := Tryz.isAgg172
  z171 := Tryz.sizeOf172
  v171 := Tryz.zeroValue172
  t173 := Tryz.underlying174
  a173 := Tryz.isAgg174
  z173 := Tryz.sizeOf174
  v173 := Tryz.zeroValue174
  t212 := Tryz.underlying184
  a212 := Tryz.isAgg184
  z212 := Tryz.sizeOf184
  v212 := Tryz.zeroValue184
  t213 := Tryz.underlying185
  a213 := Tryz.isAgg185
  z213 := Tryz.sizeOf185
  t232 := Tryz.underlying190
  a232 := Tryz.isAgg190
  z232 := Tryz.sizeOf190
  v232 := Tryz.zeroValue190
  t233 := Tryz.underlying191
  a233 := Tryz.isAgg191
  z233 := Tryz.sizeOf191
  v233 := Tryz.zeroValue191
  g17 := by kernel_rfl
  g18 := by kernel_rfl
  g19 := by kernel_rfl }
theorem Tryz.strconv_FormatInt_10_small (i : Nat) (hi : i < 100) (w : World) :
    Calls Tryz.prog 100 #[.int .i64 i, .int .i64 10] w fun e w' => e = .returned (.string ⟨(Lib.decDigits i).toArray⟩) ∧ w' = w := Any.strconv_FormatInt_10_small Tryz.lays173 i hi w
def Tryz.laysM316_ren : Go.Shelf.Ren := ⟨fun | 316 => 94 | n => n, fun | 9 => 9 | 3 => 3 | 4 => 4 | 37 => 22 | 0 => 0 | 127 => 140 | 5 => 5 | n => n, fun | n => n⟩
theorem Tryz.laysM316 : Go.Proofs.LaysM.n316 Tryz.prog Tryz.laysM316_ren := {
  mixed := by kernel_rfl
  f316 := Tryz.func94.trans (congrArg some (by kernel_rfl))
  t0 := Tryz.underlying0
  a0 := Tryz.isAgg0
  z0 := Tryz.sizeOf0
  v0 := Tryz.zeroValue0
  t3 := Tryz.underlying3
  a3 := Tryz.isAgg3
  z3 := Tryz.sizeOf3
  v3 := Tryz.zeroValue3
  t4 := Tryz.underlying4
  a4 := Tryz.isAgg4
  z4 := Tryz.sizeOf4
  v4 := Tryz.zeroValue4
  t9 := Tryz.underlying9
  a9 := Tryz.isAgg9
  z9 := Tryz.sizeOf9
  v9 := Tryz.zeroValue9
  t37 := Tryz.underlying22
  a37 := Tryz.isAgg22
  z37 := Tryz.sizeOf22
  v37 := Tryz.zeroValue22
  t127 := Tryz.underlying140
  a127 := Tryz.isAgg140
  z127 := Tryz.sizeOf140
  v127 := Tryz.zeroValue140
  t5 := Tryz.underlying5
  a5 := Tryz.isAgg5
  z5 := Tryz.sizeOf5
  v5 := Tryz.zeroValue5
  i0 := by kernel_rfl
  i3 := by kernel_rfl
  i4 := by kernel_rfl
  i5 := by kernel_rfl
  i9 := by kernel_rfl
  i37 := by kernel_rfl
  i127 := by kernel_rfl }
theorem Tryz.stringslite_Clone (s : ByteArray) (w : World) (hlim : s.size ≤ 281474976710656) :
    Calls Tryz.prog 94 #[.string s] w fun e w' => e = .returned (.string s) ∧ Below w.heap.size w w' := Any.stringslite_Clone Tryz.laysM316 s w hlim
end Go.Proofs
