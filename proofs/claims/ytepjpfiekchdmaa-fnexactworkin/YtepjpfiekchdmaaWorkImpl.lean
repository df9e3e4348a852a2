/- Proved: the program's WorkOk answers the same plain Lean function as the model's; it writes nothing that was there. -/
import Derived.Test.YtepjpfiekchdmaaWorkSz
import Derived.Test.YtepjpfiekchdmaaDeedWalks
import Derived.StillTailTactics
import Derived.IntWalk
namespace Go.Proofs.Ytepjpfiekchdmaa
open Go.RowKit
set_option maxRecDepth 20000

/-- None of the first j is so. -/
def NoneTo (p : M.Cp → Bool) (l : List M.Cp) (j : Nat) : Prop := ∀ (i : Nat) (h : i < l.length), i < j → p l[i] = false
theorem NoneTo.zero (p : M.Cp → Bool) (l : List M.Cp) : NoneTo p l 0 := fun _ _ h => absurd h (by omega)
theorem NoneTo.next {p : M.Cp → Bool} {l : List M.Cp} {j : Nat} (h : NoneTo p l j) (hj : j < l.length) (hp : p l[j] = false) : NoneTo p l (j + 1) := fun i hi hij => by
  by_cases e : i = j
  · subst e; exact hp
  · exact h i hi (by omega)
theorem NoneTo.hit {p : M.Cp → Bool} {l : List M.Cp} {j : Nat} (h : NoneTo p l j) (hj : j < l.length) (hp : p l[j] = true) : l.findIdx p = j :=
  (List.findIdx_eq hj).2 ⟨hp, fun i hi => h i (by omega) hi⟩
theorem NoneTo.all {p : M.Cp → Bool} {l : List M.Cp} (h : NoneTo p l l.length) : l.findIdx p = l.length :=
  List.findIdx_eq_length.2 fun x hx => by
    obtain ⟨i, hi, rfl⟩ := List.mem_iff_getElem.1 hx
    simp [h i hi hi]

theorem all_findIdx (l : List M.Cp) : ((l.findIdx (fun c => !M.cpOk c) : Int) == (l.length : Int)) = l.all M.cpOk := by
  rw [Bool.eq_iff_iff, beq_iff_eq, List.all_eq_true]
  constructor
  · intro h x hx
    have := List.findIdx_eq_length.1 (show l.findIdx (fun c => !M.cpOk c) = l.length by omega) x hx
    simpa using this
  · intro h
    have : l.findIdx (fun c => !M.cpOk c) = l.length := List.findIdx_eq_length.2 fun x hx => by simp [h x hx]
    omega

/-- Each of the first j is older than the next. -/
def RisesTo (l : List M.Cp) (j : Nat) : Prop := ∀ (i : Nat) (h : i + 1 < l.length), i + 1 < j → M.older l[i].ed l[i + 1].ed = true
theorem RisesTo.one (l : List M.Cp) : RisesTo l 1 := fun _ _ h => absurd h (by omega)
theorem RisesTo.next {l : List M.Cp} {k : Nat} (h : RisesTo l (k + 1)) (hk : k + 1 < l.length) (ho : M.older l[k].ed l[k + 1].ed = true) : RisesTo l (k + 2) := fun i hi hij => by
  by_cases e : i = k
  · subst e; exact ho
  · exact h i hi (by omega)
theorem RisesTo.all {l : List M.Cp} {j : Nat} (h : RisesTo l j) (hj : l.length ≤ j) : M.risesB l = true := (M.risesB_iff l).2 fun i hi => h i hi (by omega)
theorem rises_not {l : List M.Cp} {k : Nat} (hk : k + 1 < l.length) (ho : M.older l[k].ed l[k + 1].ed = false) : M.risesB l = false := by
  rcases hc : M.risesB l with _ | _
  · rfl
  · have := (M.risesB_iff l).1 hc k hk; rw [ho] at this; cases this

end Go.Proofs.Ytepjpfiekchdmaa
