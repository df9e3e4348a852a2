/- Proved: the program's ShelfOk answers as the plain Lean function does; it writes nothing that was there. Condition: texts and lists of at most a million. -/
import Derived.Test.YtepjpfiekchdmaaShelfMem
import Derived.Test.YtepjpfiekchdmaaWorkImpl
namespace Go.Proofs.Ytepjpfiekchdmaa
open Go.RowKit
set_option maxRecDepth 20000

abbrev wrV (r : Wr) : Value := wkV r.name r.owner r.ad r.cps.length r.cap
def WNoneTo (p : Wr → Bool) (l : List Wr) (j : Nat) : Prop := ∀ (i : Nat) (h : i < l.length), i < j → p l[i] = false
theorem WNoneTo.zero (p : Wr → Bool) (l : List Wr) : WNoneTo p l 0 := fun _ _ h => absurd h (by omega)
theorem WNoneTo.next {p : Wr → Bool} {l : List Wr} {j : Nat} (h : WNoneTo p l j) (hj : j < l.length) (hp : p l[j] = false) : WNoneTo p l (j + 1) := fun i hi hij => by
  by_cases e : i = j
  · subst e; exact hp
  · exact h i hi (by omega)
theorem WNoneTo.hit {p : Wr → Bool} {l : List Wr} {j : Nat} (h : WNoneTo p l j) (hj : j < l.length) (hp : p l[j] = true) : l.findIdx p = j :=
  (List.findIdx_eq hj).2 ⟨hp, fun i hi => h i (by omega) hi⟩
theorem WNoneTo.all {p : Wr → Bool} {l : List Wr} (h : WNoneTo p l l.length) : l.findIdx p = l.length :=
  List.findIdx_eq_length.2 fun x hx => by
    obtain ⟨i, hi, rfl⟩ := List.mem_iff_getElem.1 hx
    simp [h i hi hi]

theorem all_findIdxW (l : List Wr) : ((l.findIdx (fun c => !M.wkOk c.wk) : Int) == (l.length : Int)) = (l.map Wr.wk).all M.wkOk := by
  rw [Bool.eq_iff_iff, beq_iff_eq, List.all_eq_true]
  constructor
  · intro h x hx
    obtain ⟨y, hy, rfl⟩ := List.mem_map.1 hx
    have := List.findIdx_eq_length.1 (show l.findIdx (fun c => !M.wkOk c.wk) = l.length by omega) y hy
    simpa using this
  · intro h
    have : l.findIdx (fun c => !M.wkOk c.wk) = l.length := List.findIdx_eq_length.2 fun x hx => by simp [h x.wk (List.mem_map_of_mem hx)]
    omega

/-- Each of the first j is ahead of the next. -/
def WRisesTo (l : List Wr) (j : Nat) : Prop := ∀ (i : Nat) (h : i + 1 < l.length), i + 1 < j → M.nameLt l[i].name l[i + 1].name = true
theorem WRisesTo.one (l : List Wr) : WRisesTo l 1 := fun _ _ h => absurd h (by omega)
theorem WRisesTo.next {l : List Wr} {k : Nat} (h : WRisesTo l (k + 1)) (hk : k + 1 < l.length) (ho : M.nameLt l[k].name l[k + 1].name = true) : WRisesTo l (k + 2) := fun i hi hij => by
  by_cases e : i = k
  · subst e; exact ho
  · exact h i hi (by omega)
theorem WRisesTo.all {l : List Wr} {j : Nat} (h : WRisesTo l j) (hj : l.length ≤ j) : M.risesN (l.map Wr.wk) = true := (M.risesN_iff _).2 fun i hi => by
  have hi' : i + 1 < l.length := by simpa using hi
  simpa [Wr.wk] using h i hi' (by omega)
theorem wrises_not {l : List Wr} {k : Nat} (hk : k + 1 < l.length) (ho : M.nameLt l[k].name l[k + 1].name = false) : M.risesN (l.map Wr.wk) = false := by
  rcases hc : M.risesN (l.map Wr.wk) with _ | _
  · rfl
  · have := (M.risesN_iff _).1 hc k (by simpa using hk)
    simp [Wr.wk] at this
    rw [ho] at this; cases this

end Go.Proofs.Ytepjpfiekchdmaa
