/- Proved: facts on a memory in which a draw's cursor and boxes of one's own stand; no program's function is named here; no condition. -/
import Derived.Test.YtbdcehmcdoocgaaDrawEd
import Derived.Test.YtbdcehmcdoocgaaMem
import Derived.Test.YtbdcehmcdoocgaaWorkWith
import Derived.Test.YtbdcehmcdoocgaaDrawWkMath
namespace Go.Proofs.Ytbdcehmcdoocgaa
open Go.RowKit
set_option maxRecDepth 20000

theorem grown_of_below {x y : World} (h : Below x.heap.size x y) (row : Option Nat) : x.grownBy y row := ⟨h.os, h.tape, h.output, h.size, fun k hk _ => h.block k hk⟩
theorem own_by {b g : Nat} {x y : World} {v : Value} {l : List M.Cp} (h : CpOwn b x v l) (hg : x.grownBy y (some g)) (hb : g < b) : CpOwn b y v l := by
  obtain ⟨hl, h0 | ⟨k, cap, cur, rfl, hk, hh, hr⟩⟩ := h
  · exact ⟨hl, .inl h0⟩
  · refine ⟨hl, .inr ⟨k, cap, cur, rfl, hk, (hg.block k (Array.getElem?_eq_some_iff.1 hh).1 ?_).trans hh, hr⟩⟩
    intro e
    injection e with e
    omega

/-- Of all that was there in w0 the cursor's block alone may have changed; the cursor stands; each box of bx is newer, holds its cells and may be written. -/
structure DrM (w0 : World) (B g : Nat) (bx : List (Nat × Array Value)) (x : World) : Prop where
  low : g < w0.heap.size
  grown : w0.grownBy x (some g)
  cur : Cur B x g
  box : ∀ p ∈ bx, w0.heap.size ≤ p.1 ∧ Holds x p.1 p.2 ∧ Loose x p.1
theorem DrM.start {w : World} {B g : Nat} (h : Cur B w g) : DrM w B g [] w := ⟨h.2.1, World.grownBy.refl _ _, h, by simp⟩
theorem DrM.by {w0 : World} {B g : Nat} {bx : List (Nat × Array Value)} {x y : World} (h : DrM w0 B g bx x) (hg : x.grownBy y (some g)) (hc : Cur B y g) : DrM w0 B g bx y := by
  refine ⟨h.low, grownBy_trans h.grown hg, hc, fun p hp => ?_⟩
  obtain ⟨h1, h2, h3⟩ := h.box p hp
  have hb : y.heap[p.1]? = x.heap[p.1]? := hg.block p.1 h2.1 (by
    intro e
    injection e with e
    have := h.low
    omega)
  exact ⟨h1, ⟨Nat.lt_of_lt_of_le h2.1 hg.size, fun j v hj => (World.cell?_of_block (a := ⟨p.1, j, none⟩) hb).trans (h2.2 j v hj)⟩, fun j => (World.frozen?_of_block (a := ⟨p.1, j, none⟩) hb).trans (h3 j)⟩
theorem DrM.below {w0 : World} {B g : Nat} {bx : List (Nat × Array Value)} {x y : World} (h : DrM w0 B g bx x) (hb : Below x.heap.size x y) : DrM w0 B g bx y :=
  h.by (grown_of_below hb _) (h.cur.kept (grown_of_below hb none) (by simp))
theorem DrM.drew {w0 : World} {B g : Nat} {bx : List (Nat × Array Value)} {x : World} (h : DrM w0 B g bx x) : DrM w0 B g bx x.drew := ⟨h.low, ⟨h.grown.os, h.grown.tape, h.grown.output, h.grown.size, h.grown.block⟩, h.cur, h.box⟩
theorem DrM.alloc {w0 : World} {B g : Nat} {bx : List (Nat × Array Value)} {x : World} (h : DrM w0 B g bx x) (o : Obj) : DrM w0 B g bx (x.alloc o) := h.below ((Below.refl _ _).alloc (Nat.le_refl _) o)
theorem DrM.sub {w0 : World} {B g : Nat} {bx bx' : List (Nat × Array Value)} {x : World} (h : DrM w0 B g bx x) (hs : ∀ p ∈ bx', p ∈ bx) : DrM w0 B g bx' x := ⟨h.low, h.grown, h.cur, fun p hp => h.box p (hs p hp)⟩
theorem DrM.new {w0 : World} {B g : Nat} {bx : List (Nat × Array Value)} {x : World} (h : DrM w0 B g bx x) (C : Array Value) (t : TypeId) : DrM w0 B g ((x.heap.size, C) :: bx) (x.alloc (.cells C t)) := by
  have h' := h.alloc (.cells C t)
  refine ⟨h'.low, h'.grown, h'.cur, fun p hp => ?_⟩
  rcases List.mem_cons.1 hp with rfl | hp
  · exact ⟨h.grown.size, holds_new x C t, loose_new x C t⟩
  · exact h'.box p hp
theorem DrM.put {w0 : World} {B g R : Nat} {C : Array Value} {bx : List (Nat × Array Value)} {x : World} (h : DrM w0 B g ((R, C) :: bx) x) (hn : ∀ p ∈ bx, p.1 ≠ R) (j : Nat) (v : Value) : DrM w0 B g ((R, C.setIfInBounds j v) :: bx) (x.setCell ⟨R, j, none⟩ v) := by
  obtain ⟨hR, hH, hL⟩ := h.box (R, C) (by simp)
  have hlow := h.low
  have hB := h.cur.1
  refine ⟨hlow, ⟨h.grown.os, h.grown.tape, h.grown.output, by simpa using h.grown.size, fun k hk hne => (Below.heap_setCell _ _ _ _ (by show k ≠ R; simp only at hR; omega)).trans (h.grown.block k hk hne)⟩, h.cur.kept (grownBy_set x R j v) (by intro k e; cases e; simp only at hR; omega), fun p hp => ?_⟩
  rcases List.mem_cons.1 hp with rfl | hp
  · exact ⟨hR, hH.putM j v, fun i => by rw [World.frozen?_setCell]; exact hL i⟩
  · obtain ⟨h1, h2, h3⟩ := h.box p (List.mem_cons_of_mem _ hp)
    exact ⟨h1, h2.otherM (hn p hp), fun i => by rw [World.frozen?_setCell]; exact h3 i⟩
theorem DrM.get {w0 : World} {B g : Nat} {bx : List (Nat × Array Value)} {x : World} (h : DrM w0 B g bx x) {R : Nat} {C : Array Value} (hp : (R, C) ∈ bx) : Holds x R C ∧ Loose x R := (h.box (R, C) hp).2
theorem DrM.ne {w0 : World} {B g : Nat} {bx : List (Nat × Array Value)} {x : World} (h : DrM w0 B g bx x) {R : Nat} {C : Array Value} (hp : (R, C) ∈ bx) : R ≠ g ∧ w0.heap.size ≤ R ∧ R < x.heap.size := by
  obtain ⟨h1, h2, _⟩ := h.box (R, C) hp
  have := h.low
  exact ⟨by simp only at h1; omega, h1, h2.1⟩
/-- Three writes into the box that is told first. -/
theorem DrM.put3 {w0 : World} {B g R : Nat} {a b c : Value} {bx : List (Nat × Array Value)} {x : World} (h : DrM w0 B g ((R, #[a, b, c]) :: bx) x) (hn : ∀ p ∈ bx, p.1 ≠ R) (a' b' c' : Value) :
    DrM w0 B g ((R, #[a', b', c']) :: bx) (((x.setCell ⟨R, 0, none⟩ a').setCell ⟨R, 1, none⟩ b').setCell ⟨R, 2, none⟩ c') := by
  have := ((h.put hn 0 a').put hn 1 b').put hn 2 c'
  simpa using this

theorem Mem.sub {w0 : World} {hs hs' : List (Nat × Array Value)} {ls : List Nat} {x : World} (h : Mem w0 hs ls x) (hsub : ∀ p ∈ hs', p ∈ hs) : Mem w0 hs' [] x := ⟨h.1, fun p hp => h.2.1 p (hsub p hp), by simp⟩

/-- Some small work, in new memory; the cursor stands, and its block alone is written. -/
def WkOut (n B g : Nat) (w : World) (r : Ending) (w' : World) : Prop :=
  ∃ (wk : M.Wk) (A : Option Addr) (c : Nat), r = .returned (wkV wk.name wk.owner A wk.copies.length c) ∧ M.smallWk n wk ∧ CpOwn w.heap.size w' (.slice A wk.copies.length c) wk.copies ∧ Cur B w' g ∧ w.grownBy w' (some g)
end Go.Proofs.Ytbdcehmcdoocgaa
