/- Proved, in parts: Proved: facts on a memory in which a draw's own cursor and boxes stand; no program's function is named here; no condition. -/
import Derived.Test.YtkpbfocnokbmiaaGreatPart37
namespace Go.Proofs.YtkpbfocnokbmiaaGreat
open Go.RowKit
set_option maxRecDepth 20000

/-- Nothing that was there in w0 has changed; the cursor, a newer block, stands; each box of bx is newer, another block, holds its cells and may be written. -/
structure DrT (w0 : World) (g : Nat) (bx : List (Nat × Array Value)) (x : World) : Prop where
  low : w0.heap.size ≤ g
  below : Below w0.heap.size w0 x
  cur : Cur w0.heap.size x g
  box : ∀ p ∈ bx, w0.heap.size ≤ p.1 ∧ p.1 ≠ g ∧ Holds x p.1 p.2 ∧ Loose x p.1
theorem DrT.start {w0 x0 x1 : World} {bx : List (Nat × Array Value)} {ls : List Nat} (hm : Mem w0 bx ls x0) (hl : ∀ p ∈ bx, w0.heap.size ≤ p.1 ∧ p.1 ∈ ls) (hg : x0.grownBy x1 none) (hc : Cur w0.heap.size x1 x0.heap.size) : DrT w0 x0.heap.size bx x1 := by
  have hb := below_of hg
  refine ⟨hm.1.size, hm.1.trans (hb.mono hm.1.size), hc, fun p hp => ?_⟩
  have hH := hm.2.1 p hp
  have hL := hm.2.2 p.1 (hl p hp).2
  exact ⟨(hl p hp).1, Nat.ne_of_lt hH.1, hH.below hb, hL.2.below hL.1 hb⟩
theorem DrT.by {w0 : World} {g : Nat} {bx : List (Nat × Array Value)} {x y : World} (h : DrT w0 g bx x) (hg : x.grownBy y (some g)) (hc : Cur w0.heap.size y g) : DrT w0 g bx y := by
  refine ⟨h.low, h.below.grown hg h.below.size (fun k e => by cases e; exact h.low), hc, fun p hp => ?_⟩
  obtain ⟨h1, h0, h2, h3⟩ := h.box p hp
  have hb : y.heap[p.1]? = x.heap[p.1]? := hg.block p.1 h2.1 (by
    intro e
    injection e with e
    exact h0 e)
  exact ⟨h1, h0, ⟨Nat.lt_of_lt_of_le h2.1 hg.size, fun j v hj => (World.cell?_of_block (a := ⟨p.1, j, none⟩) hb).trans (h2.2 j v hj)⟩, fun j => (World.frozen?_of_block (a := ⟨p.1, j, none⟩) hb).trans (h3 j)⟩
theorem DrT.drew {w0 : World} {g : Nat} {bx : List (Nat × Array Value)} {x : World} (h : DrT w0 g bx x) : DrT w0 g bx x.drew := ⟨h.low, h.below.drew, h.cur, h.box⟩
theorem DrT.sub {w0 : World} {g : Nat} {bx bx' : List (Nat × Array Value)} {x : World} (h : DrT w0 g bx x) (hs : ∀ p ∈ bx', p ∈ bx) : DrT w0 g bx' x := ⟨h.low, h.below, h.cur, fun p hp => h.box p (hs p hp)⟩
theorem DrT.new {w0 : World} {g : Nat} {bx : List (Nat × Array Value)} {x : World} (h : DrT w0 g bx x) (C : Array Value) (t : TypeId) : DrT w0 g ((x.heap.size, C) :: bx) (x.alloc (.cells C t)) := by
  have hb : Below x.heap.size x (x.alloc (.cells C t)) := (Below.refl _ _).alloc (Nat.le_refl _) _
  have h' := h.by (grown_of_below hb _) (h.cur.kept (grown_of_below hb none) (by simp))
  refine ⟨h'.low, h'.below, h'.cur, fun p hp => ?_⟩
  rcases List.mem_cons.1 hp with rfl | hp
  · have := h.cur.2.1
    exact ⟨h.below.size, by simp only; omega, holds_new x C t, loose_new x C t⟩
  · exact h'.box p hp
theorem DrT.put {w0 : World} {g R : Nat} {C : Array Value} {bx : List (Nat × Array Value)} {x : World} (h : DrT w0 g ((R, C) :: bx) x) (hn : ∀ p ∈ bx, p.1 ≠ R) (j : Nat) (v : Value) : DrT w0 g ((R, C.setIfInBounds j v) :: bx) (x.setCell ⟨R, j, none⟩ v) := by
  obtain ⟨hR, h0, hH, hL⟩ := h.box (R, C) (by simp)
  refine ⟨h.low, h.below.setCell hR v, h.cur.kept (grownBy_set x R j v) (by intro k e; cases e; exact ⟨Ne.symm h0, hR⟩), fun p hp => ?_⟩
  rcases List.mem_cons.1 hp with rfl | hp
  · exact ⟨hR, h0, hH.putM j v, fun i => by rw [World.frozen?_setCell]; exact hL i⟩
  · obtain ⟨h1, h4, h2, h3⟩ := h.box p (List.mem_cons_of_mem _ hp)
    exact ⟨h1, h4, h2.otherM (hn p hp), fun i => by rw [World.frozen?_setCell]; exact h3 i⟩
theorem DrT.put3 {w0 : World} {g R : Nat} {a b c : Value} {bx : List (Nat × Array Value)} {x : World} (h : DrT w0 g ((R, #[a, b, c]) :: bx) x) (hn : ∀ p ∈ bx, p.1 ≠ R) (a' b' c' : Value) :
    DrT w0 g ((R, #[a', b', c']) :: bx) (((x.setCell ⟨R, 0, none⟩ a').setCell ⟨R, 1, none⟩ b').setCell ⟨R, 2, none⟩ c') := by
  have := ((h.put hn 0 a').put hn 1 b').put hn 2 c'
  simpa using this
theorem DrT.get {w0 : World} {g : Nat} {bx : List (Nat × Array Value)} {x : World} (h : DrT w0 g bx x) {R : Nat} {C : Array Value} (hp : (R, C) ∈ bx) : Holds x R C ∧ Loose x R := (h.box (R, C) hp).2.2
theorem DrT.put2 {w0 : World} {g R : Nat} {c0 c1 : Value} {bx : List (Nat × Array Value)} {x : World} (h : DrT w0 g ((R, #[c0, c1]) :: bx) x) (hn : ∀ p ∈ bx, p.1 ≠ R) (a0 a1 : Value) :
    DrT w0 g ((R, #[a0, a1]) :: bx) ((x.setCell ⟨R, 0, none⟩ a0).setCell ⟨R, 1, none⟩ a1) := by
  have := ((h.put hn 0 a0).put hn 1 a1)
  simpa using this
theorem DrT.put9 {w0 : World} {g R : Nat} {c0 c1 c2 c3 c4 c5 c6 c7 c8 : Value} {bx : List (Nat × Array Value)} {x : World} (h : DrT w0 g ((R, #[c0, c1, c2, c3, c4, c5, c6, c7, c8]) :: bx) x) (hn : ∀ p ∈ bx, p.1 ≠ R) (a0 a1 a2 a3 a4 a5 a6 a7 a8 : Value) :
    DrT w0 g ((R, #[a0, a1, a2, a3, a4, a5, a6, a7, a8]) :: bx) (((((((((x.setCell ⟨R, 0, none⟩ a0).setCell ⟨R, 1, none⟩ a1).setCell ⟨R, 2, none⟩ a2).setCell ⟨R, 3, none⟩ a3).setCell ⟨R, 4, none⟩ a4).setCell ⟨R, 5, none⟩ a5).setCell ⟨R, 6, none⟩ a6).setCell ⟨R, 7, none⟩ a7).setCell ⟨R, 8, none⟩ a8) := by
  have := (((((((((h.put hn 0 a0).put hn 1 a1).put hn 2 a2).put hn 3 a3).put hn 4 a4).put hn 5 a5).put hn 6 a6).put hn 7 a7).put hn 8 a8)
  simpa using this
theorem DrT.put10 {w0 : World} {g R : Nat} {c0 c1 c2 c3 c4 c5 c6 c7 c8 c9 : Value} {bx : List (Nat × Array Value)} {x : World} (h : DrT w0 g ((R, #[c0, c1, c2, c3, c4, c5, c6, c7, c8, c9]) :: bx) x) (hn : ∀ p ∈ bx, p.1 ≠ R) (a0 a1 a2 a3 a4 a5 a6 a7 a8 a9 : Value) :
    DrT w0 g ((R, #[a0, a1, a2, a3, a4, a5, a6, a7, a8, a9]) :: bx) ((((((((((x.setCell ⟨R, 0, none⟩ a0).setCell ⟨R, 1, none⟩ a1).setCell ⟨R, 2, none⟩ a2).setCell ⟨R, 3, none⟩ a3).setCell ⟨R, 4, none⟩ a4).setCell ⟨R, 5, none⟩ a5).setCell ⟨R, 6, none⟩ a6).setCell ⟨R, 7, none⟩ a7).setCell ⟨R, 8, none⟩ a8).setCell ⟨R, 9, none⟩ a9) := by
  have := ((((((((((h.put hn 0 a0).put hn 1 a1).put hn 2 a2).put hn 3 a3).put hn 4 a4).put hn 5 a5).put hn 6 a6).put hn 7 a7).put hn 8 a8).put hn 9 a9)
  simpa using this
end Go.Proofs.YtkpbfocnokbmiaaGreat
