/- Proved, in parts: Proved: what is so while the model draws: boxes, the cursor, rows of one's own; no program's function is named here. No condition. -/
import Derived.Test.YtkpbfocnokbmiaaPart14
import Derived.Test.YtkpbfocnokbmiaaPart07
import Derived.Test.YtkpbfocnokbmiaaPart08
import Derived.Test.YtkpbfocnokbmiaaPart09
import Derived.Maps.AppendAt
import Derived.OwnWalk
namespace Go.Proofs.Ytkpbfocnokbmiaa
open Go.RowKit
set_option maxRecDepth 20000
set_option linter.unusedVariables false
/-- append of a slice of records, and where the row then lies. -/
theorem wp_append_flat_at {α : Type} {enc : α → List Value} {k : Nat} {w : World} {l : List α} {P : Program} {o : Oper} {a : Act} {K : Act → World → Prop} {Q : Exit → Act → World → Prop} (s x : Operand) (t : TypeId)
    (ho : o.op = .call { callee := .builtin .append, args := #[s, x], argTypes := #[t, t] })
    (base : Nat) (e : TypeId) (i : TypeInfo) (z : Value) (bytes : Nat) (ht : P.underlying t = some (.slice e)) (hi : P.info? e = some i) (hz : i.zero = some z)
    (hsize : i.size = k) (hby : i.bytes = bytes) (hzs : z.cells.size = k) (hsz : 0 < k)
    (v : Value) (n : Nat) (xs : List Value) (hs : a.eval s = v) (hown : w.ownsRow base e k v n xs)
    (A : Option Addr) (c : Nat) (hx : a.eval x = .slice A l.length c) (hA : A = none → c = 0) (hfl : Flat enc k w A l) (hk : ∀ x, (enc x).length = k) (h1 : ∀ u ∈ cellsOf enc l, u.oneCell' = true)
    (h63 : n + l.length ≤ maxLen) (hbytes : (n + l.length) * bytes ≤ 140737488355328) (hbase : base ≤ w.heap.size)
    (h : ∀ v' w', w'.ownsRow base e k v' (n + l.length) (xs ++ cellsOf enc l) → w.grownBy w' v.ownBlock → (v'.ownBlock = v.ownBlock ∨ v'.ownBlock = some w.heap.size) → K (a.put o.dst v') w') : o.wp P a w K Q := by
  rcases A with _ | ad
  · have hl := flat_none hfl
    have hc := hA rfl
    subst hl hc
    have hrun := run_append_owned_none (P := P) w base t o.type e i k ht hi v n xs hown
    unfold Oper.wp execOp
    simp only [List.length_nil] at hx
    simp only [ho, resolve, invoke, builtin, Sem.run_bind, Sem.run_pure, Result.andThen_ok, List.map_toArray, List.map_cons, List.map_nil, hs, hx, hrun]
    refine h v w ?_ ⟨rfl, rfl, rfl, Nat.le_refl _, fun _ _ _ => rfl⟩ (.inl rfl)
    simpa [cellsOf] using hown
  · obtain ⟨v', w', hr, h2, h3, _, h5⟩ := run_append_own_at (P := P) w base t o.type e i z k bytes ht hi hz hsize hby hzs hsz v n xs hown ad l.length c (cellsOf enc l) (cellsOf_len hk l) (flat_news hk hsz hfl) h1 h63 hbytes hbase
    unfold Oper.wp execOp
    simp only [ho, resolve, invoke, builtin, Sem.run_bind, Sem.run_pure, Result.andThen_ok, List.map_toArray, List.map_cons, List.map_nil, hs, hx, hr]
    exact h v' w' h2 h3 h5
theorem wpList_append_flat_at {α : Type} {enc : α → List Value} {k : Nat} {w : World} {l : List α} {P : Program} {ops : Array Oper} {rest : List Oper} {o : Oper} {a : Act} {Q : Exit → Act → World → Prop} (hgd : o.guard = none) (s x : Operand) (t : TypeId)
    (ho : o.op = .call { callee := .builtin .append, args := #[s, x], argTypes := #[t, t] })
    (base : Nat) (e : TypeId) (i : TypeInfo) (z : Value) (bytes : Nat) (ht : P.underlying t = some (.slice e)) (hi : P.info? e = some i) (hz : i.zero = some z)
    (hsize : i.size = k) (hby : i.bytes = bytes) (hzs : z.cells.size = k) (hsz : 0 < k)
    (v : Value) (n : Nat) (xs : List Value) (hs : a.eval s = v) (hown : w.ownsRow base e k v n xs)
    (A : Option Addr) (c : Nat) (hx : a.eval x = .slice A l.length c) (hA : A = none → c = 0) (hfl : Flat enc k w A l) (hk : ∀ x, (enc x).length = k) (h1 : ∀ u ∈ cellsOf enc l, u.oneCell' = true)
    (h63 : n + l.length ≤ maxLen) (hbytes : (n + l.length) * bytes ≤ 140737488355328) (hbase : base ≤ w.heap.size)
    (h : ∀ v' w', w'.ownsRow base e k v' (n + l.length) (xs ++ cellsOf enc l) → w.grownBy w' v.ownBlock → (v'.ownBlock = v.ownBlock ∨ v'.ownBlock = some w.heap.size) → wpList P ops Q rest (a.put o.dst v') w') : wpList P ops Q (o :: rest) a w :=
  wpList_plain hgd fun _ hK => wp_append_flat_at s x t ho base e i z bytes ht hi hz hsize hby hzs hsz v n xs hs hown A c hx hA hfl hk h1 h63 hbytes hbase fun v' w' h2 h3 h4 => hK _ _ (h v' w' h2 h3 h4)
theorem grown_of_below {x y : World} (h : Below x.heap.size x y) (row : Option Nat) : x.grownBy y row := ⟨h.os, h.tape, h.output, h.size, fun k hk _ => h.block k hk⟩
/-- Of all that was there in w0 the cursor's block alone may have changed; the cursor stands; each box of bx is newer, holds its cells and may be written. -/
structure DrM (w0 : World) (B g : Nat) (bx : List (Nat × Array Value)) (x : World) : Prop where
  low : g < w0.heap.size
  grown : w0.grownBy x (some g)
  cur : Cur B x g
  box : ∀ p ∈ bx, w0.heap.size ≤ p.1 ∧ Holds x p.1 p.2 ∧ Loose x p.1
theorem DrM.start {w : World} {B g : Nat} (h : Cur B w g) : DrM w B g [] w := ⟨h.2.1, World.grownBy.refl _ _, h, by simp⟩
theorem DrM.by {w0 : World} {B g : Nat} {bx : List (Nat × Array Value)} {x y : World} (h : DrM w0 B g bx x) (hg : x.grownBy y (some g)) (hc : Cur B y g) : DrM w0 B g bx y := by
  refine ⟨h.low, grownBy_trans h.grown hg, hc, fun p hp => ?_⟩
  obtain ⟨h1, h2, h3⟩ := h.box p hp
  have hb : y.heap[p.1]? = x.heap[p.1]? := hg.block p.1 h2.1 (by
    intro e
    injection e with e
    have := h.low
    omega)
  exact ⟨h1, ⟨Nat.lt_of_lt_of_le h2.1 hg.size, fun j v hj => (World.cell?_of_block (a := ⟨p.1, j, none⟩) hb).trans (h2.2 j v hj)⟩, fun j => (World.frozen?_of_block (a := ⟨p.1, j, none⟩) hb).trans (h3 j)⟩
theorem DrM.below {w0 : World} {B g : Nat} {bx : List (Nat × Array Value)} {x y : World} (h : DrM w0 B g bx x) (hb : Below x.heap.size x y) : DrM w0 B g bx y :=
  h.by (grown_of_below hb _) (h.cur.kept (grown_of_below hb none) (by simp))
theorem DrM.drew {w0 : World} {B g : Nat} {bx : List (Nat × Array Value)} {x : World} (h : DrM w0 B g bx x) : DrM w0 B g bx x.drew := ⟨h.low, ⟨h.grown.os, h.grown.tape, h.grown.output, h.grown.size, h.grown.block⟩, h.cur, h.box⟩
theorem DrM.alloc {w0 : World} {B g : Nat} {bx : List (Nat × Array Value)} {x : World} (h : DrM w0 B g bx x) (o : Obj) : DrM w0 B g bx (x.alloc o) := h.below ((Below.refl _ _).alloc (Nat.le_refl _) o)
theorem DrM.sub {w0 : World} {B g : Nat} {bx bx' : List (Nat × Array Value)} {x : World} (h : DrM w0 B g bx x) (hs : ∀ p ∈ bx', p ∈ bx) : DrM w0 B g bx' x := ⟨h.low, h.grown, h.cur, fun p hp => h.box p (hs p hp)⟩
theorem DrM.new {w0 : World} {B g : Nat} {bx : List (Nat × Array Value)} {x : World} (h : DrM w0 B g bx x) (C : Array Value) (t : TypeId) : DrM w0 B g ((x.heap.size, C) :: bx) (x.alloc (.cells C t)) := by
  have h' := h.alloc (.cells C t)
  refine ⟨h'.low, h'.grown, h'.cur, fun p hp => ?_⟩
  rcases List.mem_cons.1 hp with rfl | hp
  · exact ⟨h.grown.size, holds_new x C t, loose_new x C t⟩
  · exact h'.box p hp
theorem DrM.put {w0 : World} {B g R : Nat} {C : Array Value} {bx : List (Nat × Array Value)} {x : World} (h : DrM w0 B g ((R, C) :: bx) x) (hn : ∀ p ∈ bx, p.1 ≠ R) (j : Nat) (v : Value) : DrM w0 B g ((R, C.setIfInBounds j v) :: bx) (x.setCell ⟨R, j, none⟩ v) := by
  obtain ⟨hR, hH, hL⟩ := h.box (R, C) (by simp)
  have hlow := h.low
  have hB := h.cur.1
  refine ⟨hlow, ⟨h.grown.os, h.grown.tape, h.grown.output, by simpa using h.grown.size, fun k hk hne => (Below.heap_setCell _ _ _ _ (by show k ≠ R; simp only at hR; omega)).trans (h.grown.block k hk hne)⟩, h.cur.kept (grownBy_set x R j v) (by intro k e; cases e; simp only at hR; omega), fun p hp => ?_⟩
  rcases List.mem_cons.1 hp with rfl | hp
  · exact ⟨hR, hH.putM j v, fun i => by rw [World.frozen?_setCell]; exact hL i⟩
  · obtain ⟨h1, h2, h3⟩ := h.box p (List.mem_cons_of_mem _ hp)
    exact ⟨h1, h2.otherM (hn p hp), fun i => by rw [World.frozen?_setCell]; exact h3 i⟩
theorem DrM.get {w0 : World} {B g : Nat} {bx : List (Nat × Array Value)} {x : World} (h : DrM w0 B g bx x) {R : Nat} {C : Array Value} (hp : (R, C) ∈ bx) : Holds x R C ∧ Loose x R := (h.box (R, C) hp).2
theorem DrM.ne {w0 : World} {B g : Nat} {bx : List (Nat × Array Value)} {x : World} (h : DrM w0 B g bx x) {R : Nat} {C : Array Value} (hp : (R, C) ∈ bx) : R ≠ g ∧ w0.heap.size ≤ R ∧ R < x.heap.size := by
  obtain ⟨h1, h2, _⟩ := h.box (R, C) hp
  have := h.low
  exact ⟨by simp only at h1; omega, h1, h2.1⟩
/-- Three writes into the box that is told first. -/
theorem DrM.put3 {w0 : World} {B g R : Nat} {a b c : Value} {bx : List (Nat × Array Value)} {x : World} (h : DrM w0 B g ((R, #[a, b, c]) :: bx) x) (hn : ∀ p ∈ bx, p.1 ≠ R) (a' b' c' : Value) :
    DrM w0 B g ((R, #[a', b', c']) :: bx) (((x.setCell ⟨R, 0, none⟩ a').setCell ⟨R, 1, none⟩ b').setCell ⟨R, 2, none⟩ c') := by
  have := ((h.put hn 0 a').put hn 1 b').put hn 2 c'
  simpa using this
theorem Mem.sub {w0 : World} {hs hs' : List (Nat × Array Value)} {ls : List Nat} {x : World} (h : Mem w0 hs ls x) (hsub : ∀ p ∈ hs', p ∈ hs) : Mem w0 hs' [] x := ⟨h.1, fun p hp => h.2.1 p (hsub p hp), by simp⟩
theorem DrM.byRow {w0 : World} {B g : Nat} {bx : List (Nat × Array Value)} {x y : World} {row : Option Nat} (h : DrM w0 B g bx x) (hg : x.grownBy y row) (hr : ∀ k, row = some k → w0.heap.size ≤ k ∧ ∀ p ∈ bx, p.1 ≠ k) : DrM w0 B g bx y := by
  have hB := h.cur.1
  have hlow := h.low
  refine ⟨h.low, ⟨hg.os.trans h.grown.os, hg.tape.trans h.grown.tape, hg.output.trans h.grown.output, Nat.le_trans h.grown.size hg.size, fun k hk hne => (hg.block k (Nat.lt_of_lt_of_le hk h.grown.size) (fun e => by have := (hr k e.symm).1; omega)).trans (h.grown.block k hk hne)⟩, h.cur.kept hg (fun k hk => ⟨by have := (hr k hk).1; omega, by have := (hr k hk).1; omega⟩), fun p hp => ?_⟩
  obtain ⟨h1, h2, h3⟩ := h.box p hp
  have hb : y.heap[p.1]? = x.heap[p.1]? := hg.block p.1 h2.1 (fun e => (hr p.1 e.symm).2 p hp rfl)
  exact ⟨h1, ⟨Nat.lt_of_lt_of_le h2.1 hg.size, fun j v hj => (World.cell?_of_block (a := ⟨p.1, j, none⟩) hb).trans (h2.2 j v hj)⟩, fun j => (World.frozen?_of_block (a := ⟨p.1, j, none⟩) hb).trans (h3 j)⟩
/-- Nothing that was there in w0 has changed; the cursor, a newer block, stands; each box of bx is newer, another block, holds its cells and may be written. -/
structure DrT (w0 : World) (g : Nat) (bx : List (Nat × Array Value)) (x : World) : Prop where
  low : w0.heap.size ≤ g
  below : Below w0.heap.size w0 x
  cur : Cur w0.heap.size x g
  box : ∀ p ∈ bx, w0.heap.size ≤ p.1 ∧ p.1 ≠ g ∧ Holds x p.1 p.2 ∧ Loose x p.1
theorem DrT.start {w0 x0 x1 : World} {bx : List (Nat × Array Value)} {ls : List Nat} (hm : Mem w0 bx ls x0) (hl : ∀ p ∈ bx, w0.heap.size ≤ p.1 ∧ p.1 ∈ ls) (hg : x0.grownBy x1 none) (hc : Cur w0.heap.size x1 x0.heap.size) : DrT w0 x0.heap.size bx x1 := by
  have hb := below_of hg
  refine ⟨hm.1.size, hm.1.trans (hb.mono hm.1.size), hc, fun p hp => ?_⟩
  have hH := hm.2.1 p hp
  have hL := hm.2.2 p.1 (hl p hp).2
  exact ⟨(hl p hp).1, Nat.ne_of_lt hH.1, hH.below hb, hL.2.below hL.1 hb⟩
theorem DrT.by {w0 : World} {g : Nat} {bx : List (Nat × Array Value)} {x y : World} (h : DrT w0 g bx x) (hg : x.grownBy y (some g)) (hc : Cur w0.heap.size y g) : DrT w0 g bx y := by
  refine ⟨h.low, h.below.grown hg h.below.size (fun k e => by cases e; exact h.low), hc, fun p hp => ?_⟩
  obtain ⟨h1, h0, h2, h3⟩ := h.box p hp
  have hb : y.heap[p.1]? = x.heap[p.1]? := hg.block p.1 h2.1 (by
    intro e
    injection e with e
    exact h0 e)
  exact ⟨h1, h0, ⟨Nat.lt_of_lt_of_le h2.1 hg.size, fun j v hj => (World.cell?_of_block (a := ⟨p.1, j, none⟩) hb).trans (h2.2 j v hj)⟩, fun j => (World.frozen?_of_block (a := ⟨p.1, j, none⟩) hb).trans (h3 j)⟩
theorem DrT.drew {w0 : World} {g : Nat} {bx : List (Nat × Array Value)} {x : World} (h : DrT w0 g bx x) : DrT w0 g bx x.drew := ⟨h.low, h.below.drew, h.cur, h.box⟩
theorem DrT.sub {w0 : World} {g : Nat} {bx bx' : List (Nat × Array Value)} {x : World} (h : DrT w0 g bx x) (hs : ∀ p ∈ bx', p ∈ bx) : DrT w0 g bx' x := ⟨h.low, h.below, h.cur, fun p hp => h.box p (hs p hp)⟩
theorem DrT.new {w0 : World} {g : Nat} {bx : List (Nat × Array Value)} {x : World} (h : DrT w0 g bx x) (C : Array Value) (t : TypeId) : DrT w0 g ((x.heap.size, C) :: bx) (x.alloc (.cells C t)) := by
  have hb : Below x.heap.size x (x.alloc (.cells C t)) := (Below.refl _ _).alloc (Nat.le_refl _) _
  have h' := h.by (grown_of_below hb _) (h.cur.kept (grown_of_below hb none) (by simp))
  refine ⟨h'.low, h'.below, h'.cur, fun p hp => ?_⟩
  rcases List.mem_cons.1 hp with rfl | hp
  · have := h.cur.2.1
    exact ⟨h.below.size, by simp only; omega, holds_new x C t, loose_new x C t⟩
  · exact h'.box p hp
theorem DrT.put {w0 : World} {g R : Nat} {C : Array Value} {bx : List (Nat × Array Value)} {x : World} (h : DrT w0 g ((R, C) :: bx) x) (hn : ∀ p ∈ bx, p.1 ≠ R) (j : Nat) (v : Value) : DrT w0 g ((R, C.setIfInBounds j v) :: bx) (x.setCell ⟨R, j, none⟩ v) := by
  obtain ⟨hR, h0, hH, hL⟩ := h.box (R, C) (by simp)
  refine ⟨h.low, h.below.setCell hR v, h.cur.kept (grownBy_set x R j v) (by intro k e; cases e; exact ⟨Ne.symm h0, hR⟩), fun p hp => ?_⟩
  rcases List.mem_cons.1 hp with rfl | hp
  · exact ⟨hR, h0, hH.putM j v, fun i => by rw [World.frozen?_setCell]; exact hL i⟩
  · obtain ⟨h1, h4, h2, h3⟩ := h.box p (List.mem_cons_of_mem _ hp)
    exact ⟨h1, h4, h2.otherM (hn p hp), fun i => by rw [World.frozen?_setCell]; exact h3 i⟩
theorem DrT.put3 {w0 : World} {g R : Nat} {a b c : Value} {bx : List (Nat × Array Value)} {x : World} (h : DrT w0 g ((R, #[a, b, c]) :: bx) x) (hn : ∀ p ∈ bx, p.1 ≠ R) (a' b' c' : Value) :
    DrT w0 g ((R, #[a', b', c']) :: bx) (((x.setCell ⟨R, 0, none⟩ a').setCell ⟨R, 1, none⟩ b').setCell ⟨R, 2, none⟩ c') := by
  have := ((h.put hn 0 a').put hn 1 b').put hn 2 c'
  simpa using this
theorem DrT.get {w0 : World} {g : Nat} {bx : List (Nat × Array Value)} {x : World} (h : DrT w0 g bx x) {R : Nat} {C : Array Value} (hp : (R, C) ∈ bx) : Holds x R C ∧ Loose x R := (h.box (R, C) hp).2.2
theorem DrT.put9 {w0 : World} {g R : Nat} {c0 c1 c2 c3 c4 c5 c6 c7 c8 : Value} {bx : List (Nat × Array Value)} {x : World} (h : DrT w0 g ((R, #[c0, c1, c2, c3, c4, c5, c6, c7, c8]) :: bx) x) (hn : ∀ p ∈ bx, p.1 ≠ R) (a0 a1 a2 a3 a4 a5 a6 a7 a8 : Value) :
    DrT w0 g ((R, #[a0, a1, a2, a3, a4, a5, a6, a7, a8]) :: bx) (((((((((x.setCell ⟨R, 0, none⟩ a0).setCell ⟨R, 1, none⟩ a1).setCell ⟨R, 2, none⟩ a2).setCell ⟨R, 3, none⟩ a3).setCell ⟨R, 4, none⟩ a4).setCell ⟨R, 5, none⟩ a5).setCell ⟨R, 6, none⟩ a6).setCell ⟨R, 7, none⟩ a7).setCell ⟨R, 8, none⟩ a8) := by
  have := (((((((((h.put hn 0 a0).put hn 1 a1).put hn 2 a2).put hn 3 a3).put hn 4 a4).put hn 5 a5).put hn 6 a6).put hn 7 a7).put hn 8 a8)
  simpa using this
theorem DrT.put10 {w0 : World} {g R : Nat} {c0 c1 c2 c3 c4 c5 c6 c7 c8 c9 : Value} {bx : List (Nat × Array Value)} {x : World} (h : DrT w0 g ((R, #[c0, c1, c2, c3, c4, c5, c6, c7, c8, c9]) :: bx) x) (hn : ∀ p ∈ bx, p.1 ≠ R) (a0 a1 a2 a3 a4 a5 a6 a7 a8 a9 : Value) :
    DrT w0 g ((R, #[a0, a1, a2, a3, a4, a5, a6, a7, a8, a9]) :: bx) ((((((((((x.setCell ⟨R, 0, none⟩ a0).setCell ⟨R, 1, none⟩ a1).setCell ⟨R, 2, none⟩ a2).setCell ⟨R, 3, none⟩ a3).setCell ⟨R, 4, none⟩ a4).setCell ⟨R, 5, none⟩ a5).setCell ⟨R, 6, none⟩ a6).setCell ⟨R, 7, none⟩ a7).setCell ⟨R, 8, none⟩ a8).setCell ⟨R, 9, none⟩ a9) := by
  have := ((((((((((h.put hn 0 a0).put hn 1 a1).put hn 2 a2).put hn 3 a3).put hn 4 a4).put hn 5 a5).put hn 6 a6).put hn 7 a7).put hn 8 a8).put hn 9 a9)
  simpa using this
theorem DrT.byRow {w0 : World} {g : Nat} {bx : List (Nat × Array Value)} {x y : World} {row : Option Nat} (h : DrT w0 g bx x) (hg : x.grownBy y row) (hr : ∀ k, row = some k → w0.heap.size ≤ k ∧ k ≠ g ∧ ∀ p ∈ bx, p.1 ≠ k) : DrT w0 g bx y := by
  refine ⟨h.low, h.below.grown hg h.below.size (fun k e => (hr k e).1), h.cur.kept hg (fun k e => ⟨fun e' => (hr k e).2.1 e'.symm, (hr k e).1⟩), fun p hp => ?_⟩
  obtain ⟨h1, h0, h2, h3⟩ := h.box p hp
  have hb : y.heap[p.1]? = x.heap[p.1]? := hg.block p.1 h2.1 (fun e => (hr p.1 e.symm).2.2 p hp rfl)
  exact ⟨h1, h0, ⟨Nat.lt_of_lt_of_le h2.1 hg.size, fun j v hj => (World.cell?_of_block (a := ⟨p.1, j, none⟩) hb).trans (h2.2 j v hj)⟩, fun j => (World.frozen?_of_block (a := ⟨p.1, j, none⟩) hb).trans (h3 j)⟩
theorem own_by {b g : Nat} {x y : World} {t : TypeId} {kk n : Nat} {v : Value} {C : List Value} (h : x.ownsRow b t kk v n C) (hg : x.grownBy y (some g)) (hb : g < b) : y.ownsRow b t kk v n C := by
  obtain ⟨hl, h0 | ⟨k, cap, cur, rfl, hk, hh, hr⟩⟩ := h
  · exact ⟨hl, .inl h0⟩
  · refine ⟨hl, .inr ⟨k, cap, cur, rfl, hk, (hg.block k (Array.getElem?_eq_some_iff.1 hh).1 ?_).trans hh, hr⟩⟩
    intro e
    injection e with e
    omega
end Go.Proofs.Ytkpbfocnokbmiaa
