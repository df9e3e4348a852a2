/- Proved, in parts: Proved: plain facts on works that are drawn: how small they are, and that filling one up ends; no program is named here; no condition. Proved: facts on a memory in which a draw's cursor and boxes of one's own stand; no program's function is named here; no condition. -/
import Derived.Test.YtdcdalbbjfjadaaGreatDoorPart13
import Derived.Test.YtdcdalbbjfjadaaGreatDoorPart40
import Derived.Test.YtdcdalbbjfjadaaGreatDoorPart01
import Derived.Test.YtdcdalbbjfjadaaGreatDoorPart18
namespace Go.Proofs.YtdcdalbbjfjadaaGreatDoor
namespace M

def smallWk (n : Nat) (w : Wk) : Prop := w.name.size ≤ 64 ∧ w.copies.length ≤ n ∧ ∀ c ∈ w.copies, c.page.size ≤ 64
theorem small_zero (n : Nat) : smallWk n zeroWk := ⟨by simp [zeroWk, nilB]; decide, by simp [zeroWk], by simp [zeroWk]⟩
theorem smallWk.mono {n m : Nat} {w : Wk} (h : smallWk n w) (hm : n ≤ m) : smallWk m w := ⟨h.1, Nat.le_trans h.2.1 hm, h.2.2⟩
theorem putAt_mem {l : List Cp} {k : Nat} {c x : Cp} (h : x ∈ putAt l k c) : x = c ∨ x ∈ l := by
  unfold putAt at h
  rcases List.mem_append.1 h with h | h
  · exact .inr (List.mem_of_mem_take h)
  · rcases List.mem_cons.1 h with h | h
    · exact .inl h
    · exact .inr (List.mem_of_mem_drop h)
theorem small_printed {n : Nat} {w : Wk} {e : Ed} {p : ByteArray} (hs : smallWk n w) (hn : 9 ≤ n) (hp : p.size ≤ 64) : smallWk n (printed w e p).1 := by
  rcases hk : wkOk w with _ | _
  · rw [printed_bad e p hk]; exact small_zero n
  · have h8 := (wkOk_rises hk).2.1
    unfold printed
    rw [if_pos hk]
    split
    · exact hs
    · refine ⟨hs.1, ?_, fun c hc => ?_⟩
      · show (putAt w.copies _ _).length ≤ n
        rw [putAt_len _ _ _ (place_le _ _)]; omega
      · rcases putAt_mem hc with rfl | hc
        · exact hp
        · exact hs.2.2 c hc
theorem veilAt_mem {l : List Cp} {k : Nat} {h : Bool} {x : Cp} (hx : x ∈ veilAt l k h) : ∃ c ∈ l, x.page = c.page := by
  unfold veilAt at hx
  obtain ⟨i, hi, rfl⟩ := List.mem_iff_getElem.1 hx
  have hi' : i < l.length := by simpa using hi
  refine ⟨l[i], List.getElem_mem hi', ?_⟩
  rw [List.getElem_modify]
  split <;> rfl
theorem small_veiled {n : Nat} {w : Wk} {e : Ed} {h : Bool} (hs : smallWk n w) : smallWk n (veiled w e h).1 := by
  rcases hk : wkOk w with _ | _
  · rw [veiled_bad e h hk]; exact small_zero n
  · unfold veiled
    rw [if_pos hk]
    split
    · refine ⟨hs.1, ?_, fun c hc => ?_⟩
      · show (veilAt w.copies _ _).length ≤ n
        rw [veilAt_len]; exact hs.2.1
      · obtain ⟨d, hd, e⟩ := veilAt_mem hc
        rw [e]; exact hs.2.2 d hd
    · exact hs

/-- How many copies stand where the filling up may still meet them. -/
def five (i : Nat) (c : Cp) : Bool := decide (c.ed.ma = 5 ∧ c.ed.pa = 0 ∧ (i : Int) ≤ c.ed.mi)
def fives (l : List Cp) (i : Nat) : Nat := l.countP (five i)
theorem fives_le (l : List Cp) (i : Nat) : fives l i ≤ l.length := List.countP_le_length
theorem five_mono {i : Nat} {c : Cp} (h : five (i + 1) c = true) : five i c = true := by
  simp only [five, decide_eq_true_eq] at h ⊢
  refine ⟨h.1, h.2.1, ?_⟩
  have := h.2.2
  omega
theorem fives_mono (l : List Cp) (i : Nat) : fives l (i + 1) ≤ fives l i := List.countP_mono_left fun _ _ h => five_mono h
theorem fives_lt : ∀ (l : List Cp) (i : Nat) (c : Cp), c ∈ l → c.ed = ⟨5, i, 0⟩ → fives l (i + 1) < fives l i
  | [], i, c, h, _ => by simp at h
  | d :: l, i, c, h, hc => by
    unfold fives
    rw [List.countP_cons, List.countP_cons]
    rcases List.mem_cons.1 h with rfl | h
    · have h1 : five i c = true := by simp [five, hc]
      have h2 : five (i + 1) c = false := by simp [five, hc]; omega
      have := fives_mono l i
      unfold fives at this
      rw [if_pos h1, if_neg (by rw [h2]; simp)]; omega
    · have ih := fives_lt l i c h hc
      unfold fives at ih
      rcases h2 : five (i + 1) d with _ | _
      · simp; split <;> omega
      · rw [if_pos rfl, if_pos (five_mono h2)]; omega
theorem fives_putAt (l : List Cp) (k i : Nat) (c : Cp) (hc : five i c = false) : fives (putAt l k c) i = fives l i := by
  unfold fives putAt
  rw [List.countP_append, List.countP_cons, if_neg (by rw [hc]; simp)]
  have := congrArg (List.countP (five i)) (List.take_append_drop k l)
  rw [List.countP_append] at this
  omega
/-- The page of the copies that fill up. -/
abbrev x1B : ByteArray := ⟨#[120, 49]⟩
theorem x1_ok (i : Nat) (hi : i ≤ 99) : cpOk ⟨⟨5, i, 0⟩, x1B, false⟩ = true := by
  have h1 : edOk ⟨5, (i : Int), 0⟩ = true := (edOk_iff _).2 (by simp only; omega)
  have h2 : pageOk x1B.data.toList = true := by decide
  simp [cpOk, h1, h2]
theorem fill_step {w : Wk} {i : Nat} (hk : wkOk w = true) (hl : w.copies.length < 8) (hi : i ≤ 99) :
    (8 - (printed w ⟨5, i, 0⟩ x1B).1.copies.length) + fives (printed w ⟨5, i, 0⟩ x1B).1.copies (i + 1) < (8 - w.copies.length) + fives w.copies i ∧ (printed w ⟨5, i, 0⟩ x1B).1.copies.length ≤ 8 := by
  by_cases hf : findEd w.copies ⟨5, i, 0⟩ < w.copies.length
  · rw [printed_there _ hk hf]
    have h1 : isEd ⟨5, i, 0⟩ (w.copies[findEd w.copies ⟨5, i, 0⟩]'hf) = true := List.findIdx_getElem (w := hf)
    have h2 : (w.copies[findEd w.copies ⟨5, i, 0⟩]'hf).ed = ⟨5, i, 0⟩ := by simpa [isEd] using h1
    have := fives_lt w.copies i _ (List.getElem_mem hf) h2
    exact ⟨by simp only; omega, by simp only; omega⟩
  · have hx := x1_ok i hi
    have he : printed w ⟨5, i, 0⟩ x1B = ({ w with copies := putAt w.copies (place w.copies ⟨5, i, 0⟩) ⟨⟨5, i, 0⟩, x1B, false⟩ }, true) := by
      unfold printed
      rw [if_pos hk, if_neg]
      rintro (h | h | h)
      · exact hf h
      · rw [hx] at h; cases h
      · omega
    rw [he]
    have h5 : five (i + 1) ⟨⟨5, (i : Int), 0⟩, x1B, false⟩ = false := by simp [five]; omega
    have h6 := fives_putAt w.copies (place w.copies ⟨5, i, 0⟩) (i + 1) ⟨⟨5, i, 0⟩, x1B, false⟩ h5
    have h7 := putAt_len w.copies (place w.copies ⟨5, i, 0⟩) ⟨⟨5, i, 0⟩, x1B, false⟩ (place_le _ _)
    have h8 := fives_mono w.copies i
    constructor
    · show (8 - (putAt _ _ _).length) + fives (putAt _ _ _) (i + 1) < _
      rw [h6, h7]; omega
    · show (putAt _ _ _).length ≤ 8
      rw [h7]; omega
end M
end Go.Proofs.YtdcdalbbjfjadaaGreatDoor
namespace Go.Proofs.YtdcdalbbjfjadaaGreatDoor
open Go.RowKit
set_option maxRecDepth 20000

theorem grown_of_below {x y : World} (h : Below x.heap.size x y) (row : Option Nat) : x.grownBy y row := ⟨h.os, h.tape, h.output, h.size, fun k hk _ => h.block k hk⟩
theorem own_byC {b g : Nat} {x y : World} {v : Value} {l : List M.Cp} (h : CpOwn b x v l) (hg : x.grownBy y (some g)) (hb : g < b) : CpOwn b y v l := by
  obtain ⟨hl, h0 | ⟨k, cap, cur, rfl, hk, hh, hr⟩⟩ := h
  · exact ⟨hl, .inl h0⟩
  · refine ⟨hl, .inr ⟨k, cap, cur, rfl, hk, (hg.block k (Array.getElem?_eq_some_iff.1 hh).1 ?_).trans hh, hr⟩⟩
    intro e
    injection e with e
    omega

/-- Of all that was there in w0 the cursor's block alone may have changed; the cursor stands; each box of bx is newer, holds its cells and may be written. -/
structure DrM (w0 : World) (B g : Nat) (bx : List (Nat × Array Value)) (x : World) : Prop where
  low : g < w0.heap.size
  grown : w0.grownBy x (some g)
  cur : Cur B x g
  box : ∀ p ∈ bx, w0.heap.size ≤ p.1 ∧ Holds x p.1 p.2 ∧ Loose x p.1
theorem DrM.start {w : World} {B g : Nat} (h : Cur B w g) : DrM w B g [] w := ⟨h.2.1, World.grownBy.refl _ _, h, by simp⟩
theorem DrM.by {w0 : World} {B g : Nat} {bx : List (Nat × Array Value)} {x y : World} (h : DrM w0 B g bx x) (hg : x.grownBy y (some g)) (hc : Cur B y g) : DrM w0 B g bx y := by
  refine ⟨h.low, grownBy_trans h.grown hg, hc, fun p hp => ?_⟩
  obtain ⟨h1, h2, h3⟩ := h.box p hp
  have hb : y.heap[p.1]? = x.heap[p.1]? := hg.block p.1 h2.1 (by
    intro e
    injection e with e
    have := h.low
    omega)
  exact ⟨h1, ⟨Nat.lt_of_lt_of_le h2.1 hg.size, fun j v hj => (World.cell?_of_block (a := ⟨p.1, j, none⟩) hb).trans (h2.2 j v hj)⟩, fun j => (World.frozen?_of_block (a := ⟨p.1, j, none⟩) hb).trans (h3 j)⟩
theorem DrM.below {w0 : World} {B g : Nat} {bx : List (Nat × Array Value)} {x y : World} (h : DrM w0 B g bx x) (hb : Below x.heap.size x y) : DrM w0 B g bx y :=
  h.by (grown_of_below hb _) (h.cur.kept (grown_of_below hb none) (by simp))
theorem DrM.drew {w0 : World} {B g : Nat} {bx : List (Nat × Array Value)} {x : World} (h : DrM w0 B g bx x) : DrM w0 B g bx x.drew := ⟨h.low, ⟨h.grown.os, h.grown.tape, h.grown.output, h.grown.size, h.grown.block⟩, h.cur, h.box⟩
theorem DrM.alloc {w0 : World} {B g : Nat} {bx : List (Nat × Array Value)} {x : World} (h : DrM w0 B g bx x) (o : Obj) : DrM w0 B g bx (x.alloc o) := h.below ((Below.refl _ _).alloc (Nat.le_refl _) o)
theorem DrM.sub {w0 : World} {B g : Nat} {bx bx' : List (Nat × Array Value)} {x : World} (h : DrM w0 B g bx x) (hs : ∀ p ∈ bx', p ∈ bx) : DrM w0 B g bx' x := ⟨h.low, h.grown, h.cur, fun p hp => h.box p (hs p hp)⟩
theorem DrM.new {w0 : World} {B g : Nat} {bx : List (Nat × Array Value)} {x : World} (h : DrM w0 B g bx x) (C : Array Value) (t : TypeId) : DrM w0 B g ((x.heap.size, C) :: bx) (x.alloc (.cells C t)) := by
  have h' := h.alloc (.cells C t)
  refine ⟨h'.low, h'.grown, h'.cur, fun p hp => ?_⟩
  rcases List.mem_cons.1 hp with rfl | hp
  · exact ⟨h.grown.size, holds_new x C t, loose_new x C t⟩
  · exact h'.box p hp
theorem DrM.put {w0 : World} {B g R : Nat} {C : Array Value} {bx : List (Nat × Array Value)} {x : World} (h : DrM w0 B g ((R, C) :: bx) x) (hn : ∀ p ∈ bx, p.1 ≠ R) (j : Nat) (v : Value) : DrM w0 B g ((R, C.setIfInBounds j v) :: bx) (x.setCell ⟨R, j, none⟩ v) := by
  obtain ⟨hR, hH, hL⟩ := h.box (R, C) (by simp)
  have hlow := h.low
  have hB := h.cur.1
  refine ⟨hlow, ⟨h.grown.os, h.grown.tape, h.grown.output, by simpa using h.grown.size, fun k hk hne => (Below.heap_setCell _ _ _ _ (by show k ≠ R; simp only at hR; omega)).trans (h.grown.block k hk hne)⟩, h.cur.kept (grownBy_set x R j v) (by intro k e; cases e; simp only at hR; omega), fun p hp => ?_⟩
  rcases List.mem_cons.1 hp with rfl | hp
  · exact ⟨hR, hH.putM j v, fun i => by rw [World.frozen?_setCell]; exact hL i⟩
  · obtain ⟨h1, h2, h3⟩ := h.box p (List.mem_cons_of_mem _ hp)
    exact ⟨h1, h2.otherM (hn p hp), fun i => by rw [World.frozen?_setCell]; exact h3 i⟩
theorem DrM.get {w0 : World} {B g : Nat} {bx : List (Nat × Array Value)} {x : World} (h : DrM w0 B g bx x) {R : Nat} {C : Array Value} (hp : (R, C) ∈ bx) : Holds x R C ∧ Loose x R := (h.box (R, C) hp).2
theorem DrM.ne {w0 : World} {B g : Nat} {bx : List (Nat × Array Value)} {x : World} (h : DrM w0 B g bx x) {R : Nat} {C : Array Value} (hp : (R, C) ∈ bx) : R ≠ g ∧ w0.heap.size ≤ R ∧ R < x.heap.size := by
  obtain ⟨h1, h2, _⟩ := h.box (R, C) hp
  have := h.low
  exact ⟨by simp only at h1; omega, h1, h2.1⟩
/-- Three writes into the box that is told first. -/
theorem DrM.put3 {w0 : World} {B g R : Nat} {a b c : Value} {bx : List (Nat × Array Value)} {x : World} (h : DrM w0 B g ((R, #[a, b, c]) :: bx) x) (hn : ∀ p ∈ bx, p.1 ≠ R) (a' b' c' : Value) :
    DrM w0 B g ((R, #[a', b', c']) :: bx) (((x.setCell ⟨R, 0, none⟩ a').setCell ⟨R, 1, none⟩ b').setCell ⟨R, 2, none⟩ c') := by
  have := ((h.put hn 0 a').put hn 1 b').put hn 2 c'
  simpa using this

theorem Mem.sub {w0 : World} {hs hs' : List (Nat × Array Value)} {ls : List Nat} {x : World} (h : Mem w0 hs ls x) (hsub : ∀ p ∈ hs', p ∈ hs) : Mem w0 hs' [] x := ⟨h.1, fun p hp => h.2.1 p (hsub p hp), by simp⟩

/-- Some small work, in new memory; the cursor stands, and its block alone is written. -/
def WkOut (n B g : Nat) (w : World) (r : Ending) (w' : World) : Prop :=
  ∃ (wk : M.Wk) (A : Option Addr) (c : Nat), r = .returned (wkV wk.name wk.owner A wk.copies.length c) ∧ M.smallWk n wk ∧ CpOwn w.heap.size w' (.slice A wk.copies.length c) wk.copies ∧ Cur B w' g ∧ w.grownBy w' (some g)
end Go.Proofs.YtdcdalbbjfjadaaGreatDoor
