/- Proved, in parts: Proved: small facts that every walk uses, and that the model's l1In asks whether a number lies between two others; no condition. Proved: facts on blocks that hold given cells: they stay behind calls and new blocks; no program's function is named here; no condition. Proved: facts on a memory that is told by a list of blocks and what they hold: they stay behind calls, new blocks and writes into one of them; no program's function is named here; no condition. Proved: facts on slices whose elements are records of a fixed number of cells: what they hold stays behind calls and new blocks; no program's function is named here; no condition. Proved: plain facts on lists of bytes, names and pages; no program is named here; no condition. Proved: plain facts on numbers written in decimal digits, and read from them; no program is named here; no condition. Proved: plain facts on a text cut at a byte; no program is named here; no condition. Proved: plain facts on editions; no program is named here; no condition. Proved: a number that is read is written so, and what is written is read; likewise an edition; no program is named here; no condition. Proved: a text that is cut is its parts joined; an edition that is read is shown so, and what is shown is read; no program is named here; no condition. -/
import Derived.Test.YtdoeiphnalbinaaGreatChecked
import Derived.WalkKit
import Derived.WalkSpells
import Derived.WalkLawsBesides
import Derived.Lib.Hide
import Derived.Laws.IdiomStrings
import Derived.Laws.OwnMore
import Derived.Laws.AppendOwn
import Derived.Deep.AppendLies
namespace Go.Proofs.YtdoeiphnalbinaaGreat
open Go.RowKit

theorem ret_bool {a b : Bool} (h : a = b) : Ending.returned (.bool a) = .returned (.bool b) := by rw [h]

theorem ret_int {k : IntKind} {a b : Int} (h : a = b) : Ending.returned (.int k a) = .returned (.int k b) := by rw [h]

theorem bcell {W w1 : World} (hb : Below W.heap.size W w1) : (∀ b o, b < W.heap.size → w1.cell? ⟨b, o, none⟩ = W.cell? ⟨b, o, none⟩) ∧ (∀ b o, b < W.heap.size → w1.frozen? ⟨b, o, none⟩ = W.frozen? ⟨b, o, none⟩) :=
  ⟨fun b o h => hb.cell (p := ⟨b, o, none⟩) h, fun b o h => hb.frozen (p := ⟨b, o, none⟩) h⟩

theorem ba_ext {a b : ByteArray} (h : a.data.toList = b.data.toList) : a = b := by
  cases a; cases b; rw [Array.toList_inj] at h; exact congrArg _ h
/-- A block that was made stays as it was made. -/
theorem box_cells {w w2 : World} {C : Array Value} {t : TypeId} (h : Below (w.alloc (.cells C t)).heap.size (w.alloc (.cells C t)) w2) (j : Nat) : w2.cell? ⟨w.heap.size, j, none⟩ = C[j]? := by
  rw [h.cell (p := ⟨w.heap.size, j, none⟩) (by simp), World.cell?_alloc_mark]

theorem next {w w1 w2 : World} (h : Below w.heap.size w w1) (k : Below w1.heap.size w1 w2) : Below w.heap.size w w2 := h.trans (k.mono h.size)

/-- A call that writes nothing old keeps every cell, and what was so since an elder world. -/
theorem keeps {P : Program} {f : FuncId} {args : Array Value} {w W0 : World} {R : Ending → World → Prop} (h : Calls P f args w fun r w' => R r w' ∧ Below w.heap.size w w') (h0 : Below W0.heap.size W0 w) :
    Calls P f args w fun r w' => R r w' ∧ Below W0.heap.size W0 w' ∧ ∀ b o v, w.cell? ⟨b, o, none⟩ = some v → w'.cell? ⟨b, o, none⟩ = some v :=
  h.mono fun _ _ ⟨hr, hb⟩ => ⟨hr, next h0 hb, fun b o v hc => by rw [hb.cell (p := ⟨b, o, none⟩) (World.block_lt_of_cell? w _ hc)]; exact hc⟩

theorem in_any (x lo hi : Int) (w : World) : Calls Tryz.prog 12 #[.int .i64 x, .int .i64 lo, .int .i64 hi] w fun e w' => e = .returned (.bool (decide (lo ≤ x) && decide (x ≤ hi))) ∧ w = w' := by
  by_cases h1 : lo ≤ x
  · by_cases h2 : x ≤ hi
    · go_enter Tryz.func12, Tryz.ntmps12
      go_wp2
      go_ret
      exact ⟨by simp [h1, h2], rfl⟩
    · go_enter Tryz.func12, Tryz.ntmps12
      go_wp2
      go_ret
      exact ⟨by simp [h2], rfl⟩
  · go_enter Tryz.func12, Tryz.ntmps12
    go_wp2
    go_ret
    exact ⟨by simp; omega, rfl⟩

end Go.Proofs.YtdoeiphnalbinaaGreat
namespace Go.Proofs.YtdoeiphnalbinaaGreat
open Go.RowKit

/-- Block g holds the cells C. -/
def Holds (w : World) (g : Nat) (C : Array Value) : Prop := g < w.heap.size ∧ ∀ j v, C[j]? = some v → w.cell? ⟨g, j, none⟩ = some v
theorem holds_new (w : World) (C : Array Value) (t : TypeId) : Holds (w.alloc (.cells C t)) w.heap.size C :=
  ⟨by simp, fun j v h => by rw [World.cell?_alloc_mark]; exact h⟩
theorem Holds.below {w w' : World} {g : Nat} {C : Array Value} (h : Holds w g C) (hb : Below w.heap.size w w') : Holds w' g C :=
  ⟨Nat.lt_of_lt_of_le h.1 hb.size, fun j v hj => (hb.cell (p := ⟨g, j, none⟩) h.1).trans (h.2 j v hj)⟩
theorem Holds.alloc {w : World} {g : Nat} {C : Array Value} (h : Holds w g C) (o : Obj) : Holds (w.alloc o) g C := h.below ((Below.refl _ _).alloc (Nat.le_refl _) o)
theorem Holds.one {w : World} {g : Nat} {a0 : Value} (h : Holds w g #[a0]) : w.cell? ⟨g, 0, none⟩ = some a0 := h.2 0 _ rfl
theorem Holds.two {w : World} {g : Nat} {a0 a1 : Value} (h : Holds w g #[a0, a1]) : w.cell? ⟨g, 0, none⟩ = some a0 ∧ w.cell? ⟨g, 1, none⟩ = some a1 := ⟨h.2 0 _ rfl, h.2 1 _ rfl⟩
theorem Holds.three {w : World} {g : Nat} {a0 a1 a2 : Value} (h : Holds w g #[a0, a1, a2]) : w.cell? ⟨g, 0, none⟩ = some a0 ∧ w.cell? ⟨g, 1, none⟩ = some a1 ∧ w.cell? ⟨g, 2, none⟩ = some a2 := ⟨h.2 0 _ rfl, h.2 1 _ rfl, h.2 2 _ rfl⟩
theorem Holds.four {w : World} {g : Nat} {a0 a1 a2 a3 : Value} (h : Holds w g #[a0, a1, a2, a3]) : w.cell? ⟨g, 0, none⟩ = some a0 ∧ w.cell? ⟨g, 1, none⟩ = some a1 ∧ w.cell? ⟨g, 2, none⟩ = some a2 ∧ w.cell? ⟨g, 3, none⟩ = some a3 :=
  ⟨h.2 0 _ rfl, h.2 1 _ rfl, h.2 2 _ rfl, h.2 3 _ rfl⟩
theorem Holds.six {w : World} {g : Nat} {a0 a1 a2 a3 a4 a5 : Value} (h : Holds w g #[a0, a1, a2, a3, a4, a5]) : w.cell? ⟨g, 0, none⟩ = some a0 ∧ w.cell? ⟨g, 1, none⟩ = some a1 ∧ w.cell? ⟨g, 2, none⟩ = some a2 ∧ w.cell? ⟨g, 3, none⟩ = some a3 ∧ w.cell? ⟨g, 4, none⟩ = some a4 ∧ w.cell? ⟨g, 5, none⟩ = some a5 :=
  ⟨h.2 0 _ rfl, h.2 1 _ rfl, h.2 2 _ rfl, h.2 3 _ rfl, h.2 4 _ rfl, h.2 5 _ rfl⟩
theorem Holds.seven {w : World} {g : Nat} {a0 a1 a2 a3 a4 a5 a6 : Value} (h : Holds w g #[a0, a1, a2, a3, a4, a5, a6]) : w.cell? ⟨g, 0, none⟩ = some a0 ∧ w.cell? ⟨g, 1, none⟩ = some a1 ∧ w.cell? ⟨g, 2, none⟩ = some a2 ∧ w.cell? ⟨g, 3, none⟩ = some a3 ∧ w.cell? ⟨g, 4, none⟩ = some a4 ∧ w.cell? ⟨g, 5, none⟩ = some a5 ∧ w.cell? ⟨g, 6, none⟩ = some a6 :=
  ⟨h.2 0 _ rfl, h.2 1 _ rfl, h.2 2 _ rfl, h.2 3 _ rfl, h.2 4 _ rfl, h.2 5 _ rfl, h.2 6 _ rfl⟩

/-- Block g may be written. -/
def Loose (w : World) (g : Nat) : Prop := ∀ j, w.frozen? ⟨g, j, none⟩ = false
theorem loose_new (w : World) (C : Array Value) (t : TypeId) : Loose (w.alloc (.cells C t)) w.heap.size := fun j => by
  rw [World.frozen?_alloc_mark]; simp
theorem Loose.below {w w' : World} {g : Nat} (h : Loose w g) (hg : g < w.heap.size) (hb : Below w.heap.size w w') : Loose w' g := fun j => (hb.frozen (p := ⟨g, j, none⟩) hg).trans (h j)
theorem Loose.alloc {w : World} {g : Nat} (h : Loose w g) (hg : g < w.heap.size) (o : Obj) : Loose (w.alloc o) g := h.below hg ((Below.refl _ _).alloc (Nat.le_refl _) o)
theorem Loose.seven {w : World} {g : Nat} (h : Loose w g) : w.frozen? ⟨g, 0, none⟩ = false ∧ w.frozen? ⟨g, 1, none⟩ = false ∧ w.frozen? ⟨g, 2, none⟩ = false ∧ w.frozen? ⟨g, 3, none⟩ = false ∧ w.frozen? ⟨g, 4, none⟩ = false ∧ w.frozen? ⟨g, 5, none⟩ = false ∧ w.frozen? ⟨g, 6, none⟩ = false :=
  ⟨h 0, h 1, h 2, h 3, h 4, h 5, h 6⟩
end Go.Proofs.YtdoeiphnalbinaaGreat
namespace Go.Proofs.YtdoeiphnalbinaaGreat
open Go.RowKit

theorem farM {w w1 : World} {B g : Nat} (h : Below B w w1) (hg : B ≤ g) (j : Nat) (v : Value) : Below B w (w1.setCell ⟨g, j, none⟩ v) := h.setCell hg v
theorem other_cell {w : World} {g k j i : Nat} {v : Value} (h : k ≠ g) : (w.setCell ⟨g, j, none⟩ v).cell? ⟨k, i, none⟩ = w.cell? ⟨k, i, none⟩ :=
  World.cell?_of_block (a := ⟨k, i, none⟩) (Below.heap_setCell _ _ _ _ h)
theorem Holds.putM {w : World} {g : Nat} {C : Array Value} (h : Holds w g C) (j : Nat) (v : Value) : Holds (w.setCell ⟨g, j, none⟩ v) g (C.setIfInBounds j v) := by
  refine ⟨by simpa using h.1, fun i u hi => ?_⟩
  by_cases e : j = i
  · subst e
    rw [Array.getElem?_setIfInBounds_self] at hi
    split at hi
    · rename_i hlt
      cases hi
      exact World.cell?_setCell_same w _ _ (h.2 j _ (Array.getElem?_eq_getElem hlt))
    · cases hi
  · rw [Array.getElem?_setIfInBounds_ne e] at hi
    rw [World.cell?_setCell_other w _ _ _ (fun h => e (by injection h))]; exact h.2 i u hi
theorem Holds.otherM {w : World} {g k j : Nat} {C : Array Value} {v : Value} (h : Holds w k C) (hk : k ≠ g) : Holds (w.setCell ⟨g, j, none⟩ v) k C :=
  ⟨by simpa using h.1, fun i u hi => (other_cell hk).trans (h.2 i u hi)⟩

/-- Nothing that was there in w0 has changed; each block of hs holds its cells; each block of ls may be written. -/
def Mem (w0 : World) (hs : List (Nat × Array Value)) (ls : List Nat) (x : World) : Prop :=
  Below w0.heap.size w0 x ∧ (∀ p ∈ hs, Holds x p.1 p.2) ∧ ∀ g ∈ ls, g < x.heap.size ∧ Loose x g

theorem Mem.start (w0 : World) : Mem w0 [] [] w0 := ⟨Below.refl _ _, by simp, by simp⟩
theorem Mem.below {w0 : World} {hs : List (Nat × Array Value)} {ls : List Nat} {x y : World} (h : Mem w0 hs ls x) (hb : Below x.heap.size x y) : Mem w0 hs ls y :=
  ⟨h.1.trans (hb.mono h.1.size), fun p hp => (h.2.1 p hp).below hb, fun g hg => ⟨Nat.lt_of_lt_of_le (h.2.2 g hg).1 hb.size, (h.2.2 g hg).2.below (h.2.2 g hg).1 hb⟩⟩
theorem Mem.alloc {w0 : World} {hs : List (Nat × Array Value)} {ls : List Nat} {x : World} (h : Mem w0 hs ls x) (o : Obj) : Mem w0 hs ls (x.alloc o) := h.below ((Below.refl _ _).alloc (Nat.le_refl _) o)
theorem Mem.add {w0 : World} {hs : List (Nat × Array Value)} {ls : List Nat} {x : World} {g : Nat} {C : Array Value} (h : Mem w0 hs ls x) (hg : Holds x g C) : Mem w0 ((g, C) :: hs) ls x :=
  ⟨h.1, fun p hp => by rcases List.mem_cons.1 hp with rfl | hp; exact hg; exact h.2.1 p hp, h.2.2⟩
/-- A new block: it holds its cells, and may be written. -/
theorem Mem.new {w0 : World} {hs : List (Nat × Array Value)} {ls : List Nat} {x : World} (h : Mem w0 hs ls x) (C : Array Value) (t : TypeId) : Mem w0 ((x.heap.size, C) :: hs) (x.heap.size :: ls) (x.alloc (.cells C t)) := by
  have h' := (h.alloc (.cells C t)).add (holds_new x C t)
  refine ⟨h'.1, h'.2.1, fun g hg => ?_⟩
  rcases List.mem_cons.1 hg with rfl | hg
  · exact ⟨by simp, loose_new x C t⟩
  · exact h'.2.2 g hg
theorem Mem.get {w0 : World} {hs : List (Nat × Array Value)} {ls : List Nat} {x : World} (h : Mem w0 hs ls x) (g : Nat) (C : Array Value) (hp : (g, C) ∈ hs) : Holds x g C := h.2.1 (g, C) hp
theorem Mem.drop {w0 : World} {p : Nat × Array Value} {hs : List (Nat × Array Value)} {g : Nat} {ls : List Nat} {x : World} (h : Mem w0 (p :: hs) (g :: ls) x) : Mem w0 hs ls x :=
  ⟨h.1, fun q hq => h.2.1 q (List.mem_cons_of_mem _ hq), fun k hk => h.2.2 k (List.mem_cons_of_mem _ hk)⟩
/-- A write into the block that is told first. -/
theorem Mem.put {w0 : World} {g : Nat} {C : Array Value} {hs : List (Nat × Array Value)} {ls : List Nat} {x : World} (h : Mem w0 ((g, C) :: hs) ls x) (hg : w0.heap.size ≤ g) (hn : ∀ p ∈ hs, p.1 ≠ g) (j : Nat) (v : Value) :
    Mem w0 ((g, C.setIfInBounds j v) :: hs) ls (x.setCell ⟨g, j, none⟩ v) := by
  refine ⟨farM h.1 hg j v, fun p hp => ?_, fun k hk => ⟨by simpa using (h.2.2 k hk).1, fun i => by rw [World.frozen?_setCell]; exact (h.2.2 k hk).2 i⟩⟩
  rcases List.mem_cons.1 hp with rfl | hp
  · exact (h.2.1 (g, C) (by simp)).putM j v
  · exact (h.2.1 p (List.mem_cons_of_mem _ hp)).otherM (hn p hp)
theorem Mem.drew {w0 : World} {hs : List (Nat × Array Value)} {ls : List Nat} {x : World} (h : Mem w0 hs ls x) : Mem w0 hs ls x.drew := ⟨h.1.drew, h.2.1, h.2.2⟩
theorem Mem.loose {w0 : World} {hs : List (Nat × Array Value)} {ls : List Nat} {x : World} (h : Mem w0 hs ls x) (g : Nat) (hp : g ∈ ls) : Loose x g := (h.2.2 g hp).2
end Go.Proofs.YtdoeiphnalbinaaGreat
namespace Go.Proofs.YtdoeiphnalbinaaGreat
open Go.RowKit

/-- The cells of a list of records. -/
def cellsOf {α : Type} (enc : α → List Value) (l : List α) : List Value := l.flatMap enc

theorem cellsOf_len {α : Type} {enc : α → List Value} {k : Nat} (hk : ∀ x, (enc x).length = k) : ∀ l : List α, (cellsOf enc l).length = l.length * k
  | [] => by simp [cellsOf]
  | x :: l => by
    have := cellsOf_len hk l
    unfold cellsOf at this ⊢
    rw [List.flatMap_cons, List.length_append, this, hk, List.length_cons, Nat.succ_mul]; omega

theorem cellsOf_at {α : Type} {enc : α → List Value} {k : Nat} (hk : ∀ x, (enc x).length = k) : ∀ (l : List α) (i t : Nat) (x : α), l[i]? = some x → t < k → (cellsOf enc l)[i * k + t]? = (enc x)[t]?
  | [], i, t, x, h, _ => by simp at h
  | y :: l, 0, t, x, h, ht => by
    simp at h; subst h
    unfold cellsOf
    rw [List.flatMap_cons, Nat.zero_mul, Nat.zero_add, List.getElem?_append_left (by rw [hk]; exact ht)]
  | y :: l, i + 1, t, x, h, ht => by
    simp at h
    have := cellsOf_at hk l i t x h ht
    unfold cellsOf at this ⊢
    rw [List.flatMap_cons, List.getElem?_append_right (by rw [hk, Nat.succ_mul]; omega), hk, ← this]
    congr 1
    rw [Nat.succ_mul]; omega

theorem cellsOf_append {α : Type} (enc : α → List Value) (l m : List α) : cellsOf enc (l ++ m) = cellsOf enc l ++ cellsOf enc m := by
  unfold cellsOf; simp
/-- A slice at A holds the records of l. -/
def Flat {α : Type} (enc : α → List Value) (k : Nat) (w : World) (A : Option Addr) (l : List α) : Prop :=
  l = [] ∨ ∃ b o, A = some ⟨b, o, none⟩ ∧ b < w.heap.size ∧ ∀ (i t : Nat) (x : α) (u : Value), l[i]? = some x → (enc x)[t]? = some u → w.cell? ⟨b, o + i * k + t, none⟩ = some u

section
variable {α : Type} {enc : α → List Value} {k : Nat} {w w' : World} {A : Option Addr} {l : List α}
theorem Flat.below (h : Flat enc k w A l) (hb : Below w.heap.size w w') : Flat enc k w' A l := by
  rcases h with h | ⟨b, o, rfl, hlt, h⟩
  · exact .inl h
  · exact .inr ⟨b, o, rfl, Nat.lt_of_lt_of_le hlt hb.size, fun i t x u hi ht => (hb.cell (p := ⟨b, o + i * k + t, none⟩) hlt).trans (h i t x u hi ht)⟩
theorem Flat.alloc (h : Flat enc k w A l) (o : Obj) : Flat enc k (w.alloc o) A l := h.below ((Below.refl _ _).alloc (Nat.le_refl _) o)
theorem Flat.drew (h : Flat enc k w A l) : Flat enc k w.drew A l := h
theorem Flat.at {i : Nat} (h : Flat enc k w A l) (hi : i < l.length) : ∃ b o, A = some ⟨b, o, none⟩ ∧ b < w.heap.size ∧ ∀ (t : Nat) (u : Value), (enc l[i])[t]? = some u → w.cell? ⟨b, o + i * k + t, none⟩ = some u := by
  rcases h with rfl | ⟨b, o, rfl, hlt, h⟩
  · simp at hi
  · exact ⟨b, o, rfl, hlt, fun t u ht => h i t l[i] u (List.getElem?_eq_getElem hi) ht⟩

/-- A row of the call's own, read as records. -/
theorem own_flat {base : Nat} {e : TypeId} {v : Value} (hk : ∀ x, (enc x).length = k) (h : w.ownsRow base e k v l.length (cellsOf enc l)) : ∃ A c, v = .slice A l.length c ∧ l.length ≤ c ∧ Flat enc k w A l := by
  obtain ⟨hlen, ⟨rfl, h0⟩ | ⟨g, cap, cur, rfl, hb, hh, hn, hm, hsz, ht⟩⟩ := h
  · have : l = [] := List.length_eq_zero_iff.1 h0
    subst this
    exact ⟨none, 0, rfl, Nat.le_refl _, .inl rfl⟩
  · refine ⟨_, cap, rfl, hn, .inr ⟨g, 0, rfl, ?_, fun i t x u hi hu => ?_⟩⟩
    · rcases Nat.lt_or_ge g w.heap.size with h' | h'
      · exact h'
      · rw [Array.getElem?_eq_none h'] at hh; cases hh
    · have htk : t < k := by
        rcases Nat.lt_or_ge t k with h' | h'
        · exact h'
        · rw [List.getElem?_eq_none (by rw [hk]; exact h')] at hu; cases hu
      have h1 := cellsOf_at hk l i t x hi htk
      have hil : i < l.length := (List.getElem?_eq_some_iff.1 hi).1
      have hlt : i * k + t < l.length * k := by
        have : (i + 1) * k ≤ l.length * k := Nat.mul_le_mul_right k hil
        rw [Nat.succ_mul] at this; omega
      rw [hu, ← ht, List.getElem?_take_of_lt hlt] at h1
      unfold World.cell?
      rw [hh]
      simp only [Nat.zero_add]
      rw [← Array.getElem?_toList]
      simpa using h1
end
end Go.Proofs.YtdoeiphnalbinaaGreat
namespace Go.Proofs.YtdoeiphnalbinaaGreat
namespace M

def smallI (n : Int) : Bool := decide (97 ≤ n) && decide (n ≤ 122)
def digitI (n : Int) : Bool := decide (48 ≤ n) && decide (n ≤ 57)
def small (c : UInt8) : Bool := smallI (c.toNat : Int)
def digit (c : UInt8) : Bool := digitI (c.toNat : Int)
def pageB (c : UInt8) : Bool := small c || digit c
def pageOk (l : List UInt8) : Bool := decide (l.length ≤ 12) && l.all pageB

theorem take_snoc (s : ByteArray) (k : Nat) (h : k < s.size) : s.data.toList.take (k + 1) = s.data.toList.take k ++ [s[k]] := by
  rw [List.take_succ_eq_append_getElem (by simpa using h)]; rfl

theorem drop_cons (s : ByteArray) (k : Nat) (h : k < s.size) : s.data.toList.drop k = s[k] :: s.data.toList.drop (k + 1) := by
  rw [List.drop_eq_getElem_cons (by simpa using h)]; rfl

theorem len_toList (s : ByteArray) : s.data.toList.length = s.size := by simp

theorem page_step_yes (s : ByteArray) (k : Nat) (h : k < s.size) (hb : pageB s[k] = true) (ha : (s.data.toList.take k).all pageB = true) :
    (s.data.toList.take (k + 1)).all pageB = true := by
  rw [take_snoc s k h, List.all_append, ha]; simp [hb]

theorem page_no (s : ByteArray) (k : Nat) (h : k < s.size) (hb : pageB s[k] = false) : pageOk s.data.toList = false := by
  unfold pageOk
  have : s.data.toList.all pageB = false := by
    rw [← List.take_append_drop k s.data.toList, List.all_append, drop_cons s k h]; simp [hb]
  rw [this]; simp

theorem page_all (s : ByteArray) (ha : (s.data.toList.take s.size).all pageB = true) : pageOk s.data.toList = decide (s.size ≤ 12) := by
  unfold pageOk
  rw [List.take_of_length_le (by simp)] at ha
  rw [ha]; simp

theorem page_long (s : ByteArray) (h : 12 < s.size) : pageOk s.data.toList = false := by
  unfold pageOk; simp; omega

/-- The two states of a name's reading: 'false' where a letter is wanted, 'true' behind a letter. -/
def nm : Bool → List UInt8 → Bool
  | false, [] => false
  | false, c :: r => small c && nm true r
  | true, [] => true
  | true, c :: r => if c.toNat = 45 then nm false r else small c && nm true r
def nameOk (l : List UInt8) : Bool := decide (l.length ≤ 8) && nm false l

theorem small_not_dash {c : UInt8} (h : small c = true) : c.toNat ≠ 45 := by
  intro e; unfold small smallI at h; rw [e] at h; simp at h

/-- Behind which kind of byte place k stands. -/
def stB (l : List UInt8) : Nat → Bool
  | 0 => false
  | k + 1 => decide ((l.getD k 0).toNat ≠ 45)

theorem getD_at (s : ByteArray) (k : Nat) (h : k < s.size) : s.data.toList.getD k 0 = s[k] := by
  rw [List.getD_eq_getElem?_getD, List.getElem?_eq_getElem (by simpa using h)]; rfl

theorem nm_small (s : ByteArray) (k : Nat) (h : k < s.size) (hc : small s[k] = true) (b : Bool) :
    nm b (s.data.toList.drop k) = nm true (s.data.toList.drop (k + 1)) := by
  rw [drop_cons s k h]
  cases b
  · simp [nm, hc]
  · simp [nm, hc, small_not_dash hc]

theorem st_small (s : ByteArray) (k : Nat) (h : k < s.size) (hc : s[k].toNat ≠ 45) : stB s.data.toList (k + 1) = true := by
  simp only [stB, getD_at s k h]; simpa using hc

theorem nm_dash (s : ByteArray) (k : Nat) (h : k < s.size) (hc : s[k].toNat = 45) :
    nm true (s.data.toList.drop k) = nm false (s.data.toList.drop (k + 1)) := by
  rw [drop_cons s k h]; simp [nm, hc]

theorem st_dash (s : ByteArray) (k : Nat) (h : k < s.size) (hc : s[k].toNat = 45) : stB s.data.toList (k + 1) = false := by
  simp only [stB, getD_at s k h]; simpa using hc

theorem nm_false_no (s : ByteArray) (k : Nat) (h : k < s.size) (hs : small s[k] = false) :
    nm false (s.data.toList.drop k) = false := by
  rw [drop_cons s k h]; simp [nm, hs]

theorem nm_other_no (s : ByteArray) (k : Nat) (h : k < s.size) (hs : small s[k] = false) (hc : s[k].toNat ≠ 45) (b : Bool) :
    nm b (s.data.toList.drop k) = false := by
  rw [drop_cons s k h]; cases b
  · simp [nm, hs]
  · simp [nm, hs, hc]

theorem nm_end (s : ByteArray) (b : Bool) : nm b (s.data.toList.drop s.size) = b := by
  rw [List.drop_of_length_le (by simp)]; cases b <;> rfl

theorem name_no (s : ByteArray) (h : nm false s.data.toList = false) : nameOk s.data.toList = false := by
  unfold nameOk; rw [h]; simp

theorem name_long (s : ByteArray) (h : 8 < s.size) : nameOk s.data.toList = false := by
  unfold nameOk; simp; omega

theorem name_yes (s : ByteArray) (h : s.size ≤ 8) (h1 : nm false s.data.toList = true) : nameOk s.data.toList = true := by
  unfold nameOk; rw [h1]; simp; omega

/-- What holds at the head of each round of the model's loop. -/
def Nrel (s : ByteArray) (k : Nat) : Prop := k ≤ s.size ∧ nm false s.data.toList = nm (stB s.data.toList k) (s.data.toList.drop k) ∧ (k = s.size → stB s.data.toList k = decide (k ≠ 0))

theorem Nrel_zero (s : ByteArray) : Nrel s 0 := ⟨Nat.zero_le _, rfl, fun _ => rfl⟩

theorem Nrel_small (s : ByteArray) (k : Nat) (h : k < s.size) (hr : Nrel s k) (hc : small s[k] = true) : Nrel s (k + 1) := by
  have hd := st_small s k h (small_not_dash hc)
  refine ⟨h, ?_, fun _ => ?_⟩
  · rw [hr.2.1, nm_small s k h hc, hd]
  · rw [hd]; simp

theorem Nrel_dash (s : ByteArray) (k : Nat) (h : k < s.size) (hr : Nrel s k) (hc : s[k].toNat = 45) (hl : k + 1 ≠ s.size) (hp : stB s.data.toList k = true) : Nrel s (k + 1) := by
  refine ⟨h, ?_, fun e => absurd e hl⟩
  rw [hr.2.1, hp, nm_dash s k h hc, st_dash s k h hc]

theorem Nrel_other (s : ByteArray) (k : Nat) (h : k < s.size) (hr : Nrel s k) (hs : small s[k] = false) (hc : s[k].toNat ≠ 45) : nameOk s.data.toList = false := by
  apply name_no; rw [hr.2.1]; exact nm_other_no s k h hs hc _

theorem Nrel_stfalse (s : ByteArray) (k : Nat) (h : k < s.size) (hr : Nrel s k) (hs : small s[k] = false) (hp : stB s.data.toList k = false) : nameOk s.data.toList = false := by
  apply name_no; rw [hr.2.1, hp]; exact nm_false_no s k h hs

theorem Nrel_last (s : ByteArray) (k : Nat) (h : k < s.size) (hr : Nrel s k) (hs : small s[k] = false) (hc : s[k].toNat = 45) (hl : k + 1 = s.size) : nameOk s.data.toList = false := by
  apply name_no; rw [hr.2.1]
  cases hb : stB s.data.toList k
  · exact nm_false_no s k h hs
  · rw [nm_dash s k h hc, hl, nm_end]

theorem Nrel_end (s : ByteArray) (hr : Nrel s s.size) : nameOk s.data.toList = (decide (1 ≤ s.size) && decide (s.size ≤ 8)) := by
  unfold nameOk
  rw [hr.2.1, nm_end, hr.2.2 rfl]
  rw [Bool.and_comm, len_toList, decide_eq_decide.2 (show s.size ≠ 0 ↔ 1 ≤ s.size by omega)]

theorem st_prev (s : ByteArray) (k : Nat) (h0 : 0 < k) (h : k - 1 < s.size) : stB s.data.toList k = decide (s[k - 1].toNat ≠ 45) := by
  obtain ⟨j, rfl⟩ : ∃ j, k = j + 1 := ⟨k - 1, by omega⟩
  simp only [stB, Nat.add_sub_cancel]
  rw [getD_at s j (by omega)]

end M
end Go.Proofs.YtdoeiphnalbinaaGreat
namespace Go.Proofs.YtdoeiphnalbinaaGreat
namespace M

theorem len0 (s : ByteArray) : s.data.toList.length = s.size := by simp
end M
end Go.Proofs.YtdoeiphnalbinaaGreat
namespace Go.Proofs.YtdoeiphnalbinaaGreat
namespace M

def glue (cur : List UInt8) : List (List UInt8) → List (List UInt8)
  | [] => [cur]
  | h :: t => (cur ++ h) :: t
/-- The parts of a text between the bytes b. -/
def split (b : UInt8) : List UInt8 → List (List UInt8)
  | [] => [[]]
  | c :: r => if c = b then [] :: split b r else glue [c] (split b r)
end M
end Go.Proofs.YtdoeiphnalbinaaGreat
namespace Go.Proofs.YtdoeiphnalbinaaGreat
namespace M

structure Ed where
  ma : Int
  mi : Int
  pa : Int
deriving DecidableEq

def inI (x lo hi : Int) : Bool := decide (lo ≤ x) && decide (x ≤ hi)
def edOk (e : Ed) : Bool := inI e.ma 0 99 && inI e.mi 0 99 && inI e.pa 0 99
def older (a b : Ed) : Bool := if a.ma ≠ b.ma then decide (a.ma < b.ma) else if a.mi ≠ b.mi then decide (a.mi < b.mi) else decide (a.pa < b.pa)
def zeroEd : Ed := ⟨0, 0, 0⟩
theorem ed_ext (a b : Ed) : a = b ↔ a.ma = b.ma ∧ a.mi = b.mi ∧ a.pa = b.pa := by
  cases a; cases b; simp
end M
end Go.Proofs.YtdoeiphnalbinaaGreat
namespace Go.Proofs.YtdoeiphnalbinaaGreat
namespace M

end M
end Go.Proofs.YtdoeiphnalbinaaGreat
namespace Go.Proofs.YtdoeiphnalbinaaGreat
namespace M

def join (b : UInt8) : List (List UInt8) → List UInt8
  | [] => []
  | [x] => x
  | x :: y :: r => x ++ b :: join b (y :: r)
end M
end Go.Proofs.YtdoeiphnalbinaaGreat
