/- Proved: what the model draws of editions: some edition; the cursor stands, and its block alone is written. -/
import Derived.Test.YtnelgadfgeakjaaDraw
import Derived.Test.YtnelgadfgeakjaaEdWalks
import Derived.Test.YtnelgadfgeakjaaEdMathB

namespace Go.Proofs.Ytnelgadfgeakjaa
open Go.RowKit

def EdOut (B g : Nat) (p : M.Ed → Prop) (w : World) (r : Ending) (w' : World) : Prop :=
  ∃ e : M.Ed, p e ∧ r = .returned (edV e) ∧ Cur B w' g ∧ w.grownBy w' (some g)

def intB : Value → Bool
  | .int .i64 _ => true
  | _ => false

theorem grownBy_setNew {a b : World} {row : Option Nat} (h : a.grownBy b row) {p : Nat} (hp : a.heap.size ≤ p) (i : Nat) (v : Value) : a.grownBy (b.setCell ⟨p, i, none⟩ v) row :=
  ⟨h.os, h.tape, h.output, by have := h.size; simp; omega, fun k hk hne => by rw [Below.heap_setCell _ _ _ _ (by show k ≠ p; omega)]; exact h.block k hk hne⟩

/-- A block of one's own stays as it was made while another one alone is written. -/
theorem box_by {w w2 : World} {C : Array Value} {t : TypeId} {g : Nat} (h : (w.alloc (.cells C t)).grownBy w2 (some g)) (hg : g < w.heap.size) :
    (∀ j, w2.cell? ⟨w.heap.size, j, none⟩ = C[j]?) ∧ ∀ j, w2.frozen? ⟨w.heap.size, j, none⟩ = false := by
  have hb : w2.heap[w.heap.size]? = (w.alloc (.cells C t)).heap[w.heap.size]? := h.block w.heap.size (by simp) (by simp; omega)
  refine ⟨fun j => ?_, fun j => ?_⟩
  · rw [World.cell?_of_block (a := ⟨w.heap.size, j, none⟩) hb, World.cell?_alloc_mark]
  · rw [World.frozen?_of_block (a := ⟨w.heap.size, j, none⟩) hb, World.frozen?_alloc_mark]; simp

theorem Cur.setNew {B g : Nat} {w0 w : World} (hc : Cur B w g) (hg : g < w0.heap.size) (i : Nat) (v : Value) (hB : B ≤ w0.heap.size := by omega) : Cur B (w.setCell ⟨w0.heap.size, i, none⟩ v) g :=
  hc.kept (grownBy_set w w0.heap.size i v) (by intro k e; cases e; omega)

theorem lit_int {w w1 : World} {g : Nat} {C : Array Value} {t : TypeId} (hg : (w.alloc (.cells C t)).grownBy w1 (some g)) (hne : g < w.heap.size) (n : Int) (h0 : 0 ≤ n) (h1 : n < C.size) (hC : C.all intB = true) :
    ∃ x : Int, w1.cell? ⟨w.heap.size, n.toNat, none⟩ = some (.int .i64 x) := by
  have hlt : n.toNat < C.size := by omega
  rw [(box_by hg hne).1, Array.getElem?_eq_getElem hlt]
  have hv := (Array.all_eq_true.1 hC) n.toNat hlt
  revert hv
  cases C[n.toNat] with
  | int k x => cases k <;> simp [intB]
  | _ => simp [intB]

theorem CodeOk.later' {B B' : Nat} {w : World} {a : Option Addr} {len : Nat} (h : CodeOk B w a len) (hB : B ≤ B') : CodeOk B' w a len := by
  intro j hj
  obtain ⟨b, off, n, ha, hlt, h0, h1, hc⟩ := h j hj
  exact ⟨b, off, n, ha, Nat.lt_of_lt_of_le hlt hB, h0, h1, hc⟩

theorem below_at {w w1 w2 : World} {p : Nat} (h : Below w.heap.size w w1) (k : w1.grownBy w2 (some p)) (hp : w.heap.size ≤ p) : Below w.heap.size w w2 :=
  h.grown k h.size (fun j e => by cases e; exact hp)

/-- Some edition; nothing that was there is written. -/
def EdTop (w : World) (r : Ending) (w' : World) : Prop := ∃ e : M.Ed, r = .returned (edV e) ∧ Below w.heap.size w w'
/-- Two editions; nothing that was there is written. -/
def EdTwo (w : World) (r : Ending) (w' : World) : Prop := ∃ a b : M.Ed, r = .returned (.tuple #[edV a, edV b]) ∧ Below w.heap.size w w'

theorem CodeOk.alloc {B : Nat} {w : World} {a : Option Addr} {len : Nat} (h : CodeOk B w a len) (hB : B ≤ w.heap.size) (o : Obj) : CodeOk B (w.alloc o) a len :=
  h.kept fun k hk => Below.heap_alloc _ _ _ (by omega)

theorem set33 {w w1 : World} (h : Below w.heap.size w w1) (x y z x' y' z' : Value) : Below w.heap.size w ((((((w1.setCell ⟨w.heap.size, 0, none⟩ x).setCell ⟨w.heap.size, 1, none⟩ y).setCell ⟨w.heap.size, 2, none⟩ z).setCell ⟨w.heap.size + 1, 0, none⟩ x').setCell ⟨w.heap.size + 1, 1, none⟩ y').setCell ⟨w.heap.size + 1, 2, none⟩ z') :=
  (((set3 h x y z).setCell (Nat.le_succ _) _).setCell (Nat.le_succ _) _).setCell (Nat.le_succ _) _

end Go.Proofs.Ytnelgadfgeakjaa
