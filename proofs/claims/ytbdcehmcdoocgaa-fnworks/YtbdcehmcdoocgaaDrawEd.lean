/- Proved: what the model draws of editions: some edition; the cursor stands, and its block alone is written. -/
import Derived.Test.YtbdcehmcdoocgaaDraw
import Derived.Test.YtbdcehmcdoocgaaEdWalks
import Derived.Test.YtbdcehmcdoocgaaEdMathB

namespace Go.Proofs.Ytbdcehmcdoocgaa
open Go.RowKit

def EdOut (B g : Nat) (p : M.Ed → Prop) (w : World) (r : Ending) (w' : World) : Prop :=
  ∃ e : M.Ed, p e ∧ r = .returned (edV e) ∧ Cur B w' g ∧ w.grownBy w' (some g)

def intB : Value → Bool
  | .int .i64 _ => true
  | _ => false

theorem grownBy_setNew {a b : World} {row : Option Nat} (h : a.grownBy b row) {p : Nat} (hp : a.heap.size ≤ p) (i : Nat) (v : Value) : a.grownBy (b.setCell ⟨p, i, none⟩ v) row :=
  ⟨h.os, h.tape, h.output, by have := h.size; simp; omega, fun k hk hne => by rw [Below.heap_setCell _ _ _ _ (by show k ≠ p; omega)]; exact h.block k hk hne⟩

/-- A block of one's own stays as it was made while another one alone is written. -/
theorem box_by {w w2 : World} {C : Array Value} {t : TypeId} {g : Nat} (h : (w.alloc (.cells C t)).grownBy w2 (some g)) (hg : g < w.heap.size) :
    (∀ j, w2.cell? ⟨w.heap.size, j, none⟩ = C[j]?) ∧ ∀ j, w2.frozen? ⟨w.heap.size, j, none⟩ = false := by
  have hb : w2.heap[w.heap.size]? = (w.alloc (.cells C t)).heap[w.heap.size]? := h.block w.heap.size (by simp) (by simp; omega)
  refine ⟨fun j => ?_, fun j => ?_⟩
  · rw [World.cell?_of_block (a := ⟨w.heap.size, j, none⟩) hb, World.cell?_alloc_mark]
  · rw [World.frozen?_of_block (a := ⟨w.heap.size, j, none⟩) hb, World.frozen?_alloc_mark]; simp

theorem Cur.setNew {B g : Nat} {w0 w : World} (hc : Cur B w g) (hg : g < w0.heap.size) (i : Nat) (v : Value) (hB : B ≤ w0.heap.size := by omega) : Cur B (w.setCell ⟨w0.heap.size, i, none⟩ v) g :=
  hc.kept (grownBy_set w w0.heap.size i v) (by intro k e; cases e; omega)

set_option maxHeartbeats 1000000 in
theorem l2Draw_any (B g : Nat) (w : World) (hc : Cur B w g) :
    Calls Try.prog 49 #[.pointer (some ⟨g, 0, none⟩)] w (EdOut B g (fun e => M.edOk e = true) w) := by
  have hlt := hc.2.1
  have hBw : B ≤ w.heap.size := by have := hc.1; omega
  go_enter Try.func49, Try.ntmps49
  go_wp2_with fail
  refine (l1Below_any B g _ (hc.alloc _) 2 (by omega) (by omega)).mono ?_
  rintro e w1 ⟨x, hx0, hx1, rfl, hc1, hg1⟩
  go_wp2_with fail
  refine (l1Below_any B g _ hc1 3 (by omega) (by omega)).mono ?_
  rintro e w2 ⟨y, hy0, hy1, rfl, hc2, hg2⟩
  go_wp2_with fail
  refine (l1Below_any B g _ hc2 2 (by omega) (by omega)).mono ?_
  rintro e w3 ⟨z, hz0, hz1, rfl, hc3, hg3⟩
  have hg := grownBy_trans hg1 (grownBy_trans hg2 hg3)
  obtain ⟨d, f⟩ := box_by hg hlt
  have d0 := d 0
  have d1 := d 1
  have d2 := d 2
  simp at d0 d1 d2
  have f0 := f 0
  have f1 := f 1
  have f2 := f 2
  have hgw := grownBy_trans (World.grownBy_alloc w _ _) hg
  clear d f hg1 hg2 hg3 hg
  go_wp2
  refine bodyPost_ret (v := .agg #[.int .i64 x, .int .i64 y, .int .i64 z]) (by simp [results, Try.results49, go_sem, d0, d1, d2]) rfl ⟨⟨x, y, z⟩, (M.edOk_iff _).2 (by simp only; omega), rfl, ?_, ?_⟩
  · exact ((hc3.setNew hlt _ _).setNew hlt _ _).setNew hlt _ _
  · exact grownBy_setNew (grownBy_setNew (grownBy_setNew hgw (Nat.le_refl _) _ _) (Nat.le_refl _) _ _) (Nat.le_refl _) _ _

theorem lit_int {w w1 : World} {g : Nat} {C : Array Value} {t : TypeId} (hg : (w.alloc (.cells C t)).grownBy w1 (some g)) (hne : g < w.heap.size) (n : Int) (h0 : 0 ≤ n) (h1 : n < C.size) (hC : C.all intB = true) :
    ∃ x : Int, w1.cell? ⟨w.heap.size, n.toNat, none⟩ = some (.int .i64 x) := by
  have hlt : n.toNat < C.size := by omega
  rw [(box_by hg hne).1, Array.getElem?_eq_getElem hlt]
  have hv := (Array.all_eq_true.1 hC) n.toNat hlt
  revert hv
  cases C[n.toNat] with
  | int k x => cases k <;> simp [intB]
  | _ => simp [intB]

set_option maxHeartbeats 2000000 in
theorem l2DrawAny_any (B g : Nat) (w : World) (hc : Cur B w g) :
    Calls Try.prog 25 #[.pointer (some ⟨g, 0, none⟩)] w (EdOut B g (fun _ => True) w) := by
  have hlt := hc.2.1
  have hBw : B ≤ w.heap.size := by have := hc.1; omega
  go_enter Try.func25, Try.ntmps25
  go_wp2_with fail
  refine (l2Draw_any B g _ (hc.alloc _)).mono ?_
  rintro r w1 ⟨e, he, rfl, hc1, hg1⟩
  clear he
  have hl1 := hc1.2.1
  have hpq : w.heap.size < w1.heap.size := by have := hg1.size; simp at this; omega
  go_wp2_with fail
  refine (l1Once_any B g _ (hc1.alloc _) 8 (by omega) (by omega)).mono ?_
  rintro r w2 ⟨b, rfl, hc2, hg2⟩
  have hl2 := hc2.2.1
  have hga := grownBy_trans hg1 (grownBy_trans (World.grownBy_alloc w1 _ _) hg2)
  cases b
  · obtain ⟨pd, pf⟩ := box_by hga hlt
    have pd0 := pd 0
    have pd1 := pd 1
    have pd2 := pd 2
    simp at pd0 pd1 pd2
    have pf0 := pf 0
    have pf1 := pf 1
    have pf2 := pf 2
    clear pd pf
    obtain ⟨qd, qf⟩ := box_by hg2 hl1
    have qd0 := qd 0
    have qd1 := qd 1
    have qd2 := qd 2
    simp at qd0 qd1 qd2
    have qf0 := qf 0
    have qf1 := qf 1
    have qf2 := qf 2
    clear qd qf
    have hgw := grownBy_trans (World.grownBy_alloc w _ _) hga
    clear hga hg1 hg2
    go_wp2
    refine bodyPost_ret (v := .agg #[.int .i64 e.ma, .int .i64 e.mi, .int .i64 e.pa]) (by simp [results, Try.results25, go_sem, pd0, pd1, pd2]) rfl ⟨⟨e.ma, e.mi, e.pa⟩, trivial, rfl, ?_, ?_⟩
    · exact (((hc2).setNew hlt _ _).setNew hlt _ _).setNew hlt _ _
    · exact grownBy_setNew (grownBy_setNew (grownBy_setNew (hgw) (Nat.le_refl _) _ _) (Nat.le_refl _) _ _) (Nat.le_refl _) _ _
  · go_wp2_with fail
    refine (l1Below_any B g _ (hc2.alloc _) 3 (by omega) (by omega)).mono ?_
    rintro r w3 ⟨u, hu0, hu1, rfl, hc3, hg3⟩
    obtain ⟨n, hn⟩ := lit_int hg3 hl2 u hu0 (by show u < 3; omega) (by kernel_rfl)
    go_wp2_with fail
    refine (l1Below_any B g _ hc3 3 (by omega) (by omega)).mono ?_
    rintro r w4 ⟨v, hv0, hv1, rfl, hc4, hg4⟩
    have hgb := grownBy_trans hg2 (grownBy_trans (World.grownBy_alloc w2 _ _) (grownBy_trans hg3 hg4))
    have hgc := grownBy_trans hga (grownBy_trans (World.grownBy_alloc w2 _ _) (grownBy_trans hg3 hg4))
    obtain ⟨pd, pf⟩ := box_by hgc hlt
    have pd0 := pd 0
    have pd1 := pd 1
    have pd2 := pd 2
    simp at pd0 pd1 pd2
    have pf0 := pf 0
    have pf1 := pf 1
    have pf2 := pf 2
    clear pd pf
    obtain ⟨qd, qf⟩ := box_by hgb hl1
    have qd0 := qd 0
    have qd1 := qd 1
    have qd2 := qd 2
    simp at qd0 qd1 qd2
    have qf0 := qf 0
    have qf1 := qf 1
    have qf2 := qf 2
    clear qd qf
    have hgw := grownBy_trans (World.grownBy_alloc w _ _) hgc
    clear hga hg1 hg2 hg3 hg4 hgb hgc hn
    rcases (show v = 0 ∨ v = 1 ∨ v = 2 by omega) with hv | hv | hv
    · have hk0 : (v == 0) = true := by simp; omega
      have hk1 : (v == 1) = false := by simp; omega
      have hk2 : (v == 2) = false := by simp; omega
      go_wp2
      refine bodyPost_ret (v := .agg #[.int .i64 n, .int .i64 e.mi, .int .i64 e.pa]) (by simp [results, Try.results25, go_sem, pd0, pd1, pd2]) rfl ⟨⟨n, e.mi, e.pa⟩, trivial, rfl, ?_, ?_⟩
      · exact (((hc4.setNew hl1 _ _ (by omega)).setNew hlt _ _).setNew hlt _ _).setNew hlt _ _
      · exact grownBy_setNew (grownBy_setNew (grownBy_setNew (grownBy_setNew hgw (by omega) _ _) (Nat.le_refl _) _ _) (Nat.le_refl _) _ _) (Nat.le_refl _) _ _
    · have hk0 : (v == 0) = false := by simp; omega
      have hk1 : (v == 1) = true := by simp; omega
      have hk2 : (v == 2) = false := by simp; omega
      go_wp2
      refine bodyPost_ret (v := .agg #[.int .i64 e.ma, .int .i64 n, .int .i64 e.pa]) (by simp [results, Try.results25, go_sem, pd0, pd1, pd2]) rfl ⟨⟨e.ma, n, e.pa⟩, trivial, rfl, ?_, ?_⟩
      · exact (((hc4.setNew hl1 _ _ (by omega)).setNew hlt _ _).setNew hlt _ _).setNew hlt _ _
      · exact grownBy_setNew (grownBy_setNew (grownBy_setNew (grownBy_setNew hgw (by omega) _ _) (Nat.le_refl _) _ _) (Nat.le_refl _) _ _) (Nat.le_refl _) _ _
    · have hk0 : (v == 0) = false := by simp; omega
      have hk1 : (v == 1) = false := by simp; omega
      have hk2 : (v == 2) = true := by simp; omega
      go_wp2
      refine bodyPost_ret (v := .agg #[.int .i64 e.ma, .int .i64 e.mi, .int .i64 n]) (by simp [results, Try.results25, go_sem, pd0, pd1, pd2]) rfl ⟨⟨e.ma, e.mi, n⟩, trivial, rfl, ?_, ?_⟩
      · exact (((hc4.setNew hl1 _ _ (by omega)).setNew hlt _ _).setNew hlt _ _).setNew hlt _ _
      · exact grownBy_setNew (grownBy_setNew (grownBy_setNew (grownBy_setNew hgw (by omega) _ _) (Nat.le_refl _) _ _) (Nat.le_refl _) _ _) (Nat.le_refl _) _ _

theorem CodeOk.later' {B B' : Nat} {w : World} {a : Option Addr} {len : Nat} (h : CodeOk B w a len) (hB : B ≤ B') : CodeOk B' w a len := by
  intro j hj
  obtain ⟨b, off, n, ha, hlt, h0, h1, hc⟩ := h j hj
  exact ⟨b, off, n, ha, Nat.lt_of_lt_of_le hlt hB, h0, h1, hc⟩

theorem below_at {w w1 w2 : World} {p : Nat} (h : Below w.heap.size w w1) (k : w1.grownBy w2 (some p)) (hp : w.heap.size ≤ p) : Below w.heap.size w w2 :=
  h.grown k h.size (fun j e => by cases e; exact hp)

/-- Some edition; nothing that was there is written. -/
def EdTop (w : World) (r : Ending) (w' : World) : Prop := ∃ e : M.Ed, r = .returned (edV e) ∧ Below w.heap.size w w'
/-- Two editions; nothing that was there is written. -/
def EdTwo (w : World) (r : Ending) (w' : World) : Prop := ∃ a b : M.Ed, r = .returned (.tuple #[edV a, edV b]) ∧ Below w.heap.size w w'

theorem CodeOk.alloc {B : Nat} {w : World} {a : Option Addr} {len : Nat} (h : CodeOk B w a len) (hB : B ≤ w.heap.size) (o : Obj) : CodeOk B (w.alloc o) a len :=
  h.kept fun k hk => Below.heap_alloc _ _ _ (by omega)

/-- Two boxes that were made one behind the other stay as they were made. -/
theorem two_boxes {w w3 : World} (b3 : Below ((w.alloc (.cells #[.int .i64 0, .int .i64 0, .int .i64 0] 28)).alloc (.cells #[.int .i64 0, .int .i64 0, .int .i64 0] 28)).heap.size ((w.alloc (.cells #[.int .i64 0, .int .i64 0, .int .i64 0] 28)).alloc (.cells #[.int .i64 0, .int .i64 0, .int .i64 0] 28)) w3) :
    (w3.cell? ⟨w.heap.size, 0, none⟩ = some (.int .i64 0) ∧ w3.cell? ⟨w.heap.size, 1, none⟩ = some (.int .i64 0) ∧ w3.cell? ⟨w.heap.size, 2, none⟩ = some (.int .i64 0)) ∧
    (w3.cell? ⟨w.heap.size + 1, 0, none⟩ = some (.int .i64 0) ∧ w3.cell? ⟨w.heap.size + 1, 1, none⟩ = some (.int .i64 0) ∧ w3.cell? ⟨w.heap.size + 1, 2, none⟩ = some (.int .i64 0)) ∧
    (w3.frozen? ⟨w.heap.size, 0, none⟩ = false ∧ w3.frozen? ⟨w.heap.size, 1, none⟩ = false ∧ w3.frozen? ⟨w.heap.size, 2, none⟩ = false) ∧
    (w3.frozen? ⟨w.heap.size + 1, 0, none⟩ = false ∧ w3.frozen? ⟨w.heap.size + 1, 1, none⟩ = false ∧ w3.frozen? ⟨w.heap.size + 1, 2, none⟩ = false) := by
  have k := fun p j (h : p < w.heap.size + 2) => b3.cell (p := ⟨p, j, none⟩) (by simpa using h)
  have kf := fun p j (h : p < w.heap.size + 2) => b3.frozen (p := ⟨p, j, none⟩) (by simpa using h)
  refine ⟨⟨?_, ?_, ?_⟩, ⟨?_, ?_, ?_⟩, ⟨?_, ?_, ?_⟩, ?_, ?_, ?_⟩
  · rw [k _ _ (by omega)]; simp
  · rw [k _ _ (by omega)]; simp
  · rw [k _ _ (by omega)]; simp
  · rw [k _ _ (by omega)]; simp
  · rw [k _ _ (by omega)]; simp
  · rw [k _ _ (by omega)]; simp
  · rw [kf _ _ (by omega)]; simp
  · rw [kf _ _ (by omega)]; simp
  · rw [kf _ _ (by omega)]; simp
  · rw [kf _ _ (by omega)]; simp
  · rw [kf _ _ (by omega)]; simp
  · rw [kf _ _ (by omega)]; simp

theorem set33 {w w1 : World} (h : Below w.heap.size w w1) (x y z x' y' z' : Value) : Below w.heap.size w ((((((w1.setCell ⟨w.heap.size, 0, none⟩ x).setCell ⟨w.heap.size, 1, none⟩ y).setCell ⟨w.heap.size, 2, none⟩ z).setCell ⟨w.heap.size + 1, 0, none⟩ x').setCell ⟨w.heap.size + 1, 1, none⟩ y').setCell ⟨w.heap.size + 1, 2, none⟩ z') :=
  (((set3 h x y z).setCell (Nat.le_succ _) _).setCell (Nat.le_succ _) _).setCell (Nat.le_succ _) _

end Go.Proofs.Ytbdcehmcdoocgaa
