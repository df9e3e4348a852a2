/- Proved, in parts: Proved: what the model draws of editions: some edition; the cursor stands, and its block alone is written. Proved: a statement that leaves its order open is gone through in one order, where each call may tell more of the memory than was known ahead of it; no program is named here. Condition: what is taken first reads the same in every memory that is as told. Proved: a statement that leaves its order open is gone through by a tree of orders: what only reads is taken first, of two or three that call or write each may come up; no program is named here. Condition: what is taken first reads the same in every memory that is as told. -/
import Derived.Test.YtkpbfocnokbmiaaPart14
import Derived.Test.YtkpbfocnokbmiaaPart02
import Derived.Test.YtkpbfocnokbmiaaPart03
namespace Go.Proofs.Ytkpbfocnokbmiaa
open Go.RowKit

def EdOut (B g : Nat) (p : M.Ed → Prop) (w : World) (r : Ending) (w' : World) : Prop :=
  ∃ e : M.Ed, p e ∧ r = .returned (edV e) ∧ Cur B w' g ∧ w.grownBy w' (some g)

def intB : Value → Bool
  | .int .i64 _ => true
  | _ => false

theorem grownBy_setNew {a b : World} {row : Option Nat} (h : a.grownBy b row) {p : Nat} (hp : a.heap.size ≤ p) (i : Nat) (v : Value) : a.grownBy (b.setCell ⟨p, i, none⟩ v) row :=
  ⟨h.os, h.tape, h.output, by have := h.size; simp; omega, fun k hk hne => by rw [Below.heap_setCell _ _ _ _ (by show k ≠ p; omega)]; exact h.block k hk hne⟩

/-- A block of one's own stays as it was made while another one alone is written. -/
theorem box_by {w w2 : World} {C : Array Value} {t : TypeId} {g : Nat} (h : (w.alloc (.cells C t)).grownBy w2 (some g)) (hg : g < w.heap.size) :
    (∀ j, w2.cell? ⟨w.heap.size, j, none⟩ = C[j]?) ∧ ∀ j, w2.frozen? ⟨w.heap.size, j, none⟩ = false := by
  have hb : w2.heap[w.heap.size]? = (w.alloc (.cells C t)).heap[w.heap.size]? := h.block w.heap.size (by simp) (by simp; omega)
  refine ⟨fun j => ?_, fun j => ?_⟩
  · rw [World.cell?_of_block (a := ⟨w.heap.size, j, none⟩) hb, World.cell?_alloc_mark]
  · rw [World.frozen?_of_block (a := ⟨w.heap.size, j, none⟩) hb, World.frozen?_alloc_mark]; simp

theorem Cur.setNew {B g : Nat} {w0 w : World} (hc : Cur B w g) (hg : g < w0.heap.size) (i : Nat) (v : Value) (hB : B ≤ w0.heap.size := by omega) : Cur B (w.setCell ⟨w0.heap.size, i, none⟩ v) g :=
  hc.kept (grownBy_set w w0.heap.size i v) (by intro k e; cases e; omega)

set_option maxHeartbeats 1000000 in
theorem l2Draw_any (B g : Nat) (w : World) (hc : Cur B w g) :
    Calls Try.prog 108 #[.pointer (some ⟨g, 0, none⟩)] w (EdOut B g (fun e => M.edOk e = true) w) := by
  have hlt := hc.2.1
  have hBw : B ≤ w.heap.size := by have := hc.1; omega
  go_enter Try.func108, Try.ntmps108
  go_wp2_with fail
  refine (l1Below_any B g _ (hc.alloc _) 2 (by omega) (by omega)).mono ?_
  rintro e w1 ⟨x, hx0, hx1, rfl, hc1, hg1⟩
  go_wp2_with fail
  refine (l1Below_any B g _ hc1 3 (by omega) (by omega)).mono ?_
  rintro e w2 ⟨y, hy0, hy1, rfl, hc2, hg2⟩
  go_wp2_with fail
  refine (l1Below_any B g _ hc2 2 (by omega) (by omega)).mono ?_
  rintro e w3 ⟨z, hz0, hz1, rfl, hc3, hg3⟩
  have hg := grownBy_trans hg1 (grownBy_trans hg2 hg3)
  obtain ⟨d, f⟩ := box_by hg hlt
  have d0 := d 0
  have d1 := d 1
  have d2 := d 2
  simp at d0 d1 d2
  have f0 := f 0
  have f1 := f 1
  have f2 := f 2
  have hgw := grownBy_trans (World.grownBy_alloc w _ _) hg
  clear d f hg1 hg2 hg3 hg
  go_wp2
  refine bodyPost_ret (v := .agg #[.int .i64 x, .int .i64 y, .int .i64 z]) (by simp [results, Try.results108, go_sem, d0, d1, d2]) rfl ⟨⟨x, y, z⟩, (M.edOk_iff _).2 (by simp only; omega), rfl, ?_, ?_⟩
  · exact ((hc3.setNew hlt _ _).setNew hlt _ _).setNew hlt _ _
  · exact grownBy_setNew (grownBy_setNew (grownBy_setNew hgw (Nat.le_refl _) _ _) (Nat.le_refl _) _ _) (Nat.le_refl _) _ _

theorem lit_int {w w1 : World} {g : Nat} {C : Array Value} {t : TypeId} (hg : (w.alloc (.cells C t)).grownBy w1 (some g)) (hne : g < w.heap.size) (n : Int) (h0 : 0 ≤ n) (h1 : n < C.size) (hC : C.all intB = true) :
    ∃ x : Int, w1.cell? ⟨w.heap.size, n.toNat, none⟩ = some (.int .i64 x) := by
  have hlt : n.toNat < C.size := by omega
  rw [(box_by hg hne).1, Array.getElem?_eq_getElem hlt]
  have hv := (Array.all_eq_true.1 hC) n.toNat hlt
  revert hv
  cases C[n.toNat] with
  | int k x => cases k <;> simp [intB]
  | _ => simp [intB]

set_option maxHeartbeats 2000000 in
theorem l2DrawAny_any (B g : Nat) (w : World) (hc : Cur B w g) :
    Calls Try.prog 113 #[.pointer (some ⟨g, 0, none⟩)] w (EdOut B g (fun _ => True) w) := by
  have hlt := hc.2.1
  have hBw : B ≤ w.heap.size := by have := hc.1; omega
  go_enter Try.func113, Try.ntmps113
  go_wp2_with fail
  refine (l2Draw_any B g _ (hc.alloc _)).mono ?_
  rintro r w1 ⟨e, he, rfl, hc1, hg1⟩
  clear he
  have hl1 := hc1.2.1
  have hpq : w.heap.size < w1.heap.size := by have := hg1.size; simp at this; omega
  go_wp2_with fail
  refine (l1Once_any B g _ (hc1.alloc _) 8 (by omega) (by omega)).mono ?_
  rintro r w2 ⟨b, rfl, hc2, hg2⟩
  have hl2 := hc2.2.1
  have hga := grownBy_trans hg1 (grownBy_trans (World.grownBy_alloc w1 _ _) hg2)
  cases b
  · obtain ⟨pd, pf⟩ := box_by hga hlt
    have pd0 := pd 0
    have pd1 := pd 1
    have pd2 := pd 2
    simp at pd0 pd1 pd2
    have pf0 := pf 0
    have pf1 := pf 1
    have pf2 := pf 2
    clear pd pf
    obtain ⟨qd, qf⟩ := box_by hg2 hl1
    have qd0 := qd 0
    have qd1 := qd 1
    have qd2 := qd 2
    simp at qd0 qd1 qd2
    have qf0 := qf 0
    have qf1 := qf 1
    have qf2 := qf 2
    clear qd qf
    have hgw := grownBy_trans (World.grownBy_alloc w _ _) hga
    clear hga hg1 hg2
    go_wp2
    refine bodyPost_ret (v := .agg #[.int .i64 e.ma, .int .i64 e.mi, .int .i64 e.pa]) (by simp [results, Try.results113, go_sem, pd0, pd1, pd2]) rfl ⟨⟨e.ma, e.mi, e.pa⟩, trivial, rfl, ?_, ?_⟩
    · exact (((hc2).setNew hlt _ _).setNew hlt _ _).setNew hlt _ _
    · exact grownBy_setNew (grownBy_setNew (grownBy_setNew (hgw) (Nat.le_refl _) _ _) (Nat.le_refl _) _ _) (Nat.le_refl _) _ _
  · go_wp2_with fail
    refine (l1Below_any B g _ (hc2.alloc _) 3 (by omega) (by omega)).mono ?_
    rintro r w3 ⟨u, hu0, hu1, rfl, hc3, hg3⟩
    obtain ⟨n, hn⟩ := lit_int hg3 hl2 u hu0 (by show u < 3; omega) (by kernel_rfl)
    go_wp2_with fail
    refine (l1Below_any B g _ hc3 3 (by omega) (by omega)).mono ?_
    rintro r w4 ⟨v, hv0, hv1, rfl, hc4, hg4⟩
    have hgb := grownBy_trans hg2 (grownBy_trans (World.grownBy_alloc w2 _ _) (grownBy_trans hg3 hg4))
    have hgc := grownBy_trans hga (grownBy_trans (World.grownBy_alloc w2 _ _) (grownBy_trans hg3 hg4))
    obtain ⟨pd, pf⟩ := box_by hgc hlt
    have pd0 := pd 0
    have pd1 := pd 1
    have pd2 := pd 2
    simp at pd0 pd1 pd2
    have pf0 := pf 0
    have pf1 := pf 1
    have pf2 := pf 2
    clear pd pf
    obtain ⟨qd, qf⟩ := box_by hgb hl1
    have qd0 := qd 0
    have qd1 := qd 1
    have qd2 := qd 2
    simp at qd0 qd1 qd2
    have qf0 := qf 0
    have qf1 := qf 1
    have qf2 := qf 2
    clear qd qf
    have hgw := grownBy_trans (World.grownBy_alloc w _ _) hgc
    clear hga hg1 hg2 hg3 hg4 hgb hgc hn
    rcases (show v = 0 ∨ v = 1 ∨ v = 2 by omega) with hv | hv | hv
    · have hk0 : (v == 0) = true := by simp; omega
      have hk1 : (v == 1) = false := by simp; omega
      have hk2 : (v == 2) = false := by simp; omega
      go_wp2
      refine bodyPost_ret (v := .agg #[.int .i64 n, .int .i64 e.mi, .int .i64 e.pa]) (by simp [results, Try.results113, go_sem, pd0, pd1, pd2]) rfl ⟨⟨n, e.mi, e.pa⟩, trivial, rfl, ?_, ?_⟩
      · exact (((hc4.setNew hl1 _ _ (by omega)).setNew hlt _ _).setNew hlt _ _).setNew hlt _ _
      · exact grownBy_setNew (grownBy_setNew (grownBy_setNew (grownBy_setNew hgw (by omega) _ _) (Nat.le_refl _) _ _) (Nat.le_refl _) _ _) (Nat.le_refl _) _ _
    · have hk0 : (v == 0) = false := by simp; omega
      have hk1 : (v == 1) = true := by simp; omega
      have hk2 : (v == 2) = false := by simp; omega
      go_wp2
      refine bodyPost_ret (v := .agg #[.int .i64 e.ma, .int .i64 n, .int .i64 e.pa]) (by simp [results, Try.results113, go_sem, pd0, pd1, pd2]) rfl ⟨⟨e.ma, n, e.pa⟩, trivial, rfl, ?_, ?_⟩
      · exact (((hc4.setNew hl1 _ _ (by omega)).setNew hlt _ _).setNew hlt _ _).setNew hlt _ _
      · exact grownBy_setNew (grownBy_setNew (grownBy_setNew (grownBy_setNew hgw (by omega) _ _) (Nat.le_refl _) _ _) (Nat.le_refl _) _ _) (Nat.le_refl _) _ _
    · have hk0 : (v == 0) = false := by simp; omega
      have hk1 : (v == 1) = false := by simp; omega
      have hk2 : (v == 2) = true := by simp; omega
      go_wp2
      refine bodyPost_ret (v := .agg #[.int .i64 e.ma, .int .i64 e.mi, .int .i64 n]) (by simp [results, Try.results113, go_sem, pd0, pd1, pd2]) rfl ⟨⟨e.ma, e.mi, n⟩, trivial, rfl, ?_, ?_⟩
      · exact (((hc4.setNew hl1 _ _ (by omega)).setNew hlt _ _).setNew hlt _ _).setNew hlt _ _
      · exact grownBy_setNew (grownBy_setNew (grownBy_setNew (grownBy_setNew hgw (by omega) _ _) (Nat.le_refl _) _ _) (Nat.le_refl _) _ _) (Nat.le_refl _) _ _

theorem CodeOk.alloc {B : Nat} {w : World} {a : Option Addr} {len : Nat} (h : CodeOk B w a len) (hB : B ≤ w.heap.size) (o : Obj) : CodeOk B (w.alloc o) a len :=
  h.kept fun k hk => Below.heap_alloc _ _ _ (by omega)

end Go.Proofs.Ytkpbfocnokbmiaa
namespace Go.Proofs.Ytkpbfocnokbmiaa
open Go

theorem anyH_weaken {P : Program} {md : Region.Mode} {ops : Array Oper} {Q : Exit → Act → World → Prop} {S S' : World → Prop} (h : ∀ w, S' w → S w) :
    ∀ (fuel : Nat) (listed : Array Bool) (a : Act) (w : World), wpAnyH P md ops Q S' fuel listed a w → wpAnyH P md ops Q S fuel listed a w
  | 0, _, _, _, k => k
  | fuel + 1, _, _, _, k => ⟨k.1, fun i hi => wpOp_mono (fun a' w' h' => ⟨h w' h'.1, anyH_weaken h fuel _ a' w' h'.2⟩) (k.2 i hi)⟩

end Go.Proofs.Ytkpbfocnokbmiaa
namespace Go.Proofs.Ytkpbfocnokbmiaa
open Go

inductive Tq where
  | done : Tq
  | read : Nat → Tq → Tq
  | one : Nat → Tq → Tq
  | two : Nat → Nat → Tq → Tq → Tq
  | three : Nat → Nat → Nat → Tq → Tq → Tq → Tq
def Tq.depth : Tq → Nat
  | .done => 0
  | .read _ t => t.depth + 1
  | .one _ t => t.depth + 1
  | .two _ _ t u => max t.depth u.depth + 1
  | .three _ _ _ t u v => max t.depth (max u.depth v.depth) + 1
def okTq (ops : Array Oper) : Array Bool → Tq → Bool
  | listed, .done => (Region.ready .any ops listed).isEmpty
  | listed, .read i t => Region.free .any ops listed i && (Region.ready .any ops listed).contains i && okTq ops (listed.setIfInBounds i true) t
  | listed, .one i t => (Region.ready .any ops listed == [i]) && okTq ops (listed.setIfInBounds i true) t
  | listed, .two i j t u => (Region.ready .any ops listed == [i, j]) && (okTq ops (listed.setIfInBounds i true) t && okTq ops (listed.setIfInBounds j true) u)
  | listed, .three i j k t u v => (Region.ready .any ops listed == [i, j, k]) && (okTq ops (listed.setIfInBounds i true) t && (okTq ops (listed.setIfInBounds j true) u && okTq ops (listed.setIfInBounds k true) v))

def TqV (P : Program) (ops : Array Oper) (Q : Exit → Act → World → Prop) : Tq → (World → Prop) → Act → World → Prop
  | .done, _, a, w => Q .normal a w
  | .read i t, S, a, w => ∃ o v, ops[i]? = some o ∧ YieldsIf P ops S o v a ∧ TqV P ops Q t S (a.put o.dst v) w
  | .one i t, S, a, w => ∃ o, ops[i]? = some o ∧ ∀ K : Act → World → Prop, Shut (∀ (S' : World → Prop) a' w', (∀ x, S' x → S x) → S' w' → (S' w' → TqV P ops Q t S' a' w') → K a' w') →
      if Region.wanted o (yielded ops a.tmps) = true then Oper.wp P o a w K Q else K (a.put o.dst undef) w
  | .two i j t u, S, a, w => (∃ o, ops[i]? = some o ∧ ∀ K : Act → World → Prop, Shut (∀ (S' : World → Prop) a' w', (∀ x, S' x → S x) → S' w' → (S' w' → TqV P ops Q t S' a' w') → K a' w') →
      if Region.wanted o (yielded ops a.tmps) = true then Oper.wp P o a w K Q else K (a.put o.dst undef) w) ∧
    (∃ o, ops[j]? = some o ∧ ∀ K : Act → World → Prop, Shut (∀ (S' : World → Prop) a' w', (∀ x, S' x → S x) → S' w' → (S' w' → TqV P ops Q u S' a' w') → K a' w') →
      if Region.wanted o (yielded ops a.tmps) = true then Oper.wp P o a w K Q else K (a.put o.dst undef) w)
  | .three i j k t u v, S, a, w => (∃ o, ops[i]? = some o ∧ ∀ K : Act → World → Prop, Shut (∀ (S' : World → Prop) a' w', (∀ x, S' x → S x) → S' w' → (S' w' → TqV P ops Q t S' a' w') → K a' w') →
      if Region.wanted o (yielded ops a.tmps) = true then Oper.wp P o a w K Q else K (a.put o.dst undef) w) ∧
    (∃ o, ops[j]? = some o ∧ ∀ K : Act → World → Prop, Shut (∀ (S' : World → Prop) a' w', (∀ x, S' x → S x) → S' w' → (S' w' → TqV P ops Q u S' a' w') → K a' w') →
      if Region.wanted o (yielded ops a.tmps) = true then Oper.wp P o a w K Q else K (a.put o.dst undef) w) ∧
    (∃ o, ops[k]? = some o ∧ ∀ K : Act → World → Prop, Shut (∀ (S' : World → Prop) a' w', (∀ x, S' x → S x) → S' w' → (S' w' → TqV P ops Q v S' a' w') → K a' w') →
      if Region.wanted o (yielded ops a.tmps) = true then Oper.wp P o a w K Q else K (a.put o.dst undef) w)

theorem tqV_any {P : Program} {ops : Array Oper} {Q : Exit → Act → World → Prop} (hns : Region.noSelect ops = true)
    (hQ : ∀ c a d v w, Q (.panic c) (Act.put a (some d) v) w → Q (.panic c) a w) :
    ∀ (t : Tq) (S : World → Prop) (listed : Array Bool) (a : Act) (w : World) (fuel : Nat), okTq ops listed t = true → t.depth ≤ fuel → S w → TqV P ops Q t S a w → wpAnyH P .any ops Q S fuel listed a w
  | .done, S, listed, a, w, fuel, hok, _, _, h => by
    refine wpAnyH_done ?_ h fuel
    simpa [okTq] using hok
  | .read i t, S, listed, a, w, 0, _, hl, _, _ => by simp [Tq.depth] at hl
  | .read i t, S, listed, a, w, fuel + 1, hok, hl, hS, ⟨o, v, ho, hy, h⟩ => by
    simp only [okTq, Bool.and_eq_true] at hok
    refine wpAnyH_take ho hns hok.1.1 hok.1.2 (fun c a w hq => by
      cases hd : o.dst with
      | none => rw [hd] at hq; exact hq
      | some d => rw [hd] at hq; exact hQ c a d v w hq) hy hS (tqV_any hns hQ t S _ _ w fuel hok.2 (by simpa [Tq.depth] using hl) hS h)
  | .one i t, S, listed, a, w, 0, _, hl, _, _ => by simp [Tq.depth] at hl
  | .one i t, S, listed, a, w, fuel + 1, hok, hl, hS, ⟨o, ho, h⟩ => by
    simp only [okTq, Bool.and_eq_true, beq_iff_eq] at hok
    refine wpAnyH_ready hok.1 (by simp) (AllReadyH.cons ho (fun K hK => ?_) AllReadyH.nil)
    exact h K (fun S' a' w' hle hS' hw => hK.out a' w' (hle _ hS') (fun _ => anyH_weaken hle _ _ _ _ (tqV_any hns hQ t S' _ a' w' fuel hok.2 (by simpa [Tq.depth] using hl) hS' (hw hS'))))
  | .two i j t u, S, listed, a, w, 0, _, hl, _, _ => by simp [Tq.depth] at hl
  | .two i j t u, S, listed, a, w, fuel + 1, hok, hl, hS, ⟨⟨o, ho, h⟩, ⟨o', ho', h'⟩⟩ => by
    simp only [okTq, Bool.and_eq_true, beq_iff_eq] at hok
    simp only [Tq.depth] at hl
    refine wpAnyH_ready hok.1 (by simp) (AllReadyH.cons ho (fun K hK => ?_) (AllReadyH.cons ho' (fun K hK => ?_) AllReadyH.nil))
    · exact h K (fun S' a' w' hle hS' hw => hK.out a' w' (hle _ hS') (fun _ => anyH_weaken hle _ _ _ _ (tqV_any hns hQ t S' _ a' w' fuel hok.2.1 (by omega) hS' (hw hS'))))
    · exact h' K (fun S' a' w' hle hS' hw => hK.out a' w' (hle _ hS') (fun _ => anyH_weaken hle _ _ _ _ (tqV_any hns hQ u S' _ a' w' fuel hok.2.2 (by omega) hS' (hw hS'))))
  | .three i j k t u v, S, listed, a, w, 0, _, hl, _, _ => by simp [Tq.depth] at hl
  | .three i j k t u v, S, listed, a, w, fuel + 1, hok, hl, hS, ⟨⟨o, ho, h⟩, ⟨o', ho', h'⟩, ⟨o2, ho2, h2⟩⟩ => by
    simp only [okTq, Bool.and_eq_true, beq_iff_eq] at hok
    simp only [Tq.depth] at hl
    refine wpAnyH_ready hok.1 (by simp) (AllReadyH.cons ho (fun K hK => ?_) (AllReadyH.cons ho' (fun K hK => ?_) (AllReadyH.cons ho2 (fun K hK => ?_) AllReadyH.nil)))
    · exact h K (fun S' a' w' hle hS' hw => hK.out a' w' (hle _ hS') (fun _ => anyH_weaken hle _ _ _ _ (tqV_any hns hQ t S' _ a' w' fuel hok.2.1 (by omega) hS' (hw hS'))))
    · exact h' K (fun S' a' w' hle hS' hw => hK.out a' w' (hle _ hS') (fun _ => anyH_weaken hle _ _ _ _ (tqV_any hns hQ u S' _ a' w' fuel hok.2.2.1 (by omega) hS' (hw hS'))))
    · exact h2 K (fun S' a' w' hle hS' hw => hK.out a' w' (hle _ hS') (fun _ => anyH_weaken hle _ _ _ _ (tqV_any hns hQ v S' _ a' w' fuel hok.2.2.2 (by omega) hS' (hw hS'))))

/-- THE LAW: a statement that draws its order, gone through by a tree of orders. -/
theorem wp_region_tq {P : Program} {id : Nat} {ops : Array Oper} {Q : Exit → Act → World → Prop} {a : Act} {w : World} (S : World → Prop) (t : Tq)
    (hm : P.follows .mixedOrders = true) (hns : Region.noSelect ops = true) (hQ : ∀ c a d v w, Q (.panic c) (Act.put a (some d) v) w → Q (.panic c) a w)
    (hok : okTq ops (Array.replicate ops.size false) t = true) (hlen : t.depth ≤ ops.size) (hS : S w.drew) (h : S w.drew → TqV P ops Q t S a w.drew) : (Code.region id ops true).wp P Q a w :=
  wp_region_held hm (tqV_any hns hQ t S _ a _ _ hok hlen hS (h hS))

theorem tq_end {P : Program} {ops : Array Oper} {Q : Exit → Act → World → Prop} {S : World → Prop} {a : Act} {w : World} (h : Q .normal a w) : TqV P ops Q .done S a w := h
theorem tq_reads {P : Program} {ops : Array Oper} {Q : Exit → Act → World → Prop} {S : World → Prop} {i : Nat} {o : Oper} {t : Tq} {a : Act} {w : World} (ho : ops[i]? = some o)
    (hw : Region.wanted o (yielded ops a.tmps) = true) (h : ∃ v, (∀ w, S w → (execOp a.eval o).run P w = .ok (.value v) w) ∧ TqV P ops Q t S (a.put o.dst v) w) : TqV P ops Q (.read i t) S a w :=
  h.elim fun v h => ⟨o, v, ho, .inl ⟨hw, h.1⟩, h.2⟩
theorem tq_one {P : Program} {ops : Array Oper} {Q : Exit → Act → World → Prop} {S : World → Prop} {i : Nat} {o : Oper} {t : Tq} {a : Act} {w : World} (ho : ops[i]? = some o)
    (hw : Region.wanted o (yielded ops a.tmps) = true) (h : ∀ K : Act → World → Prop, Shut (∀ (S' : World → Prop) a' w', (∀ x, S' x → S x) → S' w' → (S' w' → TqV P ops Q t S' a' w') → K a' w') → Oper.wp P o a w K Q) : TqV P ops Q (.one i t) S a w :=
  ⟨o, ho, fun K hK => by rw [if_pos hw]; exact h K hK⟩
theorem tq_two {P : Program} {ops : Array Oper} {Q : Exit → Act → World → Prop} {S : World → Prop} {i j : Nat} {t u : Tq} {a : Act} {w : World} (h : TqV P ops Q (.one i t) S a w) (h' : TqV P ops Q (.one j u) S a w) : TqV P ops Q (.two i j t u) S a w := ⟨h, h'⟩
theorem tq_three {P : Program} {ops : Array Oper} {Q : Exit → Act → World → Prop} {S : World → Prop} {i j k : Nat} {t u v : Tq} {a : Act} {w : World} (h : TqV P ops Q (.one i t) S a w) (h' : TqV P ops Q (.one j u) S a w) (h2 : TqV P ops Q (.one k v) S a w) : TqV P ops Q (.three i j k t u v) S a w := ⟨h, h', h2⟩
end Go.Proofs.Ytkpbfocnokbmiaa
