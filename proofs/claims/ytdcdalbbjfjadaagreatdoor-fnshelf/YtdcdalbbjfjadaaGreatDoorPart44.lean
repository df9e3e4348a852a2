/- Proved, in parts: Proved: what the model draws of deeds: some deed whose texts are short; the cursor stands, and its block and new ones alone are written. -/
import Derived.Test.YtdcdalbbjfjadaaGreatDoorPart40
import Derived.Test.YtdcdalbbjfjadaaGreatDoorPart01
import Derived.Test.YtdcdalbbjfjadaaGreatDoorPart18
import Derived.Test.YtdcdalbbjfjadaaGreatDoorPart06
namespace Go.Proofs.YtdcdalbbjfjadaaGreatDoor
open Go.RowKit
set_option maxRecDepth 20000
set_option linter.unusedVariables false

theorem drew_sz (w : World) : w.drew.heap.size = w.heap.size := rfl
theorem Holds.by {x y : World} {k g : Nat} {C : Array Value} (h : Holds x k C) (hg : x.grownBy y (some g)) (hk : k ≠ g) : Holds y k C :=
  ⟨Nat.lt_of_lt_of_le h.1 hg.size, fun j v hj => (World.cell?_of_block (a := ⟨k, j, none⟩) (hg.block k h.1 (fun e => hk (Option.some.inj e)))).trans (h.2 j v hj)⟩
theorem Loose.by {x y : World} {k g : Nat} (h : Loose x k) (hl : k < x.heap.size) (hg : x.grownBy y (some g)) (hk : k ≠ g) : Loose y k :=
  fun j => (World.frozen?_of_block (a := ⟨k, j, none⟩) (hg.block k hl (fun e => hk (Option.some.inj e)))).trans (h j)
theorem tq_any {P : Program} {ops : Array Oper} {Q : Exit → Act → World → Prop} {S : World → Prop} {t : Tq} {a : Act} {W : World} (h : ∀ y, S y → TqV P ops Q t S a y) (hS : S W) : TqV P ops Q t S a W := h W hS
/-- A block of seven cells that may be written. -/
def Room7 (x : World) (k : Nat) : Prop := (∃ c0 c1 c2 c3 c4 c5 c6, Holds x k #[c0, c1, c2, c3, c4, c5, c6]) ∧ Loose x k
/-- The state while the model draws: the cursor stands; its block and new ones alone are written. -/
def DS (B g : Nat) (w0 : World) (hs : List (Nat × Array Value)) (rs : List Nat) (x : World) : Prop :=
  Cur B x g ∧ w0.grownBy x (some g) ∧ (∀ p ∈ hs, p.1 ≠ g ∧ w0.heap.size ≤ p.1 ∧ Holds x p.1 p.2) ∧ ∀ k ∈ rs, k ≠ g ∧ w0.heap.size ≤ k ∧ Room7 x k
theorem DS.by {B g : Nat} {w0 : World} {hs : List (Nat × Array Value)} {rs : List Nat} {x y : World} (h : DS B g w0 hs rs x) (hc : Cur B y g) (hg : x.grownBy y (some g)) : DS B g w0 hs rs y := by
  refine ⟨hc, grownBy_trans h.2.1 hg, fun p hp => ?_, fun k hk => ?_⟩
  · obtain ⟨h1, h2, h3⟩ := h.2.2.1 p hp
    exact ⟨h1, h2, h3.by hg h1⟩
  · obtain ⟨h1, h2, ⟨c0, c1, c2, c3, c4, c5, c6, h3⟩, h4⟩ := h.2.2.2 k hk
    exact ⟨h1, h2, ⟨c0, c1, c2, c3, c4, c5, c6, h3.by hg h1⟩, h4.by h3.1 hg h1⟩
theorem DS.tab {B g : Nat} {w0 : World} {hs : List (Nat × Array Value)} {rs : List Nat} {x : World} (h : DS B g w0 hs rs x) (hgl : g < w0.heap.size) (C : Array Value) (t : TypeId) : DS B g w0 ((x.heap.size, C) :: hs) rs (x.alloc (.cells C t)) := by
  have h' := h.by (h.1.alloc (.cells C t)) (World.grownBy_alloc x _ _)
  have hz := h.2.1.size
  refine ⟨h'.1, h'.2.1, fun p hp => ?_, h'.2.2.2⟩
  rcases List.mem_cons.1 hp with rfl | hp
  · exact ⟨by show x.heap.size ≠ g; omega, hz, holds_new x C t⟩
  · exact h'.2.2.1 p hp
theorem DS.box {B g : Nat} {w0 : World} {hs : List (Nat × Array Value)} {rs : List Nat} {x : World} (h : DS B g w0 hs rs x) (hgl : g < w0.heap.size) (c0 c1 c2 c3 c4 c5 c6 : Value) (t : TypeId) : DS B g w0 hs (x.heap.size :: rs) (x.alloc (.cells #[c0, c1, c2, c3, c4, c5, c6] t)) := by
  have h' := h.by (h.1.alloc (.cells #[c0, c1, c2, c3, c4, c5, c6] t)) (World.grownBy_alloc x _ _)
  have hz := h.2.1.size
  refine ⟨h'.1, h'.2.1, h'.2.2.1, fun k hk => ?_⟩
  rcases List.mem_cons.1 hk with rfl | hk
  · exact ⟨by omega, hz, ⟨c0, c1, c2, c3, c4, c5, c6, holds_new x _ t⟩, loose_new x _ t⟩
  · exact h'.2.2.2 k hk
theorem DS.heldLt {B g : Nat} {w0 : World} {hs : List (Nat × Array Value)} {rs : List Nat} {x : World} (h : DS B g w0 hs rs x) : ∀ p ∈ hs, p.1 < x.heap.size := fun p hp => (h.2.2.1 p hp).2.2.1
theorem DS.roomLt {B g : Nat} {w0 : World} {hs : List (Nat × Array Value)} {rs : List Nat} {x : World} (h : DS B g w0 hs rs x) : ∀ k ∈ rs, k < x.heap.size := fun k hk => by
  obtain ⟨_, _, ⟨_, _, _, _, _, _, _, hH⟩, _⟩ := h.2.2.2 k hk
  exact hH.1
theorem DS.tabE {B g : Nat} {w0 : World} {hs : List (Nat × Array Value)} {rs : List Nat} {x : World} (h : DS B g w0 hs rs x) (hgl : g < w0.heap.size) (C : Array Value) (t : TypeId) : ∃ k, x.heap.size = k ∧ DS B g w0 ((k, C) :: hs) rs (x.alloc (.cells C t)) := ⟨_, rfl, h.tab hgl C t⟩
theorem DS.boxE {B g : Nat} {w0 : World} {hs : List (Nat × Array Value)} {rs : List Nat} {x : World} (h : DS B g w0 hs rs x) (hgl : g < w0.heap.size) (c0 c1 c2 c3 c4 c5 c6 : Value) (t : TypeId) : ∃ k, x.heap.size = k ∧ DS B g w0 hs (k :: rs) (x.alloc (.cells #[c0, c1, c2, c3, c4, c5, c6] t)) := ⟨_, rfl, h.box hgl c0 c1 c2 c3 c4 c5 c6 t⟩
theorem DS.tailH {B g : Nat} {w0 : World} {p : Nat × Array Value} {hs : List (Nat × Array Value)} {rs : List Nat} {x : World} (h : DS B g w0 (p :: hs) rs x) : DS B g w0 hs rs x := ⟨h.1, h.2.1, fun q hq => h.2.2.1 q (List.mem_cons_of_mem _ hq), h.2.2.2⟩
theorem DS.noH {B g : Nat} {w0 : World} {hs : List (Nat × Array Value)} {rs : List Nat} {x : World} (h : DS B g w0 hs rs x) : DS B g w0 [] rs x := ⟨h.1, h.2.1, by simp, h.2.2.2⟩
theorem DS.tailR {B g : Nat} {w0 : World} {k : Nat} {hs : List (Nat × Array Value)} {rs : List Nat} {x : World} (h : DS B g w0 hs (k :: rs) x) : DS B g w0 hs rs x := ⟨h.1, h.2.1, h.2.2.1, fun q hq => h.2.2.2 q (List.mem_cons_of_mem _ hq)⟩
theorem Room7.put {x : World} {k G j : Nat} {v : Value} (h : Room7 x k) (hj : j < 7) : Room7 (x.setCell ⟨G, j, none⟩ v) k := by
  obtain ⟨⟨c0, c1, c2, c3, c4, c5, c6, h3⟩, h4⟩ := h
  refine ⟨?_, fun i => by rw [World.frozen?_setCell]; exact h4 i⟩
  by_cases e : k = G
  · subst e
    have := h3.putM j v
    match j, hj with
    | 0, _ => exact ⟨_, _, _, _, _, _, _, this⟩
    | 1, _ => exact ⟨_, _, _, _, _, _, _, this⟩
    | 2, _ => exact ⟨_, _, _, _, _, _, _, this⟩
    | 3, _ => exact ⟨_, _, _, _, _, _, _, this⟩
    | 4, _ => exact ⟨_, _, _, _, _, _, _, this⟩
    | 5, _ => exact ⟨_, _, _, _, _, _, _, this⟩
    | 6, _ => exact ⟨_, _, _, _, _, _, _, this⟩
  · exact ⟨_, _, _, _, _, _, _, h3.otherM e⟩
/-- A write into a new block; of the blocks whose cells are told it is none. -/
theorem DS.write {B g : Nat} {w0 : World} {hs : List (Nat × Array Value)} {rs : List Nat} {x : World} (h : DS B g w0 hs rs x) (hgl : g < w0.heap.size) (hB : B ≤ g) {G : Nat} (hG : w0.heap.size ≤ G) (hn : ∀ p ∈ hs, p.1 ≠ G) (j : Nat) (hj : j < 7) (v : Value) : DS B g w0 hs rs (x.setCell ⟨G, j, none⟩ v) := by
  refine ⟨h.1.kept (grownBy_set x G j v) (by intro k e; cases e; omega), grownBy_setNew h.2.1 hG j v, fun p hp => ?_, fun k hk => ?_⟩
  · obtain ⟨h1, h2, h3⟩ := h.2.2.1 p hp
    exact ⟨h1, h2, h3.otherM (hn p hp)⟩
  · obtain ⟨h1, h2, h3⟩ := h.2.2.2 k hk
    exact ⟨h1, h2, h3.put hj⟩
/-- A write into the block whose cells are told first. -/
theorem DS.put {B g : Nat} {w0 : World} {G : Nat} {C : Array Value} {hs : List (Nat × Array Value)} {rs : List Nat} {x : World} (h : DS B g w0 ((G, C) :: hs) rs x) (hgl : g < w0.heap.size) (hB : B ≤ g) (hn : ∀ p ∈ hs, p.1 ≠ G) (j : Nat) (hj : j < 7) (v : Value) : DS B g w0 ((G, C.setIfInBounds j v) :: hs) rs (x.setCell ⟨G, j, none⟩ v) := by
  obtain ⟨k1, k2, k3⟩ := h.2.2.1 (G, C) (by simp)
  have h' := h.tailH.write hgl hB k2 hn j hj v
  refine ⟨h'.1, h'.2.1, fun p hp => ?_, h'.2.2.2⟩
  rcases List.mem_cons.1 hp with rfl | hp
  · exact ⟨k1, k2, k3.putM j v⟩
  · exact h'.2.2.1 p hp
theorem DS.write7 {B g : Nat} {w0 : World} {hs : List (Nat × Array Value)} {rs : List Nat} {x : World} (h : DS B g w0 hs rs x) (hgl : g < w0.heap.size) (hB : B ≤ g) {G : Nat} (hG : w0.heap.size ≤ G) (hn : ∀ p ∈ hs, p.1 ≠ G) (a0 a1 a2 a3 a4 a5 a6 : Value) :
    DS B g w0 hs rs (((((((x.setCell ⟨G, 0, none⟩ a0).setCell ⟨G, 1, none⟩ a1).setCell ⟨G, 2, none⟩ a2).setCell ⟨G, 3, none⟩ a3).setCell ⟨G, 4, none⟩ a4).setCell ⟨G, 5, none⟩ a5).setCell ⟨G, 6, none⟩ a6) :=
  ((((((h.write hgl hB hG hn 0 (by omega) a0).write hgl hB hG hn 1 (by omega) a1).write hgl hB hG hn 2 (by omega) a2).write hgl hB hG hn 3 (by omega) a3).write hgl hB hG hn 4 (by omega) a4).write hgl hB hG hn 5 (by omega) a5).write hgl hB hG hn 6 (by omega) a6
theorem Holds.put7M {w : World} {g : Nat} {c0 c1 c2 c3 c4 c5 c6 : Value} (h : Holds w g #[c0, c1, c2, c3, c4, c5, c6]) (a0 a1 a2 a3 a4 a5 a6 : Value) :
    Holds (((((((w.setCell ⟨g, 0, none⟩ a0).setCell ⟨g, 1, none⟩ a1).setCell ⟨g, 2, none⟩ a2).setCell ⟨g, 3, none⟩ a3).setCell ⟨g, 4, none⟩ a4).setCell ⟨g, 5, none⟩ a5).setCell ⟨g, 6, none⟩ a6) g #[a0, a1, a2, a3, a4, a5, a6] := by
  have := ((((((h.putM 0 a0).putM 1 a1).putM 2 a2).putM 3 a3).putM 4 a4).putM 5 a5).putM 6 a6
  simpa only [List.setIfInBounds_toArray, List.set_cons_zero, List.set_cons_succ] using this
theorem DS.add {B g : Nat} {w0 : World} {hs : List (Nat × Array Value)} {rs : List Nat} {x : World} {k : Nat} {C : Array Value} (h : DS B g w0 hs rs x) (hk : k ≠ g) (hz : w0.heap.size ≤ k) (hC : Holds x k C) : DS B g w0 ((k, C) :: hs) rs x :=
  ⟨h.1, h.2.1, fun p hp => by rcases List.mem_cons.1 hp with rfl | hp; exact ⟨hk, hz, hC⟩; exact h.2.2.1 p hp, h.2.2.2⟩
theorem DS.drew {B g : Nat} {w0 : World} {hs : List (Nat × Array Value)} {rs : List Nat} {x : World} (h : DS B g w0 hs rs x) : DS B g w0 hs rs x.drew := ⟨h.1.drew, ⟨h.2.1.os, h.2.1.tape, h.2.1.output, h.2.1.size, h.2.1.block⟩, h.2.2.1, h.2.2.2⟩
theorem DS.start {B g : Nat} {w : World} (hc : Cur B w g) : DS B g w [] [] w := ⟨hc, ⟨rfl, rfl, rfl, Nat.le_refl _, fun _ _ _ => rfl⟩, by simp, by simp⟩

abbrev C8 : Array Value := #[.int .i64 1, .int .i64 2, .int .i64 2, .int .i64 2, .int .i64 3, .int .i64 4, .int .i64 5, .int .i64 6]
theorem tab8 (n : Int) (h0 : 0 ≤ n) (h1 : n < 8) : ∃ kk : Int, (1 ≤ kk ∧ kk ≤ 6) ∧ C8[n.toNat]? = some (.int .i64 kk) := by
  rcases (show n = 0 ∨ n = 1 ∨ n = 2 ∨ n = 3 ∨ n = 4 ∨ n = 5 ∨ n = 6 ∨ n = 7 by omega) with rfl | rfl | rfl | rfl | rfl | rfl | rfl | rfl
  · exact ⟨1, by omega, rfl⟩
  · exact ⟨2, by omega, rfl⟩
  · exact ⟨2, by omega, rfl⟩
  · exact ⟨2, by omega, rfl⟩
  · exact ⟨3, by omega, rfl⟩
  · exact ⟨4, by omega, rfl⟩
  · exact ⟨5, by omega, rfl⟩
  · exact ⟨6, by omega, rfl⟩
/-- Some deed with short texts; the cursor stands, and its block alone is written. -/
def DdOut (B g : Nat) (w : World) (r : Ending) (w' : World) : Prop :=
  ∃ d : M.Dd, (d.name.size ≤ 64 ∧ d.page.size ≤ 64) ∧ r = .returned (ddV d) ∧ Cur B w' g ∧ w.grownBy w' (some g)
def DrawCut (B g : Nat) (w : World) (s3 : Value) (wx : World) : Prop :=
  ∃ (G : Nat) (kk : Int) (nm : ByteArray), s3 = .pointer (some ⟨G, 0, none⟩) ∧ (1 ≤ kk ∧ kk ≤ 6) ∧ nm.size ≤ 64 ∧ w.heap.size < G ∧ DS B g w [(G, #[.int .i64 kk, .string nm, .int .i64 0, .int .i64 0, .int .i64 0, .string ⟨#[]⟩, .int .i64 0])] [G, w.heap.size] wx


theorem results_l3 (d : M.Dd) (R : Nat) (W : World) (tmps : Array Value) (h2 : tmps.getD 2 undef = .pointer (some ⟨R, 0, none⟩)) (hW : Holds W R (ddC d)) :
    (results Tryz.f48 tmps).run Tryz.prog W = .ok (ddV d) W := by
  obtain ⟨q0, q1, q2, q3, q4, q5, q6⟩ := hW.seven
  simp at h2
  simp [results, Tryz.results48, go_sem, h2, q0, q1, q2, q3, q4, q5, q6]

set_option maxHeartbeats 8000000 in
theorem l3Draw_any (B g : Nat) (w : World) (hc : Cur B w g) :
    Calls Tryz.prog 48 #[.pointer (some ⟨g, 0, none⟩)] w (DdOut B g w) := by
  have hlt := hc.2.1
  have hB := hc.1
  have m0 := (DS.start hc).box hlt (.int .i64 0) (.string ⟨#[]⟩) (.int .i64 0) (.int .i64 0) (.int .i64 0) (.string ⟨#[]⟩) (.int .i64 0) 28
  go_enter Tryz.func48, Tryz.ntmps48
  go_upto_region 1 with (fail)
  go_cut [3] (fun s3 wx => DrawCut B g w s3 wx)
  case first =>
    refine wp_region_tq (DS B g w [] [w.heap.size]) (.read 1 (.read 5 (.three 0 2 8 (.two 2 8 (.read 3 (.read 4 (.two 6 8 (.read 7 (.one 8 (.one 9 .done))) (.one 6 (.read 7 (.one 9 .done)))))) (.one 2 (.read 3 (.read 4 (.one 6 (.read 7 (.one 9 .done))))))) (.three 0 6 8 (.read 3 (.read 4 (.two 6 8 (.read 7 (.one 8 (.one 9 .done))) (.one 6 (.read 7 (.one 9 .done)))))) (.two 0 8 (.read 3 (.read 4 (.read 7 (.one 8 (.one 9 .done))))) (.one 0 (.read 3 (.read 4 (.read 7 (.one 9 .done)))))) (.two 0 6 (.read 3 (.read 4 (.one 6 (.read 7 (.one 9 .done))))) (.one 0 (.read 3 (.read 4 (.read 7 (.one 9 .done))))))) (.two 0 2 (.one 2 (.read 3 (.read 4 (.one 6 (.read 7 (.one 9 .done)))))) (.two 0 6 (.read 3 (.read 4 (.one 6 (.read 7 (.one 9 .done))))) (.one 0 (.read 3 (.read 4 (.read 7 (.one 9 .done)))))))))) (by kernel_rfl) (by kernel_rfl) (fun _ _ _ _ _ h => h) (by kernel_rfl) (by decide) ?_ ?_
    · exact m0.drew
    intro hHeld
    repeat (first
      | (refine tq_reads (by simp only [List.getElem?_toArray, List.getElem?_cons_succ, List.getElem?_cons_zero]; first | done | rfl) (by rfl) ?_; apply Exists.intro; apply And.intro; (focus (intro w hSw; (try (have hq := (hSw.2.2.1 _ (List.mem_cons_self)).2.2.2 _ _ hkk)); go_simp; (try with_reducible rfl); done)); (try simp only [Act.put, List.setIfInBounds_toArray, List.set_cons_zero, List.set_cons_succ]))
      | (refine tq_two ?_ ?_)
      | (refine tq_three ?_ ?_ ?_)
      | (refine tq_one (by simp only [List.getElem?_toArray, List.getElem?_cons_zero]; first | done | rfl) (by rfl) (fun K hK => ?_); have hRl := hHeld.roomLt; obtain ⟨k0, hk0, hD⟩ := hHeld.tabE hlt C8 2; (try simp only [drew_sz, World.size_alloc] at hk0); subst hk0; go_simp; refine hK.out _ _ _ (fun x h => DS.tailH h) hD ?_; clear hHeld hK hD; intro hS; refine tq_any ?_ hS; clear hS; intro y hHeld; (try simp only [Act.put, List.setIfInBounds_toArray, List.set_cons_zero, List.set_cons_succ]))
      | (refine tq_one (by simp only [List.getElem?_toArray, List.getElem?_cons_succ, List.getElem?_cons_zero]; first | done | rfl) (by rfl) (fun K hK => ?_); go_simp; go_at_call 49; refine (l1Below_any B g _ hHeld.1 8 (by omega) (by omega)).mono ?_; rintro e w1 ⟨n, hx0, hx1, rfl, hc1, hg1⟩; (have hx2 : n < 8 := (by omega)); obtain ⟨kk, hk6, hkk⟩ := tab8 n hx0 hx2; go_simp; refine hK.out _ _ _ (fun _ h => h) (hHeld.by hc1 hg1) ?_; clear hHeld hK hc1 hg1; intro hHeld; (try simp only [Act.put, List.setIfInBounds_toArray, List.set_cons_zero, List.set_cons_succ]))
      | (refine tq_one (by simp only [List.getElem?_toArray, List.getElem?_cons_succ, List.getElem?_cons_zero]; first | done | rfl) (by rfl) (fun K hK => ?_); go_simp; go_at_call 24; refine (l1DrawName_any B g _ hHeld.1).mono ?_; rintro e w1 ⟨nm, hnm, rfl, hc1, hg1⟩; go_simp; refine hK.out _ _ _ (fun _ h => h) (hHeld.by hc1 hg1) ?_; clear hHeld hK hc1 hg1; intro hHeld; (try simp only [Act.put, List.setIfInBounds_toArray, List.set_cons_zero, List.set_cons_succ]))
      | (refine tq_one (by simp only [List.getElem?_toArray, List.getElem?_cons_succ, List.getElem?_cons_zero]; first | done | rfl) (by rfl) (fun K hK => ?_); have hHl := hHeld.heldLt; have hGl := hHeld.roomLt w.heap.size (by simp); obtain ⟨k0, hk0, hD⟩ := hHeld.boxE hlt (.int .i64 0) (.string ⟨#[]⟩) (.int .i64 0) (.int .i64 0) (.int .i64 0) (.string ⟨#[]⟩) (.int .i64 0) 28; (try simp only [drew_sz, World.size_alloc] at hk0); subst hk0; go_simp; refine hK.out _ _ _ (fun x h => DS.tailR h) hD ?_; clear hHeld hK hD; intro hS; refine tq_any ?_ hS; clear hS; intro y hHeld; (try simp only [Act.put, List.setIfInBounds_toArray, List.set_cons_zero, List.set_cons_succ]))
      | (refine tq_one (by simp only [List.getElem?_toArray, List.getElem?_cons_succ, List.getElem?_cons_zero]; first | done | rfl) (by rfl) (fun K hK => ?_); have hrm := hHeld.2.2.2 _ (List.mem_cons_self); obtain ⟨hGg, hGz, ⟨c0, c1, c2, c3, c4, c5, c6, hHo⟩, hLo⟩ := hrm; obtain ⟨q0, q1, q2, q3, q4, q5, q6⟩ := hHo.seven; obtain ⟨t0, t1, t2, t3, t4, t5, t6⟩ := hLo.seven; go_simp; refine hK.out _ _ _ (fun _ h => h) (hHeld.write7 hlt hB hGz (by first | (simp; done) | (simp at hHl ⊢; omega) | (simp at hRl ⊢; omega)) _ _ _ _ _ _ _) ?_; intro hHeld2; refine tq_end ?_; go_wp2; go_meet; exact ⟨_, kk, nm, rfl, hk6, hnm, by omega, ((hHeld.write7 hlt hB hGz (by first | (simp; done) | (simp at hHl ⊢; omega) | (simp at hRl ⊢; omega)) _ _ _ _ _ _ _).noH).add hGg hGz (hHo.put7M _ _ _ _ _ _ _)⟩))
  case rest =>
    obtain ⟨G, kk, nm, rfl, hk6, hnm, hG, hD⟩ := hcut
    clear m0 hc
    have hkk : kk = 1 ∨ kk = 2 ∨ kk = 3 ∨ kk = 4 ∨ kk = 5 ∨ kk = 6 := by omega
    clear hk6
    rcases hkk with rfl | rfl | rfl | rfl | rfl | rfl
    · obtain ⟨hGg, hGz, hHo⟩ := hD.2.2.1 _ (List.mem_cons_self)
      obtain ⟨-, -, -, hLo⟩ := hD.2.2.2 G (by simp)
      obtain ⟨-, -, ⟨x0, x1, x2, x3, x4, x5, x6, hRo⟩, hRl⟩ := hD.2.2.2 w.heap.size (by simp)
      obtain ⟨d0, d1, d2, d3, d4, d5, d6⟩ := hHo.seven
      obtain ⟨t0, t1, t2, t3, t4, t5, t6⟩ := hLo.seven
      obtain ⟨r0, r1, r2, r3, r4, r5, r6⟩ := hRo.seven
      obtain ⟨s0, s1, s2, s3, s4, s5, s6⟩ := hRl.seven
      have zG := hHo.1
      have zR := hRo.1
      clear hHo hLo hRo hRl
      go_wp2_with fail
      refine (l1Below_any B g _ hD.1 5 (by omega) (by omega)).mono ?_
      rintro r w1 ⟨m, hm0, hm1, rfl, hc1, hg1⟩
      replace hD := hD.by hc1 hg1
      clear hc1 hg1
      clear d0 d1 d2 d3 d4 d5 d6 t0 t1 t2 t3 t4 t5 t6 r0 r1 r2 r3 r4 r5 r6 s0 s1 s2 s3 s4 s5 s6 zG zR hGg hGz x0 x1 x2 x3 x4 x5 x6
      obtain ⟨hGg, hGz, hHo⟩ := hD.2.2.1 _ (List.mem_cons_self)
      obtain ⟨-, -, -, hLo⟩ := hD.2.2.2 G (by simp)
      obtain ⟨-, -, ⟨x0, x1, x2, x3, x4, x5, x6, hRo⟩, hRl⟩ := hD.2.2.2 w.heap.size (by simp)
      obtain ⟨d0, d1, d2, d3, d4, d5, d6⟩ := hHo.seven
      obtain ⟨t0, t1, t2, t3, t4, t5, t6⟩ := hLo.seven
      obtain ⟨r0, r1, r2, r3, r4, r5, r6⟩ := hRo.seven
      obtain ⟨s0, s1, s2, s3, s4, s5, s6⟩ := hRl.seven
      have zG := hHo.1
      have zR := hRo.1
      clear hHo hLo hRo hRl
      go_wp2
      replace hD := (hD.put hlt hB (by simp) 6 (by omega) (.int .i64 (m / 4)))
      simp only [List.setIfInBounds_toArray, List.set_cons_zero, List.set_cons_succ] at hD
      obtain ⟨-, -, ⟨x0, x1, x2, x3, x4, x5, x6, hRo⟩, -⟩ := hD.2.2.2 w.heap.size (by simp)
      have hF := hD.write7 hlt hB (Nat.le_refl _) (by simp; omega)
      exact bodyPost_ret (results_l3 ⟨1, nm, ⟨0, 0, 0⟩, ⟨#[]⟩, m / 4⟩ w.heap.size _ _ rfl (hRo.put7M _ _ _ _ _ _ _)) rfl ⟨_, ⟨hnm, by show (0 : Nat) ≤ 64; omega⟩, rfl, (hF _ _ _ _ _ _ _).1, (hF _ _ _ _ _ _ _).2.1⟩
    · obtain ⟨hGg, hGz, hHo⟩ := hD.2.2.1 _ (List.mem_cons_self)
      obtain ⟨-, -, -, hLo⟩ := hD.2.2.2 G (by simp)
      obtain ⟨-, -, ⟨x0, x1, x2, x3, x4, x5, x6, hRo⟩, hRl⟩ := hD.2.2.2 w.heap.size (by simp)
      obtain ⟨d0, d1, d2, d3, d4, d5, d6⟩ := hHo.seven
      obtain ⟨t0, t1, t2, t3, t4, t5, t6⟩ := hLo.seven
      obtain ⟨r0, r1, r2, r3, r4, r5, r6⟩ := hRo.seven
      obtain ⟨s0, s1, s2, s3, s4, s5, s6⟩ := hRl.seven
      have zG := hHo.1
      have zR := hRo.1
      clear hHo hLo hRo hRl
      go_wp2_with fail
      refine (l2Draw_any B g _ hD.1).mono ?_
      rintro r w1 ⟨e, he, rfl, hc1, hg1⟩
      replace hD := hD.by hc1 hg1
      clear hc1 hg1
      clear d0 d1 d2 d3 d4 d5 d6 t0 t1 t2 t3 t4 t5 t6 r0 r1 r2 r3 r4 r5 r6 s0 s1 s2 s3 s4 s5 s6 zG zR hGg hGz x0 x1 x2 x3 x4 x5 x6
      obtain ⟨hGg, hGz, hHo⟩ := hD.2.2.1 _ (List.mem_cons_self)
      obtain ⟨-, -, -, hLo⟩ := hD.2.2.2 G (by simp)
      obtain ⟨-, -, ⟨x0, x1, x2, x3, x4, x5, x6, hRo⟩, hRl⟩ := hD.2.2.2 w.heap.size (by simp)
      obtain ⟨d0, d1, d2, d3, d4, d5, d6⟩ := hHo.seven
      obtain ⟨t0, t1, t2, t3, t4, t5, t6⟩ := hLo.seven
      obtain ⟨r0, r1, r2, r3, r4, r5, r6⟩ := hRo.seven
      obtain ⟨s0, s1, s2, s3, s4, s5, s6⟩ := hRl.seven
      have zG := hHo.1
      have zR := hRo.1
      clear hHo hLo hRo hRl
      go_wp2_with fail
      replace hD := (((hD.put hlt hB (by simp) 2 (by omega) (.int .i64 e.ma)).put hlt hB (by simp) 3 (by omega) (.int .i64 e.mi)).put hlt hB (by simp) 4 (by omega) (.int .i64 e.pa))
      simp only [List.setIfInBounds_toArray, List.set_cons_zero, List.set_cons_succ] at hD
      refine (l1DrawPage_any B g _ hD.1).mono ?_
      rintro r w1 ⟨pg, hpg, rfl, hc1, hg1⟩
      replace hD := hD.by hc1 hg1
      clear hc1 hg1
      clear d0 d1 d2 d3 d4 d5 d6 t0 t1 t2 t3 t4 t5 t6 r0 r1 r2 r3 r4 r5 r6 s0 s1 s2 s3 s4 s5 s6 zG zR hGg hGz x0 x1 x2 x3 x4 x5 x6
      obtain ⟨hGg, hGz, hHo⟩ := hD.2.2.1 _ (List.mem_cons_self)
      obtain ⟨-, -, -, hLo⟩ := hD.2.2.2 G (by simp)
      obtain ⟨-, -, ⟨x0, x1, x2, x3, x4, x5, x6, hRo⟩, hRl⟩ := hD.2.2.2 w.heap.size (by simp)
      obtain ⟨d0, d1, d2, d3, d4, d5, d6⟩ := hHo.seven
      obtain ⟨t0, t1, t2, t3, t4, t5, t6⟩ := hLo.seven
      obtain ⟨r0, r1, r2, r3, r4, r5, r6⟩ := hRo.seven
      obtain ⟨s0, s1, s2, s3, s4, s5, s6⟩ := hRl.seven
      have zG := hHo.1
      have zR := hRo.1
      clear hHo hLo hRo hRl
      go_wp2_with fail
      replace hD := (hD.put hlt hB (by simp) 5 (by omega) (.string pg))
      simp only [List.setIfInBounds_toArray, List.set_cons_zero, List.set_cons_succ] at hD
      refine (l1Below_any B g _ hD.1 5 (by omega) (by omega)).mono ?_
      rintro r w1 ⟨m, hm0, hm1, rfl, hc1, hg1⟩
      replace hD := hD.by hc1 hg1
      clear hc1 hg1
      clear d0 d1 d2 d3 d4 d5 d6 t0 t1 t2 t3 t4 t5 t6 r0 r1 r2 r3 r4 r5 r6 s0 s1 s2 s3 s4 s5 s6 zG zR hGg hGz x0 x1 x2 x3 x4 x5 x6
      obtain ⟨hGg, hGz, hHo⟩ := hD.2.2.1 _ (List.mem_cons_self)
      obtain ⟨-, -, -, hLo⟩ := hD.2.2.2 G (by simp)
      obtain ⟨-, -, ⟨x0, x1, x2, x3, x4, x5, x6, hRo⟩, hRl⟩ := hD.2.2.2 w.heap.size (by simp)
      obtain ⟨d0, d1, d2, d3, d4, d5, d6⟩ := hHo.seven
      obtain ⟨t0, t1, t2, t3, t4, t5, t6⟩ := hLo.seven
      obtain ⟨r0, r1, r2, r3, r4, r5, r6⟩ := hRo.seven
      obtain ⟨s0, s1, s2, s3, s4, s5, s6⟩ := hRl.seven
      have zG := hHo.1
      have zR := hRo.1
      clear hHo hLo hRo hRl
      go_wp2
      replace hD := (hD.put hlt hB (by simp) 6 (by omega) (.int .i64 (m / 4)))
      simp only [List.setIfInBounds_toArray, List.set_cons_zero, List.set_cons_succ] at hD
      obtain ⟨-, -, ⟨x0, x1, x2, x3, x4, x5, x6, hRo⟩, -⟩ := hD.2.2.2 w.heap.size (by simp)
      have hF := hD.write7 hlt hB (Nat.le_refl _) (by simp; omega)
      exact bodyPost_ret (results_l3 ⟨2, nm, ⟨e.ma, e.mi, e.pa⟩, pg, m / 4⟩ w.heap.size _ _ rfl (hRo.put7M _ _ _ _ _ _ _)) rfl ⟨_, ⟨hnm, hpg⟩, rfl, (hF _ _ _ _ _ _ _).1, (hF _ _ _ _ _ _ _).2.1⟩
    · obtain ⟨hGg, hGz, hHo⟩ := hD.2.2.1 _ (List.mem_cons_self)
      obtain ⟨-, -, -, hLo⟩ := hD.2.2.2 G (by simp)
      obtain ⟨-, -, ⟨x0, x1, x2, x3, x4, x5, x6, hRo⟩, hRl⟩ := hD.2.2.2 w.heap.size (by simp)
      obtain ⟨d0, d1, d2, d3, d4, d5, d6⟩ := hHo.seven
      obtain ⟨t0, t1, t2, t3, t4, t5, t6⟩ := hLo.seven
      obtain ⟨r0, r1, r2, r3, r4, r5, r6⟩ := hRo.seven
      obtain ⟨s0, s1, s2, s3, s4, s5, s6⟩ := hRl.seven
      have zG := hHo.1
      have zR := hRo.1
      clear hHo hLo hRo hRl
      go_wp2_with fail
      refine (l2Draw_any B g _ hD.1).mono ?_
      rintro r w1 ⟨e, he, rfl, hc1, hg1⟩
      replace hD := hD.by hc1 hg1
      clear hc1 hg1
      clear d0 d1 d2 d3 d4 d5 d6 t0 t1 t2 t3 t4 t5 t6 r0 r1 r2 r3 r4 r5 r6 s0 s1 s2 s3 s4 s5 s6 zG zR hGg hGz x0 x1 x2 x3 x4 x5 x6
      obtain ⟨hGg, hGz, hHo⟩ := hD.2.2.1 _ (List.mem_cons_self)
      obtain ⟨-, -, -, hLo⟩ := hD.2.2.2 G (by simp)
      obtain ⟨-, -, ⟨x0, x1, x2, x3, x4, x5, x6, hRo⟩, hRl⟩ := hD.2.2.2 w.heap.size (by simp)
      obtain ⟨d0, d1, d2, d3, d4, d5, d6⟩ := hHo.seven
      obtain ⟨t0, t1, t2, t3, t4, t5, t6⟩ := hLo.seven
      obtain ⟨r0, r1, r2, r3, r4, r5, r6⟩ := hRo.seven
      obtain ⟨s0, s1, s2, s3, s4, s5, s6⟩ := hRl.seven
      have zG := hHo.1
      have zR := hRo.1
      clear hHo hLo hRo hRl
      go_wp2_with fail
      replace hD := (((hD.put hlt hB (by simp) 2 (by omega) (.int .i64 e.ma)).put hlt hB (by simp) 3 (by omega) (.int .i64 e.mi)).put hlt hB (by simp) 4 (by omega) (.int .i64 e.pa))
      simp only [List.setIfInBounds_toArray, List.set_cons_zero, List.set_cons_succ] at hD
      refine (l1Below_any B g _ hD.1 5 (by omega) (by omega)).mono ?_
      rintro r w1 ⟨m, hm0, hm1, rfl, hc1, hg1⟩
      replace hD := hD.by hc1 hg1
      clear hc1 hg1
      clear d0 d1 d2 d3 d4 d5 d6 t0 t1 t2 t3 t4 t5 t6 r0 r1 r2 r3 r4 r5 r6 s0 s1 s2 s3 s4 s5 s6 zG zR hGg hGz x0 x1 x2 x3 x4 x5 x6
      obtain ⟨hGg, hGz, hHo⟩ := hD.2.2.1 _ (List.mem_cons_self)
      obtain ⟨-, -, -, hLo⟩ := hD.2.2.2 G (by simp)
      obtain ⟨-, -, ⟨x0, x1, x2, x3, x4, x5, x6, hRo⟩, hRl⟩ := hD.2.2.2 w.heap.size (by simp)
      obtain ⟨d0, d1, d2, d3, d4, d5, d6⟩ := hHo.seven
      obtain ⟨t0, t1, t2, t3, t4, t5, t6⟩ := hLo.seven
      obtain ⟨r0, r1, r2, r3, r4, r5, r6⟩ := hRo.seven
      obtain ⟨s0, s1, s2, s3, s4, s5, s6⟩ := hRl.seven
      have zG := hHo.1
      have zR := hRo.1
      clear hHo hLo hRo hRl
      go_wp2
      replace hD := (hD.put hlt hB (by simp) 6 (by omega) (.int .i64 (m / 4)))
      simp only [List.setIfInBounds_toArray, List.set_cons_zero, List.set_cons_succ] at hD
      obtain ⟨-, -, ⟨x0, x1, x2, x3, x4, x5, x6, hRo⟩, -⟩ := hD.2.2.2 w.heap.size (by simp)
      have hF := hD.write7 hlt hB (Nat.le_refl _) (by simp; omega)
      exact bodyPost_ret (results_l3 ⟨3, nm, ⟨e.ma, e.mi, e.pa⟩, ⟨#[]⟩, m / 4⟩ w.heap.size _ _ rfl (hRo.put7M _ _ _ _ _ _ _)) rfl ⟨_, ⟨hnm, by show (0 : Nat) ≤ 64; omega⟩, rfl, (hF _ _ _ _ _ _ _).1, (hF _ _ _ _ _ _ _).2.1⟩
    · obtain ⟨hGg, hGz, hHo⟩ := hD.2.2.1 _ (List.mem_cons_self)
      obtain ⟨-, -, -, hLo⟩ := hD.2.2.2 G (by simp)
      obtain ⟨-, -, ⟨x0, x1, x2, x3, x4, x5, x6, hRo⟩, hRl⟩ := hD.2.2.2 w.heap.size (by simp)
      obtain ⟨d0, d1, d2, d3, d4, d5, d6⟩ := hHo.seven
      obtain ⟨t0, t1, t2, t3, t4, t5, t6⟩ := hLo.seven
      obtain ⟨r0, r1, r2, r3, r4, r5, r6⟩ := hRo.seven
      obtain ⟨s0, s1, s2, s3, s4, s5, s6⟩ := hRl.seven
      have zG := hHo.1
      have zR := hRo.1
      clear hHo hLo hRo hRl
      go_wp2_with fail
      refine (l2Draw_any B g _ hD.1).mono ?_
      rintro r w1 ⟨e, he, rfl, hc1, hg1⟩
      replace hD := hD.by hc1 hg1
      clear hc1 hg1
      clear d0 d1 d2 d3 d4 d5 d6 t0 t1 t2 t3 t4 t5 t6 r0 r1 r2 r3 r4 r5 r6 s0 s1 s2 s3 s4 s5 s6 zG zR hGg hGz x0 x1 x2 x3 x4 x5 x6
      obtain ⟨hGg, hGz, hHo⟩ := hD.2.2.1 _ (List.mem_cons_self)
      obtain ⟨-, -, -, hLo⟩ := hD.2.2.2 G (by simp)
      obtain ⟨-, -, ⟨x0, x1, x2, x3, x4, x5, x6, hRo⟩, hRl⟩ := hD.2.2.2 w.heap.size (by simp)
      obtain ⟨d0, d1, d2, d3, d4, d5, d6⟩ := hHo.seven
      obtain ⟨t0, t1, t2, t3, t4, t5, t6⟩ := hLo.seven
      obtain ⟨r0, r1, r2, r3, r4, r5, r6⟩ := hRo.seven
      obtain ⟨s0, s1, s2, s3, s4, s5, s6⟩ := hRl.seven
      have zG := hHo.1
      have zR := hRo.1
      clear hHo hLo hRo hRl
      go_wp2_with fail
      replace hD := (((hD.put hlt hB (by simp) 2 (by omega) (.int .i64 e.ma)).put hlt hB (by simp) 3 (by omega) (.int .i64 e.mi)).put hlt hB (by simp) 4 (by omega) (.int .i64 e.pa))
      simp only [List.setIfInBounds_toArray, List.set_cons_zero, List.set_cons_succ] at hD
      refine (l1Below_any B g _ hD.1 5 (by omega) (by omega)).mono ?_
      rintro r w1 ⟨m, hm0, hm1, rfl, hc1, hg1⟩
      replace hD := hD.by hc1 hg1
      clear hc1 hg1
      clear d0 d1 d2 d3 d4 d5 d6 t0 t1 t2 t3 t4 t5 t6 r0 r1 r2 r3 r4 r5 r6 s0 s1 s2 s3 s4 s5 s6 zG zR hGg hGz x0 x1 x2 x3 x4 x5 x6
      obtain ⟨hGg, hGz, hHo⟩ := hD.2.2.1 _ (List.mem_cons_self)
      obtain ⟨-, -, -, hLo⟩ := hD.2.2.2 G (by simp)
      obtain ⟨-, -, ⟨x0, x1, x2, x3, x4, x5, x6, hRo⟩, hRl⟩ := hD.2.2.2 w.heap.size (by simp)
      obtain ⟨d0, d1, d2, d3, d4, d5, d6⟩ := hHo.seven
      obtain ⟨t0, t1, t2, t3, t4, t5, t6⟩ := hLo.seven
      obtain ⟨r0, r1, r2, r3, r4, r5, r6⟩ := hRo.seven
      obtain ⟨s0, s1, s2, s3, s4, s5, s6⟩ := hRl.seven
      have zG := hHo.1
      have zR := hRo.1
      clear hHo hLo hRo hRl
      go_wp2
      replace hD := (hD.put hlt hB (by simp) 6 (by omega) (.int .i64 (m / 4)))
      simp only [List.setIfInBounds_toArray, List.set_cons_zero, List.set_cons_succ] at hD
      obtain ⟨-, -, ⟨x0, x1, x2, x3, x4, x5, x6, hRo⟩, -⟩ := hD.2.2.2 w.heap.size (by simp)
      have hF := hD.write7 hlt hB (Nat.le_refl _) (by simp; omega)
      exact bodyPost_ret (results_l3 ⟨4, nm, ⟨e.ma, e.mi, e.pa⟩, ⟨#[]⟩, m / 4⟩ w.heap.size _ _ rfl (hRo.put7M _ _ _ _ _ _ _)) rfl ⟨_, ⟨hnm, by show (0 : Nat) ≤ 64; omega⟩, rfl, (hF _ _ _ _ _ _ _).1, (hF _ _ _ _ _ _ _).2.1⟩
    · obtain ⟨hGg, hGz, hHo⟩ := hD.2.2.1 _ (List.mem_cons_self)
      obtain ⟨-, -, -, hLo⟩ := hD.2.2.2 G (by simp)
      obtain ⟨-, -, ⟨x0, x1, x2, x3, x4, x5, x6, hRo⟩, hRl⟩ := hD.2.2.2 w.heap.size (by simp)
      obtain ⟨d0, d1, d2, d3, d4, d5, d6⟩ := hHo.seven
      obtain ⟨t0, t1, t2, t3, t4, t5, t6⟩ := hLo.seven
      obtain ⟨r0, r1, r2, r3, r4, r5, r6⟩ := hRo.seven
      obtain ⟨s0, s1, s2, s3, s4, s5, s6⟩ := hRl.seven
      have zG := hHo.1
      have zR := hRo.1
      clear hHo hLo hRo hRl
      go_wp2_with fail
      refine (l2Draw_any B g _ hD.1).mono ?_
      rintro r w1 ⟨e, he, rfl, hc1, hg1⟩
      replace hD := hD.by hc1 hg1
      clear hc1 hg1
      clear d0 d1 d2 d3 d4 d5 d6 t0 t1 t2 t3 t4 t5 t6 r0 r1 r2 r3 r4 r5 r6 s0 s1 s2 s3 s4 s5 s6 zG zR hGg hGz x0 x1 x2 x3 x4 x5 x6
      obtain ⟨hGg, hGz, hHo⟩ := hD.2.2.1 _ (List.mem_cons_self)
      obtain ⟨-, -, -, hLo⟩ := hD.2.2.2 G (by simp)
      obtain ⟨-, -, ⟨x0, x1, x2, x3, x4, x5, x6, hRo⟩, hRl⟩ := hD.2.2.2 w.heap.size (by simp)
      obtain ⟨d0, d1, d2, d3, d4, d5, d6⟩ := hHo.seven
      obtain ⟨t0, t1, t2, t3, t4, t5, t6⟩ := hLo.seven
      obtain ⟨r0, r1, r2, r3, r4, r5, r6⟩ := hRo.seven
      obtain ⟨s0, s1, s2, s3, s4, s5, s6⟩ := hRl.seven
      have zG := hHo.1
      have zR := hRo.1
      clear hHo hLo hRo hRl
      go_wp2
      replace hD := (((hD.put hlt hB (by simp) 2 (by omega) (.int .i64 e.ma)).put hlt hB (by simp) 3 (by omega) (.int .i64 e.mi)).put hlt hB (by simp) 4 (by omega) (.int .i64 e.pa))
      simp only [List.setIfInBounds_toArray, List.set_cons_zero, List.set_cons_succ] at hD
      obtain ⟨-, -, ⟨x0, x1, x2, x3, x4, x5, x6, hRo⟩, -⟩ := hD.2.2.2 w.heap.size (by simp)
      have hF := hD.write7 hlt hB (Nat.le_refl _) (by simp; omega)
      exact bodyPost_ret (results_l3 ⟨5, nm, ⟨e.ma, e.mi, e.pa⟩, ⟨#[]⟩, 0⟩ w.heap.size _ _ rfl (hRo.put7M _ _ _ _ _ _ _)) rfl ⟨_, ⟨hnm, by show (0 : Nat) ≤ 64; omega⟩, rfl, (hF _ _ _ _ _ _ _).1, (hF _ _ _ _ _ _ _).2.1⟩
    · obtain ⟨hGg, hGz, hHo⟩ := hD.2.2.1 _ (List.mem_cons_self)
      obtain ⟨-, -, -, hLo⟩ := hD.2.2.2 G (by simp)
      obtain ⟨-, -, ⟨x0, x1, x2, x3, x4, x5, x6, hRo⟩, hRl⟩ := hD.2.2.2 w.heap.size (by simp)
      obtain ⟨d0, d1, d2, d3, d4, d5, d6⟩ := hHo.seven
      obtain ⟨t0, t1, t2, t3, t4, t5, t6⟩ := hLo.seven
      obtain ⟨r0, r1, r2, r3, r4, r5, r6⟩ := hRo.seven
      obtain ⟨s0, s1, s2, s3, s4, s5, s6⟩ := hRl.seven
      have zG := hHo.1
      have zR := hRo.1
      clear hHo hLo hRo hRl
      go_wp2_with fail
      refine (l1Below_any B g _ hD.1 2 (by omega) (by omega)).mono ?_
      rintro r w1 ⟨n, hn0, hn1, rfl, hc1, hg1⟩
      replace hD := hD.by hc1 hg1
      clear hc1 hg1
      clear d0 d1 d2 d3 d4 d5 d6 t0 t1 t2 t3 t4 t5 t6 r0 r1 r2 r3 r4 r5 r6 s0 s1 s2 s3 s4 s5 s6 zG zR hGg hGz x0 x1 x2 x3 x4 x5 x6
      obtain ⟨hGg, hGz, hHo⟩ := hD.2.2.1 _ (List.mem_cons_self)
      obtain ⟨-, -, -, hLo⟩ := hD.2.2.2 G (by simp)
      obtain ⟨-, -, ⟨x0, x1, x2, x3, x4, x5, x6, hRo⟩, hRl⟩ := hD.2.2.2 w.heap.size (by simp)
      obtain ⟨d0, d1, d2, d3, d4, d5, d6⟩ := hHo.seven
      obtain ⟨t0, t1, t2, t3, t4, t5, t6⟩ := hLo.seven
      obtain ⟨r0, r1, r2, r3, r4, r5, r6⟩ := hRo.seven
      obtain ⟨s0, s1, s2, s3, s4, s5, s6⟩ := hRl.seven
      have zG := hHo.1
      have zR := hRo.1
      clear hHo hLo hRo hRl
      go_wp2_with fail
      replace hD := (hD.put hlt hB (by simp) 2 (by omega) (.int .i64 n))
      simp only [List.setIfInBounds_toArray, List.set_cons_zero, List.set_cons_succ] at hD
      refine (l1Below_any B g _ hD.1 5 (by omega) (by omega)).mono ?_
      rintro r w1 ⟨m, hm0, hm1, rfl, hc1, hg1⟩
      replace hD := hD.by hc1 hg1
      clear hc1 hg1
      clear d0 d1 d2 d3 d4 d5 d6 t0 t1 t2 t3 t4 t5 t6 r0 r1 r2 r3 r4 r5 r6 s0 s1 s2 s3 s4 s5 s6 zG zR hGg hGz x0 x1 x2 x3 x4 x5 x6
      obtain ⟨hGg, hGz, hHo⟩ := hD.2.2.1 _ (List.mem_cons_self)
      obtain ⟨-, -, -, hLo⟩ := hD.2.2.2 G (by simp)
      obtain ⟨-, -, ⟨x0, x1, x2, x3, x4, x5, x6, hRo⟩, hRl⟩ := hD.2.2.2 w.heap.size (by simp)
      obtain ⟨d0, d1, d2, d3, d4, d5, d6⟩ := hHo.seven
      obtain ⟨t0, t1, t2, t3, t4, t5, t6⟩ := hLo.seven
      obtain ⟨r0, r1, r2, r3, r4, r5, r6⟩ := hRo.seven
      obtain ⟨s0, s1, s2, s3, s4, s5, s6⟩ := hRl.seven
      have zG := hHo.1
      have zR := hRo.1
      clear hHo hLo hRo hRl
      go_wp2
      replace hD := (hD.put hlt hB (by simp) 6 (by omega) (.int .i64 (m / 4)))
      simp only [List.setIfInBounds_toArray, List.set_cons_zero, List.set_cons_succ] at hD
      obtain ⟨-, -, ⟨x0, x1, x2, x3, x4, x5, x6, hRo⟩, -⟩ := hD.2.2.2 w.heap.size (by simp)
      have hF := hD.write7 hlt hB (Nat.le_refl _) (by simp; omega)
      exact bodyPost_ret (results_l3 ⟨6, nm, ⟨n, 0, 0⟩, ⟨#[]⟩, m / 4⟩ w.heap.size _ _ rfl (hRo.put7M _ _ _ _ _ _ _)) rfl ⟨_, ⟨hnm, by show (0 : Nat) ≤ 64; omega⟩, rfl, (hF _ _ _ _ _ _ _).1, (hF _ _ _ _ _ _ _).2.1⟩
end Go.Proofs.YtdcdalbbjfjadaaGreatDoor
