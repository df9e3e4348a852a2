/- Proved, in parts: Proved: nothing; what a reply's cells are. Proved: the laws' own test tells two replies alike that are; the laws' helper counts a deed; they write nothing that was there. Proved: the model's and the program's tests of an order answer a plain Lean function; the laws' helpers that count and copy an order; nothing that was there is written. Condition: texts of at most what memory has. Proved: an operation whose run is told walks on with its value; no program is named here; no condition. Proved: the model's and the program's tests of an entry answer a plain Lean function; nothing that was there is written. Condition: texts of at most what memory has. Proved: where the laws' copy of an order leaves the world. No condition. Proved: the laws' own test tells an edition like itself; it writes nothing that was there. No condition. Proved: the laws' own test tells a deed like itself; it writes nothing that was there. No condition. Proved: the laws' helpers on one order (its size, its copy, its likeness) answer plain Lean functions; they write nothing that was there. Condition: texts of at most a million where the size is told. Proved: the laws' helpers on one entry (its size, its copy, its likeness) answer plain Lean functions; they write nothing that was there. Condition: texts of at most a million where the size is told. Proved: facts on a memory that is told by a list of blocks and what they hold: they stay behind calls, new blocks and writes into one of them; no program's function is named here; no condition. Proved: facts on slices whose elements are records of a fixed number of cells: what they hold stays behind calls and new blocks; no program's function is named here; no condition. Proved: what copies and works are, in plain Lean; no program is named here; no condition. -/
import Derived.Test.YtkpbfocnokbmiaaPart01
import Derived.Test.YtkpbfocnokbmiaaPart04
import Derived.Test.YtkpbfocnokbmiaaPart06
import Derived.Test.YtkpbfocnokbmiaaPart02
import Derived.Test.YtkpbfocnokbmiaaPart03
import Derived.Laws.OwnMore
import Derived.Laws.AppendOwn
import Derived.Deep.AppendLies
namespace Go.Proofs.Ytkpbfocnokbmiaa
open Go.RowKit
end Go.Proofs.Ytkpbfocnokbmiaa
namespace Go.Proofs.Ytkpbfocnokbmiaa
open Go.RowKit
set_option maxRecDepth 20000

end Go.Proofs.Ytkpbfocnokbmiaa
namespace Go.Proofs.Ytkpbfocnokbmiaa
open Go.RowKit
set_option maxRecDepth 20000
theorem l6Client_any (n : Int) (w : World) : Calls Try.prog 105 #[.int .i64 n] w fun e w' => e = .returned (.bool (M.inI n 0 3)) ∧ w = w' := by
  go_enter Try.func105, Try.ntmps105
  go_wp2_with fail
  refine (in_i _ _ _ _).mono ?_
  rintro e w' ⟨rfl, rfl⟩
  go_wp2
  go_ret
  exact ⟨rfl, rfl⟩
theorem clientOk_any (n : Int) (w : World) : Calls Try.prog 93 #[.int .i64 n] w fun e w' => e = .returned (.bool (M.inI n 0 3)) ∧ w = w' := by
  by_cases h1 : 0 ≤ n
  · go_enter Try.func93, Try.ntmps93
    go_wp2
    go_ret
    exact ⟨by simp [M.inI, h1], rfl⟩
  · go_enter Try.func93, Try.ntmps93
    go_wp2
    go_ret
    exact ⟨by simp [M.inI]; omega, rfl⟩
theorem seqOk_any (n : Int) (w : World) : Calls Try.prog 94 #[.int .i64 n] w fun e w' => e = .returned (.bool (M.inI n 1 1000)) ∧ w = w' := by
  by_cases h1 : 1 ≤ n
  · go_enter Try.func94, Try.ntmps94
    go_wp2
    go_ret
    exact ⟨by simp [M.inI, h1], rfl⟩
  · go_enter Try.func94, Try.ntmps94
    go_wp2
    go_ret
    exact ⟨by simp [M.inI]; omega, rfl⟩

set_option maxHeartbeats 2000000 in
theorem specOrderOk (o : M.Or) (w : World) (hn : o.deed.name.size ≤ maxLen) (hp : o.deed.page.size ≤ maxLen) :
    Calls Try.prog 97 #[orV o] w fun r w' => r = .returned (.bool (M.orderOk o)) ∧ Below w.heap.size w w' := by
  have b0 := (Below.refl w.heap.size w).alloc (Nat.le_refl _) (.cells (orC o) 35)
  rcases h1 : M.inI o.client 0 3 with _ | _
  · have HE : Hid (M.orderOk o = false) := Lib.hid (by simp [M.orderOk, h1])
    go_enter Try.func97, Try.ntmps97
    go_wp2_with fail
    have hc := l6Client_any o.client (w.alloc (.cells (orC o) 35))
    rw [h1] at hc
    refine hc.mono ?_
    rintro e w' ⟨rfl, rfl⟩
    clear hc h1
    go_wp2
    go_ret
    exact ⟨by rw [HE.out]; rfl, b0⟩
  · rcases h2 : M.inI o.seq 1 1000 with _ | _
    · have HE : Hid (M.orderOk o = false) := Lib.hid (by simp [M.orderOk, h2])
      go_enter Try.func97, Try.ntmps97
      go_wp2_with fail
      have hc := l6Client_any o.client (w.alloc (.cells (orC o) 35))
      rw [h1] at hc
      refine hc.mono ?_
      rintro e w' ⟨rfl, rfl⟩
      clear hc h1
      go_wp2_with fail
      have hc := in_i o.seq 1 1000 (w.alloc (.cells (orC o) 35))
      rw [h2] at hc
      refine hc.mono ?_
      rintro e w' ⟨rfl, rfl⟩
      clear hc h2
      go_wp2
      go_ret
      exact ⟨by rw [HE.out]; rfl, b0⟩
    · have HE : Hid (M.orderOk o = M.deedOk o.deed) := Lib.hid (by simp [M.orderOk, h1, h2])
      go_enter Try.func97, Try.ntmps97
      go_wp2_with fail
      have hc := l6Client_any o.client (w.alloc (.cells (orC o) 35))
      rw [h1] at hc
      refine hc.mono ?_
      rintro e w' ⟨rfl, rfl⟩
      clear hc h1
      go_wp2_with fail
      have hc := in_i o.seq 1 1000 (w.alloc (.cells (orC o) 35))
      rw [h2] at hc
      refine hc.mono ?_
      rintro e w' ⟨rfl, rfl⟩
      clear hc h2
      go_wp2_with fail
      refine (specDeedOk o.deed _ hn hp).mono ?_
      rintro e w1 ⟨rfl, b1⟩
      go_wp2
      go_ret
      exact ⟨by rw [HE.out]; rfl, next b0 b1⟩

set_option maxHeartbeats 2000000 in
theorem implOrderOk (o : M.Or) (w : World) (hn : o.deed.name.size ≤ maxLen) (hp : o.deed.page.size ≤ maxLen) :
    Calls Try.prog 83 #[orV o] w fun r w' => r = .returned (.bool (M.orderOk o)) ∧ Below w.heap.size w w' := by
  have b0 := (Below.refl w.heap.size w).alloc (Nat.le_refl _) (.cells (orC o) 35)
  rcases h1 : M.inI o.client 0 3 with _ | _
  · have HE : Hid (M.orderOk o = false) := Lib.hid (by simp [M.orderOk, h1])
    go_enter Try.func83, Try.ntmps83
    go_wp2_with fail
    have hc := clientOk_any o.client (w.alloc (.cells (orC o) 35))
    rw [h1] at hc
    refine hc.mono ?_
    rintro e w' ⟨rfl, rfl⟩
    clear hc h1
    go_wp2
    go_ret
    exact ⟨by rw [HE.out]; rfl, b0⟩
  · rcases h2 : M.inI o.seq 1 1000 with _ | _
    · have HE : Hid (M.orderOk o = false) := Lib.hid (by simp [M.orderOk, h2])
      go_enter Try.func83, Try.ntmps83
      go_wp2_with fail
      have hc := clientOk_any o.client (w.alloc (.cells (orC o) 35))
      rw [h1] at hc
      refine hc.mono ?_
      rintro e w' ⟨rfl, rfl⟩
      clear hc h1
      go_wp2_with fail
      have hc := seqOk_any o.seq (w.alloc (.cells (orC o) 35))
      rw [h2] at hc
      refine hc.mono ?_
      rintro e w' ⟨rfl, rfl⟩
      clear hc h2
      go_wp2
      go_ret
      exact ⟨by rw [HE.out]; rfl, b0⟩
    · have HE : Hid (M.orderOk o = M.deedOk o.deed) := Lib.hid (by simp [M.orderOk, h1, h2])
      go_enter Try.func83, Try.ntmps83
      go_wp2_with fail
      have hc := clientOk_any o.client (w.alloc (.cells (orC o) 35))
      rw [h1] at hc
      refine hc.mono ?_
      rintro e w' ⟨rfl, rfl⟩
      clear hc h1
      go_wp2_with fail
      have hc := seqOk_any o.seq (w.alloc (.cells (orC o) 35))
      rw [h2] at hc
      refine hc.mono ?_
      rintro e w' ⟨rfl, rfl⟩
      clear hc h2
      go_wp2_with fail
      refine (implDeedOk o.deed _ hn hp).mono ?_
      rintro e w1 ⟨rfl, b1⟩
      go_wp2
      go_ret
      exact ⟨by rw [HE.out]; rfl, next b0 b1⟩

end Go.Proofs.Ytkpbfocnokbmiaa
namespace Go.Proofs.Ytkpbfocnokbmiaa
open Go Go.RowKit
theorem wpList_run {P : Program} {ops : Array Oper} {Q : Exit → Act → World → Prop} {o : Oper} {rest : List Oper} {a : Act} {w : World} {v : Value} (hw : Region.wanted o (yielded ops a.tmps) = true) (hr : (execOp a.eval o).run P w = .ok (.value v) w) (h : wpList P ops Q rest (a.put o.dst v) w) : wpList P ops Q (o :: rest) a w :=
  wpList_step fun K hK => by
    rw [if_pos hw]
    show o.upon P a K Q ((execOp a.eval o).run P w)
    rw [hr]
    exact hK _ _ h
end Go.Proofs.Ytkpbfocnokbmiaa
namespace Go.Proofs.Ytkpbfocnokbmiaa
open Go.RowKit
set_option maxRecDepth 20000
namespace M
def or0 : Or := ⟨0, 0, zeroDd⟩
def entryOk (e : En) : Bool := inI e.reign 1 1000 && (orEq e.order or0 || orderOk e.order)
end M
theorem l7Reign_any (n : Int) (w : World) : Calls Try.prog 96 #[.int .i64 n] w fun e w' => e = .returned (.bool (M.inI n 1 1000)) ∧ w = w' := by
  go_enter Try.func96, Try.ntmps96
  go_wp2_with fail
  refine (in_i _ _ _ _).mono ?_
  rintro e w' ⟨rfl, rfl⟩
  go_wp2
  go_ret
  exact ⟨rfl, rfl⟩
theorem reignOk_any (n : Int) (w : World) : Calls Try.prog 79 #[.int .i64 n] w fun e w' => e = .returned (.bool (M.inI n 1 1000)) ∧ w = w' := by
  by_cases h1 : 1 ≤ n
  · go_enter Try.func79, Try.ntmps79
    go_wp2
    go_ret
    exact ⟨by simp [M.inI, h1], rfl⟩
  · go_enter Try.func79, Try.ntmps79
    go_wp2
    go_ret
    exact ⟨by simp [M.inI]; omega, rfl⟩
/-- Which kind the program takes an entry for. -/
def kindI (e : M.En) : Int := if M.orEq e.order M.or0 then 0 else 1
set_option maxHeartbeats 4000000 in
theorem kindOf_any (e : M.En) (w : World) : Calls Try.prog 82 #[enV e] w fun r w' => r = .returned (.int .i64 (kindI e)) ∧ Below w.heap.size w w' := by
  have b0 := (Below.refl w.heap.size w).alloc (Nat.le_refl _) (.cells (enC e) 37)
  unfold kindI
  rcases hb : M.orEq e.order M.or0 with _ | _
  · go_enter Try.func82, Try.ntmps82
    go_wp2_with (refine wpList_run (by rfl) (oreql_read (a := e.order) (b := M.or0) rfl rfl rfl _) ?_; simp only [hb])
    go_ret
    exact ⟨rfl, b0⟩
  · go_enter Try.func82, Try.ntmps82
    go_wp2_with (refine wpList_run (by rfl) (oreql_read (a := e.order) (b := M.or0) rfl rfl rfl _) ?_; simp only [hb])
    go_ret
    exact ⟨rfl, b0⟩
set_option maxHeartbeats 4000000 in
theorem implEntryOk (e : M.En) (w : World) (hn : e.order.deed.name.size ≤ maxLen) (hp : e.order.deed.page.size ≤ maxLen) :
    Calls Try.prog 60 #[enV e] w fun r w' => r = .returned (.bool (M.entryOk e)) ∧ Below w.heap.size w w' := by
  have b0 := (Below.refl w.heap.size w).alloc (Nat.le_refl _) (.cells (enC e) 37)
  have h0 := holds_new w (enC e) 37
  rcases hb : M.orEq e.order M.or0 with _ | _
  · have hk : kindI e = 1 := by simp [kindI, hb]
    rcases ho : M.orderOk e.order with _ | _
    · have HE : Hid (M.entryOk e = false) := Lib.hid (by simp [M.entryOk, hb, ho])
      go_enter Try.func60, Try.ntmps60
      go_wp2_with fail
      have hc := kindOf_any e (w.alloc (.cells (enC e) 37))
      rw [hk] at hc
      refine hc.mono ?_
      rintro r w1 ⟨rfl, b1⟩
      replace h0 := h0.below b1
      replace b0 := next b0 b1
      obtain ⟨p0, p1, p2, p3, p4, p5, p6, p7, p8, p9⟩ := h0.ten
      clear hc b1 hk hb
      go_wp2_with fail
      have hc := implOrderOk e.order w1 hn hp
      rw [ho] at hc
      refine hc.mono ?_
      rintro r w2 ⟨rfl, b2⟩
      clear hc ho
      replace b0 := next b0 b2
      go_wp2
      go_ret
      exact ⟨(by first | (rw [HE.out]; done) | (rw [HE.out]; rfl)), b0⟩
    · have HE : Hid (M.entryOk e = M.inI e.reign 1 1000) := Lib.hid (by simp [M.entryOk, hb, ho])
      go_enter Try.func60, Try.ntmps60
      go_wp2_with fail
      have hc := kindOf_any e (w.alloc (.cells (enC e) 37))
      rw [hk] at hc
      refine hc.mono ?_
      rintro r w1 ⟨rfl, b1⟩
      replace h0 := h0.below b1
      replace b0 := next b0 b1
      obtain ⟨p0, p1, p2, p3, p4, p5, p6, p7, p8, p9⟩ := h0.ten
      clear hc b1 hk hb
      go_wp2_with fail
      have hc := implOrderOk e.order w1 hn hp
      rw [ho] at hc
      refine hc.mono ?_
      rintro r w2 ⟨rfl, b2⟩
      replace h0 := h0.below b2
      clear hc ho p0 p1 p2 p3 p4 p5 p6 p7 p8 p9
      obtain ⟨p0, -⟩ := h0.ten
      replace b0 := next b0 b2
      go_wp2_with fail
      refine (reignOk_any e.reign _).mono ?_
      rintro r w3 ⟨rfl, rfl⟩
      go_wp2
      go_ret
      exact ⟨(by first | (rw [HE.out]; done) | (rw [HE.out]; rfl)), b0⟩
  · have hk : kindI e = 0 := by simp [kindI, hb]
    have HE : Hid (M.entryOk e = M.inI e.reign 1 1000) := Lib.hid (by simp [M.entryOk, hb])
    go_enter Try.func60, Try.ntmps60
    go_wp2_with fail
    have hc := kindOf_any e (w.alloc (.cells (enC e) 37))
    rw [hk] at hc
    refine hc.mono ?_
    rintro r w1 ⟨rfl, b1⟩
    replace h0 := h0.below b1
    replace b0 := next b0 b1
    obtain ⟨p0, -⟩ := h0.ten
    clear hc b1 hk hb
    go_wp2_with fail
    refine (reignOk_any e.reign _).mono ?_
    rintro r w3 ⟨rfl, rfl⟩
    go_wp2
    go_ret
    exact ⟨(by first | (rw [HE.out]; done) | (rw [HE.out]; rfl)), b0⟩
set_option maxHeartbeats 4000000 in
theorem specEntryOk (e : M.En) (w : World) (hn : e.order.deed.name.size ≤ maxLen) (hp : e.order.deed.page.size ≤ maxLen) :
    Calls Try.prog 84 #[enV e] w fun r w' => r = .returned (.bool (M.entryOk e)) ∧ Below w.heap.size w w' := by
  have b0 := (Below.refl w.heap.size w).alloc (Nat.le_refl _) (.cells (enC e) 37)
  rcases hr : M.inI e.reign 1 1000 with _ | _
  · have HE : Hid (M.entryOk e = false) := Lib.hid (by simp [M.entryOk, hr])
    go_enter Try.func84, Try.ntmps84
    go_wp2_with fail
    have hc := l7Reign_any e.reign (w.alloc (.cells (enC e) 37))
    rw [hr] at hc
    refine hc.mono ?_
    rintro r w1 ⟨rfl, rfl⟩
    clear hc hr
    go_wp2
    go_ret
    exact ⟨(by first | (rw [HE.out]; done) | (rw [HE.out]; rfl)), b0⟩
  · rcases hb : M.orEq e.order M.or0 with _ | _
    · have HE : Hid (M.entryOk e = M.orderOk e.order) := Lib.hid (by simp [M.entryOk, hr, hb])
      go_enter Try.func84, Try.ntmps84
      go_wp2_with fail
      have hc := l7Reign_any e.reign (w.alloc (.cells (enC e) 37))
      rw [hr] at hc
      refine hc.mono ?_
      rintro r w1 ⟨rfl, rfl⟩
      clear hc hr
      go_wp2_with (refine wpList_run (by rfl) (oreql_read (a := e.order) (b := M.or0) rfl rfl rfl _) ?_; simp only [hb])
      clear hb
      refine (specOrderOk e.order _ hn hp).mono ?_
      rintro r w2 ⟨rfl, b2⟩
      replace b0 := next b0 b2
      go_wp2
      go_ret
      exact ⟨(by first | (rw [HE.out]; done) | (rw [HE.out]; rfl)), b0⟩
    · have HE : Hid (M.entryOk e = true) := Lib.hid (by simp [M.entryOk, hr, hb])
      go_enter Try.func84, Try.ntmps84
      go_wp2_with fail
      have hc := l7Reign_any e.reign (w.alloc (.cells (enC e) 37))
      rw [hr] at hc
      refine hc.mono ?_
      rintro r w1 ⟨rfl, rfl⟩
      clear hc hr
      go_wp2_with (refine wpList_run (by rfl) (oreql_read (a := e.order) (b := M.or0) rfl rfl rfl _) ?_; simp only [hb])
      go_ret
      exact ⟨(by first | (rw [HE.out]; done) | (rw [HE.out]; rfl)), b0⟩
end Go.Proofs.Ytkpbfocnokbmiaa
namespace Go.Proofs.Ytkpbfocnokbmiaa
open Go.RowKit
set_option maxRecDepth 20000
end Go.Proofs.Ytkpbfocnokbmiaa
namespace Go.Proofs.Ytkpbfocnokbmiaa
open Go.RowKit
set_option maxRecDepth 20000

end Go.Proofs.Ytkpbfocnokbmiaa
namespace Go.Proofs.Ytkpbfocnokbmiaa
open Go.RowKit
set_option maxRecDepth 20000

end Go.Proofs.Ytkpbfocnokbmiaa
namespace Go.Proofs.Ytkpbfocnokbmiaa
open Go.RowKit
set_option maxRecDepth 20000
abbrev orIn (n : Nat) (o : M.Or) : Prop := o.deed.name.size ≤ n ∧ o.deed.page.size ≤ n
end Go.Proofs.Ytkpbfocnokbmiaa
namespace Go.Proofs.Ytkpbfocnokbmiaa
open Go.RowKit
set_option maxRecDepth 20000
end Go.Proofs.Ytkpbfocnokbmiaa
namespace Go.Proofs.Ytkpbfocnokbmiaa
open Go.RowKit

theorem farM {w w1 : World} {B g : Nat} (h : Below B w w1) (hg : B ≤ g) (j : Nat) (v : Value) : Below B w (w1.setCell ⟨g, j, none⟩ v) := h.setCell hg v
theorem other_cell {w : World} {g k j i : Nat} {v : Value} (h : k ≠ g) : (w.setCell ⟨g, j, none⟩ v).cell? ⟨k, i, none⟩ = w.cell? ⟨k, i, none⟩ :=
  World.cell?_of_block (a := ⟨k, i, none⟩) (Below.heap_setCell _ _ _ _ h)
theorem Holds.putM {w : World} {g : Nat} {C : Array Value} (h : Holds w g C) (j : Nat) (v : Value) : Holds (w.setCell ⟨g, j, none⟩ v) g (C.setIfInBounds j v) := by
  refine ⟨by simpa using h.1, fun i u hi => ?_⟩
  by_cases e : j = i
  · subst e
    rw [Array.getElem?_setIfInBounds_self] at hi
    split at hi
    · rename_i hlt
      cases hi
      exact World.cell?_setCell_same w _ _ (h.2 j _ (Array.getElem?_eq_getElem hlt))
    · cases hi
  · rw [Array.getElem?_setIfInBounds_ne e] at hi
    rw [World.cell?_setCell_other w _ _ _ (fun h => e (by injection h))]; exact h.2 i u hi
theorem Holds.otherM {w : World} {g k j : Nat} {C : Array Value} {v : Value} (h : Holds w k C) (hk : k ≠ g) : Holds (w.setCell ⟨g, j, none⟩ v) k C :=
  ⟨by simpa using h.1, fun i u hi => (other_cell hk).trans (h.2 i u hi)⟩

/-- Nothing that was there in w0 has changed; each block of hs holds its cells; each block of ls may be written. -/
def Mem (w0 : World) (hs : List (Nat × Array Value)) (ls : List Nat) (x : World) : Prop :=
  Below w0.heap.size w0 x ∧ (∀ p ∈ hs, Holds x p.1 p.2) ∧ ∀ g ∈ ls, g < x.heap.size ∧ Loose x g

theorem Mem.start (w0 : World) : Mem w0 [] [] w0 := ⟨Below.refl _ _, by simp, by simp⟩
theorem Mem.below {w0 : World} {hs : List (Nat × Array Value)} {ls : List Nat} {x y : World} (h : Mem w0 hs ls x) (hb : Below x.heap.size x y) : Mem w0 hs ls y :=
  ⟨h.1.trans (hb.mono h.1.size), fun p hp => (h.2.1 p hp).below hb, fun g hg => ⟨Nat.lt_of_lt_of_le (h.2.2 g hg).1 hb.size, (h.2.2 g hg).2.below (h.2.2 g hg).1 hb⟩⟩
theorem Mem.alloc {w0 : World} {hs : List (Nat × Array Value)} {ls : List Nat} {x : World} (h : Mem w0 hs ls x) (o : Obj) : Mem w0 hs ls (x.alloc o) := h.below ((Below.refl _ _).alloc (Nat.le_refl _) o)
theorem Mem.add {w0 : World} {hs : List (Nat × Array Value)} {ls : List Nat} {x : World} {g : Nat} {C : Array Value} (h : Mem w0 hs ls x) (hg : Holds x g C) : Mem w0 ((g, C) :: hs) ls x :=
  ⟨h.1, fun p hp => by rcases List.mem_cons.1 hp with rfl | hp; exact hg; exact h.2.1 p hp, h.2.2⟩
/-- A new block: it holds its cells, and may be written. -/
theorem Mem.new {w0 : World} {hs : List (Nat × Array Value)} {ls : List Nat} {x : World} (h : Mem w0 hs ls x) (C : Array Value) (t : TypeId) : Mem w0 ((x.heap.size, C) :: hs) (x.heap.size :: ls) (x.alloc (.cells C t)) := by
  have h' := (h.alloc (.cells C t)).add (holds_new x C t)
  refine ⟨h'.1, h'.2.1, fun g hg => ?_⟩
  rcases List.mem_cons.1 hg with rfl | hg
  · exact ⟨by simp, loose_new x C t⟩
  · exact h'.2.2 g hg
theorem Mem.get {w0 : World} {hs : List (Nat × Array Value)} {ls : List Nat} {x : World} (h : Mem w0 hs ls x) (g : Nat) (C : Array Value) (hp : (g, C) ∈ hs) : Holds x g C := h.2.1 (g, C) hp
theorem Mem.tail {w0 : World} {p : Nat × Array Value} {hs : List (Nat × Array Value)} {ls : List Nat} {x : World} (h : Mem w0 (p :: hs) ls x) : Mem w0 hs ls x := ⟨h.1, fun q hq => h.2.1 q (List.mem_cons_of_mem _ hq), h.2.2⟩
theorem Mem.drop {w0 : World} {p : Nat × Array Value} {hs : List (Nat × Array Value)} {g : Nat} {ls : List Nat} {x : World} (h : Mem w0 (p :: hs) (g :: ls) x) : Mem w0 hs ls x :=
  ⟨h.1, fun q hq => h.2.1 q (List.mem_cons_of_mem _ hq), fun k hk => h.2.2 k (List.mem_cons_of_mem _ hk)⟩
/-- A write into the block that is told first. -/
theorem Mem.put {w0 : World} {g : Nat} {C : Array Value} {hs : List (Nat × Array Value)} {ls : List Nat} {x : World} (h : Mem w0 ((g, C) :: hs) ls x) (hg : w0.heap.size ≤ g) (hn : ∀ p ∈ hs, p.1 ≠ g) (j : Nat) (v : Value) :
    Mem w0 ((g, C.setIfInBounds j v) :: hs) ls (x.setCell ⟨g, j, none⟩ v) := by
  refine ⟨farM h.1 hg j v, fun p hp => ?_, fun k hk => ⟨by simpa using (h.2.2 k hk).1, fun i => by rw [World.frozen?_setCell]; exact (h.2.2 k hk).2 i⟩⟩
  rcases List.mem_cons.1 hp with rfl | hp
  · exact (h.2.1 (g, C) (by simp)).putM j v
  · exact (h.2.1 p (List.mem_cons_of_mem _ hp)).otherM (hn p hp)
theorem Mem.drew {w0 : World} {hs : List (Nat × Array Value)} {ls : List Nat} {x : World} (h : Mem w0 hs ls x) : Mem w0 hs ls x.drew := ⟨h.1.drew, h.2.1, h.2.2⟩
theorem Mem.loose {w0 : World} {hs : List (Nat × Array Value)} {ls : List Nat} {x : World} (h : Mem w0 hs ls x) (g : Nat) (hp : g ∈ ls) : Loose x g := (h.2.2 g hp).2
end Go.Proofs.Ytkpbfocnokbmiaa
namespace Go.Proofs.Ytkpbfocnokbmiaa
open Go.RowKit

/-- The cells of a list of records. -/
def cellsOf {α : Type} (enc : α → List Value) (l : List α) : List Value := l.flatMap enc

theorem cellsOf_len {α : Type} {enc : α → List Value} {k : Nat} (hk : ∀ x, (enc x).length = k) : ∀ l : List α, (cellsOf enc l).length = l.length * k
  | [] => by simp [cellsOf]
  | x :: l => by
    have := cellsOf_len hk l
    unfold cellsOf at this ⊢
    rw [List.flatMap_cons, List.length_append, this, hk, List.length_cons, Nat.succ_mul]; omega

theorem cellsOf_at {α : Type} {enc : α → List Value} {k : Nat} (hk : ∀ x, (enc x).length = k) : ∀ (l : List α) (i t : Nat) (x : α), l[i]? = some x → t < k → (cellsOf enc l)[i * k + t]? = (enc x)[t]?
  | [], i, t, x, h, _ => by simp at h
  | y :: l, 0, t, x, h, ht => by
    simp at h; subst h
    unfold cellsOf
    rw [List.flatMap_cons, Nat.zero_mul, Nat.zero_add, List.getElem?_append_left (by rw [hk]; exact ht)]
  | y :: l, i + 1, t, x, h, ht => by
    simp at h
    have := cellsOf_at hk l i t x h ht
    unfold cellsOf at this ⊢
    rw [List.flatMap_cons, List.getElem?_append_right (by rw [hk, Nat.succ_mul]; omega), hk, ← this]
    congr 1
    rw [Nat.succ_mul]; omega

theorem cellsOf_append {α : Type} (enc : α → List Value) (l m : List α) : cellsOf enc (l ++ m) = cellsOf enc l ++ cellsOf enc m := by
  unfold cellsOf; simp
/-- A slice at A holds the records of l. -/
def Flat {α : Type} (enc : α → List Value) (k : Nat) (w : World) (A : Option Addr) (l : List α) : Prop :=
  l = [] ∨ ∃ b o, A = some ⟨b, o, none⟩ ∧ b < w.heap.size ∧ ∀ (i t : Nat) (x : α) (u : Value), l[i]? = some x → (enc x)[t]? = some u → w.cell? ⟨b, o + i * k + t, none⟩ = some u

section
variable {α : Type} {enc : α → List Value} {k : Nat} {w w' : World} {A : Option Addr} {l : List α}
theorem Flat.below (h : Flat enc k w A l) (hb : Below w.heap.size w w') : Flat enc k w' A l := by
  rcases h with h | ⟨b, o, rfl, hlt, h⟩
  · exact .inl h
  · exact .inr ⟨b, o, rfl, Nat.lt_of_lt_of_le hlt hb.size, fun i t x u hi ht => (hb.cell (p := ⟨b, o + i * k + t, none⟩) hlt).trans (h i t x u hi ht)⟩
theorem Flat.alloc (h : Flat enc k w A l) (o : Obj) : Flat enc k (w.alloc o) A l := h.below ((Below.refl _ _).alloc (Nat.le_refl _) o)
theorem Flat.drew (h : Flat enc k w A l) : Flat enc k w.drew A l := h
theorem Flat.at {i : Nat} (h : Flat enc k w A l) (hi : i < l.length) : ∃ b o, A = some ⟨b, o, none⟩ ∧ b < w.heap.size ∧ ∀ (t : Nat) (u : Value), (enc l[i])[t]? = some u → w.cell? ⟨b, o + i * k + t, none⟩ = some u := by
  rcases h with rfl | ⟨b, o, rfl, hlt, h⟩
  · simp at hi
  · exact ⟨b, o, rfl, hlt, fun t u ht => h i t l[i] u (List.getElem?_eq_getElem hi) ht⟩

/-- A row of the call's own, read as records. -/
theorem own_flat {base : Nat} {e : TypeId} {v : Value} (hk : ∀ x, (enc x).length = k) (h : w.ownsRow base e k v l.length (cellsOf enc l)) : ∃ A c, v = .slice A l.length c ∧ l.length ≤ c ∧ Flat enc k w A l := by
  obtain ⟨hlen, ⟨rfl, h0⟩ | ⟨g, cap, cur, rfl, hb, hh, hn, hm, hsz, ht⟩⟩ := h
  · have : l = [] := List.length_eq_zero_iff.1 h0
    subst this
    exact ⟨none, 0, rfl, Nat.le_refl _, .inl rfl⟩
  · refine ⟨_, cap, rfl, hn, .inr ⟨g, 0, rfl, ?_, fun i t x u hi hu => ?_⟩⟩
    · rcases Nat.lt_or_ge g w.heap.size with h' | h'
      · exact h'
      · rw [Array.getElem?_eq_none h'] at hh; cases hh
    · have htk : t < k := by
        rcases Nat.lt_or_ge t k with h' | h'
        · exact h'
        · rw [List.getElem?_eq_none (by rw [hk]; exact h')] at hu; cases hu
      have h1 := cellsOf_at hk l i t x hi htk
      have hil : i < l.length := (List.getElem?_eq_some_iff.1 hi).1
      have hlt : i * k + t < l.length * k := by
        have : (i + 1) * k ≤ l.length * k := Nat.mul_le_mul_right k hil
        rw [Nat.succ_mul] at this; omega
      rw [hu, ← ht, List.getElem?_take_of_lt hlt] at h1
      unfold World.cell?
      rw [hh]
      simp only [Nat.zero_add]
      rw [← Array.getElem?_toList]
      simpa using h1
end
end Go.Proofs.Ytkpbfocnokbmiaa
namespace Go.Proofs.Ytkpbfocnokbmiaa
namespace M

structure Cp where
  ed : Ed
  page : ByteArray
  hidden : Bool
deriving DecidableEq
structure Wk where
  name : ByteArray
  owner : Int
  copies : List Cp
deriving DecidableEq

/-! ### All are right and each is older than the next: seen place by place. -/
end M
end Go.Proofs.Ytkpbfocnokbmiaa
