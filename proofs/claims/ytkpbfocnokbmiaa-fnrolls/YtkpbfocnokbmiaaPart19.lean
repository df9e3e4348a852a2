/- Proved, in parts: Proved: what the model draws of orders, right or not: some order whose texts are short; the cursor stands, and its block and new ones alone are written. No condition. -/
import Derived.Test.YtkpbfocnokbmiaaPart17
import Derived.Test.YtkpbfocnokbmiaaPart18
import Derived.Test.YtkpbfocnokbmiaaPart07
namespace Go.Proofs.Ytkpbfocnokbmiaa
open Go.RowKit
set_option maxRecDepth 20000
set_option linter.unusedVariables false
abbrev z9 : Array Value := #[.int .i64 0, .int .i64 0, .int .i64 0, .string ⟨#[]⟩, .int .i64 0, .int .i64 0, .int .i64 0, .string ⟨#[]⟩, .int .i64 0]
/-- Some order with short texts; the cursor stands, and its block alone is written. -/
def OrOut (B g : Nat) (w : World) (r : Ending) (w' : World) : Prop :=
  ∃ o : M.Or, orIn 64 o ∧ r = .returned (orV o) ∧ Cur B w' g ∧ w.grownBy w' (some g)
theorem DrM.put9 {w0 : World} {B g R : Nat} {c0 c1 c2 c3 c4 c5 c6 c7 c8 : Value} {bx : List (Nat × Array Value)} {x : World} (h : DrM w0 B g ((R, #[c0, c1, c2, c3, c4, c5, c6, c7, c8]) :: bx) x) (hn : ∀ p ∈ bx, p.1 ≠ R) (a0 a1 a2 a3 a4 a5 a6 a7 a8 : Value) :
    DrM w0 B g ((R, #[a0, a1, a2, a3, a4, a5, a6, a7, a8]) :: bx) (((((((((x.setCell ⟨R, 0, none⟩ a0).setCell ⟨R, 1, none⟩ a1).setCell ⟨R, 2, none⟩ a2).setCell ⟨R, 3, none⟩ a3).setCell ⟨R, 4, none⟩ a4).setCell ⟨R, 5, none⟩ a5).setCell ⟨R, 6, none⟩ a6).setCell ⟨R, 7, none⟩ a7).setCell ⟨R, 8, none⟩ a8) := by
  have := ((((((((h.put hn 0 a0).put hn 1 a1).put hn 2 a2).put hn 3 a3).put hn 4 a4).put hn 5 a5).put hn 6 a6).put hn 7 a7).put hn 8 a8
  simpa using this
theorem DrM.put7at {w0 : World} {B g R : Nat} {c0 c1 c2 c3 c4 c5 c6 c7 c8 : Value} {bx : List (Nat × Array Value)} {x : World} (h : DrM w0 B g ((R, #[c0, c1, c2, c3, c4, c5, c6, c7, c8]) :: bx) x) (hn : ∀ p ∈ bx, p.1 ≠ R) (a0 a1 a2 a3 a4 a5 a6 : Value) :
    DrM w0 B g ((R, #[c0, c1, a0, a1, a2, a3, a4, a5, a6]) :: bx) (((((((x.setCell ⟨R, 2, none⟩ a0).setCell ⟨R, 3, none⟩ a1).setCell ⟨R, 4, none⟩ a2).setCell ⟨R, 5, none⟩ a3).setCell ⟨R, 6, none⟩ a4).setCell ⟨R, 7, none⟩ a5).setCell ⟨R, 8, none⟩ a6) := by
  have := ((((((h.put hn 2 a0).put hn 3 a1).put hn 4 a2).put hn 5 a3).put hn 6 a4).put hn 7 a5).put hn 8 a6
  simpa using this
theorem results_l6Draw (o : M.Or) (R : Nat) (W : World) (tmps : Array Value) (h2 : tmps.getD 2 undef = .pointer (some ⟨R, 0, none⟩)) (hW : Holds W R (orC o)) :
    (results Try.f85 tmps).run Try.prog W = .ok (orV o) W := by
  obtain ⟨q0, q1, q2, q3, q4, q5, q6, q7, q8⟩ := hW.nine
  simp at h2
  simp [results, Try.results85, go_sem, h2, q0, q1, q2, q3, q4, q5, q6, q7, q8]
theorem results_l6DrawAny (o : M.Or) (R : Nat) (W : World) (tmps : Array Value) (h2 : tmps.getD 2 undef = .pointer (some ⟨R, 0, none⟩)) (hW : Holds W R (orC o)) :
    (results Try.f91 tmps).run Try.prog W = .ok (orV o) W := by
  obtain ⟨q0, q1, q2, q3, q4, q5, q6, q7, q8⟩ := hW.nine
  simp at h2
  simp [results, Try.results91, go_sem, h2, q0, q1, q2, q3, q4, q5, q6, q7, q8]
set_option maxHeartbeats 4000000 in
theorem l6Draw_any (B g : Nat) (w : World) (hc : Cur B w g) :
    Calls Try.prog 85 #[.pointer (some ⟨g, 0, none⟩)] w (OrOut B g w) := by
  have hm := (DrM.start hc).new z9 35
  clear hc
  go_enter Try.func85, Try.ntmps85
  go_wp2_with fail
  refine (l1Below_any B g _ hm.cur 3 (by omega) (by omega)).mono ?_
  rintro r w1 ⟨n1, -, -, rfl, hc1, hg1⟩
  replace hm := hm.by hg1 hc1
  clear hc1 hg1
  go_wp2_with fail
  refine (l1Below_any B g _ hm.cur 6 (by omega) (by omega)).mono ?_
  rintro r w2 ⟨n2, h20, h21, rfl, hc2, hg2⟩
  replace hm := hm.by hg2 hc2
  clear hc2 hg2
  go_wp2_with fail
  refine (l3Draw_any B g _ hm.cur).mono ?_
  rintro r w3 ⟨d, hd, rfl, hc3, hg3⟩
  replace hm := hm.by hg3 hc3
  clear hc3 hg3
  obtain ⟨p0, p1, p2, p3, p4, p5, p6, p7, p8⟩ := (hm.get (R := w.heap.size) (C := z9) (by simp)).1.nine
  have z0 := (hm.get (R := w.heap.size) (C := z9) (by simp)).2 0
  have z1 := (hm.get (R := w.heap.size) (C := z9) (by simp)).2 1
  have z2 := (hm.get (R := w.heap.size) (C := z9) (by simp)).2 2
  have z3 := (hm.get (R := w.heap.size) (C := z9) (by simp)).2 3
  have z4 := (hm.get (R := w.heap.size) (C := z9) (by simp)).2 4
  have z5 := (hm.get (R := w.heap.size) (C := z9) (by simp)).2 5
  have z6 := (hm.get (R := w.heap.size) (C := z9) (by simp)).2 6
  have z7 := (hm.get (R := w.heap.size) (C := z9) (by simp)).2 7
  have z8 := (hm.get (R := w.heap.size) (C := z9) (by simp)).2 8
  have zl := (hm.get (R := w.heap.size) (C := z9) (by simp)).1.1
  have HM := Lib.hid hm
  clear hm
  go_wp2
  have hF := HM.out.put9 (by simp) (.int .i64 n1) (.int .i64 (1 + n2)) (.int .i64 d.kind) (.string d.name) (.int .i64 d.ed.ma) (.int .i64 d.ed.mi) (.int .i64 d.ed.pa) (.string d.page) (.int .i64 d.who)
  exact bodyPost_ret (results_l6Draw ⟨n1, 1 + n2, d⟩ w.heap.size _ _ rfl (hF.get (List.mem_cons_self)).1) rfl ⟨⟨n1, 1 + n2, d⟩, hd, rfl, hF.cur, hF.grown⟩
set_option maxHeartbeats 4000000 in
theorem l6DrawAny_any (B g : Nat) (w : World) (hc : Cur B w g) :
    Calls Try.prog 91 #[.pointer (some ⟨g, 0, none⟩)] w (OrOut B g w) := by
  have hm := (DrM.start hc).new z9 35
  clear hc
  go_enter Try.func91, Try.ntmps91
  go_wp2_with fail
  refine (l6Draw_any B g _ hm.cur).mono ?_
  rintro r w1 ⟨o, ho, rfl, hc1, hg1⟩
  replace hm := hm.by hg1 hc1
  have h01 : w.heap.size < w1.heap.size := (hm.get (List.mem_cons_self)).1.1
  have HM := Lib.hid (hm.new (orC o) 35)
  clear hc1 hg1 hm
  go_wp2_with fail
  refine (l1Once_any B g _ HM.out.cur 8 (by omega) (by omega)).mono ?_
  rintro r w2 ⟨b, rfl, hc2, hg2⟩
  have hm := HM.out.by hg2 hc2
  clear hc2 hg2 HM
  go_upto_if 7 with (fail)
  go_cut [7] (fun _ wx => ∃ o, orIn 64 o ∧ DrM w B g [(w1.heap.size, orC o), (w.heap.size, z9)] wx)
  case first =>
    cases b
    · have HM := Lib.hid hm
      clear hm
      go_wp2
      go_meet
      exact ⟨o, ho, HM.out⟩
    · go_wp2_with fail
      refine (l1Below_any B g _ hm.cur 3 (by omega) (by omega)).mono ?_
      rintro r x2 ⟨u, hu0, hu1, rfl, hc3, hg3⟩
      replace hm := hm.by hg3 hc3
      clear hc3 hg3
      have hu : u = 0 ∨ u = 1 ∨ u = 2 := by omega
      rcases hu with hu | hu | hu
      · have hk0 : (u == 0) = true := by simp; omega
        go_wp2_with fail
        refine (l1Below_any B g _ (hm.alloc _).cur 3 (by omega) (by omega)).mono ?_
        rintro r x3 ⟨y, hy0, hy1, rfl, hc3, hg3⟩
        obtain ⟨n, hn⟩ := lit_int hg3 hm.cur.2.1 y hy0 (by show y < 3; omega) (by kernel_rfl)
        replace hm := (hm.alloc _).by hg3 hc3
        clear hc3 hg3
        obtain ⟨p0, p1, p2, p3, p4, p5, p6, p7, p8⟩ := (hm.get (R := w1.heap.size) (C := orC o) (by simp)).1.nine
        have z0 := (hm.get (R := w1.heap.size) (C := orC o) (by simp)).2 0
        have z1 := (hm.get (R := w1.heap.size) (C := orC o) (by simp)).2 1
        have z2 := (hm.get (R := w1.heap.size) (C := orC o) (by simp)).2 2
        have z3 := (hm.get (R := w1.heap.size) (C := orC o) (by simp)).2 3
        have z4 := (hm.get (R := w1.heap.size) (C := orC o) (by simp)).2 4
        have z5 := (hm.get (R := w1.heap.size) (C := orC o) (by simp)).2 5
        have z6 := (hm.get (R := w1.heap.size) (C := orC o) (by simp)).2 6
        have z7 := (hm.get (R := w1.heap.size) (C := orC o) (by simp)).2 7
        have z8 := (hm.get (R := w1.heap.size) (C := orC o) (by simp)).2 8
        have zl := (hm.get (R := w1.heap.size) (C := orC o) (by simp)).1.1
        have HM := Lib.hid hm
        clear hm
        go_wp2
        go_meet
        exact ⟨⟨n, o.seq, o.deed⟩, ho, HM.out.put (by simp; omega) 0 (.int .i64 n)⟩
      · have hk0 : (u == 0) = false := by simp; omega
        have hk1 : (u == 1) = true := by simp; omega
        go_wp2_with fail
        refine (l1Below_any B g _ (hm.alloc _).cur 3 (by omega) (by omega)).mono ?_
        rintro r x3 ⟨y, hy0, hy1, rfl, hc3, hg3⟩
        obtain ⟨n, hn⟩ := lit_int hg3 hm.cur.2.1 y hy0 (by show y < 3; omega) (by kernel_rfl)
        replace hm := (hm.alloc _).by hg3 hc3
        clear hc3 hg3
        obtain ⟨p0, p1, p2, p3, p4, p5, p6, p7, p8⟩ := (hm.get (R := w1.heap.size) (C := orC o) (by simp)).1.nine
        have z0 := (hm.get (R := w1.heap.size) (C := orC o) (by simp)).2 0
        have z1 := (hm.get (R := w1.heap.size) (C := orC o) (by simp)).2 1
        have z2 := (hm.get (R := w1.heap.size) (C := orC o) (by simp)).2 2
        have z3 := (hm.get (R := w1.heap.size) (C := orC o) (by simp)).2 3
        have z4 := (hm.get (R := w1.heap.size) (C := orC o) (by simp)).2 4
        have z5 := (hm.get (R := w1.heap.size) (C := orC o) (by simp)).2 5
        have z6 := (hm.get (R := w1.heap.size) (C := orC o) (by simp)).2 6
        have z7 := (hm.get (R := w1.heap.size) (C := orC o) (by simp)).2 7
        have z8 := (hm.get (R := w1.heap.size) (C := orC o) (by simp)).2 8
        have zl := (hm.get (R := w1.heap.size) (C := orC o) (by simp)).1.1
        have HM := Lib.hid hm
        clear hm
        go_wp2
        go_meet
        exact ⟨⟨o.client, n, o.deed⟩, ho, HM.out.put (by simp; omega) 1 (.int .i64 n)⟩
      · have hk0 : (u == 0) = false := by simp; omega
        have hk1 : (u == 1) = false := by simp; omega
        have hk2 : (u == 2) = true := by simp; omega
        go_wp2_with fail
        refine (l3DrawAny_any B g _ hm.cur).mono ?_
        rintro r x3 ⟨d, hd, rfl, hc3, hg3⟩
        replace hm := hm.by hg3 hc3
        clear hc3 hg3
        obtain ⟨p0, p1, p2, p3, p4, p5, p6, p7, p8⟩ := (hm.get (R := w1.heap.size) (C := orC o) (by simp)).1.nine
        have z0 := (hm.get (R := w1.heap.size) (C := orC o) (by simp)).2 0
        have z1 := (hm.get (R := w1.heap.size) (C := orC o) (by simp)).2 1
        have z2 := (hm.get (R := w1.heap.size) (C := orC o) (by simp)).2 2
        have z3 := (hm.get (R := w1.heap.size) (C := orC o) (by simp)).2 3
        have z4 := (hm.get (R := w1.heap.size) (C := orC o) (by simp)).2 4
        have z5 := (hm.get (R := w1.heap.size) (C := orC o) (by simp)).2 5
        have z6 := (hm.get (R := w1.heap.size) (C := orC o) (by simp)).2 6
        have z7 := (hm.get (R := w1.heap.size) (C := orC o) (by simp)).2 7
        have z8 := (hm.get (R := w1.heap.size) (C := orC o) (by simp)).2 8
        have zl := (hm.get (R := w1.heap.size) (C := orC o) (by simp)).1.1
        have HM := Lib.hid hm
        clear hm
        go_wp2
        go_meet
        exact ⟨⟨o.client, o.seq, d⟩, hd, HM.out.put7at (by simp; omega) _ _ _ _ _ _ _⟩
  case rest =>
    clear hm ho
    obtain ⟨o', ho, hm⟩ := hcut
    obtain ⟨p0, p1, p2, p3, p4, p5, p6, p7, p8⟩ := (hm.get (R := w1.heap.size) (C := orC o') (by simp)).1.nine
    have z0 := (hm.get (R := w1.heap.size) (C := orC o') (by simp)).2 0
    have z1 := (hm.get (R := w1.heap.size) (C := orC o') (by simp)).2 1
    have z2 := (hm.get (R := w1.heap.size) (C := orC o') (by simp)).2 2
    have z3 := (hm.get (R := w1.heap.size) (C := orC o') (by simp)).2 3
    have z4 := (hm.get (R := w1.heap.size) (C := orC o') (by simp)).2 4
    have z5 := (hm.get (R := w1.heap.size) (C := orC o') (by simp)).2 5
    have z6 := (hm.get (R := w1.heap.size) (C := orC o') (by simp)).2 6
    have z7 := (hm.get (R := w1.heap.size) (C := orC o') (by simp)).2 7
    have z8 := (hm.get (R := w1.heap.size) (C := orC o') (by simp)).2 8
    have zl := (hm.get (R := w1.heap.size) (C := orC o') (by simp)).1.1
    obtain ⟨q0, q1, q2, q3, q4, q5, q6, q7, q8⟩ := (hm.get (R := w.heap.size) (C := z9) (by simp)).1.nine
    have y0 := (hm.get (R := w.heap.size) (C := z9) (by simp)).2 0
    have y1 := (hm.get (R := w.heap.size) (C := z9) (by simp)).2 1
    have y2 := (hm.get (R := w.heap.size) (C := z9) (by simp)).2 2
    have y3 := (hm.get (R := w.heap.size) (C := z9) (by simp)).2 3
    have y4 := (hm.get (R := w.heap.size) (C := z9) (by simp)).2 4
    have y5 := (hm.get (R := w.heap.size) (C := z9) (by simp)).2 5
    have y6 := (hm.get (R := w.heap.size) (C := z9) (by simp)).2 6
    have y7 := (hm.get (R := w.heap.size) (C := z9) (by simp)).2 7
    have y8 := (hm.get (R := w.heap.size) (C := z9) (by simp)).2 8
    have yl := (hm.get (R := w.heap.size) (C := z9) (by simp)).1.1
    have HM := Lib.hid (DrM.sub (bx' := [(w.heap.size, z9), (w1.heap.size, orC o')]) hm (by simp))
    clear hm
    go_wp2
    have hF := HM.out.put9 (by simp; omega) (.int .i64 o'.client) (.int .i64 o'.seq) (.int .i64 o'.deed.kind) (.string o'.deed.name) (.int .i64 o'.deed.ed.ma) (.int .i64 o'.deed.ed.mi) (.int .i64 o'.deed.ed.pa) (.string o'.deed.page) (.int .i64 o'.deed.who)
    exact bodyPost_ret (results_l6DrawAny o' w.heap.size _ _ rfl (hF.get (List.mem_cons_self)).1) rfl ⟨o', ho, rfl, hF.cur, hF.grown⟩
end Go.Proofs.Ytkpbfocnokbmiaa
