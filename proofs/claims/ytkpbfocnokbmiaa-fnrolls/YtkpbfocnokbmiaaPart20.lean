/- Proved, in parts: Proved: what the model draws of entries, right or not: some entry whose texts are short; the cursor stands, and its block and new ones alone are written. No condition. -/
import Derived.Test.YtkpbfocnokbmiaaPart19
import Derived.Test.YtkpbfocnokbmiaaPart04
namespace Go.Proofs.Ytkpbfocnokbmiaa
open Go.RowKit
set_option maxRecDepth 20000
set_option linter.unusedVariables false
abbrev z10 : Array Value := #[.int .i64 0, .int .i64 0, .int .i64 0, .int .i64 0, .string ⟨#[]⟩, .int .i64 0, .int .i64 0, .int .i64 0, .string ⟨#[]⟩, .int .i64 0]
/-- Some entry with short texts; the cursor stands, and its block alone is written. -/
def EnOut (B g : Nat) (w : World) (r : Ending) (w' : World) : Prop :=
  ∃ e : M.En, enIn 64 e ∧ r = .returned (enV e) ∧ Cur B w' g ∧ w.grownBy w' (some g)
theorem DrM.put10 {w0 : World} {B g R : Nat} {c0 c1 c2 c3 c4 c5 c6 c7 c8 c9 : Value} {bx : List (Nat × Array Value)} {x : World} (h : DrM w0 B g ((R, #[c0, c1, c2, c3, c4, c5, c6, c7, c8, c9]) :: bx) x) (hn : ∀ p ∈ bx, p.1 ≠ R) (a0 a1 a2 a3 a4 a5 a6 a7 a8 a9 : Value) :
    DrM w0 B g ((R, #[a0, a1, a2, a3, a4, a5, a6, a7, a8, a9]) :: bx) ((((((((((x.setCell ⟨R, 0, none⟩ a0).setCell ⟨R, 1, none⟩ a1).setCell ⟨R, 2, none⟩ a2).setCell ⟨R, 3, none⟩ a3).setCell ⟨R, 4, none⟩ a4).setCell ⟨R, 5, none⟩ a5).setCell ⟨R, 6, none⟩ a6).setCell ⟨R, 7, none⟩ a7).setCell ⟨R, 8, none⟩ a8).setCell ⟨R, 9, none⟩ a9) := by
  have := ((((((((((h.put hn 0 a0).put hn 1 a1).put hn 2 a2).put hn 3 a3).put hn 4 a4).put hn 5 a5).put hn 6 a6).put hn 7 a7).put hn 8 a8).put hn 9 a9)
  simpa using this
theorem DrM.put9at {w0 : World} {B g R : Nat} {c0 c1 c2 c3 c4 c5 c6 c7 c8 c9 : Value} {bx : List (Nat × Array Value)} {x : World} (h : DrM w0 B g ((R, #[c0, c1, c2, c3, c4, c5, c6, c7, c8, c9]) :: bx) x) (hn : ∀ p ∈ bx, p.1 ≠ R) (a0 a1 a2 a3 a4 a5 a6 a7 a8 : Value) :
    DrM w0 B g ((R, #[c0, a0, a1, a2, a3, a4, a5, a6, a7, a8]) :: bx) (((((((((x.setCell ⟨R, 1, none⟩ a0).setCell ⟨R, 2, none⟩ a1).setCell ⟨R, 3, none⟩ a2).setCell ⟨R, 4, none⟩ a3).setCell ⟨R, 5, none⟩ a4).setCell ⟨R, 6, none⟩ a5).setCell ⟨R, 7, none⟩ a6).setCell ⟨R, 8, none⟩ a7).setCell ⟨R, 9, none⟩ a8) := by
  have := (((((((((h.put hn 1 a0).put hn 2 a1).put hn 3 a2).put hn 4 a3).put hn 5 a4).put hn 6 a5).put hn 7 a6).put hn 8 a7).put hn 9 a8)
  simpa using this
theorem results_l7Draw (e : M.En) (R : Nat) (W : World) (tmps : Array Value) (h2 : tmps.getD 4 undef = .pointer (some ⟨R, 0, none⟩)) (hW : Holds W R (enC e)) :
    (results Try.f66 tmps).run Try.prog W = .ok (enV e) W := by
  obtain ⟨q0, q1, q2, q3, q4, q5, q6, q7, q8, q9⟩ := hW.ten
  simp at h2
  simp [results, Try.results66, go_sem, h2, q0, q1, q2, q3, q4, q5, q6, q7, q8, q9]
theorem results_l7DrawAny (e : M.En) (R : Nat) (W : World) (tmps : Array Value) (h2 : tmps.getD 2 undef = .pointer (some ⟨R, 0, none⟩)) (hW : Holds W R (enC e)) :
    (results Try.f76 tmps).run Try.prog W = .ok (enV e) W := by
  obtain ⟨q0, q1, q2, q3, q4, q5, q6, q7, q8, q9⟩ := hW.ten
  simp at h2
  simp [results, Try.results76, go_sem, h2, q0, q1, q2, q3, q4, q5, q6, q7, q8, q9]
set_option maxHeartbeats 4000000 in
theorem l7Draw_any (B g : Nat) (w : World) (hc : Cur B w g) (n : Int) :
    Calls Try.prog 66 #[.pointer (some ⟨g, 0, none⟩), .int .i64 n] w (EnOut B g w) := by
  have hm := ((DrM.start hc).new z10 37).new (enC ⟨n, ⟨0, 0, ⟨0, ⟨#[]⟩, ⟨0, 0, 0⟩, ⟨#[]⟩, 0⟩⟩⟩) 37
  simp only [World.size_alloc] at hm
  clear hc
  go_enter Try.func66, Try.ntmps66
  go_wp2_with fail
  refine (l1Once_any B g _ hm.cur 5 (by omega) (by omega)).mono ?_
  rintro r w2 ⟨b, rfl, hc2, hg2⟩
  replace hm := hm.by hg2 hc2
  clear hc2 hg2
  go_upto_if 10 with (fail)
  go_cut [10] (fun _ wx => ∃ e : M.En, enIn 64 e ∧ DrM w B g [((w.heap.size + 1), enC e), (w.heap.size, z10)] wx)
  case first =>
    cases b
    · go_wp2_with fail
      refine (l6Draw_any B g _ hm.cur).mono ?_
      rintro r x3 ⟨o, ho, rfl, hc3, hg3⟩
      replace hm := hm.by hg3 hc3
      clear hc3 hg3
      obtain ⟨p0, p1, p2, p3, p4, p5, p6, p7, p8, p9⟩ := (hm.get (R := (w.heap.size + 1)) (C := enC ⟨n, ⟨0, 0, ⟨0, ⟨#[]⟩, ⟨0, 0, 0⟩, ⟨#[]⟩, 0⟩⟩⟩) (by simp)).1.ten
      have z0 := (hm.get (R := (w.heap.size + 1)) (C := enC ⟨n, ⟨0, 0, ⟨0, ⟨#[]⟩, ⟨0, 0, 0⟩, ⟨#[]⟩, 0⟩⟩⟩) (by simp)).2 0
      have z1 := (hm.get (R := (w.heap.size + 1)) (C := enC ⟨n, ⟨0, 0, ⟨0, ⟨#[]⟩, ⟨0, 0, 0⟩, ⟨#[]⟩, 0⟩⟩⟩) (by simp)).2 1
      have z2 := (hm.get (R := (w.heap.size + 1)) (C := enC ⟨n, ⟨0, 0, ⟨0, ⟨#[]⟩, ⟨0, 0, 0⟩, ⟨#[]⟩, 0⟩⟩⟩) (by simp)).2 2
      have z3 := (hm.get (R := (w.heap.size + 1)) (C := enC ⟨n, ⟨0, 0, ⟨0, ⟨#[]⟩, ⟨0, 0, 0⟩, ⟨#[]⟩, 0⟩⟩⟩) (by simp)).2 3
      have z4 := (hm.get (R := (w.heap.size + 1)) (C := enC ⟨n, ⟨0, 0, ⟨0, ⟨#[]⟩, ⟨0, 0, 0⟩, ⟨#[]⟩, 0⟩⟩⟩) (by simp)).2 4
      have z5 := (hm.get (R := (w.heap.size + 1)) (C := enC ⟨n, ⟨0, 0, ⟨0, ⟨#[]⟩, ⟨0, 0, 0⟩, ⟨#[]⟩, 0⟩⟩⟩) (by simp)).2 5
      have z6 := (hm.get (R := (w.heap.size + 1)) (C := enC ⟨n, ⟨0, 0, ⟨0, ⟨#[]⟩, ⟨0, 0, 0⟩, ⟨#[]⟩, 0⟩⟩⟩) (by simp)).2 6
      have z7 := (hm.get (R := (w.heap.size + 1)) (C := enC ⟨n, ⟨0, 0, ⟨0, ⟨#[]⟩, ⟨0, 0, 0⟩, ⟨#[]⟩, 0⟩⟩⟩) (by simp)).2 7
      have z8 := (hm.get (R := (w.heap.size + 1)) (C := enC ⟨n, ⟨0, 0, ⟨0, ⟨#[]⟩, ⟨0, 0, 0⟩, ⟨#[]⟩, 0⟩⟩⟩) (by simp)).2 8
      have z9 := (hm.get (R := (w.heap.size + 1)) (C := enC ⟨n, ⟨0, 0, ⟨0, ⟨#[]⟩, ⟨0, 0, 0⟩, ⟨#[]⟩, 0⟩⟩⟩) (by simp)).2 9
      have zl := (hm.get (R := (w.heap.size + 1)) (C := enC ⟨n, ⟨0, 0, ⟨0, ⟨#[]⟩, ⟨0, 0, 0⟩, ⟨#[]⟩, 0⟩⟩⟩) (by simp)).1.1
      have HM := Lib.hid hm
      clear hm
      go_wp2
      go_meet
      exact ⟨⟨n, o⟩, ho, HM.out.put9at (by simp) _ _ _ _ _ _ _ _ _⟩
    · have HM := Lib.hid hm
      clear hm
      go_wp2
      go_meet
      exact ⟨⟨n, ⟨0, 0, ⟨0, ⟨#[]⟩, ⟨0, 0, 0⟩, ⟨#[]⟩, 0⟩⟩⟩, ⟨Nat.zero_le _, Nat.zero_le _⟩, HM.out⟩
  case rest =>
    clear hm
    obtain ⟨e, ho, hm⟩ := hcut
    obtain ⟨p0, p1, p2, p3, p4, p5, p6, p7, p8, p9⟩ := (hm.get (R := (w.heap.size + 1)) (C := enC e) (by simp)).1.ten
    have z0 := (hm.get (R := (w.heap.size + 1)) (C := enC e) (by simp)).2 0
    have z1 := (hm.get (R := (w.heap.size + 1)) (C := enC e) (by simp)).2 1
    have z2 := (hm.get (R := (w.heap.size + 1)) (C := enC e) (by simp)).2 2
    have z3 := (hm.get (R := (w.heap.size + 1)) (C := enC e) (by simp)).2 3
    have z4 := (hm.get (R := (w.heap.size + 1)) (C := enC e) (by simp)).2 4
    have z5 := (hm.get (R := (w.heap.size + 1)) (C := enC e) (by simp)).2 5
    have z6 := (hm.get (R := (w.heap.size + 1)) (C := enC e) (by simp)).2 6
    have z7 := (hm.get (R := (w.heap.size + 1)) (C := enC e) (by simp)).2 7
    have z8 := (hm.get (R := (w.heap.size + 1)) (C := enC e) (by simp)).2 8
    have z9 := (hm.get (R := (w.heap.size + 1)) (C := enC e) (by simp)).2 9
    have zl := (hm.get (R := (w.heap.size + 1)) (C := enC e) (by simp)).1.1
    obtain ⟨q0, q1, q2, q3, q4, q5, q6, q7, q8, q9⟩ := (hm.get (R := w.heap.size) (C := z10) (by simp)).1.ten
    have y0 := (hm.get (R := w.heap.size) (C := z10) (by simp)).2 0
    have y1 := (hm.get (R := w.heap.size) (C := z10) (by simp)).2 1
    have y2 := (hm.get (R := w.heap.size) (C := z10) (by simp)).2 2
    have y3 := (hm.get (R := w.heap.size) (C := z10) (by simp)).2 3
    have y4 := (hm.get (R := w.heap.size) (C := z10) (by simp)).2 4
    have y5 := (hm.get (R := w.heap.size) (C := z10) (by simp)).2 5
    have y6 := (hm.get (R := w.heap.size) (C := z10) (by simp)).2 6
    have y7 := (hm.get (R := w.heap.size) (C := z10) (by simp)).2 7
    have y8 := (hm.get (R := w.heap.size) (C := z10) (by simp)).2 8
    have y9 := (hm.get (R := w.heap.size) (C := z10) (by simp)).2 9
    have yl := (hm.get (R := w.heap.size) (C := z10) (by simp)).1.1
    have HM := Lib.hid (DrM.sub (bx' := [(w.heap.size, z10)]) hm (by simp))
    clear hm
    go_wp2
    have hF := HM.out.put10 (by simp) (.int .i64 e.reign) (.int .i64 e.order.client) (.int .i64 e.order.seq) (.int .i64 e.order.deed.kind) (.string e.order.deed.name) (.int .i64 e.order.deed.ed.ma) (.int .i64 e.order.deed.ed.mi) (.int .i64 e.order.deed.ed.pa) (.string e.order.deed.page) (.int .i64 e.order.deed.who)
    exact bodyPost_ret (results_l7Draw e w.heap.size _ _ rfl (hF.get (List.mem_cons_self)).1) rfl ⟨e, ho, rfl, hF.cur, hF.grown⟩
set_option maxHeartbeats 4000000 in
theorem l7DrawAny_any (B g : Nat) (w : World) (hc : Cur B w g) :
    Calls Try.prog 76 #[.pointer (some ⟨g, 0, none⟩)] w (EnOut B g w) := by
  have hm := (DrM.start hc).new z10 37
  clear hc
  go_enter Try.func76, Try.ntmps76
  go_wp2_with fail
  refine (l1Below_any B g _ hm.cur 4 (by omega) (by omega)).mono ?_
  rintro r w0 ⟨n0, hn0, hn1, rfl, hc0, hg0⟩
  replace hm := hm.by hg0 hc0
  clear hc0 hg0
  go_wp2_with fail
  refine (l7Draw_any B g _ hm.cur (1 + n0)).mono ?_
  rintro r w1 ⟨e, ho, rfl, hc1, hg1⟩
  replace hm := hm.by hg1 hc1
  have h01 : w.heap.size < w1.heap.size := (hm.get (List.mem_cons_self)).1.1
  have HM := Lib.hid (hm.new (enC e) 37)
  clear hc1 hg1 hm
  go_wp2_with fail
  refine (l1Once_any B g _ HM.out.cur 8 (by omega) (by omega)).mono ?_
  rintro r w2 ⟨b, rfl, hc2, hg2⟩
  have hm := HM.out.by hg2 hc2
  clear hc2 hg2 HM
  go_upto_if 10 with (fail)
  go_cut [10] (fun _ wx => ∃ e : M.En, enIn 64 e ∧ DrM w B g [(w1.heap.size, enC e), (w.heap.size, z10)] wx)
  case first =>
    cases b
    · have HM := Lib.hid hm
      clear hm
      go_wp2
      go_meet
      exact ⟨e, ho, HM.out⟩
    · go_wp2_with fail
      refine (l1Below_any B g _ hm.cur 2 (by omega) (by omega)).mono ?_
      rintro r x2 ⟨u, hu0, hu1, rfl, hc3, hg3⟩
      replace hm := hm.by hg3 hc3
      clear hc3 hg3
      have hu : u = 0 ∨ u = 1 := by omega
      rcases hu with hu | hu
      · have hk0 : (u == 0) = true := by simp; omega
        go_wp2_with fail
        refine (l1Below_any B g _ (hm.alloc _).cur 4 (by omega) (by omega)).mono ?_
        rintro r x3 ⟨y, hy0, hy1, rfl, hc3, hg3⟩
        obtain ⟨n, hn⟩ := lit_int hg3 hm.cur.2.1 y hy0 (by show y < 4; omega) (by kernel_rfl)
        replace hm := (hm.alloc _).by hg3 hc3
        clear hc3 hg3
        obtain ⟨p0, p1, p2, p3, p4, p5, p6, p7, p8, p9⟩ := (hm.get (R := w1.heap.size) (C := enC e) (by simp)).1.ten
        have z0 := (hm.get (R := w1.heap.size) (C := enC e) (by simp)).2 0
        have z1 := (hm.get (R := w1.heap.size) (C := enC e) (by simp)).2 1
        have z2 := (hm.get (R := w1.heap.size) (C := enC e) (by simp)).2 2
        have z3 := (hm.get (R := w1.heap.size) (C := enC e) (by simp)).2 3
        have z4 := (hm.get (R := w1.heap.size) (C := enC e) (by simp)).2 4
        have z5 := (hm.get (R := w1.heap.size) (C := enC e) (by simp)).2 5
        have z6 := (hm.get (R := w1.heap.size) (C := enC e) (by simp)).2 6
        have z7 := (hm.get (R := w1.heap.size) (C := enC e) (by simp)).2 7
        have z8 := (hm.get (R := w1.heap.size) (C := enC e) (by simp)).2 8
        have z9 := (hm.get (R := w1.heap.size) (C := enC e) (by simp)).2 9
        have zl := (hm.get (R := w1.heap.size) (C := enC e) (by simp)).1.1
        have HM := Lib.hid hm
        clear hm
        go_wp2
        go_meet
        exact ⟨⟨n, e.order⟩, ho, HM.out.put (by simp; omega) 0 (.int .i64 n)⟩
      · have hk0 : (u == 0) = false := by simp; omega
        have hk1 : (u == 1) = true := by simp; omega
        go_wp2_with fail
        refine (l6DrawAny_any B g _ hm.cur).mono ?_
        rintro r x3 ⟨o, hor, rfl, hc3, hg3⟩
        replace hm := hm.by hg3 hc3
        clear hc3 hg3
        obtain ⟨p0, p1, p2, p3, p4, p5, p6, p7, p8, p9⟩ := (hm.get (R := w1.heap.size) (C := enC e) (by simp)).1.ten
        have z0 := (hm.get (R := w1.heap.size) (C := enC e) (by simp)).2 0
        have z1 := (hm.get (R := w1.heap.size) (C := enC e) (by simp)).2 1
        have z2 := (hm.get (R := w1.heap.size) (C := enC e) (by simp)).2 2
        have z3 := (hm.get (R := w1.heap.size) (C := enC e) (by simp)).2 3
        have z4 := (hm.get (R := w1.heap.size) (C := enC e) (by simp)).2 4
        have z5 := (hm.get (R := w1.heap.size) (C := enC e) (by simp)).2 5
        have z6 := (hm.get (R := w1.heap.size) (C := enC e) (by simp)).2 6
        have z7 := (hm.get (R := w1.heap.size) (C := enC e) (by simp)).2 7
        have z8 := (hm.get (R := w1.heap.size) (C := enC e) (by simp)).2 8
        have z9 := (hm.get (R := w1.heap.size) (C := enC e) (by simp)).2 9
        have zl := (hm.get (R := w1.heap.size) (C := enC e) (by simp)).1.1
        have HM := Lib.hid hm
        clear hm
        go_wp2
        go_meet
        exact ⟨⟨e.reign, o⟩, hor, HM.out.put9at (by simp; omega) _ _ _ _ _ _ _ _ _⟩
  case rest =>
    clear hm ho
    obtain ⟨e', ho, hm⟩ := hcut
    obtain ⟨p0, p1, p2, p3, p4, p5, p6, p7, p8, p9⟩ := (hm.get (R := w1.heap.size) (C := enC e') (by simp)).1.ten
    have z0 := (hm.get (R := w1.heap.size) (C := enC e') (by simp)).2 0
    have z1 := (hm.get (R := w1.heap.size) (C := enC e') (by simp)).2 1
    have z2 := (hm.get (R := w1.heap.size) (C := enC e') (by simp)).2 2
    have z3 := (hm.get (R := w1.heap.size) (C := enC e') (by simp)).2 3
    have z4 := (hm.get (R := w1.heap.size) (C := enC e') (by simp)).2 4
    have z5 := (hm.get (R := w1.heap.size) (C := enC e') (by simp)).2 5
    have z6 := (hm.get (R := w1.heap.size) (C := enC e') (by simp)).2 6
    have z7 := (hm.get (R := w1.heap.size) (C := enC e') (by simp)).2 7
    have z8 := (hm.get (R := w1.heap.size) (C := enC e') (by simp)).2 8
    have z9 := (hm.get (R := w1.heap.size) (C := enC e') (by simp)).2 9
    have zl := (hm.get (R := w1.heap.size) (C := enC e') (by simp)).1.1
    obtain ⟨q0, q1, q2, q3, q4, q5, q6, q7, q8, q9⟩ := (hm.get (R := w.heap.size) (C := z10) (by simp)).1.ten
    have y0 := (hm.get (R := w.heap.size) (C := z10) (by simp)).2 0
    have y1 := (hm.get (R := w.heap.size) (C := z10) (by simp)).2 1
    have y2 := (hm.get (R := w.heap.size) (C := z10) (by simp)).2 2
    have y3 := (hm.get (R := w.heap.size) (C := z10) (by simp)).2 3
    have y4 := (hm.get (R := w.heap.size) (C := z10) (by simp)).2 4
    have y5 := (hm.get (R := w.heap.size) (C := z10) (by simp)).2 5
    have y6 := (hm.get (R := w.heap.size) (C := z10) (by simp)).2 6
    have y7 := (hm.get (R := w.heap.size) (C := z10) (by simp)).2 7
    have y8 := (hm.get (R := w.heap.size) (C := z10) (by simp)).2 8
    have y9 := (hm.get (R := w.heap.size) (C := z10) (by simp)).2 9
    have yl := (hm.get (R := w.heap.size) (C := z10) (by simp)).1.1
    have HM := Lib.hid (DrM.sub (bx' := [(w.heap.size, z10)]) hm (by simp))
    clear hm
    go_wp2
    have hF := HM.out.put10 (by simp) (.int .i64 e'.reign) (.int .i64 e'.order.client) (.int .i64 e'.order.seq) (.int .i64 e'.order.deed.kind) (.string e'.order.deed.name) (.int .i64 e'.order.deed.ed.ma) (.int .i64 e'.order.deed.ed.mi) (.int .i64 e'.order.deed.ed.pa) (.string e'.order.deed.page) (.int .i64 e'.order.deed.who)
    exact bodyPost_ret (results_l7DrawAny e' w.heap.size _ _ rfl (hF.get (List.mem_cons_self)).1) rfl ⟨e', ho, rfl, hF.cur, hF.grown⟩
end Go.Proofs.Ytkpbfocnokbmiaa
