/- Proved, in parts: Proved: what the model draws of orders, right or not: some order whose texts are short; the cursor stands, and its block and new ones alone are written. No condition. Proved: what the model draws of books that are right: a right book, in new memory; the cursor stands, and its block alone is written. No condition. Proved: what the model draws of books, right or not: a small book, in new memory; the cursor stands, and its block alone is written. No condition. -/
import Derived.Test.YtkpbfocnokbmiaaGreatPart40
import Derived.Test.YtkpbfocnokbmiaaGreatPart37
import Derived.Test.YtkpbfocnokbmiaaGreatPart24
import Derived.Test.YtkpbfocnokbmiaaGreatPart35
namespace Go.Proofs.YtkpbfocnokbmiaaGreat
open Go.RowKit
set_option maxRecDepth 20000
set_option linter.unusedVariables false
abbrev z9 : Array Value := #[.int .i64 0, .int .i64 0, .int .i64 0, .string ⟨#[]⟩, .int .i64 0, .int .i64 0, .int .i64 0, .string ⟨#[]⟩, .int .i64 0]
/-- Some order with short texts; the cursor stands, and its block alone is written. -/
def OrOut (B g : Nat) (w : World) (r : Ending) (w' : World) : Prop :=
  ∃ o : M.Or, orIn 64 o ∧ r = .returned (orV o) ∧ Cur B w' g ∧ w.grownBy w' (some g)
theorem DrM.put9 {w0 : World} {B g R : Nat} {c0 c1 c2 c3 c4 c5 c6 c7 c8 : Value} {bx : List (Nat × Array Value)} {x : World} (h : DrM w0 B g ((R, #[c0, c1, c2, c3, c4, c5, c6, c7, c8]) :: bx) x) (hn : ∀ p ∈ bx, p.1 ≠ R) (a0 a1 a2 a3 a4 a5 a6 a7 a8 : Value) :
    DrM w0 B g ((R, #[a0, a1, a2, a3, a4, a5, a6, a7, a8]) :: bx) (((((((((x.setCell ⟨R, 0, none⟩ a0).setCell ⟨R, 1, none⟩ a1).setCell ⟨R, 2, none⟩ a2).setCell ⟨R, 3, none⟩ a3).setCell ⟨R, 4, none⟩ a4).setCell ⟨R, 5, none⟩ a5).setCell ⟨R, 6, none⟩ a6).setCell ⟨R, 7, none⟩ a7).setCell ⟨R, 8, none⟩ a8) := by
  have := ((((((((h.put hn 0 a0).put hn 1 a1).put hn 2 a2).put hn 3 a3).put hn 4 a4).put hn 5 a5).put hn 6 a6).put hn 7 a7).put hn 8 a8
  simpa using this
theorem DrM.put7at {w0 : World} {B g R : Nat} {c0 c1 c2 c3 c4 c5 c6 c7 c8 : Value} {bx : List (Nat × Array Value)} {x : World} (h : DrM w0 B g ((R, #[c0, c1, c2, c3, c4, c5, c6, c7, c8]) :: bx) x) (hn : ∀ p ∈ bx, p.1 ≠ R) (a0 a1 a2 a3 a4 a5 a6 : Value) :
    DrM w0 B g ((R, #[c0, c1, a0, a1, a2, a3, a4, a5, a6]) :: bx) (((((((x.setCell ⟨R, 2, none⟩ a0).setCell ⟨R, 3, none⟩ a1).setCell ⟨R, 4, none⟩ a2).setCell ⟨R, 5, none⟩ a3).setCell ⟨R, 6, none⟩ a4).setCell ⟨R, 7, none⟩ a5).setCell ⟨R, 8, none⟩ a6) := by
  have := ((((((h.put hn 2 a0).put hn 3 a1).put hn 4 a2).put hn 5 a3).put hn 6 a4).put hn 7 a5).put hn 8 a6
  simpa using this
theorem results_l6Draw (o : M.Or) (R : Nat) (W : World) (tmps : Array Value) (h2 : tmps.getD 2 undef = .pointer (some ⟨R, 0, none⟩)) (hW : Holds W R (orC o)) :
    (results Tryz.f63 tmps).run Tryz.prog W = .ok (orV o) W := by
  obtain ⟨q0, q1, q2, q3, q4, q5, q6, q7, q8⟩ := hW.nine
  simp at h2
  simp [results, Tryz.results63, go_sem, h2, q0, q1, q2, q3, q4, q5, q6, q7, q8]
theorem results_l6DrawAny (o : M.Or) (R : Nat) (W : World) (tmps : Array Value) (h2 : tmps.getD 2 undef = .pointer (some ⟨R, 0, none⟩)) (hW : Holds W R (orC o)) :
    (results Tryz.f43 tmps).run Tryz.prog W = .ok (orV o) W := by
  obtain ⟨q0, q1, q2, q3, q4, q5, q6, q7, q8⟩ := hW.nine
  simp at h2
  simp [results, Tryz.results43, go_sem, h2, q0, q1, q2, q3, q4, q5, q6, q7, q8]
set_option maxHeartbeats 4000000 in
theorem l6Draw_any (B g : Nat) (w : World) (hc : Cur B w g) :
    Calls Tryz.prog 63 #[.pointer (some ⟨g, 0, none⟩)] w (OrOut B g w) := by
  have hm := (DrM.start hc).new z9 33
  clear hc
  go_enter Tryz.func63, Tryz.ntmps63
  go_wp2_with fail
  refine (l1Below_any B g _ hm.cur 3 (by omega) (by omega)).mono ?_
  rintro r w1 ⟨n1, -, -, rfl, hc1, hg1⟩
  replace hm := hm.by hg1 hc1
  clear hc1 hg1
  go_wp2_with fail
  refine (l1Below_any B g _ hm.cur 6 (by omega) (by omega)).mono ?_
  rintro r w2 ⟨n2, h20, h21, rfl, hc2, hg2⟩
  replace hm := hm.by hg2 hc2
  clear hc2 hg2
  go_wp2_with fail
  refine (l3Draw_any B g _ hm.cur).mono ?_
  rintro r w3 ⟨d, hd, rfl, hc3, hg3⟩
  replace hm := hm.by hg3 hc3
  clear hc3 hg3
  obtain ⟨p0, p1, p2, p3, p4, p5, p6, p7, p8⟩ := (hm.get (R := w.heap.size) (C := z9) (by simp)).1.nine
  have z0 := (hm.get (R := w.heap.size) (C := z9) (by simp)).2 0
  have z1 := (hm.get (R := w.heap.size) (C := z9) (by simp)).2 1
  have z2 := (hm.get (R := w.heap.size) (C := z9) (by simp)).2 2
  have z3 := (hm.get (R := w.heap.size) (C := z9) (by simp)).2 3
  have z4 := (hm.get (R := w.heap.size) (C := z9) (by simp)).2 4
  have z5 := (hm.get (R := w.heap.size) (C := z9) (by simp)).2 5
  have z6 := (hm.get (R := w.heap.size) (C := z9) (by simp)).2 6
  have z7 := (hm.get (R := w.heap.size) (C := z9) (by simp)).2 7
  have z8 := (hm.get (R := w.heap.size) (C := z9) (by simp)).2 8
  have zl := (hm.get (R := w.heap.size) (C := z9) (by simp)).1.1
  have HM := Lib.hid hm
  clear hm
  go_wp2
  have hF := HM.out.put9 (by simp) (.int .i64 n1) (.int .i64 (1 + n2)) (.int .i64 d.kind) (.string d.name) (.int .i64 d.ed.ma) (.int .i64 d.ed.mi) (.int .i64 d.ed.pa) (.string d.page) (.int .i64 d.who)
  exact bodyPost_ret (results_l6Draw ⟨n1, 1 + n2, d⟩ w.heap.size _ _ rfl (hF.get (List.mem_cons_self)).1) rfl ⟨⟨n1, 1 + n2, d⟩, hd, rfl, hF.cur, hF.grown⟩
set_option maxHeartbeats 4000000 in
theorem l6DrawAny_any (B g : Nat) (w : World) (hc : Cur B w g) :
    Calls Tryz.prog 43 #[.pointer (some ⟨g, 0, none⟩)] w (OrOut B g w) := by
  have hm := (DrM.start hc).new z9 33
  clear hc
  go_enter Tryz.func43, Tryz.ntmps43
  go_wp2_with fail
  refine (l6Draw_any B g _ hm.cur).mono ?_
  rintro r w1 ⟨o, ho, rfl, hc1, hg1⟩
  replace hm := hm.by hg1 hc1
  have h01 : w.heap.size < w1.heap.size := (hm.get (List.mem_cons_self)).1.1
  have HM := Lib.hid (hm.new (orC o) 33)
  clear hc1 hg1 hm
  go_wp2_with fail
  refine (l1Once_any B g _ HM.out.cur 8 (by omega) (by omega)).mono ?_
  rintro r w2 ⟨b, rfl, hc2, hg2⟩
  have hm := HM.out.by hg2 hc2
  clear hc2 hg2 HM
  go_upto_if 7 with (fail)
  go_cut [7] (fun _ wx => ∃ o, orIn 64 o ∧ DrM w B g [(w1.heap.size, orC o), (w.heap.size, z9)] wx)
  case first =>
    cases b
    · have HM := Lib.hid hm
      clear hm
      go_wp2
      go_meet
      exact ⟨o, ho, HM.out⟩
    · go_wp2_with fail
      refine (l1Below_any B g _ hm.cur 3 (by omega) (by omega)).mono ?_
      rintro r x2 ⟨u, hu0, hu1, rfl, hc3, hg3⟩
      replace hm := hm.by hg3 hc3
      clear hc3 hg3
      have hu : u = 0 ∨ u = 1 ∨ u = 2 := by omega
      rcases hu with hu | hu | hu
      · have hk0 : (u == 0) = true := by simp; omega
        go_wp2_with fail
        refine (l1Below_any B g _ (hm.alloc _).cur 3 (by omega) (by omega)).mono ?_
        rintro r x3 ⟨y, hy0, hy1, rfl, hc3, hg3⟩
        obtain ⟨n, hn⟩ := lit_int hg3 hm.cur.2.1 y hy0 (by show y < 3; omega) (by kernel_rfl)
        replace hm := (hm.alloc _).by hg3 hc3
        clear hc3 hg3
        obtain ⟨p0, p1, p2, p3, p4, p5, p6, p7, p8⟩ := (hm.get (R := w1.heap.size) (C := orC o) (by simp)).1.nine
        have z0 := (hm.get (R := w1.heap.size) (C := orC o) (by simp)).2 0
        have z1 := (hm.get (R := w1.heap.size) (C := orC o) (by simp)).2 1
        have z2 := (hm.get (R := w1.heap.size) (C := orC o) (by simp)).2 2
        have z3 := (hm.get (R := w1.heap.size) (C := orC o) (by simp)).2 3
        have z4 := (hm.get (R := w1.heap.size) (C := orC o) (by simp)).2 4
        have z5 := (hm.get (R := w1.heap.size) (C := orC o) (by simp)).2 5
        have z6 := (hm.get (R := w1.heap.size) (C := orC o) (by simp)).2 6
        have z7 := (hm.get (R := w1.heap.size) (C := orC o) (by simp)).2 7
        have z8 := (hm.get (R := w1.heap.size) (C := orC o) (by simp)).2 8
        have zl := (hm.get (R := w1.heap.size) (C := orC o) (by simp)).1.1
        have HM := Lib.hid hm
        clear hm
        go_wp2
        go_meet
        exact ⟨⟨n, o.seq, o.deed⟩, ho, HM.out.put (by simp; omega) 0 (.int .i64 n)⟩
      · have hk0 : (u == 0) = false := by simp; omega
        have hk1 : (u == 1) = true := by simp; omega
        go_wp2_with fail
        refine (l1Below_any B g _ (hm.alloc _).cur 3 (by omega) (by omega)).mono ?_
        rintro r x3 ⟨y, hy0, hy1, rfl, hc3, hg3⟩
        obtain ⟨n, hn⟩ := lit_int hg3 hm.cur.2.1 y hy0 (by show y < 3; omega) (by kernel_rfl)
        replace hm := (hm.alloc _).by hg3 hc3
        clear hc3 hg3
        obtain ⟨p0, p1, p2, p3, p4, p5, p6, p7, p8⟩ := (hm.get (R := w1.heap.size) (C := orC o) (by simp)).1.nine
        have z0 := (hm.get (R := w1.heap.size) (C := orC o) (by simp)).2 0
        have z1 := (hm.get (R := w1.heap.size) (C := orC o) (by simp)).2 1
        have z2 := (hm.get (R := w1.heap.size) (C := orC o) (by simp)).2 2
        have z3 := (hm.get (R := w1.heap.size) (C := orC o) (by simp)).2 3
        have z4 := (hm.get (R := w1.heap.size) (C := orC o) (by simp)).2 4
        have z5 := (hm.get (R := w1.heap.size) (C := orC o) (by simp)).2 5
        have z6 := (hm.get (R := w1.heap.size) (C := orC o) (by simp)).2 6
        have z7 := (hm.get (R := w1.heap.size) (C := orC o) (by simp)).2 7
        have z8 := (hm.get (R := w1.heap.size) (C := orC o) (by simp)).2 8
        have zl := (hm.get (R := w1.heap.size) (C := orC o) (by simp)).1.1
        have HM := Lib.hid hm
        clear hm
        go_wp2
        go_meet
        exact ⟨⟨o.client, n, o.deed⟩, ho, HM.out.put (by simp; omega) 1 (.int .i64 n)⟩
      · have hk0 : (u == 0) = false := by simp; omega
        have hk1 : (u == 1) = false := by simp; omega
        have hk2 : (u == 2) = true := by simp; omega
        go_wp2_with fail
        refine (l3DrawAny_any B g _ hm.cur).mono ?_
        rintro r x3 ⟨d, hd, rfl, hc3, hg3⟩
        replace hm := hm.by hg3 hc3
        clear hc3 hg3
        obtain ⟨p0, p1, p2, p3, p4, p5, p6, p7, p8⟩ := (hm.get (R := w1.heap.size) (C := orC o) (by simp)).1.nine
        have z0 := (hm.get (R := w1.heap.size) (C := orC o) (by simp)).2 0
        have z1 := (hm.get (R := w1.heap.size) (C := orC o) (by simp)).2 1
        have z2 := (hm.get (R := w1.heap.size) (C := orC o) (by simp)).2 2
        have z3 := (hm.get (R := w1.heap.size) (C := orC o) (by simp)).2 3
        have z4 := (hm.get (R := w1.heap.size) (C := orC o) (by simp)).2 4
        have z5 := (hm.get (R := w1.heap.size) (C := orC o) (by simp)).2 5
        have z6 := (hm.get (R := w1.heap.size) (C := orC o) (by simp)).2 6
        have z7 := (hm.get (R := w1.heap.size) (C := orC o) (by simp)).2 7
        have z8 := (hm.get (R := w1.heap.size) (C := orC o) (by simp)).2 8
        have zl := (hm.get (R := w1.heap.size) (C := orC o) (by simp)).1.1
        have HM := Lib.hid hm
        clear hm
        go_wp2
        go_meet
        exact ⟨⟨o.client, o.seq, d⟩, hd, HM.out.put7at (by simp; omega) _ _ _ _ _ _ _⟩
  case rest =>
    clear hm ho
    obtain ⟨o', ho, hm⟩ := hcut
    obtain ⟨p0, p1, p2, p3, p4, p5, p6, p7, p8⟩ := (hm.get (R := w1.heap.size) (C := orC o') (by simp)).1.nine
    have z0 := (hm.get (R := w1.heap.size) (C := orC o') (by simp)).2 0
    have z1 := (hm.get (R := w1.heap.size) (C := orC o') (by simp)).2 1
    have z2 := (hm.get (R := w1.heap.size) (C := orC o') (by simp)).2 2
    have z3 := (hm.get (R := w1.heap.size) (C := orC o') (by simp)).2 3
    have z4 := (hm.get (R := w1.heap.size) (C := orC o') (by simp)).2 4
    have z5 := (hm.get (R := w1.heap.size) (C := orC o') (by simp)).2 5
    have z6 := (hm.get (R := w1.heap.size) (C := orC o') (by simp)).2 6
    have z7 := (hm.get (R := w1.heap.size) (C := orC o') (by simp)).2 7
    have z8 := (hm.get (R := w1.heap.size) (C := orC o') (by simp)).2 8
    have zl := (hm.get (R := w1.heap.size) (C := orC o') (by simp)).1.1
    obtain ⟨q0, q1, q2, q3, q4, q5, q6, q7, q8⟩ := (hm.get (R := w.heap.size) (C := z9) (by simp)).1.nine
    have y0 := (hm.get (R := w.heap.size) (C := z9) (by simp)).2 0
    have y1 := (hm.get (R := w.heap.size) (C := z9) (by simp)).2 1
    have y2 := (hm.get (R := w.heap.size) (C := z9) (by simp)).2 2
    have y3 := (hm.get (R := w.heap.size) (C := z9) (by simp)).2 3
    have y4 := (hm.get (R := w.heap.size) (C := z9) (by simp)).2 4
    have y5 := (hm.get (R := w.heap.size) (C := z9) (by simp)).2 5
    have y6 := (hm.get (R := w.heap.size) (C := z9) (by simp)).2 6
    have y7 := (hm.get (R := w.heap.size) (C := z9) (by simp)).2 7
    have y8 := (hm.get (R := w.heap.size) (C := z9) (by simp)).2 8
    have yl := (hm.get (R := w.heap.size) (C := z9) (by simp)).1.1
    have HM := Lib.hid (DrM.sub (bx' := [(w.heap.size, z9), (w1.heap.size, orC o')]) hm (by simp))
    clear hm
    go_wp2
    have hF := HM.out.put9 (by simp; omega) (.int .i64 o'.client) (.int .i64 o'.seq) (.int .i64 o'.deed.kind) (.string o'.deed.name) (.int .i64 o'.deed.ed.ma) (.int .i64 o'.deed.ed.mi) (.int .i64 o'.deed.ed.pa) (.string o'.deed.page) (.int .i64 o'.deed.who)
    exact bodyPost_ret (results_l6DrawAny o' w.heap.size _ _ rfl (hF.get (List.mem_cons_self)).1) rfl ⟨o', ho, rfl, hF.cur, hF.grown⟩
end Go.Proofs.YtkpbfocnokbmiaaGreat
namespace Go.Proofs.YtkpbfocnokbmiaaGreat
open Go.RowKit
set_option maxRecDepth 20000
set_option linter.unusedVariables false
namespace M
theorem putLa_mem {l : List La} {k : Nat} {c x : La} (h : x ∈ putLa l k c) : x = c ∨ x ∈ l := by
  unfold putLa at h
  rcases List.mem_append.1 h with h | h
  · exact .inr (List.mem_of_mem_take h)
  · rcases List.mem_cons.1 h with h | h
    · exact .inl h
    · exact .inr (List.mem_of_mem_drop h)
theorem ordI_in {rs : List Wr} {ls : List La} {o : Or} {n : Nat} (hp : WrsIn n rs) (hl : ∀ x ∈ ls, laIn n x) : ∀ x ∈ (ordI (rs.map Wr.wk, ls) o).1.2, laIn n x := by
  have hf : ∀ x ∈ laFor ls o.client, laIn n x := fun x hx => by
    unfold laFor at hx
    split at hx
    · exact hl x hx
    · rcases putLa_mem hx with rfl | hx
      · exact Nat.zero_le _
      · exact hl x hx
  intro x hx
  unfold ordI at hx
  split at hx
  · unfold ordT at hx
    split at hx
    · split at hx
      · exact hf x hx
      · split at hx
        · rcases List.mem_or_eq_of_mem_set hx with hx | rfl
          · exact hf x hx
          · exact keptD_page o.deed hp
        · exact hf x hx
    · exact hf x hx
  · exact hl x hx
end M
theorem DrM.put2 {w0 : World} {B g R : Nat} {a b : Value} {bx : List (Nat × Array Value)} {x : World} (h : DrM w0 B g ((R, #[a, b]) :: bx) x) (hn : ∀ p ∈ bx, p.1 ≠ R) (a' b' : Value) : DrM w0 B g ((R, #[a', b']) :: bx) ((x.setCell ⟨R, 0, none⟩ a').setCell ⟨R, 1, none⟩ b') := by
  have := (h.put hn 0 a').put hn 1 b'
  simpa using this
theorem results_l6DrawBook (a b : Value) (R : Nat) (W : World) (tmps : Array Value) (h2 : tmps.getD 2 undef = .pointer (some ⟨R, 0, none⟩)) (hW : Holds W R (#[a, b])) :
    (results Tryz.f39 tmps).run Tryz.prog W = .ok (.agg #[a, b]) W := by
  obtain ⟨q0, q1⟩ := hW.two
  simp at h2
  simp [results, Tryz.results39, go_sem, h2, q0, q1]
/-- A small book, right or not, in new memory; the cursor stands, and its block alone is written. -/
def BkOut (B g : Nat) (ok : Prop) (w : World) (r : Ending) (w' : World) : Prop :=
  ∃ (A1 : Option Addr) (c1 : Nat) (A2 : Option Addr) (c2 : Nat) (rs : List Wr) (ls : List M.La), r = .returned (bkV A1 rs.length c1 A2 ls.length c2) ∧ SfOwn w.heap.size w' (.slice A1 rs.length c1) rs ∧ LasOwn w.heap.size w' (.slice A2 ls.length c2) ls ∧ (∀ k, (Value.slice A2 ls.length c2).ownBlock = some k → ¬ blocksS (.slice A1 rs.length c1) rs k) ∧ (rs.length ≤ 6 ∧ WrsIn 64 rs) ∧ (ls.length ≤ 7 ∧ ∀ x ∈ ls, laIn 64 x) ∧ (ok → M.bkOk (rs.map Wr.wk) ls = true) ∧ Cur B w' g ∧ w.grownBy w' (some g)
/-- Between two orders. -/
def BkNow (w : World) (B g : Nat) (x : World) : Prop :=
  ∃ (A1 : Option Addr) (c1 : Nat) (A2 : Option Addr) (c2 : Nat) (rs : List Wr) (ls : List M.La), (fun x => DrM w B g [((w.heap.size + 1), (bkA A1 rs.length c1 A2 ls.length c2)), (w.heap.size, (bkA none 0 0 none 0 0))] x ∧ SfOwn (w.heap.size + 2) x (.slice A1 rs.length c1) rs ∧ LasOwn (w.heap.size + 2) x (.slice A2 ls.length c2) ls) x ∧ (∀ k, (Value.slice A2 ls.length c2).ownBlock = some k → ¬ blocksS (.slice A1 rs.length c1) rs k) ∧ M.bkOk (rs.map Wr.wk) ls = true ∧ ∀ x ∈ ls, laIn 64 x
set_option maxHeartbeats 4000000 in
theorem l6DrawBook_any (B g : Nat) (w : World) (hc : Cur B w g) :
    Calls Tryz.prog 39 #[.pointer (some ⟨g, 0, none⟩)] w (BkOut B g True w) := by
  have hlow := hc.2.1
  have hm := ((DrM.start hc).new (bkA none 0 0 none 0 0) 27).new (bkA none 0 0 none 0 0) 27
  simp only [World.size_alloc] at hm
  clear hc
  go_enter Tryz.func39, Tryz.ntmps39
  go_wp2_with fail
  refine (l1Below_any B g _ hm.cur 12 (by omega) (by omega)).mono ?_
  rintro r w1 ⟨n0, hn0, hn1, rfl, hc1, hg1⟩
  have HST : Hid (BkNow w B g w1) := Lib.hid ⟨none, 0, none, 0, [], [], ⟨hm.by hg1 hc1, ⟨World.ownsRow_nil _ _ _ _, by simp, by simp, List.Pairwise.nil⟩, LasOwn.nil _ _⟩, (fun k e => by cases e), rfl, by simp⟩
  clear hm hc1 hg1
  go_wp2_with fail
  go_loopw [4] (fun s4 wr => ∃ n : Int, s4 = .int .i64 n ∧ 0 ≤ n ∧ n ≤ 11 ∧ BkNow w B g wr) (fun n _ => (intOf n).toNat)
  case atStart => exact ⟨n0, rfl, hn0, by omega, HST.out⟩
  case round =>
    clear HST
    obtain ⟨n, rfl, hn0', hn1', A1, c1, A2, c2, rs, ls, hst, hap, hok, hin⟩ := hrel
    have HST := Lib.hid hst
    have HAP := Lib.hid hap
    have HOK := Lib.hid hok
    have HIN := Lib.hid hin
    have hok' := hok
    simp only [M.bkOk, Bool.and_eq_true] at hok'
    have HW := Lib.hid (wrs_ok hok'.1)
    have HL := Lib.hid (M.lasOk_len hok'.2)
    clear hst hap hok hin hok'
    by_cases hlt : 0 < n
    · have HD : Hid (SfOwn (w.heap.size + 2) wr.drew (.slice A1 rs.length c1) rs ∧ LasOwn (w.heap.size + 2) wr.drew (.slice A2 ls.length c2) ls) := Lib.hid ⟨HST.out.2.1, HST.out.2.2⟩
      go_upto_region 5 with (fail)
      refine wp_region_fin 7 (fun x => DrM w B g [((w.heap.size + 1), (bkA A1 rs.length c1 A2 ls.length c2)), (w.heap.size, (bkA none 0 0 none 0 0))] x ∧ SfOwn (w.heap.size + 2) x (.slice A1 rs.length c1) rs ∧ LasOwn (w.heap.size + 2) x (.slice A2 ls.length c2) ls) [(0, true), (1, true), (2, false), (3, false), (4, true), (5, true), (6, true), (7, false)] (by kernel_rfl) (by kernel_rfl) (fun _ _ _ _ _ h => h) (by kernel_rfl) (by decide) ⟨HST.out.1.drew, HD.out.1, HD.out.2⟩ ?_
      intro hHeld
      repeat (first
        | (refine seqF_reads (by simp only [List.getElem?_toArray, List.getElem?_cons_succ, List.getElem?_cons_zero]; first | done | rfl) (by rfl) ?_; apply Exists.intro; apply And.intro; (focus (intro w hSw; (try (replace hSw := hSw (by decide +kernel))); (try (have hD := hSw; obtain ⟨k0, k1⟩ := (hD.1.get (List.mem_cons_self)).1.two)); go_simp; (try with_reducible rfl); done)); (try simp only [Act.put, List.setIfInBounds_toArray, List.set_cons_zero, List.set_cons_succ]))
        | (refine seqF_call (by simp only [List.getElem?_toArray, List.getElem?_cons_succ, List.getElem?_cons_zero]; first | done | rfl) (by rfl) (fun K hK => ?_) (by decide); go_simp; go_at_call 63; refine (l6Draw_any B g _ hHeld.1.cur).mono ?_; rintro r w1 ⟨o, ho, rfl, hc3, hg3⟩; go_simp; refine hK.out _ _ _ (fun _ h => h) ⟨hHeld.1.by hg3 hc3, hHeld.2.1.by hg3 (by omega), own_by hHeld.2.2 hg3 (by omega)⟩ ?_; clear hK hHeld; intro hHeld; clear hc3 hg3; (try simp only [Act.put, List.setIfInBounds_toArray, List.set_cons_zero, List.set_cons_succ]))
        | (refine seqF_call (by simp only [List.getElem?_toArray, List.getElem?_cons_succ, List.getElem?_cons_zero]; first | done | rfl) (by rfl) (fun K hK => ?_) (by decide); go_simp; go_at_call 29; refine (specOrdered A1 rs c1 A2 ls c2 o _ hHeld.2.1.wks.1 (fun r hr h => (hHeld.2.1.2.1 r hr).nilc h) (by have := HW.out.1; omega) (HW.out.2.mono (by omega)) (las_of hHeld.2.2) (row_nilc hHeld.2.2) (by have := HL.out; omega) (by have := ho.1; omega) (by have := ho.2; omega)).mono ?_; rintro r w1 ⟨v1, v2, rs3, rfl, hs3, hm3, hl3, ha3, b1⟩; obtain ⟨B1, e1, rfl, -, -⟩ := hs3.open; obtain ⟨B2, e2, rfl, -, -⟩ := LasOwn.open hl3; (have hsz := (hHeld.1.get (List.mem_cons_self)).1.1); (replace hs3 := hs3.mono (show w.heap.size + 2 ≤ _ by omega)); (replace hl3 := LasOwn.mono hl3 (show w.heap.size + 2 ≤ _ by omega)); go_simp; refine hK.out _ _ _ (fun _ h => h) ⟨hHeld.1.below b1, hHeld.2.1.below b1, LasOwn.below hHeld.2.2 b1⟩ ?_; clear hK hHeld; intro hHeld; (have HO3 := Lib.hid (show _ ∧ _ ∧ _ ∧ _ from ⟨hs3, hm3, hl3, ha3⟩)); clear hs3 hm3 hl3 ha3 b1; (try simp only [Act.put, List.setIfInBounds_toArray, List.set_cons_zero, List.set_cons_succ]))
        | (refine seqF_last (by simp only [List.getElem?_toArray, List.getElem?_cons_succ, List.getElem?_cons_zero]; first | done | rfl) (by rfl) (fun K hK => ?_); obtain ⟨k0, k1⟩ := (hHeld.1.get (List.mem_cons_self)).1.two; (have y0 := (hHeld.1.get (List.mem_cons_self)).2 0); (have y1 := (hHeld.1.get (List.mem_cons_self)).2 1); (have zp := (hHeld.1.get (List.mem_cons_self)).1.1); go_simp; refine hK.out _ _ ?_; clear hK; clear k0 k1 y0 y1 zp; (have HH := Lib.hid hHeld); clear hHeld; (try simp only [Act.put, List.setIfInBounds_toArray, List.set_cons_zero, List.set_cons_succ])))
      refine seqF_end ?_
      obtain ⟨q, hq⟩ : ∃ q, M.ordered (rs.map Wr.wk, ls) o = q := ⟨_, rfl⟩
      rw [hq] at HO3 ⊢
      have hq1 : M.ordI (rs.map Wr.wk, ls) o = q := by rw [← hq]; unfold M.ordered; rw [if_pos HOK.out]
      have HEND : Hid (BkNow w B g ((w1.setCell ⟨(w.heap.size + 1), 0, none⟩ (.slice B1 rs3.length e1)).setCell ⟨(w.heap.size + 1), 1, none⟩ (.slice B2 q.1.2.length e2))) := Lib.hid ⟨B1, e1, B2, e2, rs3, q.1.2, ⟨HH.out.1.put2 (by simp) _ _, ((HO3.out.1.set (by omega) 0 _).set (by omega) 1 _), own_set (own_set HO3.out.2.2.1 (by omega) 0 _) (by omega) 1 _⟩, HO3.out.2.2.2, by
        rw [HO3.out.2.1, ← hq1]
        exact M.ordI_ok HOK.out, by
        rw [← hq1]
        exact M.ordI_in (HW.out.2.mono (by omega)) HIN.out⟩
      clear HH HO3 hq hq1 HD
      go_wp2
      go_roundw
      case rel => exact ⟨n - 1, by go_num, by omega, by omega, HEND.out⟩
      case measure => simp [intOf]; omega
    · obtain ⟨k0, k1⟩ := (HST.out.1.get (List.mem_cons_self)).1.two
      obtain ⟨q0, q1⟩ := (HST.out.1.get (R := w.heap.size) (C := (bkA none 0 0 none 0 0)) (by simp)).1.two
      have y0 := (HST.out.1.get (R := w.heap.size) (C := (bkA none 0 0 none 0 0)) (by simp)).2 0
      have y1 := (HST.out.1.get (R := w.heap.size) (C := (bkA none 0 0 none 0 0)) (by simp)).2 1
      have zq := (HST.out.1.get (R := w.heap.size) (C := (bkA none 0 0 none 0 0)) (by simp)).1.1
      go_wp2
      have hF := (DrM.sub (bx' := [(w.heap.size, (bkA none 0 0 none 0 0))]) HST.out.1 (by simp)).put2 (by simp) (.slice A1 rs.length c1) (.slice A2 ls.length c2)
      exact bodyPost_ret (results_l6DrawBook _ _ w.heap.size _ _ rfl (hF.get (List.mem_cons_self)).1) rfl ⟨A1, c1, A2, c2, rs, ls, rfl, ((HST.out.2.1.set (by omega) 0 _).set (by omega) 1 _).mono (by omega), LasOwn.mono (own_set (own_set HST.out.2.2 (by omega) 0 _) (by omega) 1 _) (by omega), HAP.out, ⟨by have := HW.out.1; omega, HW.out.2.mono (by omega)⟩, ⟨by have := HL.out; omega, HIN.out⟩, fun _ => HOK.out, hF.cur, hF.grown⟩
end Go.Proofs.YtkpbfocnokbmiaaGreat
namespace Go.Proofs.YtkpbfocnokbmiaaGreat
open Go.RowKit
set_option maxRecDepth 20000
set_option linter.unusedVariables false
theorem results_l6DrawBookAny (a b : Value) (R : Nat) (W : World) (tmps : Array Value) (h2 : tmps.getD 2 undef = .pointer (some ⟨R, 0, none⟩)) (hW : Holds W R (#[a, b])) :
    (results Tryz.f20 tmps).run Tryz.prog W = .ok (.agg #[a, b]) W := by
  obtain ⟨q0, q1⟩ := hW.two
  simp at h2
  simp [results, Tryz.results20, go_sem, h2, q0, q1]
theorem BkOut.small {B g : Nat} {w w' : World} {r : Ending} {p q : Prop} (h : BkOut B g p w r w') (hq : q → p) : BkOut B g q w r w' := by
  obtain ⟨A1, c1, A2, c2, rs, ls, h1, h2, h3, h4, h5, h6, h7, h8⟩ := h
  exact ⟨A1, c1, A2, c2, rs, ls, h1, h2, h3, h4, h5, h6, fun k => h7 (hq k), h8⟩
/-- A book in box R2, any small one. -/
def BkAny (w : World) (B g R2 : Nat) (x : World) : Prop :=
  ∃ (A1 : Option Addr) (c1 : Nat) (A2 : Option Addr) (c2 : Nat) (rs : List Wr) (ls : List M.La), DrM w B g [(R2, (bkA A1 rs.length c1 A2 ls.length c2)), (w.heap.size, (bkA none 0 0 none 0 0))] x ∧ SfOwn (w.heap.size + 1) x (.slice A1 rs.length c1) rs ∧ LasOwn (w.heap.size + 1) x (.slice A2 ls.length c2) ls ∧ ((∀ k, (Value.slice A2 ls.length c2).ownBlock = some k → ¬ blocksS (.slice A1 rs.length c1) rs k) ∧ ¬ blocksS (.slice A1 rs.length c1) rs R2 ∧ (Value.slice A2 ls.length c2).ownBlock ≠ some R2) ∧ (rs.length ≤ 6 ∧ WrsIn 64 rs) ∧ (ls.length ≤ 7 ∧ ∀ x ∈ ls, laIn 64 x)
set_option maxHeartbeats 8000000 in
theorem l6DrawBookAny_any (B g : Nat) (w : World) (hc : Cur B w g) :
    Calls Tryz.prog 20 #[.pointer (some ⟨g, 0, none⟩)] w (BkOut B g False w) := by
  obtain ⟨i0, hi, hz0, hz1, hz2⟩ := info_parts infoLas
  have hlow := hc.2.1
  have hm := (DrM.start hc).new (bkA none 0 0 none 0 0) 27
  clear hc
  go_enter Tryz.func20, Tryz.ntmps20
  go_wp2_with fail
  refine (l6DrawBook_any B g _ hm.cur).mono ?_
  rintro r wq ⟨A1, c1, A2, c2, rs, ls, rfl, hs, hla, hap, hsz, hlz0, hok0, hc1, hg1⟩
  have hlz : ls.length ≤ 6 ∧ ∀ x ∈ ls, laIn 64 x := ⟨by have h := hok0 trivial; simp only [M.bkOk, Bool.and_eq_true] at h; have := M.lasOk_len h.2; omega, hlz0.2⟩
  clear hlz0 hok0
  replace hm := hm.by hg1 hc1
  have h01 : w.heap.size < wq.heap.size := (hm.get (List.mem_cons_self)).1.1
  simp only [World.size_alloc] at hs hla
  have bq := (Below.refl wq.heap.size wq).alloc (Nat.le_refl _) (.cells (bkA A1 rs.length c1 A2 ls.length c2) 27)
  have HM := Lib.hid (hm.new (bkA A1 rs.length c1 A2 ls.length c2) 27)
  have HS := Lib.hid (hs.below bq)
  have HL := Lib.hid (LasOwn.below hla bq)
  have HX : Hid ((∀ k, (Value.slice A2 ls.length c2).ownBlock = some k → ¬ blocksS (.slice A1 rs.length c1) rs k) ∧ ¬ blocksS (.slice A1 rs.length c1) rs wq.heap.size ∧ (Value.slice A2 ls.length c2).ownBlock ≠ some wq.heap.size) := Lib.hid ⟨hap, fun h => by have := (hs.ge h).2; omega, fun h => by have := (World.ownsRow.lt hla _ h).2; omega⟩
  have HSZ := Lib.hid hsz
  have HLL := Lib.hid hlz
  clear hc1 hg1 hm hs hla hap hsz hlz bq
  go_wp2_with fail
  refine (l1Once_any B g _ HM.out.cur 10 (by omega) (by omega)).mono ?_
  rintro r w2 ⟨b, rfl, hc2, hg2⟩
  have hm := HM.out.by hg2 hc2
  replace HS := Lib.hid (HS.out.by hg2 (by omega))
  replace HL := Lib.hid (own_by HL.out hg2 (by omega))
  clear hc2 hg2 HM
  go_upto_if 7 with (fail)
  go_cut [7] (fun _ wx => BkAny w B g wq.heap.size wx)
  case first =>
    cases b
    · have HM := Lib.hid hm
      clear hm
      go_wp2
      go_meet
      exact ⟨A1, c1, A2, c2, rs, ls, HM.out, HS.out, HL.out, HX.out, HSZ.out, by have := HLL.out.1; omega, HLL.out.2⟩
    · go_wp2_with fail
      refine (l1Below_any B g _ hm.cur 2 (by omega) (by omega)).mono ?_
      rintro r x2 ⟨u, hu0, hu1, rfl, hc3, hg3⟩
      replace hm := hm.by hg3 hc3
      replace HS := Lib.hid (HS.out.by hg3 (by omega))
      replace HL := Lib.hid (own_by HL.out hg3 (by omega))
      clear hc3 hg3
      have hu : u = 0 ∨ u = 1 := by omega
      rcases hu with hu | hu
      · have hk0 : (u == 0) = true := by simp; omega
        go_wp2_with fail
        refine (l5DrawAny_any B g _ hm.cur).mono ?_
        rintro r x3 ⟨A3, c3, rs3, rfl, ho3, hs3, hc3, hg3⟩
        have hxs := (hm.get (List.mem_cons_self)).1.1
        have hll := fun k hk => (World.ownsRow.lt HL.out k hk).2
        replace hm := hm.by hg3 hc3
        replace HL := Lib.hid (own_by HL.out hg3 (by omega))
        have HS3 := Lib.hid ho3
        have HZ3 := Lib.hid hs3
        have HX3 : Hid ((∀ k, (Value.slice A2 ls.length c2).ownBlock = some k → ¬ blocksS (.slice A3 rs3.length c3) rs3 k) ∧ ¬ blocksS (.slice A3 rs3.length c3) rs3 wq.heap.size ∧ (Value.slice A2 ls.length c2).ownBlock ≠ some wq.heap.size) := Lib.hid ⟨fun k hk hb => by have := hll k hk; have := (ho3.ge hb).1; omega, fun hb => by have := (ho3.ge hb).1; omega, HX.out.2.2⟩
        have HXS := Lib.hid hxs
        clear hc3 hg3 hxs hll ho3 hs3
        obtain ⟨p0, p1⟩ := (hm.get (R := wq.heap.size) (C := (bkA A1 rs.length c1 A2 ls.length c2)) (by simp)).1.two
        have z0 := (hm.get (R := wq.heap.size) (C := (bkA A1 rs.length c1 A2 ls.length c2)) (by simp)).2 0
        have z1 := (hm.get (R := wq.heap.size) (C := (bkA A1 rs.length c1 A2 ls.length c2)) (by simp)).2 1
        have zl := (hm.get (R := wq.heap.size) (C := (bkA A1 rs.length c1 A2 ls.length c2)) (by simp)).1.1
        have HM := Lib.hid hm
        clear hm
        go_wp2
        go_meet
        exact ⟨A3, c3, A2, c2, rs3, ls, HM.out.put (by simp; omega) 0 (.slice A3 rs3.length c3), (HS3.out.offN HX3.out.2.1 0 _).mono (by have := HXS.out; omega), own_off HL.out HX.out.2.2 0 _, HX3.out, HZ3.out, by have := HLL.out.1; omega, HLL.out.2⟩
      · have hk0 : (u == 0) = false := by simp; omega
        have hk1 : (u == 1) = true := by simp; omega
        replace HS : Hid (SfOwn (w.heap.size + 1) x2.drew (.slice A1 rs.length c1) rs) := Lib.hid HS.out
        replace HL : Hid (LasOwn (w.heap.size + 1) x2.drew (.slice A2 ls.length c2) ls) := Lib.hid HL.out
        go_upto_region 7 with (fail)
        refine wp_region_fin 10 (fun x => DrM w B g [(wq.heap.size, (bkA A1 rs.length c1 A2 ls.length c2)), (w.heap.size, (bkA none 0 0 none 0 0))] x) [(0, true), (1, true), (2, true), (4, true), (3, false), (5, false), (6, true), (7, false), (8, false), (9, true), (10, false)] (by kernel_rfl) (by kernel_rfl) (fun _ _ _ _ _ h => h) (by kernel_rfl) (by decide) hm.drew ?_
        intro hHeld
        repeat (first
          | (refine seqF_reads (by simp only [List.getElem?_toArray, List.getElem?_cons_succ, List.getElem?_cons_zero]; first | done | rfl) (by rfl) ?_; apply Exists.intro; apply And.intro; (focus (intro w hSw; (try (replace hSw := hSw (by decide +kernel))); (try (have hD := hSw; obtain ⟨k0, k1⟩ := (hD.get (List.mem_cons_self)).1.two)); go_simp; (try with_reducible rfl); done)); (try simp only [Act.put, List.setIfInBounds_toArray, List.set_cons_zero, List.set_cons_succ]))
          | (refine seqF_call (by simp only [List.getElem?_toArray, List.getElem?_cons_succ, List.getElem?_cons_zero]; first | done | rfl) (by rfl) (fun K hK => ?_) (by decide); go_simp; go_at_call 41; refine (l1From_any B g _ hHeld.cur (-1) 4 (by omega) (by omega) (by omega)).mono ?_; rintro r w1 ⟨u1, -, -, rfl, hc3, hg3⟩; go_simp; refine hK.out _ _ _ (fun _ h => h) (hHeld.by hg3 hc3) ?_; clear hK hHeld; intro hHeld; replace HS := Lib.hid (HS.out.by hg3 (by omega)); replace HL := Lib.hid (own_by HL.out hg3 (by omega)); clear hc3 hg3; (try simp only [Act.put, List.setIfInBounds_toArray, List.set_cons_zero, List.set_cons_succ]))
          | (refine seqF_call (by simp only [List.getElem?_toArray, List.getElem?_cons_succ, List.getElem?_cons_zero]; first | done | rfl) (by rfl) (fun K hK => ?_) (by decide); go_simp; go_at_call 26; refine (l1Below_any B g _ hHeld.cur 3 (by omega) (by omega)).mono ?_; rintro r w1 ⟨u2, -, -, rfl, hc3, hg3⟩; go_simp; refine hK.out _ _ _ (fun _ h => h) (hHeld.by hg3 hc3) ?_; clear hK hHeld; intro hHeld; replace HS := Lib.hid (HS.out.by hg3 (by omega)); replace HL := Lib.hid (own_by HL.out hg3 (by omega)); clear hc3 hg3; (try simp only [Act.put, List.setIfInBounds_toArray, List.set_cons_zero, List.set_cons_succ]))
          | (refine seqF_call (by simp only [List.getElem?_toArray, List.getElem?_cons_succ, List.getElem?_cons_zero]; first | done | rfl) (by rfl) (fun K hK => ?_) (by decide); refine wp_append_flat_at (k := 4) (enc := laL) (l := [(⟨u1, u2, 0, ⟨#[]⟩⟩ : M.La)]) _ _ 25 rfl (w.heap.size + 1) 71 i0 _ 40 Tryz.underlying25 hi hz0 hz1 hz2 rfl (by decide) (.slice A2 ls.length c2) ls.length (cellsOf laL ls) rfl HL.out (some ⟨w1.heap.size, 0, none⟩) 1 rfl (fun h => by cases h) (one_flatLa w1 (⟨u1, u2, 0, ⟨#[]⟩⟩ : M.La) _) laL_len (la_one _) (by have := HLL.out.1; simp only [List.length_singleton]; unfold maxLen; omega) (by have := HLL.out.1; simp only [List.length_singleton]; omega) (by have := HLT.out; rw [World.size_alloc]; omega) ?_; intro v6 w6 hown6 hgrow6 hat6; (have hO6 : LasOwn (w.heap.size + 1) w6 v6 (ls ++ [(⟨u1, u2, 0, ⟨#[]⟩⟩ : M.La)]) := (by show World.ownsRow _ _ _ _ _ _ _; rw [List.length_append, cellsOf_append]; exact hown6)); (have hS6 := HS.out.kept hgrow6 (fun k hk => HX.out.1 k hk)); (have hA6 : ∀ k, v6.ownBlock = some k → ¬ blocksS (.slice A1 rs.length c1) rs k ∧ k ≠ wq.heap.size := fun k hk => by rcases hat6 with h' | h'; exact ⟨HX.out.1 k (h' ▸ hk), fun e => HX.out.2.2 (e ▸ (h' ▸ hk))⟩; have h2 := Option.some.inj (hk.symm.trans h'); rw [World.size_alloc] at h2; have h1 := HLT.out; exact ⟨fun hb => by have := (HS.out.ge hb).2; rw [World.size_alloc] at this; omega, by omega⟩); refine hK.out _ _ _ (fun _ h => h) (hHeld.byRow hgrow6 (fun k hk => ⟨by have := (World.ownsRow.lt HL.out k hk).1; omega, fun p hp => by rcases List.mem_cons.1 hp with rfl | hp; exact fun e => HX.out.2.2 (by rw [hk, ← e]); obtain rfl := List.mem_singleton.1 hp; have := (World.ownsRow.lt HL.out k hk).1; simp only; omega⟩)) ?_; clear hK hHeld hown6 hgrow6 hat6; intro hHeld; obtain ⟨A6, c6, rfl, -, -⟩ := LasOwn.open hO6; (have HO6 := Lib.hid (show _ ∧ _ ∧ _ from ⟨hS6, hO6, hA6⟩)); clear hO6 hS6 hA6; (try simp only [Act.put, List.setIfInBounds_toArray, List.set_cons_zero, List.set_cons_succ]))
          | (refine seqF_call (by simp only [List.getElem?_toArray, List.getElem?_cons_succ, List.getElem?_cons_zero]; first | done | rfl) (by rfl) (fun K hK => ?_) (by decide); go_simp; refine hK.out _ _ _ (fun _ h => h) (hHeld.alloc _) ?_; (have HLT := Lib.hid (hHeld.ne (List.mem_cons_self)).2.2); replace HS := Lib.hid (HS.out.below ((Below.refl w1.heap.size w1).alloc (Nat.le_refl _) (.cells (laA (⟨u1, u2, 0, ⟨#[]⟩⟩ : M.La)) 71))); replace HL := Lib.hid (World.ownsRow.alloc HL.out (.cells (laA (⟨u1, u2, 0, ⟨#[]⟩⟩ : M.La)) 71)); clear hK hHeld; intro hHeld; (try simp only [Act.put, List.setIfInBounds_toArray, List.set_cons_zero, List.set_cons_succ]))
          | (refine seqF_last (by simp only [List.getElem?_toArray, List.getElem?_cons_succ, List.getElem?_cons_zero]; first | done | rfl) (by rfl) (fun K hK => ?_); have hD := hHeld; obtain ⟨k0, k1⟩ := (hD.get (List.mem_cons_self)).1.two; (have z0 := (hD.get (List.mem_cons_self)).2 0); (have z1 := (hD.get (List.mem_cons_self)).2 1); (have zl := (hD.get (List.mem_cons_self)).1.1); go_simp; refine hK.out _ _ ?_; clear hK; clear hD k0 k1 z0 z1 zl; (have HH := Lib.hid hHeld); clear hHeld; (try simp only [Act.put, List.setIfInBounds_toArray, List.set_cons_zero, List.set_cons_succ])))
        refine seqF_end ?_
        obtain ⟨HS6, HL6, HA6⟩ := HO6.out
        have HM9 := Lib.hid (DrM.put HH.out (by simp; omega) 1 (.slice A6 (ls ++ [(⟨u1, u2, 0, ⟨#[]⟩⟩ : M.La)]).length c6))
        clear HH
        have HX6 := HX.out
        go_wp2
        go_meet
        rw [show ls.length + 1 = (ls ++ [(⟨u1, u2, 0, ⟨#[]⟩⟩ : M.La)]).length by simp]
        refine ⟨A1, c1, A6, c6, rs, ls ++ [(⟨u1, u2, 0, ⟨#[]⟩⟩ : M.La)], HM9.out, HS6.offN HX6.2.1 1 _, own_off HL6 (fun e => (HA6 _ e).2 rfl) 1 _, ⟨fun k hk => (HA6 k hk).1, HX6.2.1, fun e => (HA6 _ e).2 rfl⟩, HSZ.out, ⟨?_, fun x hx => ?_⟩⟩
        · have := HLL.out.1
          simp only [List.length_append, List.length_singleton]
          omega
        · rcases List.mem_append.1 hx with hx | hx
          · exact HLL.out.2 x hx
          · obtain rfl := List.mem_singleton.1 hx
            exact Nat.zero_le _
  case rest =>
    clear hm
    obtain ⟨A1', c1', A2', c2', rs', ls', hm, hs, hl, hx, hsz, hlz⟩ := hcut
    have HS' := Lib.hid hs
    have HL' := Lib.hid hl
    have HX' := Lib.hid hx
    have HSZ' := Lib.hid hsz
    have HLZ' := Lib.hid hlz
    clear hs hl hx hsz hlz HS HL HX HSZ HLL
    obtain ⟨p0, p1⟩ := (hm.get (R := wq.heap.size) (C := bkA A1' rs'.length c1' A2' ls'.length c2') (by simp)).1.two
    have z0 := (hm.get (R := wq.heap.size) (C := bkA A1' rs'.length c1' A2' ls'.length c2') (by simp)).2 0
    have z1 := (hm.get (R := wq.heap.size) (C := bkA A1' rs'.length c1' A2' ls'.length c2') (by simp)).2 1
    have zl := (hm.get (R := wq.heap.size) (C := bkA A1' rs'.length c1' A2' ls'.length c2') (by simp)).1.1
    obtain ⟨q0, q1⟩ := (hm.get (R := w.heap.size) (C := (bkA none 0 0 none 0 0)) (by simp)).1.two
    have y0 := (hm.get (R := w.heap.size) (C := (bkA none 0 0 none 0 0)) (by simp)).2 0
    have y1 := (hm.get (R := w.heap.size) (C := (bkA none 0 0 none 0 0)) (by simp)).2 1
    have yl := (hm.get (R := w.heap.size) (C := (bkA none 0 0 none 0 0)) (by simp)).1.1
    have HM := Lib.hid (DrM.sub (bx' := [(w.heap.size, (bkA none 0 0 none 0 0))]) hm (by simp))
    clear hm
    go_wp2
    have hF := HM.out.put2 (by simp) (.slice A1' rs'.length c1') (.slice A2' ls'.length c2')
    exact bodyPost_ret (results_l6DrawBookAny _ _ w.heap.size _ _ rfl (hF.get (List.mem_cons_self)).1) rfl ⟨A1', c1', A2', c2', rs', ls', rfl, ((HS'.out.set (by omega) 0 _).set (by omega) 1 _).mono (by omega), LasOwn.mono (own_set (own_set HL'.out (by omega) 0 _) (by omega) 1 _) (by omega), HX'.out.1, HSZ'.out, HLZ'.out, fun h => h.elim, hF.cur, hF.grown⟩
end Go.Proofs.YtkpbfocnokbmiaaGreat
