/- Proved, in parts: Proved: what the model draws of deeds, right or not: some deed whose texts are short; the cursor stands, and its block and new ones alone are written. Proved: what the model draws of shelves, right or not: a small list of works, in new memory; the cursor stands, and its block alone is written. No condition. Proved: the laws' own test tells a deed like itself; it writes nothing that was there. No condition. Proved: the laws' helpers on one order (its size, its copy, its likeness) answer plain Lean functions; they write nothing that was there. Condition: texts of at most a million where the size is told. -/
import Derived.Test.YtkpbfocnokbmiaaGreatPart39
import Derived.Test.YtkpbfocnokbmiaaGreatPart07
import Derived.Test.YtkpbfocnokbmiaaGreatPart37
import Derived.Test.YtkpbfocnokbmiaaGreatPart30
import Derived.Test.YtkpbfocnokbmiaaGreatPart19
import Derived.Test.YtkpbfocnokbmiaaGreatPart04
namespace Go.Proofs.YtkpbfocnokbmiaaGreat
open Go.RowKit
set_option maxRecDepth 20000
set_option linter.unusedVariables false

theorem results_l3a (d : M.Dd) (R : Nat) (W : World) (tmps : Array Value) (h2 : tmps.getD 2 undef = .pointer (some ⟨R, 0, none⟩)) (hW : Holds W R (ddC d)) :
    (results Tryz.f66 tmps).run Tryz.prog W = .ok (ddV d) W := by
  obtain ⟨q0, q1, q2, q3, q4, q5, q6⟩ := hW.seven
  simp at h2
  simp [results, Tryz.results66, go_sem, h2, q0, q1, q2, q3, q4, q5, q6]

set_option maxHeartbeats 1000000 in
theorem l1From_any (B g : Nat) (w : World) (hc : Cur B w g) (lo hi : Int) (h0 : -1000 ≤ lo) (h1 : lo ≤ hi) (h2 : hi ≤ 1000) :
    Calls Tryz.prog 41 #[.pointer (some ⟨g, 0, none⟩), .int .i64 lo, .int .i64 hi] w (IntOut B g lo hi w) := by
  go_enter Tryz.func41, Tryz.ntmps41
  go_wp2_with fail
  refine (l1Below_any B g _ hc (hi - lo + 1) (by omega) (by omega)).mono ?_
  rintro r w1 ⟨n, hn0, hn1, rfl, hc1, hg1⟩
  go_wp2
  go_ret
  exact ⟨lo + n, by omega, by omega, rfl, hc1, hg1⟩


theorem tabS {w : World} {k : Nat} (u : Int) (h0 : 0 ≤ u) (h1 : u < 3) (h : Holds w k #[.string ⟨#[65]⟩, .string ⟨#[120, 49]⟩, .string ⟨#[97, 98, 99, 100, 101, 102, 103, 104, 105, 106, 107, 108, 109]⟩]) : ∃ pg : ByteArray, pg.size ≤ 64 ∧ w.cell? ⟨k, u.toNat, none⟩ = some (.string pg) := by
  rcases (show u = 0 ∨ u = 1 ∨ u = 2 by omega) with rfl | rfl | rfl
  · exact ⟨_, by decide, h.2 0 _ rfl⟩
  · exact ⟨_, by decide, h.2 1 _ rfl⟩
  · exact ⟨_, by decide, h.2 2 _ rfl⟩
theorem tabW {w : World} {k : Nat} (u : Int) (h0 : 0 ≤ u) (h1 : u < 3) (h : Holds w k #[.int .i64 (-1), .int .i64 3, .int .i64 4]) : ∃ n : Int, w.cell? ⟨k, u.toNat, none⟩ = some (.int .i64 n) := by
  rcases (show u = 0 ∨ u = 1 ∨ u = 2 by omega) with rfl | rfl | rfl
  · exact ⟨_, h.2 0 _ rfl⟩
  · exact ⟨_, h.2 1 _ rfl⟩
  · exact ⟨_, h.2 2 _ rfl⟩


set_option maxHeartbeats 8000000 in
theorem l3DrawAny_any (B g : Nat) (w : World) (hc : Cur B w g) :
    Calls Tryz.prog 66 #[.pointer (some ⟨g, 0, none⟩)] w (DdOut B g w) := by
  have hlt := hc.2.1
  have hB := hc.1
  have m0 := (DS.start hc).box hlt (.int .i64 0) (.string ⟨#[]⟩) (.int .i64 0) (.int .i64 0) (.int .i64 0) (.string ⟨#[]⟩) (.int .i64 0) 31
  go_enter Tryz.func66, Tryz.ntmps66
  go_wp2_with fail
  refine (l3Draw_any B g _ m0.1).mono ?_
  rintro r w1 ⟨d, ⟨hdn, hdp⟩, rfl, hc1, hg1⟩
  have hD0 := m0.by hc1 hg1
  have hRl := hD0.roomLt w.heap.size (by simp)
  have hgl := hD0.1.2.1
  have hD := (hD0.box hlt (.int .i64 d.kind) (.string d.name) (.int .i64 d.ed.ma) (.int .i64 d.ed.mi) (.int .i64 d.ed.pa) (.string d.page) (.int .i64 d.who) 31).add (by omega) (by omega) (holds_new w1 (ddC d) 31)
  have hG : w.heap.size < w1.heap.size := hRl
  clear hD0 m0 hc1 hg1 hRl hgl hc
  go_upto_region 2 with (fail)
  generalize hW : w1.alloc (.cells (ddC d) 31) = wz at hD ⊢
  generalize hGG : w1.heap.size = G at hD hG ⊢
  clear hW hGG
  obtain ⟨hGg, hGz, hHo⟩ := hD.2.2.1 _ (List.mem_cons_self)
  obtain ⟨-, -, -, hLo⟩ := hD.2.2.2 G (by simp)
  obtain ⟨-, -, ⟨x0, x1, x2, x3, x4, x5, x6, hRo⟩, hRl⟩ := hD.2.2.2 w.heap.size (by simp)
  obtain ⟨d0, d1, d2, d3, d4, d5, d6⟩ := hHo.seven
  obtain ⟨t0, t1, t2, t3, t4, t5, t6⟩ := hLo.seven
  obtain ⟨r0, r1, r2, r3, r4, r5, r6⟩ := hRo.seven
  obtain ⟨s0, s1, s2, s3, s4, s5, s6⟩ := hRl.seven
  have zG := hHo.1
  have zR := hRo.1
  clear hHo hLo hRo hRl
  go_wp2_with fail
  refine (l1Once_any B g _ hD.1 8 (by omega) (by omega)).mono ?_
  rintro r w2 ⟨b, rfl, hc1, hg1⟩
  replace hD := hD.by hc1 hg1
  clear hc1 hg1
  clear d0 d1 d2 d3 d4 d5 d6 t0 t1 t2 t3 t4 t5 t6 r0 r1 r2 r3 r4 r5 r6 s0 s1 s2 s3 s4 s5 s6 zG zR hGg hGz x0 x1 x2 x3 x4 x5 x6
  obtain ⟨hGg, hGz, hHo⟩ := hD.2.2.1 _ (List.mem_cons_self)
  obtain ⟨-, -, -, hLo⟩ := hD.2.2.2 G (by simp)
  obtain ⟨-, -, ⟨x0, x1, x2, x3, x4, x5, x6, hRo⟩, hRl⟩ := hD.2.2.2 w.heap.size (by simp)
  obtain ⟨d0, d1, d2, d3, d4, d5, d6⟩ := hHo.seven
  obtain ⟨t0, t1, t2, t3, t4, t5, t6⟩ := hLo.seven
  obtain ⟨r0, r1, r2, r3, r4, r5, r6⟩ := hRo.seven
  obtain ⟨s0, s1, s2, s3, s4, s5, s6⟩ := hRl.seven
  have zG := hHo.1
  have zR := hRo.1
  clear hHo hLo hRo hRl
  cases b
  · go_wp2
    obtain ⟨-, -, ⟨x0, x1, x2, x3, x4, x5, x6, hRo⟩, -⟩ := hD.2.2.2 w.heap.size (by simp)
    have hF := hD.write7 hlt hB (Nat.le_refl _) (by simp; omega)
    exact bodyPost_ret (results_l3a d w.heap.size _ _ rfl (hRo.put7M _ _ _ _ _ _ _)) rfl ⟨d, ⟨hdn, hdp⟩, rfl, (hF _ _ _ _ _ _ _).1, (hF _ _ _ _ _ _ _).2.1⟩
  · go_wp2_with fail
    refine (l1Below_any B g _ hD.1 5 (by omega) (by omega)).mono ?_
    rintro r w3 ⟨v, hv0, hv1, rfl, hc1, hg1⟩
    replace hD := hD.by hc1 hg1
    clear hc1 hg1
    clear d0 d1 d2 d3 d4 d5 d6 t0 t1 t2 t3 t4 t5 t6 r0 r1 r2 r3 r4 r5 r6 s0 s1 s2 s3 s4 s5 s6 zG zR hGg hGz x0 x1 x2 x3 x4 x5 x6
    obtain ⟨hGg, hGz, hHo⟩ := hD.2.2.1 _ (List.mem_cons_self)
    obtain ⟨-, -, -, hLo⟩ := hD.2.2.2 G (by simp)
    obtain ⟨-, -, ⟨x0, x1, x2, x3, x4, x5, x6, hRo⟩, hRl⟩ := hD.2.2.2 w.heap.size (by simp)
    obtain ⟨d0, d1, d2, d3, d4, d5, d6⟩ := hHo.seven
    obtain ⟨t0, t1, t2, t3, t4, t5, t6⟩ := hLo.seven
    obtain ⟨r0, r1, r2, r3, r4, r5, r6⟩ := hRo.seven
    obtain ⟨s0, s1, s2, s3, s4, s5, s6⟩ := hRl.seven
    have zG := hHo.1
    have zR := hRo.1
    clear hHo hLo hRo hRl
    rcases (show v = 0 ∨ v = 1 ∨ v = 2 ∨ v = 3 ∨ v = 4 by omega) with hv | hv | hv | hv | hv
    · have hk0 : (v == 0) = true := by simp; omega
      have hk1 : (v == 1) = false := by simp; omega
      have hk2 : (v == 2) = false := by simp; omega
      have hk3 : (v == 3) = false := by simp; omega
      have hk4 : (v == 4) = false := by simp; omega
      go_wp2_with fail
      refine (l1From_any B g _ hD.1 0 7 (by omega) (by omega) (by omega)).mono ?_
      rintro r w4 ⟨n, hn0, hn1, rfl, hc1, hg1⟩
      replace hD := hD.by hc1 hg1
      clear hc1 hg1
      clear d0 d1 d2 d3 d4 d5 d6 t0 t1 t2 t3 t4 t5 t6 r0 r1 r2 r3 r4 r5 r6 s0 s1 s2 s3 s4 s5 s6 zG zR hGg hGz x0 x1 x2 x3 x4 x5 x6
      obtain ⟨hGg, hGz, hHo⟩ := hD.2.2.1 _ (List.mem_cons_self)
      obtain ⟨-, -, -, hLo⟩ := hD.2.2.2 G (by simp)
      obtain ⟨-, -, ⟨x0, x1, x2, x3, x4, x5, x6, hRo⟩, hRl⟩ := hD.2.2.2 w.heap.size (by simp)
      obtain ⟨d0, d1, d2, d3, d4, d5, d6⟩ := hHo.seven
      obtain ⟨t0, t1, t2, t3, t4, t5, t6⟩ := hLo.seven
      obtain ⟨r0, r1, r2, r3, r4, r5, r6⟩ := hRo.seven
      obtain ⟨s0, s1, s2, s3, s4, s5, s6⟩ := hRl.seven
      have zG := hHo.1
      have zR := hRo.1
      clear hHo hLo hRo hRl
      go_wp2
      replace hD := (hD.put hlt hB (by simp) 0 (by omega) (.int .i64 n))
      simp only [List.setIfInBounds_toArray, List.set_cons_zero] at hD
      obtain ⟨-, -, ⟨x0, x1, x2, x3, x4, x5, x6, hRo⟩, -⟩ := hD.2.2.2 w.heap.size (by simp)
      have hF := hD.write7 hlt hB (Nat.le_refl _) (by simp; omega)
      exact bodyPost_ret (results_l3a ⟨n, d.name, ⟨d.ed.ma, d.ed.mi, d.ed.pa⟩, d.page, d.who⟩ w.heap.size _ _ rfl (hRo.put7M _ _ _ _ _ _ _)) rfl ⟨⟨n, d.name, ⟨d.ed.ma, d.ed.mi, d.ed.pa⟩, d.page, d.who⟩, ⟨hdn, hdp⟩, rfl, (hF _ _ _ _ _ _ _).1, (hF _ _ _ _ _ _ _).2.1⟩
    · have hk0 : (v == 0) = false := by simp; omega
      have hk1 : (v == 1) = true := by simp; omega
      have hk2 : (v == 2) = false := by simp; omega
      have hk3 : (v == 3) = false := by simp; omega
      have hk4 : (v == 4) = false := by simp; omega
      go_wp2_with fail
      refine (l1DrawAny_any B g _ hD.1).mono ?_
      rintro r w4 ⟨nm, hnm, rfl, hc1, hg1⟩
      replace hD := hD.by hc1 hg1
      clear hc1 hg1
      clear d0 d1 d2 d3 d4 d5 d6 t0 t1 t2 t3 t4 t5 t6 r0 r1 r2 r3 r4 r5 r6 s0 s1 s2 s3 s4 s5 s6 zG zR hGg hGz x0 x1 x2 x3 x4 x5 x6
      obtain ⟨hGg, hGz, hHo⟩ := hD.2.2.1 _ (List.mem_cons_self)
      obtain ⟨-, -, -, hLo⟩ := hD.2.2.2 G (by simp)
      obtain ⟨-, -, ⟨x0, x1, x2, x3, x4, x5, x6, hRo⟩, hRl⟩ := hD.2.2.2 w.heap.size (by simp)
      obtain ⟨d0, d1, d2, d3, d4, d5, d6⟩ := hHo.seven
      obtain ⟨t0, t1, t2, t3, t4, t5, t6⟩ := hLo.seven
      obtain ⟨r0, r1, r2, r3, r4, r5, r6⟩ := hRo.seven
      obtain ⟨s0, s1, s2, s3, s4, s5, s6⟩ := hRl.seven
      have zG := hHo.1
      have zR := hRo.1
      clear hHo hLo hRo hRl
      go_wp2
      replace hD := (hD.put hlt hB (by simp) 1 (by omega) (.string nm))
      simp only [List.setIfInBounds_toArray, List.set_cons_zero, List.set_cons_succ] at hD
      obtain ⟨-, -, ⟨x0, x1, x2, x3, x4, x5, x6, hRo⟩, -⟩ := hD.2.2.2 w.heap.size (by simp)
      have hF := hD.write7 hlt hB (Nat.le_refl _) (by simp; omega)
      exact bodyPost_ret (results_l3a ⟨d.kind, nm, ⟨d.ed.ma, d.ed.mi, d.ed.pa⟩, d.page, d.who⟩ w.heap.size _ _ rfl (hRo.put7M _ _ _ _ _ _ _)) rfl ⟨⟨d.kind, nm, ⟨d.ed.ma, d.ed.mi, d.ed.pa⟩, d.page, d.who⟩, ⟨hnm, hdp⟩, rfl, (hF _ _ _ _ _ _ _).1, (hF _ _ _ _ _ _ _).2.1⟩
    · have hk0 : (v == 0) = false := by simp; omega
      have hk1 : (v == 1) = false := by simp; omega
      have hk2 : (v == 2) = true := by simp; omega
      have hk3 : (v == 3) = false := by simp; omega
      have hk4 : (v == 4) = false := by simp; omega
      go_wp2_with fail
      refine (l2DrawAny_any B g _ hD.1).mono ?_
      rintro r w4 ⟨e, he, rfl, hc1, hg1⟩
      replace hD := hD.by hc1 hg1
      clear hc1 hg1
      clear d0 d1 d2 d3 d4 d5 d6 t0 t1 t2 t3 t4 t5 t6 r0 r1 r2 r3 r4 r5 r6 s0 s1 s2 s3 s4 s5 s6 zG zR hGg hGz x0 x1 x2 x3 x4 x5 x6
      obtain ⟨hGg, hGz, hHo⟩ := hD.2.2.1 _ (List.mem_cons_self)
      obtain ⟨-, -, -, hLo⟩ := hD.2.2.2 G (by simp)
      obtain ⟨-, -, ⟨x0, x1, x2, x3, x4, x5, x6, hRo⟩, hRl⟩ := hD.2.2.2 w.heap.size (by simp)
      obtain ⟨d0, d1, d2, d3, d4, d5, d6⟩ := hHo.seven
      obtain ⟨t0, t1, t2, t3, t4, t5, t6⟩ := hLo.seven
      obtain ⟨r0, r1, r2, r3, r4, r5, r6⟩ := hRo.seven
      obtain ⟨s0, s1, s2, s3, s4, s5, s6⟩ := hRl.seven
      have zG := hHo.1
      have zR := hRo.1
      clear hHo hLo hRo hRl
      go_wp2
      replace hD := (((hD.put hlt hB (by simp) 2 (by omega) (.int .i64 e.ma)).put hlt hB (by simp) 3 (by omega) (.int .i64 e.mi)).put hlt hB (by simp) 4 (by omega) (.int .i64 e.pa))
      simp only [List.setIfInBounds_toArray, List.set_cons_zero, List.set_cons_succ] at hD
      obtain ⟨-, -, ⟨x0, x1, x2, x3, x4, x5, x6, hRo⟩, -⟩ := hD.2.2.2 w.heap.size (by simp)
      have hF := hD.write7 hlt hB (Nat.le_refl _) (by simp; omega)
      exact bodyPost_ret (results_l3a ⟨d.kind, d.name, ⟨e.ma, e.mi, e.pa⟩, d.page, d.who⟩ w.heap.size _ _ rfl (hRo.put7M _ _ _ _ _ _ _)) rfl ⟨⟨d.kind, d.name, ⟨e.ma, e.mi, e.pa⟩, d.page, d.who⟩, ⟨hdn, hdp⟩, rfl, (hF _ _ _ _ _ _ _).1, (hF _ _ _ _ _ _ _).2.1⟩
    · have hk0 : (v == 0) = false := by simp; omega
      have hk1 : (v == 1) = false := by simp; omega
      have hk2 : (v == 2) = false := by simp; omega
      have hk3 : (v == 3) = true := by simp; omega
      have hk4 : (v == 4) = false := by simp; omega
      have hT := hD.tab hlt #[.string ⟨#[65]⟩, .string ⟨#[120, 49]⟩, .string ⟨#[97, 98, 99, 100, 101, 102, 103, 104, 105, 106, 107, 108, 109]⟩] 9
      go_wp2_with fail
      refine (l1Below_any B g _ hT.1 3 (by omega) (by omega)).mono ?_
      rintro r w4 ⟨u, hu0, hu1, rfl, hc1, hg1⟩
      have hzt := hT.heldLt _ (List.mem_cons_self)
      have hT := hT.by hc1 hg1
      obtain ⟨pg, hpg, htab⟩ := tabS u hu0 (show u < 3 by omega) (hT.2.2.1 _ (List.mem_cons_self)).2.2
      have hD := hT.tailH
      clear hc1 hg1
      clear d0 d1 d2 d3 d4 d5 d6 t0 t1 t2 t3 t4 t5 t6 r0 r1 r2 r3 r4 r5 r6 s0 s1 s2 s3 s4 s5 s6 zG zR hGg hGz x0 x1 x2 x3 x4 x5 x6
      obtain ⟨hGg, hGz, hHo⟩ := hD.2.2.1 _ (List.mem_cons_self)
      obtain ⟨-, -, -, hLo⟩ := hD.2.2.2 G (by simp)
      obtain ⟨-, -, ⟨x0, x1, x2, x3, x4, x5, x6, hRo⟩, hRl⟩ := hD.2.2.2 w.heap.size (by simp)
      obtain ⟨d0, d1, d2, d3, d4, d5, d6⟩ := hHo.seven
      obtain ⟨t0, t1, t2, t3, t4, t5, t6⟩ := hLo.seven
      obtain ⟨r0, r1, r2, r3, r4, r5, r6⟩ := hRo.seven
      obtain ⟨s0, s1, s2, s3, s4, s5, s6⟩ := hRl.seven
      have zG := hHo.1
      have zR := hRo.1
      clear hHo hLo hRo hRl
      go_wp2
      replace hD := (hD.put hlt hB (by simp) 5 (by omega) (.string pg))
      simp only [List.setIfInBounds_toArray, List.set_cons_zero, List.set_cons_succ] at hD
      obtain ⟨-, -, ⟨x0, x1, x2, x3, x4, x5, x6, hRo⟩, -⟩ := hD.2.2.2 w.heap.size (by simp)
      have hF := hD.write7 hlt hB (Nat.le_refl _) (by simp; omega)
      exact bodyPost_ret (results_l3a ⟨d.kind, d.name, ⟨d.ed.ma, d.ed.mi, d.ed.pa⟩, pg, d.who⟩ w.heap.size _ _ rfl (hRo.put7M _ _ _ _ _ _ _)) rfl ⟨⟨d.kind, d.name, ⟨d.ed.ma, d.ed.mi, d.ed.pa⟩, pg, d.who⟩, ⟨hdn, hpg⟩, rfl, (hF _ _ _ _ _ _ _).1, (hF _ _ _ _ _ _ _).2.1⟩
    · have hk0 : (v == 0) = false := by simp; omega
      have hk1 : (v == 1) = false := by simp; omega
      have hk2 : (v == 2) = false := by simp; omega
      have hk3 : (v == 3) = false := by simp; omega
      have hk4 : (v == 4) = true := by simp; omega
      have hT := hD.tab hlt #[.int .i64 (-1), .int .i64 3, .int .i64 4] 2
      go_wp2_with fail
      refine (l1Below_any B g _ hT.1 3 (by omega) (by omega)).mono ?_
      rintro r w4 ⟨u, hu0, hu1, rfl, hc1, hg1⟩
      have hzt := hT.heldLt _ (List.mem_cons_self)
      have hT := hT.by hc1 hg1
      obtain ⟨ww, htab⟩ := tabW u hu0 (show u < 3 by omega) (hT.2.2.1 _ (List.mem_cons_self)).2.2
      have hD := hT.tailH
      clear hc1 hg1
      clear d0 d1 d2 d3 d4 d5 d6 t0 t1 t2 t3 t4 t5 t6 r0 r1 r2 r3 r4 r5 r6 s0 s1 s2 s3 s4 s5 s6 zG zR hGg hGz x0 x1 x2 x3 x4 x5 x6
      obtain ⟨hGg, hGz, hHo⟩ := hD.2.2.1 _ (List.mem_cons_self)
      obtain ⟨-, -, -, hLo⟩ := hD.2.2.2 G (by simp)
      obtain ⟨-, -, ⟨x0, x1, x2, x3, x4, x5, x6, hRo⟩, hRl⟩ := hD.2.2.2 w.heap.size (by simp)
      obtain ⟨d0, d1, d2, d3, d4, d5, d6⟩ := hHo.seven
      obtain ⟨t0, t1, t2, t3, t4, t5, t6⟩ := hLo.seven
      obtain ⟨r0, r1, r2, r3, r4, r5, r6⟩ := hRo.seven
      obtain ⟨s0, s1, s2, s3, s4, s5, s6⟩ := hRl.seven
      have zG := hHo.1
      have zR := hRo.1
      clear hHo hLo hRo hRl
      go_wp2
      replace hD := (hD.put hlt hB (by simp) 6 (by omega) (.int .i64 ww))
      simp only [List.setIfInBounds_toArray, List.set_cons_zero, List.set_cons_succ] at hD
      obtain ⟨-, -, ⟨x0, x1, x2, x3, x4, x5, x6, hRo⟩, -⟩ := hD.2.2.2 w.heap.size (by simp)
      have hF := hD.write7 hlt hB (Nat.le_refl _) (by simp; omega)
      exact bodyPost_ret (results_l3a ⟨d.kind, d.name, ⟨d.ed.ma, d.ed.mi, d.ed.pa⟩, d.page, ww⟩ w.heap.size _ _ rfl (hRo.put7M _ _ _ _ _ _ _)) rfl ⟨⟨d.kind, d.name, ⟨d.ed.ma, d.ed.mi, d.ed.pa⟩, d.page, ww⟩, ⟨hdn, hdp⟩, rfl, (hF _ _ _ _ _ _ _).1, (hF _ _ _ _ _ _ _).2.1⟩
end Go.Proofs.YtkpbfocnokbmiaaGreat
namespace Go.Proofs.YtkpbfocnokbmiaaGreat
open Go.RowKit
set_option maxRecDepth 20000
set_option linter.unusedVariables false
/-- A small shelf, right or not, in new memory; the cursor stands, and its block alone is written. -/
def SfOut (B g : Nat) (w : World) (r : Ending) (w' : World) : Prop :=
  ∃ (A : Option Addr) (c : Nat) (rs : List Wr), r = .returned (.slice A rs.length c) ∧ SfOwn w.heap.size w' (.slice A rs.length c) rs ∧ (rs.length ≤ 6 ∧ WrsIn 64 rs) ∧ Cur B w' g ∧ w.grownBy w' (some g)
/-- One work more, its list newer than all that is there. -/
theorem SfOwn.pushD {B n0 : Nat} {x2 w4 : World} {v v' : Value} {rs : List Wr} {r : Wr} (h : SfOwn B x2 v rs) (hlt : ∀ g, blocksS v rs g → g < n0) (hB : B ≤ n0) (ho : CpOwn n0 x2 r.sl r.cps) (o : Obj) (hown : w4.ownsRow B 100 3 v' (rs.length + 1) (cellsOf wrL rs ++ cellsOf wrL [r])) (hg : (x2.alloc o).grownBy w4 v.ownBlock) (hat : v'.ownBlock = v.ownBlock ∨ v'.ownBlock = some (x2.alloc o).heap.size) : SfOwn B w4 v' (rs ++ [r]) := by
  have ba : Below x2.heap.size x2 (x2.alloc o) := (Below.refl _ _).alloc (Nat.le_refl _) o
  have hnew : Apart r.sl v := by
    unfold Apart
    rcases hr : r.sl.ownBlock with _ | k
    · exact .inl rfl
    · refine .inr fun e => ?_
      have h1 := (ho.lt k hr).1
      have h2 := hlt k (.inl e.symm)
      omega
  have hfar : ∀ y : Wr, CpOwn B (x2.alloc o) y.sl y.cps → Apart y.sl v → Apart y.sl v' := fun y hy ha => by
    rcases hat with e | e
    · unfold Apart at ha ⊢; rw [e]; exact ha
    · unfold Apart
      rcases hk : y.sl.ownBlock with _ | k
      · exact .inl rfl
      · refine .inr fun e' => ?_
        have h1 := (hy.lt k hk).2
        rw [e] at e'
        have := Option.some.inj e'
        omega
  have hold : ∀ y ∈ rs, CpOwn B (x2.alloc o) y.sl y.cps := fun y hy => (h.2.1 y hy).below ba
  have hnw : CpOwn B (x2.alloc o) r.sl r.cps := (ho.mono hB).below ba
  refine ⟨?_, fun y hy => ?_, fun y hy => ?_, ?_⟩
  · rw [cellsOf_append, List.length_append]
    exact hown
  · rcases List.mem_append.1 hy with hy | hy
    · exact World.ownsRow.kept (hold y hy) hg (h.2.2.1 y hy)
    · obtain rfl : y = r := by simpa using hy
      exact World.ownsRow.kept hnw hg hnew
  · rcases List.mem_append.1 hy with hy | hy
    · exact hfar y (hold y hy) (h.2.2.1 y hy)
    · obtain rfl : y = r := by simpa using hy
      exact hfar y hnw hnew
  · rw [List.pairwise_append]
    refine ⟨h.2.2.2, List.pairwise_singleton _ _, fun a ha b hb' => ?_⟩
    obtain rfl : b = r := by simpa using hb'
    exact own_differ (fun k hk => hlt k (.inr ⟨a, ha, hk⟩)) (fun k hk => (ho.lt k hk).1)
/-- What a draw of a shelf knows between two deeds. -/
def SfNow (w : World) (B g : Nat) (A : Option Addr) (c : Nat) (rs : List Wr) (x : World) : Prop :=
  SfOwn w.heap.size x (.slice A rs.length c) rs ∧ M.sfOk (rs.map Wr.wk) = true ∧ DrM w B g [] x
set_option maxHeartbeats 4000000 in
theorem l5Draw_any (B g : Nat) (w : World) (hc : Cur B w g) :
    Calls Tryz.prog 64 #[.pointer (some ⟨g, 0, none⟩)] w fun r w' => ∃ A c rs, r = .returned (.slice A rs.length c) ∧ SfNow w B g A c rs w' := by
  have m0 := (DrM.start hc).alloc (.cells #[] 100)
  have hlow := hc.2.1
  have ho0 := World.ownsRow_made (size := 3) (e := 100) w #[] 0 (base := w.heap.size) (Nat.le_refl _) (Nat.zero_le _) rfl
  have HO0 : Hid (SfOwn w.heap.size (w.alloc (.cells #[] 100)) (.slice (some ⟨w.heap.size, 0, none⟩) 0 0) []) := Lib.hid ⟨ho0, by simp, by simp, List.Pairwise.nil⟩
  clear hc ho0
  go_enter Tryz.func64, Tryz.ntmps64
  go_wp2_with fail
  refine (l1Below_any B g _ m0.cur 12 (by omega) (by omega)).mono ?_
  rintro r w1 ⟨n0, hn0, hn1, rfl, hc1, hg1⟩
  have HST : Hid (SfNow w B g (some ⟨w.heap.size, 0, none⟩) 0 [] w1) := Lib.hid ⟨HO0.out.by hg1 hlow, rfl, m0.by hg1 hc1⟩
  clear m0 HO0 hc1 hg1
  go_wp2_with fail
  go_loopw [3, 4] (fun s3 s4 wr => ∃ (A : Option Addr) (c : Nat) (rs : List Wr) (n : Int), s3 = .slice A rs.length c ∧ s4 = .int .i64 n ∧ 0 ≤ n ∧ n ≤ 11 ∧ SfNow w B g A c rs wr) (fun _ n _ => (intOf n).toNat)
  case atStart => exact ⟨_, _, _, _, rfl, rfl, hn0, by omega, HST.out⟩
  case round =>
    clear HST
    obtain ⟨A, c, rs, n, rfl, rfl, hn0', hn1', hnow⟩ := hrel
    have HN := Lib.hid hnow
    have HW := Lib.hid (wrs_ok hnow.2.1)
    clear hnow
    by_cases hlt : 0 < n
    · go_wp2_with fail
      refine (l3Draw_any B g _ HN.out.2.2.cur).mono ?_
      rintro r w2 ⟨d, ⟨hdn, hdp⟩, rfl, hc2, hg2⟩
      have HM := Lib.hid (HN.out.2.2.by hg2 hc2)
      have HO := Lib.hid (HN.out.1.by hg2 hlow)
      clear hc2 hg2
      by_cases h8 : 8 < n
      · have ba := (Below.refl w2.heap.size w2).alloc (Nat.le_refl _) (.cells (ddC ⟨1, d.name, ⟨0, 0, 0⟩, ⟨#[]⟩, d.who⟩) 31)
        go_wp2_with fail
        refine (specDoes_of A rs c ⟨1, d.name, ⟨0, 0, 0⟩, ⟨#[]⟩, d.who⟩ _ (l5Do_any _) (HO.out.below ba).wks.1 (fun r hr h => (HO.out.2.1 r hr).nilc h) (by have := HW.out.1; omega) (HW.out.2.mono (by omega)) (by show d.name.size ≤ 1048576; omega) (by show (0 : Nat) ≤ 1048576; omega)).mono ?_
        rintro r w3 ⟨v, l', rfl, ho3, hm3, b3⟩
        obtain ⟨A', c', rfl, -, -⟩ := ho3.open
        have hsz : w.heap.size ≤ (w2.alloc (.cells (ddC ⟨1, d.name, ⟨0, 0, 0⟩, ⟨#[]⟩, d.who⟩) 31)).heap.size := by have := HM.out.grown.size; simp; omega
        have HST : Hid (SfNow w B g A' c' l' w3) := Lib.hid ⟨ho3.mono hsz, by rw [hm3]; exact M.keep_does _ _, (HM.out.alloc _).below b3⟩
        clear ho3 hm3 b3 ba hsz
        go_wp2
        go_roundw
        case rel => exact ⟨A', c', l', n - 1, rfl, by go_num, by omega, by omega, HST.out⟩
        case measure => simp [intOf]; omega
      · have ba := (Below.refl w2.heap.size w2).alloc (Nat.le_refl _) (.cells (ddC d) 31)
        go_wp2_with fail
        refine (specDoes_of A rs c d _ (l5Do_any _) (HO.out.below ba).wks.1 (fun r hr h => (HO.out.2.1 r hr).nilc h) (by have := HW.out.1; omega) (HW.out.2.mono (by omega)) (by omega) (by omega)).mono ?_
        rintro r w3 ⟨v, l', rfl, ho3, hm3, b3⟩
        obtain ⟨A', c', rfl, -, -⟩ := ho3.open
        have hsz : w.heap.size ≤ (w2.alloc (.cells (ddC d) 31)).heap.size := by have := HM.out.grown.size; simp; omega
        have HST : Hid (SfNow w B g A' c' l' w3) := Lib.hid ⟨ho3.mono hsz, by rw [hm3]; exact M.keep_does _ _, (HM.out.alloc _).below b3⟩
        clear ho3 hm3 b3 ba hsz
        go_wp2
        go_roundw
        case rel => exact ⟨A', c', l', n - 1, rfl, by go_num, by omega, by omega, HST.out⟩
        case measure => simp [intOf]; omega
    · go_wp2
      go_ret
      exact ⟨A, c, rs, rfl, HN.out⟩
abbrev pqL : List Wr := [⟨⟨#[112]⟩, 0, none, 0, []⟩, ⟨⟨#[113]⟩, 0, none, 0, []⟩, ⟨⟨#[114]⟩, 0, none, 0, []⟩, ⟨⟨#[115]⟩, 0, none, 0, []⟩, ⟨⟨#[116]⟩, 0, none, 0, []⟩]
theorem pq_own (B : Nat) (x : World) (hB : B ≤ x.heap.size) : SfOwn B (x.alloc (.cells (cellsOf wrL pqL).toArray 100)) (.slice (some ⟨x.heap.size, 0, none⟩) 5 5) pqL := by
  refine ⟨⟨rfl, .inr ⟨x.heap.size, 5, _, rfl, hB, heap_alloc_new x _, Nat.le_refl _, by decide, rfl, rfl⟩⟩, fun r hr => ?_, fun r hr => ?_, ?_⟩
  · simp only [pqL, List.mem_cons, List.not_mem_nil, or_false] at hr
    rcases hr with rfl | rfl | rfl | rfl | rfl <;> exact World.ownsRow_nil _ _ _ _
  · simp only [pqL, List.mem_cons, List.not_mem_nil, or_false] at hr
    rcases hr with rfl | rfl | rfl | rfl | rfl <;> exact .inl rfl
  · simp only [pqL, List.pairwise_cons, List.mem_cons, List.not_mem_nil, or_false, List.Pairwise.nil, and_true]
    refine ⟨?_, ?_, ?_, ?_, ?_⟩ <;> intro r _ <;> exact .inl rfl
theorem pq_small : pqL.length ≤ 6 ∧ WrsIn 64 pqL := by
  refine ⟨by decide, fun r hr => ?_⟩
  simp only [pqL, List.mem_cons, List.not_mem_nil, or_false] at hr
  rcases hr with rfl | rfl | rfl | rfl | rfl <;> exact ⟨by decide, by decide, by simp⟩
/-- What the draw of any shelf knows ahead of its last choice. -/
def SfMid (w : World) (B g : Nat) (A : Option Addr) (c : Nat) (rs : List Wr) (x : World) : Prop :=
  SfOwn w.heap.size x (.slice A rs.length c) rs ∧ (rs.length ≤ 6 ∧ WrsIn 64 rs) ∧ DrM w B g [] x
set_option maxHeartbeats 4000000 in
theorem l5DrawAny_any (B g : Nat) (w : World) (hc : Cur B w g) :
    Calls Tryz.prog 40 #[.pointer (some ⟨g, 0, none⟩)] w (SfOut B g w) := by
  obtain ⟨i0, hi, hz0, hz1, hz2⟩ := info_parts infoWk
  have hlow := hc.2.1
  go_enter Tryz.func40, Tryz.ntmps40
  go_wp2_with fail
  refine (l5Draw_any B g _ hc).mono ?_
  rintro r w1 ⟨A, c, rs, rfl, ho, hok, hm⟩
  have hw := wrs_ok hok
  have HO := Lib.hid ho
  have HW := Lib.hid hw
  clear hc ho hok hw
  go_wp2_with fail
  refine (l1Once_any B g _ hm.cur 10 (by omega) (by omega)).mono ?_
  rintro r w2 ⟨b, rfl, hc2, hg2⟩
  replace hm := hm.by hg2 hc2
  replace HO := Lib.hid (HO.out.by hg2 hlow)
  clear hc2 hg2
  go_upto_if 7 with (fail)
  go_cut [3] (fun s3 wx => ∃ A c rs, s3 = .slice A rs.length c ∧ SfMid w B g A c rs wx)
  case first =>
    cases b
    · have HM := Lib.hid hm
      clear hm
      go_wp2
      go_meet
      exact ⟨A, c, rs, rfl, HO.out, ⟨by have := HW.out.1; omega, HW.out.2.mono (by omega)⟩, HM.out⟩
    · go_wp2_with fail
      refine (l4DrawAny_any B g _ hm.cur).mono ?_
      rintro r w3 ⟨wk, A', c', rfl, hs, ho3, hc3, hg3⟩
      have HM := Lib.hid (hm.by hg3 hc3)
      have HO3 := Lib.hid (HO.out.by hg3 hlow)
      have HC := Lib.hid ho3
      have HS := Lib.hid hs
      have HLT : Hid (∀ k, blocksS (.slice A rs.length c) rs k → k < w2.heap.size) := Lib.hid (fun k hk => (HO.out.ge hk).2)
      have HBS : Hid (w.heap.size ≤ w2.heap.size) := Lib.hid hm.grown.size
      clear hm hc3 hg3 ho3 hs HO
      go_wp2_with (at_builtin; refine wpList_append_flat_at (k := 3) (enc := wrL) (l := [(⟨wk.name, wk.owner, A', c', wk.copies⟩ : Wr)]) rfl _ _ 24 rfl w.heap.size 100 i0 _ 48 Tryz.underlying24 hi hz0 hz1 hz2 rfl (by decide) _ rs.length (cellsOf wrL rs) rfl (World.ownsRow.alloc HO3.out.1 _) (some ⟨w3.heap.size, 0, none⟩) 1 rfl (fun h => by cases h) (one_flatW w3 ⟨wk.name, wk.owner, A', c', wk.copies⟩ _) wrL_len (wr_one _) (by have := HW.out.1; simp only [List.length_singleton]; unfold maxLen; omega) (by have := HW.out.1; simp only [List.length_singleton]; omega) (by have := HM.out.grown.size; simp; omega) ?_; intro v' w4 hown4 hgrow4 hat4)
      have ho4 := SfOwn.pushD (r := ⟨wk.name, wk.owner, A', c', wk.copies⟩) HO3.out HLT.out HBS.out HC.out _ hown4 hgrow4 hat4
      obtain ⟨A4, c4, rfl, -, -⟩ := ho4.open
      have hm4 : DrM w B g [] w4 := (HM.out.alloc _).byRow hgrow4 (fun k hk => ⟨by have := (HO3.out.ge (g := k) (.inl hk)).1; omega, by simp⟩)
      have HEND : Hid (SfMid w B g A4 c4 (rs ++ [⟨wk.name, wk.owner, A', c', wk.copies⟩]) w4) := Lib.hid ⟨ho4, ⟨by have := HW.out.1; simp; omega, fun r hr => by
        rcases List.mem_append.1 hr with hr | hr
        · exact (HW.out.2.mono (show 12 ≤ 64 by omega)) r hr
        · obtain rfl := List.mem_singleton.1 hr
          exact ⟨HS.out.1, by have := HS.out.2.1; show wk.copies.length ≤ 64; omega, HS.out.2.2⟩⟩, hm4⟩
      clear hown4 hgrow4 hat4 ho4 hm4
      go_meet
      exact ⟨A4, c4, _, rfl, HEND.out⟩
  case rest =>
    obtain ⟨A1, c1, rs1, rfl, ho1, hs1, hm1⟩ := hcut
    have HO1 := Lib.hid ho1
    have HS1 := Lib.hid hs1
    clear ho1 hs1 hm HO HW
    go_wp2_with fail
    refine (l1Once_any B g _ hm1.cur 30 (by omega) (by omega)).mono ?_
    rintro r w5 ⟨b5, rfl, hc5, hg5⟩
    have HM5 := Lib.hid (hm1.by hg5 hc5)
    have HO5 := Lib.hid (HO1.out.by hg5 hlow)
    clear hm1 hc5 hg5 HO1
    cases b5
    · go_wp2
      go_ret
      exact ⟨A1, c1, rs1, rfl, HO5.out, HS1.out, HM5.out.cur, HM5.out.grown⟩
    · have hp := pq_own w.heap.size w5 HM5.out.grown.size
      have HP := Lib.hid hp
      have HA := Lib.hid (HM5.out.alloc (.cells (cellsOf wrL pqL).toArray 100))
      clear hp
      go_wp2
      go_ret
      exact ⟨some ⟨w5.heap.size, 0, none⟩, 5, pqL, rfl, HP.out, pq_small, HA.out.cur, HA.out.grown⟩
end Go.Proofs.YtkpbfocnokbmiaaGreat
namespace Go.Proofs.YtkpbfocnokbmiaaGreat
open Go.RowKit
set_option maxRecDepth 20000

end Go.Proofs.YtkpbfocnokbmiaaGreat
namespace Go.Proofs.YtkpbfocnokbmiaaGreat
open Go.RowKit
set_option maxRecDepth 20000
abbrev orL (o : M.Or) : List Value := [.int .i64 o.client, .int .i64 o.seq, .int .i64 o.deed.kind, .string o.deed.name, .int .i64 o.deed.ed.ma, .int .i64 o.deed.ed.mi, .int .i64 o.deed.ed.pa, .string o.deed.page, .int .i64 o.deed.who]
abbrev orIn (n : Nat) (o : M.Or) : Prop := o.deed.name.size ≤ n ∧ o.deed.page.size ≤ n
end Go.Proofs.YtkpbfocnokbmiaaGreat
