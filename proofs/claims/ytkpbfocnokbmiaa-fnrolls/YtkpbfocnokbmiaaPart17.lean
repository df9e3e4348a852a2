/- Proved, in parts: Proved: what the model draws of deeds, right or not: some deed whose texts are short; the cursor stands, and its block and new ones alone are written. -/
import Derived.Test.YtkpbfocnokbmiaaPart16
import Derived.Test.YtkpbfocnokbmiaaPart09
namespace Go.Proofs.Ytkpbfocnokbmiaa
open Go.RowKit
set_option maxRecDepth 20000
set_option linter.unusedVariables false

theorem results_l3a (d : M.Dd) (R : Nat) (W : World) (tmps : Array Value) (h2 : tmps.getD 2 undef = .pointer (some ⟨R, 0, none⟩)) (hW : Holds W R (ddC d)) :
    (results Try.f102 tmps).run Try.prog W = .ok (ddV d) W := by
  obtain ⟨q0, q1, q2, q3, q4, q5, q6⟩ := hW.seven
  simp at h2
  simp [results, Try.results102, go_sem, h2, q0, q1, q2, q3, q4, q5, q6]

set_option maxHeartbeats 1000000 in
theorem l1From_any (B g : Nat) (w : World) (hc : Cur B w g) (lo hi : Int) (h0 : -1000 ≤ lo) (h1 : lo ≤ hi) (h2 : hi ≤ 1000) :
    Calls Try.prog 47 #[.pointer (some ⟨g, 0, none⟩), .int .i64 lo, .int .i64 hi] w (IntOut B g lo hi w) := by
  go_enter Try.func47, Try.ntmps47
  go_wp2_with fail
  refine (l1Below_any B g _ hc (hi - lo + 1) (by omega) (by omega)).mono ?_
  rintro r w1 ⟨n, hn0, hn1, rfl, hc1, hg1⟩
  go_wp2
  go_ret
  exact ⟨lo + n, by omega, by omega, rfl, hc1, hg1⟩


theorem tabS {w : World} {k : Nat} (u : Int) (h0 : 0 ≤ u) (h1 : u < 3) (h : Holds w k #[.string ⟨#[65]⟩, .string ⟨#[120, 49]⟩, .string ⟨#[97, 98, 99, 100, 101, 102, 103, 104, 105, 106, 107, 108, 109]⟩]) : ∃ pg : ByteArray, pg.size ≤ 64 ∧ w.cell? ⟨k, u.toNat, none⟩ = some (.string pg) := by
  rcases (show u = 0 ∨ u = 1 ∨ u = 2 by omega) with rfl | rfl | rfl
  · exact ⟨_, by decide, h.2 0 _ rfl⟩
  · exact ⟨_, by decide, h.2 1 _ rfl⟩
  · exact ⟨_, by decide, h.2 2 _ rfl⟩
theorem tabW {w : World} {k : Nat} (u : Int) (h0 : 0 ≤ u) (h1 : u < 3) (h : Holds w k #[.int .i64 (-1), .int .i64 3, .int .i64 4]) : ∃ n : Int, w.cell? ⟨k, u.toNat, none⟩ = some (.int .i64 n) := by
  rcases (show u = 0 ∨ u = 1 ∨ u = 2 by omega) with rfl | rfl | rfl
  · exact ⟨_, h.2 0 _ rfl⟩
  · exact ⟨_, h.2 1 _ rfl⟩
  · exact ⟨_, h.2 2 _ rfl⟩


set_option maxHeartbeats 8000000 in
theorem l3DrawAny_any (B g : Nat) (w : World) (hc : Cur B w g) :
    Calls Try.prog 102 #[.pointer (some ⟨g, 0, none⟩)] w (DdOut B g w) := by
  have hlt := hc.2.1
  have hB := hc.1
  have m0 := (DS.start hc).box hlt (.int .i64 0) (.string ⟨#[]⟩) (.int .i64 0) (.int .i64 0) (.int .i64 0) (.string ⟨#[]⟩) (.int .i64 0) 33
  go_enter Try.func102, Try.ntmps102
  go_wp2_with fail
  refine (l3Draw_any B g _ m0.1).mono ?_
  rintro r w1 ⟨d, ⟨hdn, hdp⟩, rfl, hc1, hg1⟩
  have hD0 := m0.by hc1 hg1
  have hRl := hD0.roomLt w.heap.size (by simp)
  have hgl := hD0.1.2.1
  have hD := (hD0.box hlt (.int .i64 d.kind) (.string d.name) (.int .i64 d.ed.ma) (.int .i64 d.ed.mi) (.int .i64 d.ed.pa) (.string d.page) (.int .i64 d.who) 33).add (by omega) (by omega) (holds_new w1 (ddC d) 33)
  have hG : w.heap.size < w1.heap.size := hRl
  clear hD0 m0 hc1 hg1 hRl hgl hc
  go_upto_region 2 with (fail)
  generalize hW : w1.alloc (.cells (ddC d) 33) = wz at hD ⊢
  generalize hGG : w1.heap.size = G at hD hG ⊢
  clear hW hGG
  obtain ⟨hGg, hGz, hHo⟩ := hD.2.2.1 _ (List.mem_cons_self)
  obtain ⟨-, -, -, hLo⟩ := hD.2.2.2 G (by simp)
  obtain ⟨-, -, ⟨x0, x1, x2, x3, x4, x5, x6, hRo⟩, hRl⟩ := hD.2.2.2 w.heap.size (by simp)
  obtain ⟨d0, d1, d2, d3, d4, d5, d6⟩ := hHo.seven
  obtain ⟨t0, t1, t2, t3, t4, t5, t6⟩ := hLo.seven
  obtain ⟨r0, r1, r2, r3, r4, r5, r6⟩ := hRo.seven
  obtain ⟨s0, s1, s2, s3, s4, s5, s6⟩ := hRl.seven
  have zG := hHo.1
  have zR := hRo.1
  clear hHo hLo hRo hRl
  go_wp2_with fail
  refine (l1Once_any B g _ hD.1 8 (by omega) (by omega)).mono ?_
  rintro r w2 ⟨b, rfl, hc1, hg1⟩
  replace hD := hD.by hc1 hg1
  clear hc1 hg1
  clear d0 d1 d2 d3 d4 d5 d6 t0 t1 t2 t3 t4 t5 t6 r0 r1 r2 r3 r4 r5 r6 s0 s1 s2 s3 s4 s5 s6 zG zR hGg hGz x0 x1 x2 x3 x4 x5 x6
  obtain ⟨hGg, hGz, hHo⟩ := hD.2.2.1 _ (List.mem_cons_self)
  obtain ⟨-, -, -, hLo⟩ := hD.2.2.2 G (by simp)
  obtain ⟨-, -, ⟨x0, x1, x2, x3, x4, x5, x6, hRo⟩, hRl⟩ := hD.2.2.2 w.heap.size (by simp)
  obtain ⟨d0, d1, d2, d3, d4, d5, d6⟩ := hHo.seven
  obtain ⟨t0, t1, t2, t3, t4, t5, t6⟩ := hLo.seven
  obtain ⟨r0, r1, r2, r3, r4, r5, r6⟩ := hRo.seven
  obtain ⟨s0, s1, s2, s3, s4, s5, s6⟩ := hRl.seven
  have zG := hHo.1
  have zR := hRo.1
  clear hHo hLo hRo hRl
  cases b
  · go_wp2
    obtain ⟨-, -, ⟨x0, x1, x2, x3, x4, x5, x6, hRo⟩, -⟩ := hD.2.2.2 w.heap.size (by simp)
    have hF := hD.write7 hlt hB (Nat.le_refl _) (by simp; omega)
    exact bodyPost_ret (results_l3a d w.heap.size _ _ rfl (hRo.put7M _ _ _ _ _ _ _)) rfl ⟨d, ⟨hdn, hdp⟩, rfl, (hF _ _ _ _ _ _ _).1, (hF _ _ _ _ _ _ _).2.1⟩
  · go_wp2_with fail
    refine (l1Below_any B g _ hD.1 5 (by omega) (by omega)).mono ?_
    rintro r w3 ⟨v, hv0, hv1, rfl, hc1, hg1⟩
    replace hD := hD.by hc1 hg1
    clear hc1 hg1
    clear d0 d1 d2 d3 d4 d5 d6 t0 t1 t2 t3 t4 t5 t6 r0 r1 r2 r3 r4 r5 r6 s0 s1 s2 s3 s4 s5 s6 zG zR hGg hGz x0 x1 x2 x3 x4 x5 x6
    obtain ⟨hGg, hGz, hHo⟩ := hD.2.2.1 _ (List.mem_cons_self)
    obtain ⟨-, -, -, hLo⟩ := hD.2.2.2 G (by simp)
    obtain ⟨-, -, ⟨x0, x1, x2, x3, x4, x5, x6, hRo⟩, hRl⟩ := hD.2.2.2 w.heap.size (by simp)
    obtain ⟨d0, d1, d2, d3, d4, d5, d6⟩ := hHo.seven
    obtain ⟨t0, t1, t2, t3, t4, t5, t6⟩ := hLo.seven
    obtain ⟨r0, r1, r2, r3, r4, r5, r6⟩ := hRo.seven
    obtain ⟨s0, s1, s2, s3, s4, s5, s6⟩ := hRl.seven
    have zG := hHo.1
    have zR := hRo.1
    clear hHo hLo hRo hRl
    rcases (show v = 0 ∨ v = 1 ∨ v = 2 ∨ v = 3 ∨ v = 4 by omega) with hv | hv | hv | hv | hv
    · have hk0 : (v == 0) = true := by simp; omega
      have hk1 : (v == 1) = false := by simp; omega
      have hk2 : (v == 2) = false := by simp; omega
      have hk3 : (v == 3) = false := by simp; omega
      have hk4 : (v == 4) = false := by simp; omega
      go_wp2_with fail
      refine (l1From_any B g _ hD.1 0 7 (by omega) (by omega) (by omega)).mono ?_
      rintro r w4 ⟨n, hn0, hn1, rfl, hc1, hg1⟩
      replace hD := hD.by hc1 hg1
      clear hc1 hg1
      clear d0 d1 d2 d3 d4 d5 d6 t0 t1 t2 t3 t4 t5 t6 r0 r1 r2 r3 r4 r5 r6 s0 s1 s2 s3 s4 s5 s6 zG zR hGg hGz x0 x1 x2 x3 x4 x5 x6
      obtain ⟨hGg, hGz, hHo⟩ := hD.2.2.1 _ (List.mem_cons_self)
      obtain ⟨-, -, -, hLo⟩ := hD.2.2.2 G (by simp)
      obtain ⟨-, -, ⟨x0, x1, x2, x3, x4, x5, x6, hRo⟩, hRl⟩ := hD.2.2.2 w.heap.size (by simp)
      obtain ⟨d0, d1, d2, d3, d4, d5, d6⟩ := hHo.seven
      obtain ⟨t0, t1, t2, t3, t4, t5, t6⟩ := hLo.seven
      obtain ⟨r0, r1, r2, r3, r4, r5, r6⟩ := hRo.seven
      obtain ⟨s0, s1, s2, s3, s4, s5, s6⟩ := hRl.seven
      have zG := hHo.1
      have zR := hRo.1
      clear hHo hLo hRo hRl
      go_wp2
      replace hD := (hD.put hlt hB (by simp) 0 (by omega) (.int .i64 n))
      simp only [List.setIfInBounds_toArray, List.set_cons_zero] at hD
      obtain ⟨-, -, ⟨x0, x1, x2, x3, x4, x5, x6, hRo⟩, -⟩ := hD.2.2.2 w.heap.size (by simp)
      have hF := hD.write7 hlt hB (Nat.le_refl _) (by simp; omega)
      exact bodyPost_ret (results_l3a ⟨n, d.name, ⟨d.ed.ma, d.ed.mi, d.ed.pa⟩, d.page, d.who⟩ w.heap.size _ _ rfl (hRo.put7M _ _ _ _ _ _ _)) rfl ⟨⟨n, d.name, ⟨d.ed.ma, d.ed.mi, d.ed.pa⟩, d.page, d.who⟩, ⟨hdn, hdp⟩, rfl, (hF _ _ _ _ _ _ _).1, (hF _ _ _ _ _ _ _).2.1⟩
    · have hk0 : (v == 0) = false := by simp; omega
      have hk1 : (v == 1) = true := by simp; omega
      have hk2 : (v == 2) = false := by simp; omega
      have hk3 : (v == 3) = false := by simp; omega
      have hk4 : (v == 4) = false := by simp; omega
      go_wp2_with fail
      refine (l1DrawAny_any B g _ hD.1).mono ?_
      rintro r w4 ⟨nm, hnm, rfl, hc1, hg1⟩
      replace hD := hD.by hc1 hg1
      clear hc1 hg1
      clear d0 d1 d2 d3 d4 d5 d6 t0 t1 t2 t3 t4 t5 t6 r0 r1 r2 r3 r4 r5 r6 s0 s1 s2 s3 s4 s5 s6 zG zR hGg hGz x0 x1 x2 x3 x4 x5 x6
      obtain ⟨hGg, hGz, hHo⟩ := hD.2.2.1 _ (List.mem_cons_self)
      obtain ⟨-, -, -, hLo⟩ := hD.2.2.2 G (by simp)
      obtain ⟨-, -, ⟨x0, x1, x2, x3, x4, x5, x6, hRo⟩, hRl⟩ := hD.2.2.2 w.heap.size (by simp)
      obtain ⟨d0, d1, d2, d3, d4, d5, d6⟩ := hHo.seven
      obtain ⟨t0, t1, t2, t3, t4, t5, t6⟩ := hLo.seven
      obtain ⟨r0, r1, r2, r3, r4, r5, r6⟩ := hRo.seven
      obtain ⟨s0, s1, s2, s3, s4, s5, s6⟩ := hRl.seven
      have zG := hHo.1
      have zR := hRo.1
      clear hHo hLo hRo hRl
      go_wp2
      replace hD := (hD.put hlt hB (by simp) 1 (by omega) (.string nm))
      simp only [List.setIfInBounds_toArray, List.set_cons_zero, List.set_cons_succ] at hD
      obtain ⟨-, -, ⟨x0, x1, x2, x3, x4, x5, x6, hRo⟩, -⟩ := hD.2.2.2 w.heap.size (by simp)
      have hF := hD.write7 hlt hB (Nat.le_refl _) (by simp; omega)
      exact bodyPost_ret (results_l3a ⟨d.kind, nm, ⟨d.ed.ma, d.ed.mi, d.ed.pa⟩, d.page, d.who⟩ w.heap.size _ _ rfl (hRo.put7M _ _ _ _ _ _ _)) rfl ⟨⟨d.kind, nm, ⟨d.ed.ma, d.ed.mi, d.ed.pa⟩, d.page, d.who⟩, ⟨hnm, hdp⟩, rfl, (hF _ _ _ _ _ _ _).1, (hF _ _ _ _ _ _ _).2.1⟩
    · have hk0 : (v == 0) = false := by simp; omega
      have hk1 : (v == 1) = false := by simp; omega
      have hk2 : (v == 2) = true := by simp; omega
      have hk3 : (v == 3) = false := by simp; omega
      have hk4 : (v == 4) = false := by simp; omega
      go_wp2_with fail
      refine (l2DrawAny_any B g _ hD.1).mono ?_
      rintro r w4 ⟨e, he, rfl, hc1, hg1⟩
      replace hD := hD.by hc1 hg1
      clear hc1 hg1
      clear d0 d1 d2 d3 d4 d5 d6 t0 t1 t2 t3 t4 t5 t6 r0 r1 r2 r3 r4 r5 r6 s0 s1 s2 s3 s4 s5 s6 zG zR hGg hGz x0 x1 x2 x3 x4 x5 x6
      obtain ⟨hGg, hGz, hHo⟩ := hD.2.2.1 _ (List.mem_cons_self)
      obtain ⟨-, -, -, hLo⟩ := hD.2.2.2 G (by simp)
      obtain ⟨-, -, ⟨x0, x1, x2, x3, x4, x5, x6, hRo⟩, hRl⟩ := hD.2.2.2 w.heap.size (by simp)
      obtain ⟨d0, d1, d2, d3, d4, d5, d6⟩ := hHo.seven
      obtain ⟨t0, t1, t2, t3, t4, t5, t6⟩ := hLo.seven
      obtain ⟨r0, r1, r2, r3, r4, r5, r6⟩ := hRo.seven
      obtain ⟨s0, s1, s2, s3, s4, s5, s6⟩ := hRl.seven
      have zG := hHo.1
      have zR := hRo.1
      clear hHo hLo hRo hRl
      go_wp2
      replace hD := (((hD.put hlt hB (by simp) 2 (by omega) (.int .i64 e.ma)).put hlt hB (by simp) 3 (by omega) (.int .i64 e.mi)).put hlt hB (by simp) 4 (by omega) (.int .i64 e.pa))
      simp only [List.setIfInBounds_toArray, List.set_cons_zero, List.set_cons_succ] at hD
      obtain ⟨-, -, ⟨x0, x1, x2, x3, x4, x5, x6, hRo⟩, -⟩ := hD.2.2.2 w.heap.size (by simp)
      have hF := hD.write7 hlt hB (Nat.le_refl _) (by simp; omega)
      exact bodyPost_ret (results_l3a ⟨d.kind, d.name, ⟨e.ma, e.mi, e.pa⟩, d.page, d.who⟩ w.heap.size _ _ rfl (hRo.put7M _ _ _ _ _ _ _)) rfl ⟨⟨d.kind, d.name, ⟨e.ma, e.mi, e.pa⟩, d.page, d.who⟩, ⟨hdn, hdp⟩, rfl, (hF _ _ _ _ _ _ _).1, (hF _ _ _ _ _ _ _).2.1⟩
    · have hk0 : (v == 0) = false := by simp; omega
      have hk1 : (v == 1) = false := by simp; omega
      have hk2 : (v == 2) = false := by simp; omega
      have hk3 : (v == 3) = true := by simp; omega
      have hk4 : (v == 4) = false := by simp; omega
      have hT := hD.tab hlt #[.string ⟨#[65]⟩, .string ⟨#[120, 49]⟩, .string ⟨#[97, 98, 99, 100, 101, 102, 103, 104, 105, 106, 107, 108, 109]⟩] 9
      go_wp2_with fail
      refine (l1Below_any B g _ hT.1 3 (by omega) (by omega)).mono ?_
      rintro r w4 ⟨u, hu0, hu1, rfl, hc1, hg1⟩
      have hzt := hT.heldLt _ (List.mem_cons_self)
      have hT := hT.by hc1 hg1
      obtain ⟨pg, hpg, htab⟩ := tabS u hu0 (show u < 3 by omega) (hT.2.2.1 _ (List.mem_cons_self)).2.2
      have hD := hT.tailH
      clear hc1 hg1
      clear d0 d1 d2 d3 d4 d5 d6 t0 t1 t2 t3 t4 t5 t6 r0 r1 r2 r3 r4 r5 r6 s0 s1 s2 s3 s4 s5 s6 zG zR hGg hGz x0 x1 x2 x3 x4 x5 x6
      obtain ⟨hGg, hGz, hHo⟩ := hD.2.2.1 _ (List.mem_cons_self)
      obtain ⟨-, -, -, hLo⟩ := hD.2.2.2 G (by simp)
      obtain ⟨-, -, ⟨x0, x1, x2, x3, x4, x5, x6, hRo⟩, hRl⟩ := hD.2.2.2 w.heap.size (by simp)
      obtain ⟨d0, d1, d2, d3, d4, d5, d6⟩ := hHo.seven
      obtain ⟨t0, t1, t2, t3, t4, t5, t6⟩ := hLo.seven
      obtain ⟨r0, r1, r2, r3, r4, r5, r6⟩ := hRo.seven
      obtain ⟨s0, s1, s2, s3, s4, s5, s6⟩ := hRl.seven
      have zG := hHo.1
      have zR := hRo.1
      clear hHo hLo hRo hRl
      go_wp2
      replace hD := (hD.put hlt hB (by simp) 5 (by omega) (.string pg))
      simp only [List.setIfInBounds_toArray, List.set_cons_zero, List.set_cons_succ] at hD
      obtain ⟨-, -, ⟨x0, x1, x2, x3, x4, x5, x6, hRo⟩, -⟩ := hD.2.2.2 w.heap.size (by simp)
      have hF := hD.write7 hlt hB (Nat.le_refl _) (by simp; omega)
      exact bodyPost_ret (results_l3a ⟨d.kind, d.name, ⟨d.ed.ma, d.ed.mi, d.ed.pa⟩, pg, d.who⟩ w.heap.size _ _ rfl (hRo.put7M _ _ _ _ _ _ _)) rfl ⟨⟨d.kind, d.name, ⟨d.ed.ma, d.ed.mi, d.ed.pa⟩, pg, d.who⟩, ⟨hdn, hpg⟩, rfl, (hF _ _ _ _ _ _ _).1, (hF _ _ _ _ _ _ _).2.1⟩
    · have hk0 : (v == 0) = false := by simp; omega
      have hk1 : (v == 1) = false := by simp; omega
      have hk2 : (v == 2) = false := by simp; omega
      have hk3 : (v == 3) = false := by simp; omega
      have hk4 : (v == 4) = true := by simp; omega
      have hT := hD.tab hlt #[.int .i64 (-1), .int .i64 3, .int .i64 4] 2
      go_wp2_with fail
      refine (l1Below_any B g _ hT.1 3 (by omega) (by omega)).mono ?_
      rintro r w4 ⟨u, hu0, hu1, rfl, hc1, hg1⟩
      have hzt := hT.heldLt _ (List.mem_cons_self)
      have hT := hT.by hc1 hg1
      obtain ⟨ww, htab⟩ := tabW u hu0 (show u < 3 by omega) (hT.2.2.1 _ (List.mem_cons_self)).2.2
      have hD := hT.tailH
      clear hc1 hg1
      clear d0 d1 d2 d3 d4 d5 d6 t0 t1 t2 t3 t4 t5 t6 r0 r1 r2 r3 r4 r5 r6 s0 s1 s2 s3 s4 s5 s6 zG zR hGg hGz x0 x1 x2 x3 x4 x5 x6
      obtain ⟨hGg, hGz, hHo⟩ := hD.2.2.1 _ (List.mem_cons_self)
      obtain ⟨-, -, -, hLo⟩ := hD.2.2.2 G (by simp)
      obtain ⟨-, -, ⟨x0, x1, x2, x3, x4, x5, x6, hRo⟩, hRl⟩ := hD.2.2.2 w.heap.size (by simp)
      obtain ⟨d0, d1, d2, d3, d4, d5, d6⟩ := hHo.seven
      obtain ⟨t0, t1, t2, t3, t4, t5, t6⟩ := hLo.seven
      obtain ⟨r0, r1, r2, r3, r4, r5, r6⟩ := hRo.seven
      obtain ⟨s0, s1, s2, s3, s4, s5, s6⟩ := hRl.seven
      have zG := hHo.1
      have zR := hRo.1
      clear hHo hLo hRo hRl
      go_wp2
      replace hD := (hD.put hlt hB (by simp) 6 (by omega) (.int .i64 ww))
      simp only [List.setIfInBounds_toArray, List.set_cons_zero, List.set_cons_succ] at hD
      obtain ⟨-, -, ⟨x0, x1, x2, x3, x4, x5, x6, hRo⟩, -⟩ := hD.2.2.2 w.heap.size (by simp)
      have hF := hD.write7 hlt hB (Nat.le_refl _) (by simp; omega)
      exact bodyPost_ret (results_l3a ⟨d.kind, d.name, ⟨d.ed.ma, d.ed.mi, d.ed.pa⟩, d.page, ww⟩ w.heap.size _ _ rfl (hRo.put7M _ _ _ _ _ _ _)) rfl ⟨⟨d.kind, d.name, ⟨d.ed.ma, d.ed.mi, d.ed.pa⟩, d.page, ww⟩, ⟨hdn, hdp⟩, rfl, (hF _ _ _ _ _ _ _).1, (hF _ _ _ _ _ _ _).2.1⟩
end Go.Proofs.Ytkpbfocnokbmiaa
