/- Proved, in parts: Proved: what the model draws of deeds, right or not: some deed whose texts are short; the cursor stands, and its block and new ones alone are written. Proved: plain facts on works that the laws on them tell: what is printed is there, all else stays, veiled back it is the same, the newest one is there and none is newer; no program is named here; no condition. -/
import Derived.Test.YtdcdalbbjfjadaaGreatDoorPart44
import Derived.Test.YtdcdalbbjfjadaaGreatDoorPart11
import Derived.Test.YtdcdalbbjfjadaaGreatDoorPart41
namespace Go.Proofs.YtdcdalbbjfjadaaGreatDoor
open Go.RowKit
set_option maxRecDepth 20000
set_option linter.unusedVariables false

theorem results_l3a (d : M.Dd) (R : Nat) (W : World) (tmps : Array Value) (h2 : tmps.getD 2 undef = .pointer (some ⟨R, 0, none⟩)) (hW : Holds W R (ddC d)) :
    (results Tryz.f20 tmps).run Tryz.prog W = .ok (ddV d) W := by
  obtain ⟨q0, q1, q2, q3, q4, q5, q6⟩ := hW.seven
  simp at h2
  simp [results, Tryz.results20, go_sem, h2, q0, q1, q2, q3, q4, q5, q6]

set_option maxHeartbeats 1000000 in
theorem l1From_any (B g : Nat) (w : World) (hc : Cur B w g) (lo hi : Int) (h0 : -1000 ≤ lo) (h1 : lo ≤ hi) (h2 : hi ≤ 1000) :
    Calls Tryz.prog 50 #[.pointer (some ⟨g, 0, none⟩), .int .i64 lo, .int .i64 hi] w (IntOut B g lo hi w) := by
  go_enter Tryz.func50, Tryz.ntmps50
  go_wp2_with fail
  refine (l1Below_any B g _ hc (hi - lo + 1) (by omega) (by omega)).mono ?_
  rintro r w1 ⟨n, hn0, hn1, rfl, hc1, hg1⟩
  go_wp2
  go_ret
  exact ⟨lo + n, by omega, by omega, rfl, hc1, hg1⟩


theorem tabS {w : World} {k : Nat} (u : Int) (h0 : 0 ≤ u) (h1 : u < 3) (h : Holds w k #[.string ⟨#[65]⟩, .string ⟨#[120, 49]⟩, .string ⟨#[97, 98, 99, 100, 101, 102, 103, 104, 105, 106, 107, 108, 109]⟩]) : ∃ pg : ByteArray, pg.size ≤ 64 ∧ w.cell? ⟨k, u.toNat, none⟩ = some (.string pg) := by
  rcases (show u = 0 ∨ u = 1 ∨ u = 2 by omega) with rfl | rfl | rfl
  · exact ⟨_, by decide, h.2 0 _ rfl⟩
  · exact ⟨_, by decide, h.2 1 _ rfl⟩
  · exact ⟨_, by decide, h.2 2 _ rfl⟩
theorem tabW {w : World} {k : Nat} (u : Int) (h0 : 0 ≤ u) (h1 : u < 3) (h : Holds w k #[.int .i64 (-1), .int .i64 3, .int .i64 4]) : ∃ n : Int, w.cell? ⟨k, u.toNat, none⟩ = some (.int .i64 n) := by
  rcases (show u = 0 ∨ u = 1 ∨ u = 2 by omega) with rfl | rfl | rfl
  · exact ⟨_, h.2 0 _ rfl⟩
  · exact ⟨_, h.2 1 _ rfl⟩
  · exact ⟨_, h.2 2 _ rfl⟩


set_option maxHeartbeats 8000000 in
theorem l3DrawAny_any (B g : Nat) (w : World) (hc : Cur B w g) :
    Calls Tryz.prog 20 #[.pointer (some ⟨g, 0, none⟩)] w (DdOut B g w) := by
  have hlt := hc.2.1
  have hB := hc.1
  have m0 := (DS.start hc).box hlt (.int .i64 0) (.string ⟨#[]⟩) (.int .i64 0) (.int .i64 0) (.int .i64 0) (.string ⟨#[]⟩) (.int .i64 0) 28
  go_enter Tryz.func20, Tryz.ntmps20
  go_wp2_with fail
  refine (l3Draw_any B g _ m0.1).mono ?_
  rintro r w1 ⟨d, ⟨hdn, hdp⟩, rfl, hc1, hg1⟩
  have hD0 := m0.by hc1 hg1
  have hRl := hD0.roomLt w.heap.size (by simp)
  have hgl := hD0.1.2.1
  have hD := (hD0.box hlt (.int .i64 d.kind) (.string d.name) (.int .i64 d.ed.ma) (.int .i64 d.ed.mi) (.int .i64 d.ed.pa) (.string d.page) (.int .i64 d.who) 28).add (by omega) (by omega) (holds_new w1 (ddC d) 28)
  have hG : w.heap.size < w1.heap.size := hRl
  clear hD0 m0 hc1 hg1 hRl hgl hc
  go_upto_region 2 with (fail)
  generalize hW : w1.alloc (.cells (ddC d) 28) = wz at hD ⊢
  generalize hGG : w1.heap.size = G at hD hG ⊢
  clear hW hGG
  obtain ⟨hGg, hGz, hHo⟩ := hD.2.2.1 _ (List.mem_cons_self)
  obtain ⟨-, -, -, hLo⟩ := hD.2.2.2 G (by simp)
  obtain ⟨-, -, ⟨x0, x1, x2, x3, x4, x5, x6, hRo⟩, hRl⟩ := hD.2.2.2 w.heap.size (by simp)
  obtain ⟨d0, d1, d2, d3, d4, d5, d6⟩ := hHo.seven
  obtain ⟨t0, t1, t2, t3, t4, t5, t6⟩ := hLo.seven
  obtain ⟨r0, r1, r2, r3, r4, r5, r6⟩ := hRo.seven
  obtain ⟨s0, s1, s2, s3, s4, s5, s6⟩ := hRl.seven
  have zG := hHo.1
  have zR := hRo.1
  clear hHo hLo hRo hRl
  go_wp2_with fail
  refine (l1Once_any B g _ hD.1 8 (by omega) (by omega)).mono ?_
  rintro r w2 ⟨b, rfl, hc1, hg1⟩
  replace hD := hD.by hc1 hg1
  clear hc1 hg1
  clear d0 d1 d2 d3 d4 d5 d6 t0 t1 t2 t3 t4 t5 t6 r0 r1 r2 r3 r4 r5 r6 s0 s1 s2 s3 s4 s5 s6 zG zR hGg hGz x0 x1 x2 x3 x4 x5 x6
  obtain ⟨hGg, hGz, hHo⟩ := hD.2.2.1 _ (List.mem_cons_self)
  obtain ⟨-, -, -, hLo⟩ := hD.2.2.2 G (by simp)
  obtain ⟨-, -, ⟨x0, x1, x2, x3, x4, x5, x6, hRo⟩, hRl⟩ := hD.2.2.2 w.heap.size (by simp)
  obtain ⟨d0, d1, d2, d3, d4, d5, d6⟩ := hHo.seven
  obtain ⟨t0, t1, t2, t3, t4, t5, t6⟩ := hLo.seven
  obtain ⟨r0, r1, r2, r3, r4, r5, r6⟩ := hRo.seven
  obtain ⟨s0, s1, s2, s3, s4, s5, s6⟩ := hRl.seven
  have zG := hHo.1
  have zR := hRo.1
  clear hHo hLo hRo hRl
  cases b
  · go_wp2
    obtain ⟨-, -, ⟨x0, x1, x2, x3, x4, x5, x6, hRo⟩, -⟩ := hD.2.2.2 w.heap.size (by simp)
    have hF := hD.write7 hlt hB (Nat.le_refl _) (by simp; omega)
    exact bodyPost_ret (results_l3a d w.heap.size _ _ rfl (hRo.put7M _ _ _ _ _ _ _)) rfl ⟨d, ⟨hdn, hdp⟩, rfl, (hF _ _ _ _ _ _ _).1, (hF _ _ _ _ _ _ _).2.1⟩
  · go_wp2_with fail
    refine (l1Below_any B g _ hD.1 5 (by omega) (by omega)).mono ?_
    rintro r w3 ⟨v, hv0, hv1, rfl, hc1, hg1⟩
    replace hD := hD.by hc1 hg1
    clear hc1 hg1
    clear d0 d1 d2 d3 d4 d5 d6 t0 t1 t2 t3 t4 t5 t6 r0 r1 r2 r3 r4 r5 r6 s0 s1 s2 s3 s4 s5 s6 zG zR hGg hGz x0 x1 x2 x3 x4 x5 x6
    obtain ⟨hGg, hGz, hHo⟩ := hD.2.2.1 _ (List.mem_cons_self)
    obtain ⟨-, -, -, hLo⟩ := hD.2.2.2 G (by simp)
    obtain ⟨-, -, ⟨x0, x1, x2, x3, x4, x5, x6, hRo⟩, hRl⟩ := hD.2.2.2 w.heap.size (by simp)
    obtain ⟨d0, d1, d2, d3, d4, d5, d6⟩ := hHo.seven
    obtain ⟨t0, t1, t2, t3, t4, t5, t6⟩ := hLo.seven
    obtain ⟨r0, r1, r2, r3, r4, r5, r6⟩ := hRo.seven
    obtain ⟨s0, s1, s2, s3, s4, s5, s6⟩ := hRl.seven
    have zG := hHo.1
    have zR := hRo.1
    clear hHo hLo hRo hRl
    rcases (show v = 0 ∨ v = 1 ∨ v = 2 ∨ v = 3 ∨ v = 4 by omega) with hv | hv | hv | hv | hv
    · have hk0 : (v == 0) = true := by simp; omega
      have hk1 : (v == 1) = false := by simp; omega
      have hk2 : (v == 2) = false := by simp; omega
      have hk3 : (v == 3) = false := by simp; omega
      have hk4 : (v == 4) = false := by simp; omega
      go_wp2_with fail
      refine (l1From_any B g _ hD.1 0 7 (by omega) (by omega) (by omega)).mono ?_
      rintro r w4 ⟨n, hn0, hn1, rfl, hc1, hg1⟩
      replace hD := hD.by hc1 hg1
      clear hc1 hg1
      clear d0 d1 d2 d3 d4 d5 d6 t0 t1 t2 t3 t4 t5 t6 r0 r1 r2 r3 r4 r5 r6 s0 s1 s2 s3 s4 s5 s6 zG zR hGg hGz x0 x1 x2 x3 x4 x5 x6
      obtain ⟨hGg, hGz, hHo⟩ := hD.2.2.1 _ (List.mem_cons_self)
      obtain ⟨-, -, -, hLo⟩ := hD.2.2.2 G (by simp)
      obtain ⟨-, -, ⟨x0, x1, x2, x3, x4, x5, x6, hRo⟩, hRl⟩ := hD.2.2.2 w.heap.size (by simp)
      obtain ⟨d0, d1, d2, d3, d4, d5, d6⟩ := hHo.seven
      obtain ⟨t0, t1, t2, t3, t4, t5, t6⟩ := hLo.seven
      obtain ⟨r0, r1, r2, r3, r4, r5, r6⟩ := hRo.seven
      obtain ⟨s0, s1, s2, s3, s4, s5, s6⟩ := hRl.seven
      have zG := hHo.1
      have zR := hRo.1
      clear hHo hLo hRo hRl
      go_wp2
      replace hD := (hD.put hlt hB (by simp) 0 (by omega) (.int .i64 n))
      simp only [List.setIfInBounds_toArray, List.set_cons_zero] at hD
      obtain ⟨-, -, ⟨x0, x1, x2, x3, x4, x5, x6, hRo⟩, -⟩ := hD.2.2.2 w.heap.size (by simp)
      have hF := hD.write7 hlt hB (Nat.le_refl _) (by simp; omega)
      exact bodyPost_ret (results_l3a ⟨n, d.name, ⟨d.ed.ma, d.ed.mi, d.ed.pa⟩, d.page, d.who⟩ w.heap.size _ _ rfl (hRo.put7M _ _ _ _ _ _ _)) rfl ⟨⟨n, d.name, ⟨d.ed.ma, d.ed.mi, d.ed.pa⟩, d.page, d.who⟩, ⟨hdn, hdp⟩, rfl, (hF _ _ _ _ _ _ _).1, (hF _ _ _ _ _ _ _).2.1⟩
    · have hk0 : (v == 0) = false := by simp; omega
      have hk1 : (v == 1) = true := by simp; omega
      have hk2 : (v == 2) = false := by simp; omega
      have hk3 : (v == 3) = false := by simp; omega
      have hk4 : (v == 4) = false := by simp; omega
      go_wp2_with fail
      refine (l1DrawAny_any B g _ hD.1).mono ?_
      rintro r w4 ⟨nm, hnm, rfl, hc1, hg1⟩
      replace hD := hD.by hc1 hg1
      clear hc1 hg1
      clear d0 d1 d2 d3 d4 d5 d6 t0 t1 t2 t3 t4 t5 t6 r0 r1 r2 r3 r4 r5 r6 s0 s1 s2 s3 s4 s5 s6 zG zR hGg hGz x0 x1 x2 x3 x4 x5 x6
      obtain ⟨hGg, hGz, hHo⟩ := hD.2.2.1 _ (List.mem_cons_self)
      obtain ⟨-, -, -, hLo⟩ := hD.2.2.2 G (by simp)
      obtain ⟨-, -, ⟨x0, x1, x2, x3, x4, x5, x6, hRo⟩, hRl⟩ := hD.2.2.2 w.heap.size (by simp)
      obtain ⟨d0, d1, d2, d3, d4, d5, d6⟩ := hHo.seven
      obtain ⟨t0, t1, t2, t3, t4, t5, t6⟩ := hLo.seven
      obtain ⟨r0, r1, r2, r3, r4, r5, r6⟩ := hRo.seven
      obtain ⟨s0, s1, s2, s3, s4, s5, s6⟩ := hRl.seven
      have zG := hHo.1
      have zR := hRo.1
      clear hHo hLo hRo hRl
      go_wp2
      replace hD := (hD.put hlt hB (by simp) 1 (by omega) (.string nm))
      simp only [List.setIfInBounds_toArray, List.set_cons_zero, List.set_cons_succ] at hD
      obtain ⟨-, -, ⟨x0, x1, x2, x3, x4, x5, x6, hRo⟩, -⟩ := hD.2.2.2 w.heap.size (by simp)
      have hF := hD.write7 hlt hB (Nat.le_refl _) (by simp; omega)
      exact bodyPost_ret (results_l3a ⟨d.kind, nm, ⟨d.ed.ma, d.ed.mi, d.ed.pa⟩, d.page, d.who⟩ w.heap.size _ _ rfl (hRo.put7M _ _ _ _ _ _ _)) rfl ⟨⟨d.kind, nm, ⟨d.ed.ma, d.ed.mi, d.ed.pa⟩, d.page, d.who⟩, ⟨hnm, hdp⟩, rfl, (hF _ _ _ _ _ _ _).1, (hF _ _ _ _ _ _ _).2.1⟩
    · have hk0 : (v == 0) = false := by simp; omega
      have hk1 : (v == 1) = false := by simp; omega
      have hk2 : (v == 2) = true := by simp; omega
      have hk3 : (v == 3) = false := by simp; omega
      have hk4 : (v == 4) = false := by simp; omega
      go_wp2_with fail
      refine (l2DrawAny_any B g _ hD.1).mono ?_
      rintro r w4 ⟨e, he, rfl, hc1, hg1⟩
      replace hD := hD.by hc1 hg1
      clear hc1 hg1
      clear d0 d1 d2 d3 d4 d5 d6 t0 t1 t2 t3 t4 t5 t6 r0 r1 r2 r3 r4 r5 r6 s0 s1 s2 s3 s4 s5 s6 zG zR hGg hGz x0 x1 x2 x3 x4 x5 x6
      obtain ⟨hGg, hGz, hHo⟩ := hD.2.2.1 _ (List.mem_cons_self)
      obtain ⟨-, -, -, hLo⟩ := hD.2.2.2 G (by simp)
      obtain ⟨-, -, ⟨x0, x1, x2, x3, x4, x5, x6, hRo⟩, hRl⟩ := hD.2.2.2 w.heap.size (by simp)
      obtain ⟨d0, d1, d2, d3, d4, d5, d6⟩ := hHo.seven
      obtain ⟨t0, t1, t2, t3, t4, t5, t6⟩ := hLo.seven
      obtain ⟨r0, r1, r2, r3, r4, r5, r6⟩ := hRo.seven
      obtain ⟨s0, s1, s2, s3, s4, s5, s6⟩ := hRl.seven
      have zG := hHo.1
      have zR := hRo.1
      clear hHo hLo hRo hRl
      go_wp2
      replace hD := (((hD.put hlt hB (by simp) 2 (by omega) (.int .i64 e.ma)).put hlt hB (by simp) 3 (by omega) (.int .i64 e.mi)).put hlt hB (by simp) 4 (by omega) (.int .i64 e.pa))
      simp only [List.setIfInBounds_toArray, List.set_cons_zero, List.set_cons_succ] at hD
      obtain ⟨-, -, ⟨x0, x1, x2, x3, x4, x5, x6, hRo⟩, -⟩ := hD.2.2.2 w.heap.size (by simp)
      have hF := hD.write7 hlt hB (Nat.le_refl _) (by simp; omega)
      exact bodyPost_ret (results_l3a ⟨d.kind, d.name, ⟨e.ma, e.mi, e.pa⟩, d.page, d.who⟩ w.heap.size _ _ rfl (hRo.put7M _ _ _ _ _ _ _)) rfl ⟨⟨d.kind, d.name, ⟨e.ma, e.mi, e.pa⟩, d.page, d.who⟩, ⟨hdn, hdp⟩, rfl, (hF _ _ _ _ _ _ _).1, (hF _ _ _ _ _ _ _).2.1⟩
    · have hk0 : (v == 0) = false := by simp; omega
      have hk1 : (v == 1) = false := by simp; omega
      have hk2 : (v == 2) = false := by simp; omega
      have hk3 : (v == 3) = true := by simp; omega
      have hk4 : (v == 4) = false := by simp; omega
      have hT := hD.tab hlt #[.string ⟨#[65]⟩, .string ⟨#[120, 49]⟩, .string ⟨#[97, 98, 99, 100, 101, 102, 103, 104, 105, 106, 107, 108, 109]⟩] 9
      go_wp2_with fail
      refine (l1Below_any B g _ hT.1 3 (by omega) (by omega)).mono ?_
      rintro r w4 ⟨u, hu0, hu1, rfl, hc1, hg1⟩
      have hzt := hT.heldLt _ (List.mem_cons_self)
      have hT := hT.by hc1 hg1
      obtain ⟨pg, hpg, htab⟩ := tabS u hu0 (show u < 3 by omega) (hT.2.2.1 _ (List.mem_cons_self)).2.2
      have hD := hT.tailH
      clear hc1 hg1
      clear d0 d1 d2 d3 d4 d5 d6 t0 t1 t2 t3 t4 t5 t6 r0 r1 r2 r3 r4 r5 r6 s0 s1 s2 s3 s4 s5 s6 zG zR hGg hGz x0 x1 x2 x3 x4 x5 x6
      obtain ⟨hGg, hGz, hHo⟩ := hD.2.2.1 _ (List.mem_cons_self)
      obtain ⟨-, -, -, hLo⟩ := hD.2.2.2 G (by simp)
      obtain ⟨-, -, ⟨x0, x1, x2, x3, x4, x5, x6, hRo⟩, hRl⟩ := hD.2.2.2 w.heap.size (by simp)
      obtain ⟨d0, d1, d2, d3, d4, d5, d6⟩ := hHo.seven
      obtain ⟨t0, t1, t2, t3, t4, t5, t6⟩ := hLo.seven
      obtain ⟨r0, r1, r2, r3, r4, r5, r6⟩ := hRo.seven
      obtain ⟨s0, s1, s2, s3, s4, s5, s6⟩ := hRl.seven
      have zG := hHo.1
      have zR := hRo.1
      clear hHo hLo hRo hRl
      go_wp2
      replace hD := (hD.put hlt hB (by simp) 5 (by omega) (.string pg))
      simp only [List.setIfInBounds_toArray, List.set_cons_zero, List.set_cons_succ] at hD
      obtain ⟨-, -, ⟨x0, x1, x2, x3, x4, x5, x6, hRo⟩, -⟩ := hD.2.2.2 w.heap.size (by simp)
      have hF := hD.write7 hlt hB (Nat.le_refl _) (by simp; omega)
      exact bodyPost_ret (results_l3a ⟨d.kind, d.name, ⟨d.ed.ma, d.ed.mi, d.ed.pa⟩, pg, d.who⟩ w.heap.size _ _ rfl (hRo.put7M _ _ _ _ _ _ _)) rfl ⟨⟨d.kind, d.name, ⟨d.ed.ma, d.ed.mi, d.ed.pa⟩, pg, d.who⟩, ⟨hdn, hpg⟩, rfl, (hF _ _ _ _ _ _ _).1, (hF _ _ _ _ _ _ _).2.1⟩
    · have hk0 : (v == 0) = false := by simp; omega
      have hk1 : (v == 1) = false := by simp; omega
      have hk2 : (v == 2) = false := by simp; omega
      have hk3 : (v == 3) = false := by simp; omega
      have hk4 : (v == 4) = true := by simp; omega
      have hT := hD.tab hlt #[.int .i64 (-1), .int .i64 3, .int .i64 4] 2
      go_wp2_with fail
      refine (l1Below_any B g _ hT.1 3 (by omega) (by omega)).mono ?_
      rintro r w4 ⟨u, hu0, hu1, rfl, hc1, hg1⟩
      have hzt := hT.heldLt _ (List.mem_cons_self)
      have hT := hT.by hc1 hg1
      obtain ⟨ww, htab⟩ := tabW u hu0 (show u < 3 by omega) (hT.2.2.1 _ (List.mem_cons_self)).2.2
      have hD := hT.tailH
      clear hc1 hg1
      clear d0 d1 d2 d3 d4 d5 d6 t0 t1 t2 t3 t4 t5 t6 r0 r1 r2 r3 r4 r5 r6 s0 s1 s2 s3 s4 s5 s6 zG zR hGg hGz x0 x1 x2 x3 x4 x5 x6
      obtain ⟨hGg, hGz, hHo⟩ := hD.2.2.1 _ (List.mem_cons_self)
      obtain ⟨-, -, -, hLo⟩ := hD.2.2.2 G (by simp)
      obtain ⟨-, -, ⟨x0, x1, x2, x3, x4, x5, x6, hRo⟩, hRl⟩ := hD.2.2.2 w.heap.size (by simp)
      obtain ⟨d0, d1, d2, d3, d4, d5, d6⟩ := hHo.seven
      obtain ⟨t0, t1, t2, t3, t4, t5, t6⟩ := hLo.seven
      obtain ⟨r0, r1, r2, r3, r4, r5, r6⟩ := hRo.seven
      obtain ⟨s0, s1, s2, s3, s4, s5, s6⟩ := hRl.seven
      have zG := hHo.1
      have zR := hRo.1
      clear hHo hLo hRo hRl
      go_wp2
      replace hD := (hD.put hlt hB (by simp) 6 (by omega) (.int .i64 ww))
      simp only [List.setIfInBounds_toArray, List.set_cons_zero, List.set_cons_succ] at hD
      obtain ⟨-, -, ⟨x0, x1, x2, x3, x4, x5, x6, hRo⟩, -⟩ := hD.2.2.2 w.heap.size (by simp)
      have hF := hD.write7 hlt hB (Nat.le_refl _) (by simp; omega)
      exact bodyPost_ret (results_l3a ⟨d.kind, d.name, ⟨d.ed.ma, d.ed.mi, d.ed.pa⟩, d.page, ww⟩ w.heap.size _ _ rfl (hRo.put7M _ _ _ _ _ _ _)) rfl ⟨⟨d.kind, d.name, ⟨d.ed.ma, d.ed.mi, d.ed.pa⟩, d.page, ww⟩, ⟨hdn, hdp⟩, rfl, (hF _ _ _ _ _ _ _).1, (hF _ _ _ _ _ _ _).2.1⟩
end Go.Proofs.YtdcdalbbjfjadaaGreatDoor
namespace Go.Proofs.YtdcdalbbjfjadaaGreatDoor
namespace M

theorem find_rises {l : List Cp} (h : risesB l = true) {j : Nat} (hj : j < l.length) : findEd l l[j].ed = j := by
  refine (List.findIdx_eq hj).2 ⟨by simp [isEd], fun i hi => ?_⟩
  have h1 := rises_lt h j i hi hj
  simp only [isEd, decide_eq_false_iff_not]
  intro e
  rw [e, older_irrefl] at h1
  cases h1
theorem copyIn_mem {w : Wk} (hk : wkOk w = true) {c : Cp} (hc : c ∈ w.copies) : copyIn w c.ed = (c, true) := by
  obtain ⟨j, hj, rfl⟩ := List.mem_iff_getElem.1 hc
  have hf := find_rises (wkOk_rises hk).1 hj
  rw [copyIn_some hk (by rw [hf]; exact hj)]
  simp only [hf]

/-! ### Veiled back. -/
theorem veilAt_get {l : List Cp} {k i : Nat} {h : Bool} (hi : i < l.length) : (veilAt l k h)[i]'(by rw [veilAt_len]; exact hi) = { l[i] with hidden := if k = i then h else l[i].hidden } := by
  unfold veilAt
  rw [List.getElem_modify]
  split <;> simp_all
theorem veilAt_cps (l : List Cp) (k : Nat) (h : Bool) : cpsOk (veilAt l k h) = cpsOk l := by
  rw [Bool.eq_iff_iff, cpsOk_iff, cpsOk_iff]
  constructor
  · intro H i hi
    have := H i (by rw [veilAt_len]; exact hi)
    rw [veilAt_get hi] at this
    refine ⟨this.1, fun j e => ?_⟩
    have h2 := this.2 j e
    rw [veilAt_get (by omega)] at h2
    exact h2
  · intro H i hi
    have hi' : i < l.length := by rw [veilAt_len] at hi; exact hi
    rw [veilAt_get hi']
    refine ⟨(H i hi').1, fun j e => ?_⟩
    rw [veilAt_get (by omega)]
    exact (H i hi').2 j e
theorem veilAt_find (l : List Cp) (k : Nat) (h : Bool) (e : Ed) : findEd (veilAt l k h) e = findEd l e := by
  unfold findEd
  have hl := veilAt_len l k h
  by_cases hf : l.findIdx (isEd e) < l.length
  · refine (List.findIdx_eq (by rw [hl]; exact hf)).2 ⟨?_, fun j hj => ?_⟩
    · rw [veilAt_get hf]
      exact List.findIdx_getElem (w := hf)
    · rw [veilAt_get (by omega)]
      have := List.not_of_lt_findIdx hj
      simpa [isEd] using this
  · have hf' : l.findIdx (isEd e) = l.length := by
      have := List.findIdx_le_length (p := isEd e) (xs := l)
      omega
    rw [hf', ← hl]
    refine List.findIdx_eq_length.2 fun x hx => ?_
    obtain ⟨i, hi, rfl⟩ := List.mem_iff_getElem.1 hx
    have hi' : i < l.length := by rw [hl] at hi; exact hi
    rw [veilAt_get hi']
    have := List.findIdx_eq_length.1 hf' _ (List.getElem_mem hi')
    simpa [isEd] using this
theorem veilAt_back {l : List Cp} {k : Nat} (h : Bool) (hk : k < l.length) : veilAt (veilAt l k h) k l[k].hidden = l := by
  refine List.ext_getElem (by rw [veilAt_len, veilAt_len]) fun i h1 h2 => ?_
  rw [veilAt_get (by rw [veilAt_len]; exact h2), veilAt_get h2]
  by_cases e : k = i
  · subst e; simp
  · simp [e]
theorem veil_law {q : Wk} {f : Ed} {h : Bool} (hv : (veiled q f h).2 = true) : wkOk (veiled q f h).1 = true ∧ (veiled (veiled q f h).1 f (copyIn q f).1.hidden).1 = q := by
  rcases hk : wkOk q with _ | _
  · rw [veiled_bad f h hk] at hv; cases hv
  · by_cases hf : findEd q.copies f < q.copies.length
    · have hok : wkOk { q with copies := veilAt q.copies (findEd q.copies f) h } = true := by
        unfold wkOk at hk ⊢
        simp only [veilAt_len, veilAt_cps]
        exact hk
      rw [veiled_some h hk hf]
      refine ⟨hok, ?_⟩
      rw [copyIn_some hk hf, veiled_some _ hok (by simp only [veilAt_find, veilAt_len]; exact hf)]
      simp only [veilAt_find]
      rw [veilAt_back h hf]
    · have hf' : findEd q.copies f = q.copies.length := by
        have := List.findIdx_le_length (p := isEd f) (xs := q.copies)
        unfold findEd at hf ⊢; omega
      rw [veiled_none h hk hf'] at hv; cases hv

/-! ### Printed. -/
theorem putAt_get {l : List Cp} {k : Nat} {c : Cp} (hk : k ≤ l.length) (i : Nat) : (putAt l k c)[i]? = if i < k then l[i]? else if i = k then some c else l[i - 1]? := by
  unfold putAt
  by_cases h1 : i < k
  · rw [if_pos h1, List.getElem?_append_left (by simp; omega), List.getElem?_take_of_lt h1]
  · rw [if_neg h1, List.getElem?_append_right (by simp; omega)]
    have : (l.take k).length = k := by simp; omega
    rw [this]
    by_cases h2 : i = k
    · rw [if_pos h2, h2, Nat.sub_self]; rfl
    · rw [if_neg h2]
      obtain ⟨m, hm⟩ : ∃ m, i - k = m + 1 := ⟨i - k - 1, by omega⟩
      rw [hm, List.getElem?_cons_succ, List.getElem?_drop]
      congr 1; omega
theorem putAt_rises {l : List Cp} {e : Ed} {c : Cp} (h : risesB l = true) (hn : findEd l e = l.length) (hc : c.ed = e) : risesB (putAt l (place l e) c) = true := by
  have hple := place_le l e
  have hlen := putAt_len l (place l e) c hple
  have hlt : ∀ i (hi : i < l.length), i < place l e → older l[i].ed e = true := fun i hi hp => by
    have := List.not_of_lt_findIdx (p := notOlder e) hp
    simpa [notOlder] using this
  have hge : ∀ hi : place l e < l.length, older e l[place l e].ed = true := fun hi => by
    have h1 : notOlder e (l[place l e]'hi) = true := List.findIdx_getElem (w := hi)
    have h2 : older (l[place l e]'hi).ed e = false := by simpa [notOlder] using h1
    have h3 := List.findIdx_eq_length.1 hn _ (List.getElem_mem hi)
    rcases h4 : older e l[place l e].ed with _ | _
    · have := older_total _ _ h4 h2
      simp [isEd, ← this] at h3
    · rfl
  rw [risesB_iff]
  intro i hi
  rw [hlen] at hi
  have g1 := putAt_get (c := c) hple i
  have g2 := putAt_get (c := c) hple (i + 1)
  rw [List.getElem?_eq_getElem (by rw [hlen]; omega)] at g1 g2
  by_cases h1 : i + 1 < place l e
  · rw [if_pos (by omega), List.getElem?_eq_getElem (by omega)] at g1
    rw [if_pos h1, List.getElem?_eq_getElem (by omega)] at g2
    rw [Option.some.inj g1, Option.some.inj g2]
    exact (risesB_iff l).1 h i (by omega)
  · by_cases h2 : i + 1 = place l e
    · rw [if_pos (by omega), List.getElem?_eq_getElem (by omega)] at g1
      rw [if_neg h1, if_pos h2] at g2
      rw [Option.some.inj g1, Option.some.inj g2, hc]
      exact hlt i (by omega) (by omega)
    · by_cases h3 : i = place l e
      · rw [if_neg (by omega), if_pos h3] at g1
        rw [if_neg h1, if_neg h2, List.getElem?_eq_getElem (by omega)] at g2
        rw [Option.some.inj g1, Option.some.inj g2, hc]
        have hi' : place l e < l.length := by omega
        have := hge hi'
        have e1 : l[i + 1 - 1]'(by omega) = l[place l e]'hi' := by congr 1
        rw [e1]; exact this
      · rw [if_neg (by omega), if_neg h3, List.getElem?_eq_getElem (by omega)] at g1
        rw [if_neg h1, if_neg h2, List.getElem?_eq_getElem (by omega)] at g2
        rw [Option.some.inj g1, Option.some.inj g2]
        have := (risesB_iff l).1 h (i - 1) (by omega)
        have e1 : l[i + 1 - 1]'(by omega) = l[i - 1 + 1]'(by omega) := by congr 1; omega
        rw [e1]; exact this
theorem mem_putAt {l : List Cp} {k : Nat} {c x : Cp} (h : x ∈ l) : x ∈ putAt l k c := by
  unfold putAt
  have := List.take_append_drop k l
  rw [← this] at h
  rcases List.mem_append.1 h with h | h
  · exact List.mem_append.2 (.inl h)
  · exact List.mem_append.2 (.inr (List.mem_cons_of_mem _ h))
theorem print_law {w : Wk} {e : Ed} {p : ByteArray} (hp : (printed w e p).2 = true) :
    wkOk (printed w e p).1 = true ∧ (∀ c ∈ w.copies, copyIn (printed w e p).1 c.ed = (c, true)) ∧ copyIn (printed w e p).1 e = (⟨e, p, false⟩, true) ∧ (printed w e p).1.copies.length = w.copies.length + 1 := by
  rcases hk : wkOk w with _ | _
  · rw [printed_bad e p hk] at hp; cases hp
  · by_cases hc : findEd w.copies e < w.copies.length ∨ cpOk ⟨e, p, false⟩ = false ∨ w.copies.length = 8
    · unfold printed at hp; rw [if_pos hk, if_pos hc] at hp; cases hp
    · have hn : findEd w.copies e = w.copies.length := by
        have := List.findIdx_le_length (p := isEd e) (xs := w.copies)
        unfold findEd at hc ⊢; omega
      have hcp : cpOk ⟨e, p, false⟩ = true := by
        rcases h : cpOk ⟨e, p, false⟩ with _ | _
        · exact absurd (.inr (.inl h)) hc
        · rfl
      have h8 : w.copies.length ≠ 8 := fun h => hc (.inr (.inr h))
      obtain ⟨hr, hle, hall⟩ := wkOk_rises hk
      have hple := place_le w.copies e
      rw [printed_put hk hn hcp h8]
      have hok : wkOk { w with copies := putAt w.copies (place w.copies e) ⟨e, p, false⟩ } = true := by
        have hk' := hk
        simp only [wkOk, Bool.and_eq_true] at hk' ⊢
        refine ⟨⟨hk'.1.1, ?_⟩, ?_⟩
        · simp only [putAt_len _ _ _ hple, decide_eq_true_eq]; omega
        · simp only [cpsOk, Bool.and_eq_true, List.all_eq_true]
          refine ⟨fun x hx => ?_, putAt_rises hr hn rfl⟩
          rcases putAt_mem hx with rfl | hx
          · exact hcp
          · exact hall x hx
      refine ⟨hok, fun c hc => copyIn_mem hok (mem_putAt hc), ?_, putAt_len _ _ _ hple⟩
      exact copyIn_mem (c := ⟨e, p, false⟩) hok (by simp [putAt])
end M
end Go.Proofs.YtdcdalbbjfjadaaGreatDoor
