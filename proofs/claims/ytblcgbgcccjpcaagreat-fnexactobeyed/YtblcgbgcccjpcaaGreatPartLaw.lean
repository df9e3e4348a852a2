/- Proved: the law FnExactObeyed returns true at all arguments, and they read afterwards as before; no condition. -/
import Derived.Test.YtblcgbgcccjpcaaGreatPart46
import Derived.Test.YtblcgbgcccjpcaaGreatPart47
import Derived.Test.YtblcgbgcccjpcaaGreatPart49
import Derived.Lib.SmallJoins
namespace Go.Proofs.YtblcgbgcccjpcaaGreat.fnExactObeyed
open Go.ChangeShapes Go.WideShapes Go.ChangeAt Go.RowKit Go.Joins Go.Deep
open Go.ChangeMaps (open_string shut_string)
set_option linter.unusedVariables false

set_option maxRecDepth 100000 in
set_option maxHeartbeats 16000000 in
theorem walk (A : Option Addr) (l : List Wr) (cap : Nat) (A2 : Option Addr) (m : List M.La) (cb : Nat) (en : M.En) (hlen : l.length ≤ maxLen) (hp : WrsIn maxLen l) (hml : m.length ≤ maxLen) (hmp : ∀ c ∈ m, laIn maxLen c) (hn : en.order.deed.name.size ≤ maxLen) (hpg : en.order.deed.page.size ≤ maxLen) (w : World) (hl : Wks w A l) (hm : Las w A2 m) :
    Calls Tryz.prog 7 #[bkV A l.length cap A2 m.length cb, enV en] w fun e w' => e = .returned (.bool true) ∧ Below w.heap.size w w' := by
  have b0 := ((Below.refl w.heap.size w).alloc (Nat.le_refl _) (.cells (bkA A l.length cap A2 m.length cb) 86)).alloc (by simp) (.cells (enC en) 93)
  have h0 := (holds_new w (bkA A l.length cap A2 m.length cb) 86).alloc (.cells (enC en) 93)
  have hO := holds_new (w.alloc (.cells (bkA A l.length cap A2 m.length cb) 86)) (enC en) 93
  simp only [World.size_alloc] at hO
  have hl0 := hl.below b0
  have hm0 := hm.below b0
  by_cases hbig : (1048576 : Int) < l.length + szWrs l + (m.length + szLas m)
  · go_enter Tryz.func7, Tryz.ntmps7
    go_wp2_with fail
    refine (szBook_big A l cap A2 m cb 1048576 _ (by omega) (by omega) hl0 hm0 hlen hp hml hmp hbig).mono ?_
    rintro r w1 ⟨rfl, b1⟩
    go_wp2
    go_ret
    exact ⟨rfl, next b0 b1⟩
  · have hl20 : l.length ≤ 1048576 := by omega
    have hm20 : m.length ≤ 1048576 := by omega
    have HP : Hid (WrsIn 1048576 l) := Lib.hid (WrsIn.of_sz (by omega))
    have HMP : Hid (∀ c ∈ m, laIn 1048576 c) := Lib.hid (fun c hc => by have := szLas_mem m c hc; show c.page.size ≤ 1048576; omega)
    have hge0 : 0 ≤ (1048576 : Int) - l.length - szWrs l - m.length - szLas m := by omega
    have hle0 : (1048576 : Int) - l.length - szWrs l - m.length - szLas m ≤ 1048576 := by omega
    have HSZ : Hid (mlen l ≤ 8000000) := Lib.hid (by have := mlen_le l; omega)
    clear hp hmp
    obtain ⟨N, hN⟩ : ∃ N : Int, (1048576 : Int) - l.length - szWrs l - m.length - szLas m = N := ⟨_, rfl⟩
    rw [hN] at hge0 hle0
    have HN := Lib.hid hN
    clear hN
    by_cases hb2 : N < (en.order.deed.name.size + en.order.deed.page.size : Int)
    · go_enter Tryz.func7, Tryz.ntmps7
      go_wp2_with fail
      refine (szBook_small A l cap A2 m cb 1048576 _ (by omega) hl0 hm0 (by omega)).mono ?_
      rintro r w1 ⟨rfl, b1⟩
      rw [HN.out]
      replace hO := hO.below b1
      replace b0 := next b0 b1
      obtain ⟨p0, p1, p2, p3, p4, p5, p6, p7, p8, p9⟩ := hO.ten
      clear b1
      go_wp2_with fail
      refine (szEntry_big en N _ hge0 hle0 hn hpg hb2).mono ?_
      rintro r w2 ⟨rfl, b2⟩
      replace b0 := next b0 b2
      clear p0 p1 p2 p3 p4 p5 p6 p7 p8 p9
      go_wp2
      go_ret
      exact ⟨rfl, b0⟩
    have hdn : en.order.deed.name.size ≤ 1048576 := by omega
    have hdp : en.order.deed.page.size ≤ 1048576 := by omega
    have hb3 : (en.order.deed.name.size + en.order.deed.page.size : Int) ≤ N := by omega
    clear hb2
    go_enter Tryz.func7, Tryz.ntmps7
    go_wp2_with fail
    refine (szBook_small A l cap A2 m cb 1048576 _ (by omega) hl0 hm0 (by omega)).mono ?_
    rintro r w1 ⟨rfl, b1⟩
    rw [HN.out]
    replace h0 := h0.below b1
    replace hO := hO.below b1
    replace b0 := next b0 b1
    obtain ⟨p0, p1, p2, p3, p4, p5, p6, p7, p8, p9⟩ := hO.ten
    have zO := hO.1
    clear b1 hl0 hm0
    go_wp2_with fail
    refine (szEntry_small en N _ hle0 hb3).mono ?_
    rintro r w2 ⟨⟨mm, rfl⟩, b2⟩
    replace h0 := h0.below b2
    replace hO := hO.below b2
    replace b0 := next b0 b2
    clear p0 p1 p2 p3 p4 p5 p6 p7 p8 p9 zO b2 hbig hb3 hge0 hle0 HN
    have h0d : Holds w2.drew w.heap.size (bkA A l.length cap A2 m.length cb) := h0
    have hOd : Holds w2.drew (w.heap.size + 1) (enC en) := hO
    have hl1d : Wks w2.drew A l := hl.below b0.drew
    have hm1d : Las w2.drew A2 m := hm.below b0.drew
    go_upto_region 8 with (fail)
    go_cut [6, 7] (fun s6 s7 wx => OrdBox w2 (M.obeyed (l.map Wr.wk, m) en) s6 s7 wx)
    case first =>
      refine wp_region_mix (OrdF8 (bkV A l.length cap A2 m.length cb) (enV en) l m w2.heap.size (M.obeyed (l.map Wr.wk, m) en)) (lkOrd 5) (relOrd 5) 10 [0, 2] [(1, []), (3, []), (4, [5, 6, 7])] [8, 9] [(10, false), (11, false)] (by kernel_rfl) (by kernel_rfl) (fun _ _ _ _ _ h => h) (by kernel_rfl) (ordF8_st (bkV A l.length cap A2 m.length cb) (enV en) l m w2.heap.size (M.obeyed (l.map Wr.wk, m) en)) ?_ ?_
      · refine ⟨?_, ?_, ?_, ?_, ?_, ?_, ?_, ?_, ?_, ?_, trivial⟩
        · intro u e a x hdep hbase hb
          refine if_read rfl ?_
          have e2 : a.tmps[2]? = some (.pointer (some ⟨w.heap.size, 0, none⟩)) := (hbase 2 (by decide +kernel)).trans rfl
          clear hdep hbase
          refine ⟨(bkV A l.length cap A2 m.length cb), fun y hS => ?_, rfl, (fun j hj => by simp [lkOrd] at hj)⟩
          obtain ⟨k0, k1⟩ := (h0d.below hS).two
          go_simp
          try with_reducible rfl
        · intro u e a x hdep hbase hb
          refine if_eff rfl ?_
          intro K hK
          obtain ⟨f0, v0⟩ := hdep 0 (by decide) (by decide +kernel)
          have e2 : a.tmps[27]? = some ((bkV A l.length cap A2 m.length cb)) := (v0 27 (by decide +kernel)).trans (congrArg some f0)
          clear hdep hbase v0
          go_simp
          go_at_call 44
          refine (toBook_at A l cap A2 m cb _ (hl1d.below hb) hl20 HP.out (hm1d.below hb) hm20).mono ?_
          rintro r y ⟨rs, gA, gB, rfl, -, -, h4, -, -, -, b1⟩
          go_simp
          exact hK.out _ (fun _ => False) _ h4 (fun j hj => by simp [lkOrd] at hj) b1 (fun g hg => hg.elim)
        · intro u e a x hdep hbase hb
          refine if_read rfl ?_
          have e2 : a.tmps[3]? = some (.pointer (some ⟨w.heap.size + 1, 0, none⟩)) := (hbase 3 (by decide +kernel)).trans rfl
          clear hdep hbase
          refine ⟨enV en, fun y hS => ?_, rfl, (fun j hj => by simp [lkOrd] at hj)⟩
          obtain ⟨k0, k1, k2, k3, k4, k5, k6, k7, k8, k9⟩ := (hOd.below hS).ten
          go_simp
          try with_reducible rfl
        · intro u e a x hdep hbase hb
          refine if_eff rfl ?_
          intro K hK
          obtain ⟨f2, v2⟩ := hdep 2 (by decide) (by decide +kernel)
          have e2 : a.tmps[29]? = some (enV en) := (v2 29 (by decide +kernel)).trans (congrArg some f2)
          clear hdep hbase v2
          go_simp
          go_at_call 45
          refine (enTo_any en _).mono ?_
          rintro r y ⟨rfl, b1⟩
          go_simp
          exact hK.out _ (fun _ => False) _ rfl (fun j hj => by simp [lkOrd] at hj) b1 (fun g hg => hg.elim)
        · intro u e a x hdep hbase hb
          refine if_eff rfl ?_
          intro K hK
          obtain ⟨f1, v1⟩ := hdep 1 (by decide) (by decide +kernel)
          obtain ⟨f3, v3⟩ := hdep 3 (by decide) (by decide +kernel)
          have e1 : a.tmps[28]? = some (u 1) := v1 28 (by decide +kernel)
          have e3 : a.tmps[30]? = some (enV en) := (v3 30 (by decide +kernel)).trans (congrArg some f3)
          clear hdep hbase v1 v3
          go_simp
          go_at_call 35
          refine (specObeyed_at l m en (u 1) _ f1 hl20 HP.out hm20 hdn hdp).mono ?_
          rintro r y h
          obtain ⟨v, E, rfl, h5, b1, hE⟩ := h.res (B := w2.heap.size) hb.size
          go_simp
          exact hK.out _ E _ h5 (fun j hj => by simp [lkOrd] at hj) b1 hE
        · intro u e a x hdep hbase hb
          refine if_read rfl ?_
          obtain ⟨f4, v4⟩ := hdep 4 (by decide) (by decide +kernel)
          have e4 : a.tmps[31]? = some (u 4) := v4 31 (by decide +kernel)
          obtain ⟨_, _, _, _, _, hv, -⟩ := f4
          clear hdep hbase v4
          refine ⟨u 4, fun y hS => ?_, ⟨_, _, hv⟩, (fun j hj => by simp [lkOrd] at hj; subst hj; simp [relOrd])⟩
          clear hv
          go_simp
          try with_reducible rfl
        · intro u e a x hdep hbase hb
          refine if_read rfl ?_
          obtain ⟨⟨p, q, hv⟩, v5⟩ := hdep 5 (by decide) (by decide +kernel)
          have e5 : a.tmps[26]? = some (.tuple #[p, q]) := (v5 26 (by decide +kernel)).trans (congrArg some hv)
          clear hdep hbase v5
          refine ⟨p, fun y hS => ?_, trivial, (fun j hj => by simp [lkOrd] at hj; subst hj; simp only [relOrd]; exact ⟨p, q, hv, rfl⟩)⟩
          clear hv
          go_simp
          try with_reducible rfl
        · intro u e a x hdep hbase hb
          refine if_read rfl ?_
          obtain ⟨⟨p, q, hv⟩, v5⟩ := hdep 5 (by decide) (by decide +kernel)
          have e5 : a.tmps[26]? = some (.tuple #[p, q]) := (v5 26 (by decide +kernel)).trans (congrArg some hv)
          clear hdep hbase v5
          refine ⟨q, fun y hS => ?_, trivial, (fun j hj => by simp [lkOrd] at hj; subst hj; simp only [relOrd]; exact ⟨p, q, hv, rfl⟩)⟩
          clear hv
          go_simp
          try with_reducible rfl
        · intro u e a x hdep hbase hb
          refine if_eff rfl ?_
          intro K hK
          clear hdep hbase
          go_simp
          exact hK.out _ (fun k => k = x.heap.size) _ ⟨x.heap.size, rfl, holds_new _ _ _, loose_new _ _ _, fun k => Iff.rfl⟩ (fun j hj => by simp [lkOrd] at hj) ((Below.refl _ _).alloc (Nat.le_refl _) _) (fun g hg => by subst hg; simp)
        · intro u e a x hdep hbase hb
          refine if_eff rfl ?_
          intro K hK
          clear hdep hbase
          go_simp
          exact hK.out _ (fun k => k = x.heap.size) _ ⟨x.heap.size, rfl, holds_new _ _ _, loose_new _ _ _, fun k => Iff.rfl⟩ (fun j hj => by simp [lkOrd] at hj) ((Below.refl _ _).alloc (Nat.le_refl _) _) (fun g hg => by subst hg; simp)
      · intro u e y hF hrel hfoot hap hb
        obtain ⟨B1, d1, B2, d2, rs, hv4, o1, hmq, o2, hap2, hE⟩ := hF 4 (by decide)
        obtain ⟨G, hvG, hG, hGl, hEG⟩ := hF 8 (by decide)
        obtain ⟨H, hvH, hH, hHl, hEH⟩ := hF 9 (by decide)
        have r5 : u 5 = u 4 := hrel 5 4 (by decide) rfl
        obtain ⟨p6, q6, hp6, e6⟩ : ∃ a b, u 5 = .tuple #[a, b] ∧ u 6 = a := hrel 6 5 (by decide) rfl
        obtain ⟨p7, q7, hp7, e7⟩ : ∃ a b, u 5 = .tuple #[a, b] ∧ u 7 = b := hrel 7 5 (by decide) rfl
        rw [r5, hv4] at hp6 hp7
        obtain ⟨rfl, rfl⟩ : p6 = bkV B1 rs.length d1 B2 (M.obeyed (l.map Wr.wk, m) en).1.2.length d2 ∧ q6 = rpV (M.obeyed (l.map Wr.wk, m) en).2.1 (M.obeyed (l.map Wr.wk, m) en).2.2 := by simpa using hp6.symm
        obtain ⟨rfl, rfl⟩ : p7 = bkV B1 rs.length d1 B2 (M.obeyed (l.map Wr.wk, m) en).1.2.length d2 ∧ q7 = rpV (M.obeyed (l.map Wr.wk, m) en).2.1 (M.obeyed (l.map Wr.wk, m) en).2.2 := by simpa using hp7.symm
        have hg := (hfoot 8 G (by decide) ((hEG G).2 rfl)).1
        have hh := (hfoot 9 H (by decide) ((hEH H).2 rfl)).1
        have hGH : G ≠ H := fun e' => hap 8 9 G (by decide) (by decide) (by decide) ((hEG G).2 rfl) ((hEH G).2 e')
        have hGB : ¬ blocksB (.slice B1 rs.length d1) (.slice B2 (M.obeyed (l.map Wr.wk, m) en).1.2.length d2) rs G := fun h => hap 4 8 G (by decide) (by decide) (by decide) ((hE G).2 h) ((hEG G).2 rfl)
        have hHB : ¬ blocksB (.slice B1 rs.length d1) (.slice B2 (M.obeyed (l.map Wr.wk, m) en).1.2.length d2) rs H := fun h => hap 4 9 H (by decide) (by decide) (by decide) ((hE H).2 h) ((hEH H).2 rfl)
        have HBD := Lib.hid hb
        have HEND := Lib.hid (ordBox_of o1 hmq o2 hap2 hG hH hg hh hGH hGB hHB ((Below.refl w2.heap.size w2).drew.trans hb))
        simp only [fillAct, dstAt, show List.range 10 = [0, 1, 2, 3, 4, 5, 6, 7, 8, 9] from rfl, List.foldl_cons, List.foldl_nil, List.getElem?_toArray, List.getElem?_cons_succ, List.getElem?_cons_zero, Option.bind_some, List.setIfInBounds_toArray, List.set_cons_zero, List.set_cons_succ]
        rw [hvG, hvH, e6, e7]
        clear hF hrel hfoot hap hE hEG hEH hp6 hp7 o1 o2 hap2 hmq hGB hHB
        obtain ⟨g0, g1⟩ := hG.two
        obtain ⟨t0, t1⟩ := hH.two
        have y0 := hGl 0
        have y1 := hGl 1
        have z0 := hHl 0
        have z1 := hHl 1
        have zg := hG.1
        have zh := hH.1
        have hHG : H ≠ G := fun e' => hGH e'.symm
        refine seq_call (by simp only [List.getElem?_toArray, List.getElem?_cons_succ, List.getElem?_cons_zero]; first | done | rfl) (by rfl) (fun K hK => ?_)
        go_simp
        refine hK.out _ _ (far_2 HBD.out hg _ _) ?_
        clear hK
        intro hTriv
        (try simp only [Act.put, List.setIfInBounds_toArray, List.set_cons_zero, List.set_cons_succ])
        refine seq_call (by simp only [List.getElem?_toArray, List.getElem?_cons_succ, List.getElem?_cons_zero]; first | done | rfl) (by rfl) (fun K hK => ?_)
        go_simp
        refine hK.out _ _ (far_2 (far_2 HBD.out hg _ _) hh _ _) ?_
        clear hK
        intro hTriv
        (try simp only [Act.put, List.setIfInBounds_toArray, List.set_cons_zero, List.set_cons_succ])
        refine seq_end ?_
        go_wp2
        go_meet
        exact HEND.out
    case rest =>

    obtain ⟨w3, rfl⟩ : ∃ w3, w3 = wc := ⟨_, rfl⟩
    obtain ⟨B6, d6, C6, f6, r6, G6, H7, rfl, rfl, hG6, hH7, hGH6, b3, x6, x7, m6, ap6, nG6, nH6⟩ := hcut
    have HL5 := Lib.hid ((M.obey_ok (l.map Wr.wk, m) en).2)
    replace h0 := h0.below b3
    replace hO := hO.below b3
    replace b0 := next b0 b3
    clear b3 h0d hOd hl1d hm1d hGH6 nG6 nH6 ap6
    have HB6 := Lib.hid (fun g (hg : blocksB (.slice B6 r6.length d6) (.slice C6 (M.obeyed (l.map Wr.wk, m) en).1.2.length f6) r6 g) => (x6.ge hg).2)
    have HG6 := Lib.hid x6.box.1
    have HH7 := Lib.hid x7.1
    have H0L := Lib.hid h0.1
    have HOL := Lib.hid hO.1
    have HWX := Lib.hid b0.size
    have H02 := Lib.hid (show w.heap.size + 1 < w3.heap.size from hO.1)
    obtain ⟨p0, p1⟩ := h0.two
    have z0 := h0.1
    go_wp2_with fail
    refine (toBook_at A l cap A2 m cb _ (hl.below b0) hl20 HP.out (hm.below b0) hm20).mono ?_
    rintro r w4 ⟨rs8, gA, gB, rfl, hm8, hl8, ha8, o8, l8, ap8, b4⟩
    have ba := (Below.refl w4.heap.size w4).alloc (Nat.le_refl _) (.cells (bkA (some ⟨gA, 0, none⟩) rs8.length rs8.length (some ⟨gB, 0, none⟩) m.length m.length) 27)
    have x8 : BB w3.heap.size (w4.alloc (.cells (bkA (some ⟨gA, 0, none⟩) rs8.length rs8.length (some ⟨gB, 0, none⟩) m.length m.length) 27)) w4.heap.size (some ⟨gA, 0, none⟩) rs8.length (some ⟨gB, 0, none⟩) m.length rs8 m := ⟨holds_new _ _ _, o8.below ba, LasOwn.below l8 ba⟩
    have HB8 := Lib.hid (fun g (hg : blocksB (.slice (some ⟨gA, 0, none⟩) rs8.length rs8.length) (.slice (some ⟨gB, 0, none⟩) m.length m.length) rs8 g) => show w3.heap.size ≤ g ∧ g < w4.heap.size from by
      rcases hg with hg | hg
      · exact o8.ge hg
      · exact World.ownsRow.lt l8 g hg)
    have HM8 := Lib.hid hm8
    have HL8 := Lib.hid hl8
    have HAP8 := Lib.hid ap8
    have HML := Lib.hid (mlen_map hm8)
    replace ha8 := ha8.below ba
    have HA8 := Lib.hid ha8
    have hw4 : w3.heap.size ≤ w4.heap.size := b4.size
    replace h0 := h0.below b4
    replace hO := hO.below b4
    replace x6 := x6.below b4
    replace x7 := x7.below b4
    replace b0 := next b0 b4
    replace h0 := h0.below ba
    replace hO := hO.below ba
    replace x6 := x6.below ba
    replace x7 := x7.below ba
    replace b0 := next b0 ba
    clear b4 ba p0 p1 z0 hm8 hl8 ap8 o8 l8 ha8
    go_upto_region 10 with (fail)
    generalize hw5 : w4.alloc (.cells (bkA (some ⟨gA, 0, none⟩) rs8.length rs8.length (some ⟨gB, 0, none⟩) m.length m.length) 27) = w5 at h0 hO x6 x7 x8 b0 HA8 ⊢
    have HW5 : Hid (w4.heap.size < w5.heap.size) := Lib.hid (by rw [← hw5]; simp)
    clear hw5
    have hOd : Holds w5.drew (w.heap.size + 1) (enC en) := hO
    have h8d : Holds w5.drew w4.heap.size (bkA (some ⟨gA, 0, none⟩) rs8.length rs8.length (some ⟨gB, 0, none⟩) m.length m.length) := x8.box
    have ha8d : BkArg l m (bkV (some ⟨gA, 0, none⟩) rs8.length rs8.length (some ⟨gB, 0, none⟩) m.length m.length) w5.drew := HA8.out.below ((Below.refl w5.heap.size w5).drew)
    go_cut [9, 10] (fun s6 s7 wx => OrdBox w5 (M.obeyed (l.map Wr.wk, m) en) s6 s7 wx)
    case first =>
      refine wp_region_mix (OrdF10 (bkV (some ⟨gA, 0, none⟩) rs8.length rs8.length (some ⟨gB, 0, none⟩) m.length m.length) (enV en) w5.heap.size (M.obeyed (l.map Wr.wk, m) en)) (lkOrd 4) (relOrd 4) 9 [0, 1] [(2, []), (3, [4, 5, 6])] [7, 8] [(9, false), (10, false)] (by kernel_rfl) (by kernel_rfl) (fun _ _ _ _ _ h => h) (by kernel_rfl) (ordF10_st (bkV (some ⟨gA, 0, none⟩) rs8.length rs8.length (some ⟨gB, 0, none⟩) m.length m.length) (enV en) w5.heap.size (M.obeyed (l.map Wr.wk, m) en)) ?_ ?_
      · refine ⟨?_, ?_, ?_, ?_, ?_, ?_, ?_, ?_, ?_, trivial⟩
        · intro u e a x hdep hbase hb
          refine if_read rfl ?_
          have e2 : a.tmps[8]? = some (.pointer (some ⟨w4.heap.size, 0, none⟩)) := (hbase 8 (by decide +kernel)).trans rfl
          clear hdep hbase
          refine ⟨(bkV (some ⟨gA, 0, none⟩) rs8.length rs8.length (some ⟨gB, 0, none⟩) m.length m.length), fun y hS => ?_, rfl, (fun j hj => by simp [lkOrd] at hj)⟩
          obtain ⟨k0, k1⟩ := (h8d.below hS).two
          go_simp
          try with_reducible rfl
        · intro u e a x hdep hbase hb
          refine if_read rfl ?_
          have e2 : a.tmps[3]? = some (.pointer (some ⟨w.heap.size + 1, 0, none⟩)) := (hbase 3 (by decide +kernel)).trans rfl
          clear hdep hbase
          refine ⟨enV en, fun y hS => ?_, rfl, (fun j hj => by simp [lkOrd] at hj)⟩
          obtain ⟨k0, k1, k2, k3, k4, k5, k6, k7, k8, k9⟩ := (hOd.below hS).ten
          go_simp
          try with_reducible rfl
        · intro u e a x hdep hbase hb
          refine if_eff rfl ?_
          intro K hK
          obtain ⟨f2, v2⟩ := hdep 1 (by decide) (by decide +kernel)
          have e2 : a.tmps[38]? = some (enV en) := (v2 38 (by decide +kernel)).trans (congrArg some f2)
          clear hdep hbase v2
          go_simp
          go_at_call 45
          refine (enTo_any en _).mono ?_
          rintro r y ⟨rfl, b1⟩
          go_simp
          exact hK.out _ (fun _ => False) _ rfl (fun j hj => by simp [lkOrd] at hj) b1 (fun g hg => hg.elim)
        · intro u e a x hdep hbase hb
          refine if_eff rfl ?_
          intro K hK
          obtain ⟨f0, v0⟩ := hdep 0 (by decide) (by decide +kernel)
          obtain ⟨f2, v2⟩ := hdep 2 (by decide) (by decide +kernel)
          have e1 : a.tmps[37]? = some ((bkV (some ⟨gA, 0, none⟩) rs8.length rs8.length (some ⟨gB, 0, none⟩) m.length m.length)) := (v0 37 (by decide +kernel)).trans (congrArg some f0)
          have e3 : a.tmps[39]? = some (enV en) := (v2 39 (by decide +kernel)).trans (congrArg some f2)
          clear hdep hbase v0 v2
          go_simp
          go_at_call 31
          refine (implObeyed_at l m en (bkV (some ⟨gA, 0, none⟩) rs8.length rs8.length (some ⟨gB, 0, none⟩) m.length m.length) _ (ha8d.below hb) hl20 HP.out hm20 HMP.out hdn hdp).mono ?_
          rintro r y h
          obtain ⟨v, E, rfl, h5, b1, hE⟩ := h.res (B := w5.heap.size) hb.size
          go_simp
          exact hK.out _ E _ h5 (fun j hj => by simp [lkOrd] at hj) b1 hE
        · intro u e a x hdep hbase hb
          refine if_read rfl ?_
          obtain ⟨f4, v4⟩ := hdep 3 (by decide) (by decide +kernel)
          have e4 : a.tmps[40]? = some (u 3) := v4 40 (by decide +kernel)
          obtain ⟨_, _, _, _, _, hv, -⟩ := f4
          clear hdep hbase v4
          refine ⟨u 3, fun y hS => ?_, ⟨_, _, hv⟩, (fun j hj => by simp [lkOrd] at hj; subst hj; simp [relOrd])⟩
          clear hv
          go_simp
          try with_reducible rfl
        · intro u e a x hdep hbase hb
          refine if_read rfl ?_
          obtain ⟨⟨p, q, hv⟩, v5⟩ := hdep 4 (by decide) (by decide +kernel)
          have e5 : a.tmps[36]? = some (.tuple #[p, q]) := (v5 36 (by decide +kernel)).trans (congrArg some hv)
          clear hdep hbase v5
          refine ⟨p, fun y hS => ?_, trivial, (fun j hj => by simp [lkOrd] at hj; subst hj; simp only [relOrd]; exact ⟨p, q, hv, rfl⟩)⟩
          clear hv
          go_simp
          try with_reducible rfl
        · intro u e a x hdep hbase hb
          refine if_read rfl ?_
          obtain ⟨⟨p, q, hv⟩, v5⟩ := hdep 4 (by decide) (by decide +kernel)
          have e5 : a.tmps[36]? = some (.tuple #[p, q]) := (v5 36 (by decide +kernel)).trans (congrArg some hv)
          clear hdep hbase v5
          refine ⟨q, fun y hS => ?_, trivial, (fun j hj => by simp [lkOrd] at hj; subst hj; simp only [relOrd]; exact ⟨p, q, hv, rfl⟩)⟩
          clear hv
          go_simp
          try with_reducible rfl
        · intro u e a x hdep hbase hb
          refine if_eff rfl ?_
          intro K hK
          clear hdep hbase
          go_simp
          exact hK.out _ (fun k => k = x.heap.size) _ ⟨x.heap.size, rfl, holds_new _ _ _, loose_new _ _ _, fun k => Iff.rfl⟩ (fun j hj => by simp [lkOrd] at hj) ((Below.refl _ _).alloc (Nat.le_refl _) _) (fun g hg => by subst hg; simp)
        · intro u e a x hdep hbase hb
          refine if_eff rfl ?_
          intro K hK
          clear hdep hbase
          go_simp
          exact hK.out _ (fun k => k = x.heap.size) _ ⟨x.heap.size, rfl, holds_new _ _ _, loose_new _ _ _, fun k => Iff.rfl⟩ (fun j hj => by simp [lkOrd] at hj) ((Below.refl _ _).alloc (Nat.le_refl _) _) (fun g hg => by subst hg; simp)
      · intro u e y hF hrel hfoot hap hb
        obtain ⟨B1, d1, B2, d2, rs, hv4, o1, hmq, o2, hap2, hE⟩ := hF 3 (by decide)
        obtain ⟨G, hvG, hG, hGl, hEG⟩ := hF 7 (by decide)
        obtain ⟨H, hvH, hH, hHl, hEH⟩ := hF 8 (by decide)
        have r5 : u 4 = u 3 := hrel 4 3 (by decide) rfl
        obtain ⟨p6, q6, hp6, e6⟩ : ∃ a b, u 4 = .tuple #[a, b] ∧ u 5 = a := hrel 5 4 (by decide) rfl
        obtain ⟨p7, q7, hp7, e7⟩ : ∃ a b, u 4 = .tuple #[a, b] ∧ u 6 = b := hrel 6 4 (by decide) rfl
        rw [r5, hv4] at hp6 hp7
        obtain ⟨rfl, rfl⟩ : p6 = bkV B1 rs.length d1 B2 (M.obeyed (l.map Wr.wk, m) en).1.2.length d2 ∧ q6 = rpV (M.obeyed (l.map Wr.wk, m) en).2.1 (M.obeyed (l.map Wr.wk, m) en).2.2 := by simpa using hp6.symm
        obtain ⟨rfl, rfl⟩ : p7 = bkV B1 rs.length d1 B2 (M.obeyed (l.map Wr.wk, m) en).1.2.length d2 ∧ q7 = rpV (M.obeyed (l.map Wr.wk, m) en).2.1 (M.obeyed (l.map Wr.wk, m) en).2.2 := by simpa using hp7.symm
        have hg := (hfoot 7 G (by decide) ((hEG G).2 rfl)).1
        have hh := (hfoot 8 H (by decide) ((hEH H).2 rfl)).1
        have hGH : G ≠ H := fun e' => hap 7 8 G (by decide) (by decide) (by decide) ((hEG G).2 rfl) ((hEH G).2 e')
        have hGB : ¬ blocksB (.slice B1 rs.length d1) (.slice B2 (M.obeyed (l.map Wr.wk, m) en).1.2.length d2) rs G := fun h => hap 3 7 G (by decide) (by decide) (by decide) ((hE G).2 h) ((hEG G).2 rfl)
        have hHB : ¬ blocksB (.slice B1 rs.length d1) (.slice B2 (M.obeyed (l.map Wr.wk, m) en).1.2.length d2) rs H := fun h => hap 3 8 H (by decide) (by decide) (by decide) ((hE H).2 h) ((hEH H).2 rfl)
        have HBD := Lib.hid hb
        have HEND := Lib.hid (ordBox_of o1 hmq o2 hap2 hG hH hg hh hGH hGB hHB ((Below.refl w5.heap.size w5).drew.trans hb))
        simp only [fillAct, dstAt, show List.range 9 = [0, 1, 2, 3, 4, 5, 6, 7, 8] from rfl, List.foldl_cons, List.foldl_nil, List.getElem?_toArray, List.getElem?_cons_succ, List.getElem?_cons_zero, Option.bind_some, List.setIfInBounds_toArray, List.set_cons_zero, List.set_cons_succ]
        rw [hvG, hvH, e6, e7]
        clear hF hrel hfoot hap hE hEG hEH hp6 hp7 o1 o2 hap2 hmq hGB hHB
        obtain ⟨g0, g1⟩ := hG.two
        obtain ⟨t0, t1⟩ := hH.two
        have y0 := hGl 0
        have y1 := hGl 1
        have z0 := hHl 0
        have z1 := hHl 1
        have zg := hG.1
        have zh := hH.1
        have hHG : H ≠ G := fun e' => hGH e'.symm
        refine seq_call (by simp only [List.getElem?_toArray, List.getElem?_cons_succ, List.getElem?_cons_zero]; first | done | rfl) (by rfl) (fun K hK => ?_)
        go_simp
        refine hK.out _ _ (far_2 HBD.out hg _ _) ?_
        clear hK
        intro hTriv
        (try simp only [Act.put, List.setIfInBounds_toArray, List.set_cons_zero, List.set_cons_succ])
        refine seq_call (by simp only [List.getElem?_toArray, List.getElem?_cons_succ, List.getElem?_cons_zero]; first | done | rfl) (by rfl) (fun K hK => ?_)
        go_simp
        refine hK.out _ _ (far_2 (far_2 HBD.out hg _ _) hh _ _) ?_
        clear hK
        intro hTriv
        (try simp only [Act.put, List.setIfInBounds_toArray, List.set_cons_zero, List.set_cons_succ])
        refine seq_end ?_
        go_wp2
        go_meet
        exact HEND.out
    case rest =>
    obtain ⟨w6, rfl⟩ : ∃ w6, w6 = wc := ⟨_, rfl⟩
    obtain ⟨B9, d9, C9, f9, r9, G9, H10, rfl, rfl, hG9, hH10, hGH9, b5, x9, x10, m9, ap9, nG9, nH10⟩ := hcut
    have S9 := Lib.hid (obey_small m9)
    have M96 := Lib.hid (m9.trans m6.symm)
    have HB9 := Lib.hid (fun g (hg : blocksB (.slice B9 r9.length d9) (.slice C9 (M.obeyed (l.map Wr.wk, m) en).1.2.length f9) r9 g) => show w5.heap.size ≤ g ∧ g < w6.heap.size from x9.ge hg)
    have HAP9 := Lib.hid ap9
    have HNG9 := Lib.hid nG9
    replace h0 := h0.below b5
    replace hO := hO.below b5
    replace x6 := x6.below b5
    replace x7 := x7.below b5
    replace x8 := x8.below b5
    replace b0 := next b0 b5
    clear b5 hOd h8d ha8d hGH9 nG9 nH10 ap9 m9 HA8
    obtain ⟨k0, k1⟩ := x9.box.two
    have zk := x9.box.1
    obtain ⟨j0, j1⟩ := x6.box.two
    have zj := x6.box.1
    go_wp2_with fail
    refine (eqBook_same B9 B6 r9 r6 d9 d6 C9 C6 (M.obeyed (l.map Wr.wk, m) en).1.2 f9 f6 _ x9.sf.wks.1 x6.sf.wks.1 M96.out (by have := S9.out.1; unfold maxLen; omega) (S9.out.2.mono (by unfold maxLen; omega)) x9.las x6.las (by have := HL5.out; unfold maxLen; omega)).mono ?_
    rintro r wm9 ⟨rfl, b7⟩
    clear k0 k1 zk j0 j1 zj
    replace h0 := h0.below b7
    replace hO := hO.below b7
    replace x6 := x6.below b7
    replace x7 := x7.below b7
    replace x8 := x8.below b7
    replace x9 := x9.below b7
    replace x10 := x10.below b7
    replace b0 := next b0 b7
    obtain ⟨s0, s1⟩ := x10.two
    obtain ⟨t0, t1⟩ := x7.two
    have zs := x10.1
    have zt := x7.1
    clear b7
    go_wp2_with fail
    refine (eqReply_same (M.obeyed (l.map Wr.wk, m) en).2.1 (M.obeyed (l.map Wr.wk, m) en).2.2 _).mono ?_
    rintro r wn9 ⟨rfl, b8⟩
    clear s0 s1 t0 t1 zs zt
    replace h0 := h0.below b8
    replace hO := hO.below b8
    replace x6 := x6.below b8
    replace x7 := x7.below b8
    replace x8 := x8.below b8
    replace x9 := x9.below b8
    replace x10 := x10.below b8
    replace b0 := next b0 b8
    clear b8
    -- region 13
    obtain ⟨k0, k1⟩ := x8.box.two
    have zk := x8.box.1
    obtain ⟨p0, p1⟩ := h0.two
    have z0 := h0.1
    have hl1 := hl.below b0
    have hm1 := hm.below b0
    have X8 := Lib.hid x8
    go_upto_region 13 with (fail)
    obtain ⟨w7, rfl⟩ : ∃ w7, w7 = wn9 := ⟨_, rfl⟩
    refine wp_region_seq (fun w' => Below w7.heap.size w7 w') [(0, true), (1, true), (2, false), (3, false), (4, true)] (by kernel_rfl) (by kernel_rfl) (fun _ _ _ _ _ h => h) (by kernel_rfl) (by decide) (Below.refl _ _).drew ?_
    intro hHeld
    repeat (first
      | (refine seq_skip (by simp only [List.getElem?_toArray, List.getElem?_cons_succ, List.getElem?_cons_zero]; first | done | rfl) (by rfl) ?_; (try simp only [Act.put, List.setIfInBounds_toArray, List.set_cons_zero, List.set_cons_succ]))
      | (refine seq_reads (by simp only [List.getElem?_toArray, List.getElem?_cons_succ, List.getElem?_cons_zero]; first | done | rfl) (by rfl) ?_; apply Exists.intro; apply And.intro; (focus (intro w hSw; obtain ⟨hcS, -⟩ := bcell hSw; go_simp; (try with_reducible rfl); done)); (try simp only [Act.put, List.setIfInBounds_toArray, List.set_cons_zero, List.set_cons_succ]))
      | (refine seq_pass (by simp only [List.getElem?_toArray, List.getElem?_cons_succ, List.getElem?_cons_zero]; first | done | rfl) (by rfl) hHeld ?_; clear hHeld; intro hHeld; (try simp only [Act.put, List.setIfInBounds_toArray, List.set_cons_zero, List.set_cons_succ]))
      | (refine seq_call (by simp only [List.getElem?_toArray, List.getElem?_cons_succ, List.getElem?_cons_zero]; first | done | rfl) (by rfl) (fun K hK => ?_); go_simp; go_at_call 44; refine (toBook_at A l cap A2 m cb _ (hl1.below hHeld) hl20 HP.out (hm1.below hHeld) hm20).mono ?_; rintro r w1 ⟨rs3, gC, gD, rfl, hm3, hl3, -, o3, l3, -, b1⟩; have O3 := Lib.hid (show _ ∧ _ ∧ _ from ⟨o3.wks.1, las_of l3, hm3⟩); clear o3 l3 hm3 hl3; go_simp; refine hK.out _ _ (next hHeld b1) ?_; clear hK hHeld; intro hHeld; (try simp only [Act.put, List.setIfInBounds_toArray, List.set_cons_zero, List.set_cons_succ]))
      | (refine seq_call (by simp only [List.getElem?_toArray, List.getElem?_cons_succ, List.getElem?_cons_zero]; first | done | rfl) (by rfl) (fun K hK => ?_); go_simp; go_at_call 46; refine (eqBook_same (some ⟨gA, 0, none⟩) (some ⟨gC, 0, none⟩) rs8 rs3 rs8.length rs3.length (some ⟨gB, 0, none⟩) (some ⟨gD, 0, none⟩) m m.length m.length _ (X8.out.sf.below hHeld).wks.1 O3.out.1 (HM8.out.trans O3.out.2.2.symm) (by have := HL8.out; unfold maxLen; omega) ((wrs_eq HM8.out HP.out).mono (by unfold maxLen; omega)) (las_of (LasOwn.below X8.out.la hHeld)) O3.out.2.1 (by unfold maxLen; omega)).mono ?_; rintro r w1 ⟨rfl, b1⟩; go_simp; refine hK.out _ _ (next hHeld b1) ?_; clear hK hHeld; intro hHeld; (try simp only [Act.put, List.setIfInBounds_toArray, List.set_cons_zero, List.set_cons_succ])))
    refine seq_end ?_
    clear k0 k1 zk p0 p1 z0 hl1 hm1 X8
    replace h0 := h0.below hHeld
    replace hO := hO.below hHeld
    replace x6 := x6.below hHeld
    replace x7 := x7.below hHeld
    replace x8 := x8.below hHeld
    replace x9 := x9.below hHeld
    replace x10 := x10.below hHeld
    replace b0 := next b0 hHeld
    clear hHeld
    obtain ⟨k0, k1⟩ := x8.box.two
    have zk := x8.box.1
    have X8 := Lib.hid x8
    clear x8
    go_wp2_with fail
    refine (markBook_any (some ⟨gA, 0, none⟩) rs8 rs8.length (some ⟨gB, 0, none⟩) m m.length 1 w3.heap.size _ X8.out.sf X8.out.la HAP8.out (by have := HL8.out; omega) (by omega) (by have := HSZ.out; have := HML.out; omega)).mono ?_
    rintro r w8 ⟨rfl, -, -, ht⟩
    have hbl := HB8.out
    replace b0 := b0.trans (ht.low w.heap.size b0.size (fun g hg => Nat.le_trans HWX.out (hbl g hg).1))
    replace h0 := ht.holds h0 (fun hg => by have := (hbl _ hg).1; have := H02.out; omega)
    replace hO := ht.holds hO (fun hg => by have := (hbl _ hg).1; have := H02.out; omega)
    replace x6 := x6.touch ht (fun hg => by have := (hbl _ hg).1; have := HG6.out; omega) (fun g hg hg' => by have := (hbl _ hg').1; have := HB6.out g hg; omega)
    replace x7 := ht.holds x7 (fun hg => by have := (hbl _ hg).1; have := HH7.out; omega)
    replace x9 := x9.touch ht (fun hg => by have := (hbl _ hg).2; have := HW5.out; omega) (fun g hg hg' => by have := (hbl _ hg').2; have := (HB9.out g hg).1; have := HW5.out; omega)
    replace x10 := ht.holds x10 (fun hg => by have := (hbl _ hg).2; have := HW5.out; omega)
    clear ht hbl k0 k1 zk X8
    obtain ⟨kk, hkk⟩ : ∃ kk, 1 + mlen rs8 + 4 * m.length = kk := ⟨_, rfl⟩
    rw [hkk]
    have hneg : ¬ ((kk : Int) < 0) := by omega
    clear hkk
    obtain ⟨k0, k1⟩ := x9.box.two
    have zk := x9.box.1
    obtain ⟨j0, j1⟩ := x6.box.two
    have zj := x6.box.1
    go_wp2_with fail
    refine (eqBook_same B9 B6 r9 r6 d9 d6 C9 C6 (M.obeyed (l.map Wr.wk, m) en).1.2 f9 f6 _ x9.sf.wks.1 x6.sf.wks.1 M96.out (by have := S9.out.1; unfold maxLen; omega) (S9.out.2.mono (by unfold maxLen; omega)) x9.las x6.las (by have := HL5.out; unfold maxLen; omega)).mono ?_
    rintro r wm17 ⟨rfl, b7⟩
    clear k0 k1 zk j0 j1 zj
    replace h0 := h0.below b7
    replace hO := hO.below b7
    replace x6 := x6.below b7
    replace x7 := x7.below b7
    replace x9 := x9.below b7
    replace x10 := x10.below b7
    replace b0 := next b0 b7
    obtain ⟨s0, s1⟩ := x10.two
    obtain ⟨t0, t1⟩ := x7.two
    have zs := x10.1
    have zt := x7.1
    clear b7
    go_wp2_with fail
    refine (eqReply_same (M.obeyed (l.map Wr.wk, m) en).2.1 (M.obeyed (l.map Wr.wk, m) en).2.2 _).mono ?_
    rintro r wn17 ⟨rfl, b8⟩
    clear s0 s1 t0 t1 zs zt
    replace h0 := h0.below b8
    replace hO := hO.below b8
    replace x6 := x6.below b8
    replace x7 := x7.below b8
    replace x9 := x9.below b8
    replace x10 := x10.below b8
    replace b0 := next b0 b8
    clear b8
    clear hneg x10
    obtain ⟨k0, k1⟩ := x9.box.two
    have zk := x9.box.1
    have X9 := Lib.hid x9
    clear x9
    go_wp2_with fail
    refine (markBook_any B9 r9 d9 C9 (M.obeyed (l.map Wr.wk, m) en).1.2 f9 1 w5.heap.size _ X9.out.sf X9.out.la HAP9.out (by have := S9.out.1; omega) (by omega) (by have := mlen_small S9.out; have := HL5.out; omega)).mono ?_
    rintro r wf ⟨rfl, om, lm, ht⟩
    have hbl := HB9.out
    have x9 := ht.holds X9.out.box HNG9.out
    replace b0 := b0.trans (ht.low w.heap.size b0.size (fun g hg => by have := (hbl g hg).1; have := HWX.out; have := HW5.out; omega))
    replace h0 := ht.holds h0 (fun hg => by have := (hbl _ hg).1; have := H02.out; have := HW5.out; omega)
    replace hO := ht.holds hO (fun hg => by have := (hbl _ hg).1; have := H02.out; have := HW5.out; omega)
    replace x6 := x6.touch ht (fun hg => by have := (hbl _ hg).1; have := HG6.out; have := HW5.out; omega) (fun g hg hg' => by have := (hbl _ hg').1; have := HB6.out g hg; have := HW5.out; omega)
    replace x7 := ht.holds x7 (fun hg => by have := (hbl _ hg).1; have := HH7.out; have := HW5.out; omega)
    have OM := Lib.hid om
    have LM := Lib.hid lm
    clear ht hbl k0 k1 zk X9 om lm
    obtain ⟨qq, hqq⟩ : ∃ qq, 1 + mlen r9 + 4 * (M.obeyed (l.map Wr.wk, m) en).1.2.length = qq := ⟨_, rfl⟩
    rw [hqq]
    have HQ := Lib.hid hqq
    have hq1 : ¬ ((qq : Int) < 0) := by omega
    have hq2 : ((qq : Int) != (qq : Int)) = false := by simp
    clear hqq
    obtain ⟨k0, k1⟩ := x9.two
    have zk := x9.1
    go_wp2_with fail
    refine (heldBook_any B9 r9 d9 C9 (M.obeyed (l.map Wr.wk, m) en).1.2.length f9 1 _ OM.out.wks.1 (las_of LM.out) (by have := S9.out.1; omega) (by omega) (by have := mlen_small S9.out; have := HL5.out; omega)).mono ?_
    rintro r wg ⟨rfl, b11⟩
    rw [HQ.out]
    replace OM := Lib.hid (OM.out.below b11)
    replace LM := Lib.hid (LasOwn.below LM.out b11)
    clear k0 k1 zk
    replace h0 := h0.below b11
    replace hO := hO.below b11
    replace x6 := x6.below b11
    replace x7 := x7.below b11
    replace x9 := x9.below b11
    replace b0 := next b0 b11
    clear b11
    have h0d : Holds wg.drew w.heap.size (bkA A l.length cap A2 m.length cb) := h0
    have hOd : Holds wg.drew (w.heap.size + 1) (enC en) := hO
    have hl1d : Wks wg.drew A l := hl.below b0.drew
    have hm1d : Las wg.drew A2 m := hm.below b0.drew
    go_upto_region 27 with (fail)
    go_cut [14, 15] (fun s6 s7 wx => OrdBox wg (M.obeyed (l.map Wr.wk, m) en) s6 s7 wx)
    case first =>
      refine wp_region_mix (OrdF8 (bkV A l.length cap A2 m.length cb) (enV en) l m wg.heap.size (M.obeyed (l.map Wr.wk, m) en)) (lkOrd 5) (relOrd 5) 10 [0, 2] [(1, []), (3, []), (4, [5, 6, 7])] [8, 9] [(10, false), (11, false)] (by kernel_rfl) (by kernel_rfl) (fun _ _ _ _ _ h => h) (by kernel_rfl) (ordF8_st (bkV A l.length cap A2 m.length cb) (enV en) l m wg.heap.size (M.obeyed (l.map Wr.wk, m) en)) ?_ ?_
      · refine ⟨?_, ?_, ?_, ?_, ?_, ?_, ?_, ?_, ?_, ?_, trivial⟩
        · intro u e a x hdep hbase hb
          refine if_read rfl ?_
          have e2 : a.tmps[2]? = some (.pointer (some ⟨w.heap.size, 0, none⟩)) := (hbase 2 (by decide +kernel)).trans rfl
          clear hdep hbase
          refine ⟨(bkV A l.length cap A2 m.length cb), fun y hS => ?_, rfl, (fun j hj => by simp [lkOrd] at hj)⟩
          obtain ⟨k0, k1⟩ := (h0d.below hS).two
          go_simp
          try with_reducible rfl
        · intro u e a x hdep hbase hb
          refine if_eff rfl ?_
          intro K hK
          obtain ⟨f0, v0⟩ := hdep 0 (by decide) (by decide +kernel)
          have e2 : a.tmps[87]? = some ((bkV A l.length cap A2 m.length cb)) := (v0 87 (by decide +kernel)).trans (congrArg some f0)
          clear hdep hbase v0
          go_simp
          go_at_call 44
          refine (toBook_at A l cap A2 m cb _ (hl1d.below hb) hl20 HP.out (hm1d.below hb) hm20).mono ?_
          rintro r y ⟨rs, gA, gB, rfl, -, -, h4, -, -, -, b1⟩
          go_simp
          exact hK.out _ (fun _ => False) _ h4 (fun j hj => by simp [lkOrd] at hj) b1 (fun g hg => hg.elim)
        · intro u e a x hdep hbase hb
          refine if_read rfl ?_
          have e2 : a.tmps[3]? = some (.pointer (some ⟨w.heap.size + 1, 0, none⟩)) := (hbase 3 (by decide +kernel)).trans rfl
          clear hdep hbase
          refine ⟨enV en, fun y hS => ?_, rfl, (fun j hj => by simp [lkOrd] at hj)⟩
          obtain ⟨k0, k1, k2, k3, k4, k5, k6, k7, k8, k9⟩ := (hOd.below hS).ten
          go_simp
          try with_reducible rfl
        · intro u e a x hdep hbase hb
          refine if_eff rfl ?_
          intro K hK
          obtain ⟨f2, v2⟩ := hdep 2 (by decide) (by decide +kernel)
          have e2 : a.tmps[89]? = some (enV en) := (v2 89 (by decide +kernel)).trans (congrArg some f2)
          clear hdep hbase v2
          go_simp
          go_at_call 45
          refine (enTo_any en _).mono ?_
          rintro r y ⟨rfl, b1⟩
          go_simp
          exact hK.out _ (fun _ => False) _ rfl (fun j hj => by simp [lkOrd] at hj) b1 (fun g hg => hg.elim)
        · intro u e a x hdep hbase hb
          refine if_eff rfl ?_
          intro K hK
          obtain ⟨f1, v1⟩ := hdep 1 (by decide) (by decide +kernel)
          obtain ⟨f3, v3⟩ := hdep 3 (by decide) (by decide +kernel)
          have e1 : a.tmps[88]? = some (u 1) := v1 88 (by decide +kernel)
          have e3 : a.tmps[90]? = some (enV en) := (v3 90 (by decide +kernel)).trans (congrArg some f3)
          clear hdep hbase v1 v3
          go_simp
          go_at_call 31
          refine (implObeyed_at l m en (u 1) _ f1 hl20 HP.out hm20 HMP.out hdn hdp).mono ?_
          rintro r y h
          obtain ⟨v, E, rfl, h5, b1, hE⟩ := h.res (B := wg.heap.size) hb.size
          go_simp
          exact hK.out _ E _ h5 (fun j hj => by simp [lkOrd] at hj) b1 hE
        · intro u e a x hdep hbase hb
          refine if_read rfl ?_
          obtain ⟨f4, v4⟩ := hdep 4 (by decide) (by decide +kernel)
          have e4 : a.tmps[91]? = some (u 4) := v4 91 (by decide +kernel)
          obtain ⟨_, _, _, _, _, hv, -⟩ := f4
          clear hdep hbase v4
          refine ⟨u 4, fun y hS => ?_, ⟨_, _, hv⟩, (fun j hj => by simp [lkOrd] at hj; subst hj; simp [relOrd])⟩
          clear hv
          go_simp
          try with_reducible rfl
        · intro u e a x hdep hbase hb
          refine if_read rfl ?_
          obtain ⟨⟨p, q, hv⟩, v5⟩ := hdep 5 (by decide) (by decide +kernel)
          have e5 : a.tmps[86]? = some (.tuple #[p, q]) := (v5 86 (by decide +kernel)).trans (congrArg some hv)
          clear hdep hbase v5
          refine ⟨p, fun y hS => ?_, trivial, (fun j hj => by simp [lkOrd] at hj; subst hj; simp only [relOrd]; exact ⟨p, q, hv, rfl⟩)⟩
          clear hv
          go_simp
          try with_reducible rfl
        · intro u e a x hdep hbase hb
          refine if_read rfl ?_
          obtain ⟨⟨p, q, hv⟩, v5⟩ := hdep 5 (by decide) (by decide +kernel)
          have e5 : a.tmps[86]? = some (.tuple #[p, q]) := (v5 86 (by decide +kernel)).trans (congrArg some hv)
          clear hdep hbase v5
          refine ⟨q, fun y hS => ?_, trivial, (fun j hj => by simp [lkOrd] at hj; subst hj; simp only [relOrd]; exact ⟨p, q, hv, rfl⟩)⟩
          clear hv
          go_simp
          try with_reducible rfl
        · intro u e a x hdep hbase hb
          refine if_eff rfl ?_
          intro K hK
          clear hdep hbase
          go_simp
          exact hK.out _ (fun k => k = x.heap.size) _ ⟨x.heap.size, rfl, holds_new _ _ _, loose_new _ _ _, fun k => Iff.rfl⟩ (fun j hj => by simp [lkOrd] at hj) ((Below.refl _ _).alloc (Nat.le_refl _) _) (fun g hg => by subst hg; simp)
        · intro u e a x hdep hbase hb
          refine if_eff rfl ?_
          intro K hK
          clear hdep hbase
          go_simp
          exact hK.out _ (fun k => k = x.heap.size) _ ⟨x.heap.size, rfl, holds_new _ _ _, loose_new _ _ _, fun k => Iff.rfl⟩ (fun j hj => by simp [lkOrd] at hj) ((Below.refl _ _).alloc (Nat.le_refl _) _) (fun g hg => by subst hg; simp)
      · intro u e y hF hrel hfoot hap hb
        obtain ⟨B1, d1, B2, d2, rs, hv4, o1, hmq, o2, hap2, hE⟩ := hF 4 (by decide)
        obtain ⟨G, hvG, hG, hGl, hEG⟩ := hF 8 (by decide)
        obtain ⟨H, hvH, hH, hHl, hEH⟩ := hF 9 (by decide)
        have r5 : u 5 = u 4 := hrel 5 4 (by decide) rfl
        obtain ⟨p6, q6, hp6, e6⟩ : ∃ a b, u 5 = .tuple #[a, b] ∧ u 6 = a := hrel 6 5 (by decide) rfl
        obtain ⟨p7, q7, hp7, e7⟩ : ∃ a b, u 5 = .tuple #[a, b] ∧ u 7 = b := hrel 7 5 (by decide) rfl
        rw [r5, hv4] at hp6 hp7
        obtain ⟨rfl, rfl⟩ : p6 = bkV B1 rs.length d1 B2 (M.obeyed (l.map Wr.wk, m) en).1.2.length d2 ∧ q6 = rpV (M.obeyed (l.map Wr.wk, m) en).2.1 (M.obeyed (l.map Wr.wk, m) en).2.2 := by simpa using hp6.symm
        obtain ⟨rfl, rfl⟩ : p7 = bkV B1 rs.length d1 B2 (M.obeyed (l.map Wr.wk, m) en).1.2.length d2 ∧ q7 = rpV (M.obeyed (l.map Wr.wk, m) en).2.1 (M.obeyed (l.map Wr.wk, m) en).2.2 := by simpa using hp7.symm
        have hg := (hfoot 8 G (by decide) ((hEG G).2 rfl)).1
        have hh := (hfoot 9 H (by decide) ((hEH H).2 rfl)).1
        have hGH : G ≠ H := fun e' => hap 8 9 G (by decide) (by decide) (by decide) ((hEG G).2 rfl) ((hEH G).2 e')
        have hGB : ¬ blocksB (.slice B1 rs.length d1) (.slice B2 (M.obeyed (l.map Wr.wk, m) en).1.2.length d2) rs G := fun h => hap 4 8 G (by decide) (by decide) (by decide) ((hE G).2 h) ((hEG G).2 rfl)
        have hHB : ¬ blocksB (.slice B1 rs.length d1) (.slice B2 (M.obeyed (l.map Wr.wk, m) en).1.2.length d2) rs H := fun h => hap 4 9 H (by decide) (by decide) (by decide) ((hE H).2 h) ((hEH H).2 rfl)
        have HBD := Lib.hid hb
        have HEND := Lib.hid (ordBox_of o1 hmq o2 hap2 hG hH hg hh hGH hGB hHB ((Below.refl wg.heap.size wg).drew.trans hb))
        simp only [fillAct, dstAt, show List.range 10 = [0, 1, 2, 3, 4, 5, 6, 7, 8, 9] from rfl, List.foldl_cons, List.foldl_nil, List.getElem?_toArray, List.getElem?_cons_succ, List.getElem?_cons_zero, Option.bind_some, List.setIfInBounds_toArray, List.set_cons_zero, List.set_cons_succ]
        rw [hvG, hvH, e6, e7]
        clear hF hrel hfoot hap hE hEG hEH hp6 hp7 o1 o2 hap2 hmq hGB hHB
        obtain ⟨g0, g1⟩ := hG.two
        obtain ⟨t0, t1⟩ := hH.two
        have y0 := hGl 0
        have y1 := hGl 1
        have z0 := hHl 0
        have z1 := hHl 1
        have zg := hG.1
        have zh := hH.1
        have hHG : H ≠ G := fun e' => hGH e'.symm
        refine seq_call (by simp only [List.getElem?_toArray, List.getElem?_cons_succ, List.getElem?_cons_zero]; first | done | rfl) (by rfl) (fun K hK => ?_)
        go_simp
        refine hK.out _ _ (far_2 HBD.out hg _ _) ?_
        clear hK
        intro hTriv
        (try simp only [Act.put, List.setIfInBounds_toArray, List.set_cons_zero, List.set_cons_succ])
        refine seq_call (by simp only [List.getElem?_toArray, List.getElem?_cons_succ, List.getElem?_cons_zero]; first | done | rfl) (by rfl) (fun K hK => ?_)
        go_simp
        refine hK.out _ _ (far_2 (far_2 HBD.out hg _ _) hh _ _) ?_
        clear hK
        intro hTriv
        (try simp only [Act.put, List.setIfInBounds_toArray, List.set_cons_zero, List.set_cons_succ])
        refine seq_end ?_
        go_wp2
        go_meet
        exact HEND.out
    case rest =>
    obtain ⟨B4, d4, C4, f4, r4, G4, H5, rfl, rfl, -, -, -, b12, x14, x15, m4, -, -, -⟩ := hcut
    have S4 := Lib.hid (obey_small m4)
    have M46 := Lib.hid (m4.trans m6.symm)
    replace OM := Lib.hid (OM.out.below b12)
    replace LM := Lib.hid (LasOwn.below LM.out b12)
    replace x6 := x6.below b12
    replace x7 := x7.below b12
    replace x9 := x9.below b12
    replace b0 := next b0 b12
    clear b12 h0d hOd hl1d hm1d h0 hO m4
    obtain ⟨k0, k1⟩ := x14.box.two
    have zk := x14.box.1
    obtain ⟨j0, j1⟩ := x6.box.two
    have zj := x6.box.1
    go_wp2_with fail
    refine (eqBook_same B4 B6 r4 r6 d4 d6 C4 C6 (M.obeyed (l.map Wr.wk, m) en).1.2 f4 f6 _ x14.sf.wks.1 x6.sf.wks.1 M46.out (by have := S4.out.1; unfold maxLen; omega) (S4.out.2.mono (by unfold maxLen; omega)) x14.las x6.las (by have := HL5.out; unfold maxLen; omega)).mono ?_
    rintro r wm28 ⟨rfl, b7⟩
    clear k0 k1 zk j0 j1 zj
    replace x6 := x6.below b7
    replace x7 := x7.below b7
    replace x9 := x9.below b7
    replace x14 := x14.below b7
    replace x15 := x15.below b7
    replace b0 := next b0 b7
    replace OM := Lib.hid (OM.out.below b7)
    replace LM := Lib.hid (LasOwn.below LM.out b7)
    obtain ⟨s0, s1⟩ := x15.two
    obtain ⟨t0, t1⟩ := x7.two
    have zs := x15.1
    have zt := x7.1
    clear b7
    go_wp2_with fail
    refine (eqReply_same (M.obeyed (l.map Wr.wk, m) en).2.1 (M.obeyed (l.map Wr.wk, m) en).2.2 _).mono ?_
    rintro r wn28 ⟨rfl, b8⟩
    clear s0 s1 t0 t1 zs zt
    replace x6 := x6.below b8
    replace x7 := x7.below b8
    replace x9 := x9.below b8
    replace x14 := x14.below b8
    replace x15 := x15.below b8
    replace b0 := next b0 b8
    replace OM := Lib.hid (OM.out.below b8)
    replace LM := Lib.hid (LasOwn.below LM.out b8)
    clear b8
    obtain ⟨k0, k1⟩ := x9.two
    have zk := x9.1
    go_wp2_with fail
    refine (heldBook_any B9 r9 d9 C9 (M.obeyed (l.map Wr.wk, m) en).1.2.length f9 1 _ OM.out.wks.1 (las_of LM.out) (by have := S9.out.1; omega) (by omega) (by have := mlen_small S9.out; have := HL5.out; omega)).mono ?_
    rintro r wk ⟨rfl, b11⟩
    rw [HQ.out]
    replace b0 := next b0 b11
    clear k0 k1 zk
    go_wp2
    go_ret
    exact ⟨rfl, b0⟩

set_option maxRecDepth 100000 in
theorem lifted (os : Os) (started : os.Started) (H : Type) (enc : TypeId × Value → H) :
    ReturnsInHanded {} Tryz.checked os 7 .any (Rows.fnExactObeyedSpec.pre6 enc Tryz.prog Tryz.f7 Rows.fnExactObeyedRow.domain false) (Rows.fnExactObeyedSpec.post enc Tryz.prog Tryz.f7 false true false false) := by
  refine returnsInHanded_of_change (C := Tryz.checked) own started (by kernel_rfl) Tryz.func7
    (ChangeSpec.witness6 (enc := enc) (C := Tryz.checked) false ⟨#[], #[.agg #[.slice none 0 0, .slice none 0 0], .agg #[.int .i64 0, .int .i64 0, .int .i64 0, .int .i64 0, .string ByteArray.empty, .int .i64 0, .int .i64 0, .int .i64 0, .string ByteArray.empty, .int .i64 0]], []⟩ 8 (by kernel_rfl) (by kernel_rfl) (by kernel_rfl) (by kernel_rfl)) ?_
  intro W base args ds gs before hval0 hW hcnd _
  have hval : ∀ (j : Nat) t v, Tryz.f7.params[j]? = some t → args[j]? = some v → Value.okWide Tryz.prog W .any base t v := hval0
  have hW' := hW
  obtain ⟨p, q, hA0, -⟩ := hW
  have hA : DataW.TrodAll enc Tryz.prog W 0 (fun _ => true) true Tryz.f7.params.toList args.toList ds p := hA0
  rw [Tryz.params7] at hA hval
  obtain ⟨v0, vs0, d0, ds0, p0, q0, hargs, rfl, rfl, h0, r0⟩ := trodAll_cons hA
  obtain ⟨v1, vs1, d1, ds1, p1, q1, rfl, rfl, rfl, h1, r1⟩ := trodAll_cons r0
  obtain ⟨rfl, rfl, rfl⟩ := trodAll_nil r1
  obtain rfl : args = #[v0, v1] := by cases args; simp_all
  clear hA0 hval0
  have hv0 := hval 0 _ v0 rfl rfl
  have hv1 := hval 1 _ v1 rfl rfl
  obtain ⟨A, l, cap, A2, m, cb, rfl, hl, hlen, hp, hm, hml, hmp⟩ := open_bk Tryz.underlying86 (by kernel_rfl) (by kernel_rfl) (by kernel_rfl) rfl rfl ⟨Tryz.underlying83, Tryz.underlying191, (by kernel_rfl), (by kernel_rfl), (by kernel_rfl), Tryz.underlying9, Tryz.underlying2, rfl, Tryz.underlying189, Tryz.underlying254, (by kernel_rfl), (by kernel_rfl), (by kernel_rfl), Tryz.underlying87, Tryz.underlying9, Tryz.underlying4, (by kernel_rfl), (by kernel_rfl), Tryz.underlying2, Tryz.underlying2, Tryz.underlying2⟩ ⟨Tryz.underlying84, Tryz.underlying195, (by kernel_rfl), (by kernel_rfl), (by kernel_rfl), Tryz.underlying2, Tryz.underlying2, Tryz.underlying193, (by kernel_rfl), (by kernel_rfl), Tryz.underlying2, Tryz.underlying9⟩ hv0 h0
  obtain ⟨en, rfl, hn, hpg⟩ := open_en Tryz.underlying93 (by kernel_rfl) (by kernel_rfl) (by kernel_rfl) Tryz.underlying2 ⟨Tryz.underlying91, (by kernel_rfl), (by kernel_rfl), (by kernel_rfl), Tryz.underlying2, Tryz.underlying2, ⟨Tryz.underlying89, (by kernel_rfl), (by kernel_rfl), (by kernel_rfl), Tryz.underlying2, Tryz.underlying9, Tryz.underlying87, Tryz.underlying9, Tryz.underlying2, (by kernel_rfl), (by kernel_rfl), Tryz.underlying2, Tryz.underlying2, Tryz.underlying2⟩⟩ hv1 h1
  exact (walk A l cap A2 m cb en hlen hp hml hmp hn hpg W hl hm).mono fun r W' ⟨he, hb⟩ => ⟨_, he, law_post rfl rfl Tryz.underlying4 (by kernel_rfl) (n := 2)
    (fun ds' hd => by rcases ds' with _ | ⟨x0, _ | ⟨x1, _ | ⟨y, z⟩⟩⟩ <;> simp at hd <;> exact ⟨rfl, rfl, rfl⟩) rfl hW' hb⟩

theorem over : Rows.fnExactObeyedRow.holds Tryz.pinned (OpenSpec.ofChange Rows.fnExactObeyedSpec) :=
  OpenClaim.holds_of_wide 7 Tryz.f7 rfl rfl rfl rfl rfl rfl rfl ⟨rfl, rfl, rfl, rfl, rfl⟩ rfl rfl rfl rfl rfl (by kernel_rfl) Tryz.func7 (by kernel_rfl)
    (of_decide_eq_true (by kernel_rfl)) (by unfold Func.isWrapper; first | (rw [if_pos (by decide +kernel)]; kernel_rfl) | (rw [if_neg (by decide +kernel)]; exact ⟨rfl, rfl⟩))
    (fun os started H enc _ => lifted os started H enc)

theorem proved : Rows.FnExactObeyedSaid :=
  over
#print axioms proved
end Go.Proofs.YtblcgbgcccjpcaaGreat.fnExactObeyed
