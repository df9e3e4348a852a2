/- Proved, in parts: Proved: the model's AllOrdered answers the plain Lean function that the program's answers; nothing that was there is written. Condition: texts and lists of at most a million. Proved: the laws' helpers that write marks into a list of records of the type Order, and look whether they are there, do so and write nothing else. Condition: at most two million records. Proved: the laws' helpers that write marks into a list of records of the type Reply, and look whether they are there, do so and write nothing else. Condition: at most two million records. Proved: the contracts of AllOrdered at arguments that were copied; what many orders leave is small. Condition: texts and lists of at most a million. Proved: what the law on many orders asks of the plain function; no program is named here; no condition. -/
import Derived.Test.YtblcgbgcccjpcaaGreatPart44
import Derived.Test.YtblcgbgcccjpcaaGreatPart21
import Derived.Test.YtblcgbgcccjpcaaGreatPart45
namespace Go.Proofs.YtblcgbgcccjpcaaGreat
open Go.RowKit
set_option maxRecDepth 20000
theorem results_sAll (a b c : Value) (R : Nat) (W : World) (tmps : Array Value) (h4 : tmps.getD 4 undef = .pointer (some ⟨R, 0, none⟩)) (h5 : tmps.getD 5 undef = c) (hR : Holds W R #[a, b]) :
    (results Tryz.f27 tmps).run Tryz.prog W = .ok (.tuple #[.agg #[a, b], c]) W := by
  obtain ⟨q0, q1⟩ := hR.two
  simp at h4 h5
  simp [results, Tryz.results27, go_sem, h4, h5, q0, q1]
set_option maxHeartbeats 8000000 in
theorem specAllOrdered (A : Option Addr) (l : List Wr) (cap : Nat) (A2 : Option Addr) (m : List M.La) (cb : Nat) (AO : Option Addr) (os : List M.Or) (co : Nat) (w : World) (hl : Wks w A l) (hA : ∀ r ∈ l, r.ad = none → r.cap = 0) (hlen : l.length ≤ 1048576) (hp : WrsIn 1048576 l) (hm : Las w A2 m) (hN : A2 = none → cb = 0) (hml : m.length ≤ 1048576) (ho : Ors w AO os) (hol : os.length ≤ 1048576) (hop : ∀ o ∈ os, orIn 1048576 o) :
    Calls Tryz.prog 27 #[bkV A l.length cap A2 m.length cb, .slice AO os.length co] w (AllRet w (M.allOrdered (l.map Wr.wk, m) os)) := by
  have HL := Lib.hid hl
  have HP := Lib.hid hp
  have HC := Lib.hid (fun r (hr : r ∈ l) => (hp r hr).2.1)
  have HM := Lib.hid hm
  have HA := Lib.hid hA
  have HN := Lib.hid hN
  have HO := Lib.hid ho
  have HOP := Lib.hid hop
  clear hl hp hm ho hop hA hN
  have hM' := ((Mem.start w).new (bkA A l.length cap A2 m.length cb) 27).new (bkA none 0 0 none 0 0) 27
  have hM := hM'.alloc (.cells #[] 33)
  have hr0 := World.ownsRow_made (size := 2) (e := 33) ((w.alloc (.cells (bkA A l.length cap A2 m.length cb) 27)).alloc (.cells (bkA none 0 0 none 0 0) 27)) #[] 0 (base := w.heap.size + 1 + 1) (by simp) (Nat.zero_le _) rfl
  simp only [World.size_alloc] at hM hr0
  clear hM'
  rcases hok : M.bkOk (l.map Wr.wk) m with _ | _
  · have HE : Hid (M.allOrdered (l.map Wr.wk, m) os = (([], []), [])) := Lib.hid (by unfold M.allOrdered; simp [hok])
    have HOK := Lib.hid hok
    clear hok
    go_enter Tryz.func27, Tryz.ntmps27
    go_wp2_with fail
    refine (specBookOk A l cap A2 m cb _ (HL.out.below hM.1) hlen HP.out (HM.out.below hM.1) hml).mono ?_
    rintro e x1 ⟨rfl, b1⟩
    rw [HOK.out]
    have hM1 := hM.below b1
    have hr1 := Own.below hr0 b1
    clear hM b1 hr0
    have HM1 := Lib.hid hM1
    have HR1 := Lib.hid hr1
    clear hM1 hr1
    obtain ⟨q0, q1⟩ := (HM1.out.get (w.heap.size + 1) (bkA none 0 0 none 0 0) (by simp)).two
    have y0 := HM1.out.loose (w.heap.size + 1) (by simp) 0
    have y1 := HM1.out.loose (w.heap.size + 1) (by simp) 1
    go_wp2
    refine bodyPost_ret (results_sAll (.slice none 0 0) (.slice none 0 0) (.slice (some ⟨(w.heap.size + 1 + 1), 0, none⟩) 0 0) (w.heap.size + 1) _ _ rfl rfl ((HM1.out.get (w.heap.size + 1) (bkA none 0 0 none 0 0) (by simp)).wr2 _ _)) rfl ⟨.slice none 0 0, .slice none 0 0, .slice (some ⟨(w.heap.size + 1 + 1), 0, none⟩) 0 0, [], rfl, ⟨⟨rfl, .inl ⟨rfl, rfl⟩⟩, by simp, by simp, List.Pairwise.nil⟩, by rw [HE.out]; rfl, by rw [HE.out]; exact LasOwn.nil _ _, fun g e => (by cases e), by rw [HE.out]; exact World.ownsRow.mono (own_set (own_set HR1.out (by omega) 0 _) (by omega) 1 _) (by omega), fun g e hg => (by rcases hg with (hg | ⟨r, hr, hg⟩) | hg; cases hg; cases hr; cases hg), far_2 HM1.out.1 (by omega) _ _⟩
  rcases Nat.lt_or_ge 400 os.length with h4 | h4
  · have HE : Hid (M.allOrdered (l.map Wr.wk, m) os = (([], []), [])) := Lib.hid (by unfold M.allOrdered; rw [if_neg (by simp; omega)])
    have HOK := Lib.hid hok
    clear hok
    go_enter Tryz.func27, Tryz.ntmps27
    go_wp2_with fail
    refine (specBookOk A l cap A2 m cb _ (HL.out.below hM.1) hlen HP.out (HM.out.below hM.1) hml).mono ?_
    rintro e x1 ⟨rfl, b1⟩
    rw [HOK.out]
    have hM1 := hM.below b1
    have hr1 := Own.below hr0 b1
    clear hM b1 hr0
    have HM1 := Lib.hid hM1
    have HR1 := Lib.hid hr1
    clear hM1 hr1
    obtain ⟨q0, q1⟩ := (HM1.out.get (w.heap.size + 1) (bkA none 0 0 none 0 0) (by simp)).two
    have y0 := HM1.out.loose (w.heap.size + 1) (by simp) 0
    have y1 := HM1.out.loose (w.heap.size + 1) (by simp) 1
    go_wp2
    refine bodyPost_ret (results_sAll (.slice none 0 0) (.slice none 0 0) (.slice (some ⟨(w.heap.size + 1 + 1), 0, none⟩) 0 0) (w.heap.size + 1) _ _ rfl rfl ((HM1.out.get (w.heap.size + 1) (bkA none 0 0 none 0 0) (by simp)).wr2 _ _)) rfl ⟨.slice none 0 0, .slice none 0 0, .slice (some ⟨(w.heap.size + 1 + 1), 0, none⟩) 0 0, [], rfl, ⟨⟨rfl, .inl ⟨rfl, rfl⟩⟩, by simp, by simp, List.Pairwise.nil⟩, by rw [HE.out]; rfl, by rw [HE.out]; exact LasOwn.nil _ _, fun g e => (by cases e), by rw [HE.out]; exact World.ownsRow.mono (own_set (own_set HR1.out (by omega) 0 _) (by omega) 1 _) (by omega), fun g e hg => (by rcases hg with (hg | ⟨r, hr, hg⟩) | hg; cases hg; cases hr; cases hg), far_2 HM1.out.1 (by omega) _ _⟩
  have HE : Hid (M.allOrdered (l.map Wr.wk, m) os = M.ordTo (l.map Wr.wk, m) os) := Lib.hid (by unfold M.allOrdered; simp [hok, h4])
  have HKEEP := Lib.hid (fun j => M.ordTo_ok (b := (l.map Wr.wk, m)) hok os j)
  have HOK := Lib.hid hok
  clear hok
  obtain ⟨i0, hi, hz0, hz1, hz2⟩ := info_parts infoRps
  go_enter Tryz.func27, Tryz.ntmps27
  go_wp2_with fail
  refine (specBookOk A l cap A2 m cb _ (HL.out.below hM.1) hlen HP.out (HM.out.below hM.1) hml).mono ?_
  rintro e x1 ⟨rfl, b1⟩
  rw [HOK.out]
  have hM1 := hM.below b1
  have hr1 := Own.below hr0 b1
  clear hM b1 hr0
  obtain ⟨p0, p1⟩ := (hM1.get w.heap.size (bkA A l.length cap A2 m.length cb) (by simp)).two
  have hx1 : (w.heap.size + 1) < x1.heap.size := (hM1.get (w.heap.size + 1) (bkA none 0 0 none 0 0) (by simp)).1
  go_wp2_with fail
  refine (l6Copy_any A l cap A2 m cb _ (HL.out.below hM1.1) HA.out hlen HC.out (HM.out.below hM1.1) HN.out hml).mono ?_
  rintro e x2 ⟨v1, v2, rs0, rfl, hs, hmap, hla, hap, b2⟩
  obtain ⟨A5, c5, rfl, -, -⟩ := hs.open
  obtain ⟨A6, c6, rfl, -, -⟩ := LasOwn.open hla
  have hM2 := hM1.below b2
  have hr2 := Own.below hr1 b2
  have hrb := fun g (hg : (Value.slice (some ⟨(w.heap.size + 1 + 1), 0, none⟩) 0 0).ownBlock = some g) => (World.ownsRow.lt hr1 g hg).2
  clear hM1 hr1 p0 p1 b2
  obtain ⟨p0, p1⟩ := (hM2.get w.heap.size (bkA A l.length cap A2 m.length cb) (by simp)).two
  have y0 := hM2.loose w.heap.size (by simp) 0
  have y1 := hM2.loose w.heap.size (by simp) 1
  have zp := (hM2.get w.heap.size (bkA A l.length cap A2 m.length cb) (by simp)).1
  have HST0 : Hid (AllSp w (w.heap.size + 1 + 1) w.heap.size (w.heap.size + 1) (l.map Wr.wk, m) os 0 (.slice (some ⟨(w.heap.size + 1 + 1), 0, none⟩) 0 0) ((x2.setCell ⟨w.heap.size, 0, none⟩ (.slice A5 rs0.length c5)).setCell ⟨w.heap.size, 1, none⟩ (.slice A6 m.length c6))) := Lib.hid ⟨⟨A5, c5, A6, c6, rs0, ⟨(hM2.get w.heap.size (bkA A l.length cap A2 m.length cb) (by simp)).wr2 _ _, ((hs.set (by omega) 0 _).set (by omega) 1 _).mono (by omega), LasOwn.mono (own_set (own_set hla (by omega) 0 _) (by omega) 1 _) (by omega)⟩, hmap, hap, fun g hg hb => by
      have h1 := hrb g hg
      rcases hb with hb | hb
      · have := (hs.ge hb).1; omega
      · have := (World.ownsRow.lt hla g hb).1; omega⟩, own_set (own_set hr2 (by omega) 0 _) (by omega) 1 _, far_2 hM2.1 (Nat.le_refl _) _ _, ((hM2.get (w.heap.size + 1) (bkA none 0 0 none 0 0) (by simp)).otherM (by omega)).otherM (by omega), fun i => by rw [World.frozen?_setCell, World.frozen?_setCell]; exact hM2.loose (w.heap.size + 1) (by simp) i, fun i => by rw [World.frozen?_setCell, World.frozen?_setCell]; exact hM2.loose w.heap.size (by simp) i⟩
  clear hM2 hr2 hrb hs hmap hla hap
  go_wp2_with fail
  go_loopw [6, 7] (fun s6 s7 wr => ∃ (j : Nat) (A7 : Option Addr) (cr : Nat), s7 = .int .i64 j ∧ j ≤ os.length ∧ s6 = .slice A7 j cr ∧ AllSp w (w.heap.size + 1 + 1) w.heap.size (w.heap.size + 1) (l.map Wr.wk, m) os j (.slice A7 j cr) wr) (fun _ i _ => os.length - (intOf i).toNat)
  case atStart => exact ⟨0, _, _, rfl, Nat.zero_le _, rfl, HST0.out⟩
  case round =>
    obtain ⟨j, A7, cr, rfl, hj, rfl, hst⟩ := hrel
    have HS := Lib.hid hst
    clear hst HST0 p0 p1 y0 y1
    by_cases hlt : j < os.length
    · obtain ⟨ob, oo, rfl, zo, c0, c1, c2, c3, c4, c5, c6, c7, c8⟩ := Ors_at (HO.out.below HS.out.below) hlt
      obtain ⟨⟨hn1, hp1⟩, -⟩ : orIn 1048576 os[j] ∧ True := ⟨HOP.out os[j] (List.getElem_mem hlt), trivial⟩
      have HSUC := Lib.hid (M.ordTo_succ (l.map Wr.wk, m) os j hlt)
      have HLEN := Lib.hid (M.ordTo_len (l.map Wr.wk, m) os j (by omega))
      obtain ⟨A1, d1, A3, d2, rs, hbb, hmp, hap, hro⟩ := HS.out.book
      have hkp := HKEEP.out j
      simp only [M.bkOk, Bool.and_eq_true] at hkp
      have HSM : Hid (rs.length ≤ 5 ∧ WrsIn 12 rs) := Lib.hid (wrs_ok (by rw [hmp]; exact hkp.1))
      have HLL := Lib.hid (M.lasOk_len hkp.2)
      have HQ : Hid (M.ordered (rs.map Wr.wk, (M.ordTo (l.map Wr.wk, m) (os.take j)).1.2) os[j] = (M.ordI (M.ordTo (l.map Wr.wk, m) (os.take j)).1 os[j])) := Lib.hid (by
        have h := HKEEP.out j
        rw [hmp]
        unfold M.ordered
        rw [if_pos h])
      have HBB := Lib.hid hbb
      have HRO := Lib.hid hro
      have h0d : Holds wr.drew w.heap.size (bkA A1 rs.length d1 A3 (M.ordTo (l.map Wr.wk, m) (os.take j)).1.2.length d2) := hbb.box
      clear hbb hmp hap hro hkp
      go_upto_region 8 with (fail)
      go_cut [8, 9] (fun s8 s9 wx => OrdBox wr (M.ordI (M.ordTo (l.map Wr.wk, m) (os.take j)).1 os[j]) s8 s9 wx)
      case first =>
        refine wp_region_mix (OrdF13 (bkV A1 rs.length d1 A3 (M.ordTo (l.map Wr.wk, m) (os.take j)).1.2.length d2) (.slice (some ⟨ob, oo, none⟩) os.length co) (.int .i64 j) (.pointer (some ⟨ob, oo + j * 9, none⟩)) (orV os[j]) wr.heap.size (M.ordI (M.ordTo (l.map Wr.wk, m) (os.take j)).1 os[j])) (lkOrd 6) (relOrd 6) 11 [0, 1, 2, 3, 4] [(5, [6, 7, 8])] [9, 10] [(11, false), (12, false)] (by kernel_rfl) (by kernel_rfl) (fun _ _ _ _ _ h => h) (by kernel_rfl) (ordF13_st (bkV A1 rs.length d1 A3 (M.ordTo (l.map Wr.wk, m) (os.take j)).1.2.length d2) (.slice (some ⟨ob, oo, none⟩) os.length co) (.int .i64 j) (.pointer (some ⟨ob, oo + j * 9, none⟩)) (orV os[j]) wr.heap.size (M.ordI (M.ordTo (l.map Wr.wk, m) (os.take j)).1 os[j])) ?_ ?_
        · refine ⟨?_, ?_, ?_, ?_, ?_, ?_, ?_, ?_, ?_, ?_, ?_, trivial⟩
          · intro u e a x hdep hbase hb
            refine if_read rfl ?_
            have e2 : a.tmps[2]? = some (.pointer (some ⟨w.heap.size, 0, none⟩)) := (hbase 2 (by decide +kernel)).trans rfl
            clear hdep hbase
            refine ⟨(bkV A1 rs.length d1 A3 (M.ordTo (l.map Wr.wk, m) (os.take j)).1.2.length d2), fun y hS => ?_, rfl, (fun j hj => by simp [lkOrd] at hj)⟩
            obtain ⟨k0, k1⟩ := (h0d.below hS).two
            go_simp
            try with_reducible rfl
          · intro u e a x hdep hbase hb
            refine if_read rfl ?_
            have e2 : a.tmps[1]? = some (.slice (some ⟨ob, oo, none⟩) os.length co) := (hbase 1 (by decide +kernel)).trans rfl
            clear hdep hbase
            refine ⟨.slice (some ⟨ob, oo, none⟩) os.length co, fun y hS => ?_, rfl, (fun j hj => by simp [lkOrd] at hj)⟩
            go_simp
            try with_reducible rfl
          · intro u e a x hdep hbase hb
            refine if_read rfl ?_
            have e2 : a.tmps[7]? = some (.int .i64 j) := (hbase 7 (by decide +kernel)).trans rfl
            clear hdep hbase
            refine ⟨.int .i64 j, fun y hS => ?_, rfl, (fun j hj => by simp [lkOrd] at hj)⟩
            go_simp
            try with_reducible rfl
          · intro u e a x hdep hbase hb
            refine if_read rfl ?_
            obtain ⟨f1, v1⟩ := hdep 1 (by decide) (by decide +kernel)
            obtain ⟨f2, v2⟩ := hdep 2 (by decide) (by decide +kernel)
            have e1 : a.tmps[31]? = some (.slice (some ⟨ob, oo, none⟩) os.length co) := (v1 31 (by decide +kernel)).trans (congrArg some f1)
            have e2 : a.tmps[32]? = some (.int .i64 j) := (v2 32 (by decide +kernel)).trans (congrArg some f2)
            clear hdep hbase v1 v2
            refine ⟨.pointer (some ⟨ob, oo + j * 9, none⟩), fun y hS => ?_, rfl, (fun j hj => by simp [lkOrd] at hj)⟩
            go_simp
            try with_reducible rfl
          · intro u e a x hdep hbase hb
            refine if_read rfl ?_
            obtain ⟨f3, v3⟩ := hdep 3 (by decide) (by decide +kernel)
            have e3 : a.tmps[33]? = some (.pointer (some ⟨ob, oo + j * 9, none⟩)) := (v3 33 (by decide +kernel)).trans (congrArg some f3)
            clear hdep hbase v3
            refine ⟨orV os[j], fun y hS => ?_, rfl, (fun j hj => by simp [lkOrd] at hj)⟩
            have hS2 : Below wr.heap.size wr.drew y := hS
            have q0 := (hS2.cell (p := ⟨ob, oo + j * 9, none⟩) zo).trans c0
            have q1 := (hS2.cell (p := ⟨ob, oo + j * 9 + 1, none⟩) zo).trans c1
            have q2 := (hS2.cell (p := ⟨ob, oo + j * 9 + 2, none⟩) zo).trans c2
            have q3 := (hS2.cell (p := ⟨ob, oo + j * 9 + 3, none⟩) zo).trans c3
            have q4 := (hS2.cell (p := ⟨ob, oo + j * 9 + 4, none⟩) zo).trans c4
            have q5 := (hS2.cell (p := ⟨ob, oo + j * 9 + 5, none⟩) zo).trans c5
            have q6 := (hS2.cell (p := ⟨ob, oo + j * 9 + 6, none⟩) zo).trans c6
            have q7 := (hS2.cell (p := ⟨ob, oo + j * 9 + 7, none⟩) zo).trans c7
            have q8 := (hS2.cell (p := ⟨ob, oo + j * 9 + 8, none⟩) zo).trans c8
            go_simp
            try with_reducible rfl
          · intro u e a x hdep hbase hb
            refine if_eff rfl ?_
            intro K hK
            obtain ⟨f0, v0⟩ := hdep 0 (by decide) (by decide +kernel)
            obtain ⟨f4, v4⟩ := hdep 4 (by decide) (by decide +kernel)
            have e1 : a.tmps[30]? = some (bkV A1 rs.length d1 A3 (M.ordTo (l.map Wr.wk, m) (os.take j)).1.2.length d2) := (v0 30 (by decide +kernel)).trans (congrArg some f0)
            have e3 : a.tmps[34]? = some (orV os[j]) := (v4 34 (by decide +kernel)).trans (congrArg some f4)
            clear hdep hbase v0 v4
            go_simp
            go_at_call 20
            have hcall := specOrdered A1 rs d1 A3 (M.ordTo (l.map Wr.wk, m) (os.take j)).1.2 d2 os[j] x (HBB.out.sf.below (show Below wr.heap.size wr x from (Below.refl wr.heap.size wr).drew.trans hb)).wks.1 (fun r hr h => (HBB.out.sf.2.1 r hr).nilc h) (by have := HSM.out.1; omega) (HSM.out.2.mono (by omega)) (las_of (LasOwn.below HBB.out.la (show Below wr.heap.size wr x from (Below.refl wr.heap.size wr).drew.trans hb))) (row_nilc HBB.out.la) (by have := HLL.out; omega) hn1 hp1
            rw [HQ.out] at hcall
            refine hcall.mono ?_
            clear hcall
            rintro r y h
            obtain ⟨v, E, rfl, h5, b1, hE⟩ := h.res (B := wr.heap.size) hb.size
            go_simp
            exact hK.out _ E _ h5 (fun j hj => by simp [lkOrd] at hj) b1 hE
          · intro u e a x hdep hbase hb
            refine if_read rfl ?_
            obtain ⟨f4, v4⟩ := hdep 5 (by decide) (by decide +kernel)
            have e4 : a.tmps[35]? = some (u 5) := v4 35 (by decide +kernel)
            obtain ⟨_, _, _, _, _, hv, -⟩ := f4
            clear hdep hbase v4
            refine ⟨u 5, fun y hS => ?_, ⟨_, _, hv⟩, (fun j hj => by simp [lkOrd] at hj; subst hj; simp [relOrd])⟩
            clear hv
            go_simp
            try with_reducible rfl
          · intro u e a x hdep hbase hb
            refine if_read rfl ?_
            obtain ⟨⟨p, q, hv⟩, v5⟩ := hdep 6 (by decide) (by decide +kernel)
            have e5 : a.tmps[29]? = some (.tuple #[p, q]) := (v5 29 (by decide +kernel)).trans (congrArg some hv)
            clear hdep hbase v5
            refine ⟨p, fun y hS => ?_, trivial, (fun j hj => by simp [lkOrd] at hj; subst hj; simp only [relOrd]; exact ⟨p, q, hv, rfl⟩)⟩
            clear hv
            go_simp
            try with_reducible rfl
          · intro u e a x hdep hbase hb
            refine if_read rfl ?_
            obtain ⟨⟨p, q, hv⟩, v5⟩ := hdep 6 (by decide) (by decide +kernel)
            have e5 : a.tmps[29]? = some (.tuple #[p, q]) := (v5 29 (by decide +kernel)).trans (congrArg some hv)
            clear hdep hbase v5
            refine ⟨q, fun y hS => ?_, trivial, (fun j hj => by simp [lkOrd] at hj; subst hj; simp only [relOrd]; exact ⟨p, q, hv, rfl⟩)⟩
            clear hv
            go_simp
            try with_reducible rfl
          · intro u e a x hdep hbase hb
            refine if_eff rfl ?_
            intro K hK
            clear hdep hbase
            go_simp
            exact hK.out _ (fun k => k = x.heap.size) _ ⟨x.heap.size, rfl, holds_new _ _ _, loose_new _ _ _, fun k => Iff.rfl⟩ (fun j hj => by simp [lkOrd] at hj) ((Below.refl _ _).alloc (Nat.le_refl _) _) (fun g hg => by subst hg; simp)
          · intro u e a x hdep hbase hb
            refine if_eff rfl ?_
            intro K hK
            clear hdep hbase
            go_simp
            exact hK.out _ (fun k => k = x.heap.size) _ ⟨x.heap.size, rfl, holds_new _ _ _, loose_new _ _ _, fun k => Iff.rfl⟩ (fun j hj => by simp [lkOrd] at hj) ((Below.refl _ _).alloc (Nat.le_refl _) _) (fun g hg => by subst hg; simp)
        · intro u e y hF hrel hfoot hap hb
          obtain ⟨B1, d1, B2, d2, rs, hv4, o1, hmq, o2, hap2, hE⟩ := hF 5 (by decide)
          obtain ⟨G, hvG, hG, hGl, hEG⟩ := hF 9 (by decide)
          obtain ⟨H, hvH, hH, hHl, hEH⟩ := hF 10 (by decide)
          have r5 : u 6 = u 5 := hrel 6 5 (by decide) rfl
          obtain ⟨p6, q6, hp6, e6⟩ : ∃ a b, u 6 = .tuple #[a, b] ∧ u 7 = a := hrel 7 6 (by decide) rfl
          obtain ⟨p7, q7, hp7, e7⟩ : ∃ a b, u 6 = .tuple #[a, b] ∧ u 8 = b := hrel 8 6 (by decide) rfl
          rw [r5, hv4] at hp6 hp7
          obtain ⟨rfl, rfl⟩ : p6 = bkV B1 rs.length d1 B2 (M.ordI (M.ordTo (l.map Wr.wk, m) (os.take j)).1 os[j]).1.2.length d2 ∧ q6 = rpV (M.ordI (M.ordTo (l.map Wr.wk, m) (os.take j)).1 os[j]).2.1 (M.ordI (M.ordTo (l.map Wr.wk, m) (os.take j)).1 os[j]).2.2 := by simpa using hp6.symm
          obtain ⟨rfl, rfl⟩ : p7 = bkV B1 rs.length d1 B2 (M.ordI (M.ordTo (l.map Wr.wk, m) (os.take j)).1 os[j]).1.2.length d2 ∧ q7 = rpV (M.ordI (M.ordTo (l.map Wr.wk, m) (os.take j)).1 os[j]).2.1 (M.ordI (M.ordTo (l.map Wr.wk, m) (os.take j)).1 os[j]).2.2 := by simpa using hp7.symm
          have hg := (hfoot 9 G (by decide) ((hEG G).2 rfl)).1
          have hh := (hfoot 10 H (by decide) ((hEH H).2 rfl)).1
          have hGH : G ≠ H := fun e' => hap 9 10 G (by decide) (by decide) (by decide) ((hEG G).2 rfl) ((hEH G).2 e')
          have hGB : ¬ blocksB (.slice B1 rs.length d1) (.slice B2 (M.ordI (M.ordTo (l.map Wr.wk, m) (os.take j)).1 os[j]).1.2.length d2) rs G := fun h => hap 5 9 G (by decide) (by decide) (by decide) ((hE G).2 h) ((hEG G).2 rfl)
          have hHB : ¬ blocksB (.slice B1 rs.length d1) (.slice B2 (M.ordI (M.ordTo (l.map Wr.wk, m) (os.take j)).1 os[j]).1.2.length d2) rs H := fun h => hap 5 10 H (by decide) (by decide) (by decide) ((hE H).2 h) ((hEH H).2 rfl)
          have HBD := Lib.hid hb
          have HEND := Lib.hid (ordBox_of o1 hmq o2 hap2 hG hH hg hh hGH hGB hHB ((Below.refl wr.heap.size wr).drew.trans hb))
          simp only [fillAct, dstAt, show List.range 11 = [0, 1, 2, 3, 4, 5, 6, 7, 8, 9, 10] from rfl, List.foldl_cons, List.foldl_nil, List.getElem?_toArray, List.getElem?_cons_succ, List.getElem?_cons_zero, Option.bind_some, List.setIfInBounds_toArray, List.set_cons_zero, List.set_cons_succ]
          rw [hvG, hvH, e6, e7]
          clear hF hrel hfoot hap hE hEG hEH hp6 hp7 o1 o2 hap2 hmq hGB hHB
          obtain ⟨g0, g1⟩ := hG.two
          obtain ⟨t0, t1⟩ := hH.two
          have y0 := hGl 0
          have y1 := hGl 1
          have z0 := hHl 0
          have z1 := hHl 1
          have zg := hG.1
          have zh := hH.1
          have hHG : H ≠ G := fun e' => hGH e'.symm
          refine seq_call (by simp only [List.getElem?_toArray, List.getElem?_cons_succ, List.getElem?_cons_zero]; first | done | rfl) (by rfl) (fun K hK => ?_)
          go_simp
          refine hK.out _ _ (far_2 HBD.out hg _ _) ?_
          clear hK
          intro hTriv
          (try simp only [Act.put, List.setIfInBounds_toArray, List.set_cons_zero, List.set_cons_succ])
          refine seq_call (by simp only [List.getElem?_toArray, List.getElem?_cons_succ, List.getElem?_cons_zero]; first | done | rfl) (by rfl) (fun K hK => ?_)
          go_simp
          refine hK.out _ _ (far_2 (far_2 HBD.out hg _ _) hh _ _) ?_
          clear hK
          intro hTriv
          (try simp only [Act.put, List.setIfInBounds_toArray, List.set_cons_zero, List.set_cons_succ])
          refine seq_end ?_
          go_wp2
          go_meet
          exact HEND.out
      case rest =>
      obtain ⟨B1, e1, B2, e2, r1, G, H, rfl, rfl, hG, hH, hGH, b3, x1', x2', m1, ap1, nG, nH⟩ := hcut
      clear c0 c1 c2 c3 c4 c5 c6 c7 c8 h0d
      obtain ⟨k0, k1⟩ := x1'.box.two
      have zk := x1'.box.1
      have hold := HBB.out.box.below b3
      obtain ⟨p0, p1⟩ := hold.two
      have hlo := HS.out.loose0.below HBB.out.box.1 b3
      have y0 := hlo 0
      have y1 := hlo 1
      have zp := hold.1
      have hszw : w.heap.size + 1 + 1 ≤ wr.heap.size := by have := HS.out.box.1; omega
      have HBB2 : Hid (BB (w.heap.size + 1 + 1) ((wc.setCell ⟨w.heap.size, 0, none⟩ (.slice B1 r1.length e1)).setCell ⟨w.heap.size, 1, none⟩ (.slice B2 (M.ordI (M.ordTo (l.map Wr.wk, m) (os.take j)).1 os[j]).1.2.length e2)) w.heap.size B1 e1 B2 e2 r1 (M.ordI (M.ordTo (l.map Wr.wk, m) (os.take j)).1 os[j]).1.2) := Lib.hid ⟨hold.wr2 _ _, ((x1'.sf.set (by omega) 0 _).set (by omega) 1 _).mono hszw, LasOwn.mono (own_set (own_set x1'.la (by omega) 0 _) (by omega) 1 _) hszw⟩
      have HX2 : Hid (Holds ((wc.setCell ⟨w.heap.size, 0, none⟩ (.slice B1 r1.length e1)).setCell ⟨w.heap.size, 1, none⟩ (.slice B2 (M.ordI (M.ordTo (l.map Wr.wk, m) (os.take j)).1 os[j]).1.2.length e2)) H (rpA (M.ordI (M.ordTo (l.map Wr.wk, m) (os.take j)).1 os[j]).2.1 (M.ordI (M.ordTo (l.map Wr.wk, m) (os.take j)).1 os[j]).2.2)) := Lib.hid ((x2'.otherM (by omega)).otherM (by omega))
      have HRP : Hid (World.ownsRow ((wc.setCell ⟨w.heap.size, 0, none⟩ (.slice B1 r1.length e1)).setCell ⟨w.heap.size, 1, none⟩ (.slice B2 (M.ordI (M.ordTo (l.map Wr.wk, m) (os.take j)).1 os[j]).1.2.length e2)) (w.heap.size + 1 + 1) 33 2 (.slice A7 j cr) j (cellsOf rpL (M.ordTo (l.map Wr.wk, m) (os.take j)).2)) := Lib.hid (by
        have h := HS.out.reps
        unfold RpsOwn at h
        rw [HLEN.out] at h
        exact own_set (own_set (Own.below h b3) (by omega) 0 _) (by omega) 1 _)
      have HBW : Hid (Below w.heap.size w ((wc.setCell ⟨w.heap.size, 0, none⟩ (.slice B1 r1.length e1)).setCell ⟨w.heap.size, 1, none⟩ (.slice B2 (M.ordI (M.ordTo (l.map Wr.wk, m) (os.take j)).1 os[j]).1.2.length e2))) := Lib.hid (far_2 (HS.out.below.trans (b3.mono HS.out.below.size)) (Nat.le_refl _) _ _)
      have HBX : Hid (Holds ((wc.setCell ⟨w.heap.size, 0, none⟩ (.slice B1 r1.length e1)).setCell ⟨w.heap.size, 1, none⟩ (.slice B2 (M.ordI (M.ordTo (l.map Wr.wk, m) (os.take j)).1 os[j]).1.2.length e2)) (w.heap.size + 1) (bkA none 0 0 none 0 0) ∧ Loose ((wc.setCell ⟨w.heap.size, 0, none⟩ (.slice B1 r1.length e1)).setCell ⟨w.heap.size, 1, none⟩ (.slice B2 (M.ordI (M.ordTo (l.map Wr.wk, m) (os.take j)).1 os[j]).1.2.length e2)) (w.heap.size + 1) ∧ Loose ((wc.setCell ⟨w.heap.size, 0, none⟩ (.slice B1 r1.length e1)).setCell ⟨w.heap.size, 1, none⟩ (.slice B2 (M.ordI (M.ordTo (l.map Wr.wk, m) (os.take j)).1 os[j]).1.2.length e2)) w.heap.size) := Lib.hid ⟨((HS.out.box.below b3).otherM (by omega)).otherM (by omega), fun i => by rw [World.frozen?_setCell, World.frozen?_setCell]; exact (HS.out.loose.below HS.out.box.1 b3) i, fun i => by rw [World.frozen?_setCell, World.frozen?_setCell]; exact hlo i⟩
      have HB1 := Lib.hid (fun g (hg : blocksB (.slice B1 r1.length e1) (.slice B2 (M.ordI (M.ordTo (l.map Wr.wk, m) (os.take j)).1 os[j]).1.2.length e2) r1 g) => show wr.heap.size ≤ g ∧ g < wc.heap.size from x1'.ge hg)
      have HRB := Lib.hid (fun g (hg : (Value.slice A7 j cr).ownBlock = some g) => show w.heap.size + 1 + 1 ≤ g ∧ g < wr.heap.size from World.ownsRow.lt HS.out.reps g hg)
      have HZC : Hid (((wc.setCell ⟨w.heap.size, 0, none⟩ (.slice B1 r1.length e1)).setCell ⟨w.heap.size, 1, none⟩ (.slice B2 (M.ordI (M.ordTo (l.map Wr.wk, m) (os.take j)).1 os[j]).1.2.length e2)).heap.size = wc.heap.size) := Lib.hid (by simp)
      have HAP1 := Lib.hid ap1
      have HM1 := Lib.hid m1
      have hGw := hG
      go_upto_region 10 with (fail)
      clear k0 k1 zk p0 p1 y0 y1 zp hold hlo x1' x2' b3 m1 ap1 nG nH
      generalize World.setCell _ _ _ = y1 at HBB2 HX2 HRP HBW HBX HZC ⊢
      obtain ⟨t0, t1⟩ := HX2.out.two
      have zt := HX2.out.1
      go_wp2_with (at_builtin; refine wpList_append_flat_at (k := 2) (enc := rpL) (l := [(((M.ordI (M.ordTo (l.map Wr.wk, m) (os.take j)).1 os[j]).2.1, (M.ordI (M.ordTo (l.map Wr.wk, m) (os.take j)).1 os[j]).2.2) : M.Rp)]) rfl _ _ 64 rfl (w.heap.size + 1 + 1) 33 i0 _ 24 Tryz.underlying64 hi hz0 hz1 hz2 rfl (by decide) _ j _ rfl (World.ownsRow.alloc HRP.out _) (some ⟨y1.heap.size, 0, none⟩) 1 rfl (fun h => by cases h) (one_flatRp y1 (M.ordI (M.ordTo (l.map Wr.wk, m) (os.take j)).1 os[j]).2.1 (M.ordI (M.ordTo (l.map Wr.wk, m) (os.take j)).1 os[j]).2.2 _) rpL_len (rp_one _) (by simp only [List.length_singleton]; unfold maxLen; omega) (by simp only [List.length_singleton]; omega) (by have := HZC.out; have := HBW.out.size; simp only [World.size_alloc]; omega) ?_; intro v9 w9 own9 grow9 at9)
      obtain ⟨A9, c9, rfl⟩ := row_form own9
      have HW9 := Lib.hid (show _ ∧ _ ∧ _ from ⟨own9, grow9, at9⟩)
      clear own9 grow9 at9
      go_roundw
      case rel =>
        have bq := (Below.refl y1.heap.size y1).alloc (Nat.le_refl _) (.cells (rpA (M.ordI (M.ordTo (l.map Wr.wk, m) (os.take j)).1 os[j]).2.1 (M.ordI (M.ordTo (l.map Wr.wk, m) (os.take j)).1 os[j]).2.2) 33)
        obtain ⟨own9, grow9, at9⟩ := HW9.out
        have hzc := HZC.out
        have hne : ∀ g, (Value.slice A7 j cr).ownBlock = some g → ¬ blocksB (.slice B1 r1.length e1) (.slice B2 (M.ordI (M.ordTo (l.map Wr.wk, m) (os.take j)).1 os[j]).1.2.length e2) r1 g := fun g hg hb => by
          have := (HB1.out g hb).1
          have := (HRB.out g hg).2
          omega
        have hbb := HBB2.out.below bq
        refine ⟨j + 1, A9, c9, by go_num, by omega, rfl, ⟨⟨B1, e1, B2, e2, r1, ?_, ?_, ?_, ?_⟩, ?_, (HBW.out.trans (bq.mono HBW.out.size)).grown grow9 (Nat.le_trans HBW.out.size bq.size) (fun k hk => by have := (HRB.out k hk).1; omega), grown_holds (HBX.out.1.below bq) grow9 (fun e => by have := (HRB.out _ e.symm).1; omega), grown_loose (HBX.out.2.1.below HBX.out.1.1 bq) (HBX.out.1.below bq).1 grow9 (fun e => by have := (HRB.out _ e.symm).1; omega), grown_loose (HBX.out.2.2.below HBB2.out.box.1 bq) hbb.box.1 grow9 (fun e => by have := (HRB.out _ e.symm).1; omega)⟩⟩
        · rw [HSUC.out]
          exact ⟨grown_holds hbb.box grow9 (fun e => by have := (HRB.out _ e.symm).1; omega), hbb.sf.kept grow9 (fun g hg hb => hne g hg (.inl hb)), World.ownsRow.kept hbb.la grow9 (own_two (fun z hz e => hne z e (.inr hz)))⟩
        · rw [HSUC.out]; exact HM1.out
        · rw [HSUC.out]; exact HAP1.out
        · rw [HSUC.out]
          intro g hg hb
          rcases at9 with e | e
          · exact hne g (e ▸ hg) hb
          · have e' : g = (y1.alloc (.cells (rpA (M.ordI (M.ordTo (l.map Wr.wk, m) (os.take j)).1 os[j]).2.1 (M.ordI (M.ordTo (l.map Wr.wk, m) (os.take j)).1 os[j]).2.2) 33)).heap.size := Option.some.inj (hg.symm.trans e)
            simp only [World.size_alloc] at e'
            have := (HB1.out g hb).2
            omega
        · rw [HSUC.out]
          unfold RpsOwn
          rw [List.length_append, HLEN.out, cellsOf_append]
          exact own9
      case measure => simp [intOf]; omega
    · have hj' : j = os.length := by omega
      subst hj'
      obtain ⟨A1, d1, A3, d2, rs, hbb, hmp, hap, hro⟩ := HS.out.book
      have hreps := HS.out.reps
      rw [List.take_length] at hbb hmp hap hro hreps
      obtain ⟨k0, k1⟩ := hbb.box.two
      have zk := hbb.box.1
      obtain ⟨q0, q1⟩ := HS.out.box.two
      have y0 := HS.out.loose 0
      have y1 := HS.out.loose 1
      have zq := HS.out.box.1
      have HBB := Lib.hid hbb
      have HH := Lib.hid (show _ ∧ _ ∧ _ from ⟨hmp, hap, hro⟩)
      have HREP := Lib.hid hreps
      clear hbb hmp hap hro hreps
      go_wp2
      refine bodyPost_ret (results_sAll (.slice A1 rs.length d1) (.slice A3 (M.ordTo (l.map Wr.wk, m) os).1.2.length d2) (.slice A7 os.length cr) (w.heap.size + 1) _ _ rfl rfl (HS.out.box.wr2 _ _)) rfl ⟨.slice A1 rs.length d1, .slice A3 (M.ordTo (l.map Wr.wk, m) os).1.2.length d2, .slice A7 os.length cr, rs, rfl, ((HBB.out.sf.set (by omega) 0 _).set (by omega) 1 _).mono (by omega), by rw [HE.out]; exact HH.out.1, by rw [HE.out]; exact LasOwn.mono (own_set (own_set HBB.out.la (by omega) 0 _) (by omega) 1 _) (by omega), HH.out.2.1, by rw [HE.out]; exact World.ownsRow.mono (own_set (own_set HREP.out (by omega) 0 _) (by omega) 1 _) (by omega), HH.out.2.2, far_2 HS.out.below (by omega) _ _⟩
end Go.Proofs.YtblcgbgcccjpcaaGreat
namespace Go.Proofs.YtblcgbgcccjpcaaGreat
open Go.RowKit
set_option maxRecDepth 20000
end Go.Proofs.YtblcgbgcccjpcaaGreat
namespace Go.Proofs.YtblcgbgcccjpcaaGreat
open Go.RowKit
set_option maxRecDepth 20000
end Go.Proofs.YtblcgbgcccjpcaaGreat
namespace Go.Proofs.YtblcgbgcccjpcaaGreat
open Go.RowKit
set_option maxRecDepth 20000
theorem rps_of {w : World} {B m c : Nat} {A : Option Addr} {l : List M.Rp} (h : RpsOwn B w (.slice A m c) l) : Rps w A l := by
  obtain ⟨A', c', hv, _, hf⟩ := own_flat rpL_len h
  have hA : A = A' := by injection hv
  rw [hA]; exact hf
namespace M
theorem all_ok (b : Bk) (l : List Or) : sfOk (allOrdered b l).1.1 = true ∧ (allOrdered b l).1.2.length ≤ 5 ∧ (allOrdered b l).2.length ≤ 400 := by
  unfold allOrdered
  split
  · rename_i h
    simp only [Bool.and_eq_true, decide_eq_true_eq] at h
    have h1 := ordTo_ok (b := b) h.1 l l.length
    have h2 := ordTo_len b l l.length (Nat.le_refl _)
    rw [List.take_length] at h1 h2
    simp only [bkOk, Bool.and_eq_true] at h1
    have := lasOk_len h1.2
    exact ⟨h1.1, by omega, by omega⟩
  · exact ⟨rfl, by show ([] : List La).length ≤ 5; simp, by show ([] : List Rp).length ≤ 400; simp⟩
end M
theorem all_small {b : M.Bk} {o : List M.Or} {r : List Wr} (h : r.map Wr.wk = (M.allOrdered b o).1.1) : r.length ≤ 5 ∧ WrsIn 12 r := wrs_ok (h ▸ (M.all_ok b o).1)
/-- AllRet, its values opened. -/
theorem AllRet.open {w y : World} {q : M.Bk × List M.Rp} {r : Ending} (h : AllRet w q r y) : ∃ A1 c1 A2 c2 A3 c3 rs, r = .returned (.tuple #[bkV A1 rs.length c1 A2 q.1.2.length c2, .slice A3 q.2.length c3]) ∧ SfOwn w.heap.size y (.slice A1 rs.length c1) rs ∧ rs.map Wr.wk = q.1.1 ∧ LasOwn w.heap.size y (.slice A2 q.1.2.length c2) q.1.2 ∧ (∀ g, (Value.slice A2 q.1.2.length c2).ownBlock = some g → ¬ blocksS (.slice A1 rs.length c1) rs g) ∧ RpsOwn w.heap.size y (.slice A3 q.2.length c3) q.2 ∧ (∀ g, (Value.slice A3 q.2.length c3).ownBlock = some g → ¬ blocksB (.slice A1 rs.length c1) (.slice A2 q.1.2.length c2) rs g) ∧ Below w.heap.size w y := by
  obtain ⟨v1, v2, v3, rs, e, h1, h2, h3, h4, h5, h6, h7⟩ := h
  obtain ⟨A1, c1, rfl, -, -⟩ := h1.open
  obtain ⟨A2, c2, rfl, -, -⟩ := LasOwn.open h3
  obtain ⟨A3, c3, rfl⟩ := row_form h5
  exact ⟨A1, c1, A2, c2, A3, c3, rs, e, h1, h2, h3, h4, h5, h6, h7⟩
end Go.Proofs.YtblcgbgcccjpcaaGreat
namespace Go.Proofs.YtblcgbgcccjpcaaGreat
open Go.RowKit
set_option maxRecDepth 20000
namespace M
theorem ordTo_rep (b : Bk) (l : List Or) (j : Nat) (hj : j < l.length) : (ordTo b l).2[j]? = some (ordI (ordTo b (l.take j)).1 l[j]).2 := by
  have key : ∀ n, j < n → n ≤ l.length → (ordTo b (l.take n)).2[j]? = some (ordI (ordTo b (l.take j)).1 l[j]).2 := by
    intro n
    induction n with
    | zero => intro h; omega
    | succ n ih =>
      intro h1 h2
      rw [ordTo_succ b l n (by omega)]
      have hlen := ordTo_len b l n (by omega)
      by_cases e : j = n
      · subst e
        rw [List.getElem?_append_right (by omega), hlen]
        simp
      · rw [List.getElem?_append_left (by omega)]
        exact ih (by omega) (by omega)
  have := key l.length hj (Nat.le_refl _)
  rwa [List.take_length] at this
theorem all_bad {b : Bk} {l : List Or} (h : bkOk b.1 b.2 = false ∨ 400 < l.length) : (allOrdered b l).2 = [] := by
  unfold allOrdered
  split
  · rename_i h2
    simp only [Bool.and_eq_true, decide_eq_true_eq] at h2
    rcases h with h | h
    · rw [h] at h2; cases h2.1
    · omega
  · rfl
theorem all_is {b : Bk} {l : List Or} (hb : bkOk b.1 b.2 = true) (hl : l.length ≤ 400) : allOrdered b l = ordTo b l := by
  unfold allOrdered
  rw [if_pos (by simp [hb, hl])]
theorem all_len {b : Bk} {l : List Or} (hb : bkOk b.1 b.2 = true) (hl : l.length ≤ 400) : (allOrdered b l).2.length = l.length := by
  rw [all_is hb hl]
  have := ordTo_len b l l.length (Nat.le_refl _)
  rwa [List.take_length] at this
theorem all_twice {b : Bk} {l : List Or} (hb : bkOk b.1 b.2 = true) (hl : l.length ≤ 400) : bkOk (allOrdered b l).1.1 (allOrdered b l).1.2 = true ∧ (allOrdered (allOrdered b l).1 l).1 = (allOrdered b l).1 := by
  rw [all_is hb hl]
  have h2 := ordTo_ok hb l l.length
  rw [List.take_length] at h2
  rw [all_is h2 hl]
  exact ⟨h2, twice hb l⟩
theorem ordTo_in {rs : List Wr} {ls : List La} (n : Nat) (hn : 12 ≤ n) (hb : bkOk (rs.map Wr.wk) ls = true) (hl : ∀ x ∈ ls, laIn n x) (l : List Or) : ∀ j, j ≤ l.length → ∀ x ∈ (ordTo (rs.map Wr.wk, ls) (l.take j)).1.2, laIn n x := by
  intro j
  induction j with
  | zero => intro _; exact hl
  | succ j ih =>
    intro hj
    rw [ordTo_succ _ l j (by omega)]
    have h1 := ih (by omega)
    have h2 := ordTo_ok (b := (rs.map Wr.wk, ls)) hb l j
    obtain ⟨ts, hts⟩ : ∃ ts : List Wr, ts.map Wr.wk = (ordTo (rs.map Wr.wk, ls) (l.take j)).1.1 := ⟨(ordTo (rs.map Wr.wk, ls) (l.take j)).1.1.map fun w => ⟨w.name, w.owner, none, 0, w.copies⟩, by rw [List.map_map]; exact List.map_id'' (fun _ => rfl) _⟩
    simp only [bkOk, Bool.and_eq_true] at h2
    have h3 := (wrs_ok (hts ▸ h2.1)).2.mono hn
    have h4 := ordI_in (o := l[j]) h3 h1
    rw [hts] at h4
    exact h4
theorem all_in {rs : List Wr} {ls : List La} {l : List Or} (hl : ∀ x ∈ ls, laIn 64 x) : ∀ x ∈ (allOrdered (rs.map Wr.wk, ls) l).1.2, laIn 64 x := by
  unfold allOrdered
  split
  · rename_i h
    simp only [Bool.and_eq_true, decide_eq_true_eq] at h
    have := ordTo_in 64 (by omega) h.1 hl l l.length (Nat.le_refl _)
    rwa [List.take_length] at this
  · simp
end M
/-- A book of one's own. -/
def BkO (B : Nat) (x : World) (A1 : Option Addr) (c1 : Nat) (rs : List Wr) (A2 : Option Addr) (c2 : Nat) (ls : List M.La) : Prop := SfOwn B x (.slice A1 rs.length c1) rs ∧ LasOwn B x (.slice A2 ls.length c2) ls
theorem BkO.below {B c1 c2 : Nat} {x y : World} {A1 A2 : Option Addr} {rs : List Wr} {ls : List M.La} (h : BkO B x A1 c1 rs A2 c2 ls) (hb : Below x.heap.size x y) : BkO B y A1 c1 rs A2 c2 ls := ⟨h.1.below hb, LasOwn.below h.2 hb⟩
theorem BkO.alloc {B c1 c2 : Nat} {x : World} {A1 A2 : Option Addr} {rs : List Wr} {ls : List M.La} (h : BkO B x A1 c1 rs A2 c2 ls) (o : Obj) : BkO B (x.alloc o) A1 c1 rs A2 c2 ls := h.below ((Below.refl _ _).alloc (Nat.le_refl _) o)
theorem BkO.read {B c1 c2 : Nat} {x : World} {A1 A2 : Option Addr} {rs : List Wr} {ls : List M.La} (h : BkO B x A1 c1 rs A2 c2 ls) : BkR x A1 rs A2 ls := ⟨h.1.wks.1, las_of h.2⟩
theorem BkO.nils {B c1 c2 : Nat} {x : World} {A1 A2 : Option Addr} {rs : List Wr} {ls : List M.La} (h : BkO B x A1 c1 rs A2 c2 ls) : (∀ r ∈ rs, r.ad = none → r.cap = 0) ∧ (A2 = none → c2 = 0) := ⟨fun r hr k => (h.1.2.1 r hr).nilc k, row_nilc h.2⟩
end Go.Proofs.YtblcgbgcccjpcaaGreat
