/- Proved, in parts: Proved: the program's ObeyedAll answers a plain Lean function, its book in new memory; nothing that was there is written. Condition: texts and lists of at most a million. Proved: the model's Obeyed answers the plain Lean function that the program's answers, its book in new memory; nothing that was there is written. Condition: texts and lists of at most a million. -/
import Derived.Test.YtblcgbgcccjpcaaGreatPart45
import Derived.Test.YtblcgbgcccjpcaaGreatPart30
import Derived.Test.YtblcgbgcccjpcaaGreatPart43
namespace Go.Proofs.YtblcgbgcccjpcaaGreat
open Go.RowKit
set_option maxRecDepth 20000
theorem results_iOa (a b : Value) (R : Nat) (W : World) (tmps : Array Value) (h4 : tmps.getD 4 undef = .pointer (some ⟨R, 0, none⟩)) (hR : Holds W R #[a, b]) :
    (results Tryz.f33 tmps).run Tryz.prog W = .ok (.agg #[a, b]) W := by
  obtain ⟨q0, q1⟩ := hR.two
  simp at h4
  simp [results, Tryz.results33, go_sem, h4, q0, q1]
set_option maxHeartbeats 8000000 in
theorem implObeyedAll (A : Option Addr) (l : List Wr) (cap : Nat) (A2 : Option Addr) (m : List M.La) (cb : Nat) (AO : Option Addr) (es : List M.En) (co : Nat) (w : World) (hl : Wks w A l) (hlen : l.length ≤ 1048576) (hp : WrsIn 1048576 l) (hm : Las w A2 m) (hml : m.length ≤ 1048576) (hmp : ∀ c ∈ m, laIn 1048576 c) (ho : Ens w AO es) (hol : es.length ≤ 1048576) (hop : ∀ e ∈ es, enIn 1048576 e) :
    Calls Tryz.prog 33 #[bkV A l.length cap A2 m.length cb, .slice AO es.length co] w (BkRet w (M.obeyedAll (l.map Wr.wk, m) es)) := by
  have HL := Lib.hid hl
  have HP := Lib.hid hp
  have HM := Lib.hid hm
  have HMP := Lib.hid hmp
  have HO := Lib.hid ho
  have HOP := Lib.hid hop
  clear hl hp hm hmp ho hop
  have hM := ((Mem.start w).new (bkA A l.length cap A2 m.length cb) 27).new (bkA none 0 0 none 0 0) 27
  simp only [World.size_alloc] at hM
  rcases hok : M.bkOk (l.map Wr.wk) m with _ | _
  · have HE : Hid (M.obeyedAll (l.map Wr.wk, m) es = ([], [])) := Lib.hid (by unfold M.obeyedAll; simp [hok])
    have HOK := Lib.hid hok
    clear hok
    go_enter Tryz.func33, Tryz.ntmps33
    go_wp2_with fail
    refine (implBookOk A l cap A2 m cb _ (HL.out.below hM.1) hlen HP.out (HM.out.below hM.1) hml).mono ?_
    rintro e x1 ⟨rfl, b1⟩
    rw [HOK.out]
    have hM1 := hM.below b1
    clear hM b1
    have HM1 := Lib.hid hM1
    clear hM1
    obtain ⟨q0, q1⟩ := (HM1.out.get (w.heap.size + 1) (bkA none 0 0 none 0 0) (by simp)).two
    have y0 := HM1.out.loose (w.heap.size + 1) (by simp) 0
    have y1 := HM1.out.loose (w.heap.size + 1) (by simp) 1
    go_wp2
    refine bodyPost_ret (results_iOa (.slice none 0 0) (.slice none 0 0) (w.heap.size + 1) _ _ rfl ((HM1.out.get (w.heap.size + 1) (bkA none 0 0 none 0 0) (by simp)).wr2 _ _)) rfl ⟨.slice none 0 0, .slice none 0 0, [], rfl, ⟨⟨rfl, .inl ⟨rfl, rfl⟩⟩, by simp, by simp, List.Pairwise.nil⟩, by rw [HE.out]; rfl, by rw [HE.out]; exact LasOwn.nil _ _, fun g e => (by cases e), far_2 HM1.out.1 (by omega) _ _⟩
  rcases Nat.lt_or_ge 400 es.length with h4 | h4
  · have HE : Hid (M.obeyedAll (l.map Wr.wk, m) es = ([], [])) := Lib.hid (by unfold M.obeyedAll; rw [if_neg (by simp; omega)])
    have HOK := Lib.hid hok
    clear hok
    go_enter Tryz.func33, Tryz.ntmps33
    go_wp2_with fail
    refine (implBookOk A l cap A2 m cb _ (HL.out.below hM.1) hlen HP.out (HM.out.below hM.1) hml).mono ?_
    rintro e x1 ⟨rfl, b1⟩
    rw [HOK.out]
    have hM1 := hM.below b1
    clear hM b1
    have HM1 := Lib.hid hM1
    clear hM1
    obtain ⟨q0, q1⟩ := (HM1.out.get (w.heap.size + 1) (bkA none 0 0 none 0 0) (by simp)).two
    have y0 := HM1.out.loose (w.heap.size + 1) (by simp) 0
    have y1 := HM1.out.loose (w.heap.size + 1) (by simp) 1
    go_wp2
    refine bodyPost_ret (results_iOa (.slice none 0 0) (.slice none 0 0) (w.heap.size + 1) _ _ rfl ((HM1.out.get (w.heap.size + 1) (bkA none 0 0 none 0 0) (by simp)).wr2 _ _)) rfl ⟨.slice none 0 0, .slice none 0 0, [], rfl, ⟨⟨rfl, .inl ⟨rfl, rfl⟩⟩, by simp, by simp, List.Pairwise.nil⟩, by rw [HE.out]; rfl, by rw [HE.out]; exact LasOwn.nil _ _, fun g e => (by cases e), far_2 HM1.out.1 (by omega) _ _⟩
  have HE : Hid (M.obeyedAll (l.map Wr.wk, m) es = M.obeyTo (l.map Wr.wk, m) es) := Lib.hid (by unfold M.obeyedAll; simp [hok, h4])
  have HKEEP := Lib.hid (fun j => M.obeyTo_ok (b := (l.map Wr.wk, m)) hok (es.take j))
  have HOKL : Hid (M.sfOk (l.map Wr.wk) = true) := Lib.hid (by simp only [M.bkOk, Bool.and_eq_true] at hok; exact hok.1)
  have HOK := Lib.hid hok
  clear hok
  go_enter Tryz.func33, Tryz.ntmps33
  go_wp2_with fail
  refine (implBookOk A l cap A2 m cb _ (HL.out.below hM.1) hlen HP.out (HM.out.below hM.1) hml).mono ?_
  rintro e x1 ⟨rfl, b1⟩
  rw [HOK.out]
  have hM1 := hM.below b1
  clear hM b1
  obtain ⟨p0, p1⟩ := (hM1.get w.heap.size (bkA A l.length cap A2 m.length cb) (by simp)).two
  have hx1 : (w.heap.size + 1) < x1.heap.size := (hM1.get (w.heap.size + 1) (bkA none 0 0 none 0 0) (by simp)).1
  go_wp2_with fail
  refine (bookOf_any A l cap A2 m cb _ (HL.out.below hM1.1) (sfOk_rise HOKL.out).1 hlen HP.out (HM.out.below hM1.1) hml HMP.out).mono ?_
  rintro e x2 ⟨b, rs, v, rfl, hb1, hrs, hmap, hown, hb2, hlas, hblk, b2⟩
  obtain ⟨A3, c3, rfl, -, -⟩ := LasOwn.open hlas
  have hM2 := hM1.below b2
  have hM3 := hM2.alloc (.cells #[.map (some b), .slice A3 m.length c3] 126)
  have bA := (Below.refl x2.heap.size x2).alloc (Nat.le_refl _) (.cells #[.map (some b), .slice A3 m.length c3] 126)
  have hst : BkSt (x2.alloc (.cells #[.map (some b), .slice A3 m.length c3] 126)) x1.heap.size (b + 1) b rs x2.heap.size (.slice A3 m.length c3) m :=
    ⟨(hmap.tight).kept (grown_lw bA none) (by simp), hown.below bA, by rw [hrs]; exact HOKL.out, Nat.lt_succ_self _, by simp; omega, holds_new _ _ _, loose_new _ _ _, LasOwn.below hlas bA, HMP.out, by omega, fun r hr e => by have := ((hown.1 r hr).lt _ e).2; omega, fun e => by have := (hblk _ e).1; omega, fun e => by have := (World.ownsRow.lt hlas _ e).2; omega, fun r hr k e e' => by have := (hblk _ e').2 r hr k e; omega, by omega, by omega⟩
  have HST0 : Hid (EnSt w x1.heap.size (w.heap.size + 1) (l.map Wr.wk, m) es x2.heap.size b 0 (x2.alloc (.cells #[.map (some b), .slice A3 m.length c3] 126))) := Lib.hid ⟨⟨rs, _, hrs, hst⟩, hM3.1, hM3.get (w.heap.size + 1) (bkA none 0 0 none 0 0) (by simp), hM3.loose (w.heap.size + 1) (by simp)⟩
  have HWB : Hid (x1.heap.size ≤ b) := Lib.hid hb1
  have HWG : Hid (x1.heap.size ≤ x2.heap.size) := Lib.hid b2.size
  clear hM1 hM2 hM3 hmap hown hlas hblk b2 bA hst hrs p0 p1 hb1 hb2
  go_wp2_with fail
  go_loopw [21] (fun s21 wr => ∃ j : Nat, s21 = .int .i64 j ∧ j ≤ es.length ∧ EnSt w x1.heap.size (w.heap.size + 1) (l.map Wr.wk, m) es x2.heap.size b j wr) (fun i _ => es.length - (intOf i).toNat)
  case atStart => exact ⟨0, rfl, Nat.zero_le _, HST0.out⟩
  case round =>
    obtain ⟨j, rfl, hj, hst⟩ := hrel
    have HS := Lib.hid hst
    clear hst HST0
    by_cases hlt : j < es.length
    · obtain ⟨ob, oo, rfl, zo, c0, c1, c2, c3, c4, c5, c6, c7, c8, c9⟩ := Ens_at (HO.out.below HS.out.below) hlt
      obtain ⟨⟨hn1, hp1⟩, -⟩ : enIn 1048576 es[j] ∧ True := ⟨HOP.out es[j] (List.getElem_mem hlt), trivial⟩
      have HSUC := Lib.hid (M.obeyTo_succ (l.map Wr.wk, m) es j hlt)
      obtain ⟨rs2, v2, hmp, hbk⟩ := HS.out.book
      have ba := (Below.refl wr.heap.size wr).alloc (Nat.le_refl _) (.cells (enC es[j]) 70)
      have HBK := Lib.hid (hbk.below ba)
      have HMP2 := Lib.hid hmp
      have HBA := Lib.hid ba
      have hls : (M.obeyTo (l.map Wr.wk, m) (es.take j)).2.length ≤ 1048575 := by
        have h := HKEEP.out j
        simp only [M.bkOk, Bool.and_eq_true] at h
        have := M.lasOk_len h.2
        omega
      clear hmp hbk ba
      go_wp2_with fail
      have hcall := obeyed_any x1.heap.size (b + 1) b rs2 x2.heap.size v2 (M.obeyTo (l.map Wr.wk, m) (es.take j)).2 es[j] _ HBK.out hls hn1 hp1
      rw [HMP2.out] at hcall
      refine hcall.mono ?_
      rintro e y1 ⟨rfl, ht, rs3, v3, hmp3, hst3, hfr⟩
      have HT := Lib.hid ht
      have HST3 := Lib.hid hst3
      have HMP3 := Lib.hid hmp3
      have HSB : Hid (∀ g, bkS b x2.heap.size v2 g → x1.heap.size ≤ g) := Lib.hid (fun g hg => by
        rcases hg with rfl | rfl | hg
        · exact HWB.out
        · exact HWG.out
        · exact (World.ownsRow.lt HBK.out.las g hg).1)
      have HB1 : Hid (Below w.heap.size w y1) := Lib.hid ((HS.out.below.trans (HBA.out.mono HS.out.below.size)).trans (HT.out.low w.heap.size (Nat.le_trans HS.out.below.size HBA.out.size) (fun g hg => by have := HSB.out g hg; omega)))
      have hb1 : Holds y1 (w.heap.size + 1) (bkA none 0 0 none 0 0) := HT.out.holds (HS.out.box.below HBA.out) (fun hg => by have := HSB.out _ hg; omega)
      have hl1 : Loose y1 (w.heap.size + 1) := HT.out.loose (HS.out.loose.below HS.out.box.1 HBA.out) (HS.out.box.below HBA.out).1 (fun hg => by have := HSB.out _ hg; omega)
      have HBX := Lib.hid (show _ ∧ _ from ⟨hb1, hl1⟩)
      clear hcall ht hst3 hfr hmp3 c0 c1 c2 c3 c4 c5 c6 c7 c8 c9 hb1 hl1
      go_wp2
      go_roundw
      case rel => exact ⟨j + 1, by go_num, by omega, ⟨⟨rs3, v3, by rw [HSUC.out]; exact HMP3.out, by rw [HSUC.out]; exact HST3.out⟩, HB1.out, HBX.out.1, HBX.out.2⟩⟩
      case measure => simp [intOf]; omega
    · have hj' : j = es.length := by omega
      subst hj'
      obtain ⟨rs2, v2, hmp, hbk⟩ := HS.out.book
      rw [List.take_length] at hmp hbk
      obtain ⟨A4, c4, rfl, -, -⟩ := LasOwn.open hbk.las
      have HBK := Lib.hid hbk
      have HMP2 := Lib.hid hmp
      obtain ⟨g0, g1⟩ := hbk.box.two
      have zg := hbk.box.1
      clear hmp hbk
      go_wp2_with fail
      refine (written_any (b + 1) b rs2.length rs2 A4 _ c4 _ HBK.out.map HBK.out.rise HBK.out.own HBK.out.top (by have := (wrs_ok HBK.out.ok).1; omega) (fun r hr => Nat.le_trans ((wrs_ok HBK.out.ok).2 r hr).1 (by omega))).mono ?_
      rintro e y1 ⟨A9, c9, rfl, hs9, hn9, b1⟩
      have hbx := HS.out.box.below b1
      have hlx := HS.out.loose.below HS.out.box.1 b1
      obtain ⟨q0, q1⟩ := hbx.two
      have y0 := hlx 0
      have y1' := hlx 1
      have zq := hbx.1
      have HBX := Lib.hid hbx
      have HS9 := Lib.hid hs9
      have HN9 := Lib.hid hn9
      have HB1 := Lib.hid b1
      clear hbx hlx hs9 hn9 b1 g0 g1 zg
      go_wp2
      have hWB := HWB.out
      have hgv := fun g (e : (Value.slice A4 (M.obeyTo (l.map Wr.wk, m) es).2.length c4).ownBlock = some g) => World.ownsRow.lt HBK.out.las g e
      refine bodyPost_ret (results_iOa (.slice A9 rs2.length c9) (.slice A4 (M.obeyTo (l.map Wr.wk, m) es).2.length c4) (w.heap.size + 1) _ _ rfl (HBX.out.wr2 _ _)) rfl ⟨.slice A9 rs2.length c9, .slice A4 (M.obeyTo (l.map Wr.wk, m) es).2.length c4, rs2, rfl, ((HS9.out.set (by omega) 0 _).set (by omega) 1 _).mono (by omega), by rw [HE.out]; exact HMP2.out, ?_, fun g e hg => ?_, far_2 (next HS.out.below HB1.out) (by omega) _ _⟩
      · rw [HE.out]
        exact LasOwn.mono (own_off (own_off (LasOwn.below HBK.out.las HB1.out) (fun e => by have := (hgv _ e).1; omega) 0 _) (fun e => by have := (hgv _ e).1; omega) 1 _) (by omega)
      · rcases hg with hg | ⟨r, hr, hg⟩
        · have h1 := HN9.out g hg
          have := (hgv g e).2
          omega
        · exact HBK.out.vr r hr g hg e
end Go.Proofs.YtblcgbgcccjpcaaGreat
namespace Go.Proofs.YtblcgbgcccjpcaaGreat
open Go.RowKit
set_option maxRecDepth 20000
theorem results_ssOb (a b : Value) (c : Int) (p : ByteArray) (R T : Nat) (W : World) (tmps : Array Value) (h4 : tmps.getD 4 undef = .pointer (some ⟨R, 0, none⟩)) (h5 : tmps.getD 5 undef = .pointer (some ⟨T, 0, none⟩)) (hR : Holds W R #[a, b]) (hT : Holds W T (rpA c p)) :
    (results Tryz.f35 tmps).run Tryz.prog W = .ok (.tuple #[.agg #[a, b], rpV c p]) W := by
  obtain ⟨q0, q1⟩ := hR.two
  obtain ⟨r0, r1⟩ := hT.two
  simp at h4 h5
  simp [results, Tryz.results35, go_sem, h4, h5, q0, q1, r0, r1]
set_option maxHeartbeats 4000000 in
theorem specObeyed (A : Option Addr) (l : List Wr) (cap : Nat) (A2 : Option Addr) (m : List M.La) (cb : Nat) (en : M.En) (w : World) (hl : Wks w A l) (hA : ∀ r ∈ l, r.ad = none → r.cap = 0) (hlen : l.length ≤ 1048576) (hp : WrsIn 1048576 l) (hm : Las w A2 m) (hN : A2 = none → cb = 0) (hml : m.length ≤ 1048576) (hn : en.order.deed.name.size ≤ 1048576) (hpg : en.order.deed.page.size ≤ 1048576) :
    Calls Tryz.prog 35 #[bkV A l.length cap A2 m.length cb, enV en] w (OrRet w (M.obeyed (l.map Wr.wk, m) en)) := by
  have HL := Lib.hid hl
  have HA := Lib.hid hA
  have HN := Lib.hid hN
  have HP := Lib.hid hp
  have HC := Lib.hid (fun r (hr : r ∈ l) => (hp r hr).2.1)
  have HM := Lib.hid hm
  clear hl hp hm hA hN
  have hM := ((((Mem.start w).new (bkA A l.length cap A2 m.length cb) 27).new (enC en) 70).new (bkA none 0 0 none 0 0) 27).new (rpA 0 noP) 33
  simp only [World.size_alloc] at hM
  rcases hok : M.bkOk (l.map Wr.wk) m with _ | _
  · have HE : Hid (M.obeyed (l.map Wr.wk, m) en = (([], []), ((7 : Int), M.nilB))) := Lib.hid (by unfold M.obeyed; rw [if_neg (by simp [hok])])
    have HOK := Lib.hid hok
    clear hok
    go_enter Tryz.func35, Tryz.ntmps35
    go_wp2_with fail
    refine (specBookOk A l cap A2 m cb _ (HL.out.below hM.1) hlen HP.out (HM.out.below hM.1) hml).mono ?_
    rintro e x1 ⟨rfl, b1⟩
    rw [HOK.out]
    have HR := Lib.hid (hM.below b1)
    clear hM b1
    (obtain ⟨s0, s1⟩ := (HR.out.get (w.heap.size + 1 + 1) (bkA none 0 0 none 0 0) (by simp)).two)
    (obtain ⟨t0, t1⟩ := (HR.out.get (w.heap.size + 1 + 1 + 1) (rpA 0 noP) (by simp)).two)
    (have y0 := HR.out.loose (w.heap.size + 1 + 1) (by simp) 0)
    (have y1 := HR.out.loose (w.heap.size + 1 + 1) (by simp) 1)
    (have z0 := HR.out.loose (w.heap.size + 1 + 1 + 1) (by simp) 0)
    (have z1 := HR.out.loose (w.heap.size + 1 + 1 + 1) (by simp) 1)
    (have zs := (HR.out.get (w.heap.size + 1 + 1) (bkA none 0 0 none 0 0) (by simp)).1)
    (have zt := (HR.out.get (w.heap.size + 1 + 1 + 1) (rpA 0 noP) (by simp)).1)
    go_wp2
    refine bodyPost_ret (results_ssOb (.slice none 0 0) (.slice none 0 0) 7 noP (w.heap.size + 1 + 1) (w.heap.size + 1 + 1 + 1) _ _ rfl rfl ?_ ?_) rfl ⟨.slice none 0 0, .slice none 0 0, [], by rw [HE.out] <;> rfl, ⟨⟨rfl, .inl ⟨rfl, rfl⟩⟩, by simp, by simp, List.Pairwise.nil⟩, by rw [HE.out]; rfl, by rw [HE.out]; exact LasOwn.nil _ _, fun g e => (by cases e), ?_⟩
    · exact (((HR.out.get (w.heap.size + 1 + 1) (bkA none 0 0 none 0 0) (by simp)).wr2 _ _).otherM (by omega)).otherM (by omega)
    · exact (((HR.out.get (w.heap.size + 1 + 1 + 1) (rpA 0 noP) (by simp)).otherM (by omega)).otherM (by omega)).wr2 _ _
    · exact far_2 (far_2 HR.out.1 (by omega) _ _) (by omega) _ _
  · have hml' : m.length ≤ 1048575 := by
      have h := hok
      simp only [M.bkOk, Bool.and_eq_true] at h
      have := M.lasOk_len h.2
      omega
    rcases hoo : M.entryOk en with _ | _
    · have HE : Hid (M.obeyed (l.map Wr.wk, m) en = ((l.map Wr.wk, m), ((7 : Int), M.nilB))) := Lib.hid (by unfold M.obeyed; rw [if_pos hok]; unfold M.obeyI; rw [if_neg (by simp [hoo])])
      have HOK := Lib.hid hok
      have HOO := Lib.hid hoo
      clear hok hoo
      go_enter Tryz.func35, Tryz.ntmps35
      go_wp2_with fail
      refine (specBookOk A l cap A2 m cb _ (HL.out.below hM.1) hlen HP.out (HM.out.below hM.1) hml).mono ?_
      rintro e x1 ⟨rfl, b1⟩
      rw [HOK.out]
      have hM1 := hM.below b1
      clear hM b1
      obtain ⟨q0, q1, q2, q3, q4, q5, q6, q7, q8, q9⟩ := (hM1.get (w.heap.size + 1) (enC en) (by simp)).ten
      go_wp2_with fail
      refine (specEntryOk en _ (by unfold maxLen; omega) (by unfold maxLen; omega)).mono ?_
      rintro e x2 ⟨rfl, b2⟩
      rw [HOO.out]
      have hM2 := hM1.below b2
      clear hM1 b2 q0 q1 q2 q3 q4 q5 q6 q7 q8 q9
      obtain ⟨k0, k1⟩ := (hM2.get w.heap.size (bkA A l.length cap A2 m.length cb) (by simp)).two
      have hx2 : (w.heap.size + 1 + 1 + 1) < x2.heap.size := (hM2.get (w.heap.size + 1 + 1 + 1) (rpA 0 noP) (by simp)).1
      go_wp2_with fail
      refine (l6Copy_any A l cap A2 m cb _ (HL.out.below hM2.1) HA.out hlen HC.out (HM.out.below hM2.1) HN.out hml).mono ?_
      rintro e x3 ⟨v1, v2, rs, rfl, hs, hmap, hla, hap, b3⟩
      obtain ⟨A5, c5, rfl, -, -⟩ := hs.open
      obtain ⟨A6, c6, rfl, -, -⟩ := LasOwn.open hla
      have HR := Lib.hid (hM2.below b3)
      have HO := Lib.hid (show _ ∧ _ ∧ _ ∧ _ from ⟨hs, hmap, hla, hap⟩)
      clear hM2 b3 k0 k1 hs hmap hla hap
      (obtain ⟨s0, s1⟩ := (HR.out.get (w.heap.size + 1 + 1) (bkA none 0 0 none 0 0) (by simp)).two)
      (obtain ⟨t0, t1⟩ := (HR.out.get (w.heap.size + 1 + 1 + 1) (rpA 0 noP) (by simp)).two)
      (have y0 := HR.out.loose (w.heap.size + 1 + 1) (by simp) 0)
      (have y1 := HR.out.loose (w.heap.size + 1 + 1) (by simp) 1)
      (have z0 := HR.out.loose (w.heap.size + 1 + 1 + 1) (by simp) 0)
      (have z1 := HR.out.loose (w.heap.size + 1 + 1 + 1) (by simp) 1)
      (have zs := (HR.out.get (w.heap.size + 1 + 1) (bkA none 0 0 none 0 0) (by simp)).1)
      (have zt := (HR.out.get (w.heap.size + 1 + 1 + 1) (rpA 0 noP) (by simp)).1)
      go_wp2
      have hne : ∀ z, z < x2.heap.size → (Value.slice A6 m.length c6).ownBlock ≠ some z := fun z hz e => by have := (World.ownsRow.lt HO.out.2.2.1 z e).1; omega
      refine bodyPost_ret (results_ssOb (.slice A5 rs.length c5) (.slice A6 m.length c6) 7 noP (w.heap.size + 1 + 1) (w.heap.size + 1 + 1 + 1) _ _ rfl rfl ?_ ?_) rfl ⟨.slice A5 rs.length c5, .slice A6 m.length c6, rs, by rw [HE.out] <;> rfl, ?_, by rw [HE.out]; exact HO.out.2.1, ?_, HO.out.2.2.2, ?_⟩
      · exact (((HR.out.get (w.heap.size + 1 + 1) (bkA none 0 0 none 0 0) (by simp)).wr2 _ _).otherM (by omega)).otherM (by omega)
      · exact (((HR.out.get (w.heap.size + 1 + 1 + 1) (rpA 0 noP) (by simp)).otherM (by omega)).otherM (by omega)).wr2 _ _
      · exact ((((HO.out.1.set (by omega) 0 _).set (by omega) 1 _).set (by omega) 0 _).set (by omega) 1 _).mono (by omega)
      · rw [HE.out]
        exact LasOwn.mono (own_off (own_off (own_off (own_off HO.out.2.2.1 (hne _ (by omega)) 0 _) (hne _ (by omega)) 1 _) (hne _ (by omega)) 0 _) (hne _ (by omega)) 1 _) (by omega)
      · exact far_2 (far_2 HR.out.1 (by omega) _ _) (by omega) _ _
    rcases hb : M.orEq en.order M.or0 with _ | _
    · have HE : Hid (M.obeyed (l.map Wr.wk, m) en = M.ordered (l.map Wr.wk, m) en.order) := Lib.hid (by unfold M.obeyed M.ordered; rw [if_pos hok, if_pos hok]; unfold M.obeyI; rw [if_pos hoo, if_neg (by simp [hb])])
      have HOK := Lib.hid hok
      have HOO := Lib.hid hoo
      clear hok hoo
      go_enter Tryz.func35, Tryz.ntmps35
      go_wp2_with fail
      refine (specBookOk A l cap A2 m cb _ (HL.out.below hM.1) hlen HP.out (HM.out.below hM.1) hml).mono ?_
      rintro e x1 ⟨rfl, b1⟩
      rw [HOK.out]
      have hM1 := hM.below b1
      clear hM b1
      obtain ⟨q0, q1, q2, q3, q4, q5, q6, q7, q8, q9⟩ := (hM1.get (w.heap.size + 1) (enC en) (by simp)).ten
      go_wp2_with fail
      refine (specEntryOk en _ (by unfold maxLen; omega) (by unfold maxLen; omega)).mono ?_
      rintro e x2 ⟨rfl, b2⟩
      rw [HOO.out]
      have hM2 := hM1.below b2
      clear hM1 b2 q0 q1 q2 q3 q4 q5 q6 q7 q8 q9
      obtain ⟨k0, k1⟩ := (hM2.get w.heap.size (bkA A l.length cap A2 m.length cb) (by simp)).two
      obtain ⟨q0, q1, q2, q3, q4, q5, q6, q7, q8, q9⟩ := (hM2.get (w.heap.size + 1) (enC en) (by simp)).ten
      have hx2 : (w.heap.size + 1 + 1 + 1) < x2.heap.size := (hM2.get (w.heap.size + 1 + 1 + 1) (rpA 0 noP) (by simp)).1
      go_wp2_with (refine wpList_run (by rfl) (oreql_read (a := en.order) (b := M.or0) rfl rfl rfl _) ?_; simp only [hb])
      clear hb
      obtain ⟨q, hq⟩ : ∃ q, M.ordered (l.map Wr.wk, m) en.order = q := ⟨_, rfl⟩
      have hcall := specOrdered A l cap A2 m cb en.order x2 (HL.out.below hM2.1) HA.out hlen HP.out (HM.out.below hM2.1) HN.out hml hn hpg
      rw [hq] at hcall
      have HQ := Lib.hid hq
      refine hcall.mono ?_
      rintro e x3 ⟨v1, v2, rs, rfl, hs, hmap, hla, hap, b3⟩
      obtain ⟨A5, c5, rfl, -, -⟩ := hs.open
      obtain ⟨A6, c6, rfl, -, -⟩ := LasOwn.open hla
      have HR := Lib.hid (hM2.below b3)
      have HO := Lib.hid (show _ ∧ _ ∧ _ ∧ _ from ⟨hs, hmap, hla, hap⟩)
      clear hcall hq hM2 b3 k0 k1 hs hmap hla hap q0 q1 q2 q3 q4 q5 q6 q7 q8 q9
      (obtain ⟨s0, s1⟩ := (HR.out.get (w.heap.size + 1 + 1) (bkA none 0 0 none 0 0) (by simp)).two)
      (obtain ⟨t0, t1⟩ := (HR.out.get (w.heap.size + 1 + 1 + 1) (rpA 0 noP) (by simp)).two)
      (have y0 := HR.out.loose (w.heap.size + 1 + 1) (by simp) 0)
      (have y1 := HR.out.loose (w.heap.size + 1 + 1) (by simp) 1)
      (have z0 := HR.out.loose (w.heap.size + 1 + 1 + 1) (by simp) 0)
      (have z1 := HR.out.loose (w.heap.size + 1 + 1 + 1) (by simp) 1)
      (have zs := (HR.out.get (w.heap.size + 1 + 1) (bkA none 0 0 none 0 0) (by simp)).1)
      (have zt := (HR.out.get (w.heap.size + 1 + 1 + 1) (rpA 0 noP) (by simp)).1)
      go_wp2
      have hne : ∀ z, z < x2.heap.size → (Value.slice A6 q.1.2.length c6).ownBlock ≠ some z := fun z hz e => by have := (World.ownsRow.lt HO.out.2.2.1 z e).1; omega
      refine bodyPost_ret (results_ssOb (.slice A5 rs.length c5) (.slice A6 q.1.2.length c6) q.2.1 q.2.2 (w.heap.size + 1 + 1) (w.heap.size + 1 + 1 + 1) _ _ rfl rfl ?_ ?_) rfl ⟨.slice A5 rs.length c5, .slice A6 q.1.2.length c6, rs, by rw [HE.out, HQ.out], ?_, by rw [HE.out, HQ.out]; exact HO.out.2.1, ?_, HO.out.2.2.2, ?_⟩
      · exact (((HR.out.get (w.heap.size + 1 + 1) (bkA none 0 0 none 0 0) (by simp)).wr2 _ _).otherM (by omega)).otherM (by omega)
      · exact (((HR.out.get (w.heap.size + 1 + 1 + 1) (rpA 0 noP) (by simp)).otherM (by omega)).otherM (by omega)).wr2 _ _
      · exact ((((HO.out.1.set (by omega) 0 _).set (by omega) 1 _).set (by omega) 0 _).set (by omega) 1 _).mono (by omega)
      · rw [HE.out, HQ.out]
        exact LasOwn.mono (own_off (own_off (own_off (own_off HO.out.2.2.1 (hne _ (by omega)) 0 _) (hne _ (by omega)) 1 _) (hne _ (by omega)) 0 _) (hne _ (by omega)) 1 _) (by omega)
      · exact far_2 (far_2 HR.out.1 (by omega) _ _) (by omega) _ _
    · have HE : Hid (M.obeyed (l.map Wr.wk, m) en = ((l.map Wr.wk, m), ((0 : Int), M.nilB))) := Lib.hid (by unfold M.obeyed; rw [if_pos hok]; unfold M.obeyI; rw [if_pos hoo, if_pos hb])
      have HOK := Lib.hid hok
      have HOO := Lib.hid hoo
      clear hok hoo
      go_enter Tryz.func35, Tryz.ntmps35
      go_wp2_with fail
      refine (specBookOk A l cap A2 m cb _ (HL.out.below hM.1) hlen HP.out (HM.out.below hM.1) hml).mono ?_
      rintro e x1 ⟨rfl, b1⟩
      rw [HOK.out]
      have hM1 := hM.below b1
      clear hM b1
      obtain ⟨q0, q1, q2, q3, q4, q5, q6, q7, q8, q9⟩ := (hM1.get (w.heap.size + 1) (enC en) (by simp)).ten
      go_wp2_with fail
      refine (specEntryOk en _ (by unfold maxLen; omega) (by unfold maxLen; omega)).mono ?_
      rintro e x2 ⟨rfl, b2⟩
      rw [HOO.out]
      have hM2 := hM1.below b2
      clear hM1 b2 q0 q1 q2 q3 q4 q5 q6 q7 q8 q9
      obtain ⟨k0, k1⟩ := (hM2.get w.heap.size (bkA A l.length cap A2 m.length cb) (by simp)).two
      have hx2 : (w.heap.size + 1 + 1 + 1) < x2.heap.size := (hM2.get (w.heap.size + 1 + 1 + 1) (rpA 0 noP) (by simp)).1
      obtain ⟨q0, q1, q2, q3, q4, q5, q6, q7, q8, q9⟩ := (hM2.get (w.heap.size + 1) (enC en) (by simp)).ten
      go_wp2_with (refine wpList_run (by rfl) (oreql_read (a := en.order) (b := M.or0) rfl rfl rfl _) ?_; simp only [hb])
      clear q0 q1 q2 q3 q4 q5 q6 q7 q8 q9
      refine (l6Copy_any A l cap A2 m cb _ (HL.out.below hM2.1) HA.out hlen HC.out (HM.out.below hM2.1) HN.out hml).mono ?_
      rintro e x3 ⟨v1, v2, rs, rfl, hs, hmap, hla, hap, b3⟩
      obtain ⟨A5, c5, rfl, -, -⟩ := hs.open
      obtain ⟨A6, c6, rfl, -, -⟩ := LasOwn.open hla
      have HR := Lib.hid (hM2.below b3)
      have HO := Lib.hid (show _ ∧ _ ∧ _ ∧ _ from ⟨hs, hmap, hla, hap⟩)
      clear hM2 b3 k0 k1 hs hmap hla hap
      (obtain ⟨s0, s1⟩ := (HR.out.get (w.heap.size + 1 + 1) (bkA none 0 0 none 0 0) (by simp)).two)
      (obtain ⟨t0, t1⟩ := (HR.out.get (w.heap.size + 1 + 1 + 1) (rpA 0 noP) (by simp)).two)
      (have y0 := HR.out.loose (w.heap.size + 1 + 1) (by simp) 0)
      (have y1 := HR.out.loose (w.heap.size + 1 + 1) (by simp) 1)
      (have z0 := HR.out.loose (w.heap.size + 1 + 1 + 1) (by simp) 0)
      (have z1 := HR.out.loose (w.heap.size + 1 + 1 + 1) (by simp) 1)
      (have zs := (HR.out.get (w.heap.size + 1 + 1) (bkA none 0 0 none 0 0) (by simp)).1)
      (have zt := (HR.out.get (w.heap.size + 1 + 1 + 1) (rpA 0 noP) (by simp)).1)
      go_wp2
      have hne : ∀ z, z < x2.heap.size → (Value.slice A6 m.length c6).ownBlock ≠ some z := fun z hz e => by have := (World.ownsRow.lt HO.out.2.2.1 z e).1; omega
      refine bodyPost_ret (results_ssOb (.slice A5 rs.length c5) (.slice A6 m.length c6) 0 noP (w.heap.size + 1 + 1) (w.heap.size + 1 + 1 + 1) _ _ rfl rfl ?_ ?_) rfl ⟨.slice A5 rs.length c5, .slice A6 m.length c6, rs, by rw [HE.out] <;> rfl, ?_, by rw [HE.out]; exact HO.out.2.1, ?_, HO.out.2.2.2, ?_⟩
      · exact (((HR.out.get (w.heap.size + 1 + 1) (bkA none 0 0 none 0 0) (by simp)).wr2 _ _).otherM (by omega)).otherM (by omega)
      · exact (((HR.out.get (w.heap.size + 1 + 1 + 1) (rpA 0 noP) (by simp)).otherM (by omega)).otherM (by omega)).wr2 _ _
      · exact ((((HO.out.1.set (by omega) 0 _).set (by omega) 1 _).set (by omega) 0 _).set (by omega) 1 _).mono (by omega)
      · rw [HE.out]
        exact LasOwn.mono (own_off (own_off (own_off (own_off HO.out.2.2.1 (hne _ (by omega)) 0 _) (hne _ (by omega)) 1 _) (hne _ (by omega)) 0 _) (hne _ (by omega)) 1 _) (by omega)
      · exact far_2 (far_2 HR.out.1 (by omega) _ _) (by omega) _ _
end Go.Proofs.YtblcgbgcccjpcaaGreat
