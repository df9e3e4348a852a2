/- Proved, in parts: Proved: the program's AllOrdered answers a plain Lean function, its book and its replies in new memory; nothing that was there is written. Condition: texts and lists of at most a million. -/
import Derived.Test.YtblcgbgcccjpcaaGreatPart44
namespace Go.Proofs.YtblcgbgcccjpcaaGreat
open Go.RowKit
set_option maxRecDepth 20000
theorem results_iAll (a b c : Value) (R : Nat) (W : World) (tmps : Array Value) (h4 : tmps.getD 4 undef = .pointer (some ⟨R, 0, none⟩)) (h5 : tmps.getD 5 undef = c) (hR : Holds W R #[a, b]) :
    (results Tryz.f26 tmps).run Tryz.prog W = .ok (.tuple #[.agg #[a, b], c]) W := by
  obtain ⟨q0, q1⟩ := hR.two
  simp at h4 h5
  simp [results, Tryz.results26, go_sem, h4, h5, q0, q1]
set_option maxHeartbeats 8000000 in
theorem implAllOrdered (A : Option Addr) (l : List Wr) (cap : Nat) (A2 : Option Addr) (m : List M.La) (cb : Nat) (AO : Option Addr) (os : List M.Or) (co : Nat) (w : World) (hl : Wks w A l) (hlen : l.length ≤ 1048576) (hp : WrsIn 1048576 l) (hm : Las w A2 m) (hml : m.length ≤ 1048576) (hmp : ∀ c ∈ m, laIn 1048576 c) (ho : Ors w AO os) (hol : os.length ≤ 1048576) (hop : ∀ o ∈ os, orIn 1048576 o) :
    Calls Tryz.prog 26 #[bkV A l.length cap A2 m.length cb, .slice AO os.length co] w (AllRet w (M.allOrdered (l.map Wr.wk, m) os)) := by
  have HL := Lib.hid hl
  have HP := Lib.hid hp
  have HM := Lib.hid hm
  have HMP := Lib.hid hmp
  have HO := Lib.hid ho
  have HOP := Lib.hid hop
  clear hl hp hm hmp ho hop
  have hM := ((Mem.start w).new (bkA A l.length cap A2 m.length cb) 27).new (bkA none 0 0 none 0 0) 27
  simp only [World.size_alloc] at hM
  rcases hok : M.bkOk (l.map Wr.wk) m with _ | _
  · have HE : Hid (M.allOrdered (l.map Wr.wk, m) os = (([], []), [])) := Lib.hid (by unfold M.allOrdered; simp [hok])
    have HOK := Lib.hid hok
    clear hok
    go_enter Tryz.func26, Tryz.ntmps26
    go_wp2_with fail
    refine (implBookOk A l cap A2 m cb _ (HL.out.below hM.1) hlen HP.out (HM.out.below hM.1) hml).mono ?_
    rintro e x1 ⟨rfl, b1⟩
    rw [HOK.out]
    have hM1 := hM.below b1
    clear hM b1
    have HM1 := Lib.hid hM1
    clear hM1
    obtain ⟨q0, q1⟩ := (HM1.out.get (w.heap.size + 1) (bkA none 0 0 none 0 0) (by simp)).two
    have y0 := HM1.out.loose (w.heap.size + 1) (by simp) 0
    have y1 := HM1.out.loose (w.heap.size + 1) (by simp) 1
    go_wp2
    refine bodyPost_ret (results_iAll (.slice none 0 0) (.slice none 0 0) (.slice none 0 0) (w.heap.size + 1) _ _ rfl rfl ((HM1.out.get (w.heap.size + 1) (bkA none 0 0 none 0 0) (by simp)).wr2 _ _)) rfl ⟨.slice none 0 0, .slice none 0 0, .slice none 0 0, [], rfl, ⟨⟨rfl, .inl ⟨rfl, rfl⟩⟩, by simp, by simp, List.Pairwise.nil⟩, by rw [HE.out]; rfl, by rw [HE.out]; exact LasOwn.nil _ _, fun g e => (by cases e), by rw [HE.out]; exact RpsOwn.nil _ _, fun g e => (by cases e), far_2 HM1.out.1 (by omega) _ _⟩
  rcases Nat.lt_or_ge 400 os.length with h4 | h4
  · have HE : Hid (M.allOrdered (l.map Wr.wk, m) os = (([], []), [])) := Lib.hid (by unfold M.allOrdered; rw [if_neg (by simp; omega)])
    have HOK := Lib.hid hok
    clear hok
    go_enter Tryz.func26, Tryz.ntmps26
    go_wp2_with fail
    refine (implBookOk A l cap A2 m cb _ (HL.out.below hM.1) hlen HP.out (HM.out.below hM.1) hml).mono ?_
    rintro e x1 ⟨rfl, b1⟩
    rw [HOK.out]
    have hM1 := hM.below b1
    clear hM b1
    have HM1 := Lib.hid hM1
    clear hM1
    obtain ⟨q0, q1⟩ := (HM1.out.get (w.heap.size + 1) (bkA none 0 0 none 0 0) (by simp)).two
    have y0 := HM1.out.loose (w.heap.size + 1) (by simp) 0
    have y1 := HM1.out.loose (w.heap.size + 1) (by simp) 1
    go_wp2
    refine bodyPost_ret (results_iAll (.slice none 0 0) (.slice none 0 0) (.slice none 0 0) (w.heap.size + 1) _ _ rfl rfl ((HM1.out.get (w.heap.size + 1) (bkA none 0 0 none 0 0) (by simp)).wr2 _ _)) rfl ⟨.slice none 0 0, .slice none 0 0, .slice none 0 0, [], rfl, ⟨⟨rfl, .inl ⟨rfl, rfl⟩⟩, by simp, by simp, List.Pairwise.nil⟩, by rw [HE.out]; rfl, by rw [HE.out]; exact LasOwn.nil _ _, fun g e => (by cases e), by rw [HE.out]; exact RpsOwn.nil _ _, fun g e => (by cases e), far_2 HM1.out.1 (by omega) _ _⟩
  have HE : Hid (M.allOrdered (l.map Wr.wk, m) os = M.ordTo (l.map Wr.wk, m) os) := Lib.hid (by unfold M.allOrdered; simp [hok, h4])
  have HOKL : Hid (M.sfOk (l.map Wr.wk) = true) := Lib.hid (by simp only [M.bkOk, Bool.and_eq_true] at hok; exact hok.1)
  have HKEEP := Lib.hid (fun j => M.ordTo_ok (b := (l.map Wr.wk, m)) hok os j)
  have HOK := Lib.hid hok
  clear hok
  obtain ⟨i0, hi, hz0, hz1, hz2⟩ := info_parts infoRps
  go_enter Tryz.func26, Tryz.ntmps26
  go_wp2_with fail
  refine (implBookOk A l cap A2 m cb _ (HL.out.below hM.1) hlen HP.out (HM.out.below hM.1) hml).mono ?_
  rintro e x1 ⟨rfl, b1⟩
  rw [HOK.out]
  have hM1 := hM.below b1
  clear hM b1
  obtain ⟨p0, p1⟩ := (hM1.get w.heap.size (bkA A l.length cap A2 m.length cb) (by simp)).two
  have hx1 : (w.heap.size + 1) < x1.heap.size := (hM1.get (w.heap.size + 1) (bkA none 0 0 none 0 0) (by simp)).1
  go_wp2_with fail
  refine (bookOf_any A l cap A2 m cb _ (HL.out.below hM1.1) (sfOk_rise HOKL.out).1 hlen HP.out (HM.out.below hM1.1) hml HMP.out).mono ?_
  rintro e x2 ⟨b, rs, v, rfl, hb1, hrs, hmap, hown, hb2, hlas, hblk, b2⟩
  obtain ⟨A3, c3, rfl, -, -⟩ := LasOwn.open hlas
  have hM2 := hM1.below b2
  have hM3 := hM2.alloc (.cells #[.map (some b), .slice A3 m.length c3] 126)
  have bA := (Below.refl x2.heap.size x2).alloc (Nat.le_refl _) (.cells #[.map (some b), .slice A3 m.length c3] 126)
  have hst : BkSt (x2.alloc (.cells #[.map (some b), .slice A3 m.length c3] 126)) x1.heap.size (b + 1) b rs x2.heap.size (.slice A3 m.length c3) m :=
    ⟨(hmap.tight).kept (grown_lw bA none) (by simp), hown.below bA, by rw [hrs]; exact HOKL.out, Nat.lt_succ_self _, by simp; omega, holds_new _ _ _, loose_new _ _ _, LasOwn.below hlas bA, HMP.out, by omega, fun r hr e => by have := ((hown.1 r hr).lt _ e).2; omega, fun e => by have := (hblk _ e).1; omega, fun e => by have := (World.ownsRow.lt hlas _ e).2; omega, fun r hr k e e' => by have := (hblk _ e').2 r hr k e; omega, by omega, by omega⟩
  have HST0 : Hid (AllSt w x1.heap.size (w.heap.size + 1) (l.map Wr.wk, m) os x2.heap.size b 0 (.slice none 0 0) (x2.alloc (.cells #[.map (some b), .slice A3 m.length c3] 126))) := Lib.hid ⟨⟨rs, _, hrs, hst, fun k e => by cases e⟩, RpsOwn.nil _ _, hM3.1, hM3.get (w.heap.size + 1) (bkA none 0 0 none 0 0) (by simp), hM3.loose (w.heap.size + 1) (by simp)⟩
  have HWB : Hid (x1.heap.size ≤ b) := Lib.hid hb1
  have HWG : Hid (x1.heap.size ≤ x2.heap.size) := Lib.hid b2.size
  clear hM1 hM2 hM3 hmap hown hlas hblk b2 bA hst hrs p0 p1 hb1 hb2
  go_wp2_with fail
  go_loopw [7, 23] (fun s7 s23 wr => ∃ (j : Nat) (A7 : Option Addr) (c7 : Nat), s23 = .int .i64 j ∧ j ≤ os.length ∧ s7 = .slice A7 j c7 ∧ AllSt w x1.heap.size (w.heap.size + 1) (l.map Wr.wk, m) os x2.heap.size b j (.slice A7 j c7) wr) (fun _ i _ => os.length - (intOf i).toNat)
  case atStart => exact ⟨0, none, 0, rfl, Nat.zero_le _, rfl, HST0.out⟩
  case round =>
    obtain ⟨j, A7, c7, rfl, hj, rfl, hst⟩ := hrel
    have HS := Lib.hid hst
    clear hst HST0
    by_cases hlt : j < os.length
    · obtain ⟨ob, oo, rfl, zo, c0, c1, c2, c3, c4, c5, c6, c7', c8⟩ := Ors_at (HO.out.below HS.out.below) hlt
      obtain ⟨⟨hn1, hp1⟩, -⟩ : orIn 1048576 os[j] ∧ True := ⟨HOP.out os[j] (List.getElem_mem hlt), trivial⟩
      have HSUC := Lib.hid (M.ordTo_succ (l.map Wr.wk, m) os j hlt)
      have HLEN := Lib.hid (M.ordTo_len (l.map Wr.wk, m) os j (by omega))
      obtain ⟨rs2, v2, hmp, hbk, hap⟩ := HS.out.book
      have ba := (Below.refl wr.heap.size wr).alloc (Nat.le_refl _) (.cells (orC os[j]) 41)
      have HBK := Lib.hid (hbk.below ba)
      have HAP := Lib.hid hap
      have HMP2 := Lib.hid hmp
      have HBA := Lib.hid ba
      have hls : (M.ordTo (l.map Wr.wk, m) (os.take j)).1.2.length ≤ 1048575 := by
        have h := HKEEP.out j
        simp only [M.bkOk, Bool.and_eq_true] at h
        have := M.lasOk_len h.2
        omega
      clear hmp hbk hap ba
      go_wp2_with fail
      have hcall := ordered_any x1.heap.size (b + 1) b rs2 x2.heap.size v2 (M.ordTo (l.map Wr.wk, m) (os.take j)).1.2 os[j] _ HBK.out hls hn1 hp1
      rw [HMP2.out] at hcall
      refine hcall.mono ?_
      rintro e y1 ⟨rfl, ht, rs3, v3, hmp3, hst3, hfr⟩
      obtain ⟨q, hq⟩ : ∃ q, M.ordI (M.ordTo (l.map Wr.wk, m) (os.take j)).1 os[j] = q := ⟨_, rfl⟩
      have hq' : M.ordI ((M.ordTo (l.map Wr.wk, m) (os.take j)).1.1, (M.ordTo (l.map Wr.wk, m) (os.take j)).1.2) os[j] = q := hq
      rw [hq'] at hmp3 hst3 ⊢
      have HQ := Lib.hid hq
      have HT := Lib.hid ht
      have HST3 := Lib.hid hst3
      have HFR := Lib.hid hfr
      have HMP3 := Lib.hid hmp3
      clear hcall hq hq' ht hst3 hfr hmp3 c0 c1 c2 c3 c4 c5 c6 c7' c8
      have HR1 : Hid (RpsOwn x1.heap.size y1 (.slice A7 j c7) (M.ordTo (l.map Wr.wk, m) (os.take j)).2) := Lib.hid (HT.out.row (World.ownsRow.mono (Own.below HS.out.reps HBA.out) (Nat.le_refl _)) (fun g hg hg' => (HAP.out g hg).1 hg'))
      have HSB : Hid (∀ g, bkS b x2.heap.size v2 g → x1.heap.size ≤ g) := Lib.hid (fun g hg => by
        rcases hg with rfl | rfl | hg
        · exact HWB.out
        · exact HWG.out
        · exact (World.ownsRow.lt HBK.out.las g hg).1)
      have HB1 : Hid (Below w.heap.size w y1) := Lib.hid ((HS.out.below.trans (HBA.out.mono HS.out.below.size)).trans (HT.out.low w.heap.size (Nat.le_trans HS.out.below.size HBA.out.size) (fun g hg => by have := HSB.out g hg; omega)))
      have hb1 : Holds y1 (w.heap.size + 1) (bkA none 0 0 none 0 0) := HT.out.holds (HS.out.box.below HBA.out) (fun hg => by have := HSB.out _ hg; omega)
      have hl1 : Loose y1 (w.heap.size + 1) := HT.out.loose (HS.out.loose.below HS.out.box.1 HBA.out) (HS.out.box.below HBA.out).1 (fun hg => by have := HSB.out _ hg; omega)
      have HBX := Lib.hid (show _ ∧ _ from ⟨hb1, hl1⟩)
      have hy1 : x1.heap.size ≤ y1.heap.size := Nat.le_trans (Nat.le_of_lt (show x1.heap.size < y1.heap.size from Nat.lt_of_le_of_lt HWG.out HST3.out.box.1)) (Nat.le_refl _)
      clear hb1 hl1
      have hr1 : World.ownsRow y1 x1.heap.size 33 2 (.slice A7 j c7) j (cellsOf rpL (M.ordTo (l.map Wr.wk, m) (os.take j)).2) := by
        have h := HR1.out
        unfold RpsOwn at h
        rw [HLEN.out] at h
        exact h
      have HR2 := Lib.hid hr1
      clear hr1
      go_wp2_with (at_builtin; refine wpList_append_flat_at (k := 2) (enc := rpL) (l := [((q.2.1, q.2.2) : M.Rp)]) rfl _ _ 64 rfl x1.heap.size 33 i0 _ 24 Tryz.underlying64 hi hz0 hz1 hz2 rfl (by decide) _ j _ rfl (World.ownsRow.alloc HR2.out _) (some ⟨y1.heap.size, 0, none⟩) 1 rfl (fun h => by cases h) (one_flatRp y1 q.2.1 q.2.2 _) rpL_len (rp_one _) (by simp only [List.length_singleton]; unfold maxLen; omega) (by simp only [List.length_singleton]; omega) (by simp; omega) ?_; intro v9 w9 own9 grow9 at9)
      obtain ⟨A9, c9, rfl⟩ := row_form own9
      have HW9 := Lib.hid (show _ ∧ _ ∧ _ from ⟨own9, grow9, at9⟩)
      clear own9 grow9 at9
      go_roundw
      case rel =>
        have bq := (Below.refl y1.heap.size y1).alloc (Nat.le_refl _) (.cells (rpA q.2.1 q.2.2) 33)
        obtain ⟨own9, grow9, at9⟩ := HW9.out
        have hlt9 := fun g (hg : (Value.slice A7 j c7).ownBlock = some g) => World.ownsRow.lt HR2.out g hg
        have hold : ∀ g, (Value.slice A7 j c7).ownBlock = some g → ¬ bkS b x2.heap.size v3 g ∧ ∀ r ∈ rs3, r.sl.ownBlock ≠ some g := fun g hg => by
          have hgo := (World.ownsRow.lt HS.out.reps g hg).2
          have h1 := (HAP.out g hg)
          have hfrom := fun k hk => HFR.out k hk
          have hsz := HBA.out.size
          refine ⟨fun hk => ?_, fun r hr hk => ?_⟩
          · rcases hk with hk | hk | hk
            · exact h1.1 (.inl hk)
            · exact h1.1 (.inr (.inl hk))
            · rcases hfrom g (.inl hk) with h2 | h2 | ⟨x, hx, h2⟩
              · omega
              · exact h1.1 (.inr (.inr h2))
              · exact h1.2 x hx h2
          · rcases hfrom g (.inr ⟨r, hr, hk⟩) with h2 | h2 | ⟨x, hx, h2⟩
            · omega
            · exact h1.1 (.inr (.inr h2))
            · exact h1.2 x hx h2
        have hst4 := (HST3.out.below bq).kept grow9 hold
        have hnew : ∀ g, (Value.slice A9 (j + 1) c9).ownBlock = some g → ¬ bkS b x2.heap.size v3 g ∧ ∀ r ∈ rs3, r.sl.ownBlock ≠ some g := fun g hg => by
          rcases at9 with e | e
          · exact hold g (e ▸ hg)
          · have e' : g = (y1.alloc (.cells (rpA q.2.1 q.2.2) 33)).heap.size := Option.some.inj (hg.symm.trans e)
            simp only [World.size_alloc] at e'
            have := HST3.out.st.top
            refine ⟨fun hk => ?_, fun r hr hk => ?_⟩
            · rcases hk with hk | hk | hk
              · have := HST3.out.low; omega
              · have := HST3.out.box.1; omega
              · have := (World.ownsRow.lt HST3.out.las g hk).2; omega
            · have := ((HST3.out.own.1 r hr).lt g hk).2; omega
        refine ⟨j + 1, A9, c9, by go_num, by omega, rfl, ⟨⟨rs3, v3, ?_, ?_, hnew⟩, ?_, (HB1.out.trans (bq.mono HB1.out.size)).grown grow9 (Nat.le_trans HB1.out.size bq.size) (fun k hk => by have := (hlt9 k hk).1; omega), grown_holds (HBX.out.1.below bq) grow9 (fun e => by have := (hlt9 _ e.symm).1; omega), grown_loose (HBX.out.2.below HBX.out.1.1 bq) (HBX.out.1.below bq).1 grow9 (fun e => by have := (hlt9 _ e.symm).1; omega)⟩⟩
        · rw [HSUC.out, HQ.out]; exact HMP3.out
        · rw [HSUC.out, HQ.out]; exact hst4
        · rw [HSUC.out, HQ.out]
          unfold RpsOwn
          rw [List.length_append, HLEN.out, cellsOf_append]
          exact own9
      case measure => simp [intOf]; omega
    · have hj' : j = os.length := by omega
      subst hj'
      obtain ⟨rs2, v2, hmp, hbk, hap⟩ := HS.out.book
      have hreps := HS.out.reps
      rw [List.take_length] at hmp hbk hreps
      obtain ⟨A4, c4, rfl, -, -⟩ := LasOwn.open hbk.las
      have HBK := Lib.hid hbk
      have HAP := Lib.hid hap
      have HMP2 := Lib.hid hmp
      have HREP := Lib.hid hreps
      obtain ⟨g0, g1⟩ := hbk.box.two
      have zg := hbk.box.1
      clear hmp hbk hap hreps
      go_wp2_with fail
      refine (written_any (b + 1) b rs2.length rs2 A4 _ c4 _ HBK.out.map HBK.out.rise HBK.out.own HBK.out.top (by have := (wrs_ok HBK.out.ok).1; omega) (fun r hr => Nat.le_trans ((wrs_ok HBK.out.ok).2 r hr).1 (by omega))).mono ?_
      rintro e y1 ⟨A9, c9, rfl, hs9, hn9, b1⟩
      have hbx := HS.out.box.below b1
      have hlx := HS.out.loose.below HS.out.box.1 b1
      obtain ⟨q0, q1⟩ := hbx.two
      have y0 := hlx 0
      have y1' := hlx 1
      have zq := hbx.1
      have HBX := Lib.hid hbx
      have HS9 := Lib.hid hs9
      have HN9 := Lib.hid hn9
      have HB1 := Lib.hid b1
      clear hbx hlx hs9 hn9 b1 g0 g1 zg
      go_wp2
      have hWB := HWB.out
      have hgv := fun g (e : (Value.slice A4 (M.ordTo (l.map Wr.wk, m) os).1.2.length c4).ownBlock = some g) => World.ownsRow.lt HBK.out.las g e
      have hgr := fun g (e : (Value.slice A7 os.length c7).ownBlock = some g) => World.ownsRow.lt HREP.out g e
      refine bodyPost_ret (results_iAll (.slice A9 rs2.length c9) (.slice A4 (M.ordTo (l.map Wr.wk, m) os).1.2.length c4) (.slice A7 os.length c7) (w.heap.size + 1) _ _ rfl rfl (HBX.out.wr2 _ _)) rfl ⟨.slice A9 rs2.length c9, .slice A4 (M.ordTo (l.map Wr.wk, m) os).1.2.length c4, .slice A7 os.length c7, rs2, rfl, ((HS9.out.set (by omega) 0 _).set (by omega) 1 _).mono (by omega), by rw [HE.out]; exact HMP2.out, ?_, fun g e hg => ?_, ?_, fun g e hg => ?_, far_2 (next HS.out.below HB1.out) (by omega) _ _⟩
      · rw [HE.out]
        exact LasOwn.mono (own_off (own_off (LasOwn.below HBK.out.las HB1.out) (fun e => by have := (hgv _ e).1; omega) 0 _) (fun e => by have := (hgv _ e).1; omega) 1 _) (by omega)
      · rcases hg with hg | ⟨r, hr, hg⟩
        · have h1 := HN9.out g hg
          have := (hgv g e).2
          omega
        · exact HBK.out.vr r hr g hg e
      · rw [HE.out]
        exact World.ownsRow.mono (own_off (own_off (Own.below HREP.out HB1.out) (fun e => by have := (hgr _ e).1; omega) 0 _) (fun e => by have := (hgr _ e).1; omega) 1 _) (by omega)
      · rcases hg with (hg | ⟨r, hr, hg⟩) | hg
        · have h1 := HN9.out g hg
          have := (hgr g e).2
          omega
        · exact (HAP.out g e).2 r hr hg
        · exact (HAP.out g e).1 (.inr (.inr hg))
end Go.Proofs.YtblcgbgcccjpcaaGreat
