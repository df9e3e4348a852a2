/- Proved, in parts: Proved: the model's ObeyedAll answers the plain Lean function that the program's answers; nothing that was there is written. Condition: texts and lists of at most a million. Proved: the laws' helpers that write marks into a list of records of the type Entry, and look whether they are there, do so and write nothing else. Condition: at most two million records. Proved: the contracts of ObeyedAll at arguments that were copied; what many entries leave is small. Condition: texts and lists of at most a million. -/
import Derived.Test.YtblcgbgcccjpcaaGreatPart45
import Derived.Test.YtblcgbgcccjpcaaGreatPart46
import Derived.Test.YtblcgbgcccjpcaaGreatPart31
import Derived.Test.YtblcgbgcccjpcaaGreatPart26
namespace Go.Proofs.YtblcgbgcccjpcaaGreat
open Go.RowKit
set_option maxRecDepth 20000
theorem results_sOa (a b : Value) (R : Nat) (W : World) (tmps : Array Value) (h4 : tmps.getD 4 undef = .pointer (some ⟨R, 0, none⟩)) (hR : Holds W R #[a, b]) :
    (results Tryz.f38 tmps).run Tryz.prog W = .ok (.agg #[a, b]) W := by
  obtain ⟨q0, q1⟩ := hR.two
  simp at h4
  simp [results, Tryz.results38, go_sem, h4, q0, q1]
set_option maxHeartbeats 8000000 in
theorem specObeyedAll (A : Option Addr) (l : List Wr) (cap : Nat) (A2 : Option Addr) (m : List M.La) (cb : Nat) (AO : Option Addr) (es : List M.En) (co : Nat) (w : World) (hl : Wks w A l) (hA : ∀ r ∈ l, r.ad = none → r.cap = 0) (hlen : l.length ≤ 1048576) (hp : WrsIn 1048576 l) (hm : Las w A2 m) (hml : m.length ≤ 1048576) (hN : A2 = none → cb = 0) (ho : Ens w AO es) (hol : es.length ≤ 1048576) (hop : ∀ e ∈ es, enIn 1048576 e) :
    Calls Tryz.prog 38 #[bkV A l.length cap A2 m.length cb, .slice AO es.length co] w (BkRet w (M.obeyedAll (l.map Wr.wk, m) es)) := by
  have HL := Lib.hid hl
  have HP := Lib.hid hp
  have HC := Lib.hid (fun r (hr : r ∈ l) => (hp r hr).2.1)
  have HM := Lib.hid hm
  have HA := Lib.hid hA
  have HN := Lib.hid hN
  have HO := Lib.hid ho
  have HOP := Lib.hid hop
  clear hl hp hm ho hop hA hN
  have hM := ((Mem.start w).new (bkA A l.length cap A2 m.length cb) 27).new (bkA none 0 0 none 0 0) 27
  simp only [World.size_alloc] at hM
  rcases hok : M.bkOk (l.map Wr.wk) m with _ | _
  · have HE : Hid (M.obeyedAll (l.map Wr.wk, m) es = ([], [])) := Lib.hid (by unfold M.obeyedAll; simp [hok])
    have HOK := Lib.hid hok
    clear hok
    go_enter Tryz.func38, Tryz.ntmps38
    go_wp2_with fail
    refine (specBookOk A l cap A2 m cb _ (HL.out.below hM.1) hlen HP.out (HM.out.below hM.1) hml).mono ?_
    rintro e x1 ⟨rfl, b1⟩
    rw [HOK.out]
    have hM1 := hM.below b1
    clear hM b1
    have HM1 := Lib.hid hM1
    clear hM1
    obtain ⟨q0, q1⟩ := (HM1.out.get (w.heap.size + 1) (bkA none 0 0 none 0 0) (by simp)).two
    have y0 := HM1.out.loose (w.heap.size + 1) (by simp) 0
    have y1 := HM1.out.loose (w.heap.size + 1) (by simp) 1
    go_wp2
    refine bodyPost_ret (results_sOa (.slice none 0 0) (.slice none 0 0) (w.heap.size + 1) _ _ rfl ((HM1.out.get (w.heap.size + 1) (bkA none 0 0 none 0 0) (by simp)).wr2 _ _)) rfl ⟨.slice none 0 0, .slice none 0 0, [], rfl, ⟨⟨rfl, .inl ⟨rfl, rfl⟩⟩, by simp, by simp, List.Pairwise.nil⟩, by rw [HE.out]; rfl, by rw [HE.out]; exact LasOwn.nil _ _, fun g e => (by cases e), far_2 HM1.out.1 (by omega) _ _⟩
  rcases Nat.lt_or_ge 400 es.length with h4 | h4
  · have HE : Hid (M.obeyedAll (l.map Wr.wk, m) es = ([], [])) := Lib.hid (by unfold M.obeyedAll; rw [if_neg (by simp; omega)])
    have HOK := Lib.hid hok
    clear hok
    go_enter Tryz.func38, Tryz.ntmps38
    go_wp2_with fail
    refine (specBookOk A l cap A2 m cb _ (HL.out.below hM.1) hlen HP.out (HM.out.below hM.1) hml).mono ?_
    rintro e x1 ⟨rfl, b1⟩
    rw [HOK.out]
    have hM1 := hM.below b1
    clear hM b1
    have HM1 := Lib.hid hM1
    clear hM1
    obtain ⟨q0, q1⟩ := (HM1.out.get (w.heap.size + 1) (bkA none 0 0 none 0 0) (by simp)).two
    have y0 := HM1.out.loose (w.heap.size + 1) (by simp) 0
    have y1 := HM1.out.loose (w.heap.size + 1) (by simp) 1
    go_wp2
    refine bodyPost_ret (results_sOa (.slice none 0 0) (.slice none 0 0) (w.heap.size + 1) _ _ rfl ((HM1.out.get (w.heap.size + 1) (bkA none 0 0 none 0 0) (by simp)).wr2 _ _)) rfl ⟨.slice none 0 0, .slice none 0 0, [], rfl, ⟨⟨rfl, .inl ⟨rfl, rfl⟩⟩, by simp, by simp, List.Pairwise.nil⟩, by rw [HE.out]; rfl, by rw [HE.out]; exact LasOwn.nil _ _, fun g e => (by cases e), far_2 HM1.out.1 (by omega) _ _⟩
  have HE : Hid (M.obeyedAll (l.map Wr.wk, m) es = M.obeyTo (l.map Wr.wk, m) es) := Lib.hid (by unfold M.obeyedAll; simp [hok, h4])
  have HKEEP := Lib.hid (fun j => M.obeyTo_ok (b := (l.map Wr.wk, m)) hok (es.take j))
  have HOK := Lib.hid hok
  clear hok
  go_enter Tryz.func38, Tryz.ntmps38
  go_wp2_with fail
  refine (specBookOk A l cap A2 m cb _ (HL.out.below hM.1) hlen HP.out (HM.out.below hM.1) hml).mono ?_
  rintro e x1 ⟨rfl, b1⟩
  rw [HOK.out]
  have hM1 := hM.below b1
  clear hM b1
  obtain ⟨p0, p1⟩ := (hM1.get w.heap.size (bkA A l.length cap A2 m.length cb) (by simp)).two
  have hx1 : (w.heap.size + 1) < x1.heap.size := (hM1.get (w.heap.size + 1) (bkA none 0 0 none 0 0) (by simp)).1
  go_wp2_with fail
  refine (l6Copy_any A l cap A2 m cb _ (HL.out.below hM1.1) HA.out hlen HC.out (HM.out.below hM1.1) HN.out hml).mono ?_
  rintro e x2 ⟨v1, v2, rs0, rfl, hs, hmap, hla, hap, b2⟩
  obtain ⟨A5, c5, rfl, -, -⟩ := hs.open
  obtain ⟨A6, c6, rfl, -, -⟩ := LasOwn.open hla
  have hM2 := hM1.below b2
  clear hM1 p0 p1 b2
  obtain ⟨p0, p1⟩ := (hM2.get w.heap.size (bkA A l.length cap A2 m.length cb) (by simp)).two
  have y0 := hM2.loose w.heap.size (by simp) 0
  have y1 := hM2.loose w.heap.size (by simp) 1
  have zp := (hM2.get w.heap.size (bkA A l.length cap A2 m.length cb) (by simp)).1
  have HST0 : Hid (EnSp w (w.heap.size + 1 + 1) w.heap.size (w.heap.size + 1) (l.map Wr.wk, m) es 0 ((x2.setCell ⟨w.heap.size, 0, none⟩ (.slice A5 rs0.length c5)).setCell ⟨w.heap.size, 1, none⟩ (.slice A6 m.length c6))) := Lib.hid ⟨⟨A5, c5, A6, c6, rs0, ⟨(hM2.get w.heap.size (bkA A l.length cap A2 m.length cb) (by simp)).wr2 _ _, ((hs.set (by omega) 0 _).set (by omega) 1 _).mono (by omega), LasOwn.mono (own_set (own_set hla (by omega) 0 _) (by omega) 1 _) (by omega)⟩, hmap, hap⟩, far_2 hM2.1 (Nat.le_refl _) _ _, ((hM2.get (w.heap.size + 1) (bkA none 0 0 none 0 0) (by simp)).otherM (by omega)).otherM (by omega), fun i => by rw [World.frozen?_setCell, World.frozen?_setCell]; exact hM2.loose (w.heap.size + 1) (by simp) i, fun i => by rw [World.frozen?_setCell, World.frozen?_setCell]; exact hM2.loose w.heap.size (by simp) i⟩
  clear hM2 hs hmap hla hap
  go_wp2_with fail
  go_loopw [5] (fun s5 wr => ∃ j : Nat, s5 = .int .i64 j ∧ j ≤ es.length ∧ EnSp w (w.heap.size + 1 + 1) w.heap.size (w.heap.size + 1) (l.map Wr.wk, m) es j wr) (fun i _ => es.length - (intOf i).toNat)
  case atStart => exact ⟨0, rfl, Nat.zero_le _, HST0.out⟩
  case round =>
    obtain ⟨j, rfl, hj, hst⟩ := hrel
    have HS := Lib.hid hst
    clear hst HST0 p0 p1 y0 y1
    by_cases hlt : j < es.length
    · obtain ⟨ob, oo, rfl, zo, c0, c1, c2, c3, c4, c5, c6, c7, c8, c9⟩ := Ens_at (HO.out.below HS.out.below) hlt
      obtain ⟨⟨hn1, hp1⟩, -⟩ : enIn 1048576 es[j] ∧ True := ⟨HOP.out es[j] (List.getElem_mem hlt), trivial⟩
      have HSUC := Lib.hid (M.obeyTo_succ (l.map Wr.wk, m) es j hlt)
      obtain ⟨A1, d1, A3, d2, rs, hbb, hmp, hap⟩ := HS.out.book
      have hkp := HKEEP.out j
      simp only [M.bkOk, Bool.and_eq_true] at hkp
      have HSM : Hid (rs.length ≤ 5 ∧ WrsIn 12 rs) := Lib.hid (wrs_ok (by rw [hmp]; exact hkp.1))
      have HLL := Lib.hid (M.lasOk_len hkp.2)
      obtain ⟨q, hq⟩ : ∃ q, M.obeyI (M.obeyTo (l.map Wr.wk, m) (es.take j)) es[j] = q := ⟨_, rfl⟩
      have HQ : Hid (M.obeyed (rs.map Wr.wk, (M.obeyTo (l.map Wr.wk, m) (es.take j)).2) es[j] = q) := Lib.hid (by
        have h := HKEEP.out j
        rw [hmp]
        rw [← hq]
        exact M.obeyed_ok h)
      have HQ2 := Lib.hid hq
      have HBB := Lib.hid hbb
      have hsz1 : (w.heap.size + 1) < wr.heap.size := HS.out.box.1
      have HCALL : Hid (∀ x, Below wr.heap.size wr x → Calls Tryz.prog 35 #[(bkV A1 rs.length d1 A3 (M.obeyTo (l.map Wr.wk, m) (es.take j)).2.length d2), enV es[j]] x (OrRet x q)) := Lib.hid (fun x hb => by
        have hcall := specObeyed A1 rs d1 A3 (M.obeyTo (l.map Wr.wk, m) (es.take j)).2 d2 es[j] x (HBB.out.sf.below hb).wks.1 (fun r hr h => (HBB.out.sf.2.1 r hr).nilc h) (by have := HSM.out.1; omega) (HSM.out.2.mono (by omega)) (las_of (LasOwn.below HBB.out.la hb)) (row_nilc HBB.out.la) (by have := HLL.out; omega) hn1 hp1
        rw [HQ.out] at hcall
        exact hcall)
      clear hbb hmp hap hkp hq
      go_upto_region 7 with (fail)
      refine wp_region_fin 9 (fun x => Below wr.heap.size wr x) [(0, true), (1, true), (2, true), (3, true), (4, true), (5, false), (6, true), (7, true), (8, true), (9, false)] (by kernel_rfl) (by kernel_rfl) (fun _ _ _ _ _ h => h) (by kernel_rfl) (by decide) (Below.refl _ _).drew ?_
      intro hHeld
      repeat (first
        | (refine seqF_reads (by simp only [List.getElem?_toArray, List.getElem?_cons_succ, List.getElem?_cons_zero]; first | done | rfl) (by rfl) ?_; apply Exists.intro; apply And.intro; (focus (intro w hSw; (try (replace hSw := hSw (by decide +kernel))); (try (have hD := hSw; obtain ⟨k0, k1⟩ := (HBB.out.box.below hD).two; (have q0 := (hD.cell (p := ⟨ob, oo + j * 10, none⟩) zo).trans c0); (have q1 := (hD.cell (p := ⟨ob, oo + j * 10 + 1, none⟩) zo).trans c1); (have q2 := (hD.cell (p := ⟨ob, oo + j * 10 + 2, none⟩) zo).trans c2); (have q3 := (hD.cell (p := ⟨ob, oo + j * 10 + 3, none⟩) zo).trans c3); (have q4 := (hD.cell (p := ⟨ob, oo + j * 10 + 4, none⟩) zo).trans c4); (have q5 := (hD.cell (p := ⟨ob, oo + j * 10 + 5, none⟩) zo).trans c5); (have q6 := (hD.cell (p := ⟨ob, oo + j * 10 + 6, none⟩) zo).trans c6); (have q7 := (hD.cell (p := ⟨ob, oo + j * 10 + 7, none⟩) zo).trans c7); (have q8 := (hD.cell (p := ⟨ob, oo + j * 10 + 8, none⟩) zo).trans c8); (have q9 := (hD.cell (p := ⟨ob, oo + j * 10 + 9, none⟩) zo).trans c9))); go_simp; (try with_reducible rfl); done)); (try simp only [Act.put, List.setIfInBounds_toArray, List.set_cons_zero, List.set_cons_succ]))
        | (refine seqF_call (by simp only [List.getElem?_toArray, List.getElem?_cons_succ, List.getElem?_cons_zero]; first | done | rfl) (by rfl) (fun K hK => ?_) (by decide); go_simp; go_at_call 35; refine (HCALL.out _ hHeld).mono ?_; rintro r w1 ⟨v1, v2, rs3, rfl, hs3, hm3, hl3, ha3, b1⟩; obtain ⟨B1, e1, rfl, -, -⟩ := hs3.open; obtain ⟨B2, e2, rfl, -, -⟩ := LasOwn.open hl3; go_simp; refine hK.out _ _ _ (fun _ h => h) (next hHeld b1) ?_; clear hK hHeld; intro hHeld; (have HO3 := Lib.hid (show _ ∧ _ ∧ _ ∧ _ from ⟨hs3, hm3, hl3, ha3⟩)); (have HB3 := Lib.hid b1); clear hs3 hm3 hl3 ha3 b1; (try simp only [Act.put, List.setIfInBounds_toArray, List.set_cons_zero, List.set_cons_succ]))
        | (refine seqF_last (by simp only [List.getElem?_toArray, List.getElem?_cons_succ, List.getElem?_cons_zero]; first | done | rfl) (by rfl) (fun K hK => ?_); (have hold := HBB.out.box.below hHeld); obtain ⟨p0, p1⟩ := hold.two; (have hlo := HS.out.loose0.below HBB.out.box.1 hHeld); (have y0 := hlo 0); (have y1 := hlo 1); (have zp := hold.1); go_simp; refine hK.out _ _ ?_; clear hK; clear hold p0 p1 hlo y0 y1 zp; (have HH := Lib.hid hHeld); clear hHeld; (try simp only [Act.put, List.setIfInBounds_toArray, List.set_cons_zero, List.set_cons_succ])))
      refine seqF_end ?_
      have hbs := HH.out.size
      have hb3s := HB3.out.size
      have hdz : wr.heap.size ≤ wr.drew.heap.size := Nat.le_refl _
      have hbx := (HS.out.box.below HH.out)
      have hlx := HS.out.loose.below HS.out.box.1 HH.out
      have hl0 := HS.out.loose0.below HBB.out.box.1 HH.out
      have hsv := HO3.out.1
      have hlv := HO3.out.2.2.1
      have HEND : Hid (EnSp w (w.heap.size + 1 + 1) w.heap.size (w.heap.size + 1) (l.map Wr.wk, m) es (j + 1) ((w1.setCell ⟨w.heap.size, 0, none⟩ (.slice B1 rs3.length e1)).setCell ⟨w.heap.size, 1, none⟩ (.slice B2 q.1.2.length e2))) := Lib.hid ⟨by
        rw [HSUC.out, HQ2.out]
        exact ⟨B1, e1, B2, e2, rs3, ⟨(HBB.out.box.below HH.out).wr2 _ _, ((hsv.set (by omega) 0 _).set (by omega) 1 _).mono (by omega), LasOwn.mono (own_set (own_set hlv (by omega) 0 _) (by omega) 1 _) (by omega)⟩, HO3.out.2.1, HO3.out.2.2.2⟩, far_2 (next HS.out.below HH.out) (Nat.le_refl _) _ _, (hbx.otherM (by omega)).otherM (by omega), fun i => by rw [World.frozen?_setCell, World.frozen?_setCell]; exact hlx i, fun i => by rw [World.frozen?_setCell, World.frozen?_setCell]; exact hl0 i⟩
      clear hdz hbx hlx hl0 hsv hlv c0 c1 c2 c3 c4 c5 c6 c7 c8 c9
      go_wp2
      go_roundw
      case rel => exact ⟨j + 1, by go_num, by omega, HEND.out⟩
      case measure => simp [intOf]; omega
    · have hj' : j = es.length := by omega
      subst hj'
      obtain ⟨A1, d1, A3, d2, rs, hbb, hmp, hap⟩ := HS.out.book
      rw [List.take_length] at hmp hbb hap
      have HBB := Lib.hid hbb
      have HMP2 := Lib.hid hmp
      have HAP := Lib.hid hap
      obtain ⟨g0, g1⟩ := hbb.box.two
      have zg := hbb.box.1
      obtain ⟨q0, q1⟩ := HS.out.box.two
      have y0 := HS.out.loose 0
      have y1' := HS.out.loose 1
      have zq := HS.out.box.1
      clear hmp hbb hap
      go_wp2
      have hge := fun g (e : (Value.slice A3 (M.obeyTo (l.map Wr.wk, m) es).2.length d2).ownBlock = some g) => World.ownsRow.lt HBB.out.la g e
      refine bodyPost_ret (results_sOa (.slice A1 rs.length d1) (.slice A3 (M.obeyTo (l.map Wr.wk, m) es).2.length d2) (w.heap.size + 1) _ _ rfl (HS.out.box.wr2 _ _)) rfl ⟨.slice A1 rs.length d1, .slice A3 (M.obeyTo (l.map Wr.wk, m) es).2.length d2, rs, rfl, ((HBB.out.sf.set (by omega) 0 _).set (by omega) 1 _).mono (by omega), by rw [HE.out]; exact HMP2.out, ?_, HAP.out, far_2 HS.out.below (by omega) _ _⟩
      rw [HE.out]
      exact LasOwn.mono (own_off (own_off HBB.out.la (fun e => by have := (hge _ e).1; omega) 0 _) (fun e => by have := (hge _ e).1; omega) 1 _) (by omega)
end Go.Proofs.YtblcgbgcccjpcaaGreat
namespace Go.Proofs.YtblcgbgcccjpcaaGreat
open Go.RowKit
set_option maxRecDepth 20000
def enmk (k : Nat) : M.En := ⟨(k : Int), ⟨(k : Int) + 1, (k : Int) + 1 + 1, ⟨(k : Int) + 1 + 1 + 1, markB (k + 4), ⟨(k : Int) + 1 + 1 + 1 + 1 + 1, (k : Int) + 1 + 1 + 1 + 1 + 1 + 1, (k : Int) + 1 + 1 + 1 + 1 + 1 + 1 + 1⟩, markB (k + 8), (k : Int) + 1 + 1 + 1 + 1 + 1 + 1 + 1 + 1 + 1⟩⟩⟩
def enmks (k : Nat) (j : Nat) : List M.En := (List.range j).map fun i => enmk (k + 10 * i)
theorem enmks_len (k j : Nat) : (enmks k j).length = j := by simp [enmks]
theorem enmks_succ (k j : Nat) : enmks k (j + 1) = enmks k j ++ [enmk (k + 10 * j)] := by simp [enmks, List.range_succ]
set_option maxHeartbeats 4000000 in
theorem enmark_any (g : Nat) (l : List M.En) (cap k : Nat) (B : Nat) (w : World) (ho : EnsOwn B w (.slice (some ⟨g, 0, none⟩) l.length cap) l) (hk0 : 0 < k) (hk : k + 10 * l.length ≤ 20000000) :
    Calls Tryz.prog 53 #[.slice (some ⟨g, 0, none⟩) l.length cap, .int .i64 k] w fun r w' => r = .returned (.int .i64 (k + 10 * l.length : Nat)) ∧ EnsOwn B w' (.slice (some ⟨g, 0, none⟩) l.length cap) (enmks k l.length) ∧ Touch g w w' := by
  go_enter Tryz.func53, Tryz.ntmps53
  go_wp2
  go_loopw [1, 5] (fun x i wr => ∃ j : Nat, i = .int .i64 j ∧ j ≤ l.length ∧ x = .int .i64 (k + 10 * j : Nat) ∧ EnsOwn B wr (.slice (some ⟨g, 0, none⟩) l.length cap) (enmks k j ++ l.drop j) ∧ Touch g w wr) (fun _ i _ => l.length - (intOf i).toNat)
  case atStart => exact ⟨0, rfl, Nat.zero_le _, by simp, by simpa [enmks] using ho, Touch.refl _ _⟩
  case round =>
    obtain ⟨j, rfl, hj, rfl, hown, ht⟩ := hrel
    by_cases hlt : j < l.length
    · obtain ⟨K, hK⟩ : ∃ K, k + 10 * j = K := ⟨_, rfl⟩
      have hlen2 : (enmks k j ++ l.drop j).length = l.length := by rw [List.length_append, enmks_len, List.length_drop]; omega
      have hown2 : wr.ownsRow B 70 10 (.slice (some ⟨g, 0, none⟩) l.length cap) l.length (cellsOf enL (enmks k j) ++ (enL l[j] ++ cellsOf enL (l.drop (j + 1)))) := by
        have h := hown
        unfold EnsOwn at h
        rw [hlen2, cellsOf_append, List.drop_eq_getElem_cons hlt] at h
        exact h
      have hz : j * 10 = (cellsOf enL (enmks k j)).length := by rw [cellsOf_len enL_len, enmks_len]
      simp only [enL, List.cons_append, List.nil_append] at hown2
      obtain ⟨⟨c0, c1, c2, c3, c4, c5, c6, c7, c8, c9⟩, f0, f1, f2, f3, f4, f5, f6, f7, f8, f9⟩ := own_cellsEns hown2 hz
      have hgl : g < wr.heap.size := World.block_lt_of_cell? wr _ c0
      have hK1 : 0 < K := by omega
      have hK2 : K < 20000000 := by omega
      have HO0 := Lib.hid hown2
      have HZ := Lib.hid hz
      have HK := Lib.hid hK
      rw [hK]
      clear ho hown hown2 hz hlen2
      go_wp2_with fail
      refine (markText_at _ (K + 4) (by omega) (by omega) (by omega) _).mono ?_
      rintro r v1 ⟨rfl, b2⟩
      have ho2 := Own.below (((((((((HO0.out).stored (j * 10) (.int .i64 ((K : Int))))).1.stored (j * 10 + 1) (.int .i64 ((K : Int) + 1)))).1.stored (j * 10 + 2) (.int .i64 ((K : Int) + 1 + 1)))).1.stored (j * 10 + 3) (.int .i64 ((K : Int) + 1 + 1 + 1))).1) b2
      have ht1 := (((((((((ht).set (j * 10) (.int .i64 ((K : Int))))).set (j * 10 + 1) (.int .i64 ((K : Int) + 1)))).set (j * 10 + 2) (.int .i64 ((K : Int) + 1 + 1)))).set (j * 10 + 3) (.int .i64 ((K : Int) + 1 + 1 + 1)))).below (by simpa using hgl) b2
      have hg1 : g < v1.heap.size := Nat.lt_of_lt_of_le (by simpa using hgl) b2.size
      have hlt5 : j * 10 + 9 < l.length * 10 := by omega
      have d0_4 : v1.cell? ⟨g, j * 10 + 4, none⟩ = some (.string l[j].order.deed.name) := by
        rw [ho2.cellAt _ (by omega), HZ.out]; simp
      have e0_4 := ho2.frozenAt (j * 10 + 4)
      have d0_5 : v1.cell? ⟨g, j * 10 + 5, none⟩ = some (.int .i64 l[j].order.deed.ed.ma) := by
        rw [ho2.cellAt _ (by omega), HZ.out]; simp
      have e0_5 := ho2.frozenAt (j * 10 + 5)
      have d0_6 : v1.cell? ⟨g, j * 10 + 6, none⟩ = some (.int .i64 l[j].order.deed.ed.mi) := by
        rw [ho2.cellAt _ (by omega), HZ.out]; simp
      have e0_6 := ho2.frozenAt (j * 10 + 6)
      have d0_7 : v1.cell? ⟨g, j * 10 + 7, none⟩ = some (.int .i64 l[j].order.deed.ed.pa) := by
        rw [ho2.cellAt _ (by omega), HZ.out]; simp
      have e0_7 := ho2.frozenAt (j * 10 + 7)
      have d0_8 : v1.cell? ⟨g, j * 10 + 8, none⟩ = some (.string l[j].order.deed.page) := by
        rw [ho2.cellAt _ (by omega), HZ.out]; simp
      have e0_8 := ho2.frozenAt (j * 10 + 8)
      have d0_9 : v1.cell? ⟨g, j * 10 + 9, none⟩ = some (.int .i64 l[j].order.deed.who) := by
        rw [ho2.cellAt _ (by omega), HZ.out]; simp
      have e0_9 := ho2.frozenAt (j * 10 + 9)
      have HO1 := Lib.hid ho2
      clear c0 c1 c2 c3 c4 c5 c6 c7 c8 c9 f0 f1 f2 f3 f4 f5 f6 f7 f8 f9 ho2 HO0 b2 hK hlt5
      go_wp2_with fail
      refine (markText_at _ (K + 8) (by omega) (by omega) (by omega) _).mono ?_
      rintro r v2 ⟨rfl, b2⟩
      have ho2 := Own.below (((((((((HO1.out).stored (j * 10 + 4) (.string (markB (K + 4))))).1.stored (j * 10 + 5) (.int .i64 ((K : Int) + 1 + 1 + 1 + 1 + 1)))).1.stored (j * 10 + 6) (.int .i64 ((K : Int) + 1 + 1 + 1 + 1 + 1 + 1)))).1.stored (j * 10 + 7) (.int .i64 ((K : Int) + 1 + 1 + 1 + 1 + 1 + 1 + 1))).1) b2
      have ht2 := (((((((((ht1).set (j * 10 + 4) (.string (markB (K + 4))))).set (j * 10 + 5) (.int .i64 ((K : Int) + 1 + 1 + 1 + 1 + 1)))).set (j * 10 + 6) (.int .i64 ((K : Int) + 1 + 1 + 1 + 1 + 1 + 1)))).set (j * 10 + 7) (.int .i64 ((K : Int) + 1 + 1 + 1 + 1 + 1 + 1 + 1)))).below (by simpa using hg1) b2
      have hg2 : g < v2.heap.size := Nat.lt_of_lt_of_le (by simpa using hg1) b2.size
      have hlt5 : j * 10 + 9 < l.length * 10 := by omega
      have d1_8 : v2.cell? ⟨g, j * 10 + 8, none⟩ = some (.string l[j].order.deed.page) := by
        rw [ho2.cellAt _ (by omega), HZ.out]; simp
      have e1_8 := ho2.frozenAt (j * 10 + 8)
      have d1_9 : v2.cell? ⟨g, j * 10 + 9, none⟩ = some (.int .i64 l[j].order.deed.who) := by
        rw [ho2.cellAt _ (by omega), HZ.out]; simp
      have e1_9 := ho2.frozenAt (j * 10 + 9)
      have HO2 := Lib.hid ho2
      clear d0_4 e0_4 d0_5 e0_5 d0_6 e0_6 d0_7 e0_7 d0_8 e0_8 d0_9 e0_9 ho2 HO1 b2 hlt5
      go_wp2
      go_roundw
      case rel =>
        refine ⟨j + 1, by go_num, by omega, congrArg (Value.int .i64) (by rw [← HK.out]; omega), ?_, ((((ht2).set (j * 10 + 8) (.string (markB (K + 8))))).set (j * 10 + 9) (.int .i64 ((K : Int) + 1 + 1 + 1 + 1 + 1 + 1 + 1 + 1 + 1)))⟩
        have h5 := ((((HO2.out).stored (j * 10 + 8) (.string (markB (K + 8))))).1.stored (j * 10 + 9) (.int .i64 ((K : Int) + 1 + 1 + 1 + 1 + 1 + 1 + 1 + 1 + 1))).1
        rw [setEns (hn := HZ.out)] at h5
        have hl3 : (enmks k (j + 1) ++ l.drop (j + 1)).length = l.length := by rw [List.length_append, enmks_len, List.length_drop]; omega
        unfold EnsOwn
        rw [hl3, cellsOf_append, enmks_succ, cellsOf_append, HK.out, List.append_assoc]
        exact h5
      case measure => simp [intOf]; omega
    · have hj' : j = l.length := by omega
      subst hj'
      rw [List.drop_length, List.append_nil] at hown
      have HO := Lib.hid hown
      clear ho hown
      go_wp2
      go_ret
      exact ⟨rfl, by have h := HO.out; unfold EnsOwn at h ⊢; exact h, ht⟩

set_option maxHeartbeats 1000000 in
theorem enmark_none (A : Option Addr) (cap k : Nat) (w : World) :
    Calls Tryz.prog 53 #[.slice A 0 cap, .int .i64 k] w fun r w' => r = .returned (.int .i64 k) ∧ w = w' := by
  go_enter Tryz.func53, Tryz.ntmps53
  go_wp2
  go_loop [1, 5] (fun x i => x = .int .i64 k ∧ i = .int .i64 0) (fun _ _ => 0)
  case atStart => exact ⟨rfl, rfl⟩
  case round =>
    obtain ⟨rfl, rfl⟩ := hrel
    go_wp2
    go_ret
    exact ⟨rfl, rfl⟩
theorem enmark_own (A : Option Addr) (l : List M.En) (cap k : Nat) (B : Nat) (w : World) (ho : EnsOwn B w (.slice A l.length cap) l) (hk0 : 0 < k) (hk : k + 10 * l.length ≤ 20000000) :
    Calls Tryz.prog 53 #[.slice A l.length cap, .int .i64 k] w fun r w' => r = .returned (.int .i64 (k + 10 * l.length : Nat)) ∧ EnsOwn B w' (.slice A l.length cap) (enmks k l.length) ∧ TouchO (Value.slice A l.length cap).ownBlock w w' := by
  have ho' := ho
  obtain ⟨hl, ⟨h0, hz⟩ | ⟨g, cap', cur, hv, _⟩⟩ := ho'
  · have hl : l = [] := List.length_eq_zero_iff.1 hz
    subst hl
    injection h0 with hA _ hc
    subst hA hc
    refine (enmark_none none 0 k w).mono ?_
    rintro r w' ⟨rfl, rfl⟩
    exact ⟨rfl, World.ownsRow_nil _ _ _ _, Nat.le_refl _, fun B' hB _ => Below.refl _ _, fun k hk _ => rfl⟩
  · injection hv with hA _ _
    subst hA
    refine (enmark_any g l cap k B w ho hk0 hk).mono ?_
    rintro r w' ⟨rfl, ho', ht⟩
    exact ⟨rfl, ho', ht.size, fun B' _ hB => ht.low B' (hB g rfl), fun k hk hne => ht.block k hk (fun e => hne (by rw [e]; rfl))⟩
end Go.Proofs.YtblcgbgcccjpcaaGreat
namespace Go.Proofs.YtblcgbgcccjpcaaGreat
open Go.RowKit
set_option maxRecDepth 20000
theorem ens_of {w : World} {B m c : Nat} {A : Option Addr} {l : List M.En} (h : EnsOwn B w (.slice A m c) l) : Ens w A l := by
  obtain ⟨A', c', hv, _, hf⟩ := own_flat enL_len h
  have hA : A = A' := by injection hv
  rw [hA]; exact hf
theorem oball_small {b : M.Bk} {o : List M.En} {r : List Wr} (h : r.map Wr.wk = (M.obeyedAll b o).1) : r.length ≤ 5 ∧ WrsIn 12 r := wrs_ok (h ▸ (M.obeyAll_ok b o).1)
theorem implObeyedAll_at (l : List Wr) (m : List M.La) (AO : Option Addr) (es : List M.En) (co : Nat) (v : Value) (w : World) (h : BkArg l m v w) (hlen : l.length ≤ 1048576) (hp : WrsIn 1048576 l) (hml : m.length ≤ 1048576) (hmp : ∀ c ∈ m, laIn 1048576 c) (ho : Ens w AO es) (hol : es.length ≤ 1048576) (hop : ∀ e ∈ es, enIn 1048576 e) :
    Calls Tryz.prog 33 #[v, .slice AO es.length co] w (BkRet w (M.obeyedAll (l.map Wr.wk, m) es)) := by
  obtain ⟨rs, g1, g2, rfl, h1, h2, h3, h4, h5⟩ := h
  rw [← h1]
  exact implObeyedAll _ rs _ _ m _ AO es co w h4 (by omega) (wrs_eq h1 hp) h5 hml hmp ho hol hop
theorem specObeyedAll_at (l : List Wr) (m : List M.La) (AO : Option Addr) (es : List M.En) (co : Nat) (v : Value) (w : World) (h : BkArg l m v w) (hlen : l.length ≤ 1048576) (hp : WrsIn 1048576 l) (hml : m.length ≤ 1048576) (ho : Ens w AO es) (hol : es.length ≤ 1048576) (hop : ∀ e ∈ es, enIn 1048576 e) :
    Calls Tryz.prog 38 #[v, .slice AO es.length co] w (BkRet w (M.obeyedAll (l.map Wr.wk, m) es)) := by
  obtain ⟨rs, g1, g2, rfl, h1, h2, h3, h4, h5⟩ := h
  rw [← h1]
  exact specObeyedAll _ rs _ _ m _ AO es co w h4 (fun r hr e => absurd e (h3 r hr).1) (by omega) (wrs_eq h1 hp) h5 hml (fun e => by cases e) ho hol hop
/-- BkRet, its values opened. -/
theorem BkRet.open {w y : World} {q : M.Bk} {r : Ending} (h : BkRet w q r y) : ∃ A1 c1 A2 c2 rs, r = .returned (bkV A1 rs.length c1 A2 q.2.length c2) ∧ SfOwn w.heap.size y (.slice A1 rs.length c1) rs ∧ rs.map Wr.wk = q.1 ∧ LasOwn w.heap.size y (.slice A2 q.2.length c2) q.2 ∧ (∀ g, (Value.slice A2 q.2.length c2).ownBlock = some g → ¬ blocksS (.slice A1 rs.length c1) rs g) ∧ Below w.heap.size w y := by
  obtain ⟨v1, v2, rs, e, h1, h2, h3, h4, h5⟩ := h
  obtain ⟨A1, c1, rfl, -, -⟩ := h1.open
  obtain ⟨A2, c2, rfl, -, -⟩ := LasOwn.open h3
  exact ⟨A1, c1, A2, c2, rs, e, h1, h2, h3, h4, h5⟩
end Go.Proofs.YtblcgbgcccjpcaaGreat
