/- Proved: the law FnOrders returns true at every list of bytes, and the list reads afterwards as before; no condition. -/
import Derived.Test.YtblcgbgcccjpcaaGreatPart46
import Derived.Test.YtblcgbgcccjpcaaGreatPart47
import Derived.Test.YtblcgbgcccjpcaaGreatPart49
import Derived.Lib.SmallJoins
namespace Go.Proofs.YtblcgbgcccjpcaaGreat.fnOrders
open Go.ChangeShapes Go.WideShapes Go.ChangeAt Go.RowKit Go.Joins Go.Deep
open Go.ChangeMaps (open_string shut_string)
set_option linter.unusedVariables false

set_option maxRecDepth 100000 in
set_option maxHeartbeats 16000000 in
theorem walk (a0 : Option Addr) (len0 cap0 : Nat) (w : World) (hc : CodeOk w.heap.size w a0 len0) :
    Calls Tryz.prog 5 #[.slice a0 len0 cap0] w fun e w' => e = .returned (.bool true) ∧ Below w.heap.size w w' := by
  have HC := Lib.hid hc
  clear hc
  by_cases hbig : 4096 < len0
  · go_enter Tryz.func5, Tryz.ntmps5
    go_wp2_with fail
    refine (big_any a0 len0 cap0 _).mono ?_
    rintro e w' ⟨rfl, rfl⟩
    go_wp2
    go_ret
    exact ⟨rfl, Below.refl _ _⟩
  · have hl4 : len0 ≤ 4096 := by omega
    go_enter Tryz.func5, Tryz.ntmps5
    go_wp2_with fail
    refine (big_any a0 len0 cap0 _).mono ?_
    rintro e w' ⟨rfl, rfl⟩
    go_wp2_with fail
    refine (DrawAllOrdered_any _ a0 len0 cap0 hl4 HC.out).mono ?_
    rintro r x1 ⟨bv, AO, os, co, rfl, htop, hors, hol, hop, b1⟩
    obtain ⟨A1, c1, A2, c2, bs, ls, rfl, hs, hla, hbs, hbl⟩ := htop
    have hm := (Mem.start w).below b1
    have HB := Lib.hid (show BkO w.heap.size x1 A1 c1 bs A2 c2 ls from ⟨hs, hla⟩)
    have HBA := Lib.hid HB.out.nils
    have HBLK : Hid (∀ g, blocksB (.slice A1 bs.length c1) (.slice A2 ls.length c2) bs g → g < x1.heap.size) := Lib.hid (fun g hg => by
      rcases hg with hg | hg
      · exact (hs.ge hg).2
      · exact (World.ownsRow.lt hla g hg).2)
    have HBS := Lib.hid (show _ ∧ _ from ⟨hbs, hbl⟩)
    have HO := Lib.hid hors
    have HOP := Lib.hid hop
    have HIN0 := Lib.hid (M.all_in (rs := bs) (l := os) hbl.2)
    clear b1 hs hla hbs hbl hors hop
    replace hm := hm.new (bkA A1 bs.length c1 A2 ls.length c2) 27
    replace HB := Lib.hid (HB.out.alloc (.cells (bkA A1 bs.length c1 A2 ls.length c2) 27))
    replace HO := Lib.hid (HO.out.alloc (.cells (bkA A1 bs.length c1 A2 ls.length c2) 27))
    obtain ⟨p0, p1⟩ := (hm.get (x1.heap.size) ((bkA A1 bs.length c1 A2 ls.length c2)) (by simp)).two
    go_wp2_with fail
    refine (implAllOrdered A1 bs c1 A2 ls c2 AO os co _ HB.out.read.1 (by have := HBS.out.1.1; omega) (HBS.out.1.2.mono (by omega)) HB.out.read.2 (by have := HBS.out.2.1; omega) (fun y hy => Nat.le_trans (HBS.out.2.2 y hy) (by omega)) HO.out (by omega) (fun y hy => ⟨by have := (HOP.out y hy).1; omega, by have := (HOP.out y hy).2; omega⟩)).mono ?_
    rintro r x2 hr
    obtain ⟨A3, c3, A4, c4, A5, c5, r3, rfl, hs3, hm3, hl3, -, hr3, -, b2⟩ := hr.open
    have HX := Lib.hid (show BkR x2 A3 r3 A4 (M.allOrdered (bs.map Wr.wk, ls) os).1.2 from ⟨hs3.wks.1, las_of hl3⟩)
    have HXM := Lib.hid hm3
    have HR := Lib.hid (rps_of hr3)
    have HL5 := Lib.hid ((M.all_ok (bs.map Wr.wk, ls) os).2)
    replace hm := hm.below b2
    replace HB := Lib.hid (HB.out.below b2)
    replace HO := Lib.hid (HO.out.below b2)
    clear b2 hr hs3 hm3 hl3 hr3 p0 p1
    replace hm := hm.new (bkA A3 r3.length c3 A4 (M.allOrdered (bs.map Wr.wk, ls) os).1.2.length c4) 27
    replace HB := Lib.hid (HB.out.alloc (.cells (bkA A3 r3.length c3 A4 (M.allOrdered (bs.map Wr.wk, ls) os).1.2.length c4) 27))
    replace HO := Lib.hid (HO.out.alloc (.cells (bkA A3 r3.length c3 A4 (M.allOrdered (bs.map Wr.wk, ls) os).1.2.length c4) 27))
    replace HX := Lib.hid (HX.out.alloc (.cells (bkA A3 r3.length c3 A4 (M.allOrdered (bs.map Wr.wk, ls) os).1.2.length c4) 27))
    replace HR := Lib.hid (HR.out.below ((Below.refl _ _).alloc (Nat.le_refl _) (.cells (bkA A3 r3.length c3 A4 (M.allOrdered (bs.map Wr.wk, ls) os).1.2.length c4) 27)))
    obtain ⟨p0, p1⟩ := (hm.get (x1.heap.size) ((bkA A1 bs.length c1 A2 ls.length c2)) (by simp)).two
    go_wp2_with fail
    refine (specAllOrdered A1 bs c1 A2 ls c2 AO os co _ HB.out.read.1 HBA.out.1 (by have := HBS.out.1.1; omega) (HBS.out.1.2.mono (by omega)) HB.out.read.2 HBA.out.2 (by have := HBS.out.2.1; omega) HO.out (by omega) (fun y hy => ⟨by have := (HOP.out y hy).1; omega, by have := (HOP.out y hy).2; omega⟩)).mono ?_
    rintro r x3 hr
    obtain ⟨A6, c6, A7, c7, A8, c8, r6, rfl, hs3, hm3, hl3, -, hr3, -, b3⟩ := hr.open
    have HY := Lib.hid (show BkR x3 A6 r6 A7 (M.allOrdered (bs.map Wr.wk, ls) os).1.2 from ⟨hs3.wks.1, las_of hl3⟩)
    have HYM := Lib.hid hm3
    have HS := Lib.hid (rps_of hr3)
    replace hm := hm.below b3
    replace HB := Lib.hid (HB.out.below b3)
    replace HO := Lib.hid (HO.out.below b3)
    replace HX := Lib.hid (HX.out.below b3)
    replace HR := Lib.hid (HR.out.below b3)
    clear b3 hr hs3 hm3 hl3 hr3 p0 p1
    have ba := (Below.refl x3.heap.size x3).alloc (Nat.le_refl _) (.cells (bkA A6 r6.length c6 A7 (M.allOrdered (bs.map Wr.wk, ls) os).1.2.length c7) 27)
    replace HR := Lib.hid (HR.out.below ba)
    replace HS := Lib.hid (HS.out.below ba)
    clear ba
    replace hm := hm.new (bkA A6 r6.length c6 A7 (M.allOrdered (bs.map Wr.wk, ls) os).1.2.length c7) 27
    replace HB := Lib.hid (HB.out.alloc (.cells (bkA A6 r6.length c6 A7 (M.allOrdered (bs.map Wr.wk, ls) os).1.2.length c7) 27))
    replace HO := Lib.hid (HO.out.alloc (.cells (bkA A6 r6.length c6 A7 (M.allOrdered (bs.map Wr.wk, ls) os).1.2.length c7) 27))
    replace HX := Lib.hid (HX.out.alloc (.cells (bkA A6 r6.length c6 A7 (M.allOrdered (bs.map Wr.wk, ls) os).1.2.length c7) 27))
    replace HY := Lib.hid (HY.out.alloc (.cells (bkA A6 r6.length c6 A7 (M.allOrdered (bs.map Wr.wk, ls) os).1.2.length c7) 27))
    obtain ⟨p0, p1⟩ := (hm.get (x2.heap.size) ((bkA A3 r3.length c3 A4 (M.allOrdered (bs.map Wr.wk, ls) os).1.2.length c4)) (by simp)).two
    obtain ⟨q0, q1⟩ := (hm.get (x3.heap.size) ((bkA A6 r6.length c6 A7 (M.allOrdered (bs.map Wr.wk, ls) os).1.2.length c7)) (by simp)).two
    go_wp2_with fail
    refine (likeBook_same A3 r3 c3 A4 (M.allOrdered (bs.map Wr.wk, ls) os).1.2 c4 A6 r6 _ c6 A7 c7 _ HX.out.1 HY.out.1 (HYM.out.trans HXM.out.symm) rfl (by have := (all_small HXM.out).1; omega) (fun r hr => by have := ((all_small HXM.out).2 r hr).2.1; omega) HX.out.2 HY.out.2 (by have := HL5.out.1; omega)).mono ?_
    rintro r x4 ⟨rfl, b4⟩
    replace hm := hm.below b4
    replace HB := Lib.hid (HB.out.below b4)
    replace HO := Lib.hid (HO.out.below b4)
    replace HX := Lib.hid (HX.out.below b4)
    replace HR := Lib.hid (HR.out.below b4)
    replace HS := Lib.hid (HS.out.below b4)
    clear b4 p0 p1 q0 q1 HY HYM
    go_wp2_with fail
    refine (likeReplies_same A5 A8 (M.allOrdered (bs.map Wr.wk, ls) os).2 c5 c8 _ HR.out HS.out (by have := HL5.out.2; omega)).mono ?_
    rintro r x5 ⟨rfl, b5⟩
    replace hm := hm.below b5
    replace HB := Lib.hid (HB.out.below b5)
    replace HO := Lib.hid (HO.out.below b5)
    replace HX := Lib.hid (HX.out.below b5)
    replace HR := Lib.hid (HR.out.below b5)
    clear b5 HS
    obtain ⟨p0, p1⟩ := (hm.get (x1.heap.size) ((bkA A1 bs.length c1 A2 ls.length c2)) (by simp)).two
    go_wp2_with fail
    rcases hok : M.bkOk (bs.map Wr.wk) ls with _ | _
    · have HE := Lib.hid (congrArg List.length (M.all_bad (b := (bs.map Wr.wk, ls)) (l := os) (.inl hok)))
      have hcall := specBookOk A1 bs c1 A2 ls c2 x5 HB.out.read.1 (by have := HBS.out.1.1; omega) (HBS.out.1.2.mono (by omega)) HB.out.read.2 (by have := HBS.out.2.1; omega)
      rw [hok] at hcall
      refine hcall.mono ?_
      rintro r x6 ⟨rfl, b6⟩
      have HM := Lib.hid (hm.below b6).1
      clear hcall b6 hm hok p0 p1
      have he0 : (M.allOrdered (bs.map Wr.wk, ls) os).2.length = 0 := HE.out
      rw [he0]
      go_wp2
      go_ret
      exact ⟨rfl, HM.out⟩
    have HOK := Lib.hid hok
    by_cases h4 : 400 < os.length
    · have HE := Lib.hid (congrArg List.length (M.all_bad (b := (bs.map Wr.wk, ls)) (l := os) (.inr h4)))
      have hcall := specBookOk A1 bs c1 A2 ls c2 x5 HB.out.read.1 (by have := HBS.out.1.1; omega) (HBS.out.1.2.mono (by omega)) HB.out.read.2 (by have := HBS.out.2.1; omega)
      rw [hok] at hcall
      refine hcall.mono ?_
      rintro r x6 ⟨rfl, b6⟩
      have HM := Lib.hid (hm.below b6).1
      clear hcall b6 hm hok p0 p1
      have he0 : (M.allOrdered (bs.map Wr.wk, ls) os).2.length = 0 := HE.out
      rw [he0]
      go_wp2
      go_ret
      exact ⟨rfl, HM.out⟩
    have HLEN := Lib.hid (M.all_len (b := (bs.map Wr.wk, ls)) (l := os) hok (by omega))
    by_cases h30 : 30 < os.length
    · have hcall := specBookOk A1 bs c1 A2 ls c2 x5 HB.out.read.1 (by have := HBS.out.1.1; omega) (HBS.out.1.2.mono (by omega)) HB.out.read.2 (by have := HBS.out.2.1; omega)
      rw [hok] at hcall
      refine hcall.mono ?_
      rintro r x6 ⟨rfl, b6⟩
      have HM := Lib.hid (hm.below b6).1
      clear hcall b6 hm hok p0 p1
      have he0 : (M.allOrdered (bs.map Wr.wk, ls) os).2.length = os.length := HLEN.out
      rw [he0]
      have h5 : ((os.length : Int) == (os.length : Int)) = true := by simp
      clear he0
      go_wp2
      go_ret
      exact ⟨rfl, HM.out⟩
    have HIS := Lib.hid (M.all_is (b := (bs.map Wr.wk, ls)) (l := os) hok (by omega))
    have HTW := Lib.hid (M.all_twice (b := (bs.map Wr.wk, ls)) (l := os) hok (by omega))
    have HKEEP := Lib.hid (fun j => M.ordTo_ok (b := (bs.map Wr.wk, ls)) hok os j)
    have HIN := Lib.hid (M.ordTo_in (rs := bs) 64 (by omega) hok HBS.out.2.2 os)
    have hcall := specBookOk A1 bs c1 A2 ls c2 x5 HB.out.read.1 (by have := HBS.out.1.1; omega) (HBS.out.1.2.mono (by omega)) HB.out.read.2 (by have := HBS.out.2.1; omega)
    rw [hok] at hcall
    refine hcall.mono ?_
    rintro r x6 ⟨rfl, b6⟩
    replace hm := hm.below b6
    replace HB := Lib.hid (HB.out.below b6)
    replace HO := Lib.hid (HO.out.below b6)
    replace HX := Lib.hid (HX.out.below b6)
    replace HR := Lib.hid (HR.out.below b6)
    clear hcall b6 hok p0 p1
    obtain ⟨p0, p1⟩ := (hm.get (x1.heap.size) ((bkA A1 bs.length c1 A2 ls.length c2)) (by simp)).two
    obtain ⟨x7, hx7⟩ : ∃ y, y = x6 := ⟨_, rfl⟩
    subst hx7
    have ba := (Below.refl x7.heap.size x7).alloc (Nat.le_refl _) (.cells (bkA A1 bs.length c1 A2 ls.length c2) 27)
    have HPW : Hid (w.heap.size ≤ x7.heap.size) := Lib.hid hm.1.size
    have hb71 : x1.heap.size < x7.heap.size := (hm.get (x1.heap.size) ((bkA A1 bs.length c1 A2 ls.length c2)) (by simp)).1
    have HST0 : Hid (BkO w.heap.size (x7.alloc (.cells (bkA A1 bs.length c1 A2 ls.length c2) 27)) A1 c1 bs A2 c2 ls ∧ Below x7.heap.size x7 (x7.alloc (.cells (bkA A1 bs.length c1 A2 ls.length c2) 27)) ∧ Holds (x7.alloc (.cells (bkA A1 bs.length c1 A2 ls.length c2) 27)) x7.heap.size (bkA A1 bs.length c1 A2 ls.length c2) ∧ Loose (x7.alloc (.cells (bkA A1 bs.length c1 A2 ls.length c2) 27)) x7.heap.size ∧ ¬ blocksB (.slice A1 bs.length c1) (.slice A2 ls.length c2) bs x7.heap.size) := Lib.hid ⟨HB.out.alloc _, ba, holds_new _ _ _, loose_new _ _ _, fun h => by have := HBLK.out _ h; omega⟩
    have HM := Lib.hid hm
    clear hm ba HB
    go_wp2_with fail
    go_loopw [10] (fun i wr => ∃ (j : Nat) (E1 : Option Addr) (d1 : Nat) (E2 : Option Addr) (d2 : Nat) (ts : List Wr), i = .int .i64 j ∧ j ≤ os.length ∧ Below x7.heap.size x7 wr ∧ Holds wr x7.heap.size (bkA E1 ts.length d1 E2 (M.ordTo (bs.map Wr.wk, ls) (os.take j)).1.2.length d2) ∧ Loose wr x7.heap.size ∧ SfOwn w.heap.size wr (.slice E1 ts.length d1) ts ∧ LasOwn w.heap.size wr (.slice E2 (M.ordTo (bs.map Wr.wk, ls) (os.take j)).1.2.length d2) (M.ordTo (bs.map Wr.wk, ls) (os.take j)).1.2 ∧ ¬ blocksB (.slice E1 ts.length d1) (.slice E2 (M.ordTo (bs.map Wr.wk, ls) (os.take j)).1.2.length d2) ts x7.heap.size ∧ ts.map Wr.wk = (M.ordTo (bs.map Wr.wk, ls) (os.take j)).1.1) (fun i _ => os.length - (intOf i).toNat)
    case atStart => exact ⟨0, A1, c1, A2, c2, bs, rfl, Nat.zero_le _, HST0.out.2.1, HST0.out.2.2.1, HST0.out.2.2.2.1, HST0.out.1.1, HST0.out.1.2, HST0.out.2.2.2.2, rfl⟩
    case round =>
      clear HST0 p0 p1
      obtain ⟨j, E1, d1, E2, d2, ts, rfl, hj, hbw, hbx, hlx, hsf, hlas, hnb, hmp⟩ := hrel
      have HBW := Lib.hid hbw
      have HBX := Lib.hid (show _ ∧ _ from ⟨hbx, hlx⟩)
      have HSF := Lib.hid (show _ ∧ _ from ⟨hsf, hlas⟩)
      have HNB := Lib.hid hnb
      have HMP := Lib.hid hmp
      clear hbw hlx hsf hlas hnb hmp
      by_cases hlt : j < os.length
      · obtain ⟨ob, oo, rfl, zo, cc0, cc1, cc2, cc3, cc4, cc5, cc6, cc7, cc8⟩ := Ors_at (HO.out.below HBW.out) hlt
        obtain ⟨hn1, hp1⟩ : orIn 64 os[j] := HOP.out os[j] (List.getElem_mem hlt)
        have HSUC := Lib.hid (M.ordTo_succ (bs.map Wr.wk, ls) os j hlt)
        have hkp := HKEEP.out j
        simp only [M.bkOk, Bool.and_eq_true] at hkp
        have HSM : Hid (ts.length ≤ 5 ∧ WrsIn 12 ts) := Lib.hid (wrs_ok (by rw [HMP.out]; exact hkp.1))
        have HLL := Lib.hid (M.lasOk_len hkp.2)
        have HQJ : Hid (M.ordered (ts.map Wr.wk, (M.ordTo (bs.map Wr.wk, ls) (os.take j)).1.2) os[j] = (M.ordI (M.ordTo (bs.map Wr.wk, ls) (os.take j)).1 os[j])) := Lib.hid (by
          have h := HKEEP.out j
          rw [HMP.out]
          unfold M.ordered
          rw [if_pos h])
        have HRJ : Hid ((M.allOrdered (bs.map Wr.wk, ls) os).2[j]? = some (M.ordI (M.ordTo (bs.map Wr.wk, ls) (os.take j)).1 os[j]).2) := Lib.hid (by rw [HIS.out]; exact M.ordTo_rep (bs.map Wr.wk, ls) os j hlt)
        have h0d : Holds wr.drew x7.heap.size (bkA E1 ts.length d1 E2 (M.ordTo (bs.map Wr.wk, ls) (os.take j)).1.2.length d2) := hbx
        have HZS : Hid (x7.heap.size < wr.heap.size) := Lib.hid hbx.1
        clear hkp hbx
        go_upto_region 16 with (fail)
        go_cut [11, 12] (fun s11 s12 wx => OrdBox wr (M.ordI (M.ordTo (bs.map Wr.wk, ls) (os.take j)).1 os[j]) s11 s12 wx)
        case first =>
          refine wp_region_mix (OrdF13 (bkV E1 ts.length d1 E2 (M.ordTo (bs.map Wr.wk, ls) (os.take j)).1.2.length d2) (.slice (some ⟨ob, oo, none⟩) os.length co) (.int .i64 j) (.pointer (some ⟨ob, oo + j * 9, none⟩)) (orV os[j]) wr.heap.size (M.ordI (M.ordTo (bs.map Wr.wk, ls) (os.take j)).1 os[j])) (lkOrd 6) (relOrd 6) 11 [0, 1, 2, 3, 4] [(5, [6, 7, 8])] [9, 10] [(11, false), (12, false)] (by kernel_rfl) (by kernel_rfl) (fun _ _ _ _ _ h => h) (by kernel_rfl) (ordF13_st (bkV E1 ts.length d1 E2 (M.ordTo (bs.map Wr.wk, ls) (os.take j)).1.2.length d2) (.slice (some ⟨ob, oo, none⟩) os.length co) (.int .i64 j) (.pointer (some ⟨ob, oo + j * 9, none⟩)) (orV os[j]) wr.heap.size (M.ordI (M.ordTo (bs.map Wr.wk, ls) (os.take j)).1 os[j])) ?_ ?_
          · refine ⟨?_, ?_, ?_, ?_, ?_, ?_, ?_, ?_, ?_, ?_, ?_, trivial⟩
            · intro u e a x hdep hbase hb
              refine if_read rfl ?_
              have e2 : a.tmps[9]? = some (.pointer (some ⟨x7.heap.size, 0, none⟩)) := (hbase 9 (by decide +kernel)).trans rfl
              clear hdep hbase
              refine ⟨(bkV E1 ts.length d1 E2 (M.ordTo (bs.map Wr.wk, ls) (os.take j)).1.2.length d2), fun y hS => ?_, rfl, (fun j hj => by simp [lkOrd] at hj)⟩
              obtain ⟨k0, k1⟩ := (h0d.below hS).two
              go_simp
              try with_reducible rfl
            · intro u e a x hdep hbase hb
              refine if_read rfl ?_
              have e2 : a.tmps[4]? = some (.slice (some ⟨ob, oo, none⟩) os.length co) := (hbase 4 (by decide +kernel)).trans rfl
              clear hdep hbase
              refine ⟨.slice (some ⟨ob, oo, none⟩) os.length co, fun y hS => ?_, rfl, (fun j hj => by simp [lkOrd] at hj)⟩
              go_simp
              try with_reducible rfl
            · intro u e a x hdep hbase hb
              refine if_read rfl ?_
              have e2 : a.tmps[10]? = some (.int .i64 j) := (hbase 10 (by decide +kernel)).trans rfl
              clear hdep hbase
              refine ⟨.int .i64 j, fun y hS => ?_, rfl, (fun j hj => by simp [lkOrd] at hj)⟩
              go_simp
              try with_reducible rfl
            · intro u e a x hdep hbase hb
              refine if_read rfl ?_
              obtain ⟨f1, v1⟩ := hdep 1 (by decide) (by decide +kernel)
              obtain ⟨f2, v2⟩ := hdep 2 (by decide) (by decide +kernel)
              have e1 : a.tmps[72]? = some (.slice (some ⟨ob, oo, none⟩) os.length co) := (v1 72 (by decide +kernel)).trans (congrArg some f1)
              have e2 : a.tmps[73]? = some (.int .i64 j) := (v2 73 (by decide +kernel)).trans (congrArg some f2)
              clear hdep hbase v1 v2
              refine ⟨.pointer (some ⟨ob, oo + j * 9, none⟩), fun y hS => ?_, rfl, (fun j hj => by simp [lkOrd] at hj)⟩
              go_simp
              try with_reducible rfl
            · intro u e a x hdep hbase hb
              refine if_read rfl ?_
              obtain ⟨f3, v3⟩ := hdep 3 (by decide) (by decide +kernel)
              have e3 : a.tmps[74]? = some (.pointer (some ⟨ob, oo + j * 9, none⟩)) := (v3 74 (by decide +kernel)).trans (congrArg some f3)
              clear hdep hbase v3
              refine ⟨orV os[j], fun y hS => ?_, rfl, (fun j hj => by simp [lkOrd] at hj)⟩
              have hS2 : Below wr.heap.size wr.drew y := hS
              have q0 := (hS2.cell (p := ⟨ob, oo + j * 9, none⟩) zo).trans cc0
              have q1 := (hS2.cell (p := ⟨ob, oo + j * 9 + 1, none⟩) zo).trans cc1
              have q2 := (hS2.cell (p := ⟨ob, oo + j * 9 + 2, none⟩) zo).trans cc2
              have q3 := (hS2.cell (p := ⟨ob, oo + j * 9 + 3, none⟩) zo).trans cc3
              have q4 := (hS2.cell (p := ⟨ob, oo + j * 9 + 4, none⟩) zo).trans cc4
              have q5 := (hS2.cell (p := ⟨ob, oo + j * 9 + 5, none⟩) zo).trans cc5
              have q6 := (hS2.cell (p := ⟨ob, oo + j * 9 + 6, none⟩) zo).trans cc6
              have q7 := (hS2.cell (p := ⟨ob, oo + j * 9 + 7, none⟩) zo).trans cc7
              have q8 := (hS2.cell (p := ⟨ob, oo + j * 9 + 8, none⟩) zo).trans cc8
              go_simp
              try with_reducible rfl
            · intro u e a x hdep hbase hb
              refine if_eff rfl ?_
              intro K hK
              obtain ⟨f0, v0⟩ := hdep 0 (by decide) (by decide +kernel)
              obtain ⟨f4, v4⟩ := hdep 4 (by decide) (by decide +kernel)
              have e1 : a.tmps[71]? = some (bkV E1 ts.length d1 E2 (M.ordTo (bs.map Wr.wk, ls) (os.take j)).1.2.length d2) := (v0 71 (by decide +kernel)).trans (congrArg some f0)
              have e3 : a.tmps[75]? = some (orV os[j]) := (v4 75 (by decide +kernel)).trans (congrArg some f4)
              clear hdep hbase v0 v4
              go_simp
              go_at_call 17
              have hcall := implOrdered E1 ts d1 E2 (M.ordTo (bs.map Wr.wk, ls) (os.take j)).1.2 d2 os[j] x (HSF.out.1.below (show Below wr.heap.size wr x from (Below.refl wr.heap.size wr).drew.trans hb)).wks.1 (by have := HSM.out.1; omega) (HSM.out.2.mono (by omega)) (las_of (LasOwn.below HSF.out.2 (show Below wr.heap.size wr x from (Below.refl wr.heap.size wr).drew.trans hb))) (by have := HLL.out; omega) (fun y hy => Nat.le_trans (HIN.out j (by omega) y hy) (by omega)) (by have := hn1; omega) (by have := hp1; omega)
              rw [HQJ.out] at hcall
              refine hcall.mono ?_
              clear hcall
              rintro r y h
              obtain ⟨v, E, rfl, h5, b1, hE⟩ := h.res (B := wr.heap.size) hb.size
              go_simp
              exact hK.out _ E _ h5 (fun j hj => by simp [lkOrd] at hj) b1 hE
            · intro u e a x hdep hbase hb
              refine if_read rfl ?_
              obtain ⟨f4, v4⟩ := hdep 5 (by decide) (by decide +kernel)
              have e4 : a.tmps[76]? = some (u 5) := v4 76 (by decide +kernel)
              obtain ⟨_, _, _, _, _, hv, -⟩ := f4
              clear hdep hbase v4
              refine ⟨u 5, fun y hS => ?_, ⟨_, _, hv⟩, (fun j hj => by simp [lkOrd] at hj; subst hj; simp [relOrd])⟩
              clear hv
              go_simp
              try with_reducible rfl
            · intro u e a x hdep hbase hb
              refine if_read rfl ?_
              obtain ⟨⟨p, q, hv⟩, v5⟩ := hdep 6 (by decide) (by decide +kernel)
              have e5 : a.tmps[70]? = some (.tuple #[p, q]) := (v5 70 (by decide +kernel)).trans (congrArg some hv)
              clear hdep hbase v5
              refine ⟨p, fun y hS => ?_, trivial, (fun j hj => by simp [lkOrd] at hj; subst hj; simp only [relOrd]; exact ⟨p, q, hv, rfl⟩)⟩
              clear hv
              go_simp
              try with_reducible rfl
            · intro u e a x hdep hbase hb
              refine if_read rfl ?_
              obtain ⟨⟨p, q, hv⟩, v5⟩ := hdep 6 (by decide) (by decide +kernel)
              have e5 : a.tmps[70]? = some (.tuple #[p, q]) := (v5 70 (by decide +kernel)).trans (congrArg some hv)
              clear hdep hbase v5
              refine ⟨q, fun y hS => ?_, trivial, (fun j hj => by simp [lkOrd] at hj; subst hj; simp only [relOrd]; exact ⟨p, q, hv, rfl⟩)⟩
              clear hv
              go_simp
              try with_reducible rfl
            · intro u e a x hdep hbase hb
              refine if_eff rfl ?_
              intro K hK
              clear hdep hbase
              go_simp
              exact hK.out _ (fun k => k = x.heap.size) _ ⟨x.heap.size, rfl, holds_new _ _ _, loose_new _ _ _, fun k => Iff.rfl⟩ (fun j hj => by simp [lkOrd] at hj) ((Below.refl _ _).alloc (Nat.le_refl _) _) (fun g hg => by subst hg; simp)
            · intro u e a x hdep hbase hb
              refine if_eff rfl ?_
              intro K hK
              clear hdep hbase
              go_simp
              exact hK.out _ (fun k => k = x.heap.size) _ ⟨x.heap.size, rfl, holds_new _ _ _, loose_new _ _ _, fun k => Iff.rfl⟩ (fun j hj => by simp [lkOrd] at hj) ((Below.refl _ _).alloc (Nat.le_refl _) _) (fun g hg => by subst hg; simp)
          · intro u e y hF hrel hfoot hap hb
            obtain ⟨B1, d1, B2, d2, rs, hv4, o1, hmq, o2, hap2, hE⟩ := hF 5 (by decide)
            obtain ⟨G, hvG, hG, hGl, hEG⟩ := hF 9 (by decide)
            obtain ⟨H, hvH, hH, hHl, hEH⟩ := hF 10 (by decide)
            have r5 : u 6 = u 5 := hrel 6 5 (by decide) rfl
            obtain ⟨p6, q6, hp6, e6⟩ : ∃ a b, u 6 = .tuple #[a, b] ∧ u 7 = a := hrel 7 6 (by decide) rfl
            obtain ⟨p7, q7, hp7, e7⟩ : ∃ a b, u 6 = .tuple #[a, b] ∧ u 8 = b := hrel 8 6 (by decide) rfl
            rw [r5, hv4] at hp6 hp7
            obtain ⟨rfl, rfl⟩ : p6 = bkV B1 rs.length d1 B2 (M.ordI (M.ordTo (bs.map Wr.wk, ls) (os.take j)).1 os[j]).1.2.length d2 ∧ q6 = rpV (M.ordI (M.ordTo (bs.map Wr.wk, ls) (os.take j)).1 os[j]).2.1 (M.ordI (M.ordTo (bs.map Wr.wk, ls) (os.take j)).1 os[j]).2.2 := by simpa using hp6.symm
            obtain ⟨rfl, rfl⟩ : p7 = bkV B1 rs.length d1 B2 (M.ordI (M.ordTo (bs.map Wr.wk, ls) (os.take j)).1 os[j]).1.2.length d2 ∧ q7 = rpV (M.ordI (M.ordTo (bs.map Wr.wk, ls) (os.take j)).1 os[j]).2.1 (M.ordI (M.ordTo (bs.map Wr.wk, ls) (os.take j)).1 os[j]).2.2 := by simpa using hp7.symm
            have hg := (hfoot 9 G (by decide) ((hEG G).2 rfl)).1
            have hh := (hfoot 10 H (by decide) ((hEH H).2 rfl)).1
            have hGH : G ≠ H := fun e' => hap 9 10 G (by decide) (by decide) (by decide) ((hEG G).2 rfl) ((hEH G).2 e')
            have hGB : ¬ blocksB (.slice B1 rs.length d1) (.slice B2 (M.ordI (M.ordTo (bs.map Wr.wk, ls) (os.take j)).1 os[j]).1.2.length d2) rs G := fun h => hap 5 9 G (by decide) (by decide) (by decide) ((hE G).2 h) ((hEG G).2 rfl)
            have hHB : ¬ blocksB (.slice B1 rs.length d1) (.slice B2 (M.ordI (M.ordTo (bs.map Wr.wk, ls) (os.take j)).1 os[j]).1.2.length d2) rs H := fun h => hap 5 10 H (by decide) (by decide) (by decide) ((hE H).2 h) ((hEH H).2 rfl)
            have HBD := Lib.hid hb
            have HEND := Lib.hid (ordBox_of o1 hmq o2 hap2 hG hH hg hh hGH hGB hHB ((Below.refl wr.heap.size wr).drew.trans hb))
            simp only [fillAct, dstAt, show List.range 11 = [0, 1, 2, 3, 4, 5, 6, 7, 8, 9, 10] from rfl, List.foldl_cons, List.foldl_nil, List.getElem?_toArray, List.getElem?_cons_succ, List.getElem?_cons_zero, Option.bind_some, List.setIfInBounds_toArray, List.set_cons_zero, List.set_cons_succ]
            rw [hvG, hvH, e6, e7]
            clear hF hrel hfoot hap hE hEG hEH hp6 hp7 o1 o2 hap2 hmq hGB hHB
            obtain ⟨g0, g1⟩ := hG.two
            obtain ⟨t0, t1⟩ := hH.two
            have y0 := hGl 0
            have y1 := hGl 1
            have z0 := hHl 0
            have z1 := hHl 1
            have zg := hG.1
            have zh := hH.1
            have hHG : H ≠ G := fun e' => hGH e'.symm
            refine seq_call (by simp only [List.getElem?_toArray, List.getElem?_cons_succ, List.getElem?_cons_zero]; first | done | rfl) (by rfl) (fun K hK => ?_)
            go_simp
            refine hK.out _ _ (far_2 HBD.out hg _ _) ?_
            clear hK
            intro hTriv
            (try simp only [Act.put, List.setIfInBounds_toArray, List.set_cons_zero, List.set_cons_succ])
            refine seq_call (by simp only [List.getElem?_toArray, List.getElem?_cons_succ, List.getElem?_cons_zero]; first | done | rfl) (by rfl) (fun K hK => ?_)
            go_simp
            refine hK.out _ _ (far_2 (far_2 HBD.out hg _ _) hh _ _) ?_
            clear hK
            intro hTriv
            (try simp only [Act.put, List.setIfInBounds_toArray, List.set_cons_zero, List.set_cons_succ])
            refine seq_end ?_
            go_wp2
            go_meet
            exact HEND.out
        case rest =>
          obtain ⟨F1, e1, F2, e2, us, G, Hb, rfl, rfl, hG, hH, hGH, b8, y1, y2, m1, ap1, nG, nH⟩ := hcut
          obtain ⟨hrl, hre⟩ := List.getElem?_eq_some_iff.1 HRJ.out
          obtain ⟨rb, ro, hA5, zr, r0, r1'⟩ := Rps_at (HR.out.below (next HBW.out b8)) hrl
          rw [hre] at r0 r1'
          subst hA5
          obtain ⟨t0, t1⟩ := y2.two
          have zt := y2.1
          have HY1 := Lib.hid y1
          have HB8 := Lib.hid b8
          have HM1 := Lib.hid m1
          clear cc0 cc1 cc2 cc3 cc4 cc5 cc6 cc7 cc8 h0d hre y1 b8 m1 ap1 nG nH
          go_wp2_with fail
          refine wp_region_seq (fun w' => Below wc.heap.size wc w') [(0, true), (1, true), (2, true), (3, true), (4, true), (5, true)] (by kernel_rfl) (by kernel_rfl) (fun _ _ _ _ _ h => h) (by kernel_rfl) (by decide) (Below.refl _ _).drew ?_
          intro hHeld
          repeat (first
            | (refine seq_read (by simp only [List.getElem?_toArray, List.getElem?_cons_succ, List.getElem?_cons_zero]; first | done | rfl) (by rfl) (fun w _ => rpneq_read (c := (M.ordI (M.ordTo (bs.map Wr.wk, ls) (os.take j)).1 os[j]).2) rfl rfl rfl w) ?_; (try simp only [Act.put, List.setIfInBounds_toArray, List.set_cons_zero, List.set_cons_succ]))
            | (refine seq_skip (by simp only [List.getElem?_toArray, List.getElem?_cons_succ, List.getElem?_cons_zero]; first | done | rfl) (by rfl) ?_; (try simp only [Act.put, List.setIfInBounds_toArray, List.set_cons_zero, List.set_cons_succ]))
            | (refine seq_reads (by simp only [List.getElem?_toArray, List.getElem?_cons_succ, List.getElem?_cons_zero]; first | done | rfl) (by rfl) ?_; apply Exists.intro; apply And.intro; (focus (intro w hSw; obtain ⟨hcS, -⟩ := bcell hSw; go_simp; (try with_reducible rfl); done)); (try simp only [Act.put, List.setIfInBounds_toArray, List.set_cons_zero, List.set_cons_succ]))
            | (refine seq_pass (by simp only [List.getElem?_toArray, List.getElem?_cons_succ, List.getElem?_cons_zero]; first | done | rfl) (by rfl) hHeld ?_; clear hHeld; intro hHeld; (try simp only [Act.put, List.setIfInBounds_toArray, List.set_cons_zero, List.set_cons_succ])))
          refine seq_end ?_
          generalize World.drew _ = wd at hHeld ⊢
          obtain ⟨k0, k1⟩ := (HY1.out.box.below hHeld).two
          have zk := (HY1.out.box.below hHeld).1
          have hold := (HBX.out.1.below HB8.out).below hHeld
          have hlo := (HBX.out.2.below HBX.out.1.1 HB8.out).below (HBX.out.1.below HB8.out).1 hHeld
          obtain ⟨p0, p1⟩ := hold.two
          have l0 := hlo 0
          have l1 := hlo 1
          have zp := hold.1
          have HH := Lib.hid hHeld
          have HOLD := Lib.hid (show _ ∧ _ from ⟨hold, hlo⟩)
          clear hHeld hold hlo t0 t1 zt r0 r1' zr hrl
          go_wp2
          go_roundw
          case rel =>
            have hz := HZS.out
            have hpw := HPW.out
            have hsz := HB8.out.size
            have hsw := HBW.out.size
            refine ⟨j + 1, F1, e1, F2, e2, us, by go_num, by omega, ?_, ?_, fun i => by rw [World.frozen?_setCell, World.frozen?_setCell]; exact HOLD.out.2 i, ?_, ?_, ?_, ?_⟩
            · exact far_2 (next (next HBW.out HB8.out) HH.out) (Nat.le_refl _) _ _
            · rw [HSUC.out]
              exact HOLD.out.1.wr2 _ _
            · exact (((HY1.out.sf.below HH.out).set (by omega) 0 _).set (by omega) 1 _).mono (by omega)
            · rw [HSUC.out]
              exact LasOwn.mono (own_set (own_set (LasOwn.below HY1.out.la HH.out) (by omega) 0 _) (by omega) 1 _) (by omega)
            · rw [HSUC.out]
              exact fun h => by have := (HY1.out.ge h).1; omega
            · rw [HSUC.out]
              exact HM1.out
          case measure => simp [intOf]; omega
      · have hj' : j = os.length := by omega
        subst hj'
        rw [List.take_length] at hbx
        have hsf := HSF.out
        rw [List.take_length] at hsf
        have hmp := HMP.out
        rw [List.take_length] at hmp
        have HIS2 := Lib.hid HIS.out.symm
        rw [HIS2.out] at hbx hsf hmp
        have HMP2 := Lib.hid hmp
        have hm := HM.out.below HBW.out
        have HX2 := Lib.hid (HX.out.below HBW.out)
        have HO2 := Lib.hid (HO.out.below HBW.out)
        have hm2 := hm.add hbx
        have HY2 := Lib.hid (show BkR wr E1 ts E2 (M.allOrdered (bs.map Wr.wk, ls) os).1.2 from ⟨hsf.1.wks.1, las_of hsf.2⟩)
        clear hm hbx hsf hmp HSF HBX HNB
        obtain ⟨p0, p1⟩ := (hm2.get (x2.heap.size) ((bkA A3 r3.length c3 A4 (M.allOrdered (bs.map Wr.wk, ls) os).1.2.length c4)) (by simp)).two
        go_wp2_with fail
        obtain ⟨q2, hq2⟩ : ∃ q2, M.allOrdered (r3.map Wr.wk, (M.allOrdered (bs.map Wr.wk, ls) os).1.2) os = q2 := ⟨_, rfl⟩
        have hq3 : q2.1 = (M.allOrdered (bs.map Wr.wk, ls) os).1 := by
          rw [← hq2, HXM.out]
          exact HTW.out.2
        have hcall := fun W h1 h2 h3 => implAllOrdered A3 r3 c3 A4 (M.allOrdered (bs.map Wr.wk, ls) os).1.2 c4 AO os co W h1 (by have := (all_small HXM.out).1; omega) ((all_small HXM.out).2.mono (by omega)) h2 (by have := HL5.out.1; omega) (fun y hy => Nat.le_trans (HIN0.out y hy) (by omega)) h3 (by omega) (fun y hy => ⟨by have := (HOP.out y hy).1; omega, by have := (HOP.out y hy).2; omega⟩)
        rw [hq2] at hcall
        refine (hcall _ HX2.out.1 HX2.out.2 HO2.out).mono ?_
        rintro r x9 hr
        obtain ⟨A11, c11, A12, c12, A13, c13, r11, rfl, hs3, hm3, hl3, -, hr3, -, b9⟩ := hr.open
        have HW := Lib.hid (show Wks x9 A11 r11 from hs3.wks.1)
        have HWM : Hid (r11.map Wr.wk = (M.allOrdered (bs.map Wr.wk, ls) os).1.1) := Lib.hid (by rw [hm3, hq3])
        replace hm2 := hm2.below b9
        replace HX2 := Lib.hid (HX2.out.below b9)
        replace HY2 := Lib.hid (HY2.out.below b9)
        clear hcall hr hs3 hm3 hl3 hr3 b9 p0 p1 hq2 hq3
        obtain ⟨n2, hn2⟩ : ∃ n2, q2.1.2.length = n2 := ⟨_, rfl⟩
        rw [hn2]
        clear hn2
        have hm3 := hm2.new (bkA A11 r11.length c11 A12 n2 c12) 27
        have ba := (Below.refl x9.heap.size x9).alloc (Nat.le_refl _) (.cells (bkA A11 r11.length c11 A12 n2 c12) 27)
        replace HX2 := Lib.hid (HX2.out.below ba)
        replace HY2 := Lib.hid (HY2.out.below ba)
        replace HW := Lib.hid (HW.out.below ba)
        clear hm2 ba
        obtain ⟨p0, p1⟩ := (hm3.get (x2.heap.size) ((bkA A3 r3.length c3 A4 (M.allOrdered (bs.map Wr.wk, ls) os).1.2.length c4)) (by simp)).two
        obtain ⟨s0, s1⟩ := (hm3.get (x7.heap.size) (bkA E1 ts.length d1 E2 (M.allOrdered (bs.map Wr.wk, ls) os).1.2.length d2) (by simp)).two
        go_wp2_with fail
        refine (likeBook_same A3 r3 c3 A4 (M.allOrdered (bs.map Wr.wk, ls) os).1.2 c4 E1 ts _ d1 E2 d2 _ HX2.out.1 HY2.out.1 (HMP2.out.trans HXM.out.symm) rfl (by have := (all_small HXM.out).1; omega) (fun r hr => by have := ((all_small HXM.out).2 r hr).2.1; omega) HX2.out.2 HY2.out.2 (by have := HL5.out.1; omega)).mono ?_
        rintro r x10 ⟨rfl, b10⟩
        replace hm3 := hm3.below b10
        replace HX2 := Lib.hid (HX2.out.below b10)
        replace HW := Lib.hid (HW.out.below b10)
        clear b10 p0 p1 s0 s1
        obtain ⟨p0, p1⟩ := (hm3.get (x2.heap.size) ((bkA A3 r3.length c3 A4 (M.allOrdered (bs.map Wr.wk, ls) os).1.2.length c4)) (by simp)).two
        obtain ⟨s0, s1⟩ := (hm3.get (x9.heap.size) (bkA A11 r11.length c11 A12 n2 c12) (by simp)).two
        have HM3 := Lib.hid hm3.1
        clear hm3
        go_wp2_with fail
        refine (likeShelf_same A11 r11 c11 A3 r3 _ c3 _ HW.out HX2.out.1 (HXM.out.trans HWM.out.symm) rfl (by have := (all_small HXM.out).1; have h := congrArg List.length (HXM.out.trans HWM.out.symm); simp at h; omega) (fun r hr => by have h := (wrs_ok (l := r11) (by rw [HWM.out]; exact (M.all_ok (bs.map Wr.wk, ls) os).1)).2 r hr; have := h.2.1; omega)).mono ?_
        rintro r x11 ⟨rfl, b11⟩
        have HE := Lib.hid (next HM3.out b11)
        clear b11 p0 p1 s0 s1
        go_wp2
        go_ret
        exact ⟨rfl, HE.out⟩

set_option maxRecDepth 100000 in
theorem lifted (os : Os) (started : os.Started) (H : Type) (enc : TypeId × Value → H) :
    ReturnsInHanded {} Tryz.checked os 5 .any (Rows.fnOrdersSpec.pre6 enc Tryz.prog Tryz.f5 Rows.fnOrdersRow.domain false) (Rows.fnOrdersSpec.post enc Tryz.prog Tryz.f5 false true false false) := by
  refine returnsInHanded_of_change (C := Tryz.checked) own started (by kernel_rfl) Tryz.func5
    (ChangeSpec.witness6 (enc := enc) (C := Tryz.checked) false ⟨#[], #[.slice none 0 0], []⟩ 8 (by kernel_rfl) (by kernel_rfl) (by kernel_rfl) (by kernel_rfl)) ?_
  intro W base args ds gs before hval0 hW hcnd _
  have hval : ∀ (j : Nat) t v, Tryz.f5.params[j]? = some t → args[j]? = some v → Value.okWide Tryz.prog W .any base t v := hval0
  have hW' := hW
  obtain ⟨p, q, hA0, -⟩ := hW
  have hA : DataW.TrodAll enc Tryz.prog W 0 (fun _ => true) true Tryz.f5.params.toList args.toList ds p := hA0
  rw [Tryz.params5] at hA hval
  obtain ⟨v0, vs0, d0, ds0, p0, q0, hargs, rfl, rfl, h0, r0⟩ := trodAll_cons hA
  obtain ⟨rfl, rfl, rfl⟩ := trodAll_nil r0
  obtain rfl : args = #[v0] := by cases args; simp_all
  clear hA0 hval0
  have hv0 := hval 0 _ v0 rfl rfl
  obtain ⟨a0, len0, cap0, rfl, hc⟩ := open_code hv0 h0
  exact (walk a0 len0 cap0 W hc).mono fun r W' ⟨he, hb⟩ => ⟨_, he, law_post rfl rfl Tryz.underlying4 (by kernel_rfl) (n := 1)
    (fun ds' hd => by rcases ds' with _ | ⟨x0, _ | ⟨y, z⟩⟩ <;> simp at hd <;> exact ⟨rfl, rfl, rfl⟩) rfl hW' hb⟩

theorem over : Rows.fnOrdersRow.holds Tryz.pinned (OpenSpec.ofChange Rows.fnOrdersSpec) :=
  OpenClaim.holds_of_wide 5 Tryz.f5 rfl rfl rfl rfl rfl rfl rfl ⟨rfl, rfl, rfl, rfl, rfl⟩ rfl rfl rfl rfl rfl (by kernel_rfl) Tryz.func5 (by kernel_rfl)
    (of_decide_eq_true (by kernel_rfl)) (by unfold Func.isWrapper; first | (rw [if_pos (by decide +kernel)]; kernel_rfl) | (rw [if_neg (by decide +kernel)]; exact ⟨rfl, rfl⟩))
    (fun os started H enc _ => lifted os started H enc)

theorem proved : Rows.FnOrdersSaid :=
  over
#print axioms proved
end Go.Proofs.YtblcgbgcccjpcaaGreat.fnOrders
