/- Proved: the law FnShelf returns true at every list of bytes, and the list reads afterwards as before; the variables of the library that the card lists lie as their initialisers lay them. -/
import Derived.Test.YtdcdalbbjfjadaaGreatDoorPart26
import Derived.Test.YtdcdalbbjfjadaaGreatDoorPart35
import Derived.Test.YtdcdalbbjfjadaaGreatDoorPart36
import Derived.Test.YtdcdalbbjfjadaaGreatDoorPart39
import Derived.Test.YtdcdalbbjfjadaaGreatDoorPart47
import Derived.Test.YtdcdalbbjfjadaaGreatDoorPart48
import Derived.Test.YtdcdalbbjfjadaaGreatDoorPart46
import Derived.Test.YtdcdalbbjfjadaaGreatDoorTie
import Derived.Test.YtdcdalbbjfjadaaGreatDoorCards
import Derived.Test.YtdcdalbbjfjadaaGreatDoorPart52
import Derived.Lib.SmallJoins
namespace Go.Proofs.YtdcdalbbjfjadaaGreatDoor.fnShelf
open Go.ChangeShapes Go.WideShapes Go.ChangeAt Go.RowKit Go.Joins Go.Deep
open Go.ChangeMaps (open_string shut_string)
set_option linter.unusedVariables false

set_option maxRecDepth 100000 in
set_option maxHeartbeats 16000000 in
theorem walk (a0 : Option Addr) (len0 cap0 : Nat) (w : World) (hc : CodeOk w.heap.size w a0 len0) :
    Calls Tryz.prog 3 #[.slice a0 len0 cap0] w fun e w' => e = .returned (.bool true) ∧ Below w.heap.size w w' := by
  have HC := Lib.hid hc
  clear hc
  by_cases hbig : 4096 < len0
  · go_enter Tryz.func3, Tryz.ntmps3
    go_wp2_with fail
    refine (big_any a0 len0 cap0 _).mono ?_
    rintro r w' ⟨rfl, rfl⟩
    go_wp2
    go_ret
    exact ⟨rfl, Below.refl _ _⟩
  · have hl4 : len0 ≤ 4096 := by omega
    go_enter Tryz.func3, Tryz.ntmps3
    go_wp2_with fail
    refine (big_any a0 len0 cap0 _).mono ?_
    rintro r w' ⟨rfl, rfl⟩
    go_wp2_with fail
    refine (DrawDoes_any _ a0 len0 cap0 hl4 HC.out).mono ?_
    rintro e0 x1 ⟨v0, d, rfl, htop, hd, b1⟩
    obtain ⟨A, c, rs, rfl, hs, hz⟩ := htop
    have HS := Lib.hid hs.wks.1
    have HSA := Lib.hid (fun r (hr : r ∈ rs) (h : r.ad = none) => (hs.2.1 r hr).nilc h)
    have HSZ := Lib.hid hz
    clear hs hz
    have HDZ := Lib.hid hd
    have hm := (Mem.start w).below b1
    clear b1 hd hbig
    replace hm := hm.new (ddC d) 28
    replace HS := Lib.hid (HS.out.alloc (.cells (ddC d) 28))
    obtain ⟨m, rc, rp, hDo⟩ : ∃ m rc rp, M.does (rs.map Wr.wk) d = (m, (rc, rp)) := ⟨_, _, _, rfl⟩
    have HDO := Lib.hid hDo
    have HOKM : Hid (M.sfOk m = true) := Lib.hid (by have h := M.keep_does (rs.map Wr.wk) d; rw [hDo] at h; exact h)
    clear hDo
    obtain ⟨p0, p1, p2, p3, p4, p5, p6⟩ := (hm.get (x1.heap.size) (ddC d) (by simp)).seven
    have pz := (hm.get (x1.heap.size) (ddC d) (by simp)).1
    have hcall := implDoes A rs c d _ HS.out (by have := HSZ.out.1; omega) (HSZ.out.2.mono (by omega)) (by have := HDZ.out.1; omega) (by have := HDZ.out.2; omega)
    rw [HDO.out] at hcall
    have HCALL := Lib.hid hcall
    clear hcall
    go_wp2_with fail
    refine HCALL.out.mono ?_
    rintro e1 x2 ⟨vX, lX, rfl, hX, hXm, b2⟩
    obtain ⟨AX, cX, rfl, -, -⟩ := hX.open
    have HX := Lib.hid hX.wks.1
    have HXM : Hid (lX.map Wr.wk = m) := Lib.hid hXm
    have HXA := Lib.hid (fun r (hr : r ∈ lX) (h : r.ad = none) => (hX.2.1 r hr).nilc h)
    have HXZ : Hid (lX.length ≤ 5 ∧ WrsIn 12 lX) := Lib.hid (wrs_ok (by rw [hXm]; exact HOKM.out))
    clear hX hXm
    replace hm := hm.below b2
    replace HS := Lib.hid (HS.out.below b2)
    clear b2
    clear HCALL
    clear p0 p1 p2 p3 p4 p5 p6 pz
    replace hm := hm.new (rpA rc rp) 32
    replace HS := Lib.hid (HS.out.alloc (.cells (rpA rc rp) 32))
    replace HX := Lib.hid (HX.out.alloc (.cells (rpA rc rp) 32))
    go_upto_region 5 with (fail)
    generalize hx3 : x2.alloc (.cells (rpA rc rp) 32) = x3 at hm HS HX ⊢
    clear hx3
    have HCC := Lib.hid (HC.out.later hm.1)
    go_wp2_with fail
    refine (DrawWorkIn_any _ a0 len0 cap0 hl4 HCC.out).mono ?_
    rintro e1 x4 ⟨v1, nm, rfl, htop, b2⟩
    obtain ⟨AQ, cQ, lq, rfl, hs, hz⟩ := htop
    have HQ := Lib.hid hs.wks.1
    have HQA := Lib.hid (fun r (hr : r ∈ lq) (h : r.ad = none) => (hs.2.1 r hr).nilc h)
    have HQZ := Lib.hid hz
    clear hs hz
    replace hm := hm.below b2
    replace HS := Lib.hid (HS.out.below b2)
    replace HX := Lib.hid (HX.out.below b2)
    clear b2
    clear HCC
    obtain ⟨wk, t, hW⟩ : ∃ wk t, M.workIn (lq.map Wr.wk) nm = (wk, t) := ⟨_, _, rfl⟩
    have HWI := Lib.hid hW
    have HWL : Hid (wk.copies.length ≤ 1048576) := Lib.hid (by
      have h := M.workIn_len (l := lq.map Wr.wk) (m := 64) (fun x hx => by
        obtain ⟨r, hr, rfl⟩ := List.mem_map.1 hx
        exact (HQZ.out.2 r hr).2.1) nm
      rw [hW] at h
      dsimp only at h
      omega)
    clear hW
    have hcall := implWorkIn AQ lq cQ nm _ HQ.out (by have := HQZ.out.1; omega) (HQZ.out.2.mono (by omega))
    rw [HWI.out] at hcall
    have HCALL := Lib.hid hcall
    clear hcall
    go_wp2_with fail
    refine HCALL.out.mono ?_
    rintro e1 x5 ⟨⟨AW, cW, rfl, hcp⟩, b2⟩
    have HW := Lib.hid hcp.cps.1
    clear hcp
    replace hm := hm.below b2
    replace HS := Lib.hid (HS.out.below b2)
    replace HX := Lib.hid (HX.out.below b2)
    replace HQ := Lib.hid (HQ.out.below b2)
    clear b2
    clear HCALL
    replace hm := hm.new (wkA wk.name wk.owner (.slice AW wk.copies.length cW)) 39
    replace HS := Lib.hid (HS.out.alloc (.cells (wkA wk.name wk.owner (.slice AW wk.copies.length cW)) 39))
    replace HX := Lib.hid (HX.out.alloc (.cells (wkA wk.name wk.owner (.slice AW wk.copies.length cW)) 39))
    replace HQ := Lib.hid (HQ.out.alloc (.cells (wkA wk.name wk.owner (.slice AW wk.copies.length cW)) 39))
    replace HW := Lib.hid (HW.out.alloc (.cells (wkA wk.name wk.owner (.slice AW wk.copies.length cW)) 39))
    go_upto_region 7 with (fail)
    generalize hx6 : x5.alloc (.cells (wkA wk.name wk.owner (.slice AW wk.copies.length cW)) 39) = x6 at hm HS HX HQ HW ⊢
    clear hx6
    have HCC := Lib.hid (HC.out.later hm.1)
    go_wp2_with fail
    refine (DrawShowShelf_any _ a0 len0 cap0 hl4 HCC.out).mono ?_
    rintro e1 x7 ⟨v2, rfl, htop, b2⟩
    obtain ⟨AO, cO, lo, rfl, hs, hz⟩ := htop
    have HO := Lib.hid hs.wks.1
    have HOA := Lib.hid (fun r (hr : r ∈ lo) (h : r.ad = none) => (hs.2.1 r hr).nilc h)
    have HOZ := Lib.hid hz
    clear hs hz
    replace hm := hm.below b2
    replace HS := Lib.hid (HS.out.below b2)
    replace HX := Lib.hid (HX.out.below b2)
    replace HQ := Lib.hid (HQ.out.below b2)
    replace HW := Lib.hid (HW.out.below b2)
    clear b2
    clear HCC
    obtain ⟨p0, p1, p2, p3, p4, p5, p6⟩ := (hm.get (x1.heap.size) (ddC d) (by simp)).seven
    have pz := (hm.get (x1.heap.size) (ddC d) (by simp)).1
    have hcall := specDoes_of A rs c d _ (l5Do_any d) HS.out HSA.out (by have := HSZ.out.1; omega) (HSZ.out.2.mono (by omega)) (by have := HDZ.out.1; omega) (by have := HDZ.out.2; omega)
    rw [HDO.out] at hcall
    have HCALL := Lib.hid hcall
    clear hcall
    go_wp2_with fail
    refine HCALL.out.mono ?_
    rintro e1 x8 ⟨vX, lY, rfl, hX, hXm, b2⟩
    obtain ⟨AY, cY, rfl, -, -⟩ := hX.open
    have HY := Lib.hid hX.wks.1
    have HYM : Hid (lY.map Wr.wk = m) := Lib.hid hXm
    have HYA := Lib.hid (fun r (hr : r ∈ lY) (h : r.ad = none) => (hX.2.1 r hr).nilc h)
    have HYZ : Hid (lY.length ≤ 5 ∧ WrsIn 12 lY) := Lib.hid (wrs_ok (by rw [hXm]; exact HOKM.out))
    clear hX hXm
    replace hm := hm.below b2
    replace HS := Lib.hid (HS.out.below b2)
    replace HX := Lib.hid (HX.out.below b2)
    replace HQ := Lib.hid (HQ.out.below b2)
    replace HW := Lib.hid (HW.out.below b2)
    replace HO := Lib.hid (HO.out.below b2)
    clear b2
    clear HCALL
    clear p0 p1 p2 p3 p4 p5 p6 pz
    replace hm := hm.new (rpA rc rp) 32
    replace HS := Lib.hid (HS.out.alloc (.cells (rpA rc rp) 32))
    replace HX := Lib.hid (HX.out.alloc (.cells (rpA rc rp) 32))
    replace HY := Lib.hid (HY.out.alloc (.cells (rpA rc rp) 32))
    replace HQ := Lib.hid (HQ.out.alloc (.cells (rpA rc rp) 32))
    replace HW := Lib.hid (HW.out.alloc (.cells (rpA rc rp) 32))
    replace HO := Lib.hid (HO.out.alloc (.cells (rpA rc rp) 32))
    go_upto_region 9 with (fail)
    generalize hx9 : x8.alloc (.cells (rpA rc rp) 32) = x9 at hm HS HX HY HQ HW HO ⊢
    clear hx9
    obtain ⟨ok, hok⟩ : ∃ ok, M.sfOk (rs.map Wr.wk) = ok := ⟨_, rfl⟩
    have HOK := Lib.hid hok
    obtain ⟨tx, htx⟩ : ∃ tx : ByteArray, (⟨(M.sfShow (lo.map Wr.wk)).toArray⟩ : ByteArray) = tx := ⟨_, rfl⟩
    have HTX := Lib.hid htx
    clear hok htx
    have hn1 : (ok != ok) = false := by simp
    have hn2 : (tx.toList != tx.toList) = false := by simp
    obtain ⟨q0, q1⟩ := (hm.get (x2.heap.size) (rpA rc rp) (by simp)).two
    have qz := (hm.get (x2.heap.size) (rpA rc rp) (by simp)).1
    obtain ⟨u0, u1⟩ := (hm.get (x8.heap.size) (rpA rc rp) (by simp)).two
    have uz := (hm.get (x8.heap.size) (rpA rc rp) (by simp)).1
    have hcall := likeShelf_same AX lX cX AY lY lY.length cY _ HX.out HY.out (HYM.out.trans HXM.out.symm) rfl (by have := HXZ.out.1; omega) (fun r hr => by have := (HXZ.out.2 r hr).2.1; omega)
    have HCALL := Lib.hid hcall
    clear hcall
    go_wp2_with fail
    refine HCALL.out.mono ?_
    rintro e1 x10 ⟨rfl, b2⟩
    replace hm := hm.below b2
    replace HS := Lib.hid (HS.out.below b2)
    replace HX := Lib.hid (HX.out.below b2)
    replace HQ := Lib.hid (HQ.out.below b2)
    replace HW := Lib.hid (HW.out.below b2)
    replace HO := Lib.hid (HO.out.below b2)
    clear b2
    clear HCALL
    clear q0 q1 qz
    clear u0 u1 uz
    obtain ⟨q0, q1⟩ := (hm.get (x2.heap.size) (rpA rc rp) (by simp)).two
    have qz := (hm.get (x2.heap.size) (rpA rc rp) (by simp)).1
    obtain ⟨u0, u1⟩ := (hm.get (x8.heap.size) (rpA rc rp) (by simp)).two
    have uz := (hm.get (x8.heap.size) (rpA rc rp) (by simp)).1
    have hcall := implShelfOk A rs c x10 HS.out (by have := HSZ.out.1; omega) (HSZ.out.2.mono (by omega))
    rw [HOK.out] at hcall
    have HCALL := Lib.hid hcall
    clear hcall
    go_wp2_with (refine wpList_run (by rfl) (rpneq_read (c := (rc, rp)) rfl rfl rfl _) ?_)
    refine HCALL.out.mono ?_
    rintro e1 x11 ⟨rfl, b2⟩
    clear q0 q1 qz
    clear u0 u1 uz
    replace hm := hm.below b2
    replace HS := Lib.hid (HS.out.below b2)
    replace HX := Lib.hid (HX.out.below b2)
    replace HQ := Lib.hid (HQ.out.below b2)
    replace HW := Lib.hid (HW.out.below b2)
    replace HO := Lib.hid (HO.out.below b2)
    clear b2
    clear HCALL
    have hcall := specShelfOk A rs c x11 HS.out (by have := HSZ.out.1; omega) (HSZ.out.2.mono (by omega))
    rw [HOK.out] at hcall
    have HCALL := Lib.hid hcall
    clear hcall
    go_wp2_with fail
    refine HCALL.out.mono ?_
    rintro e1 x12 ⟨rfl, b2⟩
    replace hm := hm.below b2
    replace HS := Lib.hid (HS.out.below b2)
    replace HX := Lib.hid (HX.out.below b2)
    replace HQ := Lib.hid (HQ.out.below b2)
    replace HW := Lib.hid (HW.out.below b2)
    replace HO := Lib.hid (HO.out.below b2)
    clear b2
    clear HCALL
    have hcall := implShowShelf AO lo cO x12 HO.out (by have := HOZ.out.1; omega) (HOZ.out.2.mono (by omega))
    have HCALL := Lib.hid hcall
    clear hcall
    go_wp2_with fail
    refine HCALL.out.mono ?_
    rintro e1 x13 ⟨he, b2⟩
    replace he : e1 = .returned (.string ⟨(M.sfShow (lo.map Wr.wk)).toArray⟩) := he
    rw [HTX.out] at he
    subst he
    replace hm := hm.below b2
    replace HS := Lib.hid (HS.out.below b2)
    replace HX := Lib.hid (HX.out.below b2)
    replace HQ := Lib.hid (HQ.out.below b2)
    replace HW := Lib.hid (HW.out.below b2)
    replace HO := Lib.hid (HO.out.below b2)
    clear b2
    clear HCALL
    have hcall := specShowShelf AO lo cO x13 HO.out (by have := HOZ.out.1; omega) (HOZ.out.2.mono (by omega))
    have HCALL := Lib.hid hcall
    clear hcall
    go_wp2_with fail
    refine HCALL.out.mono ?_
    rintro e1 x14 ⟨he, b2⟩
    replace he : e1 = .returned (.string ⟨(M.sfShow (lo.map Wr.wk)).toArray⟩) := he
    rw [HTX.out] at he
    subst he
    replace hm := hm.below b2
    replace HS := Lib.hid (HS.out.below b2)
    replace HX := Lib.hid (HX.out.below b2)
    replace HQ := Lib.hid (HQ.out.below b2)
    replace HW := Lib.hid (HW.out.below b2)
    clear b2
    clear HCALL
    clear hn1 hn2
    have hcall := specWorkIn AQ lq cQ nm x14 HQ.out HQA.out (by have := HQZ.out.1; omega) (HQZ.out.2.mono (by omega))
    rw [HWI.out] at hcall
    have HCALL := Lib.hid hcall
    clear hcall
    go_wp2_with fail
    refine HCALL.out.mono ?_
    rintro e1 x15 ⟨⟨AV, cV, rfl, hcp⟩, b2⟩
    have HV := Lib.hid hcp.cps.1
    clear hcp
    replace hm := hm.below b2
    replace HS := Lib.hid (HS.out.below b2)
    replace HX := Lib.hid (HX.out.below b2)
    replace HW := Lib.hid (HW.out.below b2)
    clear b2
    clear HCALL
    replace hm := hm.new (wkA wk.name wk.owner (.slice AV wk.copies.length cV)) 39
    replace HS := Lib.hid (HS.out.alloc (.cells (wkA wk.name wk.owner (.slice AV wk.copies.length cV)) 39))
    replace HX := Lib.hid (HX.out.alloc (.cells (wkA wk.name wk.owner (.slice AV wk.copies.length cV)) 39))
    replace HW := Lib.hid (HW.out.alloc (.cells (wkA wk.name wk.owner (.slice AV wk.copies.length cV)) 39))
    replace HV := Lib.hid (HV.out.alloc (.cells (wkA wk.name wk.owner (.slice AV wk.copies.length cV)) 39))
    go_upto_region 12 with (fail)
    generalize hx16 : x15.alloc (.cells (wkA wk.name wk.owner (.slice AV wk.copies.length cV)) 39) = x16 at hm HS HX HW HV ⊢
    clear hx16
    have hn3 : (t != t) = false := by simp
    obtain ⟨q0, q1, q2⟩ := (hm.get (x5.heap.size) (wkA wk.name wk.owner (.slice AW wk.copies.length cW)) (by simp)).three
    have qz := (hm.get (x5.heap.size) (wkA wk.name wk.owner (.slice AW wk.copies.length cW)) (by simp)).1
    obtain ⟨u0, u1, u2⟩ := (hm.get (x15.heap.size) (wkA wk.name wk.owner (.slice AV wk.copies.length cV)) (by simp)).three
    have uz := (hm.get (x15.heap.size) (wkA wk.name wk.owner (.slice AV wk.copies.length cV)) (by simp)).1
    have hcall := likeWork_same wk AW AV cW cV _ HW.out HV.out HWL.out
    have HCALL := Lib.hid hcall
    clear hcall
    go_wp2_with fail
    refine HCALL.out.mono ?_
    rintro e1 x17 ⟨rfl, b2⟩
    replace hm := hm.below b2
    replace HS := Lib.hid (HS.out.below b2)
    replace HX := Lib.hid (HX.out.below b2)
    clear b2
    clear HCALL
    clear hn3
    clear q0 q1 q2 qz
    clear u0 u1 u2 uz
    obtain ⟨p0, p1, p2, p3, p4, p5, p6⟩ := (hm.get (x1.heap.size) (ddC d) (by simp)).seven
    have pz := (hm.get (x1.heap.size) (ddC d) (by simp)).1
    obtain ⟨q0, q1⟩ := (hm.get (x2.heap.size) (rpA rc rp) (by simp)).two
    have qz := (hm.get (x2.heap.size) (rpA rc rp) (by simp)).1
    rcases hk : ok with _ | _
    · subst hk
      have hD := HDO.out
      rw [M.does_bad HOK.out] at hD
      have hmn : [] = m := congrArg Prod.fst hD
      have hrc : 7 = rc := congrArg (fun x => x.2.1) hD
      clear hD
      subst hrc
      have hx0 : lX = [] := List.map_eq_nil_iff.1 (HXM.out.trans hmn.symm)
      clear hmn
      subst hx0
      have hcall := specShelfOk A rs c x17 HS.out (by have := HSZ.out.1; omega) (HSZ.out.2.mono (by omega))
      rw [HOK.out] at hcall
      have HCALL := Lib.hid hcall
      clear hcall
      go_wp2_with fail
      refine HCALL.out.mono ?_
      rintro e1 x18 ⟨rfl, b2⟩
      clear p0 p1 p2 p3 p4 p5 p6 pz
      clear q0 q1 qz
      replace hm := hm.below b2
      clear b2
      clear HCALL
      obtain ⟨q0, q1⟩ := (hm.get (x2.heap.size) (rpA 7 rp) (by simp)).two
      have qz := (hm.get (x2.heap.size) (rpA 7 rp) (by simp)).1
      have HM := Lib.hid hm.1
      clear hm
      go_wp2
      go_ret
      exact ⟨rfl, HM.out⟩
    · subst hk
      have hcall := specShelfOk A rs c x17 HS.out (by have := HSZ.out.1; omega) (HSZ.out.2.mono (by omega))
      rw [HOK.out] at hcall
      have HCALL := Lib.hid hcall
      clear hcall
      go_wp2_with fail
      refine HCALL.out.mono ?_
      rintro e1 x18 ⟨rfl, b2⟩
      clear p0 p1 p2 p3 p4 p5 p6 pz
      clear q0 q1 qz
      replace hm := hm.below b2
      replace HS := Lib.hid (HS.out.below b2)
      replace HX := Lib.hid (HX.out.below b2)
      clear b2
      clear HCALL
      obtain ⟨p0, p1, p2, p3, p4, p5, p6⟩ := (hm.get (x1.heap.size) (ddC d) (by simp)).seven
      have pz := (hm.get (x1.heap.size) (ddC d) (by simp)).1
      obtain ⟨q0, q1⟩ := (hm.get (x2.heap.size) (rpA rc rp) (by simp)).two
      have qz := (hm.get (x2.heap.size) (rpA rc rp) (by simp)).1
      by_cases h0 : rc = 0
      · subst h0
        by_cases h5 : d.kind = 5
        · have hk5 : (d.kind == 5) = true := by simp [h5]
          have HSM : Hid (rs.map Wr.wk = m) := Lib.hid (by
            have h := M.does_same (d := d) HOK.out (by rw [HDO.out]; exact .inr h5)
            rw [HDO.out] at h
            exact h.symm)
          clear h5
          have hcall := likeShelf_same AX lX cX A rs rs.length c x18 HX.out HS.out (HSM.out.trans HXM.out.symm) rfl (by have := HXZ.out.1; omega) (fun r hr => by have := (HXZ.out.2 r hr).2.1; omega)
          have HCALL := Lib.hid hcall
          clear hcall
          go_wp2_with fail
          refine HCALL.out.mono ?_
          rintro e1 x19 ⟨rfl, b2⟩
          replace hm := hm.below b2
          clear b2
          clear HCALL
          have HM := Lib.hid hm.1
          clear hm
          go_wp2
          go_ret
          exact ⟨rfl, HM.out⟩
        · have hk5 : (d.kind == 5) = false := by simp [h5]
          have HTH := Lib.hid (M.does_there (l := rs.map Wr.wk) (d := d) (by rw [HDO.out]) h5)
          have hcall := implShelfOk AX lX cX x18 HX.out (by have := HXZ.out.1; omega) (HXZ.out.2.mono (by omega))
          rw [HXM.out, HOKM.out] at hcall
          have HCALL := Lib.hid hcall
          clear hcall
          go_wp2_with fail
          refine HCALL.out.mono ?_
          rintro e1 x19 ⟨rfl, b2⟩
          clear p0 p1 p2 p3 p4 p5 p6 pz
          clear q0 q1 qz
          replace hm := hm.below b2
          replace HX := Lib.hid (HX.out.below b2)
          clear b2
          clear HCALL
          obtain ⟨p0, p1, p2, p3, p4, p5, p6⟩ := (hm.get (x1.heap.size) (ddC d) (by simp)).seven
          have pz := (hm.get (x1.heap.size) (ddC d) (by simp)).1
          by_cases h2 : d.kind = 2
          · have hk2 : (d.kind == 2) = true := by simp [h2]
            obtain ⟨m2, r2, y2, hF⟩ : ∃ m2 r2 y2, M.does m (M.fetchOf d) = (m2, (r2, y2)) := ⟨_, _, _, rfl⟩
            obtain ⟨m3, r3, y3, hG⟩ : ∃ m3 r3 y3, M.does m d = (m3, (r3, y3)) := ⟨_, _, _, rfl⟩
            have hF2 : (r2, y2) = ((0 : Int), d.page) := by
              have h := M.put_fetch (l := rs.map Wr.wk) (d := d) (by rw [HDO.out]) h2
              rw [HDO.out] at h
              rw [← h]
              exact (congrArg Prod.snd hF).symm
            have hG2 : r3 = 2 := by
              have h := M.put_again (l := rs.map Wr.wk) (d := d) (by rw [HDO.out]) h2
              rw [HDO.out] at h
              rw [← h]
              exact (congrArg (fun x => x.2.1) hG).symm
            have hr2 : r2 = 0 := congrArg Prod.fst hF2
            have hp2 : y2 = d.page := congrArg Prod.snd hF2
            subst hr2 hp2 hG2
            have HF := Lib.hid hF
            have HG := Lib.hid hG
            clear hF hG hF2 h2 h5
            have hcall := implDoes AX lX cX (M.fetchOf d) x19 HX.out (by have := HXZ.out.1; omega) (HXZ.out.2.mono (by omega)) (by have := HDZ.out.1; show d.name.size ≤ 1048576; omega) (by show (0 : Nat) ≤ 1048576; omega)
            rw [HXM.out, HF.out] at hcall
            have HCALL := Lib.hid hcall
            clear hcall
            go_wp2_with fail
            refine HCALL.out.mono ?_
            rintro e1 x20 ⟨vX, l2, rfl, hX, -, b2⟩
            obtain ⟨A2, c2, rfl, -, -⟩ := hX.open
            clear hX
            clear p0 p1 p2 p3 p4 p5 p6 pz
            replace hm := hm.below b2
            replace HX := Lib.hid (HX.out.below b2)
            clear b2
            clear HCALL
            replace hm := hm.new (rpA 0 d.page) 32
            replace HX := Lib.hid (HX.out.alloc (.cells (rpA 0 d.page) 32))
            go_upto_region 22 with (fail)
            generalize hx21 : x20.alloc (.cells (rpA 0 d.page) 32) = x21 at hm HX ⊢
            clear hx21
            obtain ⟨p0, p1, p2, p3, p4, p5, p6⟩ := (hm.get (x1.heap.size) (ddC d) (by simp)).seven
            have pz := (hm.get (x1.heap.size) (ddC d) (by simp)).1
            have hcall := implDoes AX lX cX d x21 HX.out (by have := HXZ.out.1; omega) (HXZ.out.2.mono (by omega)) (by have := HDZ.out.1; omega) (by have := HDZ.out.2; omega)
            rw [HXM.out, HG.out] at hcall
            have HCALL := Lib.hid hcall
            clear hcall
            go_wp2_with fail
            refine HCALL.out.mono ?_
            rintro e1 x22 ⟨vX, l3, rfl, hX, -, b2⟩
            obtain ⟨A3, c3, rfl, -, -⟩ := hX.open
            clear hX
            clear p0 p1 p2 p3 p4 p5 p6 pz
            replace hm := hm.below b2
            clear b2
            clear HCALL
            replace hm := hm.new (rpA 2 y3) 32
            go_upto_region 23 with (fail)
            generalize hx23 : x22.alloc (.cells (rpA 2 y3) 32) = x23 at hm  ⊢
            clear hx23
            obtain ⟨p0, p1, p2, p3, p4, p5, p6⟩ := (hm.get (x1.heap.size) (ddC d) (by simp)).seven
            have pz := (hm.get (x1.heap.size) (ddC d) (by simp)).1
            obtain ⟨q0, q1⟩ := (hm.get (x20.heap.size) (rpA 0 d.page) (by simp)).two
            have qz := (hm.get (x20.heap.size) (rpA 0 d.page) (by simp)).1
            obtain ⟨u0, u1⟩ := (hm.get (x22.heap.size) (rpA 2 y3) (by simp)).two
            have uz := (hm.get (x22.heap.size) (rpA 2 y3) (by simp)).1
            have HM := Lib.hid hm.1
            clear hm
            go_wp2_with (refine wpList_run (by rfl) (rpeql_read (c := (0, d.page)) rfl rfl rfl _) ?_)
            go_ret
            exact ⟨rfl, HM.out⟩
          · have hk2 : (d.kind == 2) = false := by simp [h2]
            obtain ⟨wk2, t2, hW⟩ : ∃ wk2 t2, M.workIn m d.name = (wk2, t2) := ⟨_, _, rfl⟩
            have ht2 : t2 = true := by
              have h := HTH.out
              rw [HDO.out] at h
              rw [← h]
              exact (congrArg Prod.snd hW).symm
            subst ht2
            have HW2 := Lib.hid hW
            clear hW h2 h5
            have hcall := specWorkIn AX lX cX d.name x19 HX.out HXA.out (by have := HXZ.out.1; omega) (HXZ.out.2.mono (by omega))
            rw [HXM.out, HW2.out] at hcall
            have HCALL := Lib.hid hcall
            clear hcall
            go_wp2_with fail
            refine HCALL.out.mono ?_
            rintro e1 x20 ⟨⟨A2, c2, rfl, -⟩, b2⟩
            clear p0 p1 p2 p3 p4 p5 p6 pz
            replace hm := hm.below b2
            clear b2
            clear HCALL
            have HM := Lib.hid hm.1
            clear hm
            go_wp2
            go_ret
            exact ⟨rfl, HM.out.alloc HM.out.size _⟩
      · have hr0 : (rc != 0) = true := by simp [h0]
        have HSM : Hid (rs.map Wr.wk = m) := Lib.hid (by
          have h := M.does_same (d := d) HOK.out (by rw [HDO.out]; exact .inl h0)
          rw [HDO.out] at h
          exact h.symm)
        clear h0
        have hcall := likeShelf_same AX lX cX A rs rs.length c x18 HX.out HS.out (HSM.out.trans HXM.out.symm) rfl (by have := HXZ.out.1; omega) (fun r hr => by have := (HXZ.out.2 r hr).2.1; omega)
        have HCALL := Lib.hid hcall
        clear hcall
        go_wp2_with fail
        refine HCALL.out.mono ?_
        rintro e1 x19 ⟨rfl, b2⟩
        replace hm := hm.below b2
        clear b2
        clear HCALL
        have HM := Lib.hid hm.1
        clear hm
        go_wp2
        go_ret
        exact ⟨rfl, HM.out⟩

set_option maxRecDepth 100000 in
theorem lifted (os : Os) (started : os.Started) (H : Type) (enc : TypeId × Value → H) :
    ReturnsInHanded {} Tryz.checked os 3 .any (fun w args => (Rows.fnShelfSpec.pre enc Tryz.prog Tryz.f3 Rows.fnShelfRow.domain false w args ∧ laidMetH Tryz.prog Rows.fnShelfRow.laid w) ∧ sizedMet enc Tryz.prog Tryz.f3 (OpenSpec.ofChange Rows.fnShelfSpec) false w args)
      (Rows.fnShelfSpec.post enc Tryz.prog Tryz.f3 false true false false) := by
  refine handed_laid (C := Tryz.checked) (X := fun w _ => laidMetH Tryz.prog Rows.fnShelfRow.laid w) (fun _ _ _ hh h => h.of_heap hh) own started (by kernel_rfl) Tryz.func3
    (ChangeSpec.witness_shaped (enc := enc) (C := Tryz.checked) (os := os) (X := fun w _ => laidMetH Tryz.prog Rows.fnShelfRow.laid w) false (World.laidAll Tryz.prog os Rows.fnShelfRow.laid) #[.slice none 0 0] 8 (World.laidAll_os _ _ _)
      (World.shaped_of_ZipB (by kernel_rfl) (by kernel_rfl)) (by kernel_rfl) (by kernel_rfl) (by kernel_rfl)
      (by rw [MakeChecks.laidMetH_plain _ _ _ (by kernel_rfl)]; exact laidMet_laidAll _ (by kernel_rfl) (by kernel_rfl))) ?_
  intro W base args ds gs before hval0 hW hL hsh
  have hval : ∀ (j : Nat) t v, Tryz.f3.params[j]? = some t → args[j]? = some v → Value.okWide Tryz.prog W .any base t v := hval0
  have hW' := hW
  obtain ⟨p, q, hA0, -⟩ := hW
  have hA : DataW.TrodAll enc Tryz.prog W 0 (fun _ => true) true Tryz.f3.params.toList args.toList ds p := hA0
  rw [Tryz.params3] at hA hval
  obtain ⟨v0, vs0, d0, ds0, p0, q0, hargs, rfl, rfl, h0, r0⟩ := trodAll_cons hA
  obtain ⟨rfl, rfl, rfl⟩ := trodAll_nil r0
  obtain rfl : args = #[v0] := by cases args; simp_all
  clear hA0 hval0
  have hv0 := hval 0 _ v0 rfl rfl
  obtain ⟨a0, len0, cap0, rfl, hc⟩ := open_code hv0 h0
  exact (walk a0 len0 cap0 W hc).mono fun r W' ⟨he, hb⟩ => ⟨_, he, law_post rfl rfl Tryz.underlying4 (by kernel_rfl) (n := 1)
    (fun ds' hd => by rcases ds' with _ | ⟨x0, _ | ⟨y, z⟩⟩ <;> simp at hd <;> exact ⟨rfl, rfl, rfl⟩) rfl hW' hb⟩

theorem over : Rows.fnShelfRow.holds Tryz.pinned (OpenSpec.ofChange Rows.fnShelfSpec) :=
  OpenClaim.holds_of_wide 3 Tryz.f3 rfl rfl rfl rfl rfl rfl rfl ⟨rfl, rfl, rfl, rfl, rfl⟩ rfl rfl rfl rfl rfl (by kernel_rfl) Tryz.func3 (by kernel_rfl)
    (of_decide_eq_true (by kernel_rfl)) (by unfold Func.isWrapper; first | (rw [if_pos (by decide +kernel)]; kernel_rfl) | (rw [if_neg (by decide +kernel)]; exact ⟨rfl, rfl⟩))
    (fun os started H enc _ => lifted os started H enc)

theorem proved : Rows.FnShelfCardSaid :=
  Claim7.holds_tied_plain_at .later [] [.data, .data, .data] true (true, "dc7fe7e95a2156fe7b430cfcbb469d7709e70c79cd017ee57e34cc779d814562") true
    over (fun _ h => by cases h) (by kernel_rfl) (fun _ h => by cases h) fnShelf_row_tie rfl ⟨rfl, rfl⟩ (by kernel_rfl) rfl
    (fun f fn hf hfn => by
      obtain rfl : f = 3 := Option.some.inj ((show Tryz.prog.funcNamed "loop.example/g00572/laws.FnShelf" = some 3 by kernel_rfl).symm.trans hf) |>.symm
      obtain rfl : fn = Tryz.f3 := (Option.some.inj (Tryz.func3.symm.trans hfn)).symm
      exact ⟨by kernel_rfl, fun j t ht => by
        rw [Tryz.params3] at ht
        have hm : t ∈ [22] := by simpa using Array.mem_of_getElem? ht
        have hall : ([22].all fun u => !Tryz.prog.wantsStandIn u) = true := by kernel_rfl
        exact (show Tryz.prog.wantsStandIn t = false by simpa using List.all_eq_true.1 hall t hm)⟩)
    (by kernel_rfl)
#print axioms proved
end Go.Proofs.YtdcdalbbjfjadaaGreatDoor.fnShelf
