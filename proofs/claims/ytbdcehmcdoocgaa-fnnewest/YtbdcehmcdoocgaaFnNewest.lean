/- Proved: the law FnNewest returns true at every list of bytes, and the list reads afterwards as before; no condition. -/
import Derived.Test.YtbdcehmcdoocgaaWorkNew
import Derived.Test.YtbdcehmcdoocgaaWorkLaws
import Derived.Test.YtbdcehmcdoocgaaDrawTop
import Derived.Test.YtbdcehmcdoocgaaEqlCp
import Derived.Test.YtbdcehmcdoocgaaCode
import Derived.Test.YtbdcehmcdoocgaaShell
import Derived.Lib.SmallJoins
namespace Go.Proofs.Ytbdcehmcdoocgaa.fnNewest
open Go.ChangeShapes Go.WideShapes Go.ChangeAt Go.RowKit Go.Joins Go.Deep
open Go.ChangeMaps (open_string shut_string)
set_option linter.unusedVariables false

set_option maxRecDepth 100000 in
set_option maxHeartbeats 16000000 in
theorem walk (a0 : Option Addr) (len0 cap0 : Nat) (w : World) (hc : CodeOk w.heap.size w a0 len0) :
    Calls Try.prog 4 #[.slice a0 len0 cap0] w fun e w' => e = .returned (.bool true) ∧ Below w.heap.size w w' := by
  have HC := Lib.hid hc
  clear hc
  by_cases hbig : 4096 < len0
  · go_enter Try.func4, Try.ntmps4
    go_wp2_with fail
    refine (big_any a0 len0 cap0 _).mono ?_
    rintro e w' ⟨rfl, rfl⟩
    go_wp2
    go_ret
    exact ⟨rfl, Below.refl _ _⟩
  · have hl4 : len0 ≤ 4096 := by omega
    go_enter Try.func4, Try.ntmps4
    go_wp2_with fail
    refine (big_any a0 len0 cap0 _).mono ?_
    rintro e w' ⟨rfl, rfl⟩
    go_wp2_with fail
    refine (DrawNewest_any _ a0 len0 cap0 hl4 HC.out).mono ?_
    rintro r x1 ⟨wk, A, c, want, rfl, hs, ho, b1⟩
    have hm := (((Mem.start w).below b1).new (vA wk A c) 26).new (eA want) 28
    have HR := Lib.hid ((ho.cps.1.alloc (.cells (vA wk A c) 26)).alloc (.cells (eA want) 28))
    have HS := Lib.hid hs
    simp only [World.size_alloc] at hm
    clear b1 ho HC hs
    obtain ⟨e, is, hE, P1, P2, P3, P4⟩ := M.newest_law ⟨wk.name, wk.owner, wk.copies⟩ want
    replace P1 := Lib.hid P1
    replace P2 := Lib.hid P2
    replace P3 := Lib.hid P3
    replace P4 := Lib.hid P4
    obtain ⟨p0, p1, p2⟩ := (hm.get x1.heap.size (vA wk A c) (by simp)).three
    obtain ⟨q0, q1, q2⟩ := (hm.get (x1.heap.size + 1) (eA want) (by simp)).three
    go_wp2_with fail
    refine (implNewest wk.name wk.owner A wk.copies c want _ HR.out (by have := HS.out.1; unfold maxLen; omega) (by have := HS.out.2.1; omega) (fun x hx => by have := HS.out.2.2 x hx; unfold maxLen; omega)).mono ?_
    rintro r x2 ⟨rfl, b2⟩
    rw [hE]
    replace hm := (hm.below b2).new (eA e) 28
    replace HR := Lib.hid ((HR.out.below b2).alloc (.cells (eA e) 28))
    clear b2 p0 p1 p2 q0 q1 q2
    obtain ⟨p0, p1, p2⟩ := (hm.get x1.heap.size (vA wk A c) (by simp)).three
    obtain ⟨q0, q1, q2⟩ := (hm.get (x1.heap.size + 1) (eA want) (by simp)).three
    go_wp2_with fail
    refine (specNewest wk.name wk.owner A wk.copies c want _ HR.out (by have := HS.out.1; unfold maxLen; omega) (by have := HS.out.2.1; omega) (fun x hx => by have := HS.out.2.2 x hx; unfold maxLen; omega)).mono ?_
    rintro r x3 ⟨rfl, b3⟩
    rw [hE]
    replace hm := (hm.below b3).new (eA e) 28
    replace HR := Lib.hid ((HR.out.below b3).alloc (.cells (eA e) 28))
    clear b3 p0 p1 p2 q0 q1 q2
    obtain ⟨p0, p1, p2⟩ := (hm.get x2.heap.size (eA e) (by simp)).three
    obtain ⟨q0, q1, q2⟩ := (hm.get x3.heap.size (eA e) (by simp)).three
    have hne := fun w => ed_neq e w
    have hbb : (is != is) = false := by simp
    replace hm := hm.sub (hs' := [(x3.heap.size, eA e), (x2.heap.size, eA e), (x1.heap.size + 1, eA want), (x1.heap.size, vA wk A c)]) (by simp)
    have HM := Lib.hid hm
    have HE := Lib.hid hE
    clear hm hE
    go_wp2
    go_loopw [9, 10] (fun so i wr => ∃ (j : Nat) (s : Bool), i = .int .i64 j ∧ so = .bool s ∧ j ≤ wk.copies.length ∧ (M.wkOk ⟨wk.name, wk.owner, wk.copies⟩ = false → j = 0) ∧ s = (wk.copies.take j).any (M.shown want) ∧ Mem w [(x3.heap.size, eA e), (x2.heap.size, eA e), (x1.heap.size + 1, eA want), (x1.heap.size, vA wk A c)] [] wr ∧ Cps wr A wk.copies) (fun _ i _ => wk.copies.length - (intOf i).toNat)
    case atStart => exact ⟨0, false, rfl, rfl, Nat.zero_le _, fun _ => rfl, by simp, HM.out, HR.out⟩
    case round =>
      clear HM HR p0 p1 p2 q0 q1 q2
      obtain ⟨j, s, rfl, rfl, hj, h0, hsj, hm, hr⟩ := hrel
      have HR := Lib.hid hr
      have HJ := Lib.hid hsj
      have H0 := Lib.hid h0
      clear hr hsj h0
      have h10 : wk.copies.length ≤ 10 := HS.out.2.1
      by_cases hlt : j < wk.copies.length
      · rcases hk : M.wkOk ⟨wk.name, wk.owner, wk.copies⟩ with _ | _
        · have HSI : Hid (s = is) := Lib.hid (by
            rw [P1.out hk, HJ.out, H0.out hk]; rfl)
          have HK := Lib.hid hk
          clear hk
          obtain ⟨p0, p1, p2⟩ := (hm.get x1.heap.size (vA wk A c) (by simp)).three
          go_wp2_with fail
          refine (specWorkOk wk.name wk.owner A wk.copies c _ HR.out (by have := HS.out.1; unfold maxLen; omega) (by have := HS.out.2.1; omega) (fun x hx => by have := HS.out.2.2 x hx; unfold maxLen; omega)).mono ?_
          rintro r y0 ⟨rfl, by0⟩
          rw [HK.out]
          replace hm := hm.below by0
          replace HR := Lib.hid (HR.out.below by0)
          clear by0 p0 p1 p2
          obtain ⟨p0, p1, p2⟩ := (hm.get x1.heap.size (vA wk A c) (by simp)).three
          obtain ⟨q0, q1, q2⟩ := (hm.get x2.heap.size (eA e) (by simp)).three
          clear hne
          go_wp2_with fail
          refine (specCopyIn wk.name wk.owner A wk.copies c e _ HR.out (by have := HS.out.1; unfold maxLen; omega) (by have := HS.out.2.1; omega) (fun x hx => by have := HS.out.2.2 x hx; unfold maxLen; omega)).mono ?_
          rintro r y ⟨rfl, by1⟩
          have hbl := next hm.1 by1
          clear by1 hm HR p0 p1 p2 q0 q1 q2
          rcases is with _ | _
          · have hx : ((false : Bool) == s) = true := by rw [HSI.out]; rfl
            go_wp2
            go_ret
            exact ⟨rfl, hbl.alloc hbl.size _⟩
          · obtain ⟨cc, hcc, hhid⟩ := P4.out rfl
            rw [hcc]
            have hx : ((true : Bool) == s) = true := by rw [HSI.out]; rfl
            go_wp2
            go_ret
            exact ⟨rfl, hbl.alloc hbl.size _⟩
        · have HK := Lib.hid hk
          clear hk
          obtain ⟨p0, p1, p2⟩ := (hm.get x1.heap.size (vA wk A c) (by simp)).three
          go_wp2_with fail
          refine (specWorkOk wk.name wk.owner A wk.copies c _ HR.out (by have := HS.out.1; unfold maxLen; omega) (by have := HS.out.2.1; omega) (fun x hx => by have := HS.out.2.2 x hx; unfold maxLen; omega)).mono ?_
          rintro r y0 ⟨rfl, by0⟩
          rw [HK.out]
          replace hm := hm.below by0
          replace HR := Lib.hid (HR.out.below by0)
          clear by0 p0 p1 p2
          obtain ⟨b, o, hA, hbl, c0, c1, c2, c3, c4⟩ := Cps_at HR.out hlt
          subst hA
          obtain ⟨p0, p1, p2⟩ := (hm.get x1.heap.size (vA wk (some ⟨b, o, none⟩) c) (by simp)).three
          obtain ⟨q0, q1, q2⟩ := (hm.get (x1.heap.size + 1) (eA want) (by simp)).three
          obtain ⟨s0, s1, s2⟩ := (hm.get x2.heap.size (eA e) (by simp)).three
          have hq1 : x1.heap.size + 1 < y0.heap.size := (hm.get (x1.heap.size + 1) (eA want) (by simp)).1
          have hq2 : x2.heap.size < y0.heap.size := (hm.get x2.heap.size (eA e) (by simp)).1
          rcases hh : wk.copies[j].hidden with _ | _
          · have HM := Lib.hid (hm.alloc (.cells #[.int .i64 wk.copies[j].ed.ma, .int .i64 wk.copies[j].ed.mi, .int .i64 wk.copies[j].ed.pa, .string wk.copies[j].page, .bool false] 39))
            replace HR := Lib.hid (HR.out.alloc (.cells #[.int .i64 wk.copies[j].ed.ma, .int .i64 wk.copies[j].ed.mi, .int .i64 wk.copies[j].ed.pa, .string wk.copies[j].page, .bool false] 39))
            clear hm
            rcases hf : M.fits wk.copies[j].ed want with _ | _
            · have HF : Hid ((wk.copies.take (j + 1)).any (M.shown want) = s) := Lib.hid (by rw [M.any_take hlt, HJ.out]; simp [M.shown, hh, hf])
              go_wp2_with fail
              refine (specFits wk.copies[j].ed want _).mono ?_
              rintro r y1 ⟨rfl, by1⟩
              replace HM := Lib.hid (HM.out.below by1)
              replace HR := Lib.hid (HR.out.below by1)
              clear by1
              go_wp2
              go_roundw
              case rel => exact ⟨j + 1, s, by go_num, rfl, by omega, (by intro h; cases h), HF.out.symm, HM.out, HR.out⟩
              case measure => simp [intOf]; omega
            · have hsh : M.shown want wk.copies[j] = true := by simp [M.shown, hh, hf]
              have HF : Hid ((wk.copies.take (j + 1)).any (M.shown want) = true) := Lib.hid (by rw [M.any_take hlt, hsh]; simp)
              have his : is = true := by
                rw [P2.out HK.out, List.any_eq_true]
                exact ⟨_, List.getElem_mem hlt, hsh⟩
              have hol := P3.out his wk.copies[j] (List.getElem_mem hlt) hsh
              subst his
              go_wp2_with fail
              refine (specFits wk.copies[j].ed want _).mono ?_
              rintro r y1 ⟨rfl, by1⟩
              replace HM := Lib.hid (HM.out.below by1)
              replace HR := Lib.hid (HR.out.below by1)
              obtain ⟨k1, k2⟩ := bcell by1
              go_wp2_with fail
              refine (specOlder e wk.copies[j].ed _).mono ?_
              rintro r y2 ⟨rfl, by2⟩
              replace HM := Lib.hid (HM.out.below by2)
              replace HR := Lib.hid (HR.out.below by2)
              clear by1 by2 k1 k2
              go_wp2
              go_roundw
              case rel => exact ⟨j + 1, true, by go_num, rfl, by omega, (by intro h; cases h), HF.out.symm, HM.out, HR.out⟩
              case measure => simp [intOf]; omega
          · have HM := Lib.hid (hm.alloc (.cells #[.int .i64 wk.copies[j].ed.ma, .int .i64 wk.copies[j].ed.mi, .int .i64 wk.copies[j].ed.pa, .string wk.copies[j].page, .bool true] 39))
            replace HR := Lib.hid (HR.out.alloc (.cells #[.int .i64 wk.copies[j].ed.ma, .int .i64 wk.copies[j].ed.mi, .int .i64 wk.copies[j].ed.pa, .string wk.copies[j].page, .bool true] 39))
            clear hm
            have HF : Hid ((wk.copies.take (j + 1)).any (M.shown want) = s) := Lib.hid (by rw [M.any_take hlt, HJ.out]; simp [M.shown, hh])
            go_wp2
            go_roundw
            case rel => exact ⟨j + 1, s, by go_num, rfl, by omega, (by intro h; cases h), HF.out.symm, HM.out, HR.out⟩
            case measure => simp [intOf]; omega
      · have HSI : Hid (s = is) := Lib.hid (by
          have hjl : j = wk.copies.length := by omega
          rcases hk : M.wkOk ⟨wk.name, wk.owner, wk.copies⟩ with _ | _
          · rw [P1.out hk, HJ.out, H0.out hk]; rfl
          · rw [P2.out hk, HJ.out, hjl, List.take_length])
        obtain ⟨p0, p1, p2⟩ := (hm.get x1.heap.size (vA wk A c) (by simp)).three
        obtain ⟨q0, q1, q2⟩ := (hm.get x2.heap.size (eA e) (by simp)).three
        clear hne
        go_wp2_with fail
        refine (specCopyIn wk.name wk.owner A wk.copies c e _ HR.out (by have := HS.out.1; unfold maxLen; omega) (by have := HS.out.2.1; omega) (fun x hx => by have := HS.out.2.2 x hx; unfold maxLen; omega)).mono ?_
        rintro r y ⟨rfl, by1⟩
        have hbl := next hm.1 by1
        clear by1 hm HR p0 p1 p2 q0 q1 q2
        rcases is with _ | _
        · have hx : ((false : Bool) == s) = true := by rw [HSI.out]; rfl
          go_wp2
          go_ret
          exact ⟨rfl, hbl.alloc hbl.size _⟩
        · obtain ⟨cc, hcc, hhid⟩ := P4.out rfl
          rw [hcc]
          have hx : ((true : Bool) == s) = true := by rw [HSI.out]; rfl
          go_wp2
          go_ret
          exact ⟨rfl, hbl.alloc hbl.size _⟩

set_option maxRecDepth 100000 in
theorem lifted (os : Os) (started : os.Started) (H : Type) (enc : TypeId × Value → H) :
    ReturnsInHanded {} Try.checked os 4 .any (Rows.fnNewestSpec.pre6 enc Try.prog Try.f4 Rows.fnNewestRow.domain false) (Rows.fnNewestSpec.post enc Try.prog Try.f4 false true false false) := by
  refine returnsInHanded_of_change (C := Try.checked) own started (by kernel_rfl) Try.func4
    (ChangeSpec.witness6 (enc := enc) (C := Try.checked) false ⟨#[], #[.slice none 0 0], []⟩ 8 (by kernel_rfl) (by kernel_rfl) (by kernel_rfl) (by kernel_rfl)) ?_
  intro W base args ds gs before hval0 hW hcnd _
  have hval : ∀ (j : Nat) t v, Try.f4.params[j]? = some t → args[j]? = some v → Value.okWide Try.prog W .any base t v := hval0
  have hW' := hW
  obtain ⟨p, q, hA0, -⟩ := hW
  have hA : DataW.TrodAll enc Try.prog W 0 (fun _ => true) true Try.f4.params.toList args.toList ds p := hA0
  rw [Try.params4] at hA hval
  obtain ⟨v0, vs0, d0, ds0, p0, q0, hargs, rfl, rfl, h0, r0⟩ := trodAll_cons hA
  obtain ⟨rfl, rfl, rfl⟩ := trodAll_nil r0
  obtain rfl : args = #[v0] := by cases args; simp_all
  clear hA0 hval0
  have hv0 := hval 0 _ v0 rfl rfl
  obtain ⟨a0, len0, cap0, rfl, hc⟩ := open_code hv0 h0
  exact (walk a0 len0 cap0 W hc).mono fun r W' ⟨he, hb⟩ => ⟨_, he, law_post rfl rfl Try.underlying4 (by kernel_rfl) (n := 1)
    (fun ds' hd => by rcases ds' with _ | ⟨x0, _ | ⟨y, z⟩⟩ <;> simp at hd <;> exact ⟨rfl, rfl, rfl⟩) rfl hW' hb⟩

theorem over : Rows.fnNewestRow.holds Try.pinned (OpenSpec.ofChange Rows.fnNewestSpec) :=
  OpenClaim.holds_of_wide 4 Try.f4 rfl rfl rfl rfl rfl rfl rfl ⟨rfl, rfl, rfl, rfl, rfl⟩ rfl rfl rfl rfl rfl (by kernel_rfl) Try.func4 (by kernel_rfl)
    (of_decide_eq_true (by kernel_rfl)) (by unfold Func.isWrapper; first | (rw [if_pos (by decide +kernel)]; kernel_rfl) | (rw [if_neg (by decide +kernel)]; exact ⟨rfl, rfl⟩))
    (fun os started H enc _ => lifted os started H enc)

theorem proved : Rows.FnNewestSaid :=
  over
#print axioms proved
end Go.Proofs.Ytbdcehmcdoocgaa.fnNewest
