/- Proved: the law FnExactShowShelf returns true at every list of works, and the list reads afterwards as before; the variables of the library that the card lists lie as their initialisers lay them. -/
import Derived.Test.YtpbgnbalmflleaaDoorShelfSz
import Derived.Test.YtpbgnbalmflleaaDoorShelfTo
import Derived.Test.YtpbgnbalmflleaaDoorShelfEq
import Derived.Test.YtpbgnbalmflleaaDoorShelfShow
import Derived.Test.YtpbgnbalmflleaaDoorShelfOpen
import Derived.Test.YtpbgnbalmflleaaDoorShellD
import Derived.Test.YtpbgnbalmflleaaDoorTie
import Derived.Test.YtpbgnbalmflleaaDoorCards
import Derived.Test.YtpbgnbalmflleaaDoorShellD
import Derived.Test.YtpbgnbalmflleaaDoorShell
import Derived.Lib.SmallJoins
namespace Go.Proofs.YtpbgnbalmflleaaDoor.fnExactShowShelf
open Go.ChangeShapes Go.WideShapes Go.ChangeAt Go.RowKit Go.Joins Go.Deep
open Go.ChangeMaps (open_string shut_string)
set_option linter.unusedVariables false

set_option maxRecDepth 100000 in
set_option maxHeartbeats 16000000 in
theorem walk (A : Option Addr) (l : List Wr) (cap : Nat) (hlen : l.length ≤ maxLen) (hp : WrsIn maxLen l) (w : World) (hl : Wks w A l) :
    Calls Tryd.prog 3 #[.slice A l.length cap] w fun e w' => e = .returned (.bool true) ∧ Below w.heap.size w w' := by
  by_cases hbig : 1048576 < l.length + szWrs l
  · go_enter Tryd.func3, Tryd.ntmps3
    go_wp2_with fail
    refine (szWorkS_big A l cap 1048576 _ (by omega) (by omega) hl hlen hp (by omega)).mono ?_
    rintro r w1 ⟨rfl, b1⟩
    go_wp2
    go_ret
    exact ⟨rfl, b1⟩
  · have hl20 : l.length ≤ 1048576 := by omega
    have HP : Hid (WrsIn 1048576 l) := Lib.hid (WrsIn.of_sz (by omega))
    have hge : 0 ≤ (1048576 : Int) - l.length - szWrs l := by omega
    clear hp
    go_enter Tryd.func3, Tryd.ntmps3
    go_wp2_with fail
    refine (szWorkS_small A l cap 1048576 _ (by omega) hl (by omega)).mono ?_
    rintro r w1 ⟨rfl, b1⟩
    have hl1 := hl.below b1
    go_wp2_with fail
    refine (toWorkS_any A l cap _ hl1 hl20 HP.out).mono ?_
    rintro r w2 ⟨rs, hrs, hrl, -, rfl, o2, b2⟩
    replace b1 := next b1 b2
    have hp2 := HP.out.of_map hrs
    have HW := Lib.hid o2.wks.1
    clear hl1 o2 b2
    go_wp2_with fail
    have hcall := specShowShelf _ rs l.length _ HW.out (by omega) hp2
    rw [hrl, hrs] at hcall
    refine hcall.mono ?_
    clear hcall
    rintro r w3 ⟨he, b3⟩
    obtain rfl : r = .returned (.string ⟨(M.sfShow (l.map Wr.wk)).toArray⟩) := he
    replace b1 := next b1 b3
    have hl1 := hl.below b1
    clear HW hrs hp2 b3 hrl
    go_wp2_with fail
    refine (toWorkS_any A l cap _ hl1 hl20 HP.out).mono ?_
    rintro r w4 ⟨ms, hms, hml, -, rfl, o4, b4⟩
    replace b1 := next b1 b4
    have hp4 := HP.out.of_map hms
    have HW := Lib.hid o4.wks.1
    clear hl1 o4 b4
    go_wp2_with fail
    have hcall := implShowShelf _ ms l.length _ HW.out (by omega) hp4
    rw [hml, hms] at hcall
    refine hcall.mono ?_
    clear hcall
    rintro r w5 ⟨he, b5⟩
    obtain rfl : r = .returned (.string ⟨(M.sfShow (l.map Wr.wk)).toArray⟩) := he
    replace b1 := next b1 b5
    have hl1 := hl.below b1
    replace HW := Lib.hid (HW.out.below b5)
    generalize hX : (⟨(M.sfShow (l.map Wr.wk)).toArray⟩ : ByteArray) = X
    have hne : (X.toList != X.toList) = false := by simp
    clear b5
    go_wp2_with fail
    refine (toWorkS_any A l cap _ hl1 hl20 HP.out).mono ?_
    rintro r w6 ⟨ns, hns, hnl, -, rfl, o6, b6⟩
    replace b1 := next b1 b6
    have HW6 := Lib.hid o6.wks.1
    replace HW := Lib.hid (HW.out.below b6)
    clear hl1 o6 b6
    go_wp2_with fail
    have hcall := eqWorkS_same _ _ ms ns l.length l.length _ HW.out HW6.out (hms.trans hns.symm) (by unfold maxLen; omega) (hp4.mono (by unfold maxLen; omega))
    rw [hml, hnl] at hcall
    refine hcall.mono ?_
    clear hcall
    rintro r w7 ⟨rfl, b7⟩
    go_wp2
    go_ret
    exact ⟨rfl, next b1 b7⟩

set_option maxRecDepth 100000 in
theorem lifted (os : Os) (started : os.Started) (H : Type) (enc : TypeId × Value → H) :
    ReturnsInHanded {} Tryd.checked os 3 .any (fun w args => (Rows.fnExactShowShelfSpec.pre enc Tryd.prog Tryd.f3 Rows.fnExactShowShelfRow.domain false w args ∧ laidMetH Tryd.prog Rows.fnExactShowShelfRow.laid w) ∧ sizedMet enc Tryd.prog Tryd.f3 (OpenSpec.ofChange Rows.fnExactShowShelfSpec) false w args)
      (Rows.fnExactShowShelfSpec.post enc Tryd.prog Tryd.f3 false true false false) := by
  refine handed_laid (C := Tryd.checked) (X := fun w _ => laidMetH Tryd.prog Rows.fnExactShowShelfRow.laid w) (fun _ _ _ hh h => h.of_heap hh) own started (by kernel_rfl) Tryd.func3
    (ChangeSpec.witness_shaped (enc := enc) (C := Tryd.checked) (os := os) (X := fun w _ => laidMetH Tryd.prog Rows.fnExactShowShelfRow.laid w) false (World.laidAll Tryd.prog os Rows.fnExactShowShelfRow.laid) #[.slice none 0 0] 8 (World.laidAll_os _ _ _)
      (World.shaped_of_ZipB (by kernel_rfl) (by kernel_rfl)) (by kernel_rfl) (by kernel_rfl) (by kernel_rfl)
      (by rw [MakeChecks.laidMetH_plain _ _ _ (by kernel_rfl)]; exact laidMet_laidAll _ (by kernel_rfl) (by kernel_rfl))) ?_
  intro W base args ds gs before hval0 hW hL hsh
  have hval : ∀ (j : Nat) t v, Tryd.f3.params[j]? = some t → args[j]? = some v → Value.okWide Tryd.prog W .any base t v := hval0
  have hW' := hW
  obtain ⟨p, q, hA0, -⟩ := hW
  have hA : DataW.TrodAll enc Tryd.prog W 0 (fun _ => true) true Tryd.f3.params.toList args.toList ds p := hA0
  rw [Tryd.params3] at hA hval
  obtain ⟨v0, vs0, d0, ds0, p0, q0, hargs, rfl, rfl, h0, r0⟩ := trodAll_cons hA
  obtain ⟨rfl, rfl, rfl⟩ := trodAll_nil r0
  obtain rfl : args = #[v0] := by cases args; simp_all
  clear hA0 hval0
  have hv0 := hval 0 _ v0 rfl rfl
  obtain ⟨A, l, cap, rfl, hl, hlen, hp⟩ := open_sf (tc := 30) (te := 69) Tryd.underlying22 Tryd.underlying32 (by kernel_rfl) (by kernel_rfl) (by kernel_rfl) Tryd.underlying9 Tryd.underlying2 rfl Tryd.underlying30 Tryd.underlying69 (by kernel_rfl) (by kernel_rfl) (by kernel_rfl) Tryd.underlying67 Tryd.underlying9 Tryd.underlying4 (by kernel_rfl) (by kernel_rfl) Tryd.underlying2 Tryd.underlying2 Tryd.underlying2 hv0 h0
  exact (walk A l cap hlen hp W hl).mono fun r W' ⟨he, hb⟩ => ⟨_, he, law_post rfl rfl Tryd.underlying4 (by kernel_rfl) (n := 1)
    (fun ds' hd => by rcases ds' with _ | ⟨x0, _ | ⟨y, z⟩⟩ <;> simp at hd <;> exact ⟨rfl, rfl, rfl⟩) rfl hW' hb⟩

theorem over : Rows.fnExactShowShelfRow.holds Tryd.pinned (OpenSpec.ofChange Rows.fnExactShowShelfSpec) :=
  OpenClaim.holds_of_wide 3 Tryd.f3 rfl rfl rfl rfl rfl rfl rfl ⟨rfl, rfl, rfl, rfl, rfl⟩ rfl rfl rfl rfl rfl (by kernel_rfl) Tryd.func3 (by kernel_rfl)
    (of_decide_eq_true (by kernel_rfl)) (by unfold Func.isWrapper; first | (rw [if_pos (by decide +kernel)]; kernel_rfl) | (rw [if_neg (by decide +kernel)]; exact ⟨rfl, rfl⟩))
    (fun os started H enc _ => lifted os started H enc)

theorem proved : Rows.FnExactShowShelfCardSaid :=
  Claim7.holds_tied_plain_at .later [] [.data, .data, .data] true (true, "3d4191efd2a44779d7de82e5248801a183699afb73e4164003a63a2499c92ce9") false
    over (fun _ h => by cases h) (by kernel_rfl) (fun _ h => by cases h) fnExactShowShelf_row_tie rfl ⟨rfl, rfl⟩ (by kernel_rfl) rfl
    (fun f fn hf hfn => by
      obtain rfl : f = 3 := Option.some.inj ((show Tryd.prog.funcNamed "loop.example/g00572/laws.FnExactShowShelf" = some 3 by kernel_rfl).symm.trans hf) |>.symm
      obtain rfl : fn = Tryd.f3 := (Option.some.inj (Tryd.func3.symm.trans hfn)).symm
      exact ⟨by kernel_rfl, fun j t ht => by
        rw [Tryd.params3] at ht
        have hm : t ∈ [22] := by simpa using Array.mem_of_getElem? ht
        have hall : ([22].all fun u => !Tryd.prog.wantsStandIn u) = true := by kernel_rfl
        exact (show Tryd.prog.wantsStandIn t = false by simpa using List.all_eq_true.1 hall t hm)⟩)
    (by kernel_rfl)
#print axioms proved
end Go.Proofs.YtpbgnbalmflleaaDoor.fnExactShowShelf
