/- Proved: the law FnExactShelfOk returns true at every list of works, and the list reads afterwards as before; no condition. -/
import Derived.Test.YtpbgnbalmflleaaShelfSz
import Derived.Test.YtpbgnbalmflleaaShelfTo
import Derived.Test.YtpbgnbalmflleaaShelfEq
import Derived.Test.YtpbgnbalmflleaaShelfSpec
import Derived.Test.YtpbgnbalmflleaaShelfImpl
import Derived.Test.YtpbgnbalmflleaaShelfOpen
import Derived.Test.YtpbgnbalmflleaaShell
import Derived.Lib.SmallJoins
namespace Go.Proofs.Ytpbgnbalmflleaa.fnExactShelfOk
open Go.ChangeShapes Go.WideShapes Go.ChangeAt Go.RowKit Go.Joins Go.Deep
open Go.ChangeMaps (open_string shut_string)
set_option linter.unusedVariables false

set_option maxRecDepth 100000 in
set_option maxHeartbeats 16000000 in
theorem walk (A : Option Addr) (l : List Wr) (cap : Nat) (hlen : l.length ≤ maxLen) (hp : WrsIn maxLen l) (w : World) (hl : Wks w A l) :
    Calls Try.prog 3 #[.slice A l.length cap] w fun e w' => e = .returned (.bool true) ∧ Below w.heap.size w w' := by
  by_cases hbig : 1048576 < l.length + szWrs l
  · go_enter Try.func3, Try.ntmps3
    go_wp2_with fail
    refine (szWorkS_big A l cap 1048576 _ (by omega) (by omega) hl hlen hp (by omega)).mono ?_
    rintro r w1 ⟨rfl, b1⟩
    go_wp2
    go_ret
    exact ⟨rfl, b1⟩
  · have hl20 : l.length ≤ 1048576 := by omega
    have HP : Hid (WrsIn 1048576 l) := Lib.hid (WrsIn.of_sz (by omega))
    have hge : 0 ≤ (1048576 : Int) - l.length - szWrs l := by omega
    clear hp
    go_enter Try.func3, Try.ntmps3
    go_wp2_with fail
    refine (szWorkS_small A l cap 1048576 _ (by omega) hl (by omega)).mono ?_
    rintro r w1 ⟨rfl, b1⟩
    have hl1 := hl.below b1
    go_wp2_with fail
    refine (toWorkS_any A l cap _ hl1 hl20 HP.out).mono ?_
    rintro r w2 ⟨rs, hrs, hrl, -, rfl, o2, b2⟩
    replace b1 := next b1 b2
    have hp2 := HP.out.of_map hrs
    have HW := Lib.hid o2.wks.1
    clear hl1 o2 b2
    go_wp2_with fail
    have hcall := specShelfOk _ rs l.length _ HW.out (by omega) hp2
    rw [hrl, hrs] at hcall
    refine hcall.mono ?_
    clear hcall
    rintro r w3 ⟨rfl, b3⟩
    replace b1 := next b1 b3
    have hl1 := hl.below b1
    clear HW hrs hp2 b3 hrl
    go_wp2_with fail
    refine (toWorkS_any A l cap _ hl1 hl20 HP.out).mono ?_
    rintro r w4 ⟨ms, hms, hml, -, rfl, o4, b4⟩
    replace b1 := next b1 b4
    have hp4 := HP.out.of_map hms
    have HW := Lib.hid o4.wks.1
    clear hl1 o4 b4
    go_wp2_with fail
    have hcall := implShelfOk _ ms l.length _ HW.out (by omega) hp4
    rw [hml, hms] at hcall
    refine hcall.mono ?_
    clear hcall
    rintro r w5 ⟨rfl, b5⟩
    replace b1 := next b1 b5
    have hl1 := hl.below b1
    replace HW := Lib.hid (HW.out.below b5)
    have hne : (M.sfOk (l.map Wr.wk) != M.sfOk (l.map Wr.wk)) = false := by simp
    clear b5
    go_wp2_with fail
    refine (toWorkS_any A l cap _ hl1 hl20 HP.out).mono ?_
    rintro r w6 ⟨ns, hns, hnl, -, rfl, o6, b6⟩
    replace b1 := next b1 b6
    have HW6 := Lib.hid o6.wks.1
    replace HW := Lib.hid (HW.out.below b6)
    clear hl1 o6 b6
    go_wp2_with fail
    have hcall := eqWorkS_same _ _ ms ns l.length l.length _ HW.out HW6.out (hms.trans hns.symm) (by unfold maxLen; omega) (hp4.mono (by unfold maxLen; omega))
    rw [hml, hnl] at hcall
    refine hcall.mono ?_
    clear hcall
    rintro r w7 ⟨rfl, b7⟩
    go_wp2
    go_ret
    exact ⟨rfl, next b1 b7⟩

set_option maxRecDepth 100000 in
theorem lifted (os : Os) (started : os.Started) (H : Type) (enc : TypeId × Value → H) :
    ReturnsInHanded {} Try.checked os 3 .any (Rows.fnExactShelfOkSpec.pre6 enc Try.prog Try.f3 Rows.fnExactShelfOkRow.domain false) (Rows.fnExactShelfOkSpec.post enc Try.prog Try.f3 false true false false) := by
  refine returnsInHanded_of_change (C := Try.checked) own started (by kernel_rfl) Try.func3
    (ChangeSpec.witness6 (enc := enc) (C := Try.checked) false ⟨#[], #[.slice none 0 0], []⟩ 8 (by kernel_rfl) (by kernel_rfl) (by kernel_rfl) (by kernel_rfl)) ?_
  intro W base args ds gs before hval0 hW hcnd _
  have hval : ∀ (j : Nat) t v, Try.f3.params[j]? = some t → args[j]? = some v → Value.okWide Try.prog W .any base t v := hval0
  have hW' := hW
  obtain ⟨p, q, hA0, -⟩ := hW
  have hA : DataW.TrodAll enc Try.prog W 0 (fun _ => true) true Try.f3.params.toList args.toList ds p := hA0
  rw [Try.params3] at hA hval
  obtain ⟨v0, vs0, d0, ds0, p0, q0, hargs, rfl, rfl, h0, r0⟩ := trodAll_cons hA
  obtain ⟨rfl, rfl, rfl⟩ := trodAll_nil r0
  obtain rfl : args = #[v0] := by cases args; simp_all
  clear hA0 hval0
  have hv0 := hval 0 _ v0 rfl rfl
  obtain ⟨A, l, cap, rfl, hl, hlen, hp⟩ := open_sf (tc := 30) (te := 58) Try.underlying22 Try.underlying32 (by kernel_rfl) (by kernel_rfl) (by kernel_rfl) Try.underlying9 Try.underlying2 rfl Try.underlying30 Try.underlying58 (by kernel_rfl) (by kernel_rfl) (by kernel_rfl) Try.underlying56 Try.underlying9 Try.underlying4 (by kernel_rfl) (by kernel_rfl) Try.underlying2 Try.underlying2 Try.underlying2 hv0 h0
  exact (walk A l cap hlen hp W hl).mono fun r W' ⟨he, hb⟩ => ⟨_, he, law_post rfl rfl Try.underlying4 (by kernel_rfl) (n := 1)
    (fun ds' hd => by rcases ds' with _ | ⟨x0, _ | ⟨y, z⟩⟩ <;> simp at hd <;> exact ⟨rfl, rfl, rfl⟩) rfl hW' hb⟩

theorem over : Rows.fnExactShelfOkRow.holds Try.pinned (OpenSpec.ofChange Rows.fnExactShelfOkSpec) :=
  OpenClaim.holds_of_wide 3 Try.f3 rfl rfl rfl rfl rfl rfl rfl ⟨rfl, rfl, rfl, rfl, rfl⟩ rfl rfl rfl rfl rfl (by kernel_rfl) Try.func3 (by kernel_rfl)
    (of_decide_eq_true (by kernel_rfl)) (by unfold Func.isWrapper; first | (rw [if_pos (by decide +kernel)]; kernel_rfl) | (rw [if_neg (by decide +kernel)]; exact ⟨rfl, rfl⟩))
    (fun os started H enc _ => lifted os started H enc)

theorem proved : Rows.FnExactShelfOkSaid :=
  over
#print axioms proved
end Go.Proofs.Ytpbgnbalmflleaa.fnExactShelfOk
