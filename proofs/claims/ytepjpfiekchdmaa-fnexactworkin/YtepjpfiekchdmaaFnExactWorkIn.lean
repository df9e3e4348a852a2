/- Proved: the law FnExactWorkIn returns true at all arguments, and they read afterwards as before; no condition. -/
import Derived.Test.YtepjpfiekchdmaaShelfIn
import Derived.Test.YtepjpfiekchdmaaMarkS
import Derived.Test.YtepjpfiekchdmaaShelfSz
import Derived.Test.YtepjpfiekchdmaaShelfEq
import Derived.Test.YtepjpfiekchdmaaShelfOpen
import Derived.Test.YtepjpfiekchdmaaWorkEq
import Derived.Test.YtepjpfiekchdmaaShell
import Derived.Lib.SmallJoins
namespace Go.Proofs.Ytepjpfiekchdmaa.fnExactWorkIn
open Go.ChangeShapes Go.WideShapes Go.ChangeAt Go.RowKit Go.Joins Go.Deep
open Go.ChangeMaps (open_string shut_string)
set_option linter.unusedVariables false

set_option maxRecDepth 100000 in
set_option maxHeartbeats 16000000 in
theorem walk (A : Option Addr) (l : List Wr) (cap : Nat) (name : ByteArray) (hlen : l.length ≤ maxLen) (hp : WrsIn maxLen l) (hnm : name.size ≤ maxLen) (w : World) (hl : Wks w A l) :
    Calls Try.prog 3 #[.slice A l.length cap, .string name] w fun e w' => e = .returned (.bool true) ∧ Below w.heap.size w w' := by
  unfold maxLen at hnm
  by_cases hnb : 1048576 < name.size
  · go_enter Try.func3, Try.ntmps3
    go_wp2
    go_ret
    exact ⟨rfl, Below.refl _ _⟩
  by_cases hbig : 1048576 < l.length + szWrs l
  · go_enter Try.func3, Try.ntmps3
    go_wp2_with fail
    refine (szWorkS_big A l cap 1048576 _ (by omega) (by omega) hl hlen hp (by omega)).mono ?_
    rintro r w1 ⟨rfl, b1⟩
    go_wp2
    go_ret
    exact ⟨rfl, b1⟩
  · have hl20 : l.length ≤ 1048576 := by omega
    have HP : Hid (WrsIn 1048576 l) := Lib.hid (WrsIn.of_sz (by omega))
    have hge : 0 ≤ (1048576 : Int) - l.length - szWrs l := by omega
    have HSZ : Hid (mlen l ≤ 8000000) := Lib.hid (by have := mlen_le l; omega)
    have HLP : Hid ((M.workIn (l.map Wr.wk) name).1.copies.length ≤ 1048576) := Lib.hid (M.workIn_len (fun x hx => by
      obtain ⟨r, hr, rfl⟩ := List.mem_map.1 hx
      exact (HP.out r hr).2.1) name)
    clear hp hbig
    go_enter Try.func3, Try.ntmps3
    go_wp2_with fail
    refine (szWorkS_small A l cap 1048576 _ (by omega) hl (by omega)).mono ?_
    rintro r w1 ⟨rfl, b0⟩
    have hl1 := hl.below b0
    go_wp2_with fail
    refine (toWorkS_any A l cap _ hl1 hl20 HP.out).mono ?_
    rintro r w2 ⟨rs, hrs, hrl, hra, rfl, o2, b2⟩
    replace b0 := next b0 b2
    have hp2 := HP.out.of_map hrs
    have HW := Lib.hid o2.wks.1
    clear hl1 o2 b2
    go_wp2_with fail
    have hcall := specWorkIn _ rs l.length name _ HW.out (fun r hr h => absurd h (hra r hr).1) (by omega) hp2
    rw [hrl, hrs] at hcall
    refine hcall.mono ?_
    clear hcall
    rintro r w3 ⟨⟨A8, c8, rfl, o8⟩, b3⟩
    replace b0 := next b0 b3
    have h8 := holds_new w3 (wkL (M.workIn (l.map Wr.wk) name).1.name (M.workIn (l.map Wr.wk) name).1.owner A8 (M.workIn (l.map Wr.wk) name).1.copies.length c8) 26
    have ba := (Below.refl w3.heap.size w3).alloc (Nat.le_refl _) (.cells (wkL (M.workIn (l.map Wr.wk) name).1.name (M.workIn (l.map Wr.wk) name).1.owner A8 (M.workIn (l.map Wr.wk) name).1.copies.length c8) 26)
    replace o8 := (o8.mono (Nat.zero_le _)).below ba
    replace b0 := next b0 ba
    have hl1 := hl.below b0
    clear HW hrs hp2 b3 hrl hra ba
    go_wp2_with fail
    generalize hwa : w3.alloc (.cells (wkL (M.workIn (l.map Wr.wk) name).1.name (M.workIn (l.map Wr.wk) name).1.owner A8 (M.workIn (l.map Wr.wk) name).1.copies.length c8) 26) = wa at h8 o8 b0 hl1 ⊢
    clear hwa
    refine (toWorkS_any A l cap _ hl1 hl20 HP.out).mono ?_
    rintro r w4 ⟨ms, hms, hml, -, rfl, o4, b4⟩
    have HWW := Lib.hid b0.size
    have HB4 := Lib.hid (fun g (hg : blocksS (.slice (some ⟨wa.heap.size, 0, none⟩) l.length l.length) ms g) => o4.ge hg)
    have HLT8 := Lib.hid (show _ ∧ _ from ⟨(fun k (hk : (Value.slice A8 (M.workIn (l.map Wr.wk) name).1.copies.length c8).ownBlock = some k) => (o8.lt k hk).2), h8.1⟩)
    replace h8 := h8.below b4
    replace o8 := o8.below b4
    replace b0 := next b0 b4
    have hp4 := HP.out.of_map hms
    have HMM := Lib.hid (mlen_map hms)
    have HML := Lib.hid hml
    have HMS := Lib.hid hms
    have HO4 := Lib.hid o4
    have hwa4 := b4.size
    clear hl1 o4 b4
    go_wp2_with fail
    have hcall := implWorkIn _ ms l.length name _ HO4.out.wks.1 (by omega) hp4
    rw [hml, hms] at hcall
    refine hcall.mono ?_
    clear hcall
    rintro r w5 ⟨⟨A9, c9, rfl, o9⟩, b5⟩
    have h9 := holds_new w5 (wkL (M.workIn (l.map Wr.wk) name).1.name (M.workIn (l.map Wr.wk) name).1.owner A9 (M.workIn (l.map Wr.wk) name).1.copies.length c9) 26
    have ba := (Below.refl w5.heap.size w5).alloc (Nat.le_refl _) (.cells (wkL (M.workIn (l.map Wr.wk) name).1.name (M.workIn (l.map Wr.wk) name).1.owner A9 (M.workIn (l.map Wr.wk) name).1.copies.length c9) 26)
    have HLT9 := Lib.hid (show _ ∧ _ from ⟨(fun k (hk : (Value.slice A9 (M.workIn (l.map Wr.wk) name).1.copies.length c9).ownBlock = some k) => (o9.lt k hk)), b5.size⟩)
    have HWA := Lib.hid (show w.heap.size ≤ wa.heap.size ∧ wa.heap.size ≤ w4.heap.size from ⟨HWW.out, hwa4⟩)
    replace o9 := (o9.mono (Nat.zero_le _)).below ba
    replace HO4 := Lib.hid ((HO4.out.below b5).below ba)
    replace h8 := h8.below b5
    replace o8 := o8.below b5
    replace b0 := next b0 b5
    replace h8 := h8.below ba
    replace o8 := o8.below ba
    replace b0 := next b0 ba
    clear b5 ba hwa4
    obtain ⟨u0, u1, u2⟩ := h8.at3
    obtain ⟨v0, v1, v2⟩ := h9.at3
    have z8 := h8.1
    have z9 := h9.1
    have hne : ((M.workIn (l.map Wr.wk) name).2 != (M.workIn (l.map Wr.wk) name).2) = false := by simp
    go_wp2_with fail
    generalize hwb : w5.alloc (.cells (wkL (M.workIn (l.map Wr.wk) name).1.name (M.workIn (l.map Wr.wk) name).1.owner A9 (M.workIn (l.map Wr.wk) name).1.copies.length c9) 26) = wb at h8 o8 h9 o9 b0 u0 u1 u2 v0 v1 v2 z8 z9 HO4 ⊢
    clear hwb
    refine (eqWork_same (M.workIn (l.map Wr.wk) name).1.name (M.workIn (l.map Wr.wk) name).1.owner A9 A8 (M.workIn (l.map Wr.wk) name).1.copies c9 c8 _ o9.cps.1 o8.cps.1 (Nat.le_trans HLP.out (by unfold maxLen; omega))).mono ?_
    rintro r w6 ⟨rfl, b6⟩
    replace HO4 := Lib.hid (HO4.out.below b6)
    replace h8 := h8.below b6
    replace o8 := o8.below b6
    replace h9 := h9.below b6
    replace o9 := o9.below b6
    replace b0 := next b0 b6
    have hl6 := hl.below b0
    clear u0 u1 u2 v0 v1 v2 z8 z9 b6
    go_wp2_with fail
    refine (toWorkS_any A l cap _ hl6 hl20 HP.out).mono ?_
    rintro r w7 ⟨ns, hns, hnl, -, rfl, o7, b7⟩
    replace HO4 := Lib.hid (HO4.out.below b7)
    replace h8 := h8.below b7
    replace o8 := o8.below b7
    replace h9 := h9.below b7
    replace o9 := o9.below b7
    replace b0 := next b0 b7
    clear b7 hl6
    go_wp2_with fail
    have hcall := eqWorkS_same _ _ ms ns l.length l.length _ HO4.out.wks.1 o7.wks.1 (HMS.out.trans hns.symm) (by rw [HML.out]; unfold maxLen; omega) (hp4.mono (by unfold maxLen; omega))
    rw [hml, hnl] at hcall
    refine hcall.mono ?_
    clear hcall o7 hns hnl
    rintro r w8 ⟨rfl, b8⟩
    replace HO4 := Lib.hid (HO4.out.below b8)
    replace h8 := h8.below b8
    replace o8 := o8.below b8
    replace h9 := h9.below b8
    replace o9 := o9.below b8
    replace b0 := next b0 b8
    clear b8
    have hm0 : SfOwn wa.heap.size w8 (.slice (some ⟨wa.heap.size, 0, none⟩) ms.length l.length) ms := by rw [hml]; exact HO4.out
    have HM0 := Lib.hid hm0
    clear hm0
    go_wp2_with fail
    have hcall := markWorkS_any (some ⟨wa.heap.size, 0, none⟩) ms l.length 1 wa.heap.size _ HM0.out (by omega) (by omega) (by have := HSZ.out; have := HMM.out; omega)
    rw [hml, HMM.out] at hcall
    refine hcall.mono ?_
    clear hcall
    rintro r w9 ⟨rfl, -, ht⟩
    have hbl := HB4.out
    replace b0 := b0.trans (ht.low w.heap.size b0.size (fun g hg => Nat.le_trans HWA.out.1 (hbl g hg).1))
    replace h8 := ht.holds h8 (fun hg => by have := (hbl _ hg).1; have := HLT8.out.2; omega)
    replace h9 := ht.holds h9 (fun hg => by have := (hbl _ hg).2; have := HLT9.out.2; omega)
    replace o8 := ht.own o8 (fun g hg hg' => by have := (hbl _ hg').1; have := HLT8.out.1 g hg; omega)
    replace o9 := ht.own o9 (fun g hg hg' => by have := (hbl _ hg').2; have := (HLT9.out.1 g hg).1; omega)
    clear ht hbl HO4 HM0
    obtain ⟨kk, hkk⟩ : ∃ kk, 1 + mlen l = kk := ⟨_, rfl⟩
    rw [hkk]
    have hneg : ¬ ((kk : Int) < 0) := by omega
    clear hkk
    obtain ⟨u0, u1, u2⟩ := h8.at3
    obtain ⟨v0, v1, v2⟩ := h9.at3
    have z8 := h8.1
    have z9 := h9.1
    go_wp2_with fail
    refine (eqWork_same (M.workIn (l.map Wr.wk) name).1.name (M.workIn (l.map Wr.wk) name).1.owner A9 A8 (M.workIn (l.map Wr.wk) name).1.copies c9 c8 _ o9.cps.1 o8.cps.1 (Nat.le_trans HLP.out (by unfold maxLen; omega))).mono ?_
    rintro r wc ⟨rfl, bc⟩
    replace h8 := h8.below bc
    replace o8 := o8.below bc
    replace h9 := h9.below bc
    replace o9 := o9.below bc
    replace b0 := next b0 bc
    clear u0 u1 u2 v0 v1 v2 z8 z9 bc hneg
    obtain ⟨v0, v1, v2⟩ := h9.at3
    have z9 := h9.1
    go_wp2_with fail
    refine (markWork_own (M.workIn (l.map Wr.wk) name).1.name (M.workIn (l.map Wr.wk) name).1.owner A9 (M.workIn (l.map Wr.wk) name).1.copies (M.workIn (l.map Wr.wk) name).1.copies.length c9 0 _ o9 (Nat.le_trans HLP.out (by omega))).mono ?_
    rintro r wd ⟨rfl, om, ht⟩
    replace b0 := b0.trans (ht.low w.heap.size b0.size (fun g hg => by have := (HLT9.out.1 g hg).1; have := HWA.out; omega))
    replace h8 := ht.holds h8 (fun h => by have := (HLT9.out.1 _ h.symm).1; have := HLT8.out.2; have := HWA.out.2; omega)
    replace h9 := ht.holds h9 (fun h => by have := (HLT9.out.1 _ h.symm).2; omega)
    replace o8 := ht.own o8 (own_differ (fun k hk => Nat.lt_of_lt_of_le (HLT8.out.1 k hk) HWA.out.2) (fun k hk => (HLT9.out.1 k hk).1))
    obtain ⟨qq, hqq⟩ : ∃ qq, 1 + 5 * (M.workIn (l.map Wr.wk) name).1.copies.length = qq := ⟨_, rfl⟩
    rw [hqq]
    have HQ := Lib.hid hqq
    have hq1 : ¬ ((qq : Int) < 0) := by omega
    have hq2 : ((qq : Int) != (qq : Int)) = false := by simp
    clear ht v0 v1 v2 z9 o9 hqq
    obtain ⟨v0, v1, v2⟩ := h9.at3
    have z9 := h9.1
    go_wp2_with fail
    refine (heldWork_any (M.workIn (l.map Wr.wk) name).1.name (M.workIn (l.map Wr.wk) name).1.owner A9 (M.workIn (l.map Wr.wk) name).1.copies.length c9 1 _ om.cps.1 (Nat.le_trans HLP.out (by omega)) (by omega) (by omega)).mono ?_
    rintro r we ⟨rfl, be⟩
    rw [HQ.out]
    replace h8 := h8.below be
    replace o8 := o8.below be
    replace h9 := h9.below be
    replace om := om.below be
    replace b0 := next b0 be
    have hl1 := hl.below b0
    clear v0 v1 v2 z9 be
    go_wp2_with fail
    refine (toWorkS_any A l cap _ hl1 hl20 HP.out).mono ?_
    rintro r wf ⟨qs, hqs, hql, -, rfl, of, bf⟩
    replace h8 := h8.below bf
    replace o8 := o8.below bf
    replace h9 := h9.below bf
    replace om := om.below bf
    replace b0 := next b0 bf
    have hpq := HP.out.of_map hqs
    have HWQ := Lib.hid of.wks.1
    clear hl1 of bf
    go_wp2_with fail
    have hcall := implWorkIn _ qs l.length name _ HWQ.out (by omega) hpq
    rw [hql, hqs] at hcall
    refine hcall.mono ?_
    clear hcall
    rintro r wg ⟨⟨A14, c14, rfl, o14⟩, bg⟩
    replace h8 := h8.below bg
    replace o8 := o8.below bg
    replace h9 := h9.below bg
    replace om := om.below bg
    replace b0 := next b0 bg
    have h14 := holds_new wg (wkL (M.workIn (l.map Wr.wk) name).1.name (M.workIn (l.map Wr.wk) name).1.owner A14 (M.workIn (l.map Wr.wk) name).1.copies.length c14) 26
    have ba := (Below.refl wg.heap.size wg).alloc (Nat.le_refl _) (.cells (wkL (M.workIn (l.map Wr.wk) name).1.name (M.workIn (l.map Wr.wk) name).1.owner A14 (M.workIn (l.map Wr.wk) name).1.copies.length c14) 26)
    replace o14 := (o14.mono (Nat.zero_le _)).below ba
    replace h8 := h8.below ba
    replace o8 := o8.below ba
    replace h9 := h9.below ba
    replace om := om.below ba
    replace b0 := next b0 ba
    clear bg ba HWQ hpq hqs hql
    obtain ⟨u0, u1, u2⟩ := h8.at3
    obtain ⟨v0, v1, v2⟩ := h14.at3
    have z8 := h8.1
    have z14 := h14.1
    go_wp2_with fail
    generalize hwh : wg.alloc (.cells (wkL (M.workIn (l.map Wr.wk) name).1.name (M.workIn (l.map Wr.wk) name).1.owner A14 (M.workIn (l.map Wr.wk) name).1.copies.length c14) 26) = wh at h8 o8 h9 om h14 o14 b0 u0 u1 u2 v0 v1 v2 z8 z14 ⊢
    clear hwh
    refine (eqWork_same (M.workIn (l.map Wr.wk) name).1.name (M.workIn (l.map Wr.wk) name).1.owner A14 A8 (M.workIn (l.map Wr.wk) name).1.copies c14 c8 _ o14.cps.1 o8.cps.1 (Nat.le_trans HLP.out (by unfold maxLen; omega))).mono ?_
    rintro r wi ⟨rfl, bi⟩
    replace h9 := h9.below bi
    replace om := om.below bi
    replace b0 := next b0 bi
    clear u0 u1 u2 v0 v1 v2 z8 z14 bi h8 h14 o8 o14
    obtain ⟨v0, v1, v2⟩ := h9.at3
    have z9 := h9.1
    go_wp2_with fail
    refine (heldWork_any (M.workIn (l.map Wr.wk) name).1.name (M.workIn (l.map Wr.wk) name).1.owner A9 (M.workIn (l.map Wr.wk) name).1.copies.length c9 1 _ om.cps.1 (Nat.le_trans HLP.out (by omega)) (by omega) (by omega)).mono ?_
    rintro r wj ⟨rfl, bj⟩
    rw [HQ.out]
    replace b0 := next b0 bj
    clear bj
    go_wp2
    go_ret
    exact ⟨rfl, b0⟩

set_option maxRecDepth 100000 in
theorem lifted (os : Os) (started : os.Started) (H : Type) (enc : TypeId × Value → H) :
    ReturnsInHanded {} Try.checked os 3 .any (Rows.fnExactWorkInSpec.pre6 enc Try.prog Try.f3 Rows.fnExactWorkInRow.domain false) (Rows.fnExactWorkInSpec.post enc Try.prog Try.f3 false true false false) := by
  refine returnsInHanded_of_change (C := Try.checked) own started (by kernel_rfl) Try.func3
    (ChangeSpec.witness6 (enc := enc) (C := Try.checked) false ⟨#[], #[.slice none 0 0, .string ByteArray.empty], []⟩ 8 (by kernel_rfl) (by kernel_rfl) (by kernel_rfl) (by kernel_rfl)) ?_
  intro W base args ds gs before hval0 hW hcnd _
  have hval : ∀ (j : Nat) t v, Try.f3.params[j]? = some t → args[j]? = some v → Value.okWide Try.prog W .any base t v := hval0
  have hW' := hW
  obtain ⟨p, q, hA0, -⟩ := hW
  have hA : DataW.TrodAll enc Try.prog W 0 (fun _ => true) true Try.f3.params.toList args.toList ds p := hA0
  rw [Try.params3] at hA hval
  obtain ⟨v0, vs0, d0, ds0, p0, q0, hargs, rfl, rfl, h0, r0⟩ := trodAll_cons hA
  obtain ⟨v1, vs1, d1, ds1, p1, q1, rfl, rfl, rfl, h1, r1⟩ := trodAll_cons r0
  obtain ⟨rfl, rfl, rfl⟩ := trodAll_nil r1
  obtain rfl : args = #[v0, v1] := by cases args; simp_all
  clear hA0 hval0
  have hv0 := hval 0 _ v0 rfl rfl
  have hv1 := hval 1 _ v1 rfl rfl
  obtain ⟨A, l, cap, rfl, hl, hlen, hp⟩ := open_sf (tc := 37) (te := 64) Try.underlying22 Try.underlying39 (by kernel_rfl) (by kernel_rfl) (by kernel_rfl) Try.underlying9 Try.underlying2 rfl Try.underlying37 Try.underlying64 (by kernel_rfl) (by kernel_rfl) (by kernel_rfl) Try.underlying62 Try.underlying9 Try.underlying4 (by kernel_rfl) (by kernel_rfl) Try.underlying2 Try.underlying2 Try.underlying2 hv0 h0
  obtain ⟨name, rfl, -, -, hnm⟩ := open_string Try.underlying9 hv1 h1
  exact (walk A l cap name hlen hp hnm W hl).mono fun r W' ⟨he, hb⟩ => ⟨_, he, law_post rfl rfl Try.underlying4 (by kernel_rfl) (n := 2)
    (fun ds' hd => by rcases ds' with _ | ⟨x0, _ | ⟨x1, _ | ⟨y, z⟩⟩⟩ <;> simp at hd <;> exact ⟨rfl, rfl, rfl⟩) rfl hW' hb⟩

theorem over : Rows.fnExactWorkInRow.holds Try.pinned (OpenSpec.ofChange Rows.fnExactWorkInSpec) :=
  OpenClaim.holds_of_wide 3 Try.f3 rfl rfl rfl rfl rfl rfl rfl ⟨rfl, rfl, rfl, rfl, rfl⟩ rfl rfl rfl rfl rfl (by kernel_rfl) Try.func3 (by kernel_rfl)
    (of_decide_eq_true (by kernel_rfl)) (by unfold Func.isWrapper; first | (rw [if_pos (by decide +kernel)]; kernel_rfl) | (rw [if_neg (by decide +kernel)]; exact ⟨rfl, rfl⟩))
    (fun os started H enc _ => lifted os started H enc)

theorem proved : Rows.FnExactWorkInSaid :=
  over
#print axioms proved
end Go.Proofs.Ytepjpfiekchdmaa.fnExactWorkIn
