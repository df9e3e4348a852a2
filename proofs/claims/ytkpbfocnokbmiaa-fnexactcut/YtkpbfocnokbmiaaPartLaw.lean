/- Proved: the law FnExactCut returns true at all arguments, and they read afterwards as before; no condition. -/
import Derived.Test.YtkpbfocnokbmiaaPart15
import Derived.Test.YtkpbfocnokbmiaaPart16
import Derived.Test.YtkpbfocnokbmiaaPart18
import Derived.Test.YtkpbfocnokbmiaaPart19
import Derived.Test.YtkpbfocnokbmiaaPart21
import Derived.Lib.SmallJoins
namespace Go.Proofs.Ytkpbfocnokbmiaa.fnExactCut
open Go.ChangeShapes Go.WideShapes Go.ChangeAt Go.RowKit Go.Joins Go.Deep
open Go.ChangeMaps (open_string shut_string)
set_option linter.unusedVariables false

set_option maxRecDepth 100000 in
set_option maxHeartbeats 16000000 in
theorem walk (b r : Int) (A : Option Addr) (l : List M.En) (cap : Nat) (i : Int) (hlen : l.length ≤ maxLen) (hp : ∀ e ∈ l, enIn maxLen e) (w : World) (hl : Ens w A l) :
    Calls Try.prog 11 #[roV b r A l.length cap, .int .i64 i] w fun e w' => e = .returned (.bool true) ∧ Below w.heap.size w w' := by
  have b0 := (Below.refl w.heap.size w).alloc (Nat.le_refl _) (.cells (roA b r A l.length cap) 55)
  have h0 := holds_new w (roA b r A l.length cap) 55
  by_cases hbig : (1048576 : Int) < l.length + szEns l
  · go_enter Try.func11, Try.ntmps11
    go_wp2_with fail
    refine (szRoll_big b r A l cap 1048576 _ (by omega) (by omega) (hl.below b0) hlen hp hbig).mono ?_
    rintro e w1 ⟨rfl, b1⟩
    go_wp2
    go_ret
    exact ⟨rfl, next b0 b1⟩
  · have hl20 : l.length ≤ 1048576 := by omega
    have HP : Hid (∀ e ∈ l, enIn 1048576 e) := Lib.hid (fun c hc => by have := szEns_mem l c hc; show c.order.deed.name.size ≤ 1048576 ∧ c.order.deed.page.size ≤ 1048576; omega)
    have HLEN : Hid (l.length ≤ maxLen) := Lib.hid hlen
    have hge0 : 0 ≤ (1048576 : Int) - l.length - szEns l := by omega
    have HL := Lib.hid hl
    clear hp hl
    go_enter Try.func11, Try.ntmps11
    go_wp2_with fail
    refine (szRoll_small b r A l cap 1048576 _ (by omega) (HL.out.below b0) (by omega)).mono ?_
    rintro e w1 ⟨rfl, b1⟩
    replace h0 := h0.below b1
    replace b0 := next b0 b1
    clear hbig b1
    obtain ⟨QB, QR, q, qt, hQ⟩ : ∃ QB QR q qt, M.cut b r l i = ((QB, QR, q), qt) := ⟨_, _, _, _, rfl⟩
    have hqn : q.length ≤ l.length := by have h := M.cut_len b r l i; rw [hQ] at h; exact h
    have HQ := Lib.hid hQ
    have HQL : Hid (q.length ≤ maxLen) := Lib.hid (by unfold maxLen; omega)
    have HQN := Lib.hid hqn
    clear hQ hqn
    obtain ⟨p0, p1, p2⟩ := h0.three
    have zl := h0.1
    go_wp2_with fail
    refine (toRoll_any b r A l cap _ (HL.out.below b0) hl20).mono ?_
    rintro e y1 ⟨g1, rfl, o1, c1⟩
    replace h0 := h0.below c1
    replace b0 := next b0 c1
    clear p0 p1 p2 zl c1
    have HO1 := Lib.hid (own_atEns o1)
    clear o1
    have hcall := specCut b r (some ⟨g1, 0, none⟩) l l.length i y1 HO1.out hl20 HP.out (Nat.le_refl _) (fun h => by cases h)
    rw [HQ.out] at hcall
    have HCALL := Lib.hid hcall
    clear hcall
    go_wp2_with fail
    refine HCALL.out.mono ?_
    rintro e y3 h3
    obtain ⟨AW, cW, rfl, oW, b3⟩ := RcRet.open h3
    have HWB := Lib.hid (fun g (hg : (Value.slice AW q.length cW).ownBlock = some g) => (World.ownsRow.lt oW g hg).2)
    replace h0 := h0.below b3
    replace b0 := next b0 b3
    clear b3 HO1 HCALL h3
    have HP0 := Lib.hid h0.1
    have hw := holds_new y3 (roA QB QR AW q.length cW) 26
    have ba := (Below.refl y3.heap.size y3).alloc (Nat.le_refl _) (.cells (roA QB QR AW q.length cW) 26)
    replace h0 := h0.below ba
    replace oW := Own.below oW ba
    replace b0 := next b0 ba
    clear ba
    go_upto_region 6 with (fail)
    generalize hv3 : y3.alloc (.cells (roA QB QR AW q.length cW) 26) = v3 at hw h0 b0 oW ⊢
    have HB3 : Hid (y3.heap.size < v3.heap.size) := Lib.hid (by rw [← hv3]; simp)
    clear hv3
    obtain ⟨p0, p1, p2⟩ := h0.three
    have zl := h0.1
    go_wp2_with fail
    refine (toRoll_any b r A l cap _ (HL.out.below b0) hl20).mono ?_
    rintro e y2 ⟨g2, rfl, oX, c2⟩
    have HG2 := Lib.hid (World.ownsRow.lt oX g2 rfl)
    have hx := holds_new y2 (roA b r (some ⟨g2, 0, none⟩) l.length l.length) 26
    have ba := (Below.refl y2.heap.size y2).alloc (Nat.le_refl _) (.cells (roA b r (some ⟨g2, 0, none⟩) l.length l.length) 26)
    replace h0 := h0.below c2
    replace hw := hw.below c2
    replace oW := Own.below oW c2
    replace b0 := next b0 c2
    replace h0 := h0.below ba
    replace hw := hw.below ba
    replace oW := Own.below oW ba
    replace oX := Own.below oX ba
    replace b0 := next b0 ba
    clear p0 p1 p2 zl c2 ba
    go_upto_region 7 with (fail)
    generalize hv5 : y2.alloc (.cells (roA b r (some ⟨g2, 0, none⟩) l.length l.length) 26) = v5 at hx h0 hw b0 oW oX ⊢
    have HB5 : Hid (y2.heap.size < v5.heap.size) := Lib.hid (by rw [← hv5]; simp)
    clear hv5
    obtain ⟨q0, q1, q2⟩ := hx.three
    have hcall := implCut b r (some ⟨g2, 0, none⟩) l l.length i v5 (own_atEns oX) hl20 HP.out (Nat.le_refl _)
    rw [HQ.out] at hcall
    have HCALL := Lib.hid hcall
    clear hcall
    go_wp2_with fail
    refine HCALL.out.mono ?_
    rintro e y6 h3
    obtain ⟨AG, cG, rfl, oG, b6⟩ := RcRet.open h3
    have HGB := Lib.hid (fun g (hg : (Value.slice AG q.length cG).ownBlock = some g) => World.ownsRow.lt oG g hg)
    replace h0 := h0.below b6
    replace hw := hw.below b6
    replace hx := hx.below b6
    replace oW := Own.below oW b6
    replace oX := Own.below oX b6
    replace b0 := next b0 b6
    clear b6 HCALL h3 q0 q1 q2
    have HSZ6 : Hid (y2.heap.size < y6.heap.size) := Lib.hid hx.1
    have hg := holds_new y6 (roA QB QR AG q.length cG) 26
    have ba := (Below.refl y6.heap.size y6).alloc (Nat.le_refl _) (.cells (roA QB QR AG q.length cG) 26)
    replace h0 := h0.below ba
    replace hw := hw.below ba
    replace hx := hx.below ba
    replace oW := Own.below oW ba
    replace oX := Own.below oX ba
    replace oG := Own.below oG ba
    replace b0 := next b0 ba
    clear ba
    go_upto_region 8 with (fail)
    generalize hv6 : y6.alloc (.cells (roA QB QR AG q.length cG) 26) = v6 at h0 hw hx hg b0 oW oX oG ⊢
    clear hv6
    obtain ⟨k0, k1, k2⟩ := hg.three
    obtain ⟨j0, j1, j2⟩ := hw.three
    have hne : (qt != qt) = false := by simp
    go_wp2_with fail
    refine (eqRoll_same QB QR AG AW q q.length q.length cG cW _ rfl rfl (ens_of oG) (ens_of oW) HQL.out).mono ?_
    rintro e m1 ⟨rfl, b7⟩
    clear k0 k1 k2 j0 j1 j2 hne
    replace h0 := h0.below b7
    replace hw := hw.below b7
    replace hx := hx.below b7
    replace hg := hg.below b7
    replace oW := Own.below oW b7
    replace oX := Own.below oX b7
    replace oG := Own.below oG b7
    replace b0 := next b0 b7
    clear b7
    have HL6 := Lib.hid (HL.out.below b0)
    have HOX := Lib.hid (own_atEns oX)
    obtain ⟨p0, p1, p2⟩ := h0.three
    obtain ⟨q0, q1, q2⟩ := hx.three
    have zl := h0.1
    have zx := hx.1
    go_wp2_with fail
    refine wp_region_seq (fun w' => Below m1.heap.size m1 w') [(0, true), (1, true), (2, false), (3, false), (4, true)] (by kernel_rfl) (by kernel_rfl) (fun _ _ _ _ _ h => h) (by kernel_rfl) (by decide) (Below.refl _ _).drew ?_
    intro hHeld
    repeat (first
      | (refine seq_skip (by simp only [List.getElem?_toArray, List.getElem?_cons_succ, List.getElem?_cons_zero]; first | done | rfl) (by rfl) ?_; (try simp only [Act.put, List.setIfInBounds_toArray, List.set_cons_zero, List.set_cons_succ]))
      | (refine seq_reads (by simp only [List.getElem?_toArray, List.getElem?_cons_succ, List.getElem?_cons_zero]; first | done | rfl) (by rfl) ?_; apply Exists.intro; apply And.intro; (focus (intro w hSw; obtain ⟨hcS, -⟩ := bcell hSw; go_simp; (try with_reducible rfl); done)); (try simp only [Act.put, List.setIfInBounds_toArray, List.set_cons_zero, List.set_cons_succ]))
      | (refine seq_pass (by simp only [List.getElem?_toArray, List.getElem?_cons_succ, List.getElem?_cons_zero]; first | done | rfl) (by rfl) hHeld ?_; clear hHeld; intro hHeld; (try simp only [Act.put, List.setIfInBounds_toArray, List.set_cons_zero, List.set_cons_succ]))
      | (refine seq_call (by simp only [List.getElem?_toArray, List.getElem?_cons_succ, List.getElem?_cons_zero]; first | done | rfl) (by rfl) (fun K hK => ?_); go_simp; go_at_call 37; refine (toRoll_any b r A l cap _ (HL6.out.below hHeld) hl20).mono ?_; rintro r w1 ⟨g3, rfl, o3, b1⟩; (have HO3 := Lib.hid (own_atEns o3)); clear o3; go_simp; refine hK.out _ _ (next hHeld b1) ?_; clear hK hHeld; intro hHeld; (try simp only [Act.put, List.setIfInBounds_toArray, List.set_cons_zero, List.set_cons_succ]))
      | (refine seq_call (by simp only [List.getElem?_toArray, List.getElem?_cons_succ, List.getElem?_cons_zero]; first | done | rfl) (by rfl) (fun K hK => ?_); go_simp; go_at_call 38; refine (eqRoll_same b r _ _ l _ _ _ _ _ rfl rfl (HOX.out.below hHeld) HO3.out HLEN.out).mono ?_; rintro r w1 ⟨rfl, b1⟩; go_simp; refine hK.out _ _ (next hHeld b1) ?_; clear hK hHeld; intro hHeld; (try simp only [Act.put, List.setIfInBounds_toArray, List.set_cons_zero, List.set_cons_succ])))
    refine seq_end ?_
    clear p0 p1 p2 q0 q1 q2 zl zx HOX HL6
    replace h0 := h0.below hHeld
    replace hw := hw.below hHeld
    replace hx := hx.below hHeld
    replace hg := hg.below hHeld
    replace oW := Own.below oW hHeld
    replace oX := Own.below oX hHeld
    replace oG := Own.below oG hHeld
    replace b0 := next b0 hHeld
    clear hHeld
    go_upto_region 13 with (fail)
    obtain ⟨q0, q1, q2⟩ := hx.three
    go_wp2_with fail
    refine (markRoll_any b r (some ⟨g2, 0, none⟩) l l.length l.length 1 _ _ rfl oX (by omega) (by omega)).mono ?_
    rintro e m2 ⟨rfl, oX2, t1⟩
    clear q0 q1 q2 oX oX2
    replace h0 := t1.holds h0 (fun hg => by have h2 : g2 = w.heap.size := Option.some.inj hg; have := HG2.out; have := HP0.out; have := HB3.out; have := HB5.out; have := b0.size; omega)
    replace hw := t1.holds hw (fun hg => by have h2 : g2 = y3.heap.size := Option.some.inj hg; have := HG2.out; have := HP0.out; have := HB3.out; have := HB5.out; have := b0.size; omega)
    replace hx := t1.holds hx (fun hg => by have h2 : g2 = y2.heap.size := Option.some.inj hg; have := HG2.out; have := HP0.out; have := HB3.out; have := HB5.out; have := b0.size; omega)
    replace hg := t1.holds hg (fun hg => by have h2 : g2 = y6.heap.size := Option.some.inj hg; have := HG2.out; have := HB5.out; have := HSZ6.out; omega)
    replace oW := t1.row oW (fun g hg hs => by have h2 : g2 = g := Option.some.inj hs; have := HWB.out g hg; have := HG2.out; have := HB3.out; omega)
    replace oG := t1.row oG (fun g hg hs => by have h2 : g2 = g := Option.some.inj hs; have := (HGB.out g hg).1; have := HG2.out; have := HB5.out; omega)
    replace b0 := b0.trans (t1.low w.heap.size b0.size (fun g hs => by have h2 : g2 = g := Option.some.inj hs; have := HG2.out; have := HP0.out; have := HB3.out; omega))
    clear t1 hx
    have e1 : ¬ ((1 + 10 * l.length : Nat) : Int) < 0 := by omega
    obtain ⟨k0, k1, k2⟩ := hg.three
    obtain ⟨j0, j1, j2⟩ := hw.three
    have hne : (qt != qt) = false := by simp
    go_wp2_with fail
    refine (eqRoll_same QB QR AG AW q q.length q.length cG cW _ rfl rfl (ens_of oG) (ens_of oW) HQL.out).mono ?_
    rintro e m3 ⟨rfl, b7⟩
    clear k0 k1 k2 j0 j1 j2 hne
    replace h0 := h0.below b7
    replace hw := hw.below b7
    replace hg := hg.below b7
    replace oW := Own.below oW b7
    replace oG := Own.below oG b7
    replace b0 := next b0 b7
    clear b7
    clear e1
    obtain ⟨k0, k1, k2⟩ := hg.three
    go_wp2_with fail
    refine (markRoll_any QB QR AG q q.length cG 1 _ _ rfl oG (by omega) (by have := HQN.out; omega)).mono ?_
    rintro e m4 ⟨rfl, oG2, t1⟩
    clear k0 k1 k2
    replace h0 := t1.holds h0 (fun hs => by have := HGB.out _ hs; have := HG2.out; have := HP0.out; have := HB3.out; have := HB5.out; omega)
    replace hw := t1.holds hw (fun hs => by have := HGB.out _ hs; have := HG2.out; have := HP0.out; have := HB3.out; have := HB5.out; omega)
    replace hg := t1.holds hg (fun hs => by have := HGB.out _ hs; omega)
    replace oW := t1.row oW (fun g hg hs => by have := HGB.out g hs; have := HWB.out g hg; have := HG2.out; have := HB3.out; have := HB5.out; omega)
    replace b0 := b0.trans (t1.low w.heap.size b0.size (fun g hs => by have := HGB.out g hs; have := HG2.out; have := HP0.out; have := HB3.out; have := HB5.out; omega))
    clear t1 oG
    obtain ⟨K, hK⟩ : ∃ K : Nat, 1 + 10 * q.length = K := ⟨_, rfl⟩
    have HK := Lib.hid hK
    rw [hK]
    clear hK
    have e1 : ¬ (K : Int) < 0 := by omega
    have e2 : ((K : Int) != (K : Int)) = false := by simp
    obtain ⟨k0, k1, k2⟩ := hg.three
    go_wp2_with fail
    have hcall := heldRoll_any QB QR AG q.length cG 1 m4 (ens_of oG2) (by omega) (by have := HQN.out; omega)
    rw [HK.out] at hcall
    refine hcall.mono ?_
    clear hcall
    rintro e m5 ⟨rfl, b7⟩
    clear k0 k1 k2
    replace h0 := h0.below b7
    replace hw := hw.below b7
    replace hg := hg.below b7
    replace oW := Own.below oW b7
    replace oG2 := Own.below oG2 b7
    replace b0 := next b0 b7
    clear b7
    obtain ⟨p0, p1, p2⟩ := h0.three
    have zl := h0.1
    go_wp2_with fail
    refine (toRoll_any b r A l cap _ (HL.out.below b0) hl20).mono ?_
    rintro e y7 ⟨g7, rfl, o7, c7⟩
    have HO7 := Lib.hid (own_atEns o7)
    replace h0 := h0.below c7
    replace hw := hw.below c7
    replace hg := hg.below c7
    replace oW := Own.below oW c7
    replace oG2 := Own.below oG2 c7
    replace b0 := next b0 c7
    clear p0 p1 p2 zl c7 o7
    have hcall := implCut b r (some ⟨g7, 0, none⟩) l l.length i y7 HO7.out hl20 HP.out (Nat.le_refl _)
    rw [HQ.out] at hcall
    have HCALL := Lib.hid hcall
    clear hcall
    go_wp2_with fail
    refine HCALL.out.mono ?_
    rintro e y8 h3
    obtain ⟨AH, cH, rfl, oH, b8⟩ := RcRet.open h3
    replace h0 := h0.below b8
    replace hw := hw.below b8
    replace hg := hg.below b8
    replace oW := Own.below oW b8
    replace oG2 := Own.below oG2 b8
    replace b0 := next b0 b8
    clear b8 HCALL h3 HO7
    have hh := holds_new y8 (roA QB QR AH q.length cH) 26
    have ba := (Below.refl y8.heap.size y8).alloc (Nat.le_refl _) (.cells (roA QB QR AH q.length cH) 26)
    replace h0 := h0.below ba
    replace hw := hw.below ba
    replace hg := hg.below ba
    replace oW := Own.below oW ba
    replace oG2 := Own.below oG2 ba
    replace oH := Own.below oH ba
    replace b0 := next b0 ba
    clear ba
    go_upto_region 25 with (fail)
    generalize hv8 : y8.alloc (.cells (roA QB QR AH q.length cH) 26) = v8 at h0 hw hg hh b0 oW oG2 oH ⊢
    clear hv8
    obtain ⟨k0, k1, k2⟩ := hh.three
    obtain ⟨j0, j1, j2⟩ := hw.three
    have hne : (qt != qt) = false := by simp
    go_wp2_with fail
    refine (eqRoll_same QB QR AH AW q q.length q.length cH cW _ rfl rfl (ens_of oH) (ens_of oW) HQL.out).mono ?_
    rintro e m6 ⟨rfl, b7⟩
    clear k0 k1 k2 j0 j1 j2 hne
    replace h0 := h0.below b7
    replace hw := hw.below b7
    replace hg := hg.below b7
    replace oW := Own.below oW b7
    replace oG2 := Own.below oG2 b7
    replace b0 := next b0 b7
    clear b7
    obtain ⟨k0, k1, k2⟩ := hg.three
    go_wp2_with fail
    have hcall := heldRoll_any QB QR AG q.length cG 1 m6 (ens_of oG2) (by omega) (by have := HQN.out; omega)
    rw [HK.out] at hcall
    refine hcall.mono ?_
    clear hcall
    rintro e m7 ⟨rfl, b7⟩
    clear k0 k1 k2
    replace h0 := h0.below b7
    replace hw := hw.below b7
    replace hg := hg.below b7
    replace oW := Own.below oW b7
    replace oG2 := Own.below oG2 b7
    replace b0 := next b0 b7
    clear b7
    go_wp2
    go_ret
    exact ⟨rfl, b0⟩

set_option maxRecDepth 100000 in
theorem lifted (os : Os) (started : os.Started) (H : Type) (enc : TypeId × Value → H) :
    ReturnsInHanded {} Try.checked os 11 .any (Rows.fnExactCutSpec.pre6 enc Try.prog Try.f11 Rows.fnExactCutRow.domain false) (Rows.fnExactCutSpec.post enc Try.prog Try.f11 false true false false) := by
  refine returnsInHanded_of_change (C := Try.checked) own started (by kernel_rfl) Try.func11
    (ChangeSpec.witness6 (enc := enc) (C := Try.checked) false ⟨#[], #[.agg #[.int .i64 0, .int .i64 0, .slice none 0 0], .int .i64 0], []⟩ 8 (by kernel_rfl) (by kernel_rfl) (by kernel_rfl) (by kernel_rfl)) ?_
  intro W base args ds gs before hval0 hW hcnd _
  have hval : ∀ (j : Nat) t v, Try.f11.params[j]? = some t → args[j]? = some v → Value.okWide Try.prog W .any base t v := hval0
  have hW' := hW
  obtain ⟨p, q, hA0, -⟩ := hW
  have hA : DataW.TrodAll enc Try.prog W 0 (fun _ => true) true Try.f11.params.toList args.toList ds p := hA0
  rw [Try.params11] at hA hval
  obtain ⟨v0, vs0, d0, ds0, p0, q0, hargs, rfl, rfl, h0, r0⟩ := trodAll_cons hA
  obtain ⟨v1, vs1, d1, ds1, p1, q1, rfl, rfl, rfl, h1, r1⟩ := trodAll_cons r0
  obtain ⟨rfl, rfl, rfl⟩ := trodAll_nil r1
  obtain rfl : args = #[v0, v1] := by cases args; simp_all
  clear hA0 hval0
  have hv0 := hval 0 _ v0 rfl rfl
  have hv1 := hval 1 _ v1 rfl rfl
  obtain ⟨b, r, A, l, cap, rfl, hl, hlen, hp⟩ := open_ro Try.underlying55 (by kernel_rfl) (by kernel_rfl) (by kernel_rfl) Try.underlying2 Try.underlying2 rfl Try.underlying53 Try.underlying110 (by kernel_rfl) (by kernel_rfl) (by kernel_rfl) Try.underlying2 ⟨Try.underlying108, (by kernel_rfl), (by kernel_rfl), (by kernel_rfl), Try.underlying2, Try.underlying2, ⟨Try.underlying106, (by kernel_rfl), (by kernel_rfl), (by kernel_rfl), Try.underlying2, Try.underlying9, Try.underlying104, Try.underlying9, Try.underlying2, (by kernel_rfl), (by kernel_rfl), Try.underlying2, Try.underlying2, Try.underlying2⟩⟩ hv0 h0
  obtain ⟨i, rfl, -⟩ := open_int Try.underlying2 hv1 h1
  exact (walk b r A l cap i hlen hp W hl).mono fun r W' ⟨he, hb⟩ => ⟨_, he, law_post rfl rfl Try.underlying4 (by kernel_rfl) (n := 2)
    (fun ds' hd => by rcases ds' with _ | ⟨x0, _ | ⟨x1, _ | ⟨y, z⟩⟩⟩ <;> simp at hd <;> exact ⟨rfl, rfl, rfl⟩) rfl hW' hb⟩

theorem over : Rows.fnExactCutRow.holds Try.pinned (OpenSpec.ofChange Rows.fnExactCutSpec) :=
  OpenClaim.holds_of_wide 11 Try.f11 rfl rfl rfl rfl rfl rfl rfl ⟨rfl, rfl, rfl, rfl, rfl⟩ rfl rfl rfl rfl rfl (by kernel_rfl) Try.func11 (by kernel_rfl)
    (of_decide_eq_true (by kernel_rfl)) (by unfold Func.isWrapper; first | (rw [if_pos (by decide +kernel)]; kernel_rfl) | (rw [if_neg (by decide +kernel)]; exact ⟨rfl, rfl⟩))
    (fun os started H enc _ => lifted os started H enc)

theorem proved : Rows.FnExactCutSaid :=
  over
#print axioms proved
end Go.Proofs.Ytkpbfocnokbmiaa.fnExactCut
