/- Proved: the law FnExactObeyedAll returns true at all arguments, and they read afterwards as before; no condition. -/
import Derived.Test.YtblcgbgcccjpcaaGreatPart47
import Derived.Test.YtblcgbgcccjpcaaGreatPart48
import Derived.Test.YtblcgbgcccjpcaaGreatPart50
import Derived.Lib.SmallJoins
namespace Go.Proofs.YtblcgbgcccjpcaaGreat.fnExactObeyedAll
open Go.ChangeShapes Go.WideShapes Go.ChangeAt Go.RowKit Go.Joins Go.Deep
open Go.ChangeMaps (open_string shut_string)
set_option linter.unusedVariables false

set_option maxRecDepth 100000 in
set_option maxHeartbeats 16000000 in
theorem walk (A : Option Addr) (l : List Wr) (cap : Nat) (A2 : Option Addr) (m : List M.La) (cb : Nat) (AO : Option Addr) (es : List M.En) (co : Nat) (hlen : l.length ≤ maxLen) (hp : WrsIn maxLen l) (hml : m.length ≤ maxLen) (hmp : ∀ c ∈ m, laIn maxLen c) (hol : es.length ≤ maxLen) (hop : ∀ e ∈ es, enIn maxLen e) (w : World) (hl : Wks w A l) (hm : Las w A2 m) (ho : Ens w AO es) :
    Calls Tryz.prog 8 #[bkV A l.length cap A2 m.length cb, .slice AO es.length co] w fun e w' => e = .returned (.bool true) ∧ Below w.heap.size w w' := by
  have b0 := (Below.refl w.heap.size w).alloc (Nat.le_refl _) (.cells (bkA A l.length cap A2 m.length cb) 86)
  have h0 := holds_new w (bkA A l.length cap A2 m.length cb) 86
  have hl0 := hl.below b0
  have hm0 := hm.below b0
  have ho0 := ho.below b0
  by_cases hbig : (1048576 : Int) < l.length + szWrs l + (m.length + szLas m)
  · go_enter Tryz.func8, Tryz.ntmps8
    go_wp2_with fail
    refine (szBook_big A l cap A2 m cb 1048576 _ (by omega) (by omega) hl0 hm0 hlen hp hml hmp hbig).mono ?_
    rintro r w1 ⟨rfl, b1⟩
    go_wp2
    go_ret
    exact ⟨rfl, next b0 b1⟩
  · have hl20 : l.length ≤ 1048576 := by omega
    have hm20 : m.length ≤ 1048576 := by omega
    have HP : Hid (WrsIn 1048576 l) := Lib.hid (WrsIn.of_sz (by omega))
    have HMP : Hid (∀ c ∈ m, laIn 1048576 c) := Lib.hid (fun c hc => by have := szLas_mem m c hc; show c.page.size ≤ 1048576; omega)
    have hge0 : 0 ≤ (1048576 : Int) - l.length - szWrs l - m.length - szLas m := by omega
    have hle0 : (1048576 : Int) - l.length - szWrs l - m.length - szLas m ≤ 1048576 := by omega
    clear hp hmp
    obtain ⟨N, hN⟩ : ∃ N : Int, (1048576 : Int) - l.length - szWrs l - m.length - szLas m = N := ⟨_, rfl⟩
    rw [hN] at hge0 hle0
    have HN := Lib.hid hN
    clear hN
    by_cases hb2 : N < (es.length + szEns es : Int)
    · go_enter Tryz.func8, Tryz.ntmps8
      go_wp2_with fail
      refine (szBook_small A l cap A2 m cb 1048576 _ (by omega) hl0 hm0 (by omega)).mono ?_
      rintro r w1 ⟨rfl, b1⟩
      rw [HN.out]
      replace b0 := next b0 b1
      clear b1
      go_wp2_with fail
      refine (enszS_big AO es co N _ hge0 hle0 (ho.below b0) hol hop hb2).mono ?_
      rintro r w2 ⟨rfl, b2⟩
      replace b0 := next b0 b2
      go_wp2
      go_ret
      exact ⟨rfl, b0⟩
    have hb3 : (es.length + szEns es : Int) ≤ N := by omega
    have hol20 : es.length ≤ 1048576 := by omega
    have HOP : Hid (∀ o ∈ es, enIn 1048576 o) := Lib.hid (fun c hc => by have := szEns_mem es c hc; show c.order.deed.name.size ≤ 1048576 ∧ c.order.deed.page.size ≤ 1048576; omega)
    have HSZ : Hid (mlen l + 4 * m.length + 10 * es.length ≤ 10485760) := Lib.hid (by have := mlen_le l; have := HN.out; omega)
    obtain ⟨N2, hN2⟩ : ∃ N2 : Int, N - es.length - szEns es = N2 := ⟨_, rfl⟩
    have hnn : 0 ≤ N2 := by omega
    have HN2 := Lib.hid hN2
    have HB3 := Lib.hid hb3
    clear hb2 hN2 hop
    go_enter Tryz.func8, Tryz.ntmps8
    go_wp2_with fail
    refine (szBook_small A l cap A2 m cb 1048576 _ (by omega) hl0 hm0 (by omega)).mono ?_
    rintro r w1 ⟨rfl, b1⟩
    rw [HN.out]
    replace h0 := h0.below b1
    replace b0 := next b0 b1
    clear b1 hl0 hm0 ho0 hb3 hbig
    go_wp2_with fail
    refine (enszS_small AO es co N _ hle0 (ho.below b0) HB3.out).mono ?_
    rintro r w2 ⟨rfl, b2⟩
    rw [HN2.out]
    replace h0 := h0.below b2
    replace b0 := next b0 b2
    clear b2 hge0 hle0
    have HL5 := Lib.hid ((M.obeyAll_ok (l.map Wr.wk, m) es).2)
    obtain ⟨p0, p1⟩ := h0.two
    have z0 := h0.1
    go_wp2_with fail
    refine (toBook_at A l cap A2 m cb _ (hl.below b0) hl20 HP.out (hm.below b0) hm20).mono ?_
    rintro r wa1 ⟨rsa, gAa, gBa, rfl, -, -, ha3, -, -, -, b3⟩
    have HA3 := Lib.hid ha3
    clear p0 p1 z0 ha3
    replace h0 := h0.below b3
    replace b0 := next b0 b3
    clear b3
    go_wp2_with fail
    refine (entoS_any AO es co _ (ho.below b0) hol20).mono ?_
    rintro r wb1 ⟨rfl, o4, b4⟩
    have HO4 := Lib.hid (ens_of o4)
    replace HA3 := Lib.hid (HA3.out.below b4)
    clear o4
    replace h0 := h0.below b4
    replace b0 := next b0 b4
    clear b4
    go_wp2_with fail
    refine (specObeyedAll_at l m _ es _ _ _ HA3.out hl20 HP.out hm20 HO4.out hol20 HOP.out).mono ?_
    rintro r wc1 h5
    obtain ⟨B6, d6, C6, f6, r6, rfl, o6, m6, l6, -, b5⟩ := h5.open
    have ba := (Below.refl wc1.heap.size wc1).alloc (Nat.le_refl _) (.cells (bkA B6 r6.length d6 C6 (M.obeyedAll (l.map Wr.wk, m) es).2.length f6) 27)
    have x6 : BB wb1.heap.size (wc1.alloc (.cells (bkA B6 r6.length d6 C6 (M.obeyedAll (l.map Wr.wk, m) es).2.length f6) 27)) wc1.heap.size B6 d6 C6 f6 r6 (M.obeyedAll (l.map Wr.wk, m) es).2 := ⟨holds_new _ _ _, o6.below ba, LasOwn.below l6 ba⟩
    replace h0 := h0.below b5
    replace b0 := next b0 b5
    replace h0 := h0.below ba
    replace b0 := next b0 ba
    have HBC1 := Lib.hid b5.size
    clear b5 ba o6 l6 h5 HA3 HO4
    go_upto_region 9 with (fail)
    generalize hwx1 : wc1.alloc (.cells (bkA B6 r6.length d6 C6 (M.obeyedAll (l.map Wr.wk, m) es).2.length f6) 27) = wx1 at h0 b0 x6  ⊢
    have HWX1 : Hid (wc1.heap.size < wx1.heap.size) := Lib.hid (by rw [← hwx1]; simp)
    clear hwx1
    have HB6 := Lib.hid (fun g (hg : blocksB (.slice B6 r6.length d6) (.slice C6 (M.obeyedAll (l.map Wr.wk, m) es).2.length f6) r6 g) => (x6.ge hg).2)
    have HG6 := Lib.hid x6.box.1
    have HM6 := Lib.hid m6
    have HWX := Lib.hid b0.size
    have H02 := Lib.hid h0.1
    clear m6
    obtain ⟨p0, p1⟩ := h0.two
    have z0 := h0.1
    go_wp2_with fail
    refine (toBook_at A l cap A2 m cb _ (hl.below b0) hl20 HP.out (hm.below b0) hm20).mono ?_
    rintro r w4 ⟨rs8, gA, gB, rfl, hm8, hl8, ha8, o8, l8, ap8, b4⟩
    have ba := (Below.refl w4.heap.size w4).alloc (Nat.le_refl _) (.cells (bkA (some ⟨gA, 0, none⟩) rs8.length rs8.length (some ⟨gB, 0, none⟩) m.length m.length) 27)
    have x8 : BB wx1.heap.size (w4.alloc (.cells (bkA (some ⟨gA, 0, none⟩) rs8.length rs8.length (some ⟨gB, 0, none⟩) m.length m.length) 27)) w4.heap.size (some ⟨gA, 0, none⟩) rs8.length (some ⟨gB, 0, none⟩) m.length rs8 m := ⟨holds_new _ _ _, o8.below ba, LasOwn.below l8 ba⟩
    have HB8 := Lib.hid (fun g (hg : blocksB (.slice (some ⟨gA, 0, none⟩) rs8.length rs8.length) (.slice (some ⟨gB, 0, none⟩) m.length m.length) rs8 g) => show wx1.heap.size ≤ g ∧ g < w4.heap.size from by
      rcases hg with hg | hg
      · exact o8.ge hg
      · exact World.ownsRow.lt l8 g hg)
    have HM8 := Lib.hid hm8
    have HL8 := Lib.hid hl8
    have HAP8 := Lib.hid ap8
    have HML := Lib.hid (mlen_map hm8)
    have HA8 := Lib.hid (ha8.below ba)
    have HW4 := Lib.hid b4.size
    replace h0 := h0.below b4
    replace x6 := x6.below b4
    replace b0 := next b0 b4
    replace h0 := h0.below ba
    replace x6 := x6.below ba
    replace b0 := next b0 ba
    clear b4 ba p0 p1 z0 hm8 hl8 ap8 o8 l8 ha8
    go_upto_region 10 with (fail)
    generalize hw5 : w4.alloc (.cells (bkA (some ⟨gA, 0, none⟩) rs8.length rs8.length (some ⟨gB, 0, none⟩) m.length m.length) 27) = w5 at h0 x6 x8 b0 HA8 ⊢
    have HW5 : Hid (w4.heap.size < w5.heap.size) := Lib.hid (by rw [← hw5]; simp)
    clear hw5
    go_wp2_with fail
    refine (entoS_any AO es co _ (ho.below b0) hol20).mono ?_
    rintro r w6 ⟨rfl, o9, b6⟩
    have HO9 := Lib.hid (fun g (hg : (Value.slice (some ⟨w5.heap.size, 0, none⟩) es.length es.length).ownBlock = some g) => show g = w5.heap.size from (Option.some.inj hg).symm)
    have HW6 : Hid (w5.heap.size < w6.heap.size) := Lib.hid (World.ownsRow.lt o9 _ rfl).2
    replace HA8 := Lib.hid (HA8.out.below b6)
    replace h0 := h0.below b6
    replace x6 := x6.below b6
    replace x8 := x8.below b6
    replace b0 := next b0 b6
    clear b6
    obtain ⟨k0, k1⟩ := x8.box.two
    have zk := x8.box.1
    go_wp2_with fail
    refine (implObeyedAll_at l m _ es _ _ _ HA8.out hl20 HP.out hm20 HMP.out (ens_of o9) hol20 HOP.out).mono ?_
    rintro r w7 h5
    obtain ⟨B9, d9, C9, f9, r9, rfl, o10, m9, l10, ap9, b5⟩ := h5.open
    have ba := (Below.refl w7.heap.size w7).alloc (Nat.le_refl _) (.cells (bkA B9 r9.length d9 C9 (M.obeyedAll (l.map Wr.wk, m) es).2.length f9) 27)
    have x10 : BB w6.heap.size (w7.alloc (.cells (bkA B9 r9.length d9 C9 (M.obeyedAll (l.map Wr.wk, m) es).2.length f9) 27)) w7.heap.size B9 d9 C9 f9 r9 (M.obeyedAll (l.map Wr.wk, m) es).2 := ⟨holds_new _ _ _, o10.below ba, LasOwn.below l10 ba⟩
    have HB9 := Lib.hid (fun g (hg : blocksB (.slice B9 r9.length d9) (.slice C9 (M.obeyedAll (l.map Wr.wk, m) es).2.length f9) r9 g) => show w6.heap.size ≤ g ∧ g < w7.heap.size from by
      rcases hg with hg | hg
      · exact o10.ge hg
      · exact World.ownsRow.lt l10 g hg)
    have S9 := Lib.hid (oball_small m9)
    have M96 := Lib.hid (m9.trans HM6.out.symm)
    have HZ10 : Hid (w6.heap.size ≤ w7.heap.size) := Lib.hid b5.size
    have HAP9 := Lib.hid ap9
    clear k0 k1 zk
    replace h0 := h0.below b5
    replace x6 := x6.below b5
    replace x8 := x8.below b5
    replace b0 := next b0 b5
    replace o9 := Own.below o9 b5
    replace h0 := h0.below ba
    replace x6 := x6.below ba
    replace x8 := x8.below ba
    replace b0 := next b0 ba
    replace o9 := Own.below o9 ba
    clear b5 ba o10 l10 m9 ap9 h5 HA8
    go_upto_region 12 with (fail)
    generalize hw8 : w7.alloc (.cells (bkA B9 r9.length d9 C9 (M.obeyedAll (l.map Wr.wk, m) es).2.length f9) 27) = w8 at h0 x6 x8 x10 b0 o9 ⊢
    have HW8 : Hid (w7.heap.size < w8.heap.size) := Lib.hid (by rw [← hw8]; simp)
    clear hw8
    obtain ⟨k0, k1⟩ := x10.box.two
    have zk := x10.box.1
    obtain ⟨j0, j1⟩ := x6.box.two
    have zj := x6.box.1
    go_wp2_with fail
    refine (eqBook_same B9 B6 r9 r6 d9 d6 C9 C6 (M.obeyedAll (l.map Wr.wk, m) es).2 f9 f6 _ x10.sf.wks.1 x6.sf.wks.1 M96.out (by have := S9.out.1; unfold maxLen; omega) (S9.out.2.mono (by unfold maxLen; omega)) x10.las x6.las (by have := HL5.out; unfold maxLen; omega)).mono ?_
    rintro r wm12 ⟨rfl, b7⟩
    clear k0 k1 zk j0 j1 zj
    replace h0 := h0.below b7
    replace x6 := x6.below b7
    replace x8 := x8.below b7
    replace x10 := x10.below b7
    replace b0 := next b0 b7
    replace o9 := Own.below o9 b7
    clear b7
    obtain ⟨k0, k1⟩ := x8.box.two
    have zk := x8.box.1
    obtain ⟨p0, p1⟩ := h0.two
    have z0 := h0.1
    have hl1 := hl.below b0
    have hm1 := hm.below b0
    have X8 := Lib.hid x8
    go_upto_region 14 with (fail)
    obtain ⟨w9, rfl⟩ : ∃ w9, w9 = wm12 := ⟨_, rfl⟩
    refine wp_region_seq (fun w' => Below w9.heap.size w9 w') [(0, true), (1, true), (2, false), (3, false), (4, true)] (by kernel_rfl) (by kernel_rfl) (fun _ _ _ _ _ h => h) (by kernel_rfl) (by decide) (Below.refl _ _).drew ?_
    intro hHeld
    repeat (first
      | (refine seq_skip (by simp only [List.getElem?_toArray, List.getElem?_cons_succ, List.getElem?_cons_zero]; first | done | rfl) (by rfl) ?_; (try simp only [Act.put, List.setIfInBounds_toArray, List.set_cons_zero, List.set_cons_succ]))
      | (refine seq_reads (by simp only [List.getElem?_toArray, List.getElem?_cons_succ, List.getElem?_cons_zero]; first | done | rfl) (by rfl) ?_; apply Exists.intro; apply And.intro; (focus (intro w hSw; obtain ⟨hcS, -⟩ := bcell hSw; go_simp; (try with_reducible rfl); done)); (try simp only [Act.put, List.setIfInBounds_toArray, List.set_cons_zero, List.set_cons_succ]))
      | (refine seq_pass (by simp only [List.getElem?_toArray, List.getElem?_cons_succ, List.getElem?_cons_zero]; first | done | rfl) (by rfl) hHeld ?_; clear hHeld; intro hHeld; (try simp only [Act.put, List.setIfInBounds_toArray, List.set_cons_zero, List.set_cons_succ]))
      | (refine seq_call (by simp only [List.getElem?_toArray, List.getElem?_cons_succ, List.getElem?_cons_zero]; first | done | rfl) (by rfl) (fun K hK => ?_); go_simp; go_at_call 44; refine (toBook_at A l cap A2 m cb _ (hl1.below hHeld) hl20 HP.out (hm1.below hHeld) hm20).mono ?_; rintro r w1 ⟨rs3, gC, gD, rfl, hm3, hl3, -, o3, l3, -, b1⟩; have O3 := Lib.hid (show _ ∧ _ ∧ _ from ⟨o3.wks.1, las_of l3, hm3⟩); clear o3 l3 hm3 hl3; go_simp; refine hK.out _ _ (next hHeld b1) ?_; clear hK hHeld; intro hHeld; (try simp only [Act.put, List.setIfInBounds_toArray, List.set_cons_zero, List.set_cons_succ]))
      | (refine seq_call (by simp only [List.getElem?_toArray, List.getElem?_cons_succ, List.getElem?_cons_zero]; first | done | rfl) (by rfl) (fun K hK => ?_); go_simp; go_at_call 46; refine (eqBook_same (some ⟨gA, 0, none⟩) (some ⟨gC, 0, none⟩) rs8 rs3 rs8.length rs3.length (some ⟨gB, 0, none⟩) (some ⟨gD, 0, none⟩) m m.length m.length _ (X8.out.sf.below hHeld).wks.1 O3.out.1 (HM8.out.trans O3.out.2.2.symm) (by have := HL8.out; unfold maxLen; omega) ((wrs_eq HM8.out HP.out).mono (by unfold maxLen; omega)) (las_of (LasOwn.below X8.out.la hHeld)) O3.out.2.1 (by unfold maxLen; omega)).mono ?_; rintro r w1 ⟨rfl, b1⟩; go_simp; refine hK.out _ _ (next hHeld b1) ?_; clear hK hHeld; intro hHeld; (try simp only [Act.put, List.setIfInBounds_toArray, List.set_cons_zero, List.set_cons_succ])))
    refine seq_end ?_
    clear k0 k1 zk p0 p1 z0 hl1 hm1 X8
    replace h0 := h0.below hHeld
    replace x6 := x6.below hHeld
    replace x8 := x8.below hHeld
    replace x10 := x10.below hHeld
    replace b0 := next b0 hHeld
    replace o9 := Own.below o9 hHeld
    clear hHeld
    go_wp2_with fail
    refine (entoS_any AO es co _ (ho.below b0) hol20).mono ?_
    rintro r wp ⟨rfl, o16, b6⟩
    replace h0 := h0.below b6
    replace x6 := x6.below b6
    replace x8 := x8.below b6
    replace x10 := x10.below b6
    replace b0 := next b0 b6
    replace o9 := Own.below o9 b6
    clear b6
    go_wp2_with fail
    refine (eneqS_same _ _ es es.length es.length _ (ens_of o9) (ens_of o16) (by unfold maxLen; omega)).mono ?_
    rintro r wq ⟨rfl, b6⟩
    replace h0 := h0.below b6
    replace x6 := x6.below b6
    replace x8 := x8.below b6
    replace x10 := x10.below b6
    replace b0 := next b0 b6
    replace o9 := Own.below o9 b6
    clear b6 o16
    obtain ⟨k0, k1⟩ := x8.box.two
    have zk := x8.box.1
    have X8 := Lib.hid x8
    clear x8
    go_wp2_with fail
    refine (markBook_any (some ⟨gA, 0, none⟩) rs8 rs8.length (some ⟨gB, 0, none⟩) m m.length 1 wx1.heap.size _ X8.out.sf X8.out.la HAP8.out (by have := HL8.out; omega) (by omega) (by have := HSZ.out; have := HML.out; omega)).mono ?_
    rintro r wr ⟨rfl, -, -, ht⟩
    have hbl := HB8.out
    replace b0 := b0.trans (ht.low w.heap.size b0.size (fun g hg => Nat.le_trans HWX.out (hbl g hg).1))
    replace h0 := ht.holds h0 (fun hg => by have := (hbl _ hg).1; have := H02.out; omega)
    replace x6 := x6.touch ht (fun hg => by have := (hbl _ hg).1; have := HG6.out; omega) (fun g hg hg' => by have := (hbl _ hg').1; have := HB6.out g hg; omega)
    replace o9 := ht.row o9 (fun g hg hg' => by have := (hbl _ hg').2; have := HO9.out g hg; have := HW5.out; omega)
    replace x10 := x10.touch ht (fun hg => by have := (hbl _ hg).2; have := HW5.out; have := HW6.out; have := HB9.out; have := HZ10.out; omega) (fun g hg hg' => by have := (hbl _ hg').2; have := (HB9.out g hg).1; have := HW5.out; have := HW6.out; omega)
    clear ht hbl k0 k1 zk X8
    obtain ⟨kk, hkk⟩ : ∃ kk, 1 + mlen rs8 + 4 * m.length = kk := ⟨_, rfl⟩
    rw [hkk]
    have HKK : Hid (1 ≤ kk ∧ kk + 10 * es.length ≤ 20000000) := Lib.hid (by have := HSZ.out; have := HML.out; omega)
    clear hkk
    go_wp2_with fail
    refine (enmark_own _ es es.length kk w5.heap.size _ o9 (by have := HKK.out; omega) HKK.out.2).mono ?_
    rintro r wsx ⟨rfl, -, ht0⟩
    have ht := Lib.hid ((TouchS.refl (fun g => g = w5.heap.size) wr).then ht0 (fun g hg => HO9.out g hg))
    replace b0 := b0.trans (ht.out.low w.heap.size b0.size (fun g hg => by have := HWX.out; have := HW4.out; have := HW5.out; omega))
    replace h0 := ht.out.holds h0 (fun hg => by have := H02.out; have := HW4.out; have := HW5.out; omega)
    replace x6 := x6.touch ht.out (fun hg => by have := HG6.out; have := HW4.out; have := HW5.out; omega) (fun g hg hg' => by have := HB6.out g hg; have := HW4.out; have := HW5.out; omega)
    replace x10 := x10.touch ht.out (fun hg => by have := HW6.out; have := HZ10.out; omega) (fun g hg hg' => by have := (HB9.out g hg).1; have := HW6.out; omega)
    clear ht ht0 o9
    obtain ⟨k2, hk2⟩ : ∃ k2 : Nat, kk + 10 * es.length = k2 := ⟨_, rfl⟩
    rw [hk2]
    have hneg : ¬ ((k2 : Int) < 0) := by omega
    clear hk2
    obtain ⟨k0, k1⟩ := x10.box.two
    have zk := x10.box.1
    obtain ⟨j0, j1⟩ := x6.box.two
    have zj := x6.box.1
    go_wp2_with fail
    refine (eqBook_same B9 B6 r9 r6 d9 d6 C9 C6 (M.obeyedAll (l.map Wr.wk, m) es).2 f9 f6 _ x10.sf.wks.1 x6.sf.wks.1 M96.out (by have := S9.out.1; unfold maxLen; omega) (S9.out.2.mono (by unfold maxLen; omega)) x10.las x6.las (by have := HL5.out; unfold maxLen; omega)).mono ?_
    rintro r wm21 ⟨rfl, b7⟩
    clear k0 k1 zk j0 j1 zj
    replace h0 := h0.below b7
    replace x6 := x6.below b7
    replace x10 := x10.below b7
    replace b0 := next b0 b7
    clear b7
    clear hneg
    obtain ⟨k0, k1⟩ := x10.box.two
    have zk := x10.box.1
    have X9 := Lib.hid x10
    clear x10
    go_wp2_with fail
    refine (markBook_any B9 r9 d9 C9 (M.obeyedAll (l.map Wr.wk, m) es).2 f9 1 w6.heap.size _ X9.out.sf X9.out.la HAP9.out (by have := S9.out.1; omega) (by omega) (by have := mlen_small S9.out; have := HL5.out; omega)).mono ?_
    rintro r wf ⟨rfl, om, lm, ht⟩
    have hbl := HB9.out
    have x9 := ht.holds X9.out.box (fun hg => by have := (hbl _ hg).2; have := HZ10.out; omega)
    replace b0 := b0.trans (ht.low w.heap.size b0.size (fun g hg => by have := (hbl g hg).1; have := HWX.out; have := HW4.out; have := HW5.out; have := HW6.out; omega))
    replace h0 := ht.holds h0 (fun hg => by have := (hbl _ hg).1; have := H02.out; have := HW4.out; have := HW5.out; have := HW6.out; omega)
    replace x6 := x6.touch ht (fun hg => by have := (hbl _ hg).1; have := HG6.out; have := HW4.out; have := HW5.out; have := HW6.out; omega) (fun g hg hg' => by have := (hbl _ hg').1; have := HB6.out g hg; have := HW4.out; have := HW5.out; have := HW6.out; omega)
    have OM := Lib.hid om
    have LM := Lib.hid lm
    clear ht hbl k0 k1 zk X9 om lm
    obtain ⟨qq, hqq⟩ : ∃ qq : Nat, 1 + mlen r9 + 4 * (M.obeyedAll (l.map Wr.wk, m) es).2.length = qq := ⟨_, rfl⟩
    rw [hqq]
    have HQ := Lib.hid hqq
    have hq1 : ¬ ((qq : Int) < 0) := by omega
    have hq2 : ((qq : Int) != (qq : Int)) = false := by simp
    clear hqq
    obtain ⟨k0, k1⟩ := x9.two
    have zk := x9.1
    go_wp2_with fail
    refine (heldBook_any B9 r9 d9 C9 (M.obeyedAll (l.map Wr.wk, m) es).2.length f9 1 _ OM.out.wks.1 (las_of LM.out) (by have := S9.out.1; omega) (by omega) (by have := mlen_small S9.out; have := HL5.out; omega)).mono ?_
    rintro r wh27 ⟨rfl, b11⟩
    rw [HQ.out]
    clear k0 k1 zk
    replace OM := Lib.hid (OM.out.below b11)
    replace LM := Lib.hid (Own.below LM.out b11)
    replace h0 := h0.below b11
    replace x6 := x6.below b11
    replace x9 := x9.below b11
    replace b0 := next b0 b11
    clear b11
    obtain ⟨p0, p1⟩ := h0.two
    have z0 := h0.1
    go_wp2_with fail
    refine (toBook_at A l cap A2 m cb _ (hl.below b0) hl20 HP.out (hm.below b0) hm20).mono ?_
    rintro r wa4 ⟨rsa, gAa, gBa, rfl, -, -, ha3, -, -, -, b3⟩
    have HA3 := Lib.hid ha3
    clear p0 p1 z0 ha3
    replace h0 := h0.below b3
    replace x6 := x6.below b3
    replace x9 := x9.below b3
    replace b0 := next b0 b3
    replace OM := Lib.hid (OM.out.below b3)
    replace LM := Lib.hid (Own.below LM.out b3)
    clear b3
    go_wp2_with fail
    refine (entoS_any AO es co _ (ho.below b0) hol20).mono ?_
    rintro r wb4 ⟨rfl, o4, b4⟩
    have HO4 := Lib.hid (ens_of o4)
    replace HA3 := Lib.hid (HA3.out.below b4)
    clear o4
    replace h0 := h0.below b4
    replace x6 := x6.below b4
    replace x9 := x9.below b4
    replace b0 := next b0 b4
    replace OM := Lib.hid (OM.out.below b4)
    replace LM := Lib.hid (Own.below LM.out b4)
    clear b4
    go_wp2_with fail
    refine (implObeyedAll_at l m _ es _ _ _ HA3.out hl20 HP.out hm20 HMP.out HO4.out hol20 HOP.out).mono ?_
    rintro r wc4 h5
    obtain ⟨B4, d4, C4, f4, r4, rfl, o14, m4, l14, -, b5⟩ := h5.open
    have ba := (Below.refl wc4.heap.size wc4).alloc (Nat.le_refl _) (.cells (bkA B4 r4.length d4 C4 (M.obeyedAll (l.map Wr.wk, m) es).2.length f4) 27)
    have x14 : BB wb4.heap.size (wc4.alloc (.cells (bkA B4 r4.length d4 C4 (M.obeyedAll (l.map Wr.wk, m) es).2.length f4) 27)) wc4.heap.size B4 d4 C4 f4 r4 (M.obeyedAll (l.map Wr.wk, m) es).2 := ⟨holds_new _ _ _, o14.below ba, LasOwn.below l14 ba⟩
    replace h0 := h0.below b5
    replace x6 := x6.below b5
    replace x9 := x9.below b5
    replace b0 := next b0 b5
    replace OM := Lib.hid (OM.out.below b5)
    replace LM := Lib.hid (Own.below LM.out b5)
    replace h0 := h0.below ba
    replace x6 := x6.below ba
    replace x9 := x9.below ba
    replace b0 := next b0 ba
    replace OM := Lib.hid (OM.out.below ba)
    replace LM := Lib.hid (Own.below LM.out ba)
    have HBC4 := Lib.hid b5.size
    clear b5 ba o14 l14 h5 HA3 HO4
    go_upto_region 32 with (fail)
    generalize hwx4 : wc4.alloc (.cells (bkA B4 r4.length d4 C4 (M.obeyedAll (l.map Wr.wk, m) es).2.length f4) 27) = wx4 at h0 b0 x14 x6 x9 OM LM ⊢
    have HWX4 : Hid (wc4.heap.size < wx4.heap.size) := Lib.hid (by rw [← hwx4]; simp)
    clear hwx4
    have S4 := Lib.hid (oball_small m4)
    have M46 := Lib.hid (m4.trans HM6.out.symm)
    clear m4
    obtain ⟨k0, k1⟩ := x14.box.two
    have zk := x14.box.1
    obtain ⟨j0, j1⟩ := x6.box.two
    have zj := x6.box.1
    go_wp2_with fail
    refine (eqBook_same B4 B6 r4 r6 d4 d6 C4 C6 (M.obeyedAll (l.map Wr.wk, m) es).2 f4 f6 _ x14.sf.wks.1 x6.sf.wks.1 M46.out (by have := S4.out.1; unfold maxLen; omega) (S4.out.2.mono (by unfold maxLen; omega)) x14.las x6.las (by have := HL5.out; unfold maxLen; omega)).mono ?_
    rintro r wm36 ⟨rfl, b7⟩
    clear k0 k1 zk j0 j1 zj
    replace x6 := x6.below b7
    replace x9 := x9.below b7
    replace x14 := x14.below b7
    replace b0 := next b0 b7
    replace OM := Lib.hid (OM.out.below b7)
    replace LM := Lib.hid (Own.below LM.out b7)
    clear b7
    obtain ⟨k0, k1⟩ := x9.two
    have zk := x9.1
    go_wp2_with fail
    refine (heldBook_any B9 r9 d9 C9 (M.obeyedAll (l.map Wr.wk, m) es).2.length f9 1 _ OM.out.wks.1 (las_of LM.out) (by have := S9.out.1; omega) (by omega) (by have := mlen_small S9.out; have := HL5.out; omega)).mono ?_
    rintro r wh39 ⟨rfl, b11⟩
    rw [HQ.out]
    clear k0 k1 zk
    replace OM := Lib.hid (OM.out.below b11)
    replace LM := Lib.hid (Own.below LM.out b11)
    replace x6 := x6.below b11
    replace x9 := x9.below b11
    replace b0 := next b0 b11
    clear b11
    go_wp2
    go_ret
    exact ⟨rfl, b0⟩

set_option maxRecDepth 100000 in
theorem lifted (os : Os) (started : os.Started) (H : Type) (enc : TypeId × Value → H) :
    ReturnsInHanded {} Tryz.checked os 8 .any (Rows.fnExactObeyedAllSpec.pre6 enc Tryz.prog Tryz.f8 Rows.fnExactObeyedAllRow.domain false) (Rows.fnExactObeyedAllSpec.post enc Tryz.prog Tryz.f8 false true false false) := by
  refine returnsInHanded_of_change (C := Tryz.checked) own started (by kernel_rfl) Tryz.func8
    (ChangeSpec.witness6 (enc := enc) (C := Tryz.checked) false ⟨#[], #[.agg #[.slice none 0 0, .slice none 0 0], .slice none 0 0], []⟩ 8 (by kernel_rfl) (by kernel_rfl) (by kernel_rfl) (by kernel_rfl)) ?_
  intro W base args ds gs before hval0 hW hcnd _
  have hval : ∀ (j : Nat) t v, Tryz.f8.params[j]? = some t → args[j]? = some v → Value.okWide Tryz.prog W .any base t v := hval0
  have hW' := hW
  obtain ⟨p, q, hA0, -⟩ := hW
  have hA : DataW.TrodAll enc Tryz.prog W 0 (fun _ => true) true Tryz.f8.params.toList args.toList ds p := hA0
  rw [Tryz.params8] at hA hval
  obtain ⟨v0, vs0, d0, ds0, p0, q0, hargs, rfl, rfl, h0, r0⟩ := trodAll_cons hA
  obtain ⟨v1, vs1, d1, ds1, p1, q1, rfl, rfl, rfl, h1, r1⟩ := trodAll_cons r0
  obtain ⟨rfl, rfl, rfl⟩ := trodAll_nil r1
  obtain rfl : args = #[v0, v1] := by cases args; simp_all
  clear hA0 hval0
  have hv0 := hval 0 _ v0 rfl rfl
  have hv1 := hval 1 _ v1 rfl rfl
  obtain ⟨A, l, cap, A2, m, cb, rfl, hl, hlen, hp, hm, hml, hmp⟩ := open_bk Tryz.underlying86 (by kernel_rfl) (by kernel_rfl) (by kernel_rfl) rfl rfl ⟨Tryz.underlying83, Tryz.underlying191, (by kernel_rfl), (by kernel_rfl), (by kernel_rfl), Tryz.underlying9, Tryz.underlying2, rfl, Tryz.underlying189, Tryz.underlying254, (by kernel_rfl), (by kernel_rfl), (by kernel_rfl), Tryz.underlying87, Tryz.underlying9, Tryz.underlying4, (by kernel_rfl), (by kernel_rfl), Tryz.underlying2, Tryz.underlying2, Tryz.underlying2⟩ ⟨Tryz.underlying84, Tryz.underlying195, (by kernel_rfl), (by kernel_rfl), (by kernel_rfl), Tryz.underlying2, Tryz.underlying2, Tryz.underlying193, (by kernel_rfl), (by kernel_rfl), Tryz.underlying2, Tryz.underlying9⟩ hv0 h0
  obtain ⟨AO, es, co, rfl, ho, hol, hop⟩ := open_ens Tryz.underlying101 Tryz.underlying93 (by kernel_rfl) (by kernel_rfl) (by kernel_rfl) Tryz.underlying2 ⟨Tryz.underlying91, (by kernel_rfl), (by kernel_rfl), (by kernel_rfl), Tryz.underlying2, Tryz.underlying2, ⟨Tryz.underlying89, (by kernel_rfl), (by kernel_rfl), (by kernel_rfl), Tryz.underlying2, Tryz.underlying9, Tryz.underlying87, Tryz.underlying9, Tryz.underlying2, (by kernel_rfl), (by kernel_rfl), Tryz.underlying2, Tryz.underlying2, Tryz.underlying2⟩⟩ hv1 h1
  exact (walk A l cap A2 m cb AO es co hlen hp hml hmp hol hop W hl hm ho).mono fun r W' ⟨he, hb⟩ => ⟨_, he, law_post rfl rfl Tryz.underlying4 (by kernel_rfl) (n := 2)
    (fun ds' hd => by rcases ds' with _ | ⟨x0, _ | ⟨x1, _ | ⟨y, z⟩⟩⟩ <;> simp at hd <;> exact ⟨rfl, rfl, rfl⟩) rfl hW' hb⟩

theorem over : Rows.fnExactObeyedAllRow.holds Tryz.pinned (OpenSpec.ofChange Rows.fnExactObeyedAllSpec) :=
  OpenClaim.holds_of_wide 8 Tryz.f8 rfl rfl rfl rfl rfl rfl rfl ⟨rfl, rfl, rfl, rfl, rfl⟩ rfl rfl rfl rfl rfl (by kernel_rfl) Tryz.func8 (by kernel_rfl)
    (of_decide_eq_true (by kernel_rfl)) (by unfold Func.isWrapper; first | (rw [if_pos (by decide +kernel)]; kernel_rfl) | (rw [if_neg (by decide +kernel)]; exact ⟨rfl, rfl⟩))
    (fun os started H enc _ => lifted os started H enc)

theorem proved : Rows.FnExactObeyedAllSaid :=
  over
#print axioms proved
end Go.Proofs.YtblcgbgcccjpcaaGreat.fnExactObeyedAll
