/- Proved: the law FnExactPrinted returns true at all arguments, and they read afterwards as before; no condition. -/
import Derived.Test.YteohnihdnfgngaaWorkEq
import Derived.Test.YteohnihdnfgngaaWorkOwn2
import Derived.Test.YteohnihdnfgngaaMarkOwn
import Derived.Test.YteohnihdnfgngaaOpenRows
import Derived.Test.YteohnihdnfgngaaOpenEd
import Derived.Test.YteohnihdnfgngaaOrdersBox
import Derived.Test.YteohnihdnfgngaaWorkPrintS
import Derived.Test.YteohnihdnfgngaaShell
import Derived.Lib.SmallJoins
namespace Go.Proofs.Yteohnihdnfgngaa.fnExactPrinted
open Go.ChangeShapes Go.WideShapes Go.ChangeAt Go.RowKit Go.Joins Go.Deep
open Go.ChangeMaps (open_string shut_string)
set_option linter.unusedVariables false

set_option maxRecDepth 100000 in
set_option maxHeartbeats 16000000 in
theorem walk (name : ByteArray) (owner : Int) (A : Option Addr) (l : List M.Cp) (cap : Nat) (e : M.Ed) (page : ByteArray) (hn : name.size ≤ maxLen) (hlen : l.length ≤ maxLen) (hp : ∀ c ∈ l, c.page.size ≤ maxLen) (hpm : page.size ≤ maxLen) (w : World) (hl : Cps w A l) :
    Calls Try.prog 7 #[wkV name owner A l.length cap, edV e, .string page] w fun e w' => e = .returned (.bool true) ∧ Below w.heap.size w w' := by
  have b0 := ((Below.refl w.heap.size w).alloc (Nat.le_refl _) (.cells (wkL name owner A l.length cap) 49)).alloc (by simp) (.cells (edL e) 53)
  have h0 := (holds_new w (wkL name owner A l.length cap) 49).alloc (.cells (edL e) 53)
  have h1 := holds_new (w.alloc (.cells (wkL name owner A l.length cap) 49)) (edL e) 53
  simp only [World.size_alloc] at h1
  by_cases hpb : 1048576 < page.size
  · unfold maxLen at hpm
    go_enter Try.func7, Try.ntmps7
    go_wp2
    go_ret
    exact ⟨rfl, b0⟩
  have hpg : page.size ≤ 1048576 := by omega
  clear hpb
  by_cases hbig : 1048576 < name.size + (l.length + M.szPages l)
  · go_enter Try.func7, Try.ntmps7
    go_wp2_with fail
    refine (szWork_big name owner A l cap 1048576 _ (by omega) (by omega) ((hl.alloc _).alloc _) hn hlen hp (by omega)).mono ?_
    rintro r w1 ⟨rfl, b1⟩
    go_wp2
    go_ret
    exact ⟨rfl, next b0 b1⟩
  · have hl20 : l.length ≤ 1048576 := by omega
    have hn20 : name.size ≤ 1048576 := by omega
    have HP : Hid (∀ c ∈ l, c.page.size ≤ 1048576) := Lib.hid (fun c hc => by have := M.szPages_mem l c hc; omega)
    have HM : Hid (∀ c ∈ l, c.page.size ≤ maxLen) := Lib.hid hp
    have hge0 : 0 ≤ (1048576 : Int) - name.size - l.length - M.szPages l := by omega
    have HLP : Hid ((M.printed ⟨name, owner, l⟩ e page).1.copies.length ≤ 2000000) := Lib.hid (Nat.le_trans (M.printed_len ⟨name, owner, l⟩ e page) (show l.length + 1 ≤ 2000000 by omega))
    clear hp
    go_enter Try.func7, Try.ntmps7
    go_wp2_with fail
    refine (szWork_small name owner A l cap 1048576 _ (by omega) ((hl.alloc _).alloc _) (by omega)).mono ?_
    rintro r w1 ⟨rfl, b1⟩
    replace h0 := h0.below b1
    replace h1 := h1.below b1
    replace b0 := next b0 b1
    have hl1 := hl.below b0
    have z0 := h0.1
    have z1 := h1.1
    obtain ⟨p0, p1, p2⟩ := h0.at3
    obtain ⟨q0, q1, q2⟩ := h1.at3
    clear b1
    go_upto_region 7 with (fail)
    go_cut [8, 9] (fun s8 s9 wx => WkBox w1 (M.printed ⟨name, owner, l⟩ e page) s8 s9 wx)
    case first =>
      refine wp_region_tq (fun w' => Below w1.heap.size w1 w') (.read 0 (.read 2 (.read 4 (.two 1 9 (.two 3 9 (.two 5 9 (.read 6 (.read 7 (.read 8 (.one 9 (.one 10 (.read 11 .done)))))) (.one 5 (.read 6 (.read 7 (.read 8 (.one 10 (.read 11 .done))))))) (.one 3 (.one 5 (.read 6 (.read 7 (.read 8 (.one 10 (.read 11 .done)))))))) (.one 1 (.one 3 (.one 5 (.read 6 (.read 7 (.read 8 (.one 10 (.read 11 .done)))))))))))) (by kernel_rfl) (by kernel_rfl) (fun _ _ _ _ _ h => h) (by kernel_rfl) (by decide) (Below.refl _ _).drew ?_
      intro hHeld
      generalize w1.drew = wd at hHeld ⊢
      repeat (first
        | (refine tq_reads (by simp only [List.getElem?_toArray, List.getElem?_cons_succ, List.getElem?_cons_zero]; first | done | rfl) (by rfl) ?_; apply Exists.intro; apply And.intro; (focus (intro w hSw; obtain ⟨hcS, -⟩ := bcell hSw; go_simp; (try with_reducible rfl); done)); (try simp only [Act.put, List.setIfInBounds_toArray, List.set_cons_zero, List.set_cons_succ]))
        | (refine tq_two ?_ ?_)
        | (refine tq_three ?_ ?_ ?_)
        | (refine tq_one (by simp only [List.getElem?_toArray, List.getElem?_cons_succ, List.getElem?_cons_zero]; first | done | rfl) (by rfl) (fun K hK => ?_); go_simp; go_at_call 29; refine (toWork_any name owner A l cap _ (hl1.below hHeld) hl20).mono ?_; rintro r w1 ⟨gw, rfl, ow, b1⟩; go_simp; refine hK.out _ _ _ (fun _ h => h) (next hHeld b1) ?_; clear hK hHeld; intro hHeld; (try (replace fx := fx.below hx.1 b1; replace hx := hx.below b1)); have hgw := own_at ow; clear ow; (try simp only [Act.put, List.setIfInBounds_toArray, List.set_cons_zero, List.set_cons_succ]))
        | (refine tq_one (by simp only [List.getElem?_toArray, List.getElem?_cons_succ, List.getElem?_cons_zero]; first | done | rfl) (by rfl) (fun K hK => ?_); go_simp; go_at_call 31; refine (toEdition_any e _).mono ?_; rintro r w1 ⟨rfl, b1⟩; go_simp; refine hK.out _ _ _ (fun _ h => h) (next hHeld b1) ?_; clear hK hHeld; intro hHeld; (try (replace fx := fx.below hx.1 b1; replace hx := hx.below b1)); replace hgw := hgw.below b1; (try simp only [Act.put, List.setIfInBounds_toArray, List.set_cons_zero, List.set_cons_succ]))
        | (refine tq_one (by simp only [List.getElem?_toArray, List.getElem?_cons_succ, List.getElem?_cons_zero]; first | done | rfl) (by rfl) (fun K hK => ?_); go_simp; go_at_call 17; refine (specPrinted name owner _ l _ e page _ hgw (fun h => by cases h) (Nat.le_refl _) hn20 hl20 HP.out hpg).mono ?_; rintro r w1 ⟨⟨A', c', rfl, ho⟩, b1⟩; (try have hne := ho.ne_low hx.1); replace ho := ho.mono hHeld.size; go_simp; refine hK.out _ _ _ (fun _ h => h) (next hHeld b1) ?_; clear hK hHeld; intro hHeld; (try (replace fx := fx.below hx.1 b1; replace hx := hx.below b1)); (try simp only [Act.put, List.setIfInBounds_toArray, List.set_cons_zero, List.set_cons_succ]))
        | (refine tq_one (by simp only [List.getElem?_toArray, List.getElem?_cons_succ, List.getElem?_cons_zero]; first | done | rfl) (by rfl) (fun K hK => ?_); go_simp; refine hK.out _ _ _ (fun _ h => h) (hHeld.alloc hHeld.size _) ?_; clear hK; intro hS; refine tq_alloc ?_ hS; clear hS; intro wA bA hx fx hS; have hge := hHeld.size; clear hHeld; have hHeld := hS; (try replace hgw := hgw.below bA); (try (have hne := ho.ne_new; replace ho := ho.below bA)); clear hS bA; (try simp only [Act.put, List.setIfInBounds_toArray, List.set_cons_zero, List.set_cons_succ]))
        | (refine tq_one (by simp only [List.getElem?_toArray, List.getElem?_cons_succ, List.getElem?_cons_zero]; first | done | rfl) (by rfl) (fun K hK => ?_); obtain ⟨x0, x1, x2⟩ := hx.at3; obtain ⟨y0, y1, y2⟩ := fx.fz3; go_simp; refine hK.out _ _ _ (fun _ h => h) (far_3 hHeld hge _ _ _ ) ?_; clear hK hHeld; intro hHeld; (try simp only [Act.put, List.setIfInBounds_toArray, List.set_cons_zero, List.set_cons_succ]))
        | (refine tq_end ?_; go_wp2; go_meet; exact ⟨_, _, _, rfl, rfl, hge, hHeld, hx.wr3 _ _ _, ((ho.apart hne _).apart hne _).apart hne _, hne⟩))
    case rest =>
    obtain ⟨G8, A8, c8, rfl, rfl, hG8, b2, x8, o8, -⟩ := hcut
    replace h0 := h0.below b2
    replace h1 := h1.below b2
    replace b0 := next b0 b2
    replace hl1 := hl.below b0
    clear p0 p1 p2 q0 q1 q2 b2 z0 z1
    obtain ⟨p0, p1, p2⟩ := h0.at3
    have k8 := fun k hk => (o8.lt k hk).2
    have kG8 := x8.1
    go_wp2_with fail
    refine (toWork_any name owner A l cap _ hl1 hl20).mono ?_
    rintro r w3 ⟨gx, rfl, o2, b4⟩
    have kgx := o2.lt gx rfl
    have HX := Lib.hid (show _ ∧ _ from ⟨Nat.lt_of_lt_of_le kG8 kgx.1, fun k hk => Nat.lt_of_lt_of_le (k8 k hk) kgx.1⟩)
    have hw0x : w.heap.size + 1 < gx := by have := h1.1; omega
    have hgx3 : gx < w3.heap.size := kgx.2
    replace h0 := (h0.below b4).alloc (.cells (wkL name owner (some ⟨gx, 0, none⟩) l.length l.length) 26)
    replace h1 := (h1.below b4).alloc (.cells (wkL name owner (some ⟨gx, 0, none⟩) l.length l.length) 26)
    replace x8 := (x8.below b4).alloc (.cells (wkL name owner (some ⟨gx, 0, none⟩) l.length l.length) 26)
    replace o8 := CpOwn.below (o8.below b4) ((Below.refl _ _).alloc (Nat.le_refl _) (.cells (wkL name owner (some ⟨gx, 0, none⟩) l.length l.length) 26))
    have x10 := holds_new w3 (wkL name owner (some ⟨gx, 0, none⟩) l.length l.length) 26
    replace b0 := (next b0 b4).alloc (next b0 b4).size (.cells (wkL name owner (some ⟨gx, 0, none⟩) l.length l.length) 26)
    have hgx : CpOwn 0 (w3.alloc (.cells (wkL name owner (some ⟨gx, 0, none⟩) l.length l.length) 26)) (.slice (some ⟨gx, 0, none⟩) l.length l.length) l := (CpOwn.mono o2 (Nat.zero_le _)).below ((Below.refl _ _).alloc (Nat.le_refl _) _)
    clear p0 p1 p2 o2 b4 hl1 k8 kG8 kgx
    go_upto_region 9 with (fail)
    generalize hw4 : w3.alloc (.cells (wkL name owner (some ⟨gx, 0, none⟩) l.length l.length) 26) = w4 at h0 h1 x8 o8 x10 b0 hgx ⊢
    clear hw4
    have h34 := x10.1
    have z0 := h0.1
    have z1 := h1.1
    have z8 := x8.1
    have z10 := x10.1
    obtain ⟨q0, q1, q2⟩ := h1.at3
    obtain ⟨r0, r1, r2⟩ := x10.at3
    go_cut [11, 12] (fun s11 s12 wx => WkBox w4 (M.printed ⟨name, owner, l⟩ e page) s11 s12 wx)
    case first =>
      refine wp_region_tq (fun w' => Below w4.heap.size w4 w') (.read 0 (.read 1 (.read 3 (.two 2 8 (.two 4 8 (.read 5 (.read 6 (.read 7 (.one 8 (.one 9 (.read 10 .done)))))) (.one 4 (.read 5 (.read 6 (.read 7 (.one 9 (.read 10 .done))))))) (.one 2 (.one 4 (.read 5 (.read 6 (.read 7 (.one 9 (.read 10 .done))))))))))) (by kernel_rfl) (by kernel_rfl) (fun _ _ _ _ _ h => h) (by kernel_rfl) (by decide) (Below.refl _ _).drew ?_
      intro hHeld
      generalize w4.drew = wd at hHeld ⊢
      repeat (first
        | (refine tq_reads (by simp only [List.getElem?_toArray, List.getElem?_cons_succ, List.getElem?_cons_zero]; first | done | rfl) (by rfl) ?_; apply Exists.intro; apply And.intro; (focus (intro w hSw; obtain ⟨hcS, -⟩ := bcell hSw; go_simp; (try with_reducible rfl); done)); (try simp only [Act.put, List.setIfInBounds_toArray, List.set_cons_zero, List.set_cons_succ]))
        | (refine tq_two ?_ ?_)
        | (refine tq_three ?_ ?_ ?_)
        | (refine tq_one (by simp only [List.getElem?_toArray, List.getElem?_cons_succ, List.getElem?_cons_zero]; first | done | rfl) (by rfl) (fun K hK => ?_); go_simp; go_at_call 31; refine (toEdition_any e _).mono ?_; rintro r w1 ⟨rfl, b1⟩; go_simp; refine hK.out _ _ _ (fun _ h => h) (next hHeld b1) ?_; clear hK hHeld; intro hHeld; (try (replace fx := fx.below hx.1 b1; replace hx := hx.below b1)); (try simp only [Act.put, List.setIfInBounds_toArray, List.set_cons_zero, List.set_cons_succ]))
        | (refine tq_one (by simp only [List.getElem?_toArray, List.getElem?_cons_succ, List.getElem?_cons_zero]; first | done | rfl) (by rfl) (fun K hK => ?_); go_simp; go_at_call 12; refine (implPrinted name owner _ l _ e page _ (hgx.cps.1.below hHeld) hn20 hl20 HP.out hpg).mono ?_; rintro r w1 ⟨⟨A', c', rfl, ho⟩, b1⟩; (try have hne := ho.ne_low hx.1); replace ho := ho.mono hHeld.size; go_simp; refine hK.out _ _ _ (fun _ h => h) (next hHeld b1) ?_; clear hK hHeld; intro hHeld; (try (replace fx := fx.below hx.1 b1; replace hx := hx.below b1)); (try simp only [Act.put, List.setIfInBounds_toArray, List.set_cons_zero, List.set_cons_succ]))
        | (refine tq_one (by simp only [List.getElem?_toArray, List.getElem?_cons_succ, List.getElem?_cons_zero]; first | done | rfl) (by rfl) (fun K hK => ?_); go_simp; refine hK.out _ _ _ (fun _ h => h) (hHeld.alloc hHeld.size _) ?_; clear hK; intro hS; refine tq_alloc ?_ hS; clear hS; intro wA bA hx fx hS; have hge := hHeld.size; clear hHeld; have hHeld := hS; (try replace hgw := hgw.below bA); (try (have hne := ho.ne_new; replace ho := ho.below bA)); clear hS bA; (try simp only [Act.put, List.setIfInBounds_toArray, List.set_cons_zero, List.set_cons_succ]))
        | (refine tq_one (by simp only [List.getElem?_toArray, List.getElem?_cons_succ, List.getElem?_cons_zero]; first | done | rfl) (by rfl) (fun K hK => ?_); obtain ⟨x0, x1, x2⟩ := hx.at3; obtain ⟨y0, y1, y2⟩ := fx.fz3; go_simp; refine hK.out _ _ _ (fun _ h => h) (far_3 hHeld hge _ _ _ ) ?_; clear hK hHeld; intro hHeld; (try simp only [Act.put, List.setIfInBounds_toArray, List.set_cons_zero, List.set_cons_succ]))
        | (refine tq_end ?_; go_wp2; go_meet; exact ⟨_, _, _, rfl, rfl, hge, hHeld, hx.wr3 _ _ _, ((ho.apart hne _).apart hne _).apart hne _, hne⟩))
    case rest =>
    obtain ⟨G11, A11, c11, rfl, rfl, hG11, b5, x11, o11, hn11⟩ := hcut
    have HN11 := Lib.hid hn11
    clear hn11
    replace h0 := h0.below b5
    replace h1 := h1.below b5
    replace x8 := x8.below b5
    replace o8 := o8.below b5
    replace x10 := x10.below b5
    replace hgx := hgx.below b5
    replace b0 := next b0 b5
    clear q0 q1 q2 r0 r1 r2 z0 z1 z8 z10 b5
    obtain ⟨u0, u1, u2⟩ := x8.at3
    obtain ⟨v0, v1, v2⟩ := x11.at3
    have z8 := x8.1
    have z11 := x11.1
    have hne0 : ((M.printed ⟨name, owner, l⟩ e page).2 != (M.printed ⟨name, owner, l⟩ e page).2) = false := by simp
    have HR := Lib.hid (show _ ∧ _ from ⟨hG11, fun k hk => (o11.lt k hk).1⟩)
    clear hG11
    go_wp2_with fail
    refine (eqWork_same (M.printed ⟨name, owner, l⟩ e page).1.name (M.printed ⟨name, owner, l⟩ e page).1.owner A11 A8 (M.printed ⟨name, owner, l⟩ e page).1.copies c11 c8 _ o11.cps.1 o8.cps.1 (Nat.le_trans HLP.out (by unfold maxLen; omega))).mono ?_
    rintro r w6 ⟨rfl, b6⟩
    replace h0 := h0.below b6
    replace h1 := h1.below b6
    replace x8 := x8.below b6
    replace o8 := o8.below b6
    replace x10 := x10.below b6
    replace hgx := hgx.below b6
    replace x11 := x11.below b6
    replace o11 := o11.below b6
    replace b0 := next b0 b6
    have hl6 := hl.below b0
    clear u0 u1 u2 v0 v1 v2 z8 z11 b6
    obtain ⟨p0, p1, p2⟩ := h0.at3
    obtain ⟨r0, r1, r2⟩ := x10.at3
    have z0 := h0.1
    have z10 := x10.1
    go_wp2_with fail
    refine wp_region_seq (fun w' => Below w6.heap.size w6 w') [(0, true), (1, true), (2, false), (3, false), (4, true)] (by kernel_rfl) (by kernel_rfl) (fun _ _ _ _ _ h => h) (by kernel_rfl) (by decide) (Below.refl _ _).drew ?_
    intro hHeld
    repeat (first
      | (refine seq_skip (by simp only [List.getElem?_toArray, List.getElem?_cons_succ, List.getElem?_cons_zero]; first | done | rfl) (by rfl) ?_; (try simp only [Act.put, List.setIfInBounds_toArray, List.set_cons_zero, List.set_cons_succ]))
      | (refine seq_reads (by simp only [List.getElem?_toArray, List.getElem?_cons_succ, List.getElem?_cons_zero]; first | done | rfl) (by rfl) ?_; apply Exists.intro; apply And.intro; (focus (intro w hSw; obtain ⟨hcS, -⟩ := bcell hSw; go_simp; (try with_reducible rfl); done)); (try simp only [Act.put, List.setIfInBounds_toArray, List.set_cons_zero, List.set_cons_succ]))
      | (refine seq_pass (by simp only [List.getElem?_toArray, List.getElem?_cons_succ, List.getElem?_cons_zero]; first | done | rfl) (by rfl) hHeld ?_; clear hHeld; intro hHeld; (try simp only [Act.put, List.setIfInBounds_toArray, List.set_cons_zero, List.set_cons_succ]))
      | (refine seq_call (by simp only [List.getElem?_toArray, List.getElem?_cons_succ, List.getElem?_cons_zero]; first | done | rfl) (by rfl) (fun K hK => ?_); go_simp; go_at_call 29; refine (toWork_any name owner A l cap _ (hl6.below hHeld) hl20).mono ?_; rintro r w1 ⟨g3, rfl, o3, b1⟩; go_simp; refine hK.out _ _ (next hHeld b1) ?_; clear hK hHeld; intro hHeld; (try simp only [Act.put, List.setIfInBounds_toArray, List.set_cons_zero, List.set_cons_succ]))
      | (refine seq_call (by simp only [List.getElem?_toArray, List.getElem?_cons_succ, List.getElem?_cons_zero]; first | done | rfl) (by rfl) (fun K hK => ?_); go_simp; go_at_call 30; refine (eqWork_same name owner _ _ l _ _ _ (hgx.cps.1.below hHeld) (own_at o3) hlen).mono ?_; rintro r w1 ⟨rfl, b1⟩; go_simp; refine hK.out _ _ (next hHeld b1) ?_; clear hK hHeld; intro hHeld; (try simp only [Act.put, List.setIfInBounds_toArray, List.set_cons_zero, List.set_cons_succ])))
    refine seq_end ?_
    replace h0 := h0.below hHeld
    replace h1 := h1.below hHeld
    replace x8 := x8.below hHeld
    replace o8 := o8.below hHeld
    replace x10 := x10.below hHeld
    replace hgx := hgx.below hHeld
    replace x11 := x11.below hHeld
    replace o11 := o11.below hHeld
    replace b0 := next b0 hHeld
    clear p0 p1 p2 r0 r1 r2 z0 z10 hHeld hl6
    obtain ⟨r0, r1, r2⟩ := x10.at3
    have z10 := x10.1
    go_wp2_with fail
    refine (markWork_own name owner _ l l.length _ 0 _ hgx (by omega)).mono ?_
    rintro r w7 ⟨rfl, -, ht⟩
    replace ht : TouchO (some gx) _ w7 := ht
    replace b0 := b0.trans (ht.low w.heap.size b0.size (fun g hg => by cases hg; omega))
    replace h0 := ht.holds h0 (by simp; omega)
    replace h1 := ht.holds h1 (by simp; omega)
    replace x8 := ht.holds x8 (by have := HX.out.1; simp; omega)
    replace x11 := ht.holds x11 (by have := HR.out.1; have := z10; simp; omega)
    replace o8 := ht.own o8 (.inr (fun h => by have := HX.out.2 gx h; omega))
    replace o11 := ht.own o11 (.inr (fun h => by have := HR.out.2 gx h; omega))
    clear ht r0 r1 r2 z10 x10 hgx
    obtain ⟨u0, u1, u2⟩ := x8.at3
    obtain ⟨v0, v1, v2⟩ := x11.at3
    have z8 := x8.1
    have z11 := x11.1
    have hneg : ¬ (((1 + 5 * l.length : Nat) : Int) < 0) := by omega
    go_wp2_with fail
    refine (eqWork_same (M.printed ⟨name, owner, l⟩ e page).1.name (M.printed ⟨name, owner, l⟩ e page).1.owner A11 A8 (M.printed ⟨name, owner, l⟩ e page).1.copies c11 c8 _ o11.cps.1 o8.cps.1 (Nat.le_trans HLP.out (by unfold maxLen; omega))).mono ?_
    rintro r w8 ⟨rfl, b8⟩
    replace h0 := h0.below b8
    replace h1 := h1.below b8
    replace x8 := x8.below b8
    replace o8 := o8.below b8
    replace x11 := x11.below b8
    replace o11 := o11.below b8
    replace b0 := next b0 b8
    clear u0 u1 u2 v0 v1 v2 z8 z11 b8 hneg
    obtain ⟨v0, v1, v2⟩ := x11.at3
    have z11 := x11.1
    go_wp2_with fail
    refine (markWork_own (M.printed ⟨name, owner, l⟩ e page).1.name (M.printed ⟨name, owner, l⟩ e page).1.owner A11 (M.printed ⟨name, owner, l⟩ e page).1.copies (M.printed ⟨name, owner, l⟩ e page).1.copies.length c11 w4.heap.size _ o11 HLP.out).mono ?_
    rintro r w9 ⟨rfl, om, ht⟩
    replace b0 := b0.trans (ht.low w.heap.size b0.size (fun g hg => by have := HR.out.2 g hg; omega))
    replace h0 := ht.holds h0 (fun h => by have := HR.out.2 _ h.symm; omega)
    replace h1 := ht.holds h1 (fun h => by have := HR.out.2 _ h.symm; omega)
    replace x8 := ht.holds x8 (fun h => by have := HR.out.2 _ h.symm; have := HX.out.1; omega)
    replace x11 := ht.holds x11 (fun h => HN11.out h.symm)
    replace o8 := ht.own o8 (own_differ (fun k hk => Nat.lt_trans (HX.out.2 k hk) (Nat.lt_trans hgx3 h34)) HR.out.2)
    obtain ⟨qq, hqq⟩ : ∃ qq, 1 + 5 * (M.printed ⟨name, owner, l⟩ e page).1.copies.length = qq := ⟨_, rfl⟩
    rw [hqq]
    have HQ := Lib.hid hqq
    have hq1 : ¬ ((qq : Int) < 0) := by omega
    have hq2 : ((qq : Int) != (qq : Int)) = false := by simp
    clear ht v0 v1 v2 z11 o11 hqq
    obtain ⟨v0, v1, v2⟩ := x11.at3
    have z11 := x11.1
    go_wp2_with fail
    refine (heldWork_any (M.printed ⟨name, owner, l⟩ e page).1.name (M.printed ⟨name, owner, l⟩ e page).1.owner A11 (M.printed ⟨name, owner, l⟩ e page).1.copies.length c11 1 _ om.cps.1 HLP.out (by omega) (by omega)).mono ?_
    rintro r wa ⟨rfl, ba⟩
    rw [HQ.out]
    replace h0 := h0.below ba
    replace h1 := h1.below ba
    replace x8 := x8.below ba
    replace o8 := o8.below ba
    replace x11 := x11.below ba
    replace om := om.below ba
    replace b0 := next b0 ba
    have hl1 := hl.below b0
    clear v0 v1 v2 z11 ba
    obtain ⟨p0, p1, p2⟩ := h0.at3
    obtain ⟨q0, q1, q2⟩ := h1.at3
    have z0 := h0.1
    have z1 := h1.1
    go_upto_region 26 with (fail)
    go_cut [16, 17] (fun s16 s17 wx => WkBox wa (M.printed ⟨name, owner, l⟩ e page) s16 s17 wx)
    case first =>
      refine wp_region_tq (fun w' => Below wa.heap.size wa w') (.read 0 (.read 2 (.read 4 (.two 1 9 (.two 3 9 (.two 5 9 (.read 6 (.read 7 (.read 8 (.one 9 (.one 10 (.read 11 .done)))))) (.one 5 (.read 6 (.read 7 (.read 8 (.one 10 (.read 11 .done))))))) (.one 3 (.one 5 (.read 6 (.read 7 (.read 8 (.one 10 (.read 11 .done)))))))) (.one 1 (.one 3 (.one 5 (.read 6 (.read 7 (.read 8 (.one 10 (.read 11 .done)))))))))))) (by kernel_rfl) (by kernel_rfl) (fun _ _ _ _ _ h => h) (by kernel_rfl) (by decide) (Below.refl _ _).drew ?_
      intro hHeld
      generalize wa.drew = wd at hHeld ⊢
      repeat (first
        | (refine tq_reads (by simp only [List.getElem?_toArray, List.getElem?_cons_succ, List.getElem?_cons_zero]; first | done | rfl) (by rfl) ?_; apply Exists.intro; apply And.intro; (focus (intro w hSw; obtain ⟨hcS, -⟩ := bcell hSw; go_simp; (try with_reducible rfl); done)); (try simp only [Act.put, List.setIfInBounds_toArray, List.set_cons_zero, List.set_cons_succ]))
        | (refine tq_two ?_ ?_)
        | (refine tq_three ?_ ?_ ?_)
        | (refine tq_one (by simp only [List.getElem?_toArray, List.getElem?_cons_succ, List.getElem?_cons_zero]; first | done | rfl) (by rfl) (fun K hK => ?_); go_simp; go_at_call 29; refine (toWork_any name owner A l cap _ (hl1.below hHeld) hl20).mono ?_; rintro r w1 ⟨gw, rfl, ow, b1⟩; go_simp; refine hK.out _ _ _ (fun _ h => h) (next hHeld b1) ?_; clear hK hHeld; intro hHeld; (try (replace fx := fx.below hx.1 b1; replace hx := hx.below b1)); have hgw := own_at ow; clear ow; (try simp only [Act.put, List.setIfInBounds_toArray, List.set_cons_zero, List.set_cons_succ]))
        | (refine tq_one (by simp only [List.getElem?_toArray, List.getElem?_cons_succ, List.getElem?_cons_zero]; first | done | rfl) (by rfl) (fun K hK => ?_); go_simp; go_at_call 31; refine (toEdition_any e _).mono ?_; rintro r w1 ⟨rfl, b1⟩; go_simp; refine hK.out _ _ _ (fun _ h => h) (next hHeld b1) ?_; clear hK hHeld; intro hHeld; (try (replace fx := fx.below hx.1 b1; replace hx := hx.below b1)); replace hgw := hgw.below b1; (try simp only [Act.put, List.setIfInBounds_toArray, List.set_cons_zero, List.set_cons_succ]))
        | (refine tq_one (by simp only [List.getElem?_toArray, List.getElem?_cons_succ, List.getElem?_cons_zero]; first | done | rfl) (by rfl) (fun K hK => ?_); go_simp; go_at_call 12; refine (implPrinted name owner _ l _ e page _ hgw hn20 hl20 HP.out hpg).mono ?_; rintro r w1 ⟨⟨A', c', rfl, ho⟩, b1⟩; (try have hne := ho.ne_low hx.1); replace ho := ho.mono hHeld.size; go_simp; refine hK.out _ _ _ (fun _ h => h) (next hHeld b1) ?_; clear hK hHeld; intro hHeld; (try (replace fx := fx.below hx.1 b1; replace hx := hx.below b1)); (try simp only [Act.put, List.setIfInBounds_toArray, List.set_cons_zero, List.set_cons_succ]))
        | (refine tq_one (by simp only [List.getElem?_toArray, List.getElem?_cons_succ, List.getElem?_cons_zero]; first | done | rfl) (by rfl) (fun K hK => ?_); go_simp; refine hK.out _ _ _ (fun _ h => h) (hHeld.alloc hHeld.size _) ?_; clear hK; intro hS; refine tq_alloc ?_ hS; clear hS; intro wA bA hx fx hS; have hge := hHeld.size; clear hHeld; have hHeld := hS; (try replace hgw := hgw.below bA); (try (have hne := ho.ne_new; replace ho := ho.below bA)); clear hS bA; (try simp only [Act.put, List.setIfInBounds_toArray, List.set_cons_zero, List.set_cons_succ]))
        | (refine tq_one (by simp only [List.getElem?_toArray, List.getElem?_cons_succ, List.getElem?_cons_zero]; first | done | rfl) (by rfl) (fun K hK => ?_); obtain ⟨x0, x1, x2⟩ := hx.at3; obtain ⟨y0, y1, y2⟩ := fx.fz3; go_simp; refine hK.out _ _ _ (fun _ h => h) (far_3 hHeld hge _ _ _ ) ?_; clear hK hHeld; intro hHeld; (try simp only [Act.put, List.setIfInBounds_toArray, List.set_cons_zero, List.set_cons_succ]))
        | (refine tq_end ?_; go_wp2; go_meet; exact ⟨_, _, _, rfl, rfl, hge, hHeld, hx.wr3 _ _ _, ((ho.apart hne _).apart hne _).apart hne _, hne⟩))
    case rest =>
    obtain ⟨G16, A16, c16, rfl, rfl, hG16, bb, x16, o16, -⟩ := hcut
    replace x8 := x8.below bb
    replace o8 := o8.below bb
    replace x11 := x11.below bb
    replace om := om.below bb
    replace b0 := next b0 bb
    clear p0 p1 p2 q0 q1 q2 z0 z1 bb h0 h1 hl1
    obtain ⟨u0, u1, u2⟩ := x8.at3
    obtain ⟨v0, v1, v2⟩ := x16.at3
    have z8 := x8.1
    have z16 := x16.1
    go_wp2_with fail
    refine (eqWork_same (M.printed ⟨name, owner, l⟩ e page).1.name (M.printed ⟨name, owner, l⟩ e page).1.owner A16 A8 (M.printed ⟨name, owner, l⟩ e page).1.copies c16 c8 _ o16.cps.1 o8.cps.1 (Nat.le_trans HLP.out (by unfold maxLen; omega))).mono ?_
    rintro r wd ⟨rfl, bd⟩
    replace x11 := x11.below bd
    replace om := om.below bd
    replace b0 := next b0 bd
    clear u0 u1 u2 v0 v1 v2 z8 z16 bd x8 x16 o8 o16
    obtain ⟨v0, v1, v2⟩ := x11.at3
    have z11 := x11.1
    go_wp2_with fail
    refine (heldWork_any (M.printed ⟨name, owner, l⟩ e page).1.name (M.printed ⟨name, owner, l⟩ e page).1.owner A11 (M.printed ⟨name, owner, l⟩ e page).1.copies.length c11 1 _ om.cps.1 HLP.out (by omega) (by omega)).mono ?_
    rintro r we ⟨rfl, be⟩
    rw [HQ.out]
    replace b0 := next b0 be
    go_wp2
    go_ret
    exact ⟨rfl, b0⟩

set_option maxRecDepth 100000 in
theorem lifted (os : Os) (started : os.Started) (H : Type) (enc : TypeId × Value → H) :
    ReturnsInHanded {} Try.checked os 7 .any (Rows.fnExactPrintedSpec.pre6 enc Try.prog Try.f7 Rows.fnExactPrintedRow.domain false) (Rows.fnExactPrintedSpec.post enc Try.prog Try.f7 false true false false) := by
  refine returnsInHanded_of_change (C := Try.checked) own started (by kernel_rfl) Try.func7
    (ChangeSpec.witness6 (enc := enc) (C := Try.checked) false ⟨#[], #[.agg #[.string ByteArray.empty, .int .i64 0, .slice none 0 0], .agg #[.int .i64 0, .int .i64 0, .int .i64 0], .string ByteArray.empty], []⟩ 8 (by kernel_rfl) (by kernel_rfl) (by kernel_rfl) (by kernel_rfl)) ?_
  intro W base args ds gs before hval0 hW hcnd _
  have hval : ∀ (j : Nat) t v, Try.f7.params[j]? = some t → args[j]? = some v → Value.okWide Try.prog W .any base t v := hval0
  have hW' := hW
  obtain ⟨p, q, hA0, -⟩ := hW
  have hA : DataW.TrodAll enc Try.prog W 0 (fun _ => true) true Try.f7.params.toList args.toList ds p := hA0
  rw [Try.params7] at hA hval
  obtain ⟨v0, vs0, d0, ds0, p0, q0, hargs, rfl, rfl, h0, r0⟩ := trodAll_cons hA
  obtain ⟨v1, vs1, d1, ds1, p1, q1, rfl, rfl, rfl, h1, r1⟩ := trodAll_cons r0
  obtain ⟨v2, vs2, d2, ds2, p2, q2, rfl, rfl, rfl, h2, r2⟩ := trodAll_cons r1
  obtain ⟨rfl, rfl, rfl⟩ := trodAll_nil r2
  obtain rfl : args = #[v0, v1, v2] := by cases args; simp_all
  clear hA0 hval0
  have hv0 := hval 0 _ v0 rfl rfl
  have hv1 := hval 1 _ v1 rfl rfl
  have hv2 := hval 2 _ v2 rfl rfl
  obtain ⟨name, owner, A, l, cap, rfl, hn, hl, hlen, hp⟩ := open_wk (tc := 47) (te := 97) Try.underlying49 (by kernel_rfl) (by kernel_rfl) (by kernel_rfl) Try.underlying9 Try.underlying2 rfl Try.underlying47 Try.underlying97 (by kernel_rfl) (by kernel_rfl) (by kernel_rfl) Try.underlying53 Try.underlying9 Try.underlying4 (by kernel_rfl) (by kernel_rfl) Try.underlying2 Try.underlying2 Try.underlying2 hv0 h0
  obtain ⟨e, rfl⟩ := open_ed Try.underlying53 (by kernel_rfl) (by kernel_rfl) Try.underlying2 Try.underlying2 Try.underlying2 hv1 h1
  obtain ⟨page, rfl, -, -, hpm⟩ := open_string Try.underlying9 hv2 h2
  exact (walk name owner A l cap e page hn hlen hp hpm W hl).mono fun r W' ⟨he, hb⟩ => ⟨_, he, law_post rfl rfl Try.underlying4 (by kernel_rfl) (n := 3)
    (fun ds' hd => by rcases ds' with _ | ⟨x0, _ | ⟨x1, _ | ⟨x2, _ | ⟨y, z⟩⟩⟩⟩ <;> simp at hd <;> exact ⟨rfl, rfl, rfl⟩) rfl hW' hb⟩

theorem over : Rows.fnExactPrintedRow.holds Try.pinned (OpenSpec.ofChange Rows.fnExactPrintedSpec) :=
  OpenClaim.holds_of_wide 7 Try.f7 rfl rfl rfl rfl rfl rfl rfl ⟨rfl, rfl, rfl, rfl, rfl⟩ rfl rfl rfl rfl rfl (by kernel_rfl) Try.func7 (by kernel_rfl)
    (of_decide_eq_true (by kernel_rfl)) (by unfold Func.isWrapper; first | (rw [if_pos (by decide +kernel)]; kernel_rfl) | (rw [if_neg (by decide +kernel)]; exact ⟨rfl, rfl⟩))
    (fun os started H enc _ => lifted os started H enc)

theorem proved : Rows.FnExactPrintedSaid :=
  over
#print axioms proved
end Go.Proofs.Yteohnihdnfgngaa.fnExactPrinted
