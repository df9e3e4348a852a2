/- Proved: the law FnCut returns true at every list of bytes, and the list reads afterwards as before; no condition. -/
import Derived.Test.YtkpbfocnokbmiaaPart14
import Derived.Test.YtkpbfocnokbmiaaPart22
import Derived.Test.YtkpbfocnokbmiaaPart21
import Derived.Test.YtkpbfocnokbmiaaPart24
import Derived.Lib.SmallJoins
namespace Go.Proofs.Ytkpbfocnokbmiaa.fnCut
open Go.ChangeShapes Go.WideShapes Go.ChangeAt Go.RowKit Go.Joins Go.Deep
open Go.ChangeMaps (open_string shut_string)
set_option linter.unusedVariables false

set_option maxRecDepth 100000 in
set_option maxHeartbeats 16000000 in
theorem walk (a0 : Option Addr) (len0 cap0 : Nat) (w : World) (hc : CodeOk w.heap.size w a0 len0) :
    Calls Try.prog 5 #[.slice a0 len0 cap0] w fun e w' => e = .returned (.bool true) ∧ Below w.heap.size w w' := by
  have HC := Lib.hid hc
  clear hc
  by_cases hbig : 4096 < len0
  · go_enter Try.func5, Try.ntmps5
    go_wp2_with fail
    refine (big_any a0 len0 cap0 _).mono ?_
    rintro r w' ⟨rfl, rfl⟩
    go_wp2
    go_ret
    exact ⟨rfl, Below.refl _ _⟩
  · have hl4 : len0 ≤ 4096 := by omega
    go_enter Try.func5, Try.ntmps5
    go_wp2_with fail
    refine (big_any a0 len0 cap0 _).mono ?_
    rintro r w' ⟨rfl, rfl⟩
    go_wp2_with fail
    refine (DrawCut_any _ a0 len0 cap0 hl4 HC.out).mono ?_
    rintro e0 x1 ⟨b, r, A, l, c, i, rfl, ho, ⟨hll, htx⟩, b1⟩
    have HR := Lib.hid (ens_of ho)
    have HCAP := Lib.hid (ens_cap ho)
    have HN := Lib.hid (ens_nilc ho)
    have HP : Hid (∀ e ∈ l, enIn 1048576 e) := Lib.hid (fun e he => ⟨by have := (htx e he).1; omega, by have := (htx e he).2; omega⟩)
    have hl20 : l.length ≤ 1048576 := by omega
    have hm := (Mem.start w).below b1
    clear b1 ho htx hbig
    replace hm := hm.new (roA b r A l.length c) 26
    replace HR := Lib.hid (HR.out.alloc (.cells (roA b r A l.length c) 26))
    obtain ⟨QB, QR, q, t, hQ⟩ : ∃ QB QR q t, M.cut b r l i = ((QB, QR, q), t) := ⟨_, _, _, _, rfl⟩
    have HQ := Lib.hid hQ
    have HQL : Hid (q.length ≤ l.length) := Lib.hid (by have h := M.cut_len b r l i; rw [hQ] at h; exact h)
    clear hQ
    obtain ⟨p0, p1, p2⟩ := (hm.get (x1.heap.size) ((roA b r A l.length c)) (by simp)).three
    have pz := (hm.get (x1.heap.size) ((roA b r A l.length c)) (by simp)).1
    have hcall := implCut b r A l c i _ HR.out hl20 HP.out HCAP.out
    rw [HQ.out] at hcall
    have HCALL := Lib.hid hcall
    clear hcall
    go_wp2_with fail
    refine HCALL.out.mono ?_
    rintro e1 x2 h2
    obtain ⟨AX, cX, rfl, oX, b2⟩ := RcRet.open h2
    have HX := Lib.hid (ens_of oX)
    have HCX := Lib.hid (ens_cap oX)
    have HNX := Lib.hid (ens_nilc oX)
    replace hm := hm.below b2
    replace HR := Lib.hid (HR.out.below b2)
    clear b2 h2 oX HCALL
    clear p0 p1 p2 pz
    replace hm := hm.new (roA QB QR AX q.length cX) 26
    replace HR := Lib.hid (HR.out.alloc (.cells (roA QB QR AX q.length cX) 26))
    replace HX := Lib.hid (HX.out.alloc (.cells (roA QB QR AX q.length cX) 26))
    obtain ⟨p0, p1, p2⟩ := (hm.get (x1.heap.size) ((roA b r A l.length c)) (by simp)).three
    have pz := (hm.get (x1.heap.size) ((roA b r A l.length c)) (by simp)).1
    go_upto_region 5 with (fail)
    generalize hw3 : x2.alloc (.cells (roA QB QR AX q.length cX) 26) = x3 at hm HR HX p0 p1 p2 pz ⊢
    clear hw3
    have hcall := specCut b r A l c i x3 HR.out hl20 HP.out HCAP.out HN.out
    rw [HQ.out] at hcall
    have HCALL := Lib.hid hcall
    clear hcall
    go_wp2_with fail
    refine HCALL.out.mono ?_
    rintro e1 x4 h2
    obtain ⟨AY, cY, rfl, oY, b2⟩ := RcRet.open h2
    have HY := Lib.hid (ens_of oY)
    replace hm := hm.below b2
    replace HR := Lib.hid (HR.out.below b2)
    replace HX := Lib.hid (HX.out.below b2)
    clear b2 h2 oY HCALL
    clear p0 p1 p2 pz
    replace hm := hm.new (roA QB QR AY q.length cY) 26
    replace HR := Lib.hid (HR.out.alloc (.cells (roA QB QR AY q.length cY) 26))
    replace HX := Lib.hid (HX.out.alloc (.cells (roA QB QR AY q.length cY) 26))
    replace HY := Lib.hid (HY.out.alloc (.cells (roA QB QR AY q.length cY) 26))
    go_upto_region 6 with (fail)
    generalize hw5 : x4.alloc (.cells (roA QB QR AY q.length cY) 26) = x5 at hm HR HX HY ⊢
    clear hw5
    obtain ⟨q0, q1, q2⟩ := (hm.get (x2.heap.size) ((roA QB QR AX q.length cX)) (by simp)).three
    have qz := (hm.get (x2.heap.size) ((roA QB QR AX q.length cX)) (by simp)).1
    obtain ⟨u0, u1, u2⟩ := (hm.get (x4.heap.size) ((roA QB QR AY q.length cY)) (by simp)).three
    have uz := (hm.get (x4.heap.size) ((roA QB QR AY q.length cY)) (by simp)).1
    have hne : (t != t) = false := by simp
    go_wp2_with fail
    refine (likeRoll_same QB QR AX AY q q.length q.length cX cY _ rfl rfl HX.out HY.out (by have := HQL.out; omega)).mono ?_
    rintro e1 x6 ⟨rfl, b2⟩
    replace hm := hm.below b2
    replace HR := Lib.hid (HR.out.below b2)
    replace HX := Lib.hid (HX.out.below b2)
    clear b2 HY hne
    clear q0 q1 q2 qz u0 u1 u2 uz
    obtain ⟨p0, p1, p2⟩ := (hm.get (x1.heap.size) ((roA b r A l.length c)) (by simp)).three
    have pz := (hm.get (x1.heap.size) ((roA b r A l.length c)) (by simp)).1
    obtain ⟨q0, q1, q2⟩ := (hm.get (x2.heap.size) ((roA QB QR AX q.length cX)) (by simp)).three
    have qz := (hm.get (x2.heap.size) ((roA QB QR AX q.length cX)) (by simp)).1
    rcases hok : M.rollOk b r l with _ | _
    · have hq := HQ.out
      rw [M.cut_bad hok] at hq
      have ht : t = false := by injection hq with _ h; exact h.symm
      clear hq
      subst ht
      have HOK := Lib.hid hok
      clear hok
      go_wp2_with fail
      have hcall := specRollOk b r A l c x6 HR.out hl20 HP.out
      rw [HOK.out] at hcall
      refine hcall.mono ?_
      clear hcall
      rintro e1 x7 ⟨rfl, b2⟩
      replace hm := hm.below b2
      have HM := Lib.hid hm.1
      clear hm
      go_wp2
      go_ret
      exact ⟨rfl, HM.out⟩
    by_cases hin : b ≤ i ∧ i ≤ b + l.length ∧ i ≤ 300
    · obtain ⟨k, hk, hi⟩ : ∃ k : Nat, k ≤ l.length ∧ i = b + k := ⟨(i - b).toNat, by omega, by omega⟩
      subst hi
      have hq := HQ.out
      rw [M.cut_at hok hk hin.2.2] at hq
      obtain ⟨hq1, ht⟩ := Prod.mk.inj hq
      obtain ⟨hqb, hq2⟩ := Prod.mk.inj hq1
      obtain ⟨hqr, hql⟩ := Prod.mk.inj hq2
      have h3 := hin.2.2
      clear hq hq1 hq2 hin
      subst hqb
      subst ht
      have HOKX : Hid (M.rollOk (b + k) QR q = true) := Lib.hid (by rw [← hqr, ← hql]; exact M.cut_ok hok hk h3)
      have HRE : Hid (∀ j : Nat, k ≤ j → j ≤ l.length → M.reignAt (b + k) QR q (b + j) = M.reignAt b r l (b + j)) := Lib.hid (fun j h1 h2 => by
        unfold M.reignAt
        rw [if_pos hok, if_pos HOKX.out, ← hqr, ← hql]
        exact M.cut_reign h1 h2)
      have HTX : Hid (M.tail (b + k) QR q (b + k + 1) = q) := Lib.hid (by
        have h := M.tail_at (b := b + k) (r := QR) (l := q) (k := 0) (Nat.zero_le _) HOKX.out
        rw [show b + (k : Int) + ((0 : Nat) : Int) + 1 = b + k + 1 by omega] at h
        rw [h, List.drop_zero])
      have HTR : Hid (M.tail b r l (b + k + 1) = q) := Lib.hid (by rw [M.tail_at hk hok, hql])
      have HQN : Hid (q.length = l.length - k) := Lib.hid (by rw [← hql, List.length_drop])
      have HLX : Hid (M.lastIn (b + k) QR q = b + l.length) := Lib.hid (by unfold M.lastIn; rw [if_pos HOKX.out]; have := HQN.out; omega)
      have HLR : Hid (M.lastIn b r l = b + l.length) := Lib.hid (by unfold M.lastIn; rw [if_pos hok])
      have HPX : Hid (∀ e ∈ q, enIn 1048576 e) := Lib.hid (fun e he => HP.out e (List.mem_of_mem_drop (by rw [hql]; exact he)))
      have HQ20 : Hid (q.length ≤ 1048576) := Lib.hid (by have := HQL.out; omega)
      obtain ⟨g0, g1, -⟩ := M.rollOk_parts hok
      have HOK := Lib.hid hok
      clear hok hqr hql
      go_wp2_with fail
      have hcall := specLastIn b r A l c x6 HR.out hl20 HP.out
      rw [HLR.out] at hcall
      refine hcall.mono ?_
      clear hcall
      rintro e1 x7 ⟨rfl, b2⟩
      replace hm := hm.below b2
      replace HR := Lib.hid (HR.out.below b2)
      replace HX := Lib.hid (HX.out.below b2)
      clear b2 p0 p1 p2 pz q0 q1 q2 qz
      have HM := Lib.hid hm
      clear hm
      go_wp2_with fail
      go_loopw [10] (fun s10 wr => ∃ j : Nat, s10 = .int .i64 (b + j) ∧ k ≤ j ∧ j ≤ l.length + 1 ∧ Below x7.heap.size x7 wr) (fun s10 _ => (b + l.length + 1 - intOf s10).toNat)
      case atStart => exact ⟨k, rfl, Nat.le_refl _, by omega, Below.refl _ _⟩
      case round =>
        obtain ⟨j, rfl, hj1, hj2, hbl⟩ := hrel
        have hm := HM.out.below hbl
        by_cases hlt : j ≤ l.length
        · have hle : b + (j : Int) ≤ b + l.length := by omega
          obtain ⟨V, hV⟩ : ∃ V, M.reignAt b r l (b + j) = V := ⟨_, rfl⟩
          have HC1 : Hid (∀ x, Below x7.heap.size x7 x → Calls Try.prog 15 #[roV (b + k) QR AX q.length cX, .int .i64 (b + j)] x fun e w' => e = .returned (.int .i64 V) ∧ Below x.heap.size x w') := Lib.hid (fun x hb => by
            have hc := implReignAt (b + k) QR AX q cX (b + j) x (HX.out.below hb) HQ20.out HPX.out HCX.out
            rw [HRE.out j hj1 hlt, hV] at hc
            exact hc)
          have HC2 : Hid (∀ x, Below x7.heap.size x7 x → Calls Try.prog 20 #[roV b r A l.length c, .int .i64 (b + j)] x fun e w' => e = .returned (.int .i64 V) ∧ Below x.heap.size x w') := Lib.hid (fun x hb => by
            have hc := specReignAt b r A l c (b + j) x (HR.out.below hb) hl20 HP.out
            rw [hV] at hc
            exact hc)
          have HBL := Lib.hid hbl
          obtain ⟨p0, p1, p2⟩ := (hm.get (x1.heap.size) ((roA b r A l.length c)) (by simp)).three
          have pz := (hm.get (x1.heap.size) ((roA b r A l.length c)) (by simp)).1
          obtain ⟨q0, q1, q2⟩ := (hm.get (x2.heap.size) ((roA (b + k) QR AX q.length cX)) (by simp)).three
          have qz := (hm.get (x2.heap.size) ((roA (b + k) QR AX q.length cX)) (by simp)).1
          clear hV hm hbl
          go_upto_region 14 with (fail)
          refine wp_region_seq (fun w' => Below wr.heap.size wr w') [(0, true), (1, true), (3, true), (4, true), (2, false), (5, false), (6, true)] (by kernel_rfl) (by kernel_rfl) (fun _ _ _ _ _ h => h) (by kernel_rfl) (by decide) (Below.refl _ _).drew ?_
          intro hHeld
          repeat (first
            | (refine seq_skip (by simp only [List.getElem?_toArray, List.getElem?_cons_succ, List.getElem?_cons_zero]; first | done | rfl) (by rfl) ?_; (try simp only [Act.put, List.setIfInBounds_toArray, List.set_cons_zero, List.set_cons_succ]))
            | (refine seq_reads (by simp only [List.getElem?_toArray, List.getElem?_cons_succ, List.getElem?_cons_zero]; first | done | rfl) (by rfl) ?_; apply Exists.intro; apply And.intro; (focus (intro w hSw; obtain ⟨hcS, -⟩ := bcell hSw; go_simp; (try with_reducible rfl); done)); (try simp only [Act.put, List.setIfInBounds_toArray, List.set_cons_zero, List.set_cons_succ]))
            | (refine seq_pass (by simp only [List.getElem?_toArray, List.getElem?_cons_succ, List.getElem?_cons_zero]; first | done | rfl) (by rfl) hHeld ?_; clear hHeld; intro hHeld; (try simp only [Act.put, List.setIfInBounds_toArray, List.set_cons_zero, List.set_cons_succ]))
            | (refine seq_call (by simp only [List.getElem?_toArray, List.getElem?_cons_succ, List.getElem?_cons_zero]; first | done | rfl) (by rfl) (fun K hK => ?_); go_simp; go_at_call 15; refine (HC1.out _ (next HBL.out hHeld)).mono ?_; rintro r w1 ⟨rfl, b1⟩; go_simp; refine hK.out _ _ (next hHeld b1) ?_; clear hK hHeld; intro hHeld; (try simp only [Act.put, List.setIfInBounds_toArray, List.set_cons_zero, List.set_cons_succ]))
            | (refine seq_call (by simp only [List.getElem?_toArray, List.getElem?_cons_succ, List.getElem?_cons_zero]; first | done | rfl) (by rfl) (fun K hK => ?_); go_simp; go_at_call 20; refine (HC2.out _ (next HBL.out hHeld)).mono ?_; rintro r w1 ⟨rfl, b1⟩; go_simp; refine hK.out _ _ (next hHeld b1) ?_; clear hK hHeld; intro hHeld; (try simp only [Act.put, List.setIfInBounds_toArray, List.set_cons_zero, List.set_cons_succ])))
          refine seq_end ?_
          have HBE := Lib.hid (next HBL.out hHeld)
          clear hHeld p0 p1 p2 pz q0 q1 q2 qz
          have hne : (V != V) = false := by simp
          go_wp2
          go_roundw
          case rel => exact ⟨j + 1, by go_num, by omega, by omega, HBE.out⟩
          case measure => simp [intOf]; omega
        · have hje : j = l.length + 1 := by omega
          have hgt : ¬ b + (j : Int) ≤ b + l.length := by omega
          have HC1 : Hid (∀ x, Below x7.heap.size x7 x → Calls Try.prog 24 #[roV (b + k) QR AX q.length cX] x fun e w' => e = .returned (.bool true) ∧ Below x.heap.size x w') := Lib.hid (fun x hb => by
            have hc := implRollOk (b + k) QR AX q cX x (HX.out.below hb) HQ20.out HPX.out
            rw [HOKX.out] at hc
            exact hc)
          have HC2 : Hid (∀ x, Below x7.heap.size x7 x → Calls Try.prog 18 #[roV (b + k) QR AX q.length cX] x fun e w' => e = .returned (.int .i64 (b + l.length)) ∧ Below x.heap.size x w') := Lib.hid (fun x hb => by
            have hc := implLastIn (b + k) QR AX q cX x (HX.out.below hb) HQ20.out HPX.out
            rw [HLX.out] at hc
            exact hc)
          have HC3 : Hid (∀ x, Below x7.heap.size x7 x → Calls Try.prog 22 #[roV (b + k) QR AX q.length cX, .int .i64 (b + k + 1)] x (EnsRet x q)) := Lib.hid (fun x hb => by
            have hc := specTail (b + k) QR AX q cX (b + k + 1) x (HX.out.below hb) HQ20.out HPX.out HCX.out HNX.out
            rw [HTX.out] at hc
            exact hc)
          have HC4 : Hid (∀ x, Below x7.heap.size x7 x → Calls Try.prog 22 #[roV b r A l.length c, .int .i64 (b + k + 1)] x (EnsRet x q)) := Lib.hid (fun x hb => by
            have hc := specTail b r A l c (b + k + 1) x (HR.out.below hb) hl20 HP.out HCAP.out HN.out
            rw [HTR.out] at hc
            exact hc)
          have hwk : IntKind.i64.wrap (b + k + 1) = b + k + 1 := IntWalk.i64_in _ (by omega)
          have HBL := Lib.hid hbl
          have HHM := Lib.hid hm.1
          obtain ⟨p0, p1, p2⟩ := (hm.get (x1.heap.size) ((roA b r A l.length c)) (by simp)).three
          have pz := (hm.get (x1.heap.size) ((roA b r A l.length c)) (by simp)).1
          obtain ⟨q0, q1, q2⟩ := (hm.get (x2.heap.size) ((roA (b + k) QR AX q.length cX)) (by simp)).three
          have qz := (hm.get (x2.heap.size) ((roA (b + k) QR AX q.length cX)) (by simp)).1
          clear hm hbl
          go_upto_region 16 with (fail)
          refine wp_region_seq (fun w' => Below wr.heap.size wr w') [(0, true), (1, false), (2, true), (3, true), (4, true), (5, true), (6, true), (7, true), (8, true), (9, true), (11, true), (10, false), (12, true), (13, true), (14, true), (15, true), (16, true), (17, true), (19, true), (20, true), (21, true), (18, false), (22, false), (23, false), (24, true), (25, true)] (by kernel_rfl) (by kernel_rfl) (fun _ _ _ _ _ h => h) (by kernel_rfl) (by decide) (Below.refl _ _).drew ?_
          intro hHeld
          repeat (first
            | (refine seq_skip (by simp only [List.getElem?_toArray, List.getElem?_cons_succ, List.getElem?_cons_zero]; first | done | rfl) (by rfl) ?_; (try simp only [Act.put, List.setIfInBounds_toArray, List.set_cons_zero, List.set_cons_succ]))
            | (refine seq_reads (by simp only [List.getElem?_toArray, List.getElem?_cons_succ, List.getElem?_cons_zero]; first | done | rfl) (by rfl) ?_; apply Exists.intro; apply And.intro; (focus (intro w hSw; obtain ⟨hcS, -⟩ := bcell hSw; go_simp; (try with_reducible rfl); done)); (try simp only [Act.put, List.setIfInBounds_toArray, List.set_cons_zero, List.set_cons_succ]))
            | (refine seq_pass (by simp only [List.getElem?_toArray, List.getElem?_cons_succ, List.getElem?_cons_zero]; first | done | rfl) (by rfl) hHeld ?_; clear hHeld; intro hHeld; (try simp only [Act.put, List.setIfInBounds_toArray, List.set_cons_zero, List.set_cons_succ]))
            | ((have hzz := HT2.out); clear hzz; refine seq_call (by simp only [List.getElem?_toArray, List.getElem?_cons_succ, List.getElem?_cons_zero]; first | done | rfl) (by rfl) (fun K hK => ?_); go_simp; go_at_call 21; refine (likeList_same A3 A4 q q.length q.length c3 c4 _ rfl rfl (HT1.out.below hHeld2.out) HT2.out HQ20.out).mono ?_; rintro r w1 ⟨rfl, b1⟩; go_simp; refine hK.out _ _ (next hHeld b1) ?_; clear hK hHeld; intro hHeld; (try simp only [Act.put, List.setIfInBounds_toArray, List.set_cons_zero, List.set_cons_succ]))
            | ((have hzz := HT1.out); clear hzz; refine seq_call (by simp only [List.getElem?_toArray, List.getElem?_cons_succ, List.getElem?_cons_zero]; first | done | rfl) (by rfl) (fun K hK => ?_); go_simp; go_at_call 22; refine (HC4.out _ (next HBL.out hHeld)).mono ?_; rintro r w1 ⟨A4, c4, rfl, o4, b1⟩; (have HT2 := Lib.hid (ens_of o4)); (have hHeld2 := Lib.hid b1); clear o4; go_simp; refine hK.out _ _ (next hHeld b1) ?_; clear hK hHeld; intro hHeld; (try simp only [Act.put, List.setIfInBounds_toArray, List.set_cons_zero, List.set_cons_succ]))
            | (refine seq_call (by simp only [List.getElem?_toArray, List.getElem?_cons_succ, List.getElem?_cons_zero]; first | done | rfl) (by rfl) (fun K hK => ?_); go_simp; go_at_call 22; refine (HC3.out _ (next HBL.out hHeld)).mono ?_; rintro r w1 ⟨A3, c3, rfl, o3, b1⟩; (have HT1 := Lib.hid (ens_of o3)); clear o3; go_simp; refine hK.out _ _ (next hHeld b1) ?_; clear hK hHeld; intro hHeld; (try simp only [Act.put, List.setIfInBounds_toArray, List.set_cons_zero, List.set_cons_succ]))
            | (refine seq_call (by simp only [List.getElem?_toArray, List.getElem?_cons_succ, List.getElem?_cons_zero]; first | done | rfl) (by rfl) (fun K hK => ?_); go_simp; go_at_call 24; refine (HC1.out _ (next HBL.out hHeld)).mono ?_; rintro r w1 ⟨rfl, b1⟩; go_simp; refine hK.out _ _ (next hHeld b1) ?_; clear hK hHeld; intro hHeld; (try simp only [Act.put, List.setIfInBounds_toArray, List.set_cons_zero, List.set_cons_succ]))
            | (refine seq_call (by simp only [List.getElem?_toArray, List.getElem?_cons_succ, List.getElem?_cons_zero]; first | done | rfl) (by rfl) (fun K hK => ?_); go_simp; go_at_call 18; refine (HC2.out _ (next HBL.out hHeld)).mono ?_; rintro r w1 ⟨rfl, b1⟩; go_simp; refine hK.out _ _ (next hHeld b1) ?_; clear hK hHeld; intro hHeld; (try simp only [Act.put, List.setIfInBounds_toArray, List.set_cons_zero, List.set_cons_succ])))
          refine seq_end ?_
          have HBE := Lib.hid (next HHM.out (hHeld.mono (Nat.le_refl _)))
          clear hHeld p0 p1 p2 pz q0 q1 q2 qz
          go_wp2
          go_ret
          exact ⟨rfl, HBE.out⟩
    · have hq := HQ.out
      rw [M.cut_out hok hin] at hq
      obtain ⟨hq1, ht⟩ := Prod.mk.inj hq
      obtain ⟨hqb, hq2⟩ := Prod.mk.inj hq1
      obtain ⟨hqr, hql⟩ := Prod.mk.inj hq2
      clear hq hq1 hq2
      subst hqb hqr hql ht
      have HOK := Lib.hid hok
      clear hok hin
      go_wp2_with fail
      have hcall := specRollOk b r A l c x6 HR.out hl20 HP.out
      rw [HOK.out] at hcall
      refine hcall.mono ?_
      clear hcall
      rintro e1 x7 ⟨rfl, b2⟩
      replace hm := hm.below b2
      replace HR := Lib.hid (HR.out.below b2)
      replace HX := Lib.hid (HX.out.below b2)
      clear b2 p0 p1 p2 pz q0 q1 q2 qz
      obtain ⟨p0, p1, p2⟩ := (hm.get (x1.heap.size) ((roA b r A l.length c)) (by simp)).three
      have pz := (hm.get (x1.heap.size) ((roA b r A l.length c)) (by simp)).1
      obtain ⟨q0, q1, q2⟩ := (hm.get (x2.heap.size) (roA b r AX l.length cX) (by simp)).three
      have qz := (hm.get (x2.heap.size) (roA b r AX l.length cX) (by simp)).1
      go_wp2_with fail
      refine (likeRoll_same b r AX A l l.length l.length cX c _ rfl rfl HX.out HR.out hl20).mono ?_
      rintro e1 x8 ⟨rfl, b2⟩
      replace hm := hm.below b2
      have HM := Lib.hid hm.1
      clear hm
      go_wp2
      go_ret
      exact ⟨rfl, HM.out⟩

set_option maxRecDepth 100000 in
theorem lifted (os : Os) (started : os.Started) (H : Type) (enc : TypeId × Value → H) :
    ReturnsInHanded {} Try.checked os 5 .any (Rows.fnCutSpec.pre6 enc Try.prog Try.f5 Rows.fnCutRow.domain false) (Rows.fnCutSpec.post enc Try.prog Try.f5 false true false false) := by
  refine returnsInHanded_of_change (C := Try.checked) own started (by kernel_rfl) Try.func5
    (ChangeSpec.witness6 (enc := enc) (C := Try.checked) false ⟨#[], #[.slice none 0 0], []⟩ 8 (by kernel_rfl) (by kernel_rfl) (by kernel_rfl) (by kernel_rfl)) ?_
  intro W base args ds gs before hval0 hW hcnd _
  have hval : ∀ (j : Nat) t v, Try.f5.params[j]? = some t → args[j]? = some v → Value.okWide Try.prog W .any base t v := hval0
  have hW' := hW
  obtain ⟨p, q, hA0, -⟩ := hW
  have hA : DataW.TrodAll enc Try.prog W 0 (fun _ => true) true Try.f5.params.toList args.toList ds p := hA0
  rw [Try.params5] at hA hval
  obtain ⟨v0, vs0, d0, ds0, p0, q0, hargs, rfl, rfl, h0, r0⟩ := trodAll_cons hA
  obtain ⟨rfl, rfl, rfl⟩ := trodAll_nil r0
  obtain rfl : args = #[v0] := by cases args; simp_all
  clear hA0 hval0
  have hv0 := hval 0 _ v0 rfl rfl
  obtain ⟨a0, len0, cap0, rfl, hc⟩ := open_code hv0 h0
  exact (walk a0 len0 cap0 W hc).mono fun r W' ⟨he, hb⟩ => ⟨_, he, law_post rfl rfl Try.underlying4 (by kernel_rfl) (n := 1)
    (fun ds' hd => by rcases ds' with _ | ⟨x0, _ | ⟨y, z⟩⟩ <;> simp at hd <;> exact ⟨rfl, rfl, rfl⟩) rfl hW' hb⟩

theorem over : Rows.fnCutRow.holds Try.pinned (OpenSpec.ofChange Rows.fnCutSpec) :=
  OpenClaim.holds_of_wide 5 Try.f5 rfl rfl rfl rfl rfl rfl rfl ⟨rfl, rfl, rfl, rfl, rfl⟩ rfl rfl rfl rfl rfl (by kernel_rfl) Try.func5 (by kernel_rfl)
    (of_decide_eq_true (by kernel_rfl)) (by unfold Func.isWrapper; first | (rw [if_pos (by decide +kernel)]; kernel_rfl) | (rw [if_neg (by decide +kernel)]; exact ⟨rfl, rfl⟩))
    (fun os started H enc _ => lifted os started H enc)

theorem proved : Rows.FnCutSaid :=
  over
#print axioms proved
end Go.Proofs.Ytkpbfocnokbmiaa.fnCut
