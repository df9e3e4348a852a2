/- Proved, in parts: Proved: Printed of the program and of the model answer one plain Lean function, the list in new memory; they write nothing that was there. Condition: texts of at most a million bytes, at most a million copies. -/
import Derived.Test.YtdcdalbbjfjadaaGreatDoorPart18
namespace Go.Proofs.YtdcdalbbjfjadaaGreatDoor
open Go.RowKit
set_option maxRecDepth 20000


set_option maxHeartbeats 4000000 in
theorem implPrinted (name : ByteArray) (owner : Int) (A : Option Addr) (l : List M.Cp) (cap : Nat) (e : M.Ed) (page : ByteArray) (w : World) (hl : Cps w A l) (hn : name.size ≤ 1048576) (hlen : l.length ≤ 1048576) (hp : ∀ c ∈ l, c.page.size ≤ 1048576) (hpg : page.size ≤ 1048576) :
    Calls Tryz.prog 107 #[wkV name owner A l.length cap, edV e, .string page] w fun r w' => WkRet w.heap.size (M.printed ⟨name, owner, l⟩ e page) r w' ∧ Below w.heap.size w w' := by
  have HP := Lib.hid hp
  clear hp
  have hpm : page.size ≤ maxLen := Nat.le_trans hpg (by unfold maxLen; omega)
  have b0 := (((Below.refl w.heap.size w).alloc (Nat.le_refl _) (.cells (wkL name owner A l.length cap) 39)).alloc (by simp) (.cells (edL e) 26)).alloc (by simp; omega) (.cells (wkL ⟨#[]⟩ 0 none 0 0) 39)
  have h0 := ((holds_new w (wkL name owner A l.length cap) 39).alloc (.cells (edL e) 26)).alloc (.cells (wkL ⟨#[]⟩ 0 none 0 0) 39)
  have h1 := (holds_new (w.alloc (.cells (wkL name owner A l.length cap) 39)) (edL e) 26).alloc (.cells (wkL ⟨#[]⟩ 0 none 0 0) 39)
  have h2 := holds_new ((w.alloc (.cells (wkL name owner A l.length cap) 39)).alloc (.cells (edL e) 26)) (wkL ⟨#[]⟩ 0 none 0 0) 39
  have f2 := loose_new ((w.alloc (.cells (wkL name owner A l.length cap) 39)).alloc (.cells (edL e) 26)) (wkL ⟨#[]⟩ 0 none 0 0) 39
  have hl3 := ((hl.alloc (.cells (wkL name owner A l.length cap) 39)).alloc (.cells (edL e) 26)).alloc (.cells (wkL ⟨#[]⟩ 0 none 0 0) 39)
  simp only [World.size_alloc] at h1 h2 f2
  rcases hk : M.wkOk ⟨name, owner, l⟩ with _ | _
  · have HE := Lib.hid (M.printed_bad e page hk)
    have HK := Lib.hid hk
    clear hk
    go_enter Tryz.func107, Tryz.ntmps107
    go_wp2_with fail
    refine (implWorkOk name owner A l cap _ hl3 (Nat.le_trans hn (by unfold maxLen; omega)) hlen (fun c hc => Nat.le_trans (HP.out c hc) (by unfold maxLen; omega))).mono ?_
    rintro r w1 ⟨rfl, b1⟩
    rw [HK.out]
    replace h0 := h0.below b1
    replace h1 := h1.below b1
    replace f2 := f2.below h2.1 b1
    replace h2 := h2.below b1
    replace b0 := next b0 b1
    obtain ⟨p0, p1, p2⟩ := h0.at3
    obtain ⟨q0, q1, q2⟩ := h1.at3
    obtain ⟨r0, r1, r2⟩ := h2.at3
    obtain ⟨s0, s1, s2⟩ := f2.fz3
    have z0 := h0.1
    have z1 := h1.1
    have z2 := h2.1
    clear b1
    go_wp2
    exact bodyPost_ret (results_ipr ⟨#[]⟩ 0 (.slice none 0 0) false (w.heap.size + 1 + 1) _ _ rfl rfl (h2.wr3 _ _ _)) rfl ⟨WkRet.zero _ _ HE.out, far_3 b0 (by omega) _ _ _⟩
  · have HK := Lib.hid hk
    have hr : M.risesB l = true := (M.wkOk_rises hk).1
    rcases M.place_find hr e with ⟨ha, hf, hpl⟩ | ⟨ha, hf⟩
    · have HE := Lib.hid (M.printed_there (w := ⟨name, owner, l⟩) page hk hf)
      have HI := Lib.hid ha
      clear hk hr ha hpl hf
      go_enter Tryz.func107, Tryz.ntmps107
      go_wp2_with fail
      refine (implWorkOk name owner A l cap _ hl3 (Nat.le_trans hn (by unfold maxLen; omega)) hlen (fun c hc => Nat.le_trans (HP.out c hc) (by unfold maxLen; omega))).mono ?_
      rintro r w1 ⟨rfl, b1⟩
      rw [HK.out]
      have hl4 := hl3.below b1
      replace h0 := h0.below b1
      replace h1 := h1.below b1
      replace f2 := f2.below h2.1 b1
      replace h2 := h2.below b1
      replace b0 := next b0 b1
      obtain ⟨p0, p1, p2⟩ := h0.at3
      obtain ⟨q0, q1, q2⟩ := h1.at3
      obtain ⟨r0, r1, r2⟩ := h2.at3
      obtain ⟨s0, s1, s2⟩ := f2.fz3
      have z0 := h0.1
      have z1 := h1.1
      have z2 := h2.1
      clear b1
      go_wp2_with fail
      refine (newWork_any name owner A l cap _ hl4 hn hlen HP.out).mono ?_
      rintro r w9 ⟨A', c', rfl, ho, b9⟩
      have zb9 : w.heap.size + 1 + 1 < w1.heap.size := h2.1
      have hl5 := hl4.below b9
      have b9le := b9.size
      clear p0 p1 p2 q0 q1 q2 r0 r1 r2 s0 s1 s2 z0 z1 z2
      replace h0 := h0.below b9
      replace h1 := h1.below b9
      replace f2 := f2.below h2.1 b9
      replace h2 := h2.below b9
      replace b0 := next b0 b9
      obtain ⟨p0, p1, p2⟩ := h0.at3
      obtain ⟨q0, q1, q2⟩ := h1.at3
      obtain ⟨r0, r1, r2⟩ := h2.at3
      obtain ⟨s0, s1, s2⟩ := f2.fz3
      have z0 := h0.1
      have z1 := h1.1
      have z2 := h2.1
      clear b9
      have ba := (Below.refl w9.heap.size w9).alloc (Nat.le_refl _) (.cells (wkL name owner A' l.length c') 39)
      have h8 := holds_new w9 (wkL name owner A' l.length c') 39
      have f8 := loose_new w9 (wkL name owner A' l.length c') 39
      have ho8 := ho.below ba
      have hl8 := hl5.below ba
      have hlt9 := fun k hk => (ho.lt k hk).2
      have HT := Lib.hid hlt9
      have HT9 := Lib.hid b9le
      clear p0 p1 p2 q0 q1 q2 r0 r1 r2 s0 s1 s2 z0 z1 z2 ho hlt9 b9le
      replace h0 := h0.below ba
      replace h1 := h1.below ba
      replace f2 := f2.below h2.1 ba
      replace h2 := h2.below ba
      replace b0 := next b0 ba
      obtain ⟨p0, p1, p2⟩ := h0.at3
      obtain ⟨q0, q1, q2⟩ := h1.at3
      obtain ⟨r0, r1, r2⟩ := h2.at3
      obtain ⟨s0, s1, s2⟩ := f2.fz3
      have z0 := h0.1
      have z1 := h1.1
      have z2 := h2.1
      clear ba
      have z8 := h8.1
      obtain ⟨m0, m1, m2⟩ := h8.at3
      obtain ⟨n0, n1, n2⟩ := f8.fz3
      go_upto_region 4 with (fail)
      generalize hg10 : w9.alloc (.cells (wkL name owner A' l.length c') 39) = w10 at h0 h1 h2 f2 b0 h8 f8 ho8 hl8 p0 p1 p2 q0 q1 q2 r0 r1 r2 s0 s1 s2 z0 z1 z2 z8 m0 m1 m2 n0 n1 n2 ⊢
      have e10 := Lib.hid (show w10.heap.size = w9.heap.size + 1 by rw [← hg10]; simp)
      clear hg10
      go_upto_region 5 with (fail)
      have bc := (Below.refl w10.heap.size w10).alloc (Nat.le_refl _) (.cells #[.int .i64 e.ma, .int .i64 e.mi, .int .i64 e.pa, .string page, .bool false] 71)
      have h9 := holds_new w10 #[.int .i64 e.ma, .int .i64 e.mi, .int .i64 e.pa, .string page, .bool false] 71
      have hl9 := hl8.below bc
      clear m0 m1 m2 n0 n1 n2 z8
      replace f8 := f8.below h8.1 bc
      replace h8 := h8.below bc
      replace ho8 := ho8.below bc
      clear p0 p1 p2 q0 q1 q2 r0 r1 r2 s0 s1 s2 z0 z1 z2
      replace h0 := h0.below bc
      replace h1 := h1.below bc
      replace f2 := f2.below h2.1 bc
      replace h2 := h2.below bc
      replace b0 := next b0 bc
      obtain ⟨p0, p1, p2⟩ := h0.at3
      obtain ⟨q0, q1, q2⟩ := h1.at3
      obtain ⟨r0, r1, r2⟩ := h2.at3
      obtain ⟨s0, s1, s2⟩ := f2.fz3
      have z0 := h0.1
      have z1 := h1.1
      have z2 := h2.1
      clear bc
      have z8 := h8.1
      obtain ⟨m0, m1, m2⟩ := h8.at3
      obtain ⟨n0, n1, n2⟩ := f8.fz3
      have z9 := h9.1
      obtain ⟨k0, k1, k2, k3, k4⟩ := h9.at5
      go_wp2_with fail
      refine (placeOf_any A l cap e _ hl9 hlen).mono ?_
      rintro r w2 ⟨rfl, b2⟩
      rw [HI.out]
      replace h9 := h9.below b2
      clear m0 m1 m2 n0 n1 n2 z8 z9 k0 k1 k2 k3 k4
      replace f8 := f8.below h8.1 b2
      replace h8 := h8.below b2
      replace ho8 := ho8.below b2
      clear p0 p1 p2 q0 q1 q2 r0 r1 r2 s0 s1 s2 z0 z1 z2
      replace h0 := h0.below b2
      replace h1 := h1.below b2
      replace f2 := f2.below h2.1 b2
      replace h2 := h2.below b2
      replace b0 := next b0 b2
      obtain ⟨p0, p1, p2⟩ := h0.at3
      obtain ⟨q0, q1, q2⟩ := h1.at3
      obtain ⟨r0, r1, r2⟩ := h2.at3
      obtain ⟨s0, s1, s2⟩ := f2.fz3
      have z0 := h0.1
      have z1 := h1.1
      have z2 := h2.1
      clear b2
      have z8 := h8.1
      obtain ⟨m0, m1, m2⟩ := h8.at3
      obtain ⟨n0, n1, n2⟩ := f8.fz3
      have z9 := h9.1
      obtain ⟨k0, k1, k2, k3, k4⟩ := h9.at5
      have HO := Lib.hid ho8
      clear ho8
      go_wp2
      exact bodyPost_ret (results_ipr name owner (.slice A' l.length c') false (w.heap.size + 1 + 1) _ _ rfl rfl (h2.wr3 _ _ _)) rfl ⟨WkRet.mk' HE.out ((((HO.out.off zb9 _).off zb9 _).off zb9 _).mono (by omega)), far_3 b0 (by omega) _ _ _⟩
    · have HI := Lib.hid ha
      rcases hc : M.cpOk ⟨e, page, false⟩ with _ | _
      · have HE := Lib.hid (M.printed_wrong (w := ⟨name, owner, l⟩) hk hc)
        have HC := Lib.hid hc
        clear hk hr ha hf hc
        go_enter Tryz.func107, Tryz.ntmps107
        go_wp2_with fail
        refine (implWorkOk name owner A l cap _ hl3 (Nat.le_trans hn (by unfold maxLen; omega)) hlen (fun c hc => Nat.le_trans (HP.out c hc) (by unfold maxLen; omega))).mono ?_
        rintro r w1 ⟨rfl, b1⟩
        rw [HK.out]
        have hl4 := hl3.below b1
        replace h0 := h0.below b1
        replace h1 := h1.below b1
        replace f2 := f2.below h2.1 b1
        replace h2 := h2.below b1
        replace b0 := next b0 b1
        obtain ⟨p0, p1, p2⟩ := h0.at3
        obtain ⟨q0, q1, q2⟩ := h1.at3
        obtain ⟨r0, r1, r2⟩ := h2.at3
        obtain ⟨s0, s1, s2⟩ := f2.fz3
        have z0 := h0.1
        have z1 := h1.1
        have z2 := h2.1
        clear b1
        go_wp2_with fail
        refine (newWork_any name owner A l cap _ hl4 hn hlen HP.out).mono ?_
        rintro r w9 ⟨A', c', rfl, ho, b9⟩
        have zb9 : w.heap.size + 1 + 1 < w1.heap.size := h2.1
        have hl5 := hl4.below b9
        have b9le := b9.size
        clear p0 p1 p2 q0 q1 q2 r0 r1 r2 s0 s1 s2 z0 z1 z2
        replace h0 := h0.below b9
        replace h1 := h1.below b9
        replace f2 := f2.below h2.1 b9
        replace h2 := h2.below b9
        replace b0 := next b0 b9
        obtain ⟨p0, p1, p2⟩ := h0.at3
        obtain ⟨q0, q1, q2⟩ := h1.at3
        obtain ⟨r0, r1, r2⟩ := h2.at3
        obtain ⟨s0, s1, s2⟩ := f2.fz3
        have z0 := h0.1
        have z1 := h1.1
        have z2 := h2.1
        clear b9
        have ba := (Below.refl w9.heap.size w9).alloc (Nat.le_refl _) (.cells (wkL name owner A' l.length c') 39)
        have h8 := holds_new w9 (wkL name owner A' l.length c') 39
        have f8 := loose_new w9 (wkL name owner A' l.length c') 39
        have ho8 := ho.below ba
        have hl8 := hl5.below ba
        have hlt9 := fun k hk => (ho.lt k hk).2
        have HT := Lib.hid hlt9
        have HT9 := Lib.hid b9le
        clear p0 p1 p2 q0 q1 q2 r0 r1 r2 s0 s1 s2 z0 z1 z2 ho hlt9 b9le
        replace h0 := h0.below ba
        replace h1 := h1.below ba
        replace f2 := f2.below h2.1 ba
        replace h2 := h2.below ba
        replace b0 := next b0 ba
        obtain ⟨p0, p1, p2⟩ := h0.at3
        obtain ⟨q0, q1, q2⟩ := h1.at3
        obtain ⟨r0, r1, r2⟩ := h2.at3
        obtain ⟨s0, s1, s2⟩ := f2.fz3
        have z0 := h0.1
        have z1 := h1.1
        have z2 := h2.1
        clear ba
        have z8 := h8.1
        obtain ⟨m0, m1, m2⟩ := h8.at3
        obtain ⟨n0, n1, n2⟩ := f8.fz3
        go_upto_region 4 with (fail)
        generalize hg10 : w9.alloc (.cells (wkL name owner A' l.length c') 39) = w10 at h0 h1 h2 f2 b0 h8 f8 ho8 hl8 p0 p1 p2 q0 q1 q2 r0 r1 r2 s0 s1 s2 z0 z1 z2 z8 m0 m1 m2 n0 n1 n2 ⊢
        have e10 := Lib.hid (show w10.heap.size = w9.heap.size + 1 by rw [← hg10]; simp)
        clear hg10
        go_upto_region 5 with (fail)
        have bc := (Below.refl w10.heap.size w10).alloc (Nat.le_refl _) (.cells #[.int .i64 e.ma, .int .i64 e.mi, .int .i64 e.pa, .string page, .bool false] 71)
        have h9 := holds_new w10 #[.int .i64 e.ma, .int .i64 e.mi, .int .i64 e.pa, .string page, .bool false] 71
        have hl9 := hl8.below bc
        clear m0 m1 m2 n0 n1 n2 z8
        replace f8 := f8.below h8.1 bc
        replace h8 := h8.below bc
        replace ho8 := ho8.below bc
        clear p0 p1 p2 q0 q1 q2 r0 r1 r2 s0 s1 s2 z0 z1 z2
        replace h0 := h0.below bc
        replace h1 := h1.below bc
        replace f2 := f2.below h2.1 bc
        replace h2 := h2.below bc
        replace b0 := next b0 bc
        obtain ⟨p0, p1, p2⟩ := h0.at3
        obtain ⟨q0, q1, q2⟩ := h1.at3
        obtain ⟨r0, r1, r2⟩ := h2.at3
        obtain ⟨s0, s1, s2⟩ := f2.fz3
        have z0 := h0.1
        have z1 := h1.1
        have z2 := h2.1
        clear bc
        have z8 := h8.1
        obtain ⟨m0, m1, m2⟩ := h8.at3
        obtain ⟨n0, n1, n2⟩ := f8.fz3
        have z9 := h9.1
        obtain ⟨k0, k1, k2, k3, k4⟩ := h9.at5
        go_wp2_with fail
        refine (placeOf_any A l cap e _ hl9 hlen).mono ?_
        rintro r w2 ⟨rfl, b2⟩
        rw [HI.out]
        replace h9 := h9.below b2
        clear m0 m1 m2 n0 n1 n2 z8 z9 k0 k1 k2 k3 k4
        replace f8 := f8.below h8.1 b2
        replace h8 := h8.below b2
        replace ho8 := ho8.below b2
        clear p0 p1 p2 q0 q1 q2 r0 r1 r2 s0 s1 s2 z0 z1 z2
        replace h0 := h0.below b2
        replace h1 := h1.below b2
        replace f2 := f2.below h2.1 b2
        replace h2 := h2.below b2
        replace b0 := next b0 b2
        obtain ⟨p0, p1, p2⟩ := h0.at3
        obtain ⟨q0, q1, q2⟩ := h1.at3
        obtain ⟨r0, r1, r2⟩ := h2.at3
        obtain ⟨s0, s1, s2⟩ := f2.fz3
        have z0 := h0.1
        have z1 := h1.1
        have z2 := h2.1
        clear b2
        have z8 := h8.1
        obtain ⟨m0, m1, m2⟩ := h8.at3
        obtain ⟨n0, n1, n2⟩ := f8.fz3
        have z9 := h9.1
        obtain ⟨k0, k1, k2, k3, k4⟩ := h9.at5
        have HO := Lib.hid ho8
        clear ho8
        go_wp2_with fail
        refine (copyOk_any ⟨e, page, false⟩ _ hpm).mono ?_
        rintro r w3 ⟨rfl, b3⟩
        rw [HC.out]
        have ho8 := HO.out
        clear HO
        replace h9 := h9.below b3
        clear m0 m1 m2 n0 n1 n2 z8 z9 k0 k1 k2 k3 k4
        replace f8 := f8.below h8.1 b3
        replace h8 := h8.below b3
        replace ho8 := ho8.below b3
        clear p0 p1 p2 q0 q1 q2 r0 r1 r2 s0 s1 s2 z0 z1 z2
        replace h0 := h0.below b3
        replace h1 := h1.below b3
        replace f2 := f2.below h2.1 b3
        replace h2 := h2.below b3
        replace b0 := next b0 b3
        obtain ⟨p0, p1, p2⟩ := h0.at3
        obtain ⟨q0, q1, q2⟩ := h1.at3
        obtain ⟨r0, r1, r2⟩ := h2.at3
        obtain ⟨s0, s1, s2⟩ := f2.fz3
        have z0 := h0.1
        have z1 := h1.1
        have z2 := h2.1
        clear b3
        have z8 := h8.1
        obtain ⟨m0, m1, m2⟩ := h8.at3
        obtain ⟨n0, n1, n2⟩ := f8.fz3
        have z9 := h9.1
        obtain ⟨k0, k1, k2, k3, k4⟩ := h9.at5
        have HO := Lib.hid ho8
        clear ho8
        go_wp2
        exact bodyPost_ret (results_ipr name owner (.slice A' l.length c') false (w.heap.size + 1 + 1) _ _ rfl rfl (h2.wr3 _ _ _)) rfl ⟨WkRet.mk' HE.out ((((HO.out.off zb9 _).off zb9 _).off zb9 _).mono (by omega)), far_3 b0 (by omega) _ _ _⟩
      · by_cases h8 : l.length = 8
        · have HE := Lib.hid (M.printed_full (w := ⟨name, owner, l⟩) (e := e) page hk h8)
          have HC := Lib.hid hc
          have h8' : ((l.length : Int) == 8) = true := by simp; omega
          clear hk hr ha hf hc h8
          go_enter Tryz.func107, Tryz.ntmps107
          go_wp2_with fail
          refine (implWorkOk name owner A l cap _ hl3 (Nat.le_trans hn (by unfold maxLen; omega)) hlen (fun c hc => Nat.le_trans (HP.out c hc) (by unfold maxLen; omega))).mono ?_
          rintro r w1 ⟨rfl, b1⟩
          rw [HK.out]
          have hl4 := hl3.below b1
          replace h0 := h0.below b1
          replace h1 := h1.below b1
          replace f2 := f2.below h2.1 b1
          replace h2 := h2.below b1
          replace b0 := next b0 b1
          obtain ⟨p0, p1, p2⟩ := h0.at3
          obtain ⟨q0, q1, q2⟩ := h1.at3
          obtain ⟨r0, r1, r2⟩ := h2.at3
          obtain ⟨s0, s1, s2⟩ := f2.fz3
          have z0 := h0.1
          have z1 := h1.1
          have z2 := h2.1
          clear b1
          go_wp2_with fail
          refine (newWork_any name owner A l cap _ hl4 hn hlen HP.out).mono ?_
          rintro r w9 ⟨A', c', rfl, ho, b9⟩
          have zb9 : w.heap.size + 1 + 1 < w1.heap.size := h2.1
          have hl5 := hl4.below b9
          have b9le := b9.size
          clear p0 p1 p2 q0 q1 q2 r0 r1 r2 s0 s1 s2 z0 z1 z2
          replace h0 := h0.below b9
          replace h1 := h1.below b9
          replace f2 := f2.below h2.1 b9
          replace h2 := h2.below b9
          replace b0 := next b0 b9
          obtain ⟨p0, p1, p2⟩ := h0.at3
          obtain ⟨q0, q1, q2⟩ := h1.at3
          obtain ⟨r0, r1, r2⟩ := h2.at3
          obtain ⟨s0, s1, s2⟩ := f2.fz3
          have z0 := h0.1
          have z1 := h1.1
          have z2 := h2.1
          clear b9
          have ba := (Below.refl w9.heap.size w9).alloc (Nat.le_refl _) (.cells (wkL name owner A' l.length c') 39)
          have h8 := holds_new w9 (wkL name owner A' l.length c') 39
          have f8 := loose_new w9 (wkL name owner A' l.length c') 39
          have ho8 := ho.below ba
          have hl8 := hl5.below ba
          have hlt9 := fun k hk => (ho.lt k hk).2
          have HT := Lib.hid hlt9
          have HT9 := Lib.hid b9le
          clear p0 p1 p2 q0 q1 q2 r0 r1 r2 s0 s1 s2 z0 z1 z2 ho hlt9 b9le
          replace h0 := h0.below ba
          replace h1 := h1.below ba
          replace f2 := f2.below h2.1 ba
          replace h2 := h2.below ba
          replace b0 := next b0 ba
          obtain ⟨p0, p1, p2⟩ := h0.at3
          obtain ⟨q0, q1, q2⟩ := h1.at3
          obtain ⟨r0, r1, r2⟩ := h2.at3
          obtain ⟨s0, s1, s2⟩ := f2.fz3
          have z0 := h0.1
          have z1 := h1.1
          have z2 := h2.1
          clear ba
          have z8 := h8.1
          obtain ⟨m0, m1, m2⟩ := h8.at3
          obtain ⟨n0, n1, n2⟩ := f8.fz3
          go_upto_region 4 with (fail)
          generalize hg10 : w9.alloc (.cells (wkL name owner A' l.length c') 39) = w10 at h0 h1 h2 f2 b0 h8 f8 ho8 hl8 p0 p1 p2 q0 q1 q2 r0 r1 r2 s0 s1 s2 z0 z1 z2 z8 m0 m1 m2 n0 n1 n2 ⊢
          have e10 := Lib.hid (show w10.heap.size = w9.heap.size + 1 by rw [← hg10]; simp)
          clear hg10
          go_upto_region 5 with (fail)
          have bc := (Below.refl w10.heap.size w10).alloc (Nat.le_refl _) (.cells #[.int .i64 e.ma, .int .i64 e.mi, .int .i64 e.pa, .string page, .bool false] 71)
          have h9 := holds_new w10 #[.int .i64 e.ma, .int .i64 e.mi, .int .i64 e.pa, .string page, .bool false] 71
          have hl9 := hl8.below bc
          clear m0 m1 m2 n0 n1 n2 z8
          replace f8 := f8.below h8.1 bc
          replace h8 := h8.below bc
          replace ho8 := ho8.below bc
          clear p0 p1 p2 q0 q1 q2 r0 r1 r2 s0 s1 s2 z0 z1 z2
          replace h0 := h0.below bc
          replace h1 := h1.below bc
          replace f2 := f2.below h2.1 bc
          replace h2 := h2.below bc
          replace b0 := next b0 bc
          obtain ⟨p0, p1, p2⟩ := h0.at3
          obtain ⟨q0, q1, q2⟩ := h1.at3
          obtain ⟨r0, r1, r2⟩ := h2.at3
          obtain ⟨s0, s1, s2⟩ := f2.fz3
          have z0 := h0.1
          have z1 := h1.1
          have z2 := h2.1
          clear bc
          have z8 := h8.1
          obtain ⟨m0, m1, m2⟩ := h8.at3
          obtain ⟨n0, n1, n2⟩ := f8.fz3
          have z9 := h9.1
          obtain ⟨k0, k1, k2, k3, k4⟩ := h9.at5
          go_wp2_with fail
          refine (placeOf_any A l cap e _ hl9 hlen).mono ?_
          rintro r w2 ⟨rfl, b2⟩
          rw [HI.out]
          replace h9 := h9.below b2
          clear m0 m1 m2 n0 n1 n2 z8 z9 k0 k1 k2 k3 k4
          replace f8 := f8.below h8.1 b2
          replace h8 := h8.below b2
          replace ho8 := ho8.below b2
          clear p0 p1 p2 q0 q1 q2 r0 r1 r2 s0 s1 s2 z0 z1 z2
          replace h0 := h0.below b2
          replace h1 := h1.below b2
          replace f2 := f2.below h2.1 b2
          replace h2 := h2.below b2
          replace b0 := next b0 b2
          obtain ⟨p0, p1, p2⟩ := h0.at3
          obtain ⟨q0, q1, q2⟩ := h1.at3
          obtain ⟨r0, r1, r2⟩ := h2.at3
          obtain ⟨s0, s1, s2⟩ := f2.fz3
          have z0 := h0.1
          have z1 := h1.1
          have z2 := h2.1
          clear b2
          have z8 := h8.1
          obtain ⟨m0, m1, m2⟩ := h8.at3
          obtain ⟨n0, n1, n2⟩ := f8.fz3
          have z9 := h9.1
          obtain ⟨k0, k1, k2, k3, k4⟩ := h9.at5
          have HO := Lib.hid ho8
          clear ho8
          go_wp2_with fail
          refine (copyOk_any ⟨e, page, false⟩ _ hpm).mono ?_
          rintro r w3 ⟨rfl, b3⟩
          rw [HC.out]
          have ho8 := HO.out
          clear HO
          replace h9 := h9.below b3
          clear m0 m1 m2 n0 n1 n2 z8 z9 k0 k1 k2 k3 k4
          replace f8 := f8.below h8.1 b3
          replace h8 := h8.below b3
          replace ho8 := ho8.below b3
          clear p0 p1 p2 q0 q1 q2 r0 r1 r2 s0 s1 s2 z0 z1 z2
          replace h0 := h0.below b3
          replace h1 := h1.below b3
          replace f2 := f2.below h2.1 b3
          replace h2 := h2.below b3
          replace b0 := next b0 b3
          obtain ⟨p0, p1, p2⟩ := h0.at3
          obtain ⟨q0, q1, q2⟩ := h1.at3
          obtain ⟨r0, r1, r2⟩ := h2.at3
          obtain ⟨s0, s1, s2⟩ := f2.fz3
          have z0 := h0.1
          have z1 := h1.1
          have z2 := h2.1
          clear b3
          have z8 := h8.1
          obtain ⟨m0, m1, m2⟩ := h8.at3
          obtain ⟨n0, n1, n2⟩ := f8.fz3
          have z9 := h9.1
          obtain ⟨k0, k1, k2, k3, k4⟩ := h9.at5
          have HO := Lib.hid ho8
          clear ho8
          go_wp2
          exact bodyPost_ret (results_ipr name owner (.slice A' l.length c') false (w.heap.size + 1 + 1) _ _ rfl rfl (h2.wr3 _ _ _)) rfl ⟨WkRet.mk' HE.out ((((HO.out.off zb9 _).off zb9 _).off zb9 _).mono (by omega)), far_3 b0 (by omega) _ _ _⟩
        · have HE := Lib.hid (M.printed_put (w := ⟨name, owner, l⟩) hk hf hc h8)
          have HC := Lib.hid hc
          have h8' : ((l.length : Int) == 8) = false := by simp; omega
          have hple := M.place_le l e
          clear hk hr ha hf hc h8
          go_enter Tryz.func107, Tryz.ntmps107
          go_wp2_with fail
          refine (implWorkOk name owner A l cap _ hl3 (Nat.le_trans hn (by unfold maxLen; omega)) hlen (fun c hc => Nat.le_trans (HP.out c hc) (by unfold maxLen; omega))).mono ?_
          rintro r w1 ⟨rfl, b1⟩
          rw [HK.out]
          have hl4 := hl3.below b1
          replace h0 := h0.below b1
          replace h1 := h1.below b1
          replace f2 := f2.below h2.1 b1
          replace h2 := h2.below b1
          replace b0 := next b0 b1
          obtain ⟨p0, p1, p2⟩ := h0.at3
          obtain ⟨q0, q1, q2⟩ := h1.at3
          obtain ⟨r0, r1, r2⟩ := h2.at3
          obtain ⟨s0, s1, s2⟩ := f2.fz3
          have z0 := h0.1
          have z1 := h1.1
          have z2 := h2.1
          clear b1
          go_wp2_with fail
          refine (newWork_any name owner A l cap _ hl4 hn hlen HP.out).mono ?_
          rintro r w9 ⟨A', c', rfl, ho, b9⟩
          have zb9 : w.heap.size + 1 + 1 < w1.heap.size := h2.1
          have hl5 := hl4.below b9
          have b9le := b9.size
          clear p0 p1 p2 q0 q1 q2 r0 r1 r2 s0 s1 s2 z0 z1 z2
          replace h0 := h0.below b9
          replace h1 := h1.below b9
          replace f2 := f2.below h2.1 b9
          replace h2 := h2.below b9
          replace b0 := next b0 b9
          obtain ⟨p0, p1, p2⟩ := h0.at3
          obtain ⟨q0, q1, q2⟩ := h1.at3
          obtain ⟨r0, r1, r2⟩ := h2.at3
          obtain ⟨s0, s1, s2⟩ := f2.fz3
          have z0 := h0.1
          have z1 := h1.1
          have z2 := h2.1
          clear b9
          have ba := (Below.refl w9.heap.size w9).alloc (Nat.le_refl _) (.cells (wkL name owner A' l.length c') 39)
          have h8 := holds_new w9 (wkL name owner A' l.length c') 39
          have f8 := loose_new w9 (wkL name owner A' l.length c') 39
          have ho8 := ho.below ba
          have hl8 := hl5.below ba
          have hlt9 := fun k hk => (ho.lt k hk).2
          have HT := Lib.hid hlt9
          have HT9 := Lib.hid b9le
          clear p0 p1 p2 q0 q1 q2 r0 r1 r2 s0 s1 s2 z0 z1 z2 ho hlt9 b9le
          replace h0 := h0.below ba
          replace h1 := h1.below ba
          replace f2 := f2.below h2.1 ba
          replace h2 := h2.below ba
          replace b0 := next b0 ba
          obtain ⟨p0, p1, p2⟩ := h0.at3
          obtain ⟨q0, q1, q2⟩ := h1.at3
          obtain ⟨r0, r1, r2⟩ := h2.at3
          obtain ⟨s0, s1, s2⟩ := f2.fz3
          have z0 := h0.1
          have z1 := h1.1
          have z2 := h2.1
          clear ba
          have z8 := h8.1
          obtain ⟨m0, m1, m2⟩ := h8.at3
          obtain ⟨n0, n1, n2⟩ := f8.fz3
          go_upto_region 4 with (fail)
          generalize hg10 : w9.alloc (.cells (wkL name owner A' l.length c') 39) = w10 at h0 h1 h2 f2 b0 h8 f8 ho8 hl8 p0 p1 p2 q0 q1 q2 r0 r1 r2 s0 s1 s2 z0 z1 z2 z8 m0 m1 m2 n0 n1 n2 ⊢
          have e10 := Lib.hid (show w10.heap.size = w9.heap.size + 1 by rw [← hg10]; simp)
          clear hg10
          go_upto_region 5 with (fail)
          have bc := (Below.refl w10.heap.size w10).alloc (Nat.le_refl _) (.cells #[.int .i64 e.ma, .int .i64 e.mi, .int .i64 e.pa, .string page, .bool false] 71)
          have h9 := holds_new w10 #[.int .i64 e.ma, .int .i64 e.mi, .int .i64 e.pa, .string page, .bool false] 71
          have hl9 := hl8.below bc
          clear m0 m1 m2 n0 n1 n2 z8
          replace f8 := f8.below h8.1 bc
          replace h8 := h8.below bc
          replace ho8 := ho8.below bc
          clear p0 p1 p2 q0 q1 q2 r0 r1 r2 s0 s1 s2 z0 z1 z2
          replace h0 := h0.below bc
          replace h1 := h1.below bc
          replace f2 := f2.below h2.1 bc
          replace h2 := h2.below bc
          replace b0 := next b0 bc
          obtain ⟨p0, p1, p2⟩ := h0.at3
          obtain ⟨q0, q1, q2⟩ := h1.at3
          obtain ⟨r0, r1, r2⟩ := h2.at3
          obtain ⟨s0, s1, s2⟩ := f2.fz3
          have z0 := h0.1
          have z1 := h1.1
          have z2 := h2.1
          clear bc
          have z8 := h8.1
          obtain ⟨m0, m1, m2⟩ := h8.at3
          obtain ⟨n0, n1, n2⟩ := f8.fz3
          have z9 := h9.1
          obtain ⟨k0, k1, k2, k3, k4⟩ := h9.at5
          go_wp2_with fail
          refine (placeOf_any A l cap e _ hl9 hlen).mono ?_
          rintro r w2 ⟨rfl, b2⟩
          rw [HI.out]
          replace h9 := h9.below b2
          clear m0 m1 m2 n0 n1 n2 z8 z9 k0 k1 k2 k3 k4
          replace f8 := f8.below h8.1 b2
          replace h8 := h8.below b2
          replace ho8 := ho8.below b2
          clear p0 p1 p2 q0 q1 q2 r0 r1 r2 s0 s1 s2 z0 z1 z2
          replace h0 := h0.below b2
          replace h1 := h1.below b2
          replace f2 := f2.below h2.1 b2
          replace h2 := h2.below b2
          replace b0 := next b0 b2
          obtain ⟨p0, p1, p2⟩ := h0.at3
          obtain ⟨q0, q1, q2⟩ := h1.at3
          obtain ⟨r0, r1, r2⟩ := h2.at3
          obtain ⟨s0, s1, s2⟩ := f2.fz3
          have z0 := h0.1
          have z1 := h1.1
          have z2 := h2.1
          clear b2
          have z8 := h8.1
          obtain ⟨m0, m1, m2⟩ := h8.at3
          obtain ⟨n0, n1, n2⟩ := f8.fz3
          have z9 := h9.1
          obtain ⟨k0, k1, k2, k3, k4⟩ := h9.at5
          have HO := Lib.hid ho8
          clear ho8
          go_wp2_with fail
          refine (copyOk_any ⟨e, page, false⟩ _ hpm).mono ?_
          rintro r w3 ⟨rfl, b3⟩
          rw [HC.out]
          have ho8 := HO.out
          clear HO
          replace h9 := h9.below b3
          clear m0 m1 m2 n0 n1 n2 z8 z9 k0 k1 k2 k3 k4
          replace f8 := f8.below h8.1 b3
          replace h8 := h8.below b3
          replace ho8 := ho8.below b3
          clear p0 p1 p2 q0 q1 q2 r0 r1 r2 s0 s1 s2 z0 z1 z2
          replace h0 := h0.below b3
          replace h1 := h1.below b3
          replace f2 := f2.below h2.1 b3
          replace h2 := h2.below b3
          replace b0 := next b0 b3
          obtain ⟨p0, p1, p2⟩ := h0.at3
          obtain ⟨q0, q1, q2⟩ := h1.at3
          obtain ⟨r0, r1, r2⟩ := h2.at3
          obtain ⟨s0, s1, s2⟩ := f2.fz3
          have z0 := h0.1
          have z1 := h1.1
          have z2 := h2.1
          clear b3
          have z8 := h8.1
          obtain ⟨m0, m1, m2⟩ := h8.at3
          obtain ⟨n0, n1, n2⟩ := f8.fz3
          have z9 := h9.1
          obtain ⟨k0, k1, k2, k3, k4⟩ := h9.at5
          have hcp := ho8.cps.1
          have hnc := ho8.nilc
          have hcc := own_cap ho8
          have HO := Lib.hid (show _ ∧ _ ∧ _ from ⟨hcp, hnc, hcc⟩)
          have HZ9 := Lib.hid (show w9.heap.size ≠ w10.heap.size by have := e10.out; omega)
          have HW : Hid (w.heap.size + 1 + 1 < w9.heap.size) := Lib.hid (by have := zb9; have := HT9.out; omega)
          clear hcp hnc hcc ho8
          go_upto_region 8 with (fail)
          refine wp_region_tq (fun x => Below w.heap.size w x ∧ Holds x w10.heap.size #[.int .i64 e.ma, .int .i64 e.mi, .int .i64 e.pa, .string page, .bool false]) (.read 0 (.read 2 (.read 3 (.two 1 4 (.one 4 (.one 5 (.read 6 (.one 7 .done)))) (.one 1 (.one 5 (.read 6 (.one 7 .done)))))))) (by kernel_rfl) (by kernel_rfl) (fun _ _ _ _ _ h => h) (by kernel_rfl) (by decide) ⟨b0.drew, h9⟩ ?_
          intro hHeld
          generalize hgd : w3.drew = wd at hHeld ⊢
          have hcq := HO.out.1.drew
          replace h8 : Holds w3.drew _ _ := h8
          replace f8 : Loose w3.drew _ := f8
          replace h2 : Holds w3.drew _ _ := h2
          replace f2 : Loose w3.drew _ := f2
          rw [hgd] at hcq h8 f8 h2 f2
          clear hgd m0 m1 m2 n0 n1 n2 r0 r1 r2 s0 s1 s2
          repeat (first
            | (refine tq_reads (by simp only [List.getElem?_toArray, List.getElem?_cons_succ, List.getElem?_cons_zero]; first | done | rfl) (by rfl) ?_; apply Exists.intro; apply And.intro; (focus (intro w hSw; obtain ⟨k0, k1, k2, k3, k4⟩ := hSw.2.at5; go_simp; (try with_reducible rfl); done)); (try simp only [Act.put, List.setIfInBounds_toArray, List.set_cons_zero, List.set_cons_succ]))
            | (refine tq_two ?_ ?_)
            | (refine tq_three ?_ ?_ ?_)
            | (refine tq_one (by simp only [List.getElem?_toArray, List.getElem?_cons_succ, List.getElem?_cons_zero]; first | done | rfl) (by rfl) (fun K hK => ?_); go_simp; go_at_call 59; refine (newCopy_any ⟨e, page, false⟩ _ hpg).mono ?_; rintro r w1 ⟨rfl, b1⟩; go_simp; refine hK.out _ _ _ (fun _ h => h) ⟨next hHeld.1 b1, hHeld.2.below b1⟩ ?_; clear hK hHeld; intro hHeld; replace f2 := f2.below h2.1 b1; replace h2 := h2.below b1; replace f8 := f8.below h8.1 b1; replace h8 := h8.below b1; have hcq := hcq.below b1; (try simp only [Act.put, List.setIfInBounds_toArray, List.set_cons_zero, List.set_cons_succ]))
            | (refine tq_one (by simp only [List.getElem?_toArray, List.getElem?_cons_succ, List.getElem?_cons_zero]; first | done | rfl) (by rfl) (fun K hK => ?_); go_simp; go_at_call 122; refine (with_any A' l c' (M.place l e) ⟨e, page, false⟩ _ hcq HO.out.2.1 HO.out.2.2 hple hlen).mono ?_; rintro r w1 ⟨A2, c2, rfl, ho, b1⟩; go_simp; refine hK.out _ _ _ (fun _ h => h) ⟨next hHeld.1 b1, hHeld.2.below b1⟩ ?_; clear hK hHeld; intro hHeld; have hzw := Nat.lt_of_lt_of_le h8.1 (Nat.le_refl _); replace f2 := f2.below h2.1 b1; replace h2 := h2.below b1; replace f8 := f8.below h8.1 b1; replace h8 := h8.below b1; have HO2 := Lib.hid ho; clear ho; (try simp only [Act.put, List.setIfInBounds_toArray, List.set_cons_zero, List.set_cons_succ]))
            | (refine tq_one (by simp only [List.getElem?_toArray, List.getElem?_cons_succ, List.getElem?_cons_zero]; first | done | rfl) (by rfl) (fun K hK => ?_); obtain ⟨y0, y1, y2⟩ := f8.fz3; obtain ⟨x0, x1, x2⟩ := h8.at3; go_simp; refine hK.out _ _ _ (fun _ h => h) (by first | exact ⟨farM hHeld.1 (by have := HW.out; omega) _ _, hHeld.2.otherM (fun h => HZ9.out h.symm)⟩ | exact hHeld) ?_; clear hK hHeld; intro hHeld; (try simp only [Act.put, List.setIfInBounds_toArray, List.set_cons_zero, List.set_cons_succ]))
            | (refine tq_end ?_; obtain ⟨y0, y1, y2⟩ := f8.fz3; obtain ⟨x0, x1, x2⟩ := h8.at3; obtain ⟨r0, r1, r2⟩ := h2.at3; obtain ⟨s0, s1, s2⟩ := f2.fz3; have zz2 := h2.1; have hw9 := HW.out; have en1 : ¬ (w9.heap.size = w.heap.size + 1 + 1) := (by omega); have en2 : ¬ (w.heap.size + 1 + 1 = w9.heap.size) := (by omega); go_wp2; exact bodyPost_ret (results_ipr name owner (.slice A2 (l.length + 1) c2) true (w.heap.size + 1 + 1) _ _ rfl rfl ((h2.otherM en2).wr3 _ _ _)) rfl ⟨WkRet.mk2 HE.out (M.putAt_len _ _ _ hple) (((((HO2.out.off hzw _).off (Nat.lt_trans hw9 hzw) _).off (Nat.lt_trans hw9 hzw) _).off (Nat.lt_trans hw9 hzw) _).mono (by omega)), far_3 hHeld.1 (by omega) _ _ _⟩))

end Go.Proofs.YtdcdalbbjfjadaaGreatDoor
