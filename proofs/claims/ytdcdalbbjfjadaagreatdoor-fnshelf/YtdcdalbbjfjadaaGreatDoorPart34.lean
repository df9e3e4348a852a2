/- Proved, in parts: Proved: Printed of the model answers one plain Lean function, the list in new memory; it writes nothing that was there. Condition: texts of at most a million bytes, at most a million copies. -/
import Derived.Test.YtdcdalbbjfjadaaGreatDoorPart19
import Derived.Deep.CutBlock
namespace Go.Proofs.YtdcdalbbjfjadaaGreatDoor
open Go.RowKit
set_option maxRecDepth 20000

/-- s is a slice of the copies from place k on, in new memory; nothing old has changed. -/
def RestAt (W0 : World) (l : List M.Cp) (k : Nat) (s : Value) (wx : World) : Prop :=
  ∃ Ar cr, s = .slice Ar (l.length - k) cr ∧ CpOwn W0.heap.size wx (.slice Ar (l.length - k) cr) (l.drop k) ∧ Below W0.heap.size W0 wx
theorem own_cutO {B : Nat} {w : World} {A : Option Addr} {n c k : Nat} {l : List M.Cp} (h : CpOwn B w (.slice A n c) l) (hk : k ≤ l.length) : CpOwn B w (.slice A k c) (l.take k) := by
  have hn := h.cps.2
  subst hn
  unfold CpOwn
  rw [List.length_take, Nat.min_eq_left hk]
  obtain ⟨hl, ⟨h0, hn⟩ | ⟨g, cap, cur, hv, hr⟩⟩ := h
  · have : l = [] := List.length_eq_zero_iff.1 hn
    subst this
    have hk0 : k = 0 := by simpa using hk
    subst hk0
    injection h0 with hA _ hc
    subst hA hc
    exact World.ownsRow_nil _ _ _ _
  · injection hv with hA _ hc
    subst hA hc
    have := own_cut (m := k) (show w.ownsRow B 71 5 (.slice (some ⟨g, 0, none⟩) l.length c) l.length (cellsOf cpL l) from ⟨hl, .inr ⟨g, c, cur, rfl, hr⟩⟩) hk
    rw [cellsOf_take cpL_len] at this
    exact this
theorem hold_flat {w : World} {g : Nat} {c : M.Cp} (h : Holds w g #[.int .i64 c.ed.ma, .int .i64 c.ed.mi, .int .i64 c.ed.pa, .string c.page, .bool c.hidden]) : Cps w (some ⟨g, 0, none⟩) [c] := by
  refine .inr ⟨g, 0, rfl, h.1, fun i t' x u hi hu => ?_⟩
  rcases i with _ | i
  · simp at hi
    subst hi
    rw [Nat.zero_mul, Nat.add_zero, Nat.zero_add]
    exact h.2 t' u (by simpa using hu)
  · simp at hi


set_option maxHeartbeats 8000000 in
theorem specPrinted (name : ByteArray) (owner : Int) (A : Option Addr) (l : List M.Cp) (cap : Nat) (e : M.Ed) (page : ByteArray) (w : World) (hl : Cps w A l) (hA : A = none → cap = 0) (hcap : l.length ≤ cap) (hn : name.size ≤ 1048576) (hlen : l.length ≤ 1048576) (hp : ∀ c ∈ l, c.page.size ≤ 1048576) (hpg : page.size ≤ 1048576) :
    Calls Tryz.prog 66 #[wkV name owner A l.length cap, edV e, .string page] w fun r w' => WkRet w.heap.size (M.printed ⟨name, owner, l⟩ e page) r w' ∧ Below w.heap.size w w' := by
  have HP := Lib.hid hp
  have HA := Lib.hid hA
  clear hp hA
  have hpm : page.size ≤ maxLen := Nat.le_trans hpg (by unfold maxLen; omega)
  have b0 := (((Below.refl w.heap.size w).alloc (Nat.le_refl _) (.cells (wkL name owner A l.length cap) 39)).alloc (by simp) (.cells (edL e) 26)).alloc (by simp; omega) (.cells (wkL ⟨#[]⟩ 0 none 0 0) 39)
  have h0 := ((holds_new w (wkL name owner A l.length cap) 39).alloc (.cells (edL e) 26)).alloc (.cells (wkL ⟨#[]⟩ 0 none 0 0) 39)
  have h1 := (holds_new (w.alloc (.cells (wkL name owner A l.length cap) 39)) (edL e) 26).alloc (.cells (wkL ⟨#[]⟩ 0 none 0 0) 39)
  have h2 := holds_new ((w.alloc (.cells (wkL name owner A l.length cap) 39)).alloc (.cells (edL e) 26)) (wkL ⟨#[]⟩ 0 none 0 0) 39
  have f2 := loose_new ((w.alloc (.cells (wkL name owner A l.length cap) 39)).alloc (.cells (edL e) 26)) (wkL ⟨#[]⟩ 0 none 0 0) 39
  have hl3 := ((hl.alloc (.cells (wkL name owner A l.length cap) 39)).alloc (.cells (edL e) 26)).alloc (.cells (wkL ⟨#[]⟩ 0 none 0 0) 39)
  simp only [World.size_alloc] at h1 h2 f2
  rcases hk : M.wkOk ⟨name, owner, l⟩ with _ | _
  · have HE := Lib.hid (M.printed_bad e page hk)
    have HK := Lib.hid hk
    clear hk
    go_enter Tryz.func66, Tryz.ntmps66
    go_wp2_with fail
    refine (specWorkOk name owner A l cap _ hl3 (Nat.le_trans hn (by unfold maxLen; omega)) hlen (fun c hc => Nat.le_trans (HP.out c hc) (by unfold maxLen; omega))).mono ?_
    rintro r w1 ⟨rfl, b1⟩
    rw [HK.out]
    replace h0 := h0.below b1
    replace h1 := h1.below b1
    replace f2 := f2.below h2.1 b1
    replace h2 := h2.below b1
    replace b0 := next b0 b1
    obtain ⟨p0, p1, p2⟩ := h0.at3
    obtain ⟨q0, q1, q2⟩ := h1.at3
    obtain ⟨r0, r1, r2⟩ := h2.at3
    obtain ⟨s0, s1, s2⟩ := f2.fz3
    have z0 := h0.1
    have z1 := h1.1
    have z2 := h2.1
    clear b1
    go_wp2
    exact bodyPost_ret (results_spr ⟨#[]⟩ 0 (.slice none 0 0) false (w.heap.size + 1 + 1) _ _ rfl rfl (h2.wr3 _ _ _)) rfl ⟨WkRet.zero _ _ HE.out, far_3 b0 (by omega) _ _ _⟩
  · have HK := Lib.hid hk
    by_cases hf : M.findEd l e < l.length
    · have HE := Lib.hid (M.printed_there (w := ⟨name, owner, l⟩) page hk hf)
      have HI := Lib.hid (M.findInt_pos hf)
      clear hk
      go_enter Tryz.func66, Tryz.ntmps66
      go_wp2_with fail
      refine (specWorkOk name owner A l cap _ hl3 (Nat.le_trans hn (by unfold maxLen; omega)) hlen (fun c hc => Nat.le_trans (HP.out c hc) (by unfold maxLen; omega))).mono ?_
      rintro r w1 ⟨rfl, b1⟩
      rw [HK.out]
      have hl4 := hl3.below b1
      replace h0 := h0.below b1
      replace h1 := h1.below b1
      replace f2 := f2.below h2.1 b1
      replace h2 := h2.below b1
      replace b0 := next b0 b1
      obtain ⟨p0, p1, p2⟩ := h0.at3
      obtain ⟨q0, q1, q2⟩ := h1.at3
      obtain ⟨r0, r1, r2⟩ := h2.at3
      obtain ⟨s0, s1, s2⟩ := f2.fz3
      have z0 := h0.1
      have z1 := h1.1
      have z2 := h2.1
      clear b1
      go_wp2_with fail
      refine (l4Own_any name owner A l cap _ hl4 HA.out hlen).mono ?_
      rintro r w9 ⟨A', c', rfl, ho, b9⟩
      have zb9 : w.heap.size + 1 + 1 < w1.heap.size := h2.1
      have hl5 := hl4.below b9
      have b9le := b9.size
      clear p0 p1 p2 q0 q1 q2 r0 r1 r2 s0 s1 s2 z0 z1 z2
      replace h0 := h0.below b9
      replace h1 := h1.below b9
      replace f2 := f2.below h2.1 b9
      replace h2 := h2.below b9
      replace b0 := next b0 b9
      obtain ⟨p0, p1, p2⟩ := h0.at3
      obtain ⟨q0, q1, q2⟩ := h1.at3
      obtain ⟨r0, r1, r2⟩ := h2.at3
      obtain ⟨s0, s1, s2⟩ := f2.fz3
      have z0 := h0.1
      have z1 := h1.1
      have z2 := h2.1
      clear b9
      have ba := (Below.refl w9.heap.size w9).alloc (Nat.le_refl _) (.cells (wkL name owner A' l.length c') 39)
      have h8 := holds_new w9 (wkL name owner A' l.length c') 39
      have f8 := loose_new w9 (wkL name owner A' l.length c') 39
      have ho8 := ho.below ba
      have hl8 := hl5.below ba
      have hlt9 := fun k hk => (ho.lt k hk).2
      have HT := Lib.hid hlt9
      have HT9 := Lib.hid b9le
      clear p0 p1 p2 q0 q1 q2 r0 r1 r2 s0 s1 s2 z0 z1 z2 ho hlt9 b9le
      replace h0 := h0.below ba
      replace h1 := h1.below ba
      replace f2 := f2.below h2.1 ba
      replace h2 := h2.below ba
      replace b0 := next b0 ba
      obtain ⟨p0, p1, p2⟩ := h0.at3
      obtain ⟨q0, q1, q2⟩ := h1.at3
      obtain ⟨r0, r1, r2⟩ := h2.at3
      obtain ⟨s0, s1, s2⟩ := f2.fz3
      have z0 := h0.1
      have z1 := h1.1
      have z2 := h2.1
      clear ba
      have z8 := h8.1
      obtain ⟨m0, m1, m2⟩ := h8.at3
      obtain ⟨n0, n1, n2⟩ := f8.fz3
      go_upto_region 4 with (fail)
      generalize hg10 : w9.alloc (.cells (wkL name owner A' l.length c') 39) = w10 at h0 h1 h2 f2 b0 h8 f8 ho8 hl8 p0 p1 p2 q0 q1 q2 r0 r1 r2 s0 s1 s2 z0 z1 z2 z8 m0 m1 m2 n0 n1 n2 ⊢
      have e10 := Lib.hid (show w10.heap.size = w9.heap.size + 1 by rw [← hg10]; simp)
      clear hg10
      go_upto_region 5 with (fail)
      have bc := (Below.refl w10.heap.size w10).alloc (Nat.le_refl _) (.cells #[.int .i64 e.ma, .int .i64 e.mi, .int .i64 e.pa, .string page, .bool false] 71)
      have h9 := holds_new w10 #[.int .i64 e.ma, .int .i64 e.mi, .int .i64 e.pa, .string page, .bool false] 71
      have hl9 := hl8.below bc
      clear m0 m1 m2 n0 n1 n2 z8
      replace f8 := f8.below h8.1 bc
      replace h8 := h8.below bc
      replace ho8 := ho8.below bc
      clear p0 p1 p2 q0 q1 q2 r0 r1 r2 s0 s1 s2 z0 z1 z2
      replace h0 := h0.below bc
      replace h1 := h1.below bc
      replace f2 := f2.below h2.1 bc
      replace h2 := h2.below bc
      replace b0 := next b0 bc
      obtain ⟨p0, p1, p2⟩ := h0.at3
      obtain ⟨q0, q1, q2⟩ := h1.at3
      obtain ⟨r0, r1, r2⟩ := h2.at3
      obtain ⟨s0, s1, s2⟩ := f2.fz3
      have z0 := h0.1
      have z1 := h1.1
      have z2 := h2.1
      clear bc
      have z8 := h8.1
      obtain ⟨m0, m1, m2⟩ := h8.at3
      obtain ⟨n0, n1, n2⟩ := f8.fz3
      have z9 := h9.1
      obtain ⟨k0, k1, k2, k3, k4⟩ := h9.at5
      go_wp2_with fail
      refine (l4Find_any name owner A l cap e _ hl9 hlen).mono ?_
      rintro r w2 ⟨rfl, b2⟩
      rw [HI.out]
      replace h9 := h9.below b2
      clear m0 m1 m2 n0 n1 n2 z8 z9 k0 k1 k2 k3 k4
      replace f8 := f8.below h8.1 b2
      replace h8 := h8.below b2
      replace ho8 := ho8.below b2
      clear p0 p1 p2 q0 q1 q2 r0 r1 r2 s0 s1 s2 z0 z1 z2
      replace h0 := h0.below b2
      replace h1 := h1.below b2
      replace f2 := f2.below h2.1 b2
      replace h2 := h2.below b2
      replace b0 := next b0 b2
      obtain ⟨p0, p1, p2⟩ := h0.at3
      obtain ⟨q0, q1, q2⟩ := h1.at3
      obtain ⟨r0, r1, r2⟩ := h2.at3
      obtain ⟨s0, s1, s2⟩ := f2.fz3
      have z0 := h0.1
      have z1 := h1.1
      have z2 := h2.1
      clear b2
      have z8 := h8.1
      obtain ⟨m0, m1, m2⟩ := h8.at3
      obtain ⟨n0, n1, n2⟩ := f8.fz3
      have z9 := h9.1
      obtain ⟨k0, k1, k2, k3, k4⟩ := h9.at5
      have HO := Lib.hid ho8
      clear ho8
      go_wp2
      exact bodyPost_ret (results_spr name owner (.slice A' l.length c') false (w.heap.size + 1 + 1) _ _ rfl rfl (h2.wr3 _ _ _)) rfl ⟨WkRet.mk' HE.out ((((HO.out.off zb9 _).off zb9 _).off zb9 _).mono (by omega)), far_3 b0 (by omega) _ _ _⟩
    · have hf' : M.findEd l e = l.length := by
        have := List.findIdx_le_length (p := M.isEd e) (xs := l)
        unfold M.findEd at hf ⊢; omega
      have HI := Lib.hid (M.findInt_neg hf')
      clear hf
      rcases hc : M.cpOk ⟨e, page, false⟩ with _ | _
      · have HE := Lib.hid (M.printed_wrong (w := ⟨name, owner, l⟩) hk hc)
        have HC := Lib.hid hc
        clear hk hf' hc
        go_enter Tryz.func66, Tryz.ntmps66
        go_wp2_with fail
        refine (specWorkOk name owner A l cap _ hl3 (Nat.le_trans hn (by unfold maxLen; omega)) hlen (fun c hc => Nat.le_trans (HP.out c hc) (by unfold maxLen; omega))).mono ?_
        rintro r w1 ⟨rfl, b1⟩
        rw [HK.out]
        have hl4 := hl3.below b1
        replace h0 := h0.below b1
        replace h1 := h1.below b1
        replace f2 := f2.below h2.1 b1
        replace h2 := h2.below b1
        replace b0 := next b0 b1
        obtain ⟨p0, p1, p2⟩ := h0.at3
        obtain ⟨q0, q1, q2⟩ := h1.at3
        obtain ⟨r0, r1, r2⟩ := h2.at3
        obtain ⟨s0, s1, s2⟩ := f2.fz3
        have z0 := h0.1
        have z1 := h1.1
        have z2 := h2.1
        clear b1
        go_wp2_with fail
        refine (l4Own_any name owner A l cap _ hl4 HA.out hlen).mono ?_
        rintro r w9 ⟨A', c', rfl, ho, b9⟩
        have zb9 : w.heap.size + 1 + 1 < w1.heap.size := h2.1
        have hl5 := hl4.below b9
        have b9le := b9.size
        clear p0 p1 p2 q0 q1 q2 r0 r1 r2 s0 s1 s2 z0 z1 z2
        replace h0 := h0.below b9
        replace h1 := h1.below b9
        replace f2 := f2.below h2.1 b9
        replace h2 := h2.below b9
        replace b0 := next b0 b9
        obtain ⟨p0, p1, p2⟩ := h0.at3
        obtain ⟨q0, q1, q2⟩ := h1.at3
        obtain ⟨r0, r1, r2⟩ := h2.at3
        obtain ⟨s0, s1, s2⟩ := f2.fz3
        have z0 := h0.1
        have z1 := h1.1
        have z2 := h2.1
        clear b9
        have ba := (Below.refl w9.heap.size w9).alloc (Nat.le_refl _) (.cells (wkL name owner A' l.length c') 39)
        have h8 := holds_new w9 (wkL name owner A' l.length c') 39
        have f8 := loose_new w9 (wkL name owner A' l.length c') 39
        have ho8 := ho.below ba
        have hl8 := hl5.below ba
        have hlt9 := fun k hk => (ho.lt k hk).2
        have HT := Lib.hid hlt9
        have HT9 := Lib.hid b9le
        clear p0 p1 p2 q0 q1 q2 r0 r1 r2 s0 s1 s2 z0 z1 z2 ho hlt9 b9le
        replace h0 := h0.below ba
        replace h1 := h1.below ba
        replace f2 := f2.below h2.1 ba
        replace h2 := h2.below ba
        replace b0 := next b0 ba
        obtain ⟨p0, p1, p2⟩ := h0.at3
        obtain ⟨q0, q1, q2⟩ := h1.at3
        obtain ⟨r0, r1, r2⟩ := h2.at3
        obtain ⟨s0, s1, s2⟩ := f2.fz3
        have z0 := h0.1
        have z1 := h1.1
        have z2 := h2.1
        clear ba
        have z8 := h8.1
        obtain ⟨m0, m1, m2⟩ := h8.at3
        obtain ⟨n0, n1, n2⟩ := f8.fz3
        go_upto_region 4 with (fail)
        generalize hg10 : w9.alloc (.cells (wkL name owner A' l.length c') 39) = w10 at h0 h1 h2 f2 b0 h8 f8 ho8 hl8 p0 p1 p2 q0 q1 q2 r0 r1 r2 s0 s1 s2 z0 z1 z2 z8 m0 m1 m2 n0 n1 n2 ⊢
        have e10 := Lib.hid (show w10.heap.size = w9.heap.size + 1 by rw [← hg10]; simp)
        clear hg10
        go_upto_region 5 with (fail)
        have bc := (Below.refl w10.heap.size w10).alloc (Nat.le_refl _) (.cells #[.int .i64 e.ma, .int .i64 e.mi, .int .i64 e.pa, .string page, .bool false] 71)
        have h9 := holds_new w10 #[.int .i64 e.ma, .int .i64 e.mi, .int .i64 e.pa, .string page, .bool false] 71
        have hl9 := hl8.below bc
        clear m0 m1 m2 n0 n1 n2 z8
        replace f8 := f8.below h8.1 bc
        replace h8 := h8.below bc
        replace ho8 := ho8.below bc
        clear p0 p1 p2 q0 q1 q2 r0 r1 r2 s0 s1 s2 z0 z1 z2
        replace h0 := h0.below bc
        replace h1 := h1.below bc
        replace f2 := f2.below h2.1 bc
        replace h2 := h2.below bc
        replace b0 := next b0 bc
        obtain ⟨p0, p1, p2⟩ := h0.at3
        obtain ⟨q0, q1, q2⟩ := h1.at3
        obtain ⟨r0, r1, r2⟩ := h2.at3
        obtain ⟨s0, s1, s2⟩ := f2.fz3
        have z0 := h0.1
        have z1 := h1.1
        have z2 := h2.1
        clear bc
        have z8 := h8.1
        obtain ⟨m0, m1, m2⟩ := h8.at3
        obtain ⟨n0, n1, n2⟩ := f8.fz3
        have z9 := h9.1
        obtain ⟨k0, k1, k2, k3, k4⟩ := h9.at5
        go_wp2_with fail
        refine (l4Find_any name owner A l cap e _ hl9 hlen).mono ?_
        rintro r w2 ⟨rfl, b2⟩
        rw [HI.out]
        replace h9 := h9.below b2
        clear m0 m1 m2 n0 n1 n2 z8 z9 k0 k1 k2 k3 k4
        replace f8 := f8.below h8.1 b2
        replace h8 := h8.below b2
        replace ho8 := ho8.below b2
        clear p0 p1 p2 q0 q1 q2 r0 r1 r2 s0 s1 s2 z0 z1 z2
        replace h0 := h0.below b2
        replace h1 := h1.below b2
        replace f2 := f2.below h2.1 b2
        replace h2 := h2.below b2
        replace b0 := next b0 b2
        obtain ⟨p0, p1, p2⟩ := h0.at3
        obtain ⟨q0, q1, q2⟩ := h1.at3
        obtain ⟨r0, r1, r2⟩ := h2.at3
        obtain ⟨s0, s1, s2⟩ := f2.fz3
        have z0 := h0.1
        have z1 := h1.1
        have z2 := h2.1
        clear b2
        have z8 := h8.1
        obtain ⟨m0, m1, m2⟩ := h8.at3
        obtain ⟨n0, n1, n2⟩ := f8.fz3
        have z9 := h9.1
        obtain ⟨k0, k1, k2, k3, k4⟩ := h9.at5
        have HO := Lib.hid ho8
        clear ho8
        go_wp2_with fail
        refine (l4Copy_any ⟨e, page, false⟩ _ hpm).mono ?_
        rintro r w3 ⟨rfl, b3⟩
        rw [HC.out]
        have ho8 := HO.out
        clear HO
        replace h9 := h9.below b3
        clear m0 m1 m2 n0 n1 n2 z8 z9 k0 k1 k2 k3 k4
        replace f8 := f8.below h8.1 b3
        replace h8 := h8.below b3
        replace ho8 := ho8.below b3
        clear p0 p1 p2 q0 q1 q2 r0 r1 r2 s0 s1 s2 z0 z1 z2
        replace h0 := h0.below b3
        replace h1 := h1.below b3
        replace f2 := f2.below h2.1 b3
        replace h2 := h2.below b3
        replace b0 := next b0 b3
        obtain ⟨p0, p1, p2⟩ := h0.at3
        obtain ⟨q0, q1, q2⟩ := h1.at3
        obtain ⟨r0, r1, r2⟩ := h2.at3
        obtain ⟨s0, s1, s2⟩ := f2.fz3
        have z0 := h0.1
        have z1 := h1.1
        have z2 := h2.1
        clear b3
        have z8 := h8.1
        obtain ⟨m0, m1, m2⟩ := h8.at3
        obtain ⟨n0, n1, n2⟩ := f8.fz3
        have z9 := h9.1
        obtain ⟨k0, k1, k2, k3, k4⟩ := h9.at5
        have HO := Lib.hid ho8
        clear ho8
        go_wp2
        exact bodyPost_ret (results_spr name owner (.slice A' l.length c') false (w.heap.size + 1 + 1) _ _ rfl rfl (h2.wr3 _ _ _)) rfl ⟨WkRet.mk' HE.out ((((HO.out.off zb9 _).off zb9 _).off zb9 _).mono (by omega)), far_3 b0 (by omega) _ _ _⟩
      · by_cases h8 : l.length = 8
        · have HE := Lib.hid (M.printed_full (w := ⟨name, owner, l⟩) (e := e) page hk h8)
          have HC := Lib.hid hc
          have h8' : ((l.length : Int) == 8) = true := by simp; omega
          clear hk hf' hc h8
          go_enter Tryz.func66, Tryz.ntmps66
          go_wp2_with fail
          refine (specWorkOk name owner A l cap _ hl3 (Nat.le_trans hn (by unfold maxLen; omega)) hlen (fun c hc => Nat.le_trans (HP.out c hc) (by unfold maxLen; omega))).mono ?_
          rintro r w1 ⟨rfl, b1⟩
          rw [HK.out]
          have hl4 := hl3.below b1
          replace h0 := h0.below b1
          replace h1 := h1.below b1
          replace f2 := f2.below h2.1 b1
          replace h2 := h2.below b1
          replace b0 := next b0 b1
          obtain ⟨p0, p1, p2⟩ := h0.at3
          obtain ⟨q0, q1, q2⟩ := h1.at3
          obtain ⟨r0, r1, r2⟩ := h2.at3
          obtain ⟨s0, s1, s2⟩ := f2.fz3
          have z0 := h0.1
          have z1 := h1.1
          have z2 := h2.1
          clear b1
          go_wp2_with fail
          refine (l4Own_any name owner A l cap _ hl4 HA.out hlen).mono ?_
          rintro r w9 ⟨A', c', rfl, ho, b9⟩
          have zb9 : w.heap.size + 1 + 1 < w1.heap.size := h2.1
          have hl5 := hl4.below b9
          have b9le := b9.size
          clear p0 p1 p2 q0 q1 q2 r0 r1 r2 s0 s1 s2 z0 z1 z2
          replace h0 := h0.below b9
          replace h1 := h1.below b9
          replace f2 := f2.below h2.1 b9
          replace h2 := h2.below b9
          replace b0 := next b0 b9
          obtain ⟨p0, p1, p2⟩ := h0.at3
          obtain ⟨q0, q1, q2⟩ := h1.at3
          obtain ⟨r0, r1, r2⟩ := h2.at3
          obtain ⟨s0, s1, s2⟩ := f2.fz3
          have z0 := h0.1
          have z1 := h1.1
          have z2 := h2.1
          clear b9
          have ba := (Below.refl w9.heap.size w9).alloc (Nat.le_refl _) (.cells (wkL name owner A' l.length c') 39)
          have h8 := holds_new w9 (wkL name owner A' l.length c') 39
          have f8 := loose_new w9 (wkL name owner A' l.length c') 39
          have ho8 := ho.below ba
          have hl8 := hl5.below ba
          have hlt9 := fun k hk => (ho.lt k hk).2
          have HT := Lib.hid hlt9
          have HT9 := Lib.hid b9le
          clear p0 p1 p2 q0 q1 q2 r0 r1 r2 s0 s1 s2 z0 z1 z2 ho hlt9 b9le
          replace h0 := h0.below ba
          replace h1 := h1.below ba
          replace f2 := f2.below h2.1 ba
          replace h2 := h2.below ba
          replace b0 := next b0 ba
          obtain ⟨p0, p1, p2⟩ := h0.at3
          obtain ⟨q0, q1, q2⟩ := h1.at3
          obtain ⟨r0, r1, r2⟩ := h2.at3
          obtain ⟨s0, s1, s2⟩ := f2.fz3
          have z0 := h0.1
          have z1 := h1.1
          have z2 := h2.1
          clear ba
          have z8 := h8.1
          obtain ⟨m0, m1, m2⟩ := h8.at3
          obtain ⟨n0, n1, n2⟩ := f8.fz3
          go_upto_region 4 with (fail)
          generalize hg10 : w9.alloc (.cells (wkL name owner A' l.length c') 39) = w10 at h0 h1 h2 f2 b0 h8 f8 ho8 hl8 p0 p1 p2 q0 q1 q2 r0 r1 r2 s0 s1 s2 z0 z1 z2 z8 m0 m1 m2 n0 n1 n2 ⊢
          have e10 := Lib.hid (show w10.heap.size = w9.heap.size + 1 by rw [← hg10]; simp)
          clear hg10
          go_upto_region 5 with (fail)
          have bc := (Below.refl w10.heap.size w10).alloc (Nat.le_refl _) (.cells #[.int .i64 e.ma, .int .i64 e.mi, .int .i64 e.pa, .string page, .bool false] 71)
          have h9 := holds_new w10 #[.int .i64 e.ma, .int .i64 e.mi, .int .i64 e.pa, .string page, .bool false] 71
          have hl9 := hl8.below bc
          clear m0 m1 m2 n0 n1 n2 z8
          replace f8 := f8.below h8.1 bc
          replace h8 := h8.below bc
          replace ho8 := ho8.below bc
          clear p0 p1 p2 q0 q1 q2 r0 r1 r2 s0 s1 s2 z0 z1 z2
          replace h0 := h0.below bc
          replace h1 := h1.below bc
          replace f2 := f2.below h2.1 bc
          replace h2 := h2.below bc
          replace b0 := next b0 bc
          obtain ⟨p0, p1, p2⟩ := h0.at3
          obtain ⟨q0, q1, q2⟩ := h1.at3
          obtain ⟨r0, r1, r2⟩ := h2.at3
          obtain ⟨s0, s1, s2⟩ := f2.fz3
          have z0 := h0.1
          have z1 := h1.1
          have z2 := h2.1
          clear bc
          have z8 := h8.1
          obtain ⟨m0, m1, m2⟩ := h8.at3
          obtain ⟨n0, n1, n2⟩ := f8.fz3
          have z9 := h9.1
          obtain ⟨k0, k1, k2, k3, k4⟩ := h9.at5
          go_wp2_with fail
          refine (l4Find_any name owner A l cap e _ hl9 hlen).mono ?_
          rintro r w2 ⟨rfl, b2⟩
          rw [HI.out]
          replace h9 := h9.below b2
          clear m0 m1 m2 n0 n1 n2 z8 z9 k0 k1 k2 k3 k4
          replace f8 := f8.below h8.1 b2
          replace h8 := h8.below b2
          replace ho8 := ho8.below b2
          clear p0 p1 p2 q0 q1 q2 r0 r1 r2 s0 s1 s2 z0 z1 z2
          replace h0 := h0.below b2
          replace h1 := h1.below b2
          replace f2 := f2.below h2.1 b2
          replace h2 := h2.below b2
          replace b0 := next b0 b2
          obtain ⟨p0, p1, p2⟩ := h0.at3
          obtain ⟨q0, q1, q2⟩ := h1.at3
          obtain ⟨r0, r1, r2⟩ := h2.at3
          obtain ⟨s0, s1, s2⟩ := f2.fz3
          have z0 := h0.1
          have z1 := h1.1
          have z2 := h2.1
          clear b2
          have z8 := h8.1
          obtain ⟨m0, m1, m2⟩ := h8.at3
          obtain ⟨n0, n1, n2⟩ := f8.fz3
          have z9 := h9.1
          obtain ⟨k0, k1, k2, k3, k4⟩ := h9.at5
          have HO := Lib.hid ho8
          clear ho8
          go_wp2_with fail
          refine (l4Copy_any ⟨e, page, false⟩ _ hpm).mono ?_
          rintro r w3 ⟨rfl, b3⟩
          rw [HC.out]
          have ho8 := HO.out
          clear HO
          replace h9 := h9.below b3
          clear m0 m1 m2 n0 n1 n2 z8 z9 k0 k1 k2 k3 k4
          replace f8 := f8.below h8.1 b3
          replace h8 := h8.below b3
          replace ho8 := ho8.below b3
          clear p0 p1 p2 q0 q1 q2 r0 r1 r2 s0 s1 s2 z0 z1 z2
          replace h0 := h0.below b3
          replace h1 := h1.below b3
          replace f2 := f2.below h2.1 b3
          replace h2 := h2.below b3
          replace b0 := next b0 b3
          obtain ⟨p0, p1, p2⟩ := h0.at3
          obtain ⟨q0, q1, q2⟩ := h1.at3
          obtain ⟨r0, r1, r2⟩ := h2.at3
          obtain ⟨s0, s1, s2⟩ := f2.fz3
          have z0 := h0.1
          have z1 := h1.1
          have z2 := h2.1
          clear b3
          have z8 := h8.1
          obtain ⟨m0, m1, m2⟩ := h8.at3
          obtain ⟨n0, n1, n2⟩ := f8.fz3
          have z9 := h9.1
          obtain ⟨k0, k1, k2, k3, k4⟩ := h9.at5
          have HO := Lib.hid ho8
          clear ho8
          go_wp2
          exact bodyPost_ret (results_spr name owner (.slice A' l.length c') false (w.heap.size + 1 + 1) _ _ rfl rfl (h2.wr3 _ _ _)) rfl ⟨WkRet.mk' HE.out ((((HO.out.off zb9 _).off zb9 _).off zb9 _).mono (by omega)), far_3 b0 (by omega) _ _ _⟩
        · have HE := Lib.hid (M.printed_put (w := ⟨name, owner, l⟩) hk hf' hc h8)
          have HC := Lib.hid hc
          have h8' : ((l.length : Int) == 8) = false := by simp; omega
          have hple := M.place_le l e
          clear hk hf' hc h8
          go_enter Tryz.func66, Tryz.ntmps66
          go_wp2_with fail
          refine (specWorkOk name owner A l cap _ hl3 (Nat.le_trans hn (by unfold maxLen; omega)) hlen (fun c hc => Nat.le_trans (HP.out c hc) (by unfold maxLen; omega))).mono ?_
          rintro r w1 ⟨rfl, b1⟩
          rw [HK.out]
          have hl4 := hl3.below b1
          replace h0 := h0.below b1
          replace h1 := h1.below b1
          replace f2 := f2.below h2.1 b1
          replace h2 := h2.below b1
          replace b0 := next b0 b1
          obtain ⟨p0, p1, p2⟩ := h0.at3
          obtain ⟨q0, q1, q2⟩ := h1.at3
          obtain ⟨r0, r1, r2⟩ := h2.at3
          obtain ⟨s0, s1, s2⟩ := f2.fz3
          have z0 := h0.1
          have z1 := h1.1
          have z2 := h2.1
          clear b1
          go_wp2_with fail
          refine (l4Own_any name owner A l cap _ hl4 HA.out hlen).mono ?_
          rintro r w9 ⟨A', c', rfl, ho, b9⟩
          have zb9 : w.heap.size + 1 + 1 < w1.heap.size := h2.1
          have hl5 := hl4.below b9
          have b9le := b9.size
          clear p0 p1 p2 q0 q1 q2 r0 r1 r2 s0 s1 s2 z0 z1 z2
          replace h0 := h0.below b9
          replace h1 := h1.below b9
          replace f2 := f2.below h2.1 b9
          replace h2 := h2.below b9
          replace b0 := next b0 b9
          obtain ⟨p0, p1, p2⟩ := h0.at3
          obtain ⟨q0, q1, q2⟩ := h1.at3
          obtain ⟨r0, r1, r2⟩ := h2.at3
          obtain ⟨s0, s1, s2⟩ := f2.fz3
          have z0 := h0.1
          have z1 := h1.1
          have z2 := h2.1
          clear b9
          have ba := (Below.refl w9.heap.size w9).alloc (Nat.le_refl _) (.cells (wkL name owner A' l.length c') 39)
          have h8 := holds_new w9 (wkL name owner A' l.length c') 39
          have f8 := loose_new w9 (wkL name owner A' l.length c') 39
          have ho8 := ho.below ba
          have hl8 := hl5.below ba
          have hlt9 := fun k hk => (ho.lt k hk).2
          have HT := Lib.hid hlt9
          have HT9 := Lib.hid b9le
          clear p0 p1 p2 q0 q1 q2 r0 r1 r2 s0 s1 s2 z0 z1 z2 ho hlt9 b9le
          replace h0 := h0.below ba
          replace h1 := h1.below ba
          replace f2 := f2.below h2.1 ba
          replace h2 := h2.below ba
          replace b0 := next b0 ba
          obtain ⟨p0, p1, p2⟩ := h0.at3
          obtain ⟨q0, q1, q2⟩ := h1.at3
          obtain ⟨r0, r1, r2⟩ := h2.at3
          obtain ⟨s0, s1, s2⟩ := f2.fz3
          have z0 := h0.1
          have z1 := h1.1
          have z2 := h2.1
          clear ba
          have z8 := h8.1
          obtain ⟨m0, m1, m2⟩ := h8.at3
          obtain ⟨n0, n1, n2⟩ := f8.fz3
          go_upto_region 4 with (fail)
          generalize hg10 : w9.alloc (.cells (wkL name owner A' l.length c') 39) = w10 at h0 h1 h2 f2 b0 h8 f8 ho8 hl8 p0 p1 p2 q0 q1 q2 r0 r1 r2 s0 s1 s2 z0 z1 z2 z8 m0 m1 m2 n0 n1 n2 ⊢
          have e10 := Lib.hid (show w10.heap.size = w9.heap.size + 1 by rw [← hg10]; simp)
          clear hg10
          go_upto_region 5 with (fail)
          have bc := (Below.refl w10.heap.size w10).alloc (Nat.le_refl _) (.cells #[.int .i64 e.ma, .int .i64 e.mi, .int .i64 e.pa, .string page, .bool false] 71)
          have h9 := holds_new w10 #[.int .i64 e.ma, .int .i64 e.mi, .int .i64 e.pa, .string page, .bool false] 71
          have hl9 := hl8.below bc
          clear m0 m1 m2 n0 n1 n2 z8
          replace f8 := f8.below h8.1 bc
          replace h8 := h8.below bc
          replace ho8 := ho8.below bc
          clear p0 p1 p2 q0 q1 q2 r0 r1 r2 s0 s1 s2 z0 z1 z2
          replace h0 := h0.below bc
          replace h1 := h1.below bc
          replace f2 := f2.below h2.1 bc
          replace h2 := h2.below bc
          replace b0 := next b0 bc
          obtain ⟨p0, p1, p2⟩ := h0.at3
          obtain ⟨q0, q1, q2⟩ := h1.at3
          obtain ⟨r0, r1, r2⟩ := h2.at3
          obtain ⟨s0, s1, s2⟩ := f2.fz3
          have z0 := h0.1
          have z1 := h1.1
          have z2 := h2.1
          clear bc
          have z8 := h8.1
          obtain ⟨m0, m1, m2⟩ := h8.at3
          obtain ⟨n0, n1, n2⟩ := f8.fz3
          have z9 := h9.1
          obtain ⟨k0, k1, k2, k3, k4⟩ := h9.at5
          go_wp2_with fail
          refine (l4Find_any name owner A l cap e _ hl9 hlen).mono ?_
          rintro r w2 ⟨rfl, b2⟩
          rw [HI.out]
          replace h9 := h9.below b2
          clear m0 m1 m2 n0 n1 n2 z8 z9 k0 k1 k2 k3 k4
          replace f8 := f8.below h8.1 b2
          replace h8 := h8.below b2
          replace ho8 := ho8.below b2
          clear p0 p1 p2 q0 q1 q2 r0 r1 r2 s0 s1 s2 z0 z1 z2
          replace h0 := h0.below b2
          replace h1 := h1.below b2
          replace f2 := f2.below h2.1 b2
          replace h2 := h2.below b2
          replace b0 := next b0 b2
          obtain ⟨p0, p1, p2⟩ := h0.at3
          obtain ⟨q0, q1, q2⟩ := h1.at3
          obtain ⟨r0, r1, r2⟩ := h2.at3
          obtain ⟨s0, s1, s2⟩ := f2.fz3
          have z0 := h0.1
          have z1 := h1.1
          have z2 := h2.1
          clear b2
          have z8 := h8.1
          obtain ⟨m0, m1, m2⟩ := h8.at3
          obtain ⟨n0, n1, n2⟩ := f8.fz3
          have z9 := h9.1
          obtain ⟨k0, k1, k2, k3, k4⟩ := h9.at5
          have HO := Lib.hid ho8
          clear ho8
          go_wp2_with fail
          refine (l4Copy_any ⟨e, page, false⟩ _ hpm).mono ?_
          rintro r w3 ⟨rfl, b3⟩
          rw [HC.out]
          have ho8 := HO.out
          clear HO
          replace h9 := h9.below b3
          clear m0 m1 m2 n0 n1 n2 z8 z9 k0 k1 k2 k3 k4
          replace f8 := f8.below h8.1 b3
          replace h8 := h8.below b3
          replace ho8 := ho8.below b3
          clear p0 p1 p2 q0 q1 q2 r0 r1 r2 s0 s1 s2 z0 z1 z2
          replace h0 := h0.below b3
          replace h1 := h1.below b3
          replace f2 := f2.below h2.1 b3
          replace h2 := h2.below b3
          replace b0 := next b0 b3
          obtain ⟨p0, p1, p2⟩ := h0.at3
          obtain ⟨q0, q1, q2⟩ := h1.at3
          obtain ⟨r0, r1, r2⟩ := h2.at3
          obtain ⟨s0, s1, s2⟩ := f2.fz3
          have z0 := h0.1
          have z1 := h1.1
          have z2 := h2.1
          clear b3
          have z8 := h8.1
          obtain ⟨m0, m1, m2⟩ := h8.at3
          obtain ⟨n0, n1, n2⟩ := f8.fz3
          have z9 := h9.1
          obtain ⟨k0, k1, k2, k3, k4⟩ := h9.at5
          have HO := Lib.hid ho8
          have HZ9 := Lib.hid (show w9.heap.size ≠ w10.heap.size by have := e10.out; omega)
          have HW : Hid (w.heap.size + 1 + 1 < w9.heap.size) := Lib.hid (by have := zb9; have := HT9.out; omega)
          have hlw := hl.below b0
          clear ho8
          go_upto_block 0 with (fail)
          go_cut [10] from 37 to 53 (fun s10 wx => s10 = .int .i64 (M.place l e : Nat) ∧ Below w3.heap.size w3 wx)
          case first =>
            go_wp2_with fail
            go_loopw [10] (fun i wr => ∃ j : Nat, i = .int .i64 j ∧ j ≤ l.length ∧ NoneTo (M.notOlder e) l j ∧ Below w3.heap.size w3 wr) (fun i _ => l.length - (intOf i).toNat)
            case atStart => exact ⟨0, rfl, Nat.zero_le _, NoneTo.zero _ l, Below.refl _ _⟩
            case round =>
              obtain ⟨j, rfl, hj, hnone, hbl⟩ := hrel
              clear p0 p1 p2 q0 q1 q2 r0 r1 r2 s0 s1 s2 z0 z1 z2 z8 z9 m0 m1 m2 n0 n1 n2 k0 k1 k2 k3 k4
              have hh0 := h0.below hbl
              have hh1 := h1.below hbl
              obtain ⟨p0, p1, p2⟩ := hh0.at3
              obtain ⟨q0, q1, q2⟩ := hh1.at3
              have z0 := hh0.1
              have z1 := hh1.1
              by_cases hlt : j < l.length
              · obtain ⟨b, o, rfl, zb, c0, c1, c2, c3, c4⟩ := Cps_at (hlw.below hbl) hlt
                have HN := Lib.hid hnone
                have HLL := Lib.hid (show _ ∧ _ ∧ _ ∧ _ ∧ _ ∧ _ ∧ _ from ⟨hl, hl3, hl4, hl5, hl8, hl9, hlw⟩)
                clear hnone c3 c4 hl hl3 hl4 hl5 hl8 hl9 hlw
                rcases hol : M.older l[j].ed e with _ | _
                · have HM : Hid (M.place l e = j) := Lib.hid (HN.out.hit hlt (by simp [M.notOlder, hol]))
                  have HD := Lib.hid hol
                  clear hol
                  go_wp2_with fail
                  refine wp_region_seq (fun w' => Below wr.heap.size wr w') [(0, true), (1, true), (2, true), (3, true), (4, true), (5, true), (6, true), (7, true), (8, true), (9, true), (10, true), (11, true), (12, true), (13, false), (14, true)] (by kernel_rfl) (by kernel_rfl) (fun _ _ _ _ _ h => h) (by kernel_rfl) (by decide) (Below.refl _ _).drew ?_
                  intro hHeld
                  repeat (first
                    | (refine seq_skip (by simp only [List.getElem?_toArray, List.getElem?_cons_succ, List.getElem?_cons_zero]; first | done | rfl) (by rfl) ?_; (try simp only [Act.put, List.setIfInBounds_toArray, List.set_cons_zero, List.set_cons_succ]))
                    | (refine seq_reads (by simp only [List.getElem?_toArray, List.getElem?_cons_succ, List.getElem?_cons_zero]; first | done | rfl) (by rfl) ?_; apply Exists.intro; apply And.intro; (focus (intro w hSw; obtain ⟨hcS, -⟩ := bcell hSw; go_simp; (try with_reducible rfl); done)); (try simp only [Act.put, List.setIfInBounds_toArray, List.set_cons_zero, List.set_cons_succ]))
                    | (refine seq_pass (by simp only [List.getElem?_toArray, List.getElem?_cons_succ, List.getElem?_cons_zero]; first | done | rfl) (by rfl) hHeld ?_; clear hHeld; intro hHeld; (try simp only [Act.put, List.setIfInBounds_toArray, List.set_cons_zero, List.set_cons_succ]))
                    | (refine seq_call (by simp only [List.getElem?_toArray, List.getElem?_cons_succ, List.getElem?_cons_zero]; first | done | rfl) (by rfl) (fun K hK => ?_); go_simp; go_at_call 74; refine (specOlder l[j].ed e _).mono ?_; rintro r w1 ⟨rfl, b1⟩; go_simp; refine hK.out _ _ (next hHeld b1) ?_; clear hK hHeld; intro hHeld; (try simp only [Act.put, List.setIfInBounds_toArray, List.set_cons_zero, List.set_cons_succ])))
                  refine seq_end ?_
                  rw [HD.out]
                  go_wp2
                  go_meet
                  exact ⟨by rw [HM.out], next hbl hHeld⟩
                · have HX := Lib.hid (HN.out.next hlt (by simp [M.notOlder, hol]))
                  have HD := Lib.hid hol
                  clear hol
                  go_wp2_with fail
                  refine wp_region_seq (fun w' => Below wr.heap.size wr w') [(0, true), (1, true), (2, true), (3, true), (4, true), (5, true), (6, true), (7, true), (8, true), (9, true), (10, true), (11, true), (12, true), (13, false), (14, true)] (by kernel_rfl) (by kernel_rfl) (fun _ _ _ _ _ h => h) (by kernel_rfl) (by decide) (Below.refl _ _).drew ?_
                  intro hHeld
                  repeat (first
                    | (refine seq_skip (by simp only [List.getElem?_toArray, List.getElem?_cons_succ, List.getElem?_cons_zero]; first | done | rfl) (by rfl) ?_; (try simp only [Act.put, List.setIfInBounds_toArray, List.set_cons_zero, List.set_cons_succ]))
                    | (refine seq_reads (by simp only [List.getElem?_toArray, List.getElem?_cons_succ, List.getElem?_cons_zero]; first | done | rfl) (by rfl) ?_; apply Exists.intro; apply And.intro; (focus (intro w hSw; obtain ⟨hcS, -⟩ := bcell hSw; go_simp; (try with_reducible rfl); done)); (try simp only [Act.put, List.setIfInBounds_toArray, List.set_cons_zero, List.set_cons_succ]))
                    | (refine seq_pass (by simp only [List.getElem?_toArray, List.getElem?_cons_succ, List.getElem?_cons_zero]; first | done | rfl) (by rfl) hHeld ?_; clear hHeld; intro hHeld; (try simp only [Act.put, List.setIfInBounds_toArray, List.set_cons_zero, List.set_cons_succ]))
                    | (refine seq_call (by simp only [List.getElem?_toArray, List.getElem?_cons_succ, List.getElem?_cons_zero]; first | done | rfl) (by rfl) (fun K hK => ?_); go_simp; go_at_call 74; refine (specOlder l[j].ed e _).mono ?_; rintro r w1 ⟨rfl, b1⟩; go_simp; refine hK.out _ _ (next hHeld b1) ?_; clear hK hHeld; intro hHeld; (try simp only [Act.put, List.setIfInBounds_toArray, List.set_cons_zero, List.set_cons_succ])))
                  refine seq_end ?_
                  rw [HD.out]
                  go_wp2
                  go_roundw
                  case rel => exact ⟨j + 1, by go_num, by omega, HX.out, next hbl hHeld⟩
                  case measure => simp [intOf]; omega
              · have hj' : j = l.length := by omega
                subst hj'
                have HM : Hid (M.place l e = l.length) := Lib.hid hnone.all
                clear hnone
                go_wp2_with fail
                refine wp_region_seq (fun w' => Below wr.heap.size wr w') [(0, true), (1, true), (2, true), (3, true), (4, true), (5, true), (6, true), (7, true), (8, true), (9, true), (10, true), (11, true), (12, true), (13, false), (14, true)] (by kernel_rfl) (by kernel_rfl) (fun _ _ _ _ _ h => h) (by kernel_rfl) (by decide) (Below.refl _ _).drew ?_
                intro hHeld
                repeat (first
                  | (refine seq_skip (by simp only [List.getElem?_toArray, List.getElem?_cons_succ, List.getElem?_cons_zero]; first | done | rfl) (by rfl) ?_; (try simp only [Act.put, List.setIfInBounds_toArray, List.set_cons_zero, List.set_cons_succ]))
                  | (refine seq_reads (by simp only [List.getElem?_toArray, List.getElem?_cons_succ, List.getElem?_cons_zero]; first | done | rfl) (by rfl) ?_; apply Exists.intro; apply And.intro; (focus (intro w hSw; obtain ⟨hcS, -⟩ := bcell hSw; go_simp; (try with_reducible rfl); done)); (try simp only [Act.put, List.setIfInBounds_toArray, List.set_cons_zero, List.set_cons_succ]))
                  | (refine seq_pass (by simp only [List.getElem?_toArray, List.getElem?_cons_succ, List.getElem?_cons_zero]; first | done | rfl) (by rfl) hHeld ?_; clear hHeld; intro hHeld; (try simp only [Act.put, List.setIfInBounds_toArray, List.set_cons_zero, List.set_cons_succ])))
                refine seq_end ?_
                go_wp2
                go_meet
                exact ⟨by rw [HM.out], next hbl hHeld⟩
          case rest =>
          obtain ⟨rfl, bq⟩ := hcut
          generalize hkk : M.place l e = k at hple HE ⊢
          clear hkk
          replace h0 := h0.below bq
          replace f2 := f2.below h2.1 bq
          replace h2 := h2.below bq
          replace f8 := f8.below h8.1 bq
          replace h8 := h8.below bq
          replace h9 := h9.below bq
          have ho8 := HO.out.below bq
          replace b0 := next b0 bq
          have hlq := hl.below b0
          have HBQ := Lib.hid (show w9.heap.size < wc.heap.size from h8.1)
          clear HO p0 p1 p2 q0 q1 q2 r0 r1 r2 s0 s1 s2 z0 z1 z2 z8 z9 m0 m1 m2 n0 n1 n2 k0 k1 k2 k3 k4 bq hlw h1
          obtain ⟨p0, p1, p2⟩ := h0.at3
          have z0 := h0.1
          have HL8 := Lib.hid (show _ ∧ _ from ⟨ho8, hlq⟩)
          clear ho8 hlq
          obtain ⟨i0, hi, hz0, hz1, hz2⟩ := info_parts infoCp
          go_upto_region 10 with (fail)
          go_cut [11] (fun s11 wx => RestAt wc l k s11 wx)
          case first =>
            by_cases hck : cap = k
            · have hlq := HL8.out.2
              subst hck
              have HQ := Lib.hid hlq
              clear hlq
              go_wp2_with (at_builtin; refine stop_mk ?_)
              refine stop_un ?_
              refine wpList_append_flat (k := 5) (enc := cpL) (l := l.drop cap) rfl _ _ 37 rfl wc.heap.size 71 i0 _ 48 Tryz.underlying37 hi hz0 hz1 hz2 rfl (by decide) (.slice (some ⟨wc.heap.size, 0, none⟩) 0 0) 0 [] rfl (World.ownsRow_made (size := 5) (e := 71) wc #[] 0 (Nat.le_refl _) (Nat.zero_le _) rfl) (A) (0) (by rw [List.length_drop, show l.length - cap = 0 by omega]; rfl) (fun _ => rfl) (.inl (List.drop_eq_nil_of_le (by omega))) cpL_len (cp_one _) (by rw [List.length_drop]; unfold maxLen; omega) (by rw [List.length_drop]; omega) (by simp) ?_
              intro v5 w5 hown hgrow
              rw [Nat.zero_add, List.nil_append] at hown
              have hO : CpOwn wc.heap.size w5 v5 (l.drop cap) := hown
              have b5 := ((Below.refl wc.heap.size wc).alloc (Nat.le_refl _) (.cells #[] 71)).grown hgrow (by simp) (fun g hg => by simp [Value.ownBlock] at hg; omega)
              clear hown hgrow
              obtain ⟨Ar, cr, rfl, -, -⟩ := hO.open
              rw [List.length_drop] at hO ⊢
              have HO5 := Lib.hid hO
              clear hO
              go_wp2
              go_meet
              exact ⟨Ar, cr, by rw [show l.length - cap = 0 by omega], HO5.out, b5⟩
            · have hcd := (HL8.out.2.alloc (.cells #[] 71)).cutDrop (cap := cap) k hcap
              unfold cutAt at hcd
              rw [if_neg hck] at hcd
              have HQ := Lib.hid hcd
              clear hcd
              go_wp2_with (at_builtin; refine stop_mk ?_)
              refine stop_un ?_
              refine wpList_append_flat (k := 5) (enc := cpL) (l := l.drop k) rfl _ _ 37 rfl wc.heap.size 71 i0 _ 48 Tryz.underlying37 hi hz0 hz1 hz2 rfl (by decide) (.slice (some ⟨wc.heap.size, 0, none⟩) 0 0) 0 [] rfl (World.ownsRow_made (size := 5) (e := 71) wc #[] 0 (Nat.le_refl _) (Nat.zero_le _) rfl) (A.map (·.add (k * 5))) (cap - k) (by rw [List.length_drop]; rfl) (fun h => by have := HA.out (by simpa using h); omega) (HQ.out) cpL_len (cp_one _) (by rw [List.length_drop]; unfold maxLen; omega) (by rw [List.length_drop]; omega) (by simp) ?_
              intro v5 w5 hown hgrow
              rw [Nat.zero_add, List.nil_append] at hown
              have hO : CpOwn wc.heap.size w5 v5 (l.drop k) := hown
              have b5 := ((Below.refl wc.heap.size wc).alloc (Nat.le_refl _) (.cells #[] 71)).grown hgrow (by simp) (fun g hg => by simp [Value.ownBlock] at hg; omega)
              clear hown hgrow
              obtain ⟨Ar, cr, rfl, -, -⟩ := hO.open
              rw [List.length_drop] at hO ⊢
              have HO5 := Lib.hid hO
              clear hO
              go_wp2
              go_meet
              exact ⟨Ar, cr, rfl, HO5.out, b5⟩
          case rest =>
          obtain ⟨Ar, cr, rfl, horest, b5⟩ := hcut
          replace f2 := f2.below h2.1 b5
          replace h2 := h2.below b5
          replace f8 := f8.below h8.1 b5
          replace h8 := h8.below b5
          replace h9 := h9.below b5
          have hc8 := (own_cutO HL8.out.1 hple).below b5
          have hkc : k ≤ c' := Nat.le_trans hple (own_cap HL8.out.1)
          replace b0 := next b0 b5
          clear HL8 p0 p1 p2 h0 z0
          have HW9 := Lib.hid h9.1
          have HRT := Lib.hid (show _ ∧ _ from ⟨fun k hk => (horest.lt k hk).1, fun k hk => (horest.lt k hk).2⟩)
          have hkl : (l.take k).length = k := by rw [List.length_take, Nat.min_eq_left hple]
          have HKL := Lib.hid hkl
          have HW1 := Lib.hid (show w1.heap.size ≤ w9.heap.size from HT9.out)
          clear hkl b5
          go_upto_region 11 with (fail)
          refine wp_region_tq (fun x => Below w.heap.size w x) (.read 0 (.read 2 (.read 7 (.two 1 4 (.read 3 (.one 4 (.one 5 (.one 6 (.one 8 (.read 9 (.one 10 .done))))))) (.two 1 5 (.read 3 (.one 5 (.one 6 (.one 8 (.read 9 (.one 10 .done)))))) (.one 1 (.read 3 (.one 6 (.one 8 (.read 9 (.one 10 .done))))))))))) (by kernel_rfl) (by kernel_rfl) (fun _ _ _ _ _ h => h) (by kernel_rfl) (by decide) b0.drew ?_
          intro hHeld
          generalize hgd : wc.drew = wd at hHeld ⊢
          have HWD := Lib.hid (show w9.heap.size < wd.heap.size by rw [← hgd]; exact h8.1)
          replace h8 : Holds wc.drew _ _ := h8
          replace f8 : Loose wc.drew _ := f8
          replace h2 : Holds wc.drew _ _ := h2
          replace f2 : Loose wc.drew _ := f2
          replace h9 : Holds wc.drew _ _ := h9
          replace hc8 : CpOwn _ wc.drew _ _ := hc8
          replace horest : CpOwn _ wc.drew _ _ := horest
          rw [hgd] at h8 f8 h2 f2 h9 hc8 horest
          clear hgd
          repeat (first
            | (refine tq_reads (by simp only [List.getElem?_toArray, List.getElem?_cons_succ, List.getElem?_cons_zero]; first | done | rfl) (by rfl) ?_; apply Exists.intro; apply And.intro; (focus (intro w hSw; skip; go_simp; (try with_reducible rfl); done)); (try simp only [Act.put, List.setIfInBounds_toArray, List.set_cons_zero, List.set_cons_succ]))
            | (refine tq_two ?_ ?_)
            | (refine tq_three ?_ ?_ ?_)
            | (refine tq_one (by simp only [List.getElem?_toArray, List.getElem?_cons_succ, List.getElem?_cons_zero]; first | done | rfl) (by rfl) (fun K hK => ?_); refine wp_append_flat_at (k := 5) (enc := cpL) (l := [⟨e, page, false⟩]) _ _ 37 rfl w1.heap.size 71 i0 _ 48 Tryz.underlying37 hi hz0 hz1 hz2 rfl (by decide) (.slice A' k c') k (cellsOf cpL (l.take k)) rfl (own_k HKL.out hc8) (some ⟨wd.heap.size, 0, none⟩) 1 rfl (fun h => by cases h) (hold_flat (c := ⟨e, page, false⟩) hx) cpL_len (cp_one _) (by simp only [List.length_singleton]; unfold maxLen; omega) (by simp only [List.length_singleton]; omega) (by have := HW1.out; have := h8.1; omega) ?_; intro v6 w6 hown6 hgrow6 hat6; (have HTk : ∀ r, (Value.slice A' k c').ownBlock = some r → r < w9.heap.size := fun r hr => HT.out r (by rw [own_blk A' l.length k c' c']; exact hr)); (have N8 : some w9.heap.size ≠ (Value.slice A' k c').ownBlock := fun h => by have := HTk _ h.symm; omega); (have N2 : some (w.heap.size + 1 + 1) ≠ (Value.slice A' k c').ownBlock := fun h => by have := (hc8.lt _ h.symm).1; omega); replace f2 := grown_loose f2 h2.1 hgrow6 N2; replace h2 := grown_holds h2 hgrow6 N2; replace f8 := grown_loose f8 h8.1 hgrow6 N8; replace h8 := grown_holds h8 hgrow6 N8; (replace horest := World.ownsRow.kept horest hgrow6 (own_two (fun r hr h => by have := HTk r h; have := HRT.out.1 r hr; have := HBQ.out; omega))); (have hO6 : CpOwn w1.heap.size w6 v6 (l.take k ++ [⟨e, page, false⟩]) := k_own (k := k + 1) (by rw [List.length_append, HKL.out]; rfl) (by rw [cellsOf_append]; exact hown6)); obtain ⟨A6, c6, rfl, -, -⟩ := hO6.open; (have hk6 : (l.take k ++ [(⟨e, page, false⟩ : M.Cp)]).length = k + 1 := by rw [List.length_append, HKL.out]; rfl); rw [hk6] at hO6 hat6 ⊢; (have HWS := Lib.hid h8.1); (have HQ6 : Hid (∀ r, (Value.slice A6 (k + 1) c6).ownBlock = some r → r < w9.heap.size ∨ wd.heap.size < r) := Lib.hid (fun r hr => by rcases hat6 with h | h <;> rw [h] at hr; exact .inl (HTk r hr); right; have h1 := hx.1; cases hr; omega)); refine hK.out _ _ _ (fun _ h => h) (hHeld.grown hgrow6 hHeld.size (fun r hr => by have := (hc8.lt r hr).1; omega)) ?_; clear hK hHeld hown6 hgrow6 hat6 hc8 h9 hx fx HTk N8 N2; intro hHeld; (try simp only [Act.put, List.setIfInBounds_toArray, List.set_cons_zero, List.set_cons_succ]))
            | (refine tq_one (by simp only [List.getElem?_toArray, List.getElem?_cons_succ, List.getElem?_cons_zero]; first | done | rfl) (by rfl) (fun K hK => ?_); refine wp_append_flat_at (k := 5) (enc := cpL) (l := l.drop k) _ _ 37 rfl w1.heap.size 71 i0 _ 48 Tryz.underlying37 hi hz0 hz1 hz2 rfl (by decide) (.slice A6 (k + 1) c6) (k + 1) (cellsOf cpL (l.take k ++ [⟨e, page, false⟩])) rfl (own_k hk6 hO6) Ar cr (by rw [List.length_drop]; rfl) (CpOwn.nilc horest) (CpOwn.cps horest).1 cpL_len (cp_one _) (by rw [List.length_drop]; unfold maxLen; omega) (by rw [List.length_drop]; omega) (by have := HW1.out; have := h8.1; omega) ?_; intro v8 w8 hown8 hgrow8 hat8; (have hr8 : ∀ r, (Value.slice A6 (k + 1) c6).ownBlock = some r → r ≠ w9.heap.size ∧ w1.heap.size ≤ r := fun r hr => ⟨fun e => by have h1 := HQ6.out r hr; have h2 := HWD.out; omega, (hO6.lt r hr).1⟩); (have N8 : some w9.heap.size ≠ (Value.slice A6 (k + 1) c6).ownBlock := fun h => (hr8 _ h.symm).1 rfl); (have N2 : some (w.heap.size + 1 + 1) ≠ (Value.slice A6 (k + 1) c6).ownBlock := fun h => by have := (hr8 _ h.symm).2; omega); replace f2 := grown_loose f2 h2.1 hgrow8 N2; replace h2 := grown_holds h2 hgrow8 N2; replace f8 := grown_loose f8 h8.1 hgrow8 N8; replace h8 := grown_holds h8 hgrow8 N8; rw [← cellsOf_append, List.append_assoc, List.singleton_append, List.length_drop, show k + 1 + (l.length - k) = l.length + 1 by omega] at hown8; (have hO8 : CpOwn w1.heap.size w8 v8 (M.putAt l k ⟨e, page, false⟩) := k_own (M.putAt_len _ _ _ hple) hown8); obtain ⟨A8, c8, rfl, -, -⟩ := hO8.open; rw [M.putAt_len _ _ _ hple] at hO8 hat8 ⊢; (have HNE : Hid ((Value.slice A8 (l.length + 1) c8).ownBlock ≠ some w9.heap.size) := Lib.hid (fun h => by rcases hat8 with h' | h' <;> rw [h'] at h; exact N8 h.symm; have h1 := HWS.out; have h2 := Option.some.inj h; omega)); (have HO8 := Lib.hid hO8); refine hK.out _ _ _ (fun _ h => h) (hHeld.grown hgrow8 hHeld.size (fun r hr => by have := (hr8 r hr).2; omega)) ?_; clear hK hHeld hown8 hgrow8 hat8 hr8 N8 N2 hO8 horest; intro hHeld; (try simp only [Act.put, List.setIfInBounds_toArray, List.set_cons_zero, List.set_cons_succ]))
            | (refine tq_one (by simp only [List.getElem?_toArray, List.getElem?_cons_succ, List.getElem?_cons_zero]; first | done | rfl) (by rfl) (fun K hK => ?_); go_simp; refine hK.out _ _ _ (fun _ h => h) (hHeld.alloc hHeld.size _) ?_; clear hK; intro hS; refine tq_alloc ?_ hS; clear hS; intro wA bA hx fx hS; have hge := hHeld.size; clear hHeld; have hHeld := hS; replace f2 := f2.below h2.1 bA; replace h2 := h2.below bA; have hG8 := h8.1; replace f8 := f8.below h8.1 bA; replace h8 := h8.below bA; replace h9 := h9.below bA; replace hc8 := hc8.below bA; replace horest := horest.below bA; clear hS bA; (try simp only [Act.put, List.setIfInBounds_toArray, List.set_cons_zero, List.set_cons_succ]))
            | (refine tq_one (by simp only [List.getElem?_toArray, List.getElem?_cons_succ, List.getElem?_cons_zero]; first | done | rfl) (by rfl) (fun K hK => ?_); obtain ⟨y0, y1, y2⟩ := f8.fz3; obtain ⟨x0, x1, x2⟩ := h8.at3; (try (obtain ⟨k0, k1, k2, k3, k4⟩ := h9.at5)); go_simp; refine hK.out _ _ _ (fun _ h => h) (by first | exact hHeld | exact farM hHeld (by have := HW.out; omega) _ _) ?_; clear hK hHeld; intro hHeld; (try simp only [Act.put, List.setIfInBounds_toArray, List.set_cons_zero, List.set_cons_succ]))
            | (refine tq_end ?_; obtain ⟨y0, y1, y2⟩ := f8.fz3; obtain ⟨x0, x1, x2⟩ := h8.at3; obtain ⟨r0, r1, r2⟩ := h2.at3; obtain ⟨s0, s1, s2⟩ := f2.fz3; have zz2 := h2.1; have hw9 := HW.out; have en1 : ¬ (w9.heap.size = w.heap.size + 1 + 1) := (by omega); have en2 : ¬ (w.heap.size + 1 + 1 = w9.heap.size) := (by omega); go_wp2; exact bodyPost_ret (results_spr name owner (.slice A8 (l.length + 1) c8) true (w.heap.size + 1 + 1) _ _ rfl rfl ((h2.otherM en2).wr3 _ _ _)) rfl ⟨WkRet.mk2 HE.out (M.putAt_len _ _ _ hple) (((((HO8.out.apartN HNE.out _).off zb9 _).off zb9 _).off zb9 _).mono (by omega)), far_3 hHeld (by omega) _ _ _⟩))

end Go.Proofs.YtdcdalbbjfjadaaGreatDoor
