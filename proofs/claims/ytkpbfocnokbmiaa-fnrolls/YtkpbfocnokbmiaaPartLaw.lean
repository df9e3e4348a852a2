/- Proved: the law FnRolls returns true at every list of bytes, and the list reads afterwards as before; no condition. -/
import Derived.Test.YtkpbfocnokbmiaaPart13
import Derived.Test.YtkpbfocnokbmiaaPart22
import Derived.Test.YtkpbfocnokbmiaaPart21
import Derived.Test.YtkpbfocnokbmiaaPart24
import Derived.Lib.SmallJoins
namespace Go.Proofs.Ytkpbfocnokbmiaa.fnRolls
open Go.ChangeShapes Go.WideShapes Go.ChangeAt Go.RowKit Go.Joins Go.Deep
open Go.ChangeMaps (open_string shut_string)
set_option linter.unusedVariables false

set_option maxRecDepth 100000 in
set_option maxHeartbeats 16000000 in
theorem walk (a0 : Option Addr) (len0 cap0 : Nat) (w : World) (hc : CodeOk w.heap.size w a0 len0) :
    Calls Try.prog 3 #[.slice a0 len0 cap0] w fun e w' => e = .returned (.bool true) ∧ Below w.heap.size w w' := by
  have HC := Lib.hid hc
  clear hc
  by_cases hbig : 4096 < len0
  · go_enter Try.func3, Try.ntmps3
    go_wp2_with fail
    refine (big_any a0 len0 cap0 _).mono ?_
    rintro r w' ⟨rfl, rfl⟩
    go_wp2
    go_ret
    exact ⟨rfl, Below.refl _ _⟩
  · have hl4 : len0 ≤ 4096 := by omega
    go_enter Try.func3, Try.ntmps3
    go_wp2_with fail
    refine (big_any a0 len0 cap0 _).mono ?_
    rintro r w' ⟨rfl, rfl⟩
    go_wp2_with fail
    refine (DrawReignAt_any _ a0 len0 cap0 hl4 HC.out).mono ?_
    rintro e0 x1 ⟨b, r, A, l, c, i, rfl, ho, ⟨hll, htx⟩, b1⟩
    have HR := Lib.hid (ens_of ho)
    have HCAP := Lib.hid (ens_cap ho)
    have HN := Lib.hid (ens_nilc ho)
    have HP : Hid (∀ e ∈ l, enIn 1048576 e) := Lib.hid (fun e he => ⟨by have := (htx e he).1; omega, by have := (htx e he).2; omega⟩)
    have hl20 : l.length ≤ 1048576 := by omega
    have hm := (Mem.start w).below b1
    clear b1 ho htx hbig
    replace hm := hm.new (roA b r A l.length c) 26
    replace HR := Lib.hid (HR.out.alloc (.cells (roA b r A l.length c) 26))
    obtain ⟨V, hV⟩ : ∃ V, M.reignAt b r l i = V := ⟨_, rfl⟩
    obtain ⟨qe, t, hQ⟩ : ∃ qe t, M.entryAns b r l i = (qe, t) := ⟨_, _, rfl⟩
    obtain ⟨q, hT⟩ : ∃ q, M.tail b r l i = q := ⟨_, rfl⟩
    obtain ⟨La, hL⟩ : ∃ La, M.lastIn b r l = La := ⟨_, rfl⟩
    obtain ⟨ok, hO⟩ : ∃ ok, M.rollOk b r l = ok := ⟨_, rfl⟩
    have HV := Lib.hid hV
    have HQ := Lib.hid hQ
    have HTL := Lib.hid hT
    have HLA := Lib.hid hL
    have HOK := Lib.hid hO
    have HQL : Hid (q.length ≤ 1048576) := Lib.hid (by have h := M.tail_len b r l i; rw [hT] at h; omega)
    clear hV hQ hT hL hO
    obtain ⟨p0, p1, p2⟩ := (hm.get (x1.heap.size) ((roA b r A l.length c)) (by simp)).three
    have pz := (hm.get (x1.heap.size) ((roA b r A l.length c)) (by simp)).1
    have hcall := implReignAt b r A l c i _ HR.out hl20 HP.out HCAP.out
    rw [HV.out] at hcall
    have HCALL := Lib.hid hcall
    clear hcall
    go_wp2_with fail
    refine HCALL.out.mono ?_
    rintro e1 x2 ⟨rfl, b2⟩
    replace hm := hm.below b2
    replace HR := Lib.hid (HR.out.below b2)
    clear b2 HCALL
    clear p0 p1 p2 pz
    obtain ⟨p0, p1, p2⟩ := (hm.get (x1.heap.size) ((roA b r A l.length c)) (by simp)).three
    have pz := (hm.get (x1.heap.size) ((roA b r A l.length c)) (by simp)).1
    have hcall := implEntryAt b r A l c i _ HR.out hl20 HP.out HCAP.out
    rw [HQ.out] at hcall
    have HCALL := Lib.hid hcall
    clear hcall
    go_wp2_with fail
    refine HCALL.out.mono ?_
    rintro e1 x3 ⟨rfl, b2⟩
    replace hm := hm.below b2
    replace HR := Lib.hid (HR.out.below b2)
    clear b2 HCALL
    clear p0 p1 p2 pz
    replace hm := hm.new (enC qe) 37
    replace HR := Lib.hid (HR.out.alloc (.cells (enC qe) 37))
    obtain ⟨p0, p1, p2⟩ := (hm.get (x1.heap.size) ((roA b r A l.length c)) (by simp)).three
    have pz := (hm.get (x1.heap.size) ((roA b r A l.length c)) (by simp)).1
    go_upto_region 6 with (fail)
    generalize hw4 : x3.alloc (.cells (enC qe) 37) = x4 at hm HR p0 p1 p2 pz ⊢
    clear hw4
    have hcall := implTail b r A l c i x4 HR.out hl20 HP.out HCAP.out
    rw [HTL.out] at hcall
    have HCALL := Lib.hid hcall
    clear hcall
    go_wp2_with fail
    refine HCALL.out.mono ?_
    rintro e1 x5 ⟨AT, cT, rfl, oT, b2⟩
    have HT := Lib.hid (ens_of oT)
    clear oT
    replace hm := hm.below b2
    replace HR := Lib.hid (HR.out.below b2)
    clear b2 HCALL
    clear p0 p1 p2 pz
    obtain ⟨p0, p1, p2⟩ := (hm.get (x1.heap.size) ((roA b r A l.length c)) (by simp)).three
    have pz := (hm.get (x1.heap.size) ((roA b r A l.length c)) (by simp)).1
    have hcall := implLastIn b r A l c _ HR.out hl20 HP.out
    rw [HLA.out] at hcall
    have HCALL := Lib.hid hcall
    clear hcall
    go_wp2_with fail
    refine HCALL.out.mono ?_
    rintro e1 x6 ⟨rfl, b2⟩
    replace hm := hm.below b2
    replace HR := Lib.hid (HR.out.below b2)
    replace HT := Lib.hid (HT.out.below b2)
    clear b2 HCALL
    clear p0 p1 p2 pz
    have HCC := Lib.hid (HC.out.later hm.1)
    go_wp2_with fail
    refine (DrawNewer_any _ a0 len0 cap0 hl4 HCC.out).mono ?_
    rintro e1 x7 ⟨n1, n2, n3, n4, rfl, b2⟩
    replace hm := hm.below b2
    replace HR := Lib.hid (HR.out.below b2)
    replace HT := Lib.hid (HT.out.below b2)
    clear b2 HCC
    obtain ⟨N, hNW⟩ : ∃ N, (decide (n4 < n2) || (decide (n2 = n4) && decide (n3 ≤ n1))) = N := ⟨_, rfl⟩
    have HNW := Lib.hid hNW
    clear hNW
    have HC1 : Hid (∀ x, Below x7.heap.size x7 x → Calls Try.prog 20 #[roV b r A l.length c, .int .i64 i] x fun e w' => e = .returned (.int .i64 V) ∧ Below x.heap.size x w') := Lib.hid (fun x hb => by
      have hc := specReignAt b r A l c i x (HR.out.below hb) hl20 HP.out
      rw [HV.out] at hc
      exact hc)
    have HC2 : Hid (∀ x, Below x7.heap.size x7 x → Calls Try.prog 22 #[roV b r A l.length c, .int .i64 i] x (EnsRet x q)) := Lib.hid (fun x hb => by
      have hc := specTail b r A l c i x (HR.out.below hb) hl20 HP.out HCAP.out HN.out
      rw [HTL.out] at hc
      exact hc)
    have HC3 : Hid (∀ x, Below x7.heap.size x7 x → Calls Try.prog 23 #[roV b r A l.length c] x fun e w' => e = .returned (.int .i64 La) ∧ Below x.heap.size x w') := Lib.hid (fun x hb => by
      have hc := specLastIn b r A l c x (HR.out.below hb) hl20 HP.out
      rw [HLA.out] at hc
      exact hc)
    have HC4 : Hid (∀ x, Below x7.heap.size x7 x → Calls Try.prog 24 #[roV b r A l.length c] x fun e w' => e = .returned (.bool ok) ∧ Below x.heap.size x w') := Lib.hid (fun x hb => by
      have hc := implRollOk b r A l c x (HR.out.below hb) hl20 HP.out
      rw [HOK.out] at hc
      exact hc)
    have HC5 : Hid (∀ x, Below x7.heap.size x7 x → Calls Try.prog 25 #[roV b r A l.length c] x fun e w' => e = .returned (.bool ok) ∧ Below x.heap.size x w') := Lib.hid (fun x hb => by
      have hc := specRollOk b r A l c x (HR.out.below hb) hl20 HP.out
      rw [HOK.out] at hc
      exact hc)
    have HC6 : Hid (∀ x, Calls Try.prog 26 #[.int .i64 n1, .int .i64 n2, .int .i64 n3, .int .i64 n4] x fun e w' => e = .returned (.bool N) ∧ Below x.heap.size x w') := Lib.hid (fun x => by
      have hc := implNewer n1 n2 n3 n4 x
      rw [HNW.out] at hc
      exact hc.mono (fun _ _ ⟨h1, h2⟩ => ⟨h1, by rw [← h2]; exact Below.refl _ _⟩))
    have HC7 : Hid (∀ x, Calls Try.prog 27 #[.int .i64 n1, .int .i64 n2, .int .i64 n3, .int .i64 n4] x fun e w' => e = .returned (.bool N) ∧ Below x.heap.size x w') := Lib.hid (fun x => by
      have hc := specNewer n1 n2 n3 n4 x
      rw [HNW.out] at hc
      exact hc.mono (fun _ _ ⟨h1, h2⟩ => ⟨h1, by rw [← h2]; exact Below.refl _ _⟩))
    have HC8 : Hid (∀ x, Calls Try.prog 26 #[.int .i64 n1, .int .i64 n2, .int .i64 n1, .int .i64 n2] x fun e w' => e = .returned (.bool true) ∧ Below x.heap.size x w') := Lib.hid (fun x => by
      have hc := implNewer n1 n2 n1 n2 x
      have e : (decide (n2 < n2) || (decide (n2 = n2) && decide (n1 ≤ n1))) = true := by simp
      rw [e] at hc
      exact hc.mono (fun _ _ ⟨h1, h2⟩ => ⟨h1, by rw [← h2]; exact Below.refl _ _⟩))
    have HC9 : Hid (N = false → ∀ x, Calls Try.prog 26 #[.int .i64 n3, .int .i64 n4, .int .i64 n1, .int .i64 n2] x fun e w' => e = .returned (.bool true) ∧ Below x.heap.size x w') := Lib.hid (fun hf x => by
      have hc := implNewer n3 n4 n1 n2 x
      have e : (decide (n2 < n4) || (decide (n4 = n2) && decide (n1 ≤ n3))) = true := by
        have h := HNW.out
        rw [hf] at h
        simp only [Bool.or_eq_false_iff, Bool.and_eq_false_iff, decide_eq_false_iff_not] at h
        simp only [Bool.or_eq_true, Bool.and_eq_true, decide_eq_true_eq]
        omega
      rw [e] at hc
      exact hc.mono (fun _ _ ⟨h1, h2⟩ => ⟨h1, by rw [← h2]; exact Below.refl _ _⟩))
    have hv : (V != V) = false := by simp
    have hla : (La != La) = false := by simp
    have hoo : (ok != ok) = false := by simp
    have hnn : (N != N) = false := by simp
    obtain ⟨p0, p1, p2⟩ := (hm.get (x1.heap.size) ((roA b r A l.length c)) (by simp)).three
    have pz := (hm.get (x1.heap.size) ((roA b r A l.length c)) (by simp)).1
    go_upto_region 9 with (fail)
    refine wp_region_seq (fun w' => Below x7.heap.size x7 w') [(0, true), (1, true), (2, true), (3, false), (4, true), (5, true), (6, true), (7, true), (8, true), (9, false), (10, false), (11, true), (12, true), (13, true), (14, true), (15, true), (16, false), (17, true), (18, true), (19, true), (20, true), (22, true), (21, false), (23, false), (24, true), (25, true), (26, true), (27, true), (28, true), (29, true), (30, true), (32, true), (33, true), (34, true), (35, true), (31, false), (36, false), (37, true), (38, true)] (by kernel_rfl) (by kernel_rfl) (fun _ _ _ _ _ h => h) (by kernel_rfl) (by decide) (Below.refl _ _).drew ?_
    intro hHeld
    repeat (first
      | (refine seq_skip (by simp only [List.getElem?_toArray, List.getElem?_cons_succ, List.getElem?_cons_zero]; first | done | rfl) (by rfl) ?_; (try simp only [Act.put, List.setIfInBounds_toArray, List.set_cons_zero, List.set_cons_succ]))
      | (refine seq_reads (by simp only [List.getElem?_toArray, List.getElem?_cons_succ, List.getElem?_cons_zero]; first | done | rfl) (by rfl) ?_; apply Exists.intro; apply And.intro; (focus (intro w hSw; obtain ⟨hcS, -⟩ := bcell hSw; go_simp; (try with_reducible rfl); done)); (try simp only [Act.put, List.setIfInBounds_toArray, List.set_cons_zero, List.set_cons_succ]))
      | (refine seq_pass (by simp only [List.getElem?_toArray, List.getElem?_cons_succ, List.getElem?_cons_zero]; first | done | rfl) (by rfl) hHeld ?_; clear hHeld; intro hHeld; (try simp only [Act.put, List.setIfInBounds_toArray, List.set_cons_zero, List.set_cons_succ]))
      | ((have hzz := HT1.out); clear hzz; refine seq_call (by simp only [List.getElem?_toArray, List.getElem?_cons_succ, List.getElem?_cons_zero]; first | done | rfl) (by rfl) (fun K hK => ?_); go_simp; go_at_call 21; refine (likeList_same AT A3 q q.length q.length cT c3 _ rfl rfl (HT.out.below hHeld) HT1.out HQL.out).mono ?_; rintro r w1 ⟨rfl, b1⟩; go_simp; refine hK.out _ _ (next hHeld b1) ?_; clear hK hHeld; intro hHeld; (try simp only [Act.put, List.setIfInBounds_toArray, List.set_cons_zero, List.set_cons_succ]))
      | (refine seq_call (by simp only [List.getElem?_toArray, List.getElem?_cons_succ, List.getElem?_cons_zero]; first | done | rfl) (by rfl) (fun K hK => ?_); go_simp; go_at_call 20; refine (HC1.out _ hHeld).mono ?_; rintro r w1 ⟨rfl, b1⟩; go_simp; refine hK.out _ _ (next hHeld b1) ?_; clear hK hHeld; intro hHeld; (try simp only [Act.put, List.setIfInBounds_toArray, List.set_cons_zero, List.set_cons_succ]))
      | (refine seq_call (by simp only [List.getElem?_toArray, List.getElem?_cons_succ, List.getElem?_cons_zero]; first | done | rfl) (by rfl) (fun K hK => ?_); go_simp; go_at_call 22; refine (HC2.out _ hHeld).mono ?_; rintro r w1 ⟨A3, c3, rfl, o3, b1⟩; (have HT1 := Lib.hid (ens_of o3)); clear o3; go_simp; refine hK.out _ _ (next hHeld b1) ?_; clear hK hHeld; intro hHeld; (try simp only [Act.put, List.setIfInBounds_toArray, List.set_cons_zero, List.set_cons_succ]))
      | (refine seq_call (by simp only [List.getElem?_toArray, List.getElem?_cons_succ, List.getElem?_cons_zero]; first | done | rfl) (by rfl) (fun K hK => ?_); go_simp; go_at_call 23; refine (HC3.out _ hHeld).mono ?_; rintro r w1 ⟨rfl, b1⟩; go_simp; refine hK.out _ _ (next hHeld b1) ?_; clear hK hHeld; intro hHeld; (try simp only [Act.put, List.setIfInBounds_toArray, List.set_cons_zero, List.set_cons_succ]))
      | (refine seq_call (by simp only [List.getElem?_toArray, List.getElem?_cons_succ, List.getElem?_cons_zero]; first | done | rfl) (by rfl) (fun K hK => ?_); go_simp; go_at_call 24; refine (HC4.out _ hHeld).mono ?_; rintro r w1 ⟨rfl, b1⟩; go_simp; refine hK.out _ _ (next hHeld b1) ?_; clear hK hHeld; intro hHeld; (try simp only [Act.put, List.setIfInBounds_toArray, List.set_cons_zero, List.set_cons_succ]))
      | (refine seq_call (by simp only [List.getElem?_toArray, List.getElem?_cons_succ, List.getElem?_cons_zero]; first | done | rfl) (by rfl) (fun K hK => ?_); go_simp; go_at_call 25; refine (HC5.out _ hHeld).mono ?_; rintro r w1 ⟨rfl, b1⟩; go_simp; refine hK.out _ _ (next hHeld b1) ?_; clear hK hHeld; intro hHeld; (try simp only [Act.put, List.setIfInBounds_toArray, List.set_cons_zero, List.set_cons_succ]))
      | (refine seq_call (by simp only [List.getElem?_toArray, List.getElem?_cons_succ, List.getElem?_cons_zero]; first | done | rfl) (by rfl) (fun K hK => ?_); go_simp; go_at_call 26; refine (HC6.out _).mono ?_; rintro r w1 ⟨rfl, b1⟩; go_simp; refine hK.out _ _ (next hHeld b1) ?_; clear hK hHeld; intro hHeld; (try simp only [Act.put, List.setIfInBounds_toArray, List.set_cons_zero, List.set_cons_succ]))
      | (refine seq_call (by simp only [List.getElem?_toArray, List.getElem?_cons_succ, List.getElem?_cons_zero]; first | done | rfl) (by rfl) (fun K hK => ?_); go_simp; go_at_call 27; refine (HC7.out _).mono ?_; rintro r w1 ⟨rfl, b1⟩; go_simp; refine hK.out _ _ (next hHeld b1) ?_; clear hK hHeld; intro hHeld; (try simp only [Act.put, List.setIfInBounds_toArray, List.set_cons_zero, List.set_cons_succ])))
    refine seq_end ?_
    clear p0 p1 p2 pz hv hla hoo hnn HC1 HC2 HC3 HC4 HC5 HC7
    replace hm := hm.below hHeld
    replace HR := Lib.hid (HR.out.below hHeld)
    replace HT := Lib.hid (HT.out.below hHeld)
    clear hHeld
    obtain ⟨p0, p1, p2⟩ := (hm.get (x1.heap.size) ((roA b r A l.length c)) (by simp)).three
    have pz := (hm.get (x1.heap.size) ((roA b r A l.length c)) (by simp)).1
    have hcall := specEntryAt b r A l c i w1 HR.out hl20 HP.out
    rw [HQ.out] at hcall
    have HCALL := Lib.hid hcall
    clear hcall
    go_wp2_with fail
    refine HCALL.out.mono ?_
    rintro e1 x8 ⟨rfl, b2⟩
    replace hm := hm.below b2
    replace HR := Lib.hid (HR.out.below b2)
    replace HT := Lib.hid (HT.out.below b2)
    clear b2 HCALL
    clear p0 p1 p2 pz
    replace hm := hm.new (enC qe) 37
    replace HR := Lib.hid (HR.out.alloc (.cells (enC qe) 37))
    replace HT := Lib.hid (HT.out.alloc (.cells (enC qe) 37))
    go_upto_region 12 with (fail)
    generalize hw9 : x8.alloc (.cells (enC qe) 37) = x9 at hm HR HT ⊢
    clear hw9
    obtain ⟨u0, u1, u2, u3, u4, u5, u6, u7, u8, u9⟩ := (hm.get (x3.heap.size) ((enC qe)) (by simp)).ten
    have uz := (hm.get (x3.heap.size) ((enC qe)) (by simp)).1
    obtain ⟨v0, v1, v2, v3, v4, v5, v6, v7, v8, v9⟩ := (hm.get (x8.heap.size) ((enC qe)) (by simp)).ten
    have vz := (hm.get (x8.heap.size) ((enC qe)) (by simp)).1
    have htt : (t != t) = false := by simp
    rcases hN : N with _ | _
    · have HNF := Lib.hid (HC9.out hN)
      subst hN
      go_wp2_with (refine wpList_run (by rfl) (enneq_read (c := qe) rfl rfl rfl _) ?_)
      refine (HC6.out _).mono ?_
      rintro e1 x10 ⟨rfl, b2⟩
      replace hm := hm.below b2
      replace HR := Lib.hid (HR.out.below b2)
      replace HT := Lib.hid (HT.out.below b2)
      clear b2
      go_wp2_with fail
      refine (HNF.out _).mono ?_
      rintro e1 x11 ⟨rfl, b2⟩
      replace hm := hm.below b2
      replace HR := Lib.hid (HR.out.below b2)
      replace HT := Lib.hid (HT.out.below b2)
      clear b2
      go_wp2_with fail
      refine (HC8.out _).mono ?_
      rintro e1 x12 ⟨rfl, b2⟩
      replace hm := hm.below b2
      replace HR := Lib.hid (HR.out.below b2)
      replace HT := Lib.hid (HT.out.below b2)
      clear b2
      clear u0 u1 u2 u3 u4 u5 u6 u7 u8 u9 uz v0 v1 v2 v3 v4 v5 v6 v7 v8 v9 vz htt
      obtain ⟨p0, p1, p2⟩ := (hm.get (x1.heap.size) ((roA b r A l.length c)) (by simp)).three
      have pz := (hm.get (x1.heap.size) ((roA b r A l.length c)) (by simp)).1
      rcases hok : ok with _ | _
      · subst hok
        have hv1 : V = -1 := by rw [← HV.out]; unfold M.reignAt; rw [if_neg (by rw [HOK.out]; simp)]
        have hq1 : q = [] := by rw [← HTL.out]; exact M.tail_none (.inl HOK.out)
        have hl1 : La = -1 := by rw [← HLA.out]; unfold M.lastIn; rw [if_neg (by rw [HOK.out]; simp)]
        have ht1 : t = false := by
          have h := HQ.out
          unfold M.entryAns at h
          rw [M.entryAt_none (.inl HOK.out)] at h
          exact (congrArg Prod.snd h).symm
        subst hv1 hq1 hl1 ht1
        have hcall := specRollOk b r A l c x12 HR.out hl20 HP.out
        rw [HOK.out] at hcall
        have HCALL := Lib.hid hcall
        clear hcall
        go_wp2_with fail
        refine HCALL.out.mono ?_
        rintro e1 x13 ⟨rfl, b2⟩
        replace hm := hm.below b2
        clear b2 HCALL p0 p1 p2 pz
        have HM := Lib.hid hm.1
        clear hm
        go_wp2
        go_ret
        exact ⟨rfl, HM.out⟩
      · subst hok
        have hcall := specRollOk b r A l c x12 HR.out hl20 HP.out
        rw [HOK.out] at hcall
        have HCALL := Lib.hid hcall
        clear hcall
        obtain ⟨g0, g1, -⟩ := M.rollOk_parts HOK.out
        have HLL : Hid (La = b + l.length) := Lib.hid (by rw [← HLA.out]; unfold M.lastIn; rw [if_pos HOK.out])
        go_wp2_with fail
        refine HCALL.out.mono ?_
        rintro e1 x13 ⟨rfl, b2⟩
        replace hm := hm.below b2
        replace HR := Lib.hid (HR.out.below b2)
        replace HT := Lib.hid (HT.out.below b2)
        clear b2 HCALL p0 p1 p2 pz
        obtain ⟨p0, p1, p2⟩ := (hm.get (x1.heap.size) ((roA b r A l.length c)) (by simp)).three
        have pz := (hm.get (x1.heap.size) ((roA b r A l.length c)) (by simp)).1
        by_cases hib : b < i
        · by_cases hil : i ≤ La
          · obtain ⟨k, hk, hi⟩ : ∃ k : Nat, k < l.length ∧ i = b + k + 1 := ⟨(i - b - 1).toNat, by have := HLL.out; omega, by omega⟩
            subst hi
            have hq := HQ.out
            unfold M.entryAns at hq
            rw [M.entryAt_at hk HOK.out] at hq
            obtain ⟨hqe, hqt⟩ := Prod.mk.inj hq
            have hv1 : V = qe.reign := by rw [← HV.out, ← hqe]; unfold M.reignAt; rw [if_pos HOK.out]; exact M.reignIn_at hk
            have hqd : q = l.drop k := by rw [← HTL.out]; exact M.tail_at (by omega) HOK.out
            have hqn : q.length = l.length - k := by rw [hqd, List.length_drop]
            have hq0 : 0 < q.length := by omega
            have hqh : q[0] = qe := by
              have e : q[0] = (l.drop k)[0]'(by rw [List.length_drop]; omega) := by simp only [hqd]
              rw [e, ← hqe]
              simp
            obtain ⟨W, hW⟩ : ∃ W, M.reignAt b r l (b + k) = W := ⟨_, rfl⟩
            have hwv : ¬ qe.reign < W := by
              have h := M.reign_step HOK.out hk
              rw [hW, hqe] at h
              omega
            have HC1 : Hid (∀ x, Below x13.heap.size x13 x → Calls Try.prog 15 #[roV b r A l.length c, .int .i64 (b + k)] x fun e w' => e = .returned (.int .i64 W) ∧ Below x.heap.size x w') := Lib.hid (fun x hb => by
              have hc := implReignAt b r A l c (b + k) x (HR.out.below hb) hl20 HP.out HCAP.out
              rw [hW] at hc
              exact hc)
            have hqb : (q.length : Int) ≤ 101 := by omega
            have e1 : b + (k : Int) + 1 - 1 = b + k := by omega
            have hw1 : IntKind.i64.wrap (b + (k : Int) + 1 - 1) = b + k := by rw [e1]; exact IntWalk.i64_in _ (by omega)
            have hw2 : IntKind.i64.wrap (b + (k : Int)) = b + k := IntWalk.i64_in _ (by omega)
            have hqz : ((q.length : Int) == 0) = false := by rw [beq_eq_false_iff_ne]; omega
            have hnr : (qe.reign != qe.reign) = false := by simp
            have HFIN : Hid (b + (k : Int) + 1 + (q.length : Int) - 1 = La) := Lib.hid (by have := HLL.out; omega)
            have hw3 : IntKind.i64.wrap (b + (k : Int) + 1 + (q.length : Int)) = b + k + 1 + q.length := IntWalk.i64_in _ (by omega)
            have hw4 : IntKind.i64.wrap (b + (k : Int) + 1 + (q.length : Int) - 1) = b + k + 1 + q.length - 1 := IntWalk.i64_in _ (by omega)
            obtain ⟨bq, oq, hAT, zq, c0, c1, c2, c3, c4, c5, c6, c7, c8, c9⟩ := Ens_at HT.out hq0
            simp only [hqh, Nat.zero_mul, Nat.add_zero] at c0 c1 c2 c3 c4 c5 c6 c7 c8 c9
            have HQN := Lib.hid hqn
            have HHM := Lib.hid hm.1
            obtain ⟨u0, u1, u2, u3, u4, u5, u6, u7, u8, u9⟩ := (hm.get (x3.heap.size) ((enC qe)) (by simp)).ten
            have uz := (hm.get (x3.heap.size) ((enC qe)) (by simp)).1
            clear hq hqe hqd hqn hqh hW hm
            subst hv1 hqt hAT
            go_upto_region 16 with (fail)
            refine wp_region_seq (fun w' => Below x13.heap.size x13 w') [(0, true), (1, true), (2, true), (3, true), (4, true), (5, true), (6, true), (7, true), (8, true), (9, true), (10, true), (11, true), (12, true), (13, true), (14, true), (15, true), (16, true), (17, true), (18, true), (19, true), (20, true), (21, true), (23, true), (22, false), (24, true), (25, true), (26, true)] (by kernel_rfl) (by kernel_rfl) (fun _ _ _ _ _ h => h) (by kernel_rfl) (by decide) (Below.refl _ _).drew ?_
            intro hHeld
            repeat (first
              | (refine seq_read (by simp only [List.getElem?_toArray, List.getElem?_cons_succ, List.getElem?_cons_zero]; first | done | rfl) (by rfl) (fun w _ => enneq_read (c := qe) rfl rfl rfl w) ?_; (try simp only [Act.put, List.setIfInBounds_toArray, List.set_cons_zero, List.set_cons_succ]))
              | (refine seq_skip (by simp only [List.getElem?_toArray, List.getElem?_cons_succ, List.getElem?_cons_zero]; first | done | rfl) (by rfl) ?_; (try simp only [Act.put, List.setIfInBounds_toArray, List.set_cons_zero, List.set_cons_succ]))
              | (refine seq_reads (by simp only [List.getElem?_toArray, List.getElem?_cons_succ, List.getElem?_cons_zero]; first | done | rfl) (by rfl) ?_; apply Exists.intro; apply And.intro; (focus (intro w hSw; obtain ⟨hcS, -⟩ := bcell hSw; go_simp; (try with_reducible rfl); done)); (try simp only [Act.put, List.setIfInBounds_toArray, List.set_cons_zero, List.set_cons_succ]))
              | (refine seq_pass (by simp only [List.getElem?_toArray, List.getElem?_cons_succ, List.getElem?_cons_zero]; first | done | rfl) (by rfl) hHeld ?_; clear hHeld; intro hHeld; (try simp only [Act.put, List.setIfInBounds_toArray, List.set_cons_zero, List.set_cons_succ]))
              | (refine seq_call (by simp only [List.getElem?_toArray, List.getElem?_cons_succ, List.getElem?_cons_zero]; first | done | rfl) (by rfl) (fun K hK => ?_); go_simp; go_at_call 15; refine (HC1.out _ hHeld).mono ?_; rintro r w1 ⟨rfl, b1⟩; go_simp; refine hK.out _ _ (next hHeld b1) ?_; clear hK hHeld; intro hHeld; (try simp only [Act.put, List.setIfInBounds_toArray, List.set_cons_zero, List.set_cons_succ])))
            refine seq_end ?_
            have HBE := Lib.hid (next HHM.out hHeld)
            have hbd := hHeld
            obtain ⟨k0, k1, k2⟩ : _ ∧ _ ∧ _ := ⟨(hbd.cell (p := ⟨x1.heap.size, 0, none⟩) pz).trans p0, (hbd.cell (p := ⟨x1.heap.size, 1, none⟩) pz).trans p1, (hbd.cell (p := ⟨x1.heap.size, 2, none⟩) pz).trans p2⟩
            clear hHeld hbd p0 p1 p2 pz u0 u1 u2 u3 u4 u5 u6 u7 u8 u9 uz c0 c1 c2 c3 c4 c5 c6 c7 c8 c9 zq
            go_wp2
            go_ret
            refine ⟨?_, HBE.out⟩
            have hf := HFIN.out
            simp [hf]
          · have hq1 : q = [] := by
              rw [← HTL.out]
              have := HLL.out
              by_cases h1 : b + (l.length : Int) + 1 < i
              · exact M.tail_none (.inr (.inr h1))
              · have e : i = b + l.length + 1 := by omega
                rw [e, M.tail_at (Nat.le_refl _) HOK.out]
                exact List.drop_of_length_le (Nat.le_refl _)
            have ht1 : t = false := by
              have h := HQ.out
              unfold M.entryAns at h
              rw [M.entryAt_none (by have := HLL.out; omega)] at h
              exact (congrArg Prod.snd h).symm
            subst hq1 ht1
            have HHM := Lib.hid hm.1
            clear hm
            go_upto_region 16 with (fail)
            refine wp_region_seq (fun w' => Below x13.heap.size x13 w') [(0, true), (1, true), (2, true), (3, true), (4, true), (5, true), (6, true), (7, true), (8, true), (9, true), (10, true), (11, true), (12, true), (13, true), (14, true), (15, true), (16, true), (17, true), (18, true), (19, true), (20, true), (21, true), (23, true), (22, false), (24, true), (25, true), (26, true)] (by kernel_rfl) (by kernel_rfl) (fun _ _ _ _ _ h => h) (by kernel_rfl) (by decide) (Below.refl _ _).drew ?_
            intro hHeld
            repeat (first
              | (refine seq_skip (by simp only [List.getElem?_toArray, List.getElem?_cons_succ, List.getElem?_cons_zero]; first | done | rfl) (by rfl) ?_; (try simp only [Act.put, List.setIfInBounds_toArray, List.set_cons_zero, List.set_cons_succ]))
              | (refine seq_reads (by simp only [List.getElem?_toArray, List.getElem?_cons_succ, List.getElem?_cons_zero]; first | done | rfl) (by rfl) ?_; apply Exists.intro; apply And.intro; (focus (intro w hSw; obtain ⟨hcS, -⟩ := bcell hSw; go_simp; (try with_reducible rfl); done)); (try simp only [Act.put, List.setIfInBounds_toArray, List.set_cons_zero, List.set_cons_succ]))
              | (refine seq_pass (by simp only [List.getElem?_toArray, List.getElem?_cons_succ, List.getElem?_cons_zero]; first | done | rfl) (by rfl) hHeld ?_; clear hHeld; intro hHeld; (try simp only [Act.put, List.setIfInBounds_toArray, List.set_cons_zero, List.set_cons_succ])))
            refine seq_end ?_
            have HBE := Lib.hid (next HHM.out hHeld)
            have hbd := hHeld
            obtain ⟨k0, k1, k2⟩ : _ ∧ _ ∧ _ := ⟨(hbd.cell (p := ⟨x1.heap.size, 0, none⟩) pz).trans p0, (hbd.cell (p := ⟨x1.heap.size, 1, none⟩) pz).trans p1, (hbd.cell (p := ⟨x1.heap.size, 2, none⟩) pz).trans p2⟩
            clear hHeld hbd p0 p1 p2 pz
            go_wp2
            go_ret
            exact ⟨ret_bool (by rw [decide_eq_false (show ¬ i ≤ La by omega)]; rfl), HBE.out⟩
        · have hq1 : q = [] := by rw [← HTL.out]; exact M.tail_none (.inr (.inl (by omega)))
          have ht1 : t = false := by
            have h := HQ.out
            unfold M.entryAns at h
            rw [M.entryAt_none (by omega)] at h
            exact (congrArg Prod.snd h).symm
          subst hq1 ht1
          have HHM := Lib.hid hm.1
          clear hm
          go_upto_region 16 with (fail)
          refine wp_region_seq (fun w' => Below x13.heap.size x13 w') [(0, true), (1, true), (2, true), (3, true), (4, true), (5, true), (6, true), (7, true), (8, true), (9, true), (10, true), (11, true), (12, true), (13, true), (14, true), (15, true), (16, true), (17, true), (18, true), (19, true), (20, true), (21, true), (23, true), (22, false), (24, true), (25, true), (26, true)] (by kernel_rfl) (by kernel_rfl) (fun _ _ _ _ _ h => h) (by kernel_rfl) (by decide) (Below.refl _ _).drew ?_
          intro hHeld
          repeat (first
            | (refine seq_skip (by simp only [List.getElem?_toArray, List.getElem?_cons_succ, List.getElem?_cons_zero]; first | done | rfl) (by rfl) ?_; (try simp only [Act.put, List.setIfInBounds_toArray, List.set_cons_zero, List.set_cons_succ]))
            | (refine seq_reads (by simp only [List.getElem?_toArray, List.getElem?_cons_succ, List.getElem?_cons_zero]; first | done | rfl) (by rfl) ?_; apply Exists.intro; apply And.intro; (focus (intro w hSw; obtain ⟨hcS, -⟩ := bcell hSw; go_simp; (try with_reducible rfl); done)); (try simp only [Act.put, List.setIfInBounds_toArray, List.set_cons_zero, List.set_cons_succ]))
            | (refine seq_pass (by simp only [List.getElem?_toArray, List.getElem?_cons_succ, List.getElem?_cons_zero]; first | done | rfl) (by rfl) hHeld ?_; clear hHeld; intro hHeld; (try simp only [Act.put, List.setIfInBounds_toArray, List.set_cons_zero, List.set_cons_succ])))
          refine seq_end ?_
          have HBE := Lib.hid (next HHM.out hHeld)
          have hbd := hHeld
          obtain ⟨k0, k1, k2⟩ : _ ∧ _ ∧ _ := ⟨(hbd.cell (p := ⟨x1.heap.size, 0, none⟩) pz).trans p0, (hbd.cell (p := ⟨x1.heap.size, 1, none⟩) pz).trans p1, (hbd.cell (p := ⟨x1.heap.size, 2, none⟩) pz).trans p2⟩
          clear hHeld hbd p0 p1 p2 pz
          go_wp2
          go_ret
          exact ⟨rfl, HBE.out⟩
    · subst hN
      go_wp2_with (refine wpList_run (by rfl) (enneq_read (c := qe) rfl rfl rfl _) ?_)
      refine (HC6.out _).mono ?_
      rintro e1 x11 ⟨rfl, b2⟩
      replace hm := hm.below b2
      replace HR := Lib.hid (HR.out.below b2)
      replace HT := Lib.hid (HT.out.below b2)
      clear b2
      go_wp2_with fail
      refine (HC8.out _).mono ?_
      rintro e1 x12 ⟨rfl, b2⟩
      replace hm := hm.below b2
      replace HR := Lib.hid (HR.out.below b2)
      replace HT := Lib.hid (HT.out.below b2)
      clear b2
      clear u0 u1 u2 u3 u4 u5 u6 u7 u8 u9 uz v0 v1 v2 v3 v4 v5 v6 v7 v8 v9 vz htt
      obtain ⟨p0, p1, p2⟩ := (hm.get (x1.heap.size) ((roA b r A l.length c)) (by simp)).three
      have pz := (hm.get (x1.heap.size) ((roA b r A l.length c)) (by simp)).1
      rcases hok : ok with _ | _
      · subst hok
        have hv1 : V = -1 := by rw [← HV.out]; unfold M.reignAt; rw [if_neg (by rw [HOK.out]; simp)]
        have hq1 : q = [] := by rw [← HTL.out]; exact M.tail_none (.inl HOK.out)
        have hl1 : La = -1 := by rw [← HLA.out]; unfold M.lastIn; rw [if_neg (by rw [HOK.out]; simp)]
        have ht1 : t = false := by
          have h := HQ.out
          unfold M.entryAns at h
          rw [M.entryAt_none (.inl HOK.out)] at h
          exact (congrArg Prod.snd h).symm
        subst hv1 hq1 hl1 ht1
        have hcall := specRollOk b r A l c x12 HR.out hl20 HP.out
        rw [HOK.out] at hcall
        have HCALL := Lib.hid hcall
        clear hcall
        go_wp2_with fail
        refine HCALL.out.mono ?_
        rintro e1 x13 ⟨rfl, b2⟩
        replace hm := hm.below b2
        clear b2 HCALL p0 p1 p2 pz
        have HM := Lib.hid hm.1
        clear hm
        go_wp2
        go_ret
        exact ⟨rfl, HM.out⟩
      · subst hok
        have hcall := specRollOk b r A l c x12 HR.out hl20 HP.out
        rw [HOK.out] at hcall
        have HCALL := Lib.hid hcall
        clear hcall
        obtain ⟨g0, g1, -⟩ := M.rollOk_parts HOK.out
        have HLL : Hid (La = b + l.length) := Lib.hid (by rw [← HLA.out]; unfold M.lastIn; rw [if_pos HOK.out])
        go_wp2_with fail
        refine HCALL.out.mono ?_
        rintro e1 x13 ⟨rfl, b2⟩
        replace hm := hm.below b2
        replace HR := Lib.hid (HR.out.below b2)
        replace HT := Lib.hid (HT.out.below b2)
        clear b2 HCALL p0 p1 p2 pz
        obtain ⟨p0, p1, p2⟩ := (hm.get (x1.heap.size) ((roA b r A l.length c)) (by simp)).three
        have pz := (hm.get (x1.heap.size) ((roA b r A l.length c)) (by simp)).1
        by_cases hib : b < i
        · by_cases hil : i ≤ La
          · obtain ⟨k, hk, hi⟩ : ∃ k : Nat, k < l.length ∧ i = b + k + 1 := ⟨(i - b - 1).toNat, by have := HLL.out; omega, by omega⟩
            subst hi
            have hq := HQ.out
            unfold M.entryAns at hq
            rw [M.entryAt_at hk HOK.out] at hq
            obtain ⟨hqe, hqt⟩ := Prod.mk.inj hq
            have hv1 : V = qe.reign := by rw [← HV.out, ← hqe]; unfold M.reignAt; rw [if_pos HOK.out]; exact M.reignIn_at hk
            have hqd : q = l.drop k := by rw [← HTL.out]; exact M.tail_at (by omega) HOK.out
            have hqn : q.length = l.length - k := by rw [hqd, List.length_drop]
            have hq0 : 0 < q.length := by omega
            have hqh : q[0] = qe := by
              have e : q[0] = (l.drop k)[0]'(by rw [List.length_drop]; omega) := by simp only [hqd]
              rw [e, ← hqe]
              simp
            obtain ⟨W, hW⟩ : ∃ W, M.reignAt b r l (b + k) = W := ⟨_, rfl⟩
            have hwv : ¬ qe.reign < W := by
              have h := M.reign_step HOK.out hk
              rw [hW, hqe] at h
              omega
            have HC1 : Hid (∀ x, Below x13.heap.size x13 x → Calls Try.prog 15 #[roV b r A l.length c, .int .i64 (b + k)] x fun e w' => e = .returned (.int .i64 W) ∧ Below x.heap.size x w') := Lib.hid (fun x hb => by
              have hc := implReignAt b r A l c (b + k) x (HR.out.below hb) hl20 HP.out HCAP.out
              rw [hW] at hc
              exact hc)
            have hqb : (q.length : Int) ≤ 101 := by omega
            have e1 : b + (k : Int) + 1 - 1 = b + k := by omega
            have hw1 : IntKind.i64.wrap (b + (k : Int) + 1 - 1) = b + k := by rw [e1]; exact IntWalk.i64_in _ (by omega)
            have hw2 : IntKind.i64.wrap (b + (k : Int)) = b + k := IntWalk.i64_in _ (by omega)
            have hqz : ((q.length : Int) == 0) = false := by rw [beq_eq_false_iff_ne]; omega
            have hnr : (qe.reign != qe.reign) = false := by simp
            have HFIN : Hid (b + (k : Int) + 1 + (q.length : Int) - 1 = La) := Lib.hid (by have := HLL.out; omega)
            have hw3 : IntKind.i64.wrap (b + (k : Int) + 1 + (q.length : Int)) = b + k + 1 + q.length := IntWalk.i64_in _ (by omega)
            have hw4 : IntKind.i64.wrap (b + (k : Int) + 1 + (q.length : Int) - 1) = b + k + 1 + q.length - 1 := IntWalk.i64_in _ (by omega)
            obtain ⟨bq, oq, hAT, zq, c0, c1, c2, c3, c4, c5, c6, c7, c8, c9⟩ := Ens_at HT.out hq0
            simp only [hqh, Nat.zero_mul, Nat.add_zero] at c0 c1 c2 c3 c4 c5 c6 c7 c8 c9
            have HQN := Lib.hid hqn
            have HHM := Lib.hid hm.1
            obtain ⟨u0, u1, u2, u3, u4, u5, u6, u7, u8, u9⟩ := (hm.get (x3.heap.size) ((enC qe)) (by simp)).ten
            have uz := (hm.get (x3.heap.size) ((enC qe)) (by simp)).1
            clear hq hqe hqd hqn hqh hW hm
            subst hv1 hqt hAT
            go_upto_region 16 with (fail)
            refine wp_region_seq (fun w' => Below x13.heap.size x13 w') [(0, true), (1, true), (2, true), (3, true), (4, true), (5, true), (6, true), (7, true), (8, true), (9, true), (10, true), (11, true), (12, true), (13, true), (14, true), (15, true), (16, true), (17, true), (18, true), (19, true), (20, true), (21, true), (23, true), (22, false), (24, true), (25, true), (26, true)] (by kernel_rfl) (by kernel_rfl) (fun _ _ _ _ _ h => h) (by kernel_rfl) (by decide) (Below.refl _ _).drew ?_
            intro hHeld
            repeat (first
              | (refine seq_read (by simp only [List.getElem?_toArray, List.getElem?_cons_succ, List.getElem?_cons_zero]; first | done | rfl) (by rfl) (fun w _ => enneq_read (c := qe) rfl rfl rfl w) ?_; (try simp only [Act.put, List.setIfInBounds_toArray, List.set_cons_zero, List.set_cons_succ]))
              | (refine seq_skip (by simp only [List.getElem?_toArray, List.getElem?_cons_succ, List.getElem?_cons_zero]; first | done | rfl) (by rfl) ?_; (try simp only [Act.put, List.setIfInBounds_toArray, List.set_cons_zero, List.set_cons_succ]))
              | (refine seq_reads (by simp only [List.getElem?_toArray, List.getElem?_cons_succ, List.getElem?_cons_zero]; first | done | rfl) (by rfl) ?_; apply Exists.intro; apply And.intro; (focus (intro w hSw; obtain ⟨hcS, -⟩ := bcell hSw; go_simp; (try with_reducible rfl); done)); (try simp only [Act.put, List.setIfInBounds_toArray, List.set_cons_zero, List.set_cons_succ]))
              | (refine seq_pass (by simp only [List.getElem?_toArray, List.getElem?_cons_succ, List.getElem?_cons_zero]; first | done | rfl) (by rfl) hHeld ?_; clear hHeld; intro hHeld; (try simp only [Act.put, List.setIfInBounds_toArray, List.set_cons_zero, List.set_cons_succ]))
              | (refine seq_call (by simp only [List.getElem?_toArray, List.getElem?_cons_succ, List.getElem?_cons_zero]; first | done | rfl) (by rfl) (fun K hK => ?_); go_simp; go_at_call 15; refine (HC1.out _ hHeld).mono ?_; rintro r w1 ⟨rfl, b1⟩; go_simp; refine hK.out _ _ (next hHeld b1) ?_; clear hK hHeld; intro hHeld; (try simp only [Act.put, List.setIfInBounds_toArray, List.set_cons_zero, List.set_cons_succ])))
            refine seq_end ?_
            have HBE := Lib.hid (next HHM.out hHeld)
            have hbd := hHeld
            obtain ⟨k0, k1, k2⟩ : _ ∧ _ ∧ _ := ⟨(hbd.cell (p := ⟨x1.heap.size, 0, none⟩) pz).trans p0, (hbd.cell (p := ⟨x1.heap.size, 1, none⟩) pz).trans p1, (hbd.cell (p := ⟨x1.heap.size, 2, none⟩) pz).trans p2⟩
            clear hHeld hbd p0 p1 p2 pz u0 u1 u2 u3 u4 u5 u6 u7 u8 u9 uz c0 c1 c2 c3 c4 c5 c6 c7 c8 c9 zq
            go_wp2
            go_ret
            refine ⟨?_, HBE.out⟩
            have hf := HFIN.out
            simp [hf]
          · have hq1 : q = [] := by
              rw [← HTL.out]
              have := HLL.out
              by_cases h1 : b + (l.length : Int) + 1 < i
              · exact M.tail_none (.inr (.inr h1))
              · have e : i = b + l.length + 1 := by omega
                rw [e, M.tail_at (Nat.le_refl _) HOK.out]
                exact List.drop_of_length_le (Nat.le_refl _)
            have ht1 : t = false := by
              have h := HQ.out
              unfold M.entryAns at h
              rw [M.entryAt_none (by have := HLL.out; omega)] at h
              exact (congrArg Prod.snd h).symm
            subst hq1 ht1
            have HHM := Lib.hid hm.1
            clear hm
            go_upto_region 16 with (fail)
            refine wp_region_seq (fun w' => Below x13.heap.size x13 w') [(0, true), (1, true), (2, true), (3, true), (4, true), (5, true), (6, true), (7, true), (8, true), (9, true), (10, true), (11, true), (12, true), (13, true), (14, true), (15, true), (16, true), (17, true), (18, true), (19, true), (20, true), (21, true), (23, true), (22, false), (24, true), (25, true), (26, true)] (by kernel_rfl) (by kernel_rfl) (fun _ _ _ _ _ h => h) (by kernel_rfl) (by decide) (Below.refl _ _).drew ?_
            intro hHeld
            repeat (first
              | (refine seq_skip (by simp only [List.getElem?_toArray, List.getElem?_cons_succ, List.getElem?_cons_zero]; first | done | rfl) (by rfl) ?_; (try simp only [Act.put, List.setIfInBounds_toArray, List.set_cons_zero, List.set_cons_succ]))
              | (refine seq_reads (by simp only [List.getElem?_toArray, List.getElem?_cons_succ, List.getElem?_cons_zero]; first | done | rfl) (by rfl) ?_; apply Exists.intro; apply And.intro; (focus (intro w hSw; obtain ⟨hcS, -⟩ := bcell hSw; go_simp; (try with_reducible rfl); done)); (try simp only [Act.put, List.setIfInBounds_toArray, List.set_cons_zero, List.set_cons_succ]))
              | (refine seq_pass (by simp only [List.getElem?_toArray, List.getElem?_cons_succ, List.getElem?_cons_zero]; first | done | rfl) (by rfl) hHeld ?_; clear hHeld; intro hHeld; (try simp only [Act.put, List.setIfInBounds_toArray, List.set_cons_zero, List.set_cons_succ])))
            refine seq_end ?_
            have HBE := Lib.hid (next HHM.out hHeld)
            have hbd := hHeld
            obtain ⟨k0, k1, k2⟩ : _ ∧ _ ∧ _ := ⟨(hbd.cell (p := ⟨x1.heap.size, 0, none⟩) pz).trans p0, (hbd.cell (p := ⟨x1.heap.size, 1, none⟩) pz).trans p1, (hbd.cell (p := ⟨x1.heap.size, 2, none⟩) pz).trans p2⟩
            clear hHeld hbd p0 p1 p2 pz
            go_wp2
            go_ret
            exact ⟨ret_bool (by rw [decide_eq_false (show ¬ i ≤ La by omega)]; rfl), HBE.out⟩
        · have hq1 : q = [] := by rw [← HTL.out]; exact M.tail_none (.inr (.inl (by omega)))
          have ht1 : t = false := by
            have h := HQ.out
            unfold M.entryAns at h
            rw [M.entryAt_none (by omega)] at h
            exact (congrArg Prod.snd h).symm
          subst hq1 ht1
          have HHM := Lib.hid hm.1
          clear hm
          go_upto_region 16 with (fail)
          refine wp_region_seq (fun w' => Below x13.heap.size x13 w') [(0, true), (1, true), (2, true), (3, true), (4, true), (5, true), (6, true), (7, true), (8, true), (9, true), (10, true), (11, true), (12, true), (13, true), (14, true), (15, true), (16, true), (17, true), (18, true), (19, true), (20, true), (21, true), (23, true), (22, false), (24, true), (25, true), (26, true)] (by kernel_rfl) (by kernel_rfl) (fun _ _ _ _ _ h => h) (by kernel_rfl) (by decide) (Below.refl _ _).drew ?_
          intro hHeld
          repeat (first
            | (refine seq_skip (by simp only [List.getElem?_toArray, List.getElem?_cons_succ, List.getElem?_cons_zero]; first | done | rfl) (by rfl) ?_; (try simp only [Act.put, List.setIfInBounds_toArray, List.set_cons_zero, List.set_cons_succ]))
            | (refine seq_reads (by simp only [List.getElem?_toArray, List.getElem?_cons_succ, List.getElem?_cons_zero]; first | done | rfl) (by rfl) ?_; apply Exists.intro; apply And.intro; (focus (intro w hSw; obtain ⟨hcS, -⟩ := bcell hSw; go_simp; (try with_reducible rfl); done)); (try simp only [Act.put, List.setIfInBounds_toArray, List.set_cons_zero, List.set_cons_succ]))
            | (refine seq_pass (by simp only [List.getElem?_toArray, List.getElem?_cons_succ, List.getElem?_cons_zero]; first | done | rfl) (by rfl) hHeld ?_; clear hHeld; intro hHeld; (try simp only [Act.put, List.setIfInBounds_toArray, List.set_cons_zero, List.set_cons_succ])))
          refine seq_end ?_
          have HBE := Lib.hid (next HHM.out hHeld)
          have hbd := hHeld
          obtain ⟨k0, k1, k2⟩ : _ ∧ _ ∧ _ := ⟨(hbd.cell (p := ⟨x1.heap.size, 0, none⟩) pz).trans p0, (hbd.cell (p := ⟨x1.heap.size, 1, none⟩) pz).trans p1, (hbd.cell (p := ⟨x1.heap.size, 2, none⟩) pz).trans p2⟩
          clear hHeld hbd p0 p1 p2 pz
          go_wp2
          go_ret
          exact ⟨rfl, HBE.out⟩

set_option maxRecDepth 100000 in
theorem lifted (os : Os) (started : os.Started) (H : Type) (enc : TypeId × Value → H) :
    ReturnsInHanded {} Try.checked os 3 .any (Rows.fnRollsSpec.pre6 enc Try.prog Try.f3 Rows.fnRollsRow.domain false) (Rows.fnRollsSpec.post enc Try.prog Try.f3 false true false false) := by
  refine returnsInHanded_of_change (C := Try.checked) own started (by kernel_rfl) Try.func3
    (ChangeSpec.witness6 (enc := enc) (C := Try.checked) false ⟨#[], #[.slice none 0 0], []⟩ 8 (by kernel_rfl) (by kernel_rfl) (by kernel_rfl) (by kernel_rfl)) ?_
  intro W base args ds gs before hval0 hW hcnd _
  have hval : ∀ (j : Nat) t v, Try.f3.params[j]? = some t → args[j]? = some v → Value.okWide Try.prog W .any base t v := hval0
  have hW' := hW
  obtain ⟨p, q, hA0, -⟩ := hW
  have hA : DataW.TrodAll enc Try.prog W 0 (fun _ => true) true Try.f3.params.toList args.toList ds p := hA0
  rw [Try.params3] at hA hval
  obtain ⟨v0, vs0, d0, ds0, p0, q0, hargs, rfl, rfl, h0, r0⟩ := trodAll_cons hA
  obtain ⟨rfl, rfl, rfl⟩ := trodAll_nil r0
  obtain rfl : args = #[v0] := by cases args; simp_all
  clear hA0 hval0
  have hv0 := hval 0 _ v0 rfl rfl
  obtain ⟨a0, len0, cap0, rfl, hc⟩ := open_code hv0 h0
  exact (walk a0 len0 cap0 W hc).mono fun r W' ⟨he, hb⟩ => ⟨_, he, law_post rfl rfl Try.underlying4 (by kernel_rfl) (n := 1)
    (fun ds' hd => by rcases ds' with _ | ⟨x0, _ | ⟨y, z⟩⟩ <;> simp at hd <;> exact ⟨rfl, rfl, rfl⟩) rfl hW' hb⟩

theorem over : Rows.fnRollsRow.holds Try.pinned (OpenSpec.ofChange Rows.fnRollsSpec) :=
  OpenClaim.holds_of_wide 3 Try.f3 rfl rfl rfl rfl rfl rfl rfl ⟨rfl, rfl, rfl, rfl, rfl⟩ rfl rfl rfl rfl rfl (by kernel_rfl) Try.func3 (by kernel_rfl)
    (of_decide_eq_true (by kernel_rfl)) (by unfold Func.isWrapper; first | (rw [if_pos (by decide +kernel)]; kernel_rfl) | (rw [if_neg (by decide +kernel)]; exact ⟨rfl, rfl⟩))
    (fun os started H enc _ => lifted os started H enc)

theorem proved : Rows.FnRollsSaid :=
  over
#print axioms proved
end Go.Proofs.Ytkpbfocnokbmiaa.fnRolls
