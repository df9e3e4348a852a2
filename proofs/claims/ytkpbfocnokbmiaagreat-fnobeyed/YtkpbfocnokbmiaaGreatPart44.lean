/- Proved, in parts: Proved: the model's Obeyed answers the plain Lean function that the program's answers, its book in new memory; nothing that was there is written. Condition: texts and lists of at most a million. Proved: the model's ObeyedAll answers the plain Lean function that the program's answers; nothing that was there is written. Condition: texts and lists of at most a million. Proved: the laws' helpers that write marks into a list of records of the type Entry, and look whether they are there, do so and write nothing else. Condition: at most two million records. Proved: the contracts of ObeyedAll at arguments that were copied; what many entries leave is small. Condition: texts and lists of at most a million. Proved: the contracts of Obeyed at a book that was copied; what an entry leaves is small. Condition: texts and lists of at most a million. Proved: an argument that is a list of bytes can be read byte by byte, and the laws' own test of its length; no condition. -/
import Derived.Test.YtkpbfocnokbmiaaGreatPart42
import Derived.Test.YtkpbfocnokbmiaaGreatPart35
import Derived.Test.YtkpbfocnokbmiaaGreatPart21
import Derived.Test.YtkpbfocnokbmiaaGreatPart43
import Derived.Test.YtkpbfocnokbmiaaGreatPart36
import Derived.ProofKit
import Derived.OpenShut
import Derived.Carry
namespace Go.Proofs.YtkpbfocnokbmiaaGreat
open Go.RowKit
set_option maxRecDepth 20000
theorem results_ssOb (a b : Value) (c : Int) (p : ByteArray) (R T : Nat) (W : World) (tmps : Array Value) (h4 : tmps.getD 4 undef = .pointer (some ⟨R, 0, none⟩)) (h5 : tmps.getD 5 undef = .pointer (some ⟨T, 0, none⟩)) (hR : Holds W R #[a, b]) (hT : Holds W T (rpA c p)) :
    (results Tryz.f10 tmps).run Tryz.prog W = .ok (.tuple #[.agg #[a, b], rpV c p]) W := by
  obtain ⟨q0, q1⟩ := hR.two
  obtain ⟨r0, r1⟩ := hT.two
  simp at h4 h5
  simp [results, Tryz.results10, go_sem, h4, h5, q0, q1, r0, r1]
set_option maxHeartbeats 4000000 in
theorem specObeyed (A : Option Addr) (l : List Wr) (cap : Nat) (A2 : Option Addr) (m : List M.La) (cb : Nat) (en : M.En) (w : World) (hl : Wks w A l) (hA : ∀ r ∈ l, r.ad = none → r.cap = 0) (hlen : l.length ≤ 1048576) (hp : WrsIn 1048576 l) (hm : Las w A2 m) (hN : A2 = none → cb = 0) (hml : m.length ≤ 1048576) (hn : en.order.deed.name.size ≤ 1048576) (hpg : en.order.deed.page.size ≤ 1048576) :
    Calls Tryz.prog 10 #[bkV A l.length cap A2 m.length cb, enV en] w (OrRet w (M.obeyed (l.map Wr.wk, m) en)) := by
  have HL := Lib.hid hl
  have HA := Lib.hid hA
  have HN := Lib.hid hN
  have HP := Lib.hid hp
  have HC := Lib.hid (fun r (hr : r ∈ l) => (hp r hr).2.1)
  have HM := Lib.hid hm
  clear hl hp hm hA hN
  have hM := ((((Mem.start w).new (bkA A l.length cap A2 m.length cb) 27).new (enC en) 35).new (bkA none 0 0 none 0 0) 27).new (rpA 0 noP) 39
  simp only [World.size_alloc] at hM
  rcases hok : M.bkOk (l.map Wr.wk) m with _ | _
  · have HE : Hid (M.obeyed (l.map Wr.wk, m) en = (([], []), ((7 : Int), M.nilB))) := Lib.hid (by unfold M.obeyed; rw [if_neg (by simp [hok])])
    have HOK := Lib.hid hok
    clear hok
    go_enter Tryz.func10, Tryz.ntmps10
    go_wp2_with fail
    refine (specBookOk A l cap A2 m cb _ (HL.out.below hM.1) hlen HP.out (HM.out.below hM.1) hml).mono ?_
    rintro e x1 ⟨rfl, b1⟩
    rw [HOK.out]
    have HR := Lib.hid (hM.below b1)
    clear hM b1
    (obtain ⟨s0, s1⟩ := (HR.out.get (w.heap.size + 1 + 1) (bkA none 0 0 none 0 0) (by simp)).two)
    (obtain ⟨t0, t1⟩ := (HR.out.get (w.heap.size + 1 + 1 + 1) (rpA 0 noP) (by simp)).two)
    (have y0 := HR.out.loose (w.heap.size + 1 + 1) (by simp) 0)
    (have y1 := HR.out.loose (w.heap.size + 1 + 1) (by simp) 1)
    (have z0 := HR.out.loose (w.heap.size + 1 + 1 + 1) (by simp) 0)
    (have z1 := HR.out.loose (w.heap.size + 1 + 1 + 1) (by simp) 1)
    (have zs := (HR.out.get (w.heap.size + 1 + 1) (bkA none 0 0 none 0 0) (by simp)).1)
    (have zt := (HR.out.get (w.heap.size + 1 + 1 + 1) (rpA 0 noP) (by simp)).1)
    go_wp2
    refine bodyPost_ret (results_ssOb (.slice none 0 0) (.slice none 0 0) 7 noP (w.heap.size + 1 + 1) (w.heap.size + 1 + 1 + 1) _ _ rfl rfl ?_ ?_) rfl ⟨.slice none 0 0, .slice none 0 0, [], by rw [HE.out] <;> rfl, ⟨⟨rfl, .inl ⟨rfl, rfl⟩⟩, by simp, by simp, List.Pairwise.nil⟩, by rw [HE.out]; rfl, by rw [HE.out]; exact LasOwn.nil _ _, fun g e => (by cases e), ?_⟩
    · exact (((HR.out.get (w.heap.size + 1 + 1) (bkA none 0 0 none 0 0) (by simp)).wr2 _ _).otherM (by omega)).otherM (by omega)
    · exact (((HR.out.get (w.heap.size + 1 + 1 + 1) (rpA 0 noP) (by simp)).otherM (by omega)).otherM (by omega)).wr2 _ _
    · exact far_2 (far_2 HR.out.1 (by omega) _ _) (by omega) _ _
  · have hml' : m.length ≤ 1048575 := by
      have h := hok
      simp only [M.bkOk, Bool.and_eq_true] at h
      have := M.lasOk_len h.2
      omega
    rcases hoo : M.entryOk en with _ | _
    · have HE : Hid (M.obeyed (l.map Wr.wk, m) en = ((l.map Wr.wk, m), ((7 : Int), M.nilB))) := Lib.hid (by unfold M.obeyed; rw [if_pos hok]; unfold M.obeyI; rw [if_neg (by simp [hoo])])
      have HOK := Lib.hid hok
      have HOO := Lib.hid hoo
      clear hok hoo
      go_enter Tryz.func10, Tryz.ntmps10
      go_wp2_with fail
      refine (specBookOk A l cap A2 m cb _ (HL.out.below hM.1) hlen HP.out (HM.out.below hM.1) hml).mono ?_
      rintro e x1 ⟨rfl, b1⟩
      rw [HOK.out]
      have hM1 := hM.below b1
      clear hM b1
      obtain ⟨q0, q1, q2, q3, q4, q5, q6, q7, q8, q9⟩ := (hM1.get (w.heap.size + 1) (enC en) (by simp)).ten
      go_wp2_with fail
      refine (specEntryOk en _ (by unfold maxLen; omega) (by unfold maxLen; omega)).mono ?_
      rintro e x2 ⟨rfl, b2⟩
      rw [HOO.out]
      have hM2 := hM1.below b2
      clear hM1 b2 q0 q1 q2 q3 q4 q5 q6 q7 q8 q9
      obtain ⟨k0, k1⟩ := (hM2.get w.heap.size (bkA A l.length cap A2 m.length cb) (by simp)).two
      have hx2 : (w.heap.size + 1 + 1 + 1) < x2.heap.size := (hM2.get (w.heap.size + 1 + 1 + 1) (rpA 0 noP) (by simp)).1
      go_wp2_with fail
      refine (l6Copy_any A l cap A2 m cb _ (HL.out.below hM2.1) HA.out hlen HC.out (HM.out.below hM2.1) HN.out hml).mono ?_
      rintro e x3 ⟨v1, v2, rs, rfl, hs, hmap, hla, hap, b3⟩
      obtain ⟨A5, c5, rfl, -, -⟩ := hs.open
      obtain ⟨A6, c6, rfl, -, -⟩ := LasOwn.open hla
      have HR := Lib.hid (hM2.below b3)
      have HO := Lib.hid (show _ ∧ _ ∧ _ ∧ _ from ⟨hs, hmap, hla, hap⟩)
      clear hM2 b3 k0 k1 hs hmap hla hap
      (obtain ⟨s0, s1⟩ := (HR.out.get (w.heap.size + 1 + 1) (bkA none 0 0 none 0 0) (by simp)).two)
      (obtain ⟨t0, t1⟩ := (HR.out.get (w.heap.size + 1 + 1 + 1) (rpA 0 noP) (by simp)).two)
      (have y0 := HR.out.loose (w.heap.size + 1 + 1) (by simp) 0)
      (have y1 := HR.out.loose (w.heap.size + 1 + 1) (by simp) 1)
      (have z0 := HR.out.loose (w.heap.size + 1 + 1 + 1) (by simp) 0)
      (have z1 := HR.out.loose (w.heap.size + 1 + 1 + 1) (by simp) 1)
      (have zs := (HR.out.get (w.heap.size + 1 + 1) (bkA none 0 0 none 0 0) (by simp)).1)
      (have zt := (HR.out.get (w.heap.size + 1 + 1 + 1) (rpA 0 noP) (by simp)).1)
      go_wp2
      have hne : ∀ z, z < x2.heap.size → (Value.slice A6 m.length c6).ownBlock ≠ some z := fun z hz e => by have := (World.ownsRow.lt HO.out.2.2.1 z e).1; omega
      refine bodyPost_ret (results_ssOb (.slice A5 rs.length c5) (.slice A6 m.length c6) 7 noP (w.heap.size + 1 + 1) (w.heap.size + 1 + 1 + 1) _ _ rfl rfl ?_ ?_) rfl ⟨.slice A5 rs.length c5, .slice A6 m.length c6, rs, by rw [HE.out] <;> rfl, ?_, by rw [HE.out]; exact HO.out.2.1, ?_, HO.out.2.2.2, ?_⟩
      · exact (((HR.out.get (w.heap.size + 1 + 1) (bkA none 0 0 none 0 0) (by simp)).wr2 _ _).otherM (by omega)).otherM (by omega)
      · exact (((HR.out.get (w.heap.size + 1 + 1 + 1) (rpA 0 noP) (by simp)).otherM (by omega)).otherM (by omega)).wr2 _ _
      · exact ((((HO.out.1.set (by omega) 0 _).set (by omega) 1 _).set (by omega) 0 _).set (by omega) 1 _).mono (by omega)
      · rw [HE.out]
        exact LasOwn.mono (own_off (own_off (own_off (own_off HO.out.2.2.1 (hne _ (by omega)) 0 _) (hne _ (by omega)) 1 _) (hne _ (by omega)) 0 _) (hne _ (by omega)) 1 _) (by omega)
      · exact far_2 (far_2 HR.out.1 (by omega) _ _) (by omega) _ _
    rcases hb : M.orEq en.order M.or0 with _ | _
    · have HE : Hid (M.obeyed (l.map Wr.wk, m) en = M.ordered (l.map Wr.wk, m) en.order) := Lib.hid (by unfold M.obeyed M.ordered; rw [if_pos hok, if_pos hok]; unfold M.obeyI; rw [if_pos hoo, if_neg (by simp [hb])])
      have HOK := Lib.hid hok
      have HOO := Lib.hid hoo
      clear hok hoo
      go_enter Tryz.func10, Tryz.ntmps10
      go_wp2_with fail
      refine (specBookOk A l cap A2 m cb _ (HL.out.below hM.1) hlen HP.out (HM.out.below hM.1) hml).mono ?_
      rintro e x1 ⟨rfl, b1⟩
      rw [HOK.out]
      have hM1 := hM.below b1
      clear hM b1
      obtain ⟨q0, q1, q2, q3, q4, q5, q6, q7, q8, q9⟩ := (hM1.get (w.heap.size + 1) (enC en) (by simp)).ten
      go_wp2_with fail
      refine (specEntryOk en _ (by unfold maxLen; omega) (by unfold maxLen; omega)).mono ?_
      rintro e x2 ⟨rfl, b2⟩
      rw [HOO.out]
      have hM2 := hM1.below b2
      clear hM1 b2 q0 q1 q2 q3 q4 q5 q6 q7 q8 q9
      obtain ⟨k0, k1⟩ := (hM2.get w.heap.size (bkA A l.length cap A2 m.length cb) (by simp)).two
      obtain ⟨q0, q1, q2, q3, q4, q5, q6, q7, q8, q9⟩ := (hM2.get (w.heap.size + 1) (enC en) (by simp)).ten
      have hx2 : (w.heap.size + 1 + 1 + 1) < x2.heap.size := (hM2.get (w.heap.size + 1 + 1 + 1) (rpA 0 noP) (by simp)).1
      go_wp2_with (refine wpList_run (by rfl) (oreql_read (a := en.order) (b := M.or0) rfl rfl rfl _) ?_; simp only [hb])
      clear hb
      obtain ⟨q, hq⟩ : ∃ q, M.ordered (l.map Wr.wk, m) en.order = q := ⟨_, rfl⟩
      have hcall := specOrdered A l cap A2 m cb en.order x2 (HL.out.below hM2.1) HA.out hlen HP.out (HM.out.below hM2.1) HN.out hml hn hpg
      rw [hq] at hcall
      have HQ := Lib.hid hq
      refine hcall.mono ?_
      rintro e x3 ⟨v1, v2, rs, rfl, hs, hmap, hla, hap, b3⟩
      obtain ⟨A5, c5, rfl, -, -⟩ := hs.open
      obtain ⟨A6, c6, rfl, -, -⟩ := LasOwn.open hla
      have HR := Lib.hid (hM2.below b3)
      have HO := Lib.hid (show _ ∧ _ ∧ _ ∧ _ from ⟨hs, hmap, hla, hap⟩)
      clear hcall hq hM2 b3 k0 k1 hs hmap hla hap q0 q1 q2 q3 q4 q5 q6 q7 q8 q9
      (obtain ⟨s0, s1⟩ := (HR.out.get (w.heap.size + 1 + 1) (bkA none 0 0 none 0 0) (by simp)).two)
      (obtain ⟨t0, t1⟩ := (HR.out.get (w.heap.size + 1 + 1 + 1) (rpA 0 noP) (by simp)).two)
      (have y0 := HR.out.loose (w.heap.size + 1 + 1) (by simp) 0)
      (have y1 := HR.out.loose (w.heap.size + 1 + 1) (by simp) 1)
      (have z0 := HR.out.loose (w.heap.size + 1 + 1 + 1) (by simp) 0)
      (have z1 := HR.out.loose (w.heap.size + 1 + 1 + 1) (by simp) 1)
      (have zs := (HR.out.get (w.heap.size + 1 + 1) (bkA none 0 0 none 0 0) (by simp)).1)
      (have zt := (HR.out.get (w.heap.size + 1 + 1 + 1) (rpA 0 noP) (by simp)).1)
      go_wp2
      have hne : ∀ z, z < x2.heap.size → (Value.slice A6 q.1.2.length c6).ownBlock ≠ some z := fun z hz e => by have := (World.ownsRow.lt HO.out.2.2.1 z e).1; omega
      refine bodyPost_ret (results_ssOb (.slice A5 rs.length c5) (.slice A6 q.1.2.length c6) q.2.1 q.2.2 (w.heap.size + 1 + 1) (w.heap.size + 1 + 1 + 1) _ _ rfl rfl ?_ ?_) rfl ⟨.slice A5 rs.length c5, .slice A6 q.1.2.length c6, rs, by rw [HE.out, HQ.out], ?_, by rw [HE.out, HQ.out]; exact HO.out.2.1, ?_, HO.out.2.2.2, ?_⟩
      · exact (((HR.out.get (w.heap.size + 1 + 1) (bkA none 0 0 none 0 0) (by simp)).wr2 _ _).otherM (by omega)).otherM (by omega)
      · exact (((HR.out.get (w.heap.size + 1 + 1 + 1) (rpA 0 noP) (by simp)).otherM (by omega)).otherM (by omega)).wr2 _ _
      · exact ((((HO.out.1.set (by omega) 0 _).set (by omega) 1 _).set (by omega) 0 _).set (by omega) 1 _).mono (by omega)
      · rw [HE.out, HQ.out]
        exact LasOwn.mono (own_off (own_off (own_off (own_off HO.out.2.2.1 (hne _ (by omega)) 0 _) (hne _ (by omega)) 1 _) (hne _ (by omega)) 0 _) (hne _ (by omega)) 1 _) (by omega)
      · exact far_2 (far_2 HR.out.1 (by omega) _ _) (by omega) _ _
    · have HE : Hid (M.obeyed (l.map Wr.wk, m) en = ((l.map Wr.wk, m), ((0 : Int), M.nilB))) := Lib.hid (by unfold M.obeyed; rw [if_pos hok]; unfold M.obeyI; rw [if_pos hoo, if_pos hb])
      have HOK := Lib.hid hok
      have HOO := Lib.hid hoo
      clear hok hoo
      go_enter Tryz.func10, Tryz.ntmps10
      go_wp2_with fail
      refine (specBookOk A l cap A2 m cb _ (HL.out.below hM.1) hlen HP.out (HM.out.below hM.1) hml).mono ?_
      rintro e x1 ⟨rfl, b1⟩
      rw [HOK.out]
      have hM1 := hM.below b1
      clear hM b1
      obtain ⟨q0, q1, q2, q3, q4, q5, q6, q7, q8, q9⟩ := (hM1.get (w.heap.size + 1) (enC en) (by simp)).ten
      go_wp2_with fail
      refine (specEntryOk en _ (by unfold maxLen; omega) (by unfold maxLen; omega)).mono ?_
      rintro e x2 ⟨rfl, b2⟩
      rw [HOO.out]
      have hM2 := hM1.below b2
      clear hM1 b2 q0 q1 q2 q3 q4 q5 q6 q7 q8 q9
      obtain ⟨k0, k1⟩ := (hM2.get w.heap.size (bkA A l.length cap A2 m.length cb) (by simp)).two
      have hx2 : (w.heap.size + 1 + 1 + 1) < x2.heap.size := (hM2.get (w.heap.size + 1 + 1 + 1) (rpA 0 noP) (by simp)).1
      obtain ⟨q0, q1, q2, q3, q4, q5, q6, q7, q8, q9⟩ := (hM2.get (w.heap.size + 1) (enC en) (by simp)).ten
      go_wp2_with (refine wpList_run (by rfl) (oreql_read (a := en.order) (b := M.or0) rfl rfl rfl _) ?_; simp only [hb])
      clear q0 q1 q2 q3 q4 q5 q6 q7 q8 q9
      refine (l6Copy_any A l cap A2 m cb _ (HL.out.below hM2.1) HA.out hlen HC.out (HM.out.below hM2.1) HN.out hml).mono ?_
      rintro e x3 ⟨v1, v2, rs, rfl, hs, hmap, hla, hap, b3⟩
      obtain ⟨A5, c5, rfl, -, -⟩ := hs.open
      obtain ⟨A6, c6, rfl, -, -⟩ := LasOwn.open hla
      have HR := Lib.hid (hM2.below b3)
      have HO := Lib.hid (show _ ∧ _ ∧ _ ∧ _ from ⟨hs, hmap, hla, hap⟩)
      clear hM2 b3 k0 k1 hs hmap hla hap
      (obtain ⟨s0, s1⟩ := (HR.out.get (w.heap.size + 1 + 1) (bkA none 0 0 none 0 0) (by simp)).two)
      (obtain ⟨t0, t1⟩ := (HR.out.get (w.heap.size + 1 + 1 + 1) (rpA 0 noP) (by simp)).two)
      (have y0 := HR.out.loose (w.heap.size + 1 + 1) (by simp) 0)
      (have y1 := HR.out.loose (w.heap.size + 1 + 1) (by simp) 1)
      (have z0 := HR.out.loose (w.heap.size + 1 + 1 + 1) (by simp) 0)
      (have z1 := HR.out.loose (w.heap.size + 1 + 1 + 1) (by simp) 1)
      (have zs := (HR.out.get (w.heap.size + 1 + 1) (bkA none 0 0 none 0 0) (by simp)).1)
      (have zt := (HR.out.get (w.heap.size + 1 + 1 + 1) (rpA 0 noP) (by simp)).1)
      go_wp2
      have hne : ∀ z, z < x2.heap.size → (Value.slice A6 m.length c6).ownBlock ≠ some z := fun z hz e => by have := (World.ownsRow.lt HO.out.2.2.1 z e).1; omega
      refine bodyPost_ret (results_ssOb (.slice A5 rs.length c5) (.slice A6 m.length c6) 0 noP (w.heap.size + 1 + 1) (w.heap.size + 1 + 1 + 1) _ _ rfl rfl ?_ ?_) rfl ⟨.slice A5 rs.length c5, .slice A6 m.length c6, rs, by rw [HE.out] <;> rfl, ?_, by rw [HE.out]; exact HO.out.2.1, ?_, HO.out.2.2.2, ?_⟩
      · exact (((HR.out.get (w.heap.size + 1 + 1) (bkA none 0 0 none 0 0) (by simp)).wr2 _ _).otherM (by omega)).otherM (by omega)
      · exact (((HR.out.get (w.heap.size + 1 + 1 + 1) (rpA 0 noP) (by simp)).otherM (by omega)).otherM (by omega)).wr2 _ _
      · exact ((((HO.out.1.set (by omega) 0 _).set (by omega) 1 _).set (by omega) 0 _).set (by omega) 1 _).mono (by omega)
      · rw [HE.out]
        exact LasOwn.mono (own_off (own_off (own_off (own_off HO.out.2.2.1 (hne _ (by omega)) 0 _) (hne _ (by omega)) 1 _) (hne _ (by omega)) 0 _) (hne _ (by omega)) 1 _) (by omega)
      · exact far_2 (far_2 HR.out.1 (by omega) _ _) (by omega) _ _
end Go.Proofs.YtkpbfocnokbmiaaGreat
namespace Go.Proofs.YtkpbfocnokbmiaaGreat
open Go.RowKit
set_option maxRecDepth 20000
theorem results_sOa (a b : Value) (R : Nat) (W : World) (tmps : Array Value) (h4 : tmps.getD 4 undef = .pointer (some ⟨R, 0, none⟩)) (hR : Holds W R #[a, b]) :
    (results Tryz.f14 tmps).run Tryz.prog W = .ok (.agg #[a, b]) W := by
  obtain ⟨q0, q1⟩ := hR.two
  simp at h4
  simp [results, Tryz.results14, go_sem, h4, q0, q1]
set_option maxHeartbeats 8000000 in
theorem specObeyedAll (A : Option Addr) (l : List Wr) (cap : Nat) (A2 : Option Addr) (m : List M.La) (cb : Nat) (AO : Option Addr) (es : List M.En) (co : Nat) (w : World) (hl : Wks w A l) (hA : ∀ r ∈ l, r.ad = none → r.cap = 0) (hlen : l.length ≤ 1048576) (hp : WrsIn 1048576 l) (hm : Las w A2 m) (hml : m.length ≤ 1048576) (hN : A2 = none → cb = 0) (ho : Ens w AO es) (hol : es.length ≤ 1048576) (hop : ∀ e ∈ es, enIn 1048576 e) :
    Calls Tryz.prog 14 #[bkV A l.length cap A2 m.length cb, .slice AO es.length co] w (BkRet w (M.obeyedAll (l.map Wr.wk, m) es)) := by
  have HL := Lib.hid hl
  have HP := Lib.hid hp
  have HC := Lib.hid (fun r (hr : r ∈ l) => (hp r hr).2.1)
  have HM := Lib.hid hm
  have HA := Lib.hid hA
  have HN := Lib.hid hN
  have HO := Lib.hid ho
  have HOP := Lib.hid hop
  clear hl hp hm ho hop hA hN
  have hM := ((Mem.start w).new (bkA A l.length cap A2 m.length cb) 27).new (bkA none 0 0 none 0 0) 27
  simp only [World.size_alloc] at hM
  rcases hok : M.bkOk (l.map Wr.wk) m with _ | _
  · have HE : Hid (M.obeyedAll (l.map Wr.wk, m) es = ([], [])) := Lib.hid (by unfold M.obeyedAll; simp [hok])
    have HOK := Lib.hid hok
    clear hok
    go_enter Tryz.func14, Tryz.ntmps14
    go_wp2_with fail
    refine (specBookOk A l cap A2 m cb _ (HL.out.below hM.1) hlen HP.out (HM.out.below hM.1) hml).mono ?_
    rintro e x1 ⟨rfl, b1⟩
    rw [HOK.out]
    have hM1 := hM.below b1
    clear hM b1
    have HM1 := Lib.hid hM1
    clear hM1
    obtain ⟨q0, q1⟩ := (HM1.out.get (w.heap.size + 1) (bkA none 0 0 none 0 0) (by simp)).two
    have y0 := HM1.out.loose (w.heap.size + 1) (by simp) 0
    have y1 := HM1.out.loose (w.heap.size + 1) (by simp) 1
    go_wp2
    refine bodyPost_ret (results_sOa (.slice none 0 0) (.slice none 0 0) (w.heap.size + 1) _ _ rfl ((HM1.out.get (w.heap.size + 1) (bkA none 0 0 none 0 0) (by simp)).wr2 _ _)) rfl ⟨.slice none 0 0, .slice none 0 0, [], rfl, ⟨⟨rfl, .inl ⟨rfl, rfl⟩⟩, by simp, by simp, List.Pairwise.nil⟩, by rw [HE.out]; rfl, by rw [HE.out]; exact LasOwn.nil _ _, fun g e => (by cases e), far_2 HM1.out.1 (by omega) _ _⟩
  rcases Nat.lt_or_ge 400 es.length with h4 | h4
  · have HE : Hid (M.obeyedAll (l.map Wr.wk, m) es = ([], [])) := Lib.hid (by unfold M.obeyedAll; rw [if_neg (by simp; omega)])
    have HOK := Lib.hid hok
    clear hok
    go_enter Tryz.func14, Tryz.ntmps14
    go_wp2_with fail
    refine (specBookOk A l cap A2 m cb _ (HL.out.below hM.1) hlen HP.out (HM.out.below hM.1) hml).mono ?_
    rintro e x1 ⟨rfl, b1⟩
    rw [HOK.out]
    have hM1 := hM.below b1
    clear hM b1
    have HM1 := Lib.hid hM1
    clear hM1
    obtain ⟨q0, q1⟩ := (HM1.out.get (w.heap.size + 1) (bkA none 0 0 none 0 0) (by simp)).two
    have y0 := HM1.out.loose (w.heap.size + 1) (by simp) 0
    have y1 := HM1.out.loose (w.heap.size + 1) (by simp) 1
    go_wp2
    refine bodyPost_ret (results_sOa (.slice none 0 0) (.slice none 0 0) (w.heap.size + 1) _ _ rfl ((HM1.out.get (w.heap.size + 1) (bkA none 0 0 none 0 0) (by simp)).wr2 _ _)) rfl ⟨.slice none 0 0, .slice none 0 0, [], rfl, ⟨⟨rfl, .inl ⟨rfl, rfl⟩⟩, by simp, by simp, List.Pairwise.nil⟩, by rw [HE.out]; rfl, by rw [HE.out]; exact LasOwn.nil _ _, fun g e => (by cases e), far_2 HM1.out.1 (by omega) _ _⟩
  have HE : Hid (M.obeyedAll (l.map Wr.wk, m) es = M.obeyTo (l.map Wr.wk, m) es) := Lib.hid (by unfold M.obeyedAll; simp [hok, h4])
  have HKEEP := Lib.hid (fun j => M.obeyTo_ok (b := (l.map Wr.wk, m)) hok (es.take j))
  have HOK := Lib.hid hok
  clear hok
  go_enter Tryz.func14, Tryz.ntmps14
  go_wp2_with fail
  refine (specBookOk A l cap A2 m cb _ (HL.out.below hM.1) hlen HP.out (HM.out.below hM.1) hml).mono ?_
  rintro e x1 ⟨rfl, b1⟩
  rw [HOK.out]
  have hM1 := hM.below b1
  clear hM b1
  obtain ⟨p0, p1⟩ := (hM1.get w.heap.size (bkA A l.length cap A2 m.length cb) (by simp)).two
  have hx1 : (w.heap.size + 1) < x1.heap.size := (hM1.get (w.heap.size + 1) (bkA none 0 0 none 0 0) (by simp)).1
  go_wp2_with fail
  refine (l6Copy_any A l cap A2 m cb _ (HL.out.below hM1.1) HA.out hlen HC.out (HM.out.below hM1.1) HN.out hml).mono ?_
  rintro e x2 ⟨v1, v2, rs0, rfl, hs, hmap, hla, hap, b2⟩
  obtain ⟨A5, c5, rfl, -, -⟩ := hs.open
  obtain ⟨A6, c6, rfl, -, -⟩ := LasOwn.open hla
  have hM2 := hM1.below b2
  clear hM1 p0 p1 b2
  obtain ⟨p0, p1⟩ := (hM2.get w.heap.size (bkA A l.length cap A2 m.length cb) (by simp)).two
  have y0 := hM2.loose w.heap.size (by simp) 0
  have y1 := hM2.loose w.heap.size (by simp) 1
  have zp := (hM2.get w.heap.size (bkA A l.length cap A2 m.length cb) (by simp)).1
  have HST0 : Hid (EnSp w (w.heap.size + 1 + 1) w.heap.size (w.heap.size + 1) (l.map Wr.wk, m) es 0 ((x2.setCell ⟨w.heap.size, 0, none⟩ (.slice A5 rs0.length c5)).setCell ⟨w.heap.size, 1, none⟩ (.slice A6 m.length c6))) := Lib.hid ⟨⟨A5, c5, A6, c6, rs0, ⟨(hM2.get w.heap.size (bkA A l.length cap A2 m.length cb) (by simp)).wr2 _ _, ((hs.set (by omega) 0 _).set (by omega) 1 _).mono (by omega), LasOwn.mono (own_set (own_set hla (by omega) 0 _) (by omega) 1 _) (by omega)⟩, hmap, hap⟩, far_2 hM2.1 (Nat.le_refl _) _ _, ((hM2.get (w.heap.size + 1) (bkA none 0 0 none 0 0) (by simp)).otherM (by omega)).otherM (by omega), fun i => by rw [World.frozen?_setCell, World.frozen?_setCell]; exact hM2.loose (w.heap.size + 1) (by simp) i, fun i => by rw [World.frozen?_setCell, World.frozen?_setCell]; exact hM2.loose w.heap.size (by simp) i⟩
  clear hM2 hs hmap hla hap
  go_wp2_with fail
  go_loopw [5] (fun s5 wr => ∃ j : Nat, s5 = .int .i64 j ∧ j ≤ es.length ∧ EnSp w (w.heap.size + 1 + 1) w.heap.size (w.heap.size + 1) (l.map Wr.wk, m) es j wr) (fun i _ => es.length - (intOf i).toNat)
  case atStart => exact ⟨0, rfl, Nat.zero_le _, HST0.out⟩
  case round =>
    obtain ⟨j, rfl, hj, hst⟩ := hrel
    have HS := Lib.hid hst
    clear hst HST0 p0 p1 y0 y1
    by_cases hlt : j < es.length
    · obtain ⟨ob, oo, rfl, zo, c0, c1, c2, c3, c4, c5, c6, c7, c8, c9⟩ := Ens_at (HO.out.below HS.out.below) hlt
      obtain ⟨⟨hn1, hp1⟩, -⟩ : enIn 1048576 es[j] ∧ True := ⟨HOP.out es[j] (List.getElem_mem hlt), trivial⟩
      have HSUC := Lib.hid (M.obeyTo_succ (l.map Wr.wk, m) es j hlt)
      obtain ⟨A1, d1, A3, d2, rs, hbb, hmp, hap⟩ := HS.out.book
      have hkp := HKEEP.out j
      simp only [M.bkOk, Bool.and_eq_true] at hkp
      have HSM : Hid (rs.length ≤ 5 ∧ WrsIn 12 rs) := Lib.hid (wrs_ok (by rw [hmp]; exact hkp.1))
      have HLL := Lib.hid (M.lasOk_len hkp.2)
      obtain ⟨q, hq⟩ : ∃ q, M.obeyI (M.obeyTo (l.map Wr.wk, m) (es.take j)) es[j] = q := ⟨_, rfl⟩
      have HQ : Hid (M.obeyed (rs.map Wr.wk, (M.obeyTo (l.map Wr.wk, m) (es.take j)).2) es[j] = q) := Lib.hid (by
        have h := HKEEP.out j
        rw [hmp]
        rw [← hq]
        exact M.obeyed_ok h)
      have HQ2 := Lib.hid hq
      have HBB := Lib.hid hbb
      have hsz1 : (w.heap.size + 1) < wr.heap.size := HS.out.box.1
      have HCALL : Hid (∀ x, Below wr.heap.size wr x → Calls Tryz.prog 10 #[(bkV A1 rs.length d1 A3 (M.obeyTo (l.map Wr.wk, m) (es.take j)).2.length d2), enV es[j]] x (OrRet x q)) := Lib.hid (fun x hb => by
        have hcall := specObeyed A1 rs d1 A3 (M.obeyTo (l.map Wr.wk, m) (es.take j)).2 d2 es[j] x (HBB.out.sf.below hb).wks.1 (fun r hr h => (HBB.out.sf.2.1 r hr).nilc h) (by have := HSM.out.1; omega) (HSM.out.2.mono (by omega)) (las_of (LasOwn.below HBB.out.la hb)) (row_nilc HBB.out.la) (by have := HLL.out; omega) hn1 hp1
        rw [HQ.out] at hcall
        exact hcall)
      clear hbb hmp hap hkp hq
      go_upto_region 7 with (fail)
      refine wp_region_fin 9 (fun x => Below wr.heap.size wr x) [(0, true), (1, true), (2, true), (3, true), (4, true), (5, false), (6, true), (7, true), (8, true), (9, false)] (by kernel_rfl) (by kernel_rfl) (fun _ _ _ _ _ h => h) (by kernel_rfl) (by decide) (Below.refl _ _).drew ?_
      intro hHeld
      repeat (first
        | (refine seqF_reads (by simp only [List.getElem?_toArray, List.getElem?_cons_succ, List.getElem?_cons_zero]; first | done | rfl) (by rfl) ?_; apply Exists.intro; apply And.intro; (focus (intro w hSw; (try (replace hSw := hSw (by decide +kernel))); (try (have hD := hSw; obtain ⟨k0, k1⟩ := (HBB.out.box.below hD).two; (have q0 := (hD.cell (p := ⟨ob, oo + j * 10, none⟩) zo).trans c0); (have q1 := (hD.cell (p := ⟨ob, oo + j * 10 + 1, none⟩) zo).trans c1); (have q2 := (hD.cell (p := ⟨ob, oo + j * 10 + 2, none⟩) zo).trans c2); (have q3 := (hD.cell (p := ⟨ob, oo + j * 10 + 3, none⟩) zo).trans c3); (have q4 := (hD.cell (p := ⟨ob, oo + j * 10 + 4, none⟩) zo).trans c4); (have q5 := (hD.cell (p := ⟨ob, oo + j * 10 + 5, none⟩) zo).trans c5); (have q6 := (hD.cell (p := ⟨ob, oo + j * 10 + 6, none⟩) zo).trans c6); (have q7 := (hD.cell (p := ⟨ob, oo + j * 10 + 7, none⟩) zo).trans c7); (have q8 := (hD.cell (p := ⟨ob, oo + j * 10 + 8, none⟩) zo).trans c8); (have q9 := (hD.cell (p := ⟨ob, oo + j * 10 + 9, none⟩) zo).trans c9))); go_simp; (try with_reducible rfl); done)); (try simp only [Act.put, List.setIfInBounds_toArray, List.set_cons_zero, List.set_cons_succ]))
        | (refine seqF_call (by simp only [List.getElem?_toArray, List.getElem?_cons_succ, List.getElem?_cons_zero]; first | done | rfl) (by rfl) (fun K hK => ?_) (by decide); go_simp; go_at_call 10; refine (HCALL.out _ hHeld).mono ?_; rintro r w1 ⟨v1, v2, rs3, rfl, hs3, hm3, hl3, ha3, b1⟩; obtain ⟨B1, e1, rfl, -, -⟩ := hs3.open; obtain ⟨B2, e2, rfl, -, -⟩ := LasOwn.open hl3; go_simp; refine hK.out _ _ _ (fun _ h => h) (next hHeld b1) ?_; clear hK hHeld; intro hHeld; (have HO3 := Lib.hid (show _ ∧ _ ∧ _ ∧ _ from ⟨hs3, hm3, hl3, ha3⟩)); (have HB3 := Lib.hid b1); clear hs3 hm3 hl3 ha3 b1; (try simp only [Act.put, List.setIfInBounds_toArray, List.set_cons_zero, List.set_cons_succ]))
        | (refine seqF_last (by simp only [List.getElem?_toArray, List.getElem?_cons_succ, List.getElem?_cons_zero]; first | done | rfl) (by rfl) (fun K hK => ?_); (have hold := HBB.out.box.below hHeld); obtain ⟨p0, p1⟩ := hold.two; (have hlo := HS.out.loose0.below HBB.out.box.1 hHeld); (have y0 := hlo 0); (have y1 := hlo 1); (have zp := hold.1); go_simp; refine hK.out _ _ ?_; clear hK; clear hold p0 p1 hlo y0 y1 zp; (have HH := Lib.hid hHeld); clear hHeld; (try simp only [Act.put, List.setIfInBounds_toArray, List.set_cons_zero, List.set_cons_succ])))
      refine seqF_end ?_
      have hbs := HH.out.size
      have hb3s := HB3.out.size
      have hdz : wr.heap.size ≤ wr.drew.heap.size := Nat.le_refl _
      have hbx := (HS.out.box.below HH.out)
      have hlx := HS.out.loose.below HS.out.box.1 HH.out
      have hl0 := HS.out.loose0.below HBB.out.box.1 HH.out
      have hsv := HO3.out.1
      have hlv := HO3.out.2.2.1
      have HEND : Hid (EnSp w (w.heap.size + 1 + 1) w.heap.size (w.heap.size + 1) (l.map Wr.wk, m) es (j + 1) ((w1.setCell ⟨w.heap.size, 0, none⟩ (.slice B1 rs3.length e1)).setCell ⟨w.heap.size, 1, none⟩ (.slice B2 q.1.2.length e2))) := Lib.hid ⟨by
        rw [HSUC.out, HQ2.out]
        exact ⟨B1, e1, B2, e2, rs3, ⟨(HBB.out.box.below HH.out).wr2 _ _, ((hsv.set (by omega) 0 _).set (by omega) 1 _).mono (by omega), LasOwn.mono (own_set (own_set hlv (by omega) 0 _) (by omega) 1 _) (by omega)⟩, HO3.out.2.1, HO3.out.2.2.2⟩, far_2 (next HS.out.below HH.out) (Nat.le_refl _) _ _, (hbx.otherM (by omega)).otherM (by omega), fun i => by rw [World.frozen?_setCell, World.frozen?_setCell]; exact hlx i, fun i => by rw [World.frozen?_setCell, World.frozen?_setCell]; exact hl0 i⟩
      clear hdz hbx hlx hl0 hsv hlv c0 c1 c2 c3 c4 c5 c6 c7 c8 c9
      go_wp2
      go_roundw
      case rel => exact ⟨j + 1, by go_num, by omega, HEND.out⟩
      case measure => simp [intOf]; omega
    · have hj' : j = es.length := by omega
      subst hj'
      obtain ⟨A1, d1, A3, d2, rs, hbb, hmp, hap⟩ := HS.out.book
      rw [List.take_length] at hmp hbb hap
      have HBB := Lib.hid hbb
      have HMP2 := Lib.hid hmp
      have HAP := Lib.hid hap
      obtain ⟨g0, g1⟩ := hbb.box.two
      have zg := hbb.box.1
      obtain ⟨q0, q1⟩ := HS.out.box.two
      have y0 := HS.out.loose 0
      have y1' := HS.out.loose 1
      have zq := HS.out.box.1
      clear hmp hbb hap
      go_wp2
      have hge := fun g (e : (Value.slice A3 (M.obeyTo (l.map Wr.wk, m) es).2.length d2).ownBlock = some g) => World.ownsRow.lt HBB.out.la g e
      refine bodyPost_ret (results_sOa (.slice A1 rs.length d1) (.slice A3 (M.obeyTo (l.map Wr.wk, m) es).2.length d2) (w.heap.size + 1) _ _ rfl (HS.out.box.wr2 _ _)) rfl ⟨.slice A1 rs.length d1, .slice A3 (M.obeyTo (l.map Wr.wk, m) es).2.length d2, rs, rfl, ((HBB.out.sf.set (by omega) 0 _).set (by omega) 1 _).mono (by omega), by rw [HE.out]; exact HMP2.out, ?_, HAP.out, far_2 HS.out.below (by omega) _ _⟩
      rw [HE.out]
      exact LasOwn.mono (own_off (own_off HBB.out.la (fun e => by have := (hge _ e).1; omega) 0 _) (fun e => by have := (hge _ e).1; omega) 1 _) (by omega)
end Go.Proofs.YtkpbfocnokbmiaaGreat
namespace Go.Proofs.YtkpbfocnokbmiaaGreat
open Go.RowKit
set_option maxRecDepth 20000
end Go.Proofs.YtkpbfocnokbmiaaGreat
namespace Go.Proofs.YtkpbfocnokbmiaaGreat
open Go.RowKit
set_option maxRecDepth 20000
theorem oball_small {b : M.Bk} {o : List M.En} {r : List Wr} (h : r.map Wr.wk = (M.obeyedAll b o).1) : r.length ≤ 5 ∧ WrsIn 12 r := wrs_ok (h ▸ (M.obeyAll_ok b o).1)
/-- BkRet, its values opened. -/
theorem BkRet.open {w y : World} {q : M.Bk} {r : Ending} (h : BkRet w q r y) : ∃ A1 c1 A2 c2 rs, r = .returned (bkV A1 rs.length c1 A2 q.2.length c2) ∧ SfOwn w.heap.size y (.slice A1 rs.length c1) rs ∧ rs.map Wr.wk = q.1 ∧ LasOwn w.heap.size y (.slice A2 q.2.length c2) q.2 ∧ (∀ g, (Value.slice A2 q.2.length c2).ownBlock = some g → ¬ blocksS (.slice A1 rs.length c1) rs g) ∧ Below w.heap.size w y := by
  obtain ⟨v1, v2, rs, e, h1, h2, h3, h4, h5⟩ := h
  obtain ⟨A1, c1, rfl, -, -⟩ := h1.open
  obtain ⟨A2, c2, rfl, -, -⟩ := LasOwn.open h3
  exact ⟨A1, c1, A2, c2, rs, e, h1, h2, h3, h4, h5⟩
end Go.Proofs.YtkpbfocnokbmiaaGreat
namespace Go.Proofs.YtkpbfocnokbmiaaGreat
open Go.RowKit
set_option maxRecDepth 20000
theorem obey_small {b : M.Bk} {en : M.En} {r : List Wr} (h : r.map Wr.wk = (M.obeyed b en).1.1) : r.length ≤ 5 ∧ WrsIn 12 r := wrs_ok (h ▸ (M.obey_ok b en).1)
end Go.Proofs.YtkpbfocnokbmiaaGreat
namespace Go.Proofs.YtkpbfocnokbmiaaGreat
open Go.ChangeShapes Go.WideShapes Go.ChangeAt Go.RowKit
set_option maxRecDepth 20000

theorem big_any (a : Option Addr) (len cap : Nat) (w : World) : Calls Tryz.prog 4 #[.slice a len cap] w fun e w' => e = .returned (.bool (decide (4096 < len))) ∧ w = w' := by
  by_cases h : 4096 < len
  · go_enter Tryz.func4, Tryz.ntmps4
    go_wp2
    go_ret
    exact ⟨ret_bool (decide_eq_decide.2 (by omega)), rfl⟩
  · go_enter Tryz.func4, Tryz.ntmps4
    go_wp2
    go_ret
    exact ⟨ret_bool (decide_eq_decide.2 (by omega)), rfl⟩

theorem CodeOk.later {w w' : World} {a : Option Addr} {len : Nat} (h : CodeOk w.heap.size w a len) (hb : Below w.heap.size w w') : CodeOk w'.heap.size w' a len := by
  intro j hj
  obtain ⟨b, off, n, ha, hlt, h0, h1, hc⟩ := h.kept hb.block j hj
  exact ⟨b, off, n, ha, Nat.lt_of_lt_of_le hlt hb.size, h0, h1, hc⟩

theorem open_code {H : Type} {enc : TypeId × Value → H} {W : World} {spare : Nat → Bool} {held : Bool} {r : Reach} {b0 : Nat} {v : Value} {d : DataW H} {p : List MemPlace}
    (hv : Value.okWide Tryz.prog W r b0 22 v) (h : DataW.Trod enc Tryz.prog W 0 spare held 22 v d p) :
    ∃ (a : Option Addr) (len cap : Nat), v = .slice a len cap ∧ CodeOk W.heap.size W a len := by
  obtain ⟨a0, len0, cap0, rfl⟩ := okWide_slice Tryz.underlying22 hv
  refine ⟨a0, len0, cap0, rfl, ?_⟩
  obtain ⟨fuel, hf⟩ := h
  rcases open_ints Tryz.underlying22 Tryz.underlying5 (by kernel_rfl) hf with ⟨hcs, _⟩ | ⟨x, l, c, zs, hcs, _, hl, hm, hz, _, hcell, hwz⟩
  · simp [Value.cells] at hcs
    obtain ⟨rfl, rfl, rfl⟩ := hcs
    intro j hj
    omega
  · simp [Value.cells] at hcs
    obtain ⟨rfl, rfl, rfl⟩ := hcs
    intro j hj
    have hz' : len0 ≤ zs.length := by
      rw [hz]; split <;> omega
    obtain ⟨b, off, rfl, hcs⟩ := ints_at hcell (by omega)
    have hcj := hcs j (by omega)
    have hlt := World.block_lt_of_cell? W _ hcj
    have hbd := bounds_u8 (hwz (zs.getD j 0) (by rw [List.getD_eq_getElem?_getD, List.getElem?_eq_getElem (by omega)]; exact List.getElem_mem _))
    exact ⟨b, off, _, rfl, hlt, hbd.1, hbd.2, hcj⟩
end Go.Proofs.YtkpbfocnokbmiaaGreat
