/- Proved, in parts: Proved: the model's Ordered answers the plain Lean function that the program's answers, its book in new memory; nothing that was there is written. Condition: texts and lists of at most a million. Proved: the laws' helpers that write marks into a list of records of the type Last, and look whether they are there, do so and write nothing else. Condition: at most two million records. Proved: the laws' helpers that write marks into a book, and look whether they are there, do so and write nothing else. Condition: at most a million works, copies and lasts. Proved: the laws' helper counts a list of works as the plain Lean function does; it writes nothing that was there. Proved: the laws' own test tells two lists of works alike that are; it writes nothing that was there. No condition. Proved: the laws' helpers on a book (its size, its copy in new memory, its likeness) answer as they should; they write nothing that was there. Condition: texts and lists of at most a million. Proved: a statement with one chain of calls, beside it operations that wait for nothing, and then stores, is gone through operation by operation, whatever order they come up in: of each of the first is shown what its value is in every later memory and which blocks are its own. No program is named here. Condition: als told by a closed test on the statement. Proved: how the law on Ordered holds its books in memory, and what writes elsewhere leave of them; what an order leaves is small. No program's function is named here; no condition. -/
import Derived.Test.YtkpbfocnokbmiaaGreatPart33
import Derived.Test.YtkpbfocnokbmiaaGreatPart34
import Derived.Test.YtkpbfocnokbmiaaGreatPart19
import Derived.Test.YtkpbfocnokbmiaaGreatPart21
import Derived.Test.YtkpbfocnokbmiaaGreatPart30
import Derived.Test.YtkpbfocnokbmiaaGreatPart03
import Derived.Test.YtkpbfocnokbmiaaGreatPart20
import Derived.Test.YtkpbfocnokbmiaaGreatPart18
import Derived.Test.YtkpbfocnokbmiaaGreatPart01
import Derived.Test.YtkpbfocnokbmiaaGreatPart02
namespace Go.Proofs.YtkpbfocnokbmiaaGreat
open Go.RowKit
set_option maxRecDepth 20000
theorem l6Order_any (B : Nat) (A : Option Addr) (c : Nat) (A2 : Option Addr) (c2 : Nat) (rs : List Wr) (ls : List M.La) (x : World) (o : M.Or) (hs : SfOwn B x (.slice A rs.length c) rs) (hla : LasOwn B x (.slice A2 ls.length c2) ls) (hap : ∀ z, (Value.slice A2 ls.length c2).ownBlock = some z → ¬ blocksS (.slice A rs.length c) rs z) (hB : B ≤ x.heap.size) (hok : M.bkOk (rs.map Wr.wk) ls = true) (hn : o.deed.name.size ≤ 1048576) (hpg : o.deed.page.size ≤ 1048576) :
    Calls Tryz.prog 56 #[bkV A rs.length c A2 ls.length c2, orV o] x (OrIn B x (M.ordS (rs.map Wr.wk, ls) o)) := by
  have hok' := hok
  simp only [M.bkOk, Bool.and_eq_true] at hok'
  have hl4 := M.lasOk_len hok'.2
  by_cases hf : M.laFind ls o.client < ls.length
  · obtain ⟨k, hk⟩ : ∃ k, M.laFind ls o.client = k := ⟨_, rfl⟩
    rw [hk] at hf
    obtain ⟨g, cap, hv, -, -⟩ := la_form hla (by omega)
    injection hv with hA _ hc
    subst hA hc
    have hE : M.ordS (rs.map Wr.wk, ls) o = if o.seq = ls[k].seq then ((rs.map Wr.wk, ls), (ls[k].code, ls[k].page)) else if o.seq < ls[k].seq then ((rs.map Wr.wk, ls), (6, M.nilB)) else (((M.does (rs.map Wr.wk) o.deed).1, ls.set k ⟨o.client, o.seq, (M.does (rs.map Wr.wk) o.deed).2.1, (M.does (rs.map Wr.wk) o.deed).2.2⟩), (M.does (rs.map Wr.wk) o.deed).2) := by
      unfold M.ordS
      simp only [hk]
      rw [List.getElem?_eq_getElem hf]
    rw [hE]
    rcases Int.lt_trichotomy o.seq ls[k].seq with h | h | h
    · rw [if_neg (by omega), if_pos h]
      exact l6Order_old B A c g c2 rs ls x o hs hla (hap g rfl) hB (by omega) k hf hk h
    · rw [if_pos h]
      exact l6Order_same B A c g c2 rs ls x o hs hla (hap g rfl) hB (by omega) k hf hk h
    · rw [if_neg (by omega), if_neg (by omega)]
      exact l6Order_set B A c g c2 rs ls x o hs hla hap hB (by omega) hok'.1 hn hpg k hf hk h
  · have hf' : M.laFind ls o.client = ls.length := by
      have := M.laFind_le ls o.client
      omega
    have hE : M.ordS (rs.map Wr.wk, ls) o = (((M.does (rs.map Wr.wk) o.deed).1, M.putLa ls (M.laPlace ls o.client) ⟨o.client, o.seq, (M.does (rs.map Wr.wk) o.deed).2.1, (M.does (rs.map Wr.wk) o.deed).2.2⟩), (M.does (rs.map Wr.wk) o.deed).2) := by
      unfold M.ordS
      simp only [hf']
      rw [List.getElem?_eq_none (Nat.le_refl _)]
    rw [hE]
    exact l6Order_new B A c A2 c2 rs ls x o hs hla hap hB (by omega) hok'.1 hn hpg hf'
theorem l6Order_at (B : Nat) (A : Option Addr) (c : Nat) (A2 : Option Addr) (c2 : Nat) (rs l : List Wr) (ls : List M.La) (x : World) (o : M.Or) (hs : SfOwn B x (.slice A rs.length c) rs) (hm : rs.map Wr.wk = l.map Wr.wk) (hla : LasOwn B x (.slice A2 ls.length c2) ls) (hap : ∀ z, (Value.slice A2 ls.length c2).ownBlock = some z → ¬ blocksS (.slice A rs.length c) rs z) (hB : B ≤ x.heap.size) (hok : M.bkOk (l.map Wr.wk) ls = true) (hn : o.deed.name.size ≤ 1048576) (hpg : o.deed.page.size ≤ 1048576) :
    Calls Tryz.prog 56 #[bkV A rs.length c A2 ls.length c2, orV o] x (OrIn B x (M.ordS (l.map Wr.wk, ls) o)) := by
  rw [← hm]
  exact l6Order_any B A c A2 c2 rs ls x o hs hla hap hB (by rw [hm]; exact hok) hn hpg
theorem results_ssOrd (a b : Value) (c : Int) (p : ByteArray) (R T : Nat) (W : World) (tmps : Array Value) (h4 : tmps.getD 4 undef = .pointer (some ⟨R, 0, none⟩)) (h5 : tmps.getD 5 undef = .pointer (some ⟨T, 0, none⟩)) (hR : Holds W R #[a, b]) (hT : Holds W T (rpA c p)) :
    (results Tryz.f29 tmps).run Tryz.prog W = .ok (.tuple #[.agg #[a, b], rpV c p]) W := by
  obtain ⟨q0, q1⟩ := hR.two
  obtain ⟨r0, r1⟩ := hT.two
  simp at h4 h5
  simp [results, Tryz.results29, go_sem, h4, h5, q0, q1, r0, r1]
set_option maxHeartbeats 4000000 in
theorem specOrdered (A : Option Addr) (l : List Wr) (cap : Nat) (A2 : Option Addr) (m : List M.La) (cb : Nat) (o : M.Or) (w : World) (hl : Wks w A l) (hA : ∀ r ∈ l, r.ad = none → r.cap = 0) (hlen : l.length ≤ 1048576) (hp : WrsIn 1048576 l) (hm : Las w A2 m) (hN : A2 = none → cb = 0) (hml : m.length ≤ 1048576) (hn : o.deed.name.size ≤ 1048576) (hpg : o.deed.page.size ≤ 1048576) :
    Calls Tryz.prog 29 #[bkV A l.length cap A2 m.length cb, orV o] w (OrRet w (M.ordered (l.map Wr.wk, m) o)) := by
  have HL := Lib.hid hl
  have HA := Lib.hid hA
  have HN := Lib.hid hN
  have HP := Lib.hid hp
  have HC := Lib.hid (fun r (hr : r ∈ l) => (hp r hr).2.1)
  have HM := Lib.hid hm
  clear hl hp hm hA hN
  have hM := ((((Mem.start w).new (bkA A l.length cap A2 m.length cb) 27).new (orC o) 33).new (bkA none 0 0 none 0 0) 27).new (rpA 0 noP) 39
  simp only [World.size_alloc] at hM
  rcases hok : M.bkOk (l.map Wr.wk) m with _ | _
  · have HE : Hid (M.ordered (l.map Wr.wk, m) o = (([], []), ((7 : Int), M.nilB))) := Lib.hid (by unfold M.ordered; rw [if_neg (by simp [hok])])
    have HOK := Lib.hid hok
    clear hok
    go_enter Tryz.func29, Tryz.ntmps29
    go_wp2_with fail
    refine (specBookOk A l cap A2 m cb _ (HL.out.below hM.1) hlen HP.out (HM.out.below hM.1) hml).mono ?_
    rintro e x1 ⟨rfl, b1⟩
    rw [HOK.out]
    have HR := Lib.hid (hM.below b1)
    clear hM b1
    (obtain ⟨s0, s1⟩ := (HR.out.get (w.heap.size + 1 + 1) (bkA none 0 0 none 0 0) (by simp)).two)
    (obtain ⟨t0, t1⟩ := (HR.out.get (w.heap.size + 1 + 1 + 1) (rpA 0 noP) (by simp)).two)
    (have y0 := HR.out.loose (w.heap.size + 1 + 1) (by simp) 0)
    (have y1 := HR.out.loose (w.heap.size + 1 + 1) (by simp) 1)
    (have z0 := HR.out.loose (w.heap.size + 1 + 1 + 1) (by simp) 0)
    (have z1 := HR.out.loose (w.heap.size + 1 + 1 + 1) (by simp) 1)
    (have zs := (HR.out.get (w.heap.size + 1 + 1) (bkA none 0 0 none 0 0) (by simp)).1)
    (have zt := (HR.out.get (w.heap.size + 1 + 1 + 1) (rpA 0 noP) (by simp)).1)
    go_wp2
    refine bodyPost_ret (results_ssOrd (.slice none 0 0) (.slice none 0 0) 7 noP (w.heap.size + 1 + 1) (w.heap.size + 1 + 1 + 1) _ _ rfl rfl ?_ ?_) rfl ⟨.slice none 0 0, .slice none 0 0, [], by rw [HE.out] <;> rfl, ⟨⟨rfl, .inl ⟨rfl, rfl⟩⟩, by simp, by simp, List.Pairwise.nil⟩, by rw [HE.out]; rfl, by rw [HE.out]; exact LasOwn.nil _ _, fun g e => (by cases e), ?_⟩
    · exact (((HR.out.get (w.heap.size + 1 + 1) (bkA none 0 0 none 0 0) (by simp)).wr2 _ _).otherM (by omega)).otherM (by omega)
    · exact (((HR.out.get (w.heap.size + 1 + 1 + 1) (rpA 0 noP) (by simp)).otherM (by omega)).otherM (by omega)).wr2 _ _
    · exact far_2 (far_2 HR.out.1 (by omega) _ _) (by omega) _ _
  · have hml' : m.length ≤ 1048575 := by
      have h := hok
      simp only [M.bkOk, Bool.and_eq_true] at h
      have := M.lasOk_len h.2
      omega
    rcases hoo : M.orderOk o with _ | _
    · have HE : Hid (M.ordered (l.map Wr.wk, m) o = ((l.map Wr.wk, m), ((7 : Int), M.nilB))) := Lib.hid (by unfold M.ordered; rw [if_pos hok]; unfold M.ordI; rw [if_neg (by simp [hoo])])
      have HOK := Lib.hid hok
      have HOO := Lib.hid hoo
      clear hok hoo
      go_enter Tryz.func29, Tryz.ntmps29
      go_wp2_with fail
      refine (specBookOk A l cap A2 m cb _ (HL.out.below hM.1) hlen HP.out (HM.out.below hM.1) hml).mono ?_
      rintro e x1 ⟨rfl, b1⟩
      rw [HOK.out]
      have hM1 := hM.below b1
      clear hM b1
      obtain ⟨q0, q1, q2, q3, q4, q5, q6, q7, q8⟩ := (hM1.get (w.heap.size + 1) (orC o) (by simp)).nine
      go_wp2_with fail
      refine (specOrderOk o _ (by unfold maxLen; omega) (by unfold maxLen; omega)).mono ?_
      rintro e x2 ⟨rfl, b2⟩
      rw [HOO.out]
      have hM2 := hM1.below b2
      clear hM1 b2 q0 q1 q2 q3 q4 q5 q6 q7 q8
      obtain ⟨k0, k1⟩ := (hM2.get w.heap.size (bkA A l.length cap A2 m.length cb) (by simp)).two
      have hx2 : (w.heap.size + 1 + 1 + 1) < x2.heap.size := (hM2.get (w.heap.size + 1 + 1 + 1) (rpA 0 noP) (by simp)).1
      go_wp2_with fail
      refine (l6Copy_any A l cap A2 m cb _ (HL.out.below hM2.1) HA.out hlen HC.out (HM.out.below hM2.1) HN.out hml).mono ?_
      rintro e x3 ⟨v1, v2, rs, rfl, hs, hmap, hla, hap, b3⟩
      obtain ⟨A5, c5, rfl, -, -⟩ := hs.open
      obtain ⟨A6, c6, rfl, -, -⟩ := LasOwn.open hla
      have HR := Lib.hid (hM2.below b3)
      have HO := Lib.hid (show _ ∧ _ ∧ _ ∧ _ from ⟨hs, hmap, hla, hap⟩)
      clear hM2 b3 k0 k1 hs hmap hla hap
      (obtain ⟨s0, s1⟩ := (HR.out.get (w.heap.size + 1 + 1) (bkA none 0 0 none 0 0) (by simp)).two)
      (obtain ⟨t0, t1⟩ := (HR.out.get (w.heap.size + 1 + 1 + 1) (rpA 0 noP) (by simp)).two)
      (have y0 := HR.out.loose (w.heap.size + 1 + 1) (by simp) 0)
      (have y1 := HR.out.loose (w.heap.size + 1 + 1) (by simp) 1)
      (have z0 := HR.out.loose (w.heap.size + 1 + 1 + 1) (by simp) 0)
      (have z1 := HR.out.loose (w.heap.size + 1 + 1 + 1) (by simp) 1)
      (have zs := (HR.out.get (w.heap.size + 1 + 1) (bkA none 0 0 none 0 0) (by simp)).1)
      (have zt := (HR.out.get (w.heap.size + 1 + 1 + 1) (rpA 0 noP) (by simp)).1)
      go_wp2
      have hne : ∀ z, z < x2.heap.size → (Value.slice A6 m.length c6).ownBlock ≠ some z := fun z hz e => by have := (World.ownsRow.lt HO.out.2.2.1 z e).1; omega
      refine bodyPost_ret (results_ssOrd (.slice A5 rs.length c5) (.slice A6 m.length c6) 7 noP (w.heap.size + 1 + 1) (w.heap.size + 1 + 1 + 1) _ _ rfl rfl ?_ ?_) rfl ⟨.slice A5 rs.length c5, .slice A6 m.length c6, rs, by rw [HE.out] <;> rfl, ?_, by rw [HE.out]; exact HO.out.2.1, ?_, HO.out.2.2.2, ?_⟩
      · exact (((HR.out.get (w.heap.size + 1 + 1) (bkA none 0 0 none 0 0) (by simp)).wr2 _ _).otherM (by omega)).otherM (by omega)
      · exact (((HR.out.get (w.heap.size + 1 + 1 + 1) (rpA 0 noP) (by simp)).otherM (by omega)).otherM (by omega)).wr2 _ _
      · exact ((((HO.out.1.set (by omega) 0 _).set (by omega) 1 _).set (by omega) 0 _).set (by omega) 1 _).mono (by omega)
      · rw [HE.out]
        exact LasOwn.mono (own_off (own_off (own_off (own_off HO.out.2.2.1 (hne _ (by omega)) 0 _) (hne _ (by omega)) 1 _) (hne _ (by omega)) 0 _) (hne _ (by omega)) 1 _) (by omega)
      · exact far_2 (far_2 HR.out.1 (by omega) _ _) (by omega) _ _
    · have HE : Hid (M.ordered (l.map Wr.wk, m) o = M.ordS (l.map Wr.wk, m) o) := Lib.hid (by unfold M.ordered; rw [if_pos hok]; exact (M.ordS_eq (b := (l.map Wr.wk, m)) hok hoo).symm)
      have HOK := Lib.hid hok
      have HOO := Lib.hid hoo
      clear hok hoo
      go_enter Tryz.func29, Tryz.ntmps29
      go_wp2_with fail
      refine (specBookOk A l cap A2 m cb _ (HL.out.below hM.1) hlen HP.out (HM.out.below hM.1) hml).mono ?_
      rintro e x1 ⟨rfl, b1⟩
      rw [HOK.out]
      have hM1 := hM.below b1
      clear hM b1
      obtain ⟨q0, q1, q2, q3, q4, q5, q6, q7, q8⟩ := (hM1.get (w.heap.size + 1) (orC o) (by simp)).nine
      go_wp2_with fail
      refine (specOrderOk o _ (by unfold maxLen; omega) (by unfold maxLen; omega)).mono ?_
      rintro e x2 ⟨rfl, b2⟩
      rw [HOO.out]
      have hM2 := hM1.below b2
      clear hM1 b2 q0 q1 q2 q3 q4 q5 q6 q7 q8
      have HR := Lib.hid ((hM2.drew).re (hs' := [((w.heap.size + 1 + 1 + 1), rpA 0 noP), ((w.heap.size + 1 + 1), bkA none 0 0 none 0 0)]) (ls' := [(w.heap.size + 1 + 1 + 1), (w.heap.size + 1 + 1)]) (by simp) (by simp))
      have HP := Lib.hid ((hM2.drew).re (hs' := [((w.heap.size + 1), orC o), (w.heap.size, (bkA A l.length cap A2 m.length cb))]) (ls' := []) (by simp) (by simp))
      have HG := Lib.hid (fun (y : World) (h : Mem w [((w.heap.size + 1), orC o), (w.heap.size, (bkA A l.length cap A2 m.length cb))] [] y) => And.intro (h.get w.heap.size (bkA A l.length cap A2 m.length cb) (by simp)).two (h.get (w.heap.size + 1) (orC o) (by simp)).nine)
      have HZ : Hid ((w.heap.size + 1 + 1 + 1) < x2.drew.heap.size) := Lib.hid (hM2.get (w.heap.size + 1 + 1 + 1) (rpA 0 noP) (by simp)).1
      clear hM2
      go_upto_region 5 with (fail)
      refine wp_region_seq (fun y => Mem w [((w.heap.size + 1), orC o), (w.heap.size, (bkA A l.length cap A2 m.length cb))] [] y) [(0, true), (2, true), (1, false), (3, false), (4, true), (5, true), (6, false), (7, false)] (by kernel_rfl) (by kernel_rfl) (fun _ _ _ _ _ h => h) (by kernel_rfl) (by decide) HP.out ?_
      intro hHeld
      generalize World.drew _ = wd at hHeld HR HZ ⊢
      have hz := HZ.out
      repeat (first
        | (refine seq_skip (by simp only [List.getElem?_toArray, List.getElem?_cons_succ, List.getElem?_cons_zero]; first | done | rfl) (by rfl) ?_; (try simp only [Act.put, List.setIfInBounds_toArray, List.set_cons_zero, List.set_cons_succ]))
        | (refine seq_reads (by simp only [List.getElem?_toArray, List.getElem?_cons_succ, List.getElem?_cons_zero]; first | done | rfl) (by rfl) ?_; apply Exists.intro; apply And.intro; (focus (intro w hSw; (try (obtain ⟨⟨k0, k1⟩, q0, q1, q2, q3, q4, q5, q6, q7, q8⟩ := HG.out _ hSw)); go_simp; (try with_reducible rfl); done)); (try simp only [Act.put, List.setIfInBounds_toArray, List.set_cons_zero, List.set_cons_succ]))
        | (refine seq_pass (by simp only [List.getElem?_toArray, List.getElem?_cons_succ, List.getElem?_cons_zero]; first | done | rfl) (by rfl) hHeld ?_; clear hHeld; intro hHeld; (try simp only [Act.put, List.setIfInBounds_toArray, List.set_cons_zero, List.set_cons_succ]))
        | (refine seq_call (by simp only [List.getElem?_toArray, List.getElem?_cons_succ, List.getElem?_cons_zero]; first | done | rfl) (by rfl) (fun K hK => ?_); go_simp; go_at_call 28; refine (l6Copy_any A l cap A2 m cb _ (HL.out.below hHeld.1) HA.out hlen HC.out (HM.out.below hHeld.1) HN.out hml).mono ?_; rintro r w1 ⟨v1, v2, rs, rfl, hs, hmap, hla, hap, b1⟩; obtain ⟨A5, c5, rfl, -, -⟩ := hs.open; obtain ⟨A6, c6, rfl, -, -⟩ := LasOwn.open hla; go_simp; refine hK.out _ _ (hHeld.below b1) ?_; clear hK hHeld; intro hHeld; (have HO := Lib.hid (show _ ∧ _ ∧ _ ∧ _ from ⟨hs, hmap, hla, hap⟩)); (replace HR := Lib.hid (HR.out.below b1)); (have HX := Lib.hid b1.size); clear hs hmap hla hap b1; (try simp only [Act.put, List.setIfInBounds_toArray, List.set_cons_zero, List.set_cons_succ]))
        | (refine seq_call (by simp only [List.getElem?_toArray, List.getElem?_cons_succ, List.getElem?_cons_zero]; first | done | rfl) (by rfl) (fun K hK => ?_); go_simp; go_at_call 56; refine (l6Order_at wd.heap.size A5 c5 A6 c6 rs l m _ o HO.out.1 HO.out.2.1 HO.out.2.2.1 HO.out.2.2.2 HX.out HOK.out hn hpg).mono ?_; rintro r w1 ⟨u1, u2, rs2, rfl, ho, hmp, hlo, hao, b2⟩; obtain ⟨A7, c7, rfl, -, -⟩ := ho.open; obtain ⟨A8, c8, rfl, -, -⟩ := LasOwn.open hlo; go_simp; refine hK.out _ _ (hHeld.low b2 (by omega) (by simp; omega) (by simp)) ?_; clear hK hHeld; intro hHeld; (have HO2 := Lib.hid (show _ ∧ _ ∧ _ ∧ _ from ⟨ho, hmp, hlo, hao⟩)); (replace HR := Lib.hid (HR.out.low b2 (by omega) (by simp; omega) (by simp; omega))); clear ho hmp hlo hao b2; (try simp only [Act.put, List.setIfInBounds_toArray, List.set_cons_zero, List.set_cons_succ]))
        | (refine seq_call (by simp only [List.getElem?_toArray, List.getElem?_cons_succ, List.getElem?_cons_zero]; first | done | rfl) (by rfl) (fun K hK => ?_); (obtain ⟨s0, s1⟩ := (HR.out.get (w.heap.size + 1 + 1) (bkA none 0 0 none 0 0) (by simp)).two); (obtain ⟨t0, t1⟩ := (HR.out.get (w.heap.size + 1 + 1 + 1) (rpA 0 noP) (by simp)).two); (have y0 := HR.out.loose (w.heap.size + 1 + 1) (by simp) 0); (have y1 := HR.out.loose (w.heap.size + 1 + 1) (by simp) 1); (have z0 := HR.out.loose (w.heap.size + 1 + 1 + 1) (by simp) 0); (have z1 := HR.out.loose (w.heap.size + 1 + 1 + 1) (by simp) 1); (have zs := (HR.out.get (w.heap.size + 1 + 1) (bkA none 0 0 none 0 0) (by simp)).1); (have zt := (HR.out.get (w.heap.size + 1 + 1 + 1) (rpA 0 noP) (by simp)).1); go_simp; refine hK.out _ _ ((hHeld.off (by omega) (fun p hp => by rcases List.mem_cons.1 hp with rfl | hp; (show w.heap.size + 1 ≠ _; omega); obtain rfl := List.mem_singleton.1 hp; (show w.heap.size ≠ _; omega))).off (by omega) (fun p hp => by rcases List.mem_cons.1 hp with rfl | hp; (show w.heap.size + 1 ≠ _; omega); obtain rfl := List.mem_singleton.1 hp; (show w.heap.size ≠ _; omega))) ?_; clear hK hHeld; intro hHeld; clear s0 s1 t0 t1 y0 y1 z0 z1 zs zt; (try simp only [Act.put, List.setIfInBounds_toArray, List.set_cons_zero, List.set_cons_succ])))
      refine seq_end ?_
      go_wp2
      have hne : ∀ z, z < wd.heap.size → (Value.slice A8 (M.ordS (l.map Wr.wk, m) o).1.2.length c8).ownBlock ≠ some z := fun z hz e => by have := (World.ownsRow.lt HO2.out.2.2.1 z e).1; omega
      refine bodyPost_ret (results_ssOrd (.slice A7 rs2.length c7) (.slice A8 (M.ordS (l.map Wr.wk, m) o).1.2.length c8) _ _ (w.heap.size + 1 + 1) (w.heap.size + 1 + 1 + 1) _ _ rfl rfl ?_ ?_) rfl ⟨.slice A7 rs2.length c7, .slice A8 (M.ordS (l.map Wr.wk, m) o).1.2.length c8, rs2, by rw [HE.out], ?_, by rw [HE.out]; exact HO2.out.2.1, ?_, HO2.out.2.2.2, ?_⟩
      · exact (((HR.out.get (w.heap.size + 1 + 1) (bkA none 0 0 none 0 0) (by simp)).wr2 _ _).otherM (by omega)).otherM (by omega)
      · exact (((HR.out.get (w.heap.size + 1 + 1 + 1) (rpA 0 noP) (by simp)).otherM (by omega)).otherM (by omega)).wr2 _ _
      · exact ((((HO2.out.1.set (by omega) 0 _).set (by omega) 1 _).set (by omega) 0 _).set (by omega) 1 _).mono (by omega)
      · rw [HE.out]
        exact LasOwn.mono (own_off (own_off (own_off (own_off HO2.out.2.2.1 (hne _ (by omega)) 0 _) (hne _ (by omega)) 1 _) (hne _ (by omega)) 0 _) (hne _ (by omega)) 1 _) (by omega)
      · exact far_2 (far_2 HR.out.1 (by omega) _ _) (by omega) _ _
end Go.Proofs.YtkpbfocnokbmiaaGreat
namespace Go.Proofs.YtkpbfocnokbmiaaGreat
open Go.RowKit
set_option maxRecDepth 20000
end Go.Proofs.YtkpbfocnokbmiaaGreat
namespace Go.Proofs.YtkpbfocnokbmiaaGreat
open Go.RowKit
set_option maxRecDepth 20000
/-- The blocks of a book. -/
def blocksB (v1 v2 : Value) (l : List Wr) (g : Nat) : Prop := blocksS v1 l g ∨ v2.ownBlock = some g
end Go.Proofs.YtkpbfocnokbmiaaGreat
namespace Go.Proofs.YtkpbfocnokbmiaaGreat
open Go.RowKit

end Go.Proofs.YtkpbfocnokbmiaaGreat
namespace Go.Proofs.YtkpbfocnokbmiaaGreat
open Go.RowKit
set_option maxRecDepth 20000

end Go.Proofs.YtkpbfocnokbmiaaGreat
namespace Go.Proofs.YtkpbfocnokbmiaaGreat
open Go.RowKit
set_option maxRecDepth 20000
end Go.Proofs.YtkpbfocnokbmiaaGreat
namespace Go.Proofs.YtkpbfocnokbmiaaGreat
open Go Go.RowKit

def dstAt (ops : Array Oper) (i : Nat) : Option Nat := (ops[i]?).bind fun o => o.dst
def waitsOn (o : Oper) (j : Nat) : Bool := o.after.any fun e => Region.binds .any e && e.on == j
structure PreI (Le : World → World → Prop) (F : Nat → Value → (Nat → Prop) → World → Prop) (lk : Nat → Option Nat) (rel : Nat → Value → Value → Prop) (ops : Array Oper) (n : Nat) (a0 : Act) (w0 : World) (l : Nat → Bool) (a : Act) (w : World) (u : Nat → Value) (e : Nat → Nat → Prop) : Prop where
  val : ∀ i d, i < n → l i = true → dstAt ops i = some d → a.tmps[d]? = some (u i)
  old : ∀ d, (∀ i, i < n → l i = true → dstAt ops i ≠ some d) → a.tmps[d]? = a0.tmps[d]?
  size : a.tmps.size = a0.tmps.size
  defers : a.defers = a0.defers
  fact : ∀ i, i < n → l i = true → F i (u i) (e i) w
  link : ∀ i j, i < n → l i = true → lk i = some j → l j = true ∧ rel i (u j) (u i)
  foot : ∀ i g, i < n → l i = true → e i g → w0.heap.size ≤ g ∧ g < w.heap.size
  apart : ∀ i j g, i < n → j < n → i ≠ j → l i = true → l j = true → e i g → ¬ e j g
  below : Le w0 w
def fillAct (ops : Array Oper) (n : Nat) (u : Nat → Value) (a0 : Act) : Act :=
  ⟨(List.range n).foldl (fun t i => match dstAt ops i with
    | some d => t.setIfInBounds d (u i)
    | none => t) a0.tmps, a0.defers⟩
theorem fill_at (ops : Array Oper) (u : Nat → Value) (t : Array Value) : ∀ n, (((List.range n).foldl (fun t i => match dstAt ops i with
    | some d => t.setIfInBounds d (u i)
    | none => t) t).size = t.size) ∧ ∀ (D : Nat) (_ : D < t.size), (∀ i, i < n → dstAt ops i ≠ some D) → ((List.range n).foldl (fun t i => match dstAt ops i with
    | some d => t.setIfInBounds d (u i)
    | none => t) t)[D]? = t[D]?
  | 0 => ⟨rfl, fun _ _ _ => rfl⟩
  | n + 1 => by
    have ih := fill_at ops u t n
    rw [List.range_succ, List.foldl_append]
    simp only [List.foldl_cons, List.foldl_nil]
    refine ⟨?_, fun D hD hn => ?_⟩
    · split
      · simp [ih.1]
      · exact ih.1
    · split
      · rename_i d hd
        have hne : d ≠ D := fun e => hn n (by omega) (e ▸ hd)
        rw [Array.getElem?_setIfInBounds_ne hne]
        exact ih.2 D hD (fun i hi => hn i (by omega))
      · exact ih.2 D hD (fun i hi => hn i (by omega))
theorem fill_val (ops : Array Oper) (u : Nat → Value) (t : Array Value) : ∀ n, (∀ i j d, i < n → j < n → dstAt ops i = some d → dstAt ops j = some d → i = j) → ∀ i d, i < n → d < t.size → dstAt ops i = some d → ((List.range n).foldl (fun t i => match dstAt ops i with
    | some d => t.setIfInBounds d (u i)
    | none => t) t)[d]? = some (u i)
  | 0, _, _, _, h, _, _ => absurd h (by omega)
  | n + 1, hinj, i, d, hi, hd, hdst => by
    have hsz := (fill_at ops u t n).1
    rw [List.range_succ, List.foldl_append]
    simp only [List.foldl_cons, List.foldl_nil]
    by_cases e : i = n
    · subst e
      rw [hdst]
      simp only
      rw [Array.getElem?_setIfInBounds_self_of_lt (by rw [hsz]; exact hd)]
    · have ih := fill_val ops u t n (fun i j d hi hj => hinj i j d (by omega) (by omega)) i d (by omega) hd hdst
      split
      · rename_i d' hd'
        have hne : d' ≠ d := fun e' => e (hinj i n d hi (by omega) hdst (e' ▸ hd'))
        rw [Array.getElem?_setIfInBounds_ne hne]
        exact ih
      · exact ih


/-- A way for the memory to grow: what the operations may do to it. -/
structure Grows (Le : World → World → Prop) : Prop where
  refl : ∀ w, Le w w
  trans : ∀ a b c, Le a b → Le b c → Le a c
  size : ∀ a b, Le a b → a.heap.size ≤ b.heap.size
structure Laid (ops : Array Oper) (lk : Nat → Option Nat) (n sz : Nat) : Prop where
  dst : ∀ i, i < n → ∃ d, dstAt ops i = some d ∧ d < sz ∧ ∀ j, j < n → dstAt ops j = some d → i = j
  op : ∀ i, i < n → ∃ o, ops[i]? = some o ∧ o.guard = none ∧ ∀ j, lk i = some j → waitsOn o j = true ∧ j < n
/-- One operation more. -/
theorem PreI.put {Le : World → World → Prop} {F : Nat → Value → (Nat → Prop) → World → Prop} {lk : Nat → Option Nat} {rel : Nat → Value → Value → Prop} {ops : Array Oper} {n : Nat} {a0 : Act} {w0 : World} {l : Nat → Bool} {a : Act} {w y : World} {u : Nat → Value} {e0 : Nat → Nat → Prop} {i : Nat} {o : Oper} {v : Value} {E : Nat → Prop}
    (hp : PreI Le F lk rel ops n a0 w0 l a w u e0) (hLe : Grows Le) (hL : Laid ops lk n a0.tmps.size) (hst : ∀ i v E x y, F i v E x → Le x y → F i v E y) (hin : i < n) (ho' : ops[i]? = some o) (hli : l i = false)
    (hF : F i v E y) (hrel : ∀ j, lk i = some j → l j = true ∧ rel i (u j) v) (hb : Le w y) (hft : ∀ g, E g → w.heap.size ≤ g ∧ g < y.heap.size) :
    PreI Le F lk rel ops n a0 w0 (fun j => j == i || l j) (a.put o.dst v) y (fun j => if j = i then v else u j) (fun j => if j = i then E else e0 j) := by
  obtain ⟨d, hd, hdz, hdi⟩ := hL.dst i hin
  have hod : o.dst = some d := by
    unfold dstAt at hd
    rw [ho'] at hd
    exact hd
  have hput : (a.put o.dst v).tmps = a.tmps.setIfInBounds d v := by rw [hod]; rfl
  refine ⟨fun j d' hj hl hd' => ?_, fun d' hd' => ?_, ?_, ?_, fun j hj hl => ?_, fun j k hj hl hjk => ?_, fun j g hj hl hg' => ?_, fun j k g hj hk hne hlj hlk h1 h2 => ?_, hLe.trans _ _ _ hp.below hb⟩
  · rw [hput]
    by_cases e : j = i
    · subst e
      rw [hd] at hd'
      cases hd'
      rw [Array.getElem?_setIfInBounds_self_of_lt (by rw [hp.size]; exact hdz), if_pos rfl]
    · rw [if_neg e]
      have hne : d ≠ d' := fun e' => e (hdi j hj (e' ▸ hd')).symm
      rw [Array.getElem?_setIfInBounds_ne hne]
      exact hp.val j d' hj (by simpa [e] using hl) hd'
  · rw [hput]
    have hne : d ≠ d' := fun e' => hd' i hin (by simp) (e' ▸ hd)
    rw [Array.getElem?_setIfInBounds_ne hne]
    exact hp.old d' fun j hj hl => hd' j hj (by simp [hl])
  · rw [hput, Array.size_setIfInBounds]
    exact hp.size
  · rw [hod]
    exact hp.defers
  · by_cases e : j = i
    · subst e; rw [if_pos rfl, if_pos rfl]; exact hF
    · rw [if_neg e, if_neg e]
      exact hst j _ _ _ _ (hp.fact j hj (by simpa [e] using hl)) hb
  · by_cases e : j = i
    · subst e
      have h1 := (hrel k hjk).1
      have hne : k ≠ j := fun e' => by rw [e', hli] at h1; cases h1
      rw [if_pos rfl, if_neg hne]
      exact ⟨by simp [h1], (hrel k hjk).2⟩
    · have h1 := hp.link j k hj (by simpa [e] using hl) hjk
      have hne : k ≠ i := fun e' => by rw [e', hli] at h1; cases h1.1
      rw [if_neg e, if_neg hne]
      exact ⟨by simp [h1.1], h1.2⟩
  · by_cases e : j = i
    · subst e
      rw [if_pos rfl] at hg'
      have := hft g hg'
      exact ⟨Nat.le_trans (hLe.size _ _ hp.below) this.1, this.2⟩
    · rw [if_neg e] at hg'
      have := hp.foot j g hj (by simpa [e] using hl) hg'
      exact ⟨this.1, Nat.lt_of_lt_of_le this.2 (hLe.size _ _ hb)⟩
  · by_cases e : j = i
    · subst e
      rw [if_pos rfl] at h1
      rw [if_neg (fun e' => hne e'.symm)] at h2
      have ha := (hft g h1).1
      have hb' := (hp.foot k g hk (by simp only [Bool.or_eq_true, beq_iff_eq] at hlk; exact hlk.resolve_left fun e' => hne e'.symm) h2).2
      omega
    · rw [if_neg e] at h1
      by_cases e2 : k = i
      · subst e2
        rw [if_pos rfl] at h2
        have ha := (hft g h2).1
        have hb' := (hp.foot j g hj (by simpa [e] using hlj) h1).2
        omega
      · rw [if_neg e2] at h2
        exact hp.apart j k g hj hk hne (by simpa [e] using hlj) (by simpa [e2] using hlk) h1 h2
theorem PreI.all {Le : World → World → Prop} {F : Nat → Value → (Nat → Prop) → World → Prop} {lk : Nat → Option Nat} {rel : Nat → Value → Value → Prop} {ops : Array Oper} {n : Nat} {a0 : Act} {w0 : World} {l : Nat → Bool} {a : Act} {w : World} {u : Nat → Value} {e0 : Nat → Nat → Prop}
    (hp' : PreI Le F lk rel ops n a0 w0 l a w u e0) (hL : Laid ops lk n a0.tmps.size) (hall : ∀ i, i < n → l i = true) : a = fillAct ops n u a0 := by
  have hf := fill_at ops u a0.tmps n
  have hv := fill_val ops u a0.tmps n (fun p q d hp hq e1 e2 => by
    obtain ⟨d', h1, h2, h3⟩ := hL.dst p hp
    rw [e1] at h1
    cases h1
    exact h3 q hq e2)
  have ht : a.tmps = (fillAct ops n u a0).tmps := by
    refine Array.ext_getElem? fun D => ?_
    by_cases hD : D < a0.tmps.size
    · by_cases hx : ∃ j, j < n ∧ dstAt ops j = some D
      · obtain ⟨j, hj, hjd⟩ := hx
        rw [hp'.val j D hj (hall j hj) hjd]
        exact (hv j D hj hD hjd).symm
      · rw [hp'.old D fun j hj _ e => hx ⟨j, hj, e⟩]
        exact (hf.2 D hD fun j hj e => hx ⟨j, hj, e⟩).symm
    · rw [Array.getElem?_eq_none (by rw [hp'.size]; omega)]
      exact (Array.getElem?_eq_none (by have h1 := hf.1; show Array.size (List.foldl _ _ _) ≤ D; rw [h1]; omega)).symm
  have hdf : a.defers = a0.defers := hp'.defers
  rcases a with ⟨t, df⟩
  simp only at ht hdf
  subst ht hdf
  rfl
section
variable {Le : World → World → Prop} {P : Program} {ops : Array Oper} {Q : Exit → Act → World → Prop} {S : World → Prop} {F : Nat → Value → (Nat → Prop) → World → Prop} {lk : Nat → Option Nat} {rel : Nat → Value → Value → Prop} {n : Nat} {a0 : Act} {w0 : World} {rd : Nat → Bool}

end
end Go.Proofs.YtkpbfocnokbmiaaGreat
namespace Go.Proofs.YtkpbfocnokbmiaaGreat
open Go.RowKit
set_option maxRecDepth 20000
namespace M
end M
/-- A box with a book of one's own. -/
structure BB (B : Nat) (x : World) (G : Nat) (A1 : Option Addr) (c1 : Nat) (A2 : Option Addr) (c2 : Nat) (rs : List Wr) (ls : List M.La) : Prop where
  box : Holds x G (bkA A1 rs.length c1 A2 ls.length c2)
  sf : SfOwn B x (.slice A1 rs.length c1) rs
  la : LasOwn B x (.slice A2 ls.length c2) ls
theorem BB.below {B G c1 c2 : Nat} {x y : World} {A1 A2 : Option Addr} {rs : List Wr} {ls : List M.La} (h : BB B x G A1 c1 A2 c2 rs ls) (hb : Below x.heap.size x y) : BB B y G A1 c1 A2 c2 rs ls := ⟨h.box.below hb, h.sf.below hb, LasOwn.below h.la hb⟩
theorem BB.touch {S : Nat → Prop} {B G c1 c2 : Nat} {x y : World} {A1 A2 : Option Addr} {rs : List Wr} {ls : List M.La} (h : BB B x G A1 c1 A2 c2 rs ls) (ht : TouchS S x y) (hG : ¬ S G) (hne : ∀ g, blocksB (.slice A1 rs.length c1) (.slice A2 ls.length c2) rs g → ¬ S g) : BB B y G A1 c1 A2 c2 rs ls :=
  ⟨ht.holds h.box hG, ht.sf h.sf (fun g hg => hne g (.inl hg)), ht.row h.la (fun g hg => hne g (.inr hg))⟩
theorem BB.ge {B G c1 c2 : Nat} {x : World} {A1 A2 : Option Addr} {rs : List Wr} {ls : List M.La} (h : BB B x G A1 c1 A2 c2 rs ls) {g : Nat} (hg : blocksB (.slice A1 rs.length c1) (.slice A2 ls.length c2) rs g) : B ≤ g ∧ g < x.heap.size := by
  rcases hg with hg | hg
  · exact h.sf.ge hg
  · exact World.ownsRow.lt h.la g hg
theorem BB.las {B G c1 c2 : Nat} {x : World} {A1 A2 : Option Addr} {rs : List Wr} {ls : List M.La} (h : BB B x G A1 c1 A2 c2 rs ls) : Las x A2 ls := las_of h.la
/-- v is a copy of a book, to be given away. -/
def BkArg (l : List Wr) (m : List M.La) (v : Value) (x : World) : Prop :=
  ∃ (rs : List Wr) (g1 g2 : Nat), v = bkV (some ⟨g1, 0, none⟩) rs.length rs.length (some ⟨g2, 0, none⟩) m.length m.length ∧ rs.map Wr.wk = l.map Wr.wk ∧ rs.length = l.length ∧ (∀ r ∈ rs, r.ad ≠ none ∧ r.cap = r.cps.length) ∧ Wks x (some ⟨g1, 0, none⟩) rs ∧ Las x (some ⟨g2, 0, none⟩) m
theorem BkArg.below {l : List Wr} {m : List M.La} {v : Value} {x y : World} (h : BkArg l m v x) (hb : Below x.heap.size x y) : BkArg l m v y := by
  obtain ⟨rs, g1, g2, e, h1, h2, h3, h4, h5⟩ := h
  exact ⟨rs, g1, g2, e, h1, h2, h3, h4.below hb, h5.below hb⟩
/-- v is a book and a reply, E the book's blocks. -/
def BkRes (B : Nat) (q : M.Bk × M.Rp) (v : Value) (E : Nat → Prop) (x : World) : Prop :=
  ∃ A1 c1 A2 c2 rs, v = .tuple #[bkV A1 rs.length c1 A2 q.1.2.length c2, rpV q.2.1 q.2.2] ∧ SfOwn B x (.slice A1 rs.length c1) rs ∧ rs.map Wr.wk = q.1.1 ∧ LasOwn B x (.slice A2 q.1.2.length c2) q.1.2 ∧ (∀ g, (Value.slice A2 q.1.2.length c2).ownBlock = some g → ¬ blocksS (.slice A1 rs.length c1) rs g) ∧ ∀ g, E g ↔ blocksB (.slice A1 rs.length c1) (.slice A2 q.1.2.length c2) rs g
theorem BkRes.below {B : Nat} {q : M.Bk × M.Rp} {v : Value} {E : Nat → Prop} {x y : World} (h : BkRes B q v E x) (hb : Below x.heap.size x y) : BkRes B q v E y := by
  obtain ⟨A1, c1, A2, c2, rs, e, h1, h2, h3, h4, h5⟩ := h
  exact ⟨A1, c1, A2, c2, rs, e, h1.below hb, h2, LasOwn.below h3 hb, h4, h5⟩
/-- s points to a new box that holds C and may be written, E its block. -/
def NewBox (C : Array Value) (v : Value) (E : Nat → Prop) (x : World) : Prop :=
  ∃ g, v = .pointer (some ⟨g, 0, none⟩) ∧ Holds x g C ∧ Loose x g ∧ ∀ k, E k ↔ k = g
theorem NewBox.below {C : Array Value} {v : Value} {E : Nat → Prop} {x y : World} (h : NewBox C v E x) (hb : Below x.heap.size x y) : NewBox C v E y := by
  obtain ⟨g, e, h1, h2, h3⟩ := h
  exact ⟨g, e, h1.below hb, h2.below h1.1 hb, h3⟩
end Go.Proofs.YtkpbfocnokbmiaaGreat
