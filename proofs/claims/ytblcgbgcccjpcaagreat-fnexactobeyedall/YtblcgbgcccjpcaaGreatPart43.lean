/- Proved, in parts: Proved: the model's Ordered answers the plain Lean function that the program's answers, its book in new memory; nothing that was there is written. Condition: texts and lists of at most a million. Proved: the laws' helpers that write marks into a list of records of the type Last, and look whether they are there, do so and write nothing else. Condition: at most two million records. -/
import Derived.Test.YtblcgbgcccjpcaaGreatPart41
import Derived.Test.YtblcgbgcccjpcaaGreatPart42
import Derived.Test.YtblcgbgcccjpcaaGreatPart23
import Derived.Test.YtblcgbgcccjpcaaGreatPart26
namespace Go.Proofs.YtblcgbgcccjpcaaGreat
open Go.RowKit
set_option maxRecDepth 20000
theorem l6Order_any (B : Nat) (A : Option Addr) (c : Nat) (A2 : Option Addr) (c2 : Nat) (rs : List Wr) (ls : List M.La) (x : World) (o : M.Or) (hs : SfOwn B x (.slice A rs.length c) rs) (hla : LasOwn B x (.slice A2 ls.length c2) ls) (hap : ∀ z, (Value.slice A2 ls.length c2).ownBlock = some z → ¬ blocksS (.slice A rs.length c) rs z) (hB : B ≤ x.heap.size) (hok : M.bkOk (rs.map Wr.wk) ls = true) (hn : o.deed.name.size ≤ 1048576) (hpg : o.deed.page.size ≤ 1048576) :
    Calls Tryz.prog 77 #[bkV A rs.length c A2 ls.length c2, orV o] x (OrIn B x (M.ordS (rs.map Wr.wk, ls) o)) := by
  have hok' := hok
  simp only [M.bkOk, Bool.and_eq_true] at hok'
  have hl4 := M.lasOk_len hok'.2
  by_cases hf : M.laFind ls o.client < ls.length
  · obtain ⟨k, hk⟩ : ∃ k, M.laFind ls o.client = k := ⟨_, rfl⟩
    rw [hk] at hf
    obtain ⟨g, cap, hv, -, -⟩ := la_form hla (by omega)
    injection hv with hA _ hc
    subst hA hc
    have hE : M.ordS (rs.map Wr.wk, ls) o = if o.seq = ls[k].seq then ((rs.map Wr.wk, ls), (ls[k].code, ls[k].page)) else if o.seq < ls[k].seq then ((rs.map Wr.wk, ls), (6, M.nilB)) else (((M.does (rs.map Wr.wk) o.deed).1, ls.set k ⟨o.client, o.seq, (M.does (rs.map Wr.wk) o.deed).2.1, (M.does (rs.map Wr.wk) o.deed).2.2⟩), (M.does (rs.map Wr.wk) o.deed).2) := by
      unfold M.ordS
      simp only [hk]
      rw [List.getElem?_eq_getElem hf]
    rw [hE]
    rcases Int.lt_trichotomy o.seq ls[k].seq with h | h | h
    · rw [if_neg (by omega), if_pos h]
      exact l6Order_old B A c g c2 rs ls x o hs hla (hap g rfl) hB (by omega) k hf hk h
    · rw [if_pos h]
      exact l6Order_same B A c g c2 rs ls x o hs hla (hap g rfl) hB (by omega) k hf hk h
    · rw [if_neg (by omega), if_neg (by omega)]
      exact l6Order_set B A c g c2 rs ls x o hs hla hap hB (by omega) hok'.1 hn hpg k hf hk h
  · have hf' : M.laFind ls o.client = ls.length := by
      have := M.laFind_le ls o.client
      omega
    have hE : M.ordS (rs.map Wr.wk, ls) o = (((M.does (rs.map Wr.wk) o.deed).1, M.putLa ls (M.laPlace ls o.client) ⟨o.client, o.seq, (M.does (rs.map Wr.wk) o.deed).2.1, (M.does (rs.map Wr.wk) o.deed).2.2⟩), (M.does (rs.map Wr.wk) o.deed).2) := by
      unfold M.ordS
      simp only [hf']
      rw [List.getElem?_eq_none (Nat.le_refl _)]
    rw [hE]
    exact l6Order_new B A c A2 c2 rs ls x o hs hla hap hB (by omega) hok'.1 hn hpg hf'
theorem l6Order_at (B : Nat) (A : Option Addr) (c : Nat) (A2 : Option Addr) (c2 : Nat) (rs l : List Wr) (ls : List M.La) (x : World) (o : M.Or) (hs : SfOwn B x (.slice A rs.length c) rs) (hm : rs.map Wr.wk = l.map Wr.wk) (hla : LasOwn B x (.slice A2 ls.length c2) ls) (hap : ∀ z, (Value.slice A2 ls.length c2).ownBlock = some z → ¬ blocksS (.slice A rs.length c) rs z) (hB : B ≤ x.heap.size) (hok : M.bkOk (l.map Wr.wk) ls = true) (hn : o.deed.name.size ≤ 1048576) (hpg : o.deed.page.size ≤ 1048576) :
    Calls Tryz.prog 77 #[bkV A rs.length c A2 ls.length c2, orV o] x (OrIn B x (M.ordS (l.map Wr.wk, ls) o)) := by
  rw [← hm]
  exact l6Order_any B A c A2 c2 rs ls x o hs hla hap hB (by rw [hm]; exact hok) hn hpg
theorem results_ssOrd (a b : Value) (c : Int) (p : ByteArray) (R T : Nat) (W : World) (tmps : Array Value) (h4 : tmps.getD 4 undef = .pointer (some ⟨R, 0, none⟩)) (h5 : tmps.getD 5 undef = .pointer (some ⟨T, 0, none⟩)) (hR : Holds W R #[a, b]) (hT : Holds W T (rpA c p)) :
    (results Tryz.f20 tmps).run Tryz.prog W = .ok (.tuple #[.agg #[a, b], rpV c p]) W := by
  obtain ⟨q0, q1⟩ := hR.two
  obtain ⟨r0, r1⟩ := hT.two
  simp at h4 h5
  simp [results, Tryz.results20, go_sem, h4, h5, q0, q1, r0, r1]
set_option maxHeartbeats 4000000 in
theorem specOrdered (A : Option Addr) (l : List Wr) (cap : Nat) (A2 : Option Addr) (m : List M.La) (cb : Nat) (o : M.Or) (w : World) (hl : Wks w A l) (hA : ∀ r ∈ l, r.ad = none → r.cap = 0) (hlen : l.length ≤ 1048576) (hp : WrsIn 1048576 l) (hm : Las w A2 m) (hN : A2 = none → cb = 0) (hml : m.length ≤ 1048576) (hn : o.deed.name.size ≤ 1048576) (hpg : o.deed.page.size ≤ 1048576) :
    Calls Tryz.prog 20 #[bkV A l.length cap A2 m.length cb, orV o] w (OrRet w (M.ordered (l.map Wr.wk, m) o)) := by
  have HL := Lib.hid hl
  have HA := Lib.hid hA
  have HN := Lib.hid hN
  have HP := Lib.hid hp
  have HC := Lib.hid (fun r (hr : r ∈ l) => (hp r hr).2.1)
  have HM := Lib.hid hm
  clear hl hp hm hA hN
  have hM := ((((Mem.start w).new (bkA A l.length cap A2 m.length cb) 27).new (orC o) 41).new (bkA none 0 0 none 0 0) 27).new (rpA 0 noP) 33
  simp only [World.size_alloc] at hM
  rcases hok : M.bkOk (l.map Wr.wk) m with _ | _
  · have HE : Hid (M.ordered (l.map Wr.wk, m) o = (([], []), ((7 : Int), M.nilB))) := Lib.hid (by unfold M.ordered; rw [if_neg (by simp [hok])])
    have HOK := Lib.hid hok
    clear hok
    go_enter Tryz.func20, Tryz.ntmps20
    go_wp2_with fail
    refine (specBookOk A l cap A2 m cb _ (HL.out.below hM.1) hlen HP.out (HM.out.below hM.1) hml).mono ?_
    rintro e x1 ⟨rfl, b1⟩
    rw [HOK.out]
    have HR := Lib.hid (hM.below b1)
    clear hM b1
    (obtain ⟨s0, s1⟩ := (HR.out.get (w.heap.size + 1 + 1) (bkA none 0 0 none 0 0) (by simp)).two)
    (obtain ⟨t0, t1⟩ := (HR.out.get (w.heap.size + 1 + 1 + 1) (rpA 0 noP) (by simp)).two)
    (have y0 := HR.out.loose (w.heap.size + 1 + 1) (by simp) 0)
    (have y1 := HR.out.loose (w.heap.size + 1 + 1) (by simp) 1)
    (have z0 := HR.out.loose (w.heap.size + 1 + 1 + 1) (by simp) 0)
    (have z1 := HR.out.loose (w.heap.size + 1 + 1 + 1) (by simp) 1)
    (have zs := (HR.out.get (w.heap.size + 1 + 1) (bkA none 0 0 none 0 0) (by simp)).1)
    (have zt := (HR.out.get (w.heap.size + 1 + 1 + 1) (rpA 0 noP) (by simp)).1)
    go_wp2
    refine bodyPost_ret (results_ssOrd (.slice none 0 0) (.slice none 0 0) 7 noP (w.heap.size + 1 + 1) (w.heap.size + 1 + 1 + 1) _ _ rfl rfl ?_ ?_) rfl ⟨.slice none 0 0, .slice none 0 0, [], by rw [HE.out] <;> rfl, ⟨⟨rfl, .inl ⟨rfl, rfl⟩⟩, by simp, by simp, List.Pairwise.nil⟩, by rw [HE.out]; rfl, by rw [HE.out]; exact LasOwn.nil _ _, fun g e => (by cases e), ?_⟩
    · exact (((HR.out.get (w.heap.size + 1 + 1) (bkA none 0 0 none 0 0) (by simp)).wr2 _ _).otherM (by omega)).otherM (by omega)
    · exact (((HR.out.get (w.heap.size + 1 + 1 + 1) (rpA 0 noP) (by simp)).otherM (by omega)).otherM (by omega)).wr2 _ _
    · exact far_2 (far_2 HR.out.1 (by omega) _ _) (by omega) _ _
  · have hml' : m.length ≤ 1048575 := by
      have h := hok
      simp only [M.bkOk, Bool.and_eq_true] at h
      have := M.lasOk_len h.2
      omega
    rcases hoo : M.orderOk o with _ | _
    · have HE : Hid (M.ordered (l.map Wr.wk, m) o = ((l.map Wr.wk, m), ((7 : Int), M.nilB))) := Lib.hid (by unfold M.ordered; rw [if_pos hok]; unfold M.ordI; rw [if_neg (by simp [hoo])])
      have HOK := Lib.hid hok
      have HOO := Lib.hid hoo
      clear hok hoo
      go_enter Tryz.func20, Tryz.ntmps20
      go_wp2_with fail
      refine (specBookOk A l cap A2 m cb _ (HL.out.below hM.1) hlen HP.out (HM.out.below hM.1) hml).mono ?_
      rintro e x1 ⟨rfl, b1⟩
      rw [HOK.out]
      have hM1 := hM.below b1
      clear hM b1
      obtain ⟨q0, q1, q2, q3, q4, q5, q6, q7, q8⟩ := (hM1.get (w.heap.size + 1) (orC o) (by simp)).nine
      go_wp2_with fail
      refine (specOrderOk o _ (by unfold maxLen; omega) (by unfold maxLen; omega)).mono ?_
      rintro e x2 ⟨rfl, b2⟩
      rw [HOO.out]
      have hM2 := hM1.below b2
      clear hM1 b2 q0 q1 q2 q3 q4 q5 q6 q7 q8
      obtain ⟨k0, k1⟩ := (hM2.get w.heap.size (bkA A l.length cap A2 m.length cb) (by simp)).two
      have hx2 : (w.heap.size + 1 + 1 + 1) < x2.heap.size := (hM2.get (w.heap.size + 1 + 1 + 1) (rpA 0 noP) (by simp)).1
      go_wp2_with fail
      refine (l6Copy_any A l cap A2 m cb _ (HL.out.below hM2.1) HA.out hlen HC.out (HM.out.below hM2.1) HN.out hml).mono ?_
      rintro e x3 ⟨v1, v2, rs, rfl, hs, hmap, hla, hap, b3⟩
      obtain ⟨A5, c5, rfl, -, -⟩ := hs.open
      obtain ⟨A6, c6, rfl, -, -⟩ := LasOwn.open hla
      have HR := Lib.hid (hM2.below b3)
      have HO := Lib.hid (show _ ∧ _ ∧ _ ∧ _ from ⟨hs, hmap, hla, hap⟩)
      clear hM2 b3 k0 k1 hs hmap hla hap
      (obtain ⟨s0, s1⟩ := (HR.out.get (w.heap.size + 1 + 1) (bkA none 0 0 none 0 0) (by simp)).two)
      (obtain ⟨t0, t1⟩ := (HR.out.get (w.heap.size + 1 + 1 + 1) (rpA 0 noP) (by simp)).two)
      (have y0 := HR.out.loose (w.heap.size + 1 + 1) (by simp) 0)
      (have y1 := HR.out.loose (w.heap.size + 1 + 1) (by simp) 1)
      (have z0 := HR.out.loose (w.heap.size + 1 + 1 + 1) (by simp) 0)
      (have z1 := HR.out.loose (w.heap.size + 1 + 1 + 1) (by simp) 1)
      (have zs := (HR.out.get (w.heap.size + 1 + 1) (bkA none 0 0 none 0 0) (by simp)).1)
      (have zt := (HR.out.get (w.heap.size + 1 + 1 + 1) (rpA 0 noP) (by simp)).1)
      go_wp2
      have hne : ∀ z, z < x2.heap.size → (Value.slice A6 m.length c6).ownBlock ≠ some z := fun z hz e => by have := (World.ownsRow.lt HO.out.2.2.1 z e).1; omega
      refine bodyPost_ret (results_ssOrd (.slice A5 rs.length c5) (.slice A6 m.length c6) 7 noP (w.heap.size + 1 + 1) (w.heap.size + 1 + 1 + 1) _ _ rfl rfl ?_ ?_) rfl ⟨.slice A5 rs.length c5, .slice A6 m.length c6, rs, by rw [HE.out] <;> rfl, ?_, by rw [HE.out]; exact HO.out.2.1, ?_, HO.out.2.2.2, ?_⟩
      · exact (((HR.out.get (w.heap.size + 1 + 1) (bkA none 0 0 none 0 0) (by simp)).wr2 _ _).otherM (by omega)).otherM (by omega)
      · exact (((HR.out.get (w.heap.size + 1 + 1 + 1) (rpA 0 noP) (by simp)).otherM (by omega)).otherM (by omega)).wr2 _ _
      · exact ((((HO.out.1.set (by omega) 0 _).set (by omega) 1 _).set (by omega) 0 _).set (by omega) 1 _).mono (by omega)
      · rw [HE.out]
        exact LasOwn.mono (own_off (own_off (own_off (own_off HO.out.2.2.1 (hne _ (by omega)) 0 _) (hne _ (by omega)) 1 _) (hne _ (by omega)) 0 _) (hne _ (by omega)) 1 _) (by omega)
      · exact far_2 (far_2 HR.out.1 (by omega) _ _) (by omega) _ _
    · have HE : Hid (M.ordered (l.map Wr.wk, m) o = M.ordS (l.map Wr.wk, m) o) := Lib.hid (by unfold M.ordered; rw [if_pos hok]; exact (M.ordS_eq (b := (l.map Wr.wk, m)) hok hoo).symm)
      have HOK := Lib.hid hok
      have HOO := Lib.hid hoo
      clear hok hoo
      go_enter Tryz.func20, Tryz.ntmps20
      go_wp2_with fail
      refine (specBookOk A l cap A2 m cb _ (HL.out.below hM.1) hlen HP.out (HM.out.below hM.1) hml).mono ?_
      rintro e x1 ⟨rfl, b1⟩
      rw [HOK.out]
      have hM1 := hM.below b1
      clear hM b1
      obtain ⟨q0, q1, q2, q3, q4, q5, q6, q7, q8⟩ := (hM1.get (w.heap.size + 1) (orC o) (by simp)).nine
      go_wp2_with fail
      refine (specOrderOk o _ (by unfold maxLen; omega) (by unfold maxLen; omega)).mono ?_
      rintro e x2 ⟨rfl, b2⟩
      rw [HOO.out]
      have hM2 := hM1.below b2
      clear hM1 b2 q0 q1 q2 q3 q4 q5 q6 q7 q8
      have HR := Lib.hid ((hM2.drew).re (hs' := [((w.heap.size + 1 + 1 + 1), rpA 0 noP), ((w.heap.size + 1 + 1), bkA none 0 0 none 0 0)]) (ls' := [(w.heap.size + 1 + 1 + 1), (w.heap.size + 1 + 1)]) (by simp) (by simp))
      have HP := Lib.hid ((hM2.drew).re (hs' := [((w.heap.size + 1), orC o), (w.heap.size, (bkA A l.length cap A2 m.length cb))]) (ls' := []) (by simp) (by simp))
      have HG := Lib.hid (fun (y : World) (h : Mem w [((w.heap.size + 1), orC o), (w.heap.size, (bkA A l.length cap A2 m.length cb))] [] y) => And.intro (h.get w.heap.size (bkA A l.length cap A2 m.length cb) (by simp)).two (h.get (w.heap.size + 1) (orC o) (by simp)).nine)
      have HZ : Hid ((w.heap.size + 1 + 1 + 1) < x2.drew.heap.size) := Lib.hid (hM2.get (w.heap.size + 1 + 1 + 1) (rpA 0 noP) (by simp)).1
      clear hM2
      go_upto_region 5 with (fail)
      refine wp_region_seq (fun y => Mem w [((w.heap.size + 1), orC o), (w.heap.size, (bkA A l.length cap A2 m.length cb))] [] y) [(0, true), (2, true), (1, false), (3, false), (4, true), (5, true), (6, false), (7, false)] (by kernel_rfl) (by kernel_rfl) (fun _ _ _ _ _ h => h) (by kernel_rfl) (by decide) HP.out ?_
      intro hHeld
      generalize World.drew _ = wd at hHeld HR HZ ⊢
      have hz := HZ.out
      repeat (first
        | (refine seq_skip (by simp only [List.getElem?_toArray, List.getElem?_cons_succ, List.getElem?_cons_zero]; first | done | rfl) (by rfl) ?_; (try simp only [Act.put, List.setIfInBounds_toArray, List.set_cons_zero, List.set_cons_succ]))
        | (refine seq_reads (by simp only [List.getElem?_toArray, List.getElem?_cons_succ, List.getElem?_cons_zero]; first | done | rfl) (by rfl) ?_; apply Exists.intro; apply And.intro; (focus (intro w hSw; (try (obtain ⟨⟨k0, k1⟩, q0, q1, q2, q3, q4, q5, q6, q7, q8⟩ := HG.out _ hSw)); go_simp; (try with_reducible rfl); done)); (try simp only [Act.put, List.setIfInBounds_toArray, List.set_cons_zero, List.set_cons_succ]))
        | (refine seq_pass (by simp only [List.getElem?_toArray, List.getElem?_cons_succ, List.getElem?_cons_zero]; first | done | rfl) (by rfl) hHeld ?_; clear hHeld; intro hHeld; (try simp only [Act.put, List.setIfInBounds_toArray, List.set_cons_zero, List.set_cons_succ]))
        | (refine seq_call (by simp only [List.getElem?_toArray, List.getElem?_cons_succ, List.getElem?_cons_zero]; first | done | rfl) (by rfl) (fun K hK => ?_); go_simp; go_at_call 76; refine (l6Copy_any A l cap A2 m cb _ (HL.out.below hHeld.1) HA.out hlen HC.out (HM.out.below hHeld.1) HN.out hml).mono ?_; rintro r w1 ⟨v1, v2, rs, rfl, hs, hmap, hla, hap, b1⟩; obtain ⟨A5, c5, rfl, -, -⟩ := hs.open; obtain ⟨A6, c6, rfl, -, -⟩ := LasOwn.open hla; go_simp; refine hK.out _ _ (hHeld.below b1) ?_; clear hK hHeld; intro hHeld; (have HO := Lib.hid (show _ ∧ _ ∧ _ ∧ _ from ⟨hs, hmap, hla, hap⟩)); (replace HR := Lib.hid (HR.out.below b1)); (have HX := Lib.hid b1.size); clear hs hmap hla hap b1; (try simp only [Act.put, List.setIfInBounds_toArray, List.set_cons_zero, List.set_cons_succ]))
        | (refine seq_call (by simp only [List.getElem?_toArray, List.getElem?_cons_succ, List.getElem?_cons_zero]; first | done | rfl) (by rfl) (fun K hK => ?_); go_simp; go_at_call 77; refine (l6Order_at wd.heap.size A5 c5 A6 c6 rs l m _ o HO.out.1 HO.out.2.1 HO.out.2.2.1 HO.out.2.2.2 HX.out HOK.out hn hpg).mono ?_; rintro r w1 ⟨u1, u2, rs2, rfl, ho, hmp, hlo, hao, b2⟩; obtain ⟨A7, c7, rfl, -, -⟩ := ho.open; obtain ⟨A8, c8, rfl, -, -⟩ := LasOwn.open hlo; go_simp; refine hK.out _ _ (hHeld.low b2 (by omega) (by simp; omega) (by simp)) ?_; clear hK hHeld; intro hHeld; (have HO2 := Lib.hid (show _ ∧ _ ∧ _ ∧ _ from ⟨ho, hmp, hlo, hao⟩)); (replace HR := Lib.hid (HR.out.low b2 (by omega) (by simp; omega) (by simp; omega))); clear ho hmp hlo hao b2; (try simp only [Act.put, List.setIfInBounds_toArray, List.set_cons_zero, List.set_cons_succ]))
        | (refine seq_call (by simp only [List.getElem?_toArray, List.getElem?_cons_succ, List.getElem?_cons_zero]; first | done | rfl) (by rfl) (fun K hK => ?_); (obtain ⟨s0, s1⟩ := (HR.out.get (w.heap.size + 1 + 1) (bkA none 0 0 none 0 0) (by simp)).two); (obtain ⟨t0, t1⟩ := (HR.out.get (w.heap.size + 1 + 1 + 1) (rpA 0 noP) (by simp)).two); (have y0 := HR.out.loose (w.heap.size + 1 + 1) (by simp) 0); (have y1 := HR.out.loose (w.heap.size + 1 + 1) (by simp) 1); (have z0 := HR.out.loose (w.heap.size + 1 + 1 + 1) (by simp) 0); (have z1 := HR.out.loose (w.heap.size + 1 + 1 + 1) (by simp) 1); (have zs := (HR.out.get (w.heap.size + 1 + 1) (bkA none 0 0 none 0 0) (by simp)).1); (have zt := (HR.out.get (w.heap.size + 1 + 1 + 1) (rpA 0 noP) (by simp)).1); go_simp; refine hK.out _ _ ((hHeld.off (by omega) (fun p hp => by rcases List.mem_cons.1 hp with rfl | hp; (show w.heap.size + 1 ≠ _; omega); obtain rfl := List.mem_singleton.1 hp; (show w.heap.size ≠ _; omega))).off (by omega) (fun p hp => by rcases List.mem_cons.1 hp with rfl | hp; (show w.heap.size + 1 ≠ _; omega); obtain rfl := List.mem_singleton.1 hp; (show w.heap.size ≠ _; omega))) ?_; clear hK hHeld; intro hHeld; clear s0 s1 t0 t1 y0 y1 z0 z1 zs zt; (try simp only [Act.put, List.setIfInBounds_toArray, List.set_cons_zero, List.set_cons_succ])))
      refine seq_end ?_
      go_wp2
      have hne : ∀ z, z < wd.heap.size → (Value.slice A8 (M.ordS (l.map Wr.wk, m) o).1.2.length c8).ownBlock ≠ some z := fun z hz e => by have := (World.ownsRow.lt HO2.out.2.2.1 z e).1; omega
      refine bodyPost_ret (results_ssOrd (.slice A7 rs2.length c7) (.slice A8 (M.ordS (l.map Wr.wk, m) o).1.2.length c8) _ _ (w.heap.size + 1 + 1) (w.heap.size + 1 + 1 + 1) _ _ rfl rfl ?_ ?_) rfl ⟨.slice A7 rs2.length c7, .slice A8 (M.ordS (l.map Wr.wk, m) o).1.2.length c8, rs2, by rw [HE.out], ?_, by rw [HE.out]; exact HO2.out.2.1, ?_, HO2.out.2.2.2, ?_⟩
      · exact (((HR.out.get (w.heap.size + 1 + 1) (bkA none 0 0 none 0 0) (by simp)).wr2 _ _).otherM (by omega)).otherM (by omega)
      · exact (((HR.out.get (w.heap.size + 1 + 1 + 1) (rpA 0 noP) (by simp)).otherM (by omega)).otherM (by omega)).wr2 _ _
      · exact ((((HO2.out.1.set (by omega) 0 _).set (by omega) 1 _).set (by omega) 0 _).set (by omega) 1 _).mono (by omega)
      · rw [HE.out]
        exact LasOwn.mono (own_off (own_off (own_off (own_off HO2.out.2.2.1 (hne _ (by omega)) 0 _) (hne _ (by omega)) 1 _) (hne _ (by omega)) 0 _) (hne _ (by omega)) 1 _) (by omega)
      · exact far_2 (far_2 HR.out.1 (by omega) _ _) (by omega) _ _
end Go.Proofs.YtblcgbgcccjpcaaGreat
namespace Go.Proofs.YtblcgbgcccjpcaaGreat
open Go.RowKit
set_option maxRecDepth 20000
def lamk (k : Nat) : M.La := ⟨(k : Int), (k : Int) + 1, (k : Int) + 1 + 1, markB (k + 3)⟩
def lamks (k : Nat) (j : Nat) : List M.La := (List.range j).map fun i => lamk (k + 4 * i)
theorem lamks_len (k j : Nat) : (lamks k j).length = j := by simp [lamks]
theorem lamks_succ (k j : Nat) : lamks k (j + 1) = lamks k j ++ [lamk (k + 4 * j)] := by simp [lamks, List.range_succ]
theorem lamks_at (k j n : Nat) (h : j < n) : (lamks k n)[j]'(by rw [lamks_len]; exact h) = lamk (k + 4 * j) := by simp [lamks]
set_option maxHeartbeats 4000000 in
theorem lamark_any (g : Nat) (l : List M.La) (cap k : Nat) (B : Nat) (w : World) (ho : LasOwn B w (.slice (some ⟨g, 0, none⟩) l.length cap) l) (hk0 : 0 < k) (hk : k + 4 * l.length ≤ 20000000) :
    Calls Tryz.prog 102 #[.slice (some ⟨g, 0, none⟩) l.length cap, .int .i64 k] w fun r w' => r = .returned (.int .i64 (k + 4 * l.length : Nat)) ∧ LasOwn B w' (.slice (some ⟨g, 0, none⟩) l.length cap) (lamks k l.length) ∧ Touch g w w' := by
  go_enter Tryz.func102, Tryz.ntmps102
  go_wp2
  go_loopw [1, 5] (fun x i wr => ∃ j : Nat, i = .int .i64 j ∧ j ≤ l.length ∧ x = .int .i64 (k + 4 * j : Nat) ∧ LasOwn B wr (.slice (some ⟨g, 0, none⟩) l.length cap) (lamks k j ++ l.drop j) ∧ Touch g w wr) (fun _ i _ => l.length - (intOf i).toNat)
  case atStart => exact ⟨0, rfl, Nat.zero_le _, by simp, by simpa [lamks] using ho, Touch.refl _ _⟩
  case round =>
    obtain ⟨j, rfl, hj, rfl, hown, ht⟩ := hrel
    by_cases hlt : j < l.length
    · obtain ⟨K, hK⟩ : ∃ K, k + 4 * j = K := ⟨_, rfl⟩
      have hlen2 : (lamks k j ++ l.drop j).length = l.length := by rw [List.length_append, lamks_len, List.length_drop]; omega
      have hown2 : wr.ownsRow B 59 4 (.slice (some ⟨g, 0, none⟩) l.length cap) l.length (cellsOf laL (lamks k j) ++ (laL l[j] ++ cellsOf laL (l.drop (j + 1)))) := by
        have h := hown
        unfold LasOwn at h
        rw [hlen2, cellsOf_append, List.drop_eq_getElem_cons hlt] at h
        exact h
      have hz : j * 4 = (cellsOf laL (lamks k j)).length := by rw [cellsOf_len laL_len, lamks_len]
      simp only [laL, List.cons_append, List.nil_append] at hown2
      obtain ⟨⟨c0, c1, c2, c3⟩, f0, f1, f2, f3⟩ := own_cellsLas hown2 hz
      have hgl : g < wr.heap.size := World.block_lt_of_cell? wr _ c0
      have hK1 : 0 < K := by omega
      have hK2 : K < 20000000 := by omega
      have HO0 := Lib.hid hown2
      have HZ := Lib.hid hz
      have HK := Lib.hid hK
      rw [hK]
      clear ho hown hown2 hz hlen2
      go_wp2_with fail
      refine (markText_at _ (K + 3) (by omega) (by omega) (by omega) _).mono ?_
      rintro r v1 ⟨rfl, b2⟩
      have ho2 := Own.below (((((((HO0.out).stored (j * 4) (.int .i64 ((K : Int))))).1.stored (j * 4 + 1) (.int .i64 ((K : Int) + 1)))).1.stored (j * 4 + 2) (.int .i64 ((K : Int) + 1 + 1))).1) b2
      have ht1 := (((((((ht).set (j * 4) (.int .i64 ((K : Int))))).set (j * 4 + 1) (.int .i64 ((K : Int) + 1)))).set (j * 4 + 2) (.int .i64 ((K : Int) + 1 + 1)))).below (by simpa using hgl) b2
      have hg1 : g < v1.heap.size := Nat.lt_of_lt_of_le (by simpa using hgl) b2.size
      have hlt5 : j * 4 + 3 < l.length * 4 := by omega
      have d0_3 : v1.cell? ⟨g, j * 4 + 3, none⟩ = some (.string l[j].page) := by
        rw [ho2.cellAt _ (by omega), HZ.out]; simp
      have e0_3 := ho2.frozenAt (j * 4 + 3)
      have HO1 := Lib.hid ho2
      clear c0 c1 c2 c3 f0 f1 f2 f3 ho2 HO0 b2 hK hlt5
      go_wp2
      go_roundw
      case rel =>
        refine ⟨j + 1, by go_num, by omega, congrArg (Value.int .i64) (by rw [← HK.out]; omega), ?_, ((ht1).set (j * 4 + 3) (.string (markB (K + 3))))⟩
        have h5 := ((HO1.out).stored (j * 4 + 3) (.string (markB (K + 3)))).1
        rw [setLas (hn := HZ.out)] at h5
        have hl3 : (lamks k (j + 1) ++ l.drop (j + 1)).length = l.length := by rw [List.length_append, lamks_len, List.length_drop]; omega
        unfold LasOwn
        rw [hl3, cellsOf_append, lamks_succ, cellsOf_append, HK.out, List.append_assoc]
        exact h5
      case measure => simp [intOf]; omega
    · have hj' : j = l.length := by omega
      subst hj'
      rw [List.drop_length, List.append_nil] at hown
      have HO := Lib.hid hown
      clear ho hown
      go_wp2
      go_ret
      exact ⟨rfl, by have h := HO.out; unfold LasOwn at h ⊢; exact h, ht⟩

set_option maxHeartbeats 1000000 in
theorem lamark_none (A : Option Addr) (cap k : Nat) (w : World) :
    Calls Tryz.prog 102 #[.slice A 0 cap, .int .i64 k] w fun r w' => r = .returned (.int .i64 k) ∧ w = w' := by
  go_enter Tryz.func102, Tryz.ntmps102
  go_wp2
  go_loop [1, 5] (fun x i => x = .int .i64 k ∧ i = .int .i64 0) (fun _ _ => 0)
  case atStart => exact ⟨rfl, rfl⟩
  case round =>
    obtain ⟨rfl, rfl⟩ := hrel
    go_wp2
    go_ret
    exact ⟨rfl, rfl⟩
theorem lamark_own (A : Option Addr) (l : List M.La) (cap k : Nat) (B : Nat) (w : World) (ho : LasOwn B w (.slice A l.length cap) l) (hk0 : 0 < k) (hk : k + 4 * l.length ≤ 20000000) :
    Calls Tryz.prog 102 #[.slice A l.length cap, .int .i64 k] w fun r w' => r = .returned (.int .i64 (k + 4 * l.length : Nat)) ∧ LasOwn B w' (.slice A l.length cap) (lamks k l.length) ∧ TouchO (Value.slice A l.length cap).ownBlock w w' := by
  have ho' := ho
  obtain ⟨hl, ⟨h0, hz⟩ | ⟨g, cap', cur, hv, _⟩⟩ := ho'
  · have hl : l = [] := List.length_eq_zero_iff.1 hz
    subst hl
    injection h0 with hA _ hc
    subst hA hc
    refine (lamark_none none 0 k w).mono ?_
    rintro r w' ⟨rfl, rfl⟩
    exact ⟨rfl, World.ownsRow_nil _ _ _ _, Nat.le_refl _, fun B' hB _ => Below.refl _ _, fun k hk _ => rfl⟩
  · injection hv with hA _ _
    subst hA
    refine (lamark_any g l cap k B w ho hk0 hk).mono ?_
    rintro r w' ⟨rfl, ho', ht⟩
    exact ⟨rfl, ho', ht.size, fun B' _ hB => ht.low B' (hB g rfl), fun k hk hne => ht.block k hk (fun e => hne (by rw [e]; rfl))⟩

set_option maxHeartbeats 4000000 in
theorem laheld_any (A : Option Addr) (n cap k : Nat) (w : World) (hl : Las w A (lamks k n)) (hk0 : 0 < k) (hk : k + 4 * n ≤ 20000000) :
    Calls Tryz.prog 104 #[.slice A n cap, .int .i64 k] w fun r w' => r = .returned (.int .i64 (k + 4 * n : Nat)) ∧ Below w.heap.size w w' := by
  go_enter Tryz.func104, Tryz.ntmps104
  go_wp2
  go_loopw [1, 5] (fun x i wr => ∃ j : Nat, i = .int .i64 j ∧ j ≤ n ∧ x = .int .i64 (k + 4 * j : Nat) ∧ Below w.heap.size w wr) (fun _ i _ => n - (intOf i).toNat)
  case atStart => exact ⟨0, rfl, Nat.zero_le _, by simp, Below.refl _ _⟩
  case round =>
    obtain ⟨j, rfl, hj, rfl, hb⟩ := hrel
    by_cases hlt : j < n
    · obtain ⟨kk, hK⟩ : ∃ kk, k + 4 * j = kk := ⟨_, rfl⟩
      obtain ⟨b, o, rfl, zb, c0, c1, c2, c3⟩ := Las_at (hl.below hb) (i := j) (by rw [lamks_len]; exact hlt)
      rw [lamks_at k j n hlt, hK] at c0 c1 c2 c3
      have hK1 : 0 < kk := by omega
      have hK2 : kk < 20000000 := by omega
      have HL := Lib.hid hl
      have HK := Lib.hid hK
      rw [hK]
      clear hl hK
      simp only [lamk] at c0 c1 c2 c3
      have e0 : ((kk : Int) != (kk : Int)) = false := by simp
      have e1 : ((kk : Int) + 1 != (kk : Int) + 1) = false := by simp
      have e2 : ((kk : Int) + 1 + 1 != (kk : Int) + 1 + 1) = false := by simp
      go_wp2_with fail
      refine wp_region_seq (fun w' => Below wr.heap.size wr w') [(0, true), (1, true), (2, true), (3, true), (4, true), (5, true), (6, true), (7, false), (8, true)] (by kernel_rfl) (by kernel_rfl) (fun _ _ _ _ _ h => h) (by kernel_rfl) (by decide) (Below.refl _ _).drew ?_
      intro hHeld
      repeat (first
        | (refine seq_skip (by simp only [List.getElem?_toArray, List.getElem?_cons_succ, List.getElem?_cons_zero]; first | done | rfl) (by rfl) ?_; (try simp only [Act.put, List.setIfInBounds_toArray, List.set_cons_zero, List.set_cons_succ]))
        | (refine seq_reads (by simp only [List.getElem?_toArray, List.getElem?_cons_succ, List.getElem?_cons_zero]; first | done | rfl) (by rfl) ?_; apply Exists.intro; apply And.intro; (focus (intro w hSw; obtain ⟨hcS, -⟩ := bcell hSw; go_simp; (try with_reducible rfl); done)); (try simp only [Act.put, List.setIfInBounds_toArray, List.set_cons_zero, List.set_cons_succ]))
        | (refine seq_pass (by simp only [List.getElem?_toArray, List.getElem?_cons_succ, List.getElem?_cons_zero]; first | done | rfl) (by rfl) hHeld ?_; clear hHeld; intro hHeld; (try simp only [Act.put, List.setIfInBounds_toArray, List.set_cons_zero, List.set_cons_succ]))
        | (refine seq_call (by simp only [List.getElem?_toArray, List.getElem?_cons_succ, List.getElem?_cons_zero]; first | done | rfl) (by rfl) (fun K hK => ?_); go_simp; go_at_call 106; refine (markText_at _ (kk + 3) (by omega) (by omega) (by omega) _).mono ?_; rintro r v0 ⟨rfl, b1⟩; go_simp; refine hK.out _ _ (next hHeld b1) ?_; clear hK hHeld; intro hHeld; (try simp only [Act.put, List.setIfInBounds_toArray, List.set_cons_zero, List.set_cons_succ])))
      refine seq_end ?_
      have e3 : ((markB (kk + 3)).toList != (markB (kk + 3)).toList) = false := by simp
      have bb0 := next hb hHeld
      have zb0 := Nat.lt_of_lt_of_le zb hHeld.size
      clear c0 c1 c2 c3 hHeld
      go_wp2
      go_roundw
      case rel => exact ⟨j + 1, by go_num, by omega, congrArg (Value.int .i64) (by rw [← HK.out]; omega), bb0⟩
      case measure => simp [intOf]; omega
    · have hj' : j = n := by omega
      subst hj'
      go_wp2
      go_ret
      exact ⟨rfl, hb⟩
end Go.Proofs.YtblcgbgcccjpcaaGreat
