/- Proved, in parts: Proved: the model's Ordered answers the plain Lean function that the program's answers, its book in new memory; nothing that was there is written. Condition: texts and lists of at most a million. Proved: the model's Obeyed answers the plain Lean function that the program's answers, its book in new memory; nothing that was there is written. Condition: texts and lists of at most a million. Proved: where the laws' copy of an order leaves the world. No condition. Proved: the laws' own test tells a deed like itself; it writes nothing that was there. No condition. -/
import Derived.Test.YtblcgbgcccjpcaaGreatPart40
import Derived.Test.YtblcgbgcccjpcaaGreatPart41
import Derived.Test.YtblcgbgcccjpcaaGreatPart31
import Derived.Test.YtblcgbgcccjpcaaGreatPart08
import Derived.Test.YtblcgbgcccjpcaaGreatPart05
import Derived.Test.YtblcgbgcccjpcaaGreatPart23
namespace Go.Proofs.YtblcgbgcccjpcaaGreat
open Go.RowKit
set_option maxRecDepth 20000
theorem l6Order_any (B : Nat) (A : Option Addr) (c : Nat) (A2 : Option Addr) (c2 : Nat) (rs : List Wr) (ls : List M.La) (x : World) (o : M.Or) (hs : SfOwn B x (.slice A rs.length c) rs) (hla : LasOwn B x (.slice A2 ls.length c2) ls) (hap : ∀ z, (Value.slice A2 ls.length c2).ownBlock = some z → ¬ blocksS (.slice A rs.length c) rs z) (hB : B ≤ x.heap.size) (hok : M.bkOk (rs.map Wr.wk) ls = true) (hn : o.deed.name.size ≤ 1048576) (hpg : o.deed.page.size ≤ 1048576) :
    Calls Tryz.prog 77 #[bkV A rs.length c A2 ls.length c2, orV o] x (OrIn B x (M.ordS (rs.map Wr.wk, ls) o)) := by
  have hok' := hok
  simp only [M.bkOk, Bool.and_eq_true] at hok'
  have hl4 := M.lasOk_len hok'.2
  by_cases hf : M.laFind ls o.client < ls.length
  · obtain ⟨k, hk⟩ : ∃ k, M.laFind ls o.client = k := ⟨_, rfl⟩
    rw [hk] at hf
    obtain ⟨g, cap, hv, -, -⟩ := la_form hla (by omega)
    injection hv with hA _ hc
    subst hA hc
    have hE : M.ordS (rs.map Wr.wk, ls) o = if o.seq = ls[k].seq then ((rs.map Wr.wk, ls), (ls[k].code, ls[k].page)) else if o.seq < ls[k].seq then ((rs.map Wr.wk, ls), (6, M.nilB)) else (((M.does (rs.map Wr.wk) o.deed).1, ls.set k ⟨o.client, o.seq, (M.does (rs.map Wr.wk) o.deed).2.1, (M.does (rs.map Wr.wk) o.deed).2.2⟩), (M.does (rs.map Wr.wk) o.deed).2) := by
      unfold M.ordS
      simp only [hk]
      rw [List.getElem?_eq_getElem hf]
    rw [hE]
    rcases Int.lt_trichotomy o.seq ls[k].seq with h | h | h
    · rw [if_neg (by omega), if_pos h]
      exact l6Order_old B A c g c2 rs ls x o hs hla (hap g rfl) hB (by omega) k hf hk h
    · rw [if_pos h]
      exact l6Order_same B A c g c2 rs ls x o hs hla (hap g rfl) hB (by omega) k hf hk h
    · rw [if_neg (by omega), if_neg (by omega)]
      exact l6Order_set B A c g c2 rs ls x o hs hla hap hB (by omega) hok'.1 hn hpg k hf hk h
  · have hf' : M.laFind ls o.client = ls.length := by
      have := M.laFind_le ls o.client
      omega
    have hE : M.ordS (rs.map Wr.wk, ls) o = (((M.does (rs.map Wr.wk) o.deed).1, M.putLa ls (M.laPlace ls o.client) ⟨o.client, o.seq, (M.does (rs.map Wr.wk) o.deed).2.1, (M.does (rs.map Wr.wk) o.deed).2.2⟩), (M.does (rs.map Wr.wk) o.deed).2) := by
      unfold M.ordS
      simp only [hf']
      rw [List.getElem?_eq_none (Nat.le_refl _)]
    rw [hE]
    exact l6Order_new B A c A2 c2 rs ls x o hs hla hap hB (by omega) hok'.1 hn hpg hf'
theorem l6Order_at (B : Nat) (A : Option Addr) (c : Nat) (A2 : Option Addr) (c2 : Nat) (rs l : List Wr) (ls : List M.La) (x : World) (o : M.Or) (hs : SfOwn B x (.slice A rs.length c) rs) (hm : rs.map Wr.wk = l.map Wr.wk) (hla : LasOwn B x (.slice A2 ls.length c2) ls) (hap : ∀ z, (Value.slice A2 ls.length c2).ownBlock = some z → ¬ blocksS (.slice A rs.length c) rs z) (hB : B ≤ x.heap.size) (hok : M.bkOk (l.map Wr.wk) ls = true) (hn : o.deed.name.size ≤ 1048576) (hpg : o.deed.page.size ≤ 1048576) :
    Calls Tryz.prog 77 #[bkV A rs.length c A2 ls.length c2, orV o] x (OrIn B x (M.ordS (l.map Wr.wk, ls) o)) := by
  rw [← hm]
  exact l6Order_any B A c A2 c2 rs ls x o hs hla hap hB (by rw [hm]; exact hok) hn hpg
theorem results_ssOrd (a b : Value) (c : Int) (p : ByteArray) (R T : Nat) (W : World) (tmps : Array Value) (h4 : tmps.getD 4 undef = .pointer (some ⟨R, 0, none⟩)) (h5 : tmps.getD 5 undef = .pointer (some ⟨T, 0, none⟩)) (hR : Holds W R #[a, b]) (hT : Holds W T (rpA c p)) :
    (results Tryz.f20 tmps).run Tryz.prog W = .ok (.tuple #[.agg #[a, b], rpV c p]) W := by
  obtain ⟨q0, q1⟩ := hR.two
  obtain ⟨r0, r1⟩ := hT.two
  simp at h4 h5
  simp [results, Tryz.results20, go_sem, h4, h5, q0, q1, r0, r1]
set_option maxHeartbeats 4000000 in
theorem specOrdered (A : Option Addr) (l : List Wr) (cap : Nat) (A2 : Option Addr) (m : List M.La) (cb : Nat) (o : M.Or) (w : World) (hl : Wks w A l) (hA : ∀ r ∈ l, r.ad = none → r.cap = 0) (hlen : l.length ≤ 1048576) (hp : WrsIn 1048576 l) (hm : Las w A2 m) (hN : A2 = none → cb = 0) (hml : m.length ≤ 1048576) (hn : o.deed.name.size ≤ 1048576) (hpg : o.deed.page.size ≤ 1048576) :
    Calls Tryz.prog 20 #[bkV A l.length cap A2 m.length cb, orV o] w (OrRet w (M.ordered (l.map Wr.wk, m) o)) := by
  have HL := Lib.hid hl
  have HA := Lib.hid hA
  have HN := Lib.hid hN
  have HP := Lib.hid hp
  have HC := Lib.hid (fun r (hr : r ∈ l) => (hp r hr).2.1)
  have HM := Lib.hid hm
  clear hl hp hm hA hN
  have hM := ((((Mem.start w).new (bkA A l.length cap A2 m.length cb) 27).new (orC o) 41).new (bkA none 0 0 none 0 0) 27).new (rpA 0 noP) 33
  simp only [World.size_alloc] at hM
  rcases hok : M.bkOk (l.map Wr.wk) m with _ | _
  · have HE : Hid (M.ordered (l.map Wr.wk, m) o = (([], []), ((7 : Int), M.nilB))) := Lib.hid (by unfold M.ordered; rw [if_neg (by simp [hok])])
    have HOK := Lib.hid hok
    clear hok
    go_enter Tryz.func20, Tryz.ntmps20
    go_wp2_with fail
    refine (specBookOk A l cap A2 m cb _ (HL.out.below hM.1) hlen HP.out (HM.out.below hM.1) hml).mono ?_
    rintro e x1 ⟨rfl, b1⟩
    rw [HOK.out]
    have HR := Lib.hid (hM.below b1)
    clear hM b1
    (obtain ⟨s0, s1⟩ := (HR.out.get (w.heap.size + 1 + 1) (bkA none 0 0 none 0 0) (by simp)).two)
    (obtain ⟨t0, t1⟩ := (HR.out.get (w.heap.size + 1 + 1 + 1) (rpA 0 noP) (by simp)).two)
    (have y0 := HR.out.loose (w.heap.size + 1 + 1) (by simp) 0)
    (have y1 := HR.out.loose (w.heap.size + 1 + 1) (by simp) 1)
    (have z0 := HR.out.loose (w.heap.size + 1 + 1 + 1) (by simp) 0)
    (have z1 := HR.out.loose (w.heap.size + 1 + 1 + 1) (by simp) 1)
    (have zs := (HR.out.get (w.heap.size + 1 + 1) (bkA none 0 0 none 0 0) (by simp)).1)
    (have zt := (HR.out.get (w.heap.size + 1 + 1 + 1) (rpA 0 noP) (by simp)).1)
    go_wp2
    refine bodyPost_ret (results_ssOrd (.slice none 0 0) (.slice none 0 0) 7 noP (w.heap.size + 1 + 1) (w.heap.size + 1 + 1 + 1) _ _ rfl rfl ?_ ?_) rfl ⟨.slice none 0 0, .slice none 0 0, [], by rw [HE.out] <;> rfl, ⟨⟨rfl, .inl ⟨rfl, rfl⟩⟩, by simp, by simp, List.Pairwise.nil⟩, by rw [HE.out]; rfl, by rw [HE.out]; exact LasOwn.nil _ _, fun g e => (by cases e), ?_⟩
    · exact (((HR.out.get (w.heap.size + 1 + 1) (bkA none 0 0 none 0 0) (by simp)).wr2 _ _).otherM (by omega)).otherM (by omega)
    · exact (((HR.out.get (w.heap.size + 1 + 1 + 1) (rpA 0 noP) (by simp)).otherM (by omega)).otherM (by omega)).wr2 _ _
    · exact far_2 (far_2 HR.out.1 (by omega) _ _) (by omega) _ _
  · have hml' : m.length ≤ 1048575 := by
      have h := hok
      simp only [M.bkOk, Bool.and_eq_true] at h
      have := M.lasOk_len h.2
      omega
    rcases hoo : M.orderOk o with _ | _
    · have HE : Hid (M.ordered (l.map Wr.wk, m) o = ((l.map Wr.wk, m), ((7 : Int), M.nilB))) := Lib.hid (by unfold M.ordered; rw [if_pos hok]; unfold M.ordI; rw [if_neg (by simp [hoo])])
      have HOK := Lib.hid hok
      have HOO := Lib.hid hoo
      clear hok hoo
      go_enter Tryz.func20, Tryz.ntmps20
      go_wp2_with fail
      refine (specBookOk A l cap A2 m cb _ (HL.out.below hM.1) hlen HP.out (HM.out.below hM.1) hml).mono ?_
      rintro e x1 ⟨rfl, b1⟩
      rw [HOK.out]
      have hM1 := hM.below b1
      clear hM b1
      obtain ⟨q0, q1, q2, q3, q4, q5, q6, q7, q8⟩ := (hM1.get (w.heap.size + 1) (orC o) (by simp)).nine
      go_wp2_with fail
      refine (specOrderOk o _ (by unfold maxLen; omega) (by unfold maxLen; omega)).mono ?_
      rintro e x2 ⟨rfl, b2⟩
      rw [HOO.out]
      have hM2 := hM1.below b2
      clear hM1 b2 q0 q1 q2 q3 q4 q5 q6 q7 q8
      obtain ⟨k0, k1⟩ := (hM2.get w.heap.size (bkA A l.length cap A2 m.length cb) (by simp)).two
      have hx2 : (w.heap.size + 1 + 1 + 1) < x2.heap.size := (hM2.get (w.heap.size + 1 + 1 + 1) (rpA 0 noP) (by simp)).1
      go_wp2_with fail
      refine (l6Copy_any A l cap A2 m cb _ (HL.out.below hM2.1) HA.out hlen HC.out (HM.out.below hM2.1) HN.out hml).mono ?_
      rintro e x3 ⟨v1, v2, rs, rfl, hs, hmap, hla, hap, b3⟩
      obtain ⟨A5, c5, rfl, -, -⟩ := hs.open
      obtain ⟨A6, c6, rfl, -, -⟩ := LasOwn.open hla
      have HR := Lib.hid (hM2.below b3)
      have HO := Lib.hid (show _ ∧ _ ∧ _ ∧ _ from ⟨hs, hmap, hla, hap⟩)
      clear hM2 b3 k0 k1 hs hmap hla hap
      (obtain ⟨s0, s1⟩ := (HR.out.get (w.heap.size + 1 + 1) (bkA none 0 0 none 0 0) (by simp)).two)
      (obtain ⟨t0, t1⟩ := (HR.out.get (w.heap.size + 1 + 1 + 1) (rpA 0 noP) (by simp)).two)
      (have y0 := HR.out.loose (w.heap.size + 1 + 1) (by simp) 0)
      (have y1 := HR.out.loose (w.heap.size + 1 + 1) (by simp) 1)
      (have z0 := HR.out.loose (w.heap.size + 1 + 1 + 1) (by simp) 0)
      (have z1 := HR.out.loose (w.heap.size + 1 + 1 + 1) (by simp) 1)
      (have zs := (HR.out.get (w.heap.size + 1 + 1) (bkA none 0 0 none 0 0) (by simp)).1)
      (have zt := (HR.out.get (w.heap.size + 1 + 1 + 1) (rpA 0 noP) (by simp)).1)
      go_wp2
      have hne : ∀ z, z < x2.heap.size → (Value.slice A6 m.length c6).ownBlock ≠ some z := fun z hz e => by have := (World.ownsRow.lt HO.out.2.2.1 z e).1; omega
      refine bodyPost_ret (results_ssOrd (.slice A5 rs.length c5) (.slice A6 m.length c6) 7 noP (w.heap.size + 1 + 1) (w.heap.size + 1 + 1 + 1) _ _ rfl rfl ?_ ?_) rfl ⟨.slice A5 rs.length c5, .slice A6 m.length c6, rs, by rw [HE.out] <;> rfl, ?_, by rw [HE.out]; exact HO.out.2.1, ?_, HO.out.2.2.2, ?_⟩
      · exact (((HR.out.get (w.heap.size + 1 + 1) (bkA none 0 0 none 0 0) (by simp)).wr2 _ _).otherM (by omega)).otherM (by omega)
      · exact (((HR.out.get (w.heap.size + 1 + 1 + 1) (rpA 0 noP) (by simp)).otherM (by omega)).otherM (by omega)).wr2 _ _
      · exact ((((HO.out.1.set (by omega) 0 _).set (by omega) 1 _).set (by omega) 0 _).set (by omega) 1 _).mono (by omega)
      · rw [HE.out]
        exact LasOwn.mono (own_off (own_off (own_off (own_off HO.out.2.2.1 (hne _ (by omega)) 0 _) (hne _ (by omega)) 1 _) (hne _ (by omega)) 0 _) (hne _ (by omega)) 1 _) (by omega)
      · exact far_2 (far_2 HR.out.1 (by omega) _ _) (by omega) _ _
    · have HE : Hid (M.ordered (l.map Wr.wk, m) o = M.ordS (l.map Wr.wk, m) o) := Lib.hid (by unfold M.ordered; rw [if_pos hok]; exact (M.ordS_eq (b := (l.map Wr.wk, m)) hok hoo).symm)
      have HOK := Lib.hid hok
      have HOO := Lib.hid hoo
      clear hok hoo
      go_enter Tryz.func20, Tryz.ntmps20
      go_wp2_with fail
      refine (specBookOk A l cap A2 m cb _ (HL.out.below hM.1) hlen HP.out (HM.out.below hM.1) hml).mono ?_
      rintro e x1 ⟨rfl, b1⟩
      rw [HOK.out]
      have hM1 := hM.below b1
      clear hM b1
      obtain ⟨q0, q1, q2, q3, q4, q5, q6, q7, q8⟩ := (hM1.get (w.heap.size + 1) (orC o) (by simp)).nine
      go_wp2_with fail
      refine (specOrderOk o _ (by unfold maxLen; omega) (by unfold maxLen; omega)).mono ?_
      rintro e x2 ⟨rfl, b2⟩
      rw [HOO.out]
      have hM2 := hM1.below b2
      clear hM1 b2 q0 q1 q2 q3 q4 q5 q6 q7 q8
      have HR := Lib.hid ((hM2.drew).re (hs' := [((w.heap.size + 1 + 1 + 1), rpA 0 noP), ((w.heap.size + 1 + 1), bkA none 0 0 none 0 0)]) (ls' := [(w.heap.size + 1 + 1 + 1), (w.heap.size + 1 + 1)]) (by simp) (by simp))
      have HP := Lib.hid ((hM2.drew).re (hs' := [((w.heap.size + 1), orC o), (w.heap.size, (bkA A l.length cap A2 m.length cb))]) (ls' := []) (by simp) (by simp))
      have HG := Lib.hid (fun (y : World) (h : Mem w [((w.heap.size + 1), orC o), (w.heap.size, (bkA A l.length cap A2 m.length cb))] [] y) => And.intro (h.get w.heap.size (bkA A l.length cap A2 m.length cb) (by simp)).two (h.get (w.heap.size + 1) (orC o) (by simp)).nine)
      have HZ : Hid ((w.heap.size + 1 + 1 + 1) < x2.drew.heap.size) := Lib.hid (hM2.get (w.heap.size + 1 + 1 + 1) (rpA 0 noP) (by simp)).1
      clear hM2
      go_upto_region 5 with (fail)
      refine wp_region_seq (fun y => Mem w [((w.heap.size + 1), orC o), (w.heap.size, (bkA A l.length cap A2 m.length cb))] [] y) [(0, true), (2, true), (1, false), (3, false), (4, true), (5, true), (6, false), (7, false)] (by kernel_rfl) (by kernel_rfl) (fun _ _ _ _ _ h => h) (by kernel_rfl) (by decide) HP.out ?_
      intro hHeld
      generalize World.drew _ = wd at hHeld HR HZ ⊢
      have hz := HZ.out
      repeat (first
        | (refine seq_skip (by simp only [List.getElem?_toArray, List.getElem?_cons_succ, List.getElem?_cons_zero]; first | done | rfl) (by rfl) ?_; (try simp only [Act.put, List.setIfInBounds_toArray, List.set_cons_zero, List.set_cons_succ]))
        | (refine seq_reads (by simp only [List.getElem?_toArray, List.getElem?_cons_succ, List.getElem?_cons_zero]; first | done | rfl) (by rfl) ?_; apply Exists.intro; apply And.intro; (focus (intro w hSw; (try (obtain ⟨⟨k0, k1⟩, q0, q1, q2, q3, q4, q5, q6, q7, q8⟩ := HG.out _ hSw)); go_simp; (try with_reducible rfl); done)); (try simp only [Act.put, List.setIfInBounds_toArray, List.set_cons_zero, List.set_cons_succ]))
        | (refine seq_pass (by simp only [List.getElem?_toArray, List.getElem?_cons_succ, List.getElem?_cons_zero]; first | done | rfl) (by rfl) hHeld ?_; clear hHeld; intro hHeld; (try simp only [Act.put, List.setIfInBounds_toArray, List.set_cons_zero, List.set_cons_succ]))
        | (refine seq_call (by simp only [List.getElem?_toArray, List.getElem?_cons_succ, List.getElem?_cons_zero]; first | done | rfl) (by rfl) (fun K hK => ?_); go_simp; go_at_call 76; refine (l6Copy_any A l cap A2 m cb _ (HL.out.below hHeld.1) HA.out hlen HC.out (HM.out.below hHeld.1) HN.out hml).mono ?_; rintro r w1 ⟨v1, v2, rs, rfl, hs, hmap, hla, hap, b1⟩; obtain ⟨A5, c5, rfl, -, -⟩ := hs.open; obtain ⟨A6, c6, rfl, -, -⟩ := LasOwn.open hla; go_simp; refine hK.out _ _ (hHeld.below b1) ?_; clear hK hHeld; intro hHeld; (have HO := Lib.hid (show _ ∧ _ ∧ _ ∧ _ from ⟨hs, hmap, hla, hap⟩)); (replace HR := Lib.hid (HR.out.below b1)); (have HX := Lib.hid b1.size); clear hs hmap hla hap b1; (try simp only [Act.put, List.setIfInBounds_toArray, List.set_cons_zero, List.set_cons_succ]))
        | (refine seq_call (by simp only [List.getElem?_toArray, List.getElem?_cons_succ, List.getElem?_cons_zero]; first | done | rfl) (by rfl) (fun K hK => ?_); go_simp; go_at_call 77; refine (l6Order_at wd.heap.size A5 c5 A6 c6 rs l m _ o HO.out.1 HO.out.2.1 HO.out.2.2.1 HO.out.2.2.2 HX.out HOK.out hn hpg).mono ?_; rintro r w1 ⟨u1, u2, rs2, rfl, ho, hmp, hlo, hao, b2⟩; obtain ⟨A7, c7, rfl, -, -⟩ := ho.open; obtain ⟨A8, c8, rfl, -, -⟩ := LasOwn.open hlo; go_simp; refine hK.out _ _ (hHeld.low b2 (by omega) (by simp; omega) (by simp)) ?_; clear hK hHeld; intro hHeld; (have HO2 := Lib.hid (show _ ∧ _ ∧ _ ∧ _ from ⟨ho, hmp, hlo, hao⟩)); (replace HR := Lib.hid (HR.out.low b2 (by omega) (by simp; omega) (by simp; omega))); clear ho hmp hlo hao b2; (try simp only [Act.put, List.setIfInBounds_toArray, List.set_cons_zero, List.set_cons_succ]))
        | (refine seq_call (by simp only [List.getElem?_toArray, List.getElem?_cons_succ, List.getElem?_cons_zero]; first | done | rfl) (by rfl) (fun K hK => ?_); (obtain ⟨s0, s1⟩ := (HR.out.get (w.heap.size + 1 + 1) (bkA none 0 0 none 0 0) (by simp)).two); (obtain ⟨t0, t1⟩ := (HR.out.get (w.heap.size + 1 + 1 + 1) (rpA 0 noP) (by simp)).two); (have y0 := HR.out.loose (w.heap.size + 1 + 1) (by simp) 0); (have y1 := HR.out.loose (w.heap.size + 1 + 1) (by simp) 1); (have z0 := HR.out.loose (w.heap.size + 1 + 1 + 1) (by simp) 0); (have z1 := HR.out.loose (w.heap.size + 1 + 1 + 1) (by simp) 1); (have zs := (HR.out.get (w.heap.size + 1 + 1) (bkA none 0 0 none 0 0) (by simp)).1); (have zt := (HR.out.get (w.heap.size + 1 + 1 + 1) (rpA 0 noP) (by simp)).1); go_simp; refine hK.out _ _ ((hHeld.off (by omega) (fun p hp => by rcases List.mem_cons.1 hp with rfl | hp; (show w.heap.size + 1 ≠ _; omega); obtain rfl := List.mem_singleton.1 hp; (show w.heap.size ≠ _; omega))).off (by omega) (fun p hp => by rcases List.mem_cons.1 hp with rfl | hp; (show w.heap.size + 1 ≠ _; omega); obtain rfl := List.mem_singleton.1 hp; (show w.heap.size ≠ _; omega))) ?_; clear hK hHeld; intro hHeld; clear s0 s1 t0 t1 y0 y1 z0 z1 zs zt; (try simp only [Act.put, List.setIfInBounds_toArray, List.set_cons_zero, List.set_cons_succ])))
      refine seq_end ?_
      go_wp2
      have hne : ∀ z, z < wd.heap.size → (Value.slice A8 (M.ordS (l.map Wr.wk, m) o).1.2.length c8).ownBlock ≠ some z := fun z hz e => by have := (World.ownsRow.lt HO2.out.2.2.1 z e).1; omega
      refine bodyPost_ret (results_ssOrd (.slice A7 rs2.length c7) (.slice A8 (M.ordS (l.map Wr.wk, m) o).1.2.length c8) _ _ (w.heap.size + 1 + 1) (w.heap.size + 1 + 1 + 1) _ _ rfl rfl ?_ ?_) rfl ⟨.slice A7 rs2.length c7, .slice A8 (M.ordS (l.map Wr.wk, m) o).1.2.length c8, rs2, by rw [HE.out], ?_, by rw [HE.out]; exact HO2.out.2.1, ?_, HO2.out.2.2.2, ?_⟩
      · exact (((HR.out.get (w.heap.size + 1 + 1) (bkA none 0 0 none 0 0) (by simp)).wr2 _ _).otherM (by omega)).otherM (by omega)
      · exact (((HR.out.get (w.heap.size + 1 + 1 + 1) (rpA 0 noP) (by simp)).otherM (by omega)).otherM (by omega)).wr2 _ _
      · exact ((((HO2.out.1.set (by omega) 0 _).set (by omega) 1 _).set (by omega) 0 _).set (by omega) 1 _).mono (by omega)
      · rw [HE.out]
        exact LasOwn.mono (own_off (own_off (own_off (own_off HO2.out.2.2.1 (hne _ (by omega)) 0 _) (hne _ (by omega)) 1 _) (hne _ (by omega)) 0 _) (hne _ (by omega)) 1 _) (by omega)
      · exact far_2 (far_2 HR.out.1 (by omega) _ _) (by omega) _ _
end Go.Proofs.YtblcgbgcccjpcaaGreat
namespace Go.Proofs.YtblcgbgcccjpcaaGreat
open Go.RowKit
set_option maxRecDepth 20000
theorem results_ssOb (a b : Value) (c : Int) (p : ByteArray) (R T : Nat) (W : World) (tmps : Array Value) (h4 : tmps.getD 4 undef = .pointer (some ⟨R, 0, none⟩)) (h5 : tmps.getD 5 undef = .pointer (some ⟨T, 0, none⟩)) (hR : Holds W R #[a, b]) (hT : Holds W T (rpA c p)) :
    (results Tryz.f35 tmps).run Tryz.prog W = .ok (.tuple #[.agg #[a, b], rpV c p]) W := by
  obtain ⟨q0, q1⟩ := hR.two
  obtain ⟨r0, r1⟩ := hT.two
  simp at h4 h5
  simp [results, Tryz.results35, go_sem, h4, h5, q0, q1, r0, r1]
set_option maxHeartbeats 4000000 in
theorem specObeyed (A : Option Addr) (l : List Wr) (cap : Nat) (A2 : Option Addr) (m : List M.La) (cb : Nat) (en : M.En) (w : World) (hl : Wks w A l) (hA : ∀ r ∈ l, r.ad = none → r.cap = 0) (hlen : l.length ≤ 1048576) (hp : WrsIn 1048576 l) (hm : Las w A2 m) (hN : A2 = none → cb = 0) (hml : m.length ≤ 1048576) (hn : en.order.deed.name.size ≤ 1048576) (hpg : en.order.deed.page.size ≤ 1048576) :
    Calls Tryz.prog 35 #[bkV A l.length cap A2 m.length cb, enV en] w (OrRet w (M.obeyed (l.map Wr.wk, m) en)) := by
  have HL := Lib.hid hl
  have HA := Lib.hid hA
  have HN := Lib.hid hN
  have HP := Lib.hid hp
  have HC := Lib.hid (fun r (hr : r ∈ l) => (hp r hr).2.1)
  have HM := Lib.hid hm
  clear hl hp hm hA hN
  have hM := ((((Mem.start w).new (bkA A l.length cap A2 m.length cb) 27).new (enC en) 70).new (bkA none 0 0 none 0 0) 27).new (rpA 0 noP) 33
  simp only [World.size_alloc] at hM
  rcases hok : M.bkOk (l.map Wr.wk) m with _ | _
  · have HE : Hid (M.obeyed (l.map Wr.wk, m) en = (([], []), ((7 : Int), M.nilB))) := Lib.hid (by unfold M.obeyed; rw [if_neg (by simp [hok])])
    have HOK := Lib.hid hok
    clear hok
    go_enter Tryz.func35, Tryz.ntmps35
    go_wp2_with fail
    refine (specBookOk A l cap A2 m cb _ (HL.out.below hM.1) hlen HP.out (HM.out.below hM.1) hml).mono ?_
    rintro e x1 ⟨rfl, b1⟩
    rw [HOK.out]
    have HR := Lib.hid (hM.below b1)
    clear hM b1
    (obtain ⟨s0, s1⟩ := (HR.out.get (w.heap.size + 1 + 1) (bkA none 0 0 none 0 0) (by simp)).two)
    (obtain ⟨t0, t1⟩ := (HR.out.get (w.heap.size + 1 + 1 + 1) (rpA 0 noP) (by simp)).two)
    (have y0 := HR.out.loose (w.heap.size + 1 + 1) (by simp) 0)
    (have y1 := HR.out.loose (w.heap.size + 1 + 1) (by simp) 1)
    (have z0 := HR.out.loose (w.heap.size + 1 + 1 + 1) (by simp) 0)
    (have z1 := HR.out.loose (w.heap.size + 1 + 1 + 1) (by simp) 1)
    (have zs := (HR.out.get (w.heap.size + 1 + 1) (bkA none 0 0 none 0 0) (by simp)).1)
    (have zt := (HR.out.get (w.heap.size + 1 + 1 + 1) (rpA 0 noP) (by simp)).1)
    go_wp2
    refine bodyPost_ret (results_ssOb (.slice none 0 0) (.slice none 0 0) 7 noP (w.heap.size + 1 + 1) (w.heap.size + 1 + 1 + 1) _ _ rfl rfl ?_ ?_) rfl ⟨.slice none 0 0, .slice none 0 0, [], by rw [HE.out] <;> rfl, ⟨⟨rfl, .inl ⟨rfl, rfl⟩⟩, by simp, by simp, List.Pairwise.nil⟩, by rw [HE.out]; rfl, by rw [HE.out]; exact LasOwn.nil _ _, fun g e => (by cases e), ?_⟩
    · exact (((HR.out.get (w.heap.size + 1 + 1) (bkA none 0 0 none 0 0) (by simp)).wr2 _ _).otherM (by omega)).otherM (by omega)
    · exact (((HR.out.get (w.heap.size + 1 + 1 + 1) (rpA 0 noP) (by simp)).otherM (by omega)).otherM (by omega)).wr2 _ _
    · exact far_2 (far_2 HR.out.1 (by omega) _ _) (by omega) _ _
  · have hml' : m.length ≤ 1048575 := by
      have h := hok
      simp only [M.bkOk, Bool.and_eq_true] at h
      have := M.lasOk_len h.2
      omega
    rcases hoo : M.entryOk en with _ | _
    · have HE : Hid (M.obeyed (l.map Wr.wk, m) en = ((l.map Wr.wk, m), ((7 : Int), M.nilB))) := Lib.hid (by unfold M.obeyed; rw [if_pos hok]; unfold M.obeyI; rw [if_neg (by simp [hoo])])
      have HOK := Lib.hid hok
      have HOO := Lib.hid hoo
      clear hok hoo
      go_enter Tryz.func35, Tryz.ntmps35
      go_wp2_with fail
      refine (specBookOk A l cap A2 m cb _ (HL.out.below hM.1) hlen HP.out (HM.out.below hM.1) hml).mono ?_
      rintro e x1 ⟨rfl, b1⟩
      rw [HOK.out]
      have hM1 := hM.below b1
      clear hM b1
      obtain ⟨q0, q1, q2, q3, q4, q5, q6, q7, q8, q9⟩ := (hM1.get (w.heap.size + 1) (enC en) (by simp)).ten
      go_wp2_with fail
      refine (specEntryOk en _ (by unfold maxLen; omega) (by unfold maxLen; omega)).mono ?_
      rintro e x2 ⟨rfl, b2⟩
      rw [HOO.out]
      have hM2 := hM1.below b2
      clear hM1 b2 q0 q1 q2 q3 q4 q5 q6 q7 q8 q9
      obtain ⟨k0, k1⟩ := (hM2.get w.heap.size (bkA A l.length cap A2 m.length cb) (by simp)).two
      have hx2 : (w.heap.size + 1 + 1 + 1) < x2.heap.size := (hM2.get (w.heap.size + 1 + 1 + 1) (rpA 0 noP) (by simp)).1
      go_wp2_with fail
      refine (l6Copy_any A l cap A2 m cb _ (HL.out.below hM2.1) HA.out hlen HC.out (HM.out.below hM2.1) HN.out hml).mono ?_
      rintro e x3 ⟨v1, v2, rs, rfl, hs, hmap, hla, hap, b3⟩
      obtain ⟨A5, c5, rfl, -, -⟩ := hs.open
      obtain ⟨A6, c6, rfl, -, -⟩ := LasOwn.open hla
      have HR := Lib.hid (hM2.below b3)
      have HO := Lib.hid (show _ ∧ _ ∧ _ ∧ _ from ⟨hs, hmap, hla, hap⟩)
      clear hM2 b3 k0 k1 hs hmap hla hap
      (obtain ⟨s0, s1⟩ := (HR.out.get (w.heap.size + 1 + 1) (bkA none 0 0 none 0 0) (by simp)).two)
      (obtain ⟨t0, t1⟩ := (HR.out.get (w.heap.size + 1 + 1 + 1) (rpA 0 noP) (by simp)).two)
      (have y0 := HR.out.loose (w.heap.size + 1 + 1) (by simp) 0)
      (have y1 := HR.out.loose (w.heap.size + 1 + 1) (by simp) 1)
      (have z0 := HR.out.loose (w.heap.size + 1 + 1 + 1) (by simp) 0)
      (have z1 := HR.out.loose (w.heap.size + 1 + 1 + 1) (by simp) 1)
      (have zs := (HR.out.get (w.heap.size + 1 + 1) (bkA none 0 0 none 0 0) (by simp)).1)
      (have zt := (HR.out.get (w.heap.size + 1 + 1 + 1) (rpA 0 noP) (by simp)).1)
      go_wp2
      have hne : ∀ z, z < x2.heap.size → (Value.slice A6 m.length c6).ownBlock ≠ some z := fun z hz e => by have := (World.ownsRow.lt HO.out.2.2.1 z e).1; omega
      refine bodyPost_ret (results_ssOb (.slice A5 rs.length c5) (.slice A6 m.length c6) 7 noP (w.heap.size + 1 + 1) (w.heap.size + 1 + 1 + 1) _ _ rfl rfl ?_ ?_) rfl ⟨.slice A5 rs.length c5, .slice A6 m.length c6, rs, by rw [HE.out] <;> rfl, ?_, by rw [HE.out]; exact HO.out.2.1, ?_, HO.out.2.2.2, ?_⟩
      · exact (((HR.out.get (w.heap.size + 1 + 1) (bkA none 0 0 none 0 0) (by simp)).wr2 _ _).otherM (by omega)).otherM (by omega)
      · exact (((HR.out.get (w.heap.size + 1 + 1 + 1) (rpA 0 noP) (by simp)).otherM (by omega)).otherM (by omega)).wr2 _ _
      · exact ((((HO.out.1.set (by omega) 0 _).set (by omega) 1 _).set (by omega) 0 _).set (by omega) 1 _).mono (by omega)
      · rw [HE.out]
        exact LasOwn.mono (own_off (own_off (own_off (own_off HO.out.2.2.1 (hne _ (by omega)) 0 _) (hne _ (by omega)) 1 _) (hne _ (by omega)) 0 _) (hne _ (by omega)) 1 _) (by omega)
      · exact far_2 (far_2 HR.out.1 (by omega) _ _) (by omega) _ _
    rcases hb : M.orEq en.order M.or0 with _ | _
    · have HE : Hid (M.obeyed (l.map Wr.wk, m) en = M.ordered (l.map Wr.wk, m) en.order) := Lib.hid (by unfold M.obeyed M.ordered; rw [if_pos hok, if_pos hok]; unfold M.obeyI; rw [if_pos hoo, if_neg (by simp [hb])])
      have HOK := Lib.hid hok
      have HOO := Lib.hid hoo
      clear hok hoo
      go_enter Tryz.func35, Tryz.ntmps35
      go_wp2_with fail
      refine (specBookOk A l cap A2 m cb _ (HL.out.below hM.1) hlen HP.out (HM.out.below hM.1) hml).mono ?_
      rintro e x1 ⟨rfl, b1⟩
      rw [HOK.out]
      have hM1 := hM.below b1
      clear hM b1
      obtain ⟨q0, q1, q2, q3, q4, q5, q6, q7, q8, q9⟩ := (hM1.get (w.heap.size + 1) (enC en) (by simp)).ten
      go_wp2_with fail
      refine (specEntryOk en _ (by unfold maxLen; omega) (by unfold maxLen; omega)).mono ?_
      rintro e x2 ⟨rfl, b2⟩
      rw [HOO.out]
      have hM2 := hM1.below b2
      clear hM1 b2 q0 q1 q2 q3 q4 q5 q6 q7 q8 q9
      obtain ⟨k0, k1⟩ := (hM2.get w.heap.size (bkA A l.length cap A2 m.length cb) (by simp)).two
      obtain ⟨q0, q1, q2, q3, q4, q5, q6, q7, q8, q9⟩ := (hM2.get (w.heap.size + 1) (enC en) (by simp)).ten
      have hx2 : (w.heap.size + 1 + 1 + 1) < x2.heap.size := (hM2.get (w.heap.size + 1 + 1 + 1) (rpA 0 noP) (by simp)).1
      go_wp2_with (refine wpList_run (by rfl) (oreql_read (a := en.order) (b := M.or0) rfl rfl rfl _) ?_; simp only [hb])
      clear hb
      obtain ⟨q, hq⟩ : ∃ q, M.ordered (l.map Wr.wk, m) en.order = q := ⟨_, rfl⟩
      have hcall := specOrdered A l cap A2 m cb en.order x2 (HL.out.below hM2.1) HA.out hlen HP.out (HM.out.below hM2.1) HN.out hml hn hpg
      rw [hq] at hcall
      have HQ := Lib.hid hq
      refine hcall.mono ?_
      rintro e x3 ⟨v1, v2, rs, rfl, hs, hmap, hla, hap, b3⟩
      obtain ⟨A5, c5, rfl, -, -⟩ := hs.open
      obtain ⟨A6, c6, rfl, -, -⟩ := LasOwn.open hla
      have HR := Lib.hid (hM2.below b3)
      have HO := Lib.hid (show _ ∧ _ ∧ _ ∧ _ from ⟨hs, hmap, hla, hap⟩)
      clear hcall hq hM2 b3 k0 k1 hs hmap hla hap q0 q1 q2 q3 q4 q5 q6 q7 q8 q9
      (obtain ⟨s0, s1⟩ := (HR.out.get (w.heap.size + 1 + 1) (bkA none 0 0 none 0 0) (by simp)).two)
      (obtain ⟨t0, t1⟩ := (HR.out.get (w.heap.size + 1 + 1 + 1) (rpA 0 noP) (by simp)).two)
      (have y0 := HR.out.loose (w.heap.size + 1 + 1) (by simp) 0)
      (have y1 := HR.out.loose (w.heap.size + 1 + 1) (by simp) 1)
      (have z0 := HR.out.loose (w.heap.size + 1 + 1 + 1) (by simp) 0)
      (have z1 := HR.out.loose (w.heap.size + 1 + 1 + 1) (by simp) 1)
      (have zs := (HR.out.get (w.heap.size + 1 + 1) (bkA none 0 0 none 0 0) (by simp)).1)
      (have zt := (HR.out.get (w.heap.size + 1 + 1 + 1) (rpA 0 noP) (by simp)).1)
      go_wp2
      have hne : ∀ z, z < x2.heap.size → (Value.slice A6 q.1.2.length c6).ownBlock ≠ some z := fun z hz e => by have := (World.ownsRow.lt HO.out.2.2.1 z e).1; omega
      refine bodyPost_ret (results_ssOb (.slice A5 rs.length c5) (.slice A6 q.1.2.length c6) q.2.1 q.2.2 (w.heap.size + 1 + 1) (w.heap.size + 1 + 1 + 1) _ _ rfl rfl ?_ ?_) rfl ⟨.slice A5 rs.length c5, .slice A6 q.1.2.length c6, rs, by rw [HE.out, HQ.out], ?_, by rw [HE.out, HQ.out]; exact HO.out.2.1, ?_, HO.out.2.2.2, ?_⟩
      · exact (((HR.out.get (w.heap.size + 1 + 1) (bkA none 0 0 none 0 0) (by simp)).wr2 _ _).otherM (by omega)).otherM (by omega)
      · exact (((HR.out.get (w.heap.size + 1 + 1 + 1) (rpA 0 noP) (by simp)).otherM (by omega)).otherM (by omega)).wr2 _ _
      · exact ((((HO.out.1.set (by omega) 0 _).set (by omega) 1 _).set (by omega) 0 _).set (by omega) 1 _).mono (by omega)
      · rw [HE.out, HQ.out]
        exact LasOwn.mono (own_off (own_off (own_off (own_off HO.out.2.2.1 (hne _ (by omega)) 0 _) (hne _ (by omega)) 1 _) (hne _ (by omega)) 0 _) (hne _ (by omega)) 1 _) (by omega)
      · exact far_2 (far_2 HR.out.1 (by omega) _ _) (by omega) _ _
    · have HE : Hid (M.obeyed (l.map Wr.wk, m) en = ((l.map Wr.wk, m), ((0 : Int), M.nilB))) := Lib.hid (by unfold M.obeyed; rw [if_pos hok]; unfold M.obeyI; rw [if_pos hoo, if_pos hb])
      have HOK := Lib.hid hok
      have HOO := Lib.hid hoo
      clear hok hoo
      go_enter Tryz.func35, Tryz.ntmps35
      go_wp2_with fail
      refine (specBookOk A l cap A2 m cb _ (HL.out.below hM.1) hlen HP.out (HM.out.below hM.1) hml).mono ?_
      rintro e x1 ⟨rfl, b1⟩
      rw [HOK.out]
      have hM1 := hM.below b1
      clear hM b1
      obtain ⟨q0, q1, q2, q3, q4, q5, q6, q7, q8, q9⟩ := (hM1.get (w.heap.size + 1) (enC en) (by simp)).ten
      go_wp2_with fail
      refine (specEntryOk en _ (by unfold maxLen; omega) (by unfold maxLen; omega)).mono ?_
      rintro e x2 ⟨rfl, b2⟩
      rw [HOO.out]
      have hM2 := hM1.below b2
      clear hM1 b2 q0 q1 q2 q3 q4 q5 q6 q7 q8 q9
      obtain ⟨k0, k1⟩ := (hM2.get w.heap.size (bkA A l.length cap A2 m.length cb) (by simp)).two
      have hx2 : (w.heap.size + 1 + 1 + 1) < x2.heap.size := (hM2.get (w.heap.size + 1 + 1 + 1) (rpA 0 noP) (by simp)).1
      obtain ⟨q0, q1, q2, q3, q4, q5, q6, q7, q8, q9⟩ := (hM2.get (w.heap.size + 1) (enC en) (by simp)).ten
      go_wp2_with (refine wpList_run (by rfl) (oreql_read (a := en.order) (b := M.or0) rfl rfl rfl _) ?_; simp only [hb])
      clear q0 q1 q2 q3 q4 q5 q6 q7 q8 q9
      refine (l6Copy_any A l cap A2 m cb _ (HL.out.below hM2.1) HA.out hlen HC.out (HM.out.below hM2.1) HN.out hml).mono ?_
      rintro e x3 ⟨v1, v2, rs, rfl, hs, hmap, hla, hap, b3⟩
      obtain ⟨A5, c5, rfl, -, -⟩ := hs.open
      obtain ⟨A6, c6, rfl, -, -⟩ := LasOwn.open hla
      have HR := Lib.hid (hM2.below b3)
      have HO := Lib.hid (show _ ∧ _ ∧ _ ∧ _ from ⟨hs, hmap, hla, hap⟩)
      clear hM2 b3 k0 k1 hs hmap hla hap
      (obtain ⟨s0, s1⟩ := (HR.out.get (w.heap.size + 1 + 1) (bkA none 0 0 none 0 0) (by simp)).two)
      (obtain ⟨t0, t1⟩ := (HR.out.get (w.heap.size + 1 + 1 + 1) (rpA 0 noP) (by simp)).two)
      (have y0 := HR.out.loose (w.heap.size + 1 + 1) (by simp) 0)
      (have y1 := HR.out.loose (w.heap.size + 1 + 1) (by simp) 1)
      (have z0 := HR.out.loose (w.heap.size + 1 + 1 + 1) (by simp) 0)
      (have z1 := HR.out.loose (w.heap.size + 1 + 1 + 1) (by simp) 1)
      (have zs := (HR.out.get (w.heap.size + 1 + 1) (bkA none 0 0 none 0 0) (by simp)).1)
      (have zt := (HR.out.get (w.heap.size + 1 + 1 + 1) (rpA 0 noP) (by simp)).1)
      go_wp2
      have hne : ∀ z, z < x2.heap.size → (Value.slice A6 m.length c6).ownBlock ≠ some z := fun z hz e => by have := (World.ownsRow.lt HO.out.2.2.1 z e).1; omega
      refine bodyPost_ret (results_ssOb (.slice A5 rs.length c5) (.slice A6 m.length c6) 0 noP (w.heap.size + 1 + 1) (w.heap.size + 1 + 1 + 1) _ _ rfl rfl ?_ ?_) rfl ⟨.slice A5 rs.length c5, .slice A6 m.length c6, rs, by rw [HE.out] <;> rfl, ?_, by rw [HE.out]; exact HO.out.2.1, ?_, HO.out.2.2.2, ?_⟩
      · exact (((HR.out.get (w.heap.size + 1 + 1) (bkA none 0 0 none 0 0) (by simp)).wr2 _ _).otherM (by omega)).otherM (by omega)
      · exact (((HR.out.get (w.heap.size + 1 + 1 + 1) (rpA 0 noP) (by simp)).otherM (by omega)).otherM (by omega)).wr2 _ _
      · exact ((((HO.out.1.set (by omega) 0 _).set (by omega) 1 _).set (by omega) 0 _).set (by omega) 1 _).mono (by omega)
      · rw [HE.out]
        exact LasOwn.mono (own_off (own_off (own_off (own_off HO.out.2.2.1 (hne _ (by omega)) 0 _) (hne _ (by omega)) 1 _) (hne _ (by omega)) 0 _) (hne _ (by omega)) 1 _) (by omega)
      · exact far_2 (far_2 HR.out.1 (by omega) _ _) (by omega) _ _
end Go.Proofs.YtblcgbgcccjpcaaGreat
namespace Go.Proofs.YtblcgbgcccjpcaaGreat
open Go.RowKit
set_option maxRecDepth 20000
/-- Where toOrder leaves the world. -/
abbrev orMade (o : M.Or) (w : World) : World := ddMade o.deed (((w.alloc (.cells (orC o) 91)).alloc (.cells (orC o) 41)).alloc (.cells (orC o) 41))
set_option maxHeartbeats 4000000 in
theorem toOrder_at (o : M.Or) (w : World) :
    Calls Tryz.prog 98 #[orV o] w fun r w' => r = .returned (orV o) ∧ w' = orMade o w := by
  go_enter Tryz.func98, Tryz.ntmps98
  go_wp2_with fail
  refine (toDeed_at o.deed _).mono ?_
  rintro r w1 ⟨rfl, rfl⟩
  go_wp2
  exact bodyPost_ret (v := orV o) (by simp [results, Tryz.results98, go_sem]) rfl ⟨rfl, rfl⟩
end Go.Proofs.YtblcgbgcccjpcaaGreat
namespace Go.Proofs.YtblcgbgcccjpcaaGreat
open Go.RowKit
set_option maxRecDepth 20000

set_option maxHeartbeats 1000000 in
theorem eqDeed_same (a : M.Dd) (w : World) :
    Calls Tryz.prog 177 #[ddV a, ddV a] w fun r w' => r = .returned (.bool true) ∧ Below w.heap.size w w' := by
  have h0 : (a.kind != a.kind) = false := by simp
  have h1 : (a.name.toList != a.name.toList) = false := by simp
  have h2 : (a.page.toList != a.page.toList) = false := by simp
  have h3 : (a.who != a.who) = false := by simp
  have b0 := ((Below.refl w.heap.size w).alloc (Nat.le_refl _) (.cells (ddC a) 39)).alloc (by simp) (.cells (ddC a) 39)
  have ha := (holds_new w (ddC a) 39).alloc (.cells (ddC a) 39)
  have hb := holds_new (w.alloc (.cells (ddC a) 39)) (ddC a) 39
  go_enter Tryz.func177, Tryz.ntmps177
  go_wp2_with fail
  refine (eqEdition_same a.ed _).mono ?_
  rintro r w1 ⟨rfl, b1⟩
  replace ha := ha.below b1
  replace hb := hb.below b1
  replace b0 := next b0 b1
  simp only [World.size_alloc] at hb
  obtain ⟨p0, p1, p2, p3, p4, p5, p6⟩ := ha.seven
  obtain ⟨q0, q1, q2, q3, q4, q5, q6⟩ := hb.seven
  clear b1
  go_wp2
  go_ret
  exact ⟨rfl, b0⟩
end Go.Proofs.YtblcgbgcccjpcaaGreat
