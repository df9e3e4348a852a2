/- Proved, in parts: Proved: the program's obeyed answers a plain Lean function, and leaves the book as it tells; so does its Obeyed, its book in new memory. Condition: texts and lists of at most a million. Proved: the program's ObeyedAll answers a plain Lean function, its book in new memory; nothing that was there is written. Condition: texts and lists of at most a million. -/
import Derived.Test.YtkpbfocnokbmiaaGreatPart42
namespace Go.Proofs.YtkpbfocnokbmiaaGreat
open Go.RowKit
set_option maxRecDepth 20000
set_option linter.unusedVariables false
theorem results_obey (c : Int) (p : ByteArray) (R : Nat) (W : World) (tmps : Array Value) (h2 : tmps.getD 4 undef = .pointer (some ⟨R, 0, none⟩)) (hW : Holds W R (rpA c p)) :
    (results Tryz.f24 tmps).run Tryz.prog W = .ok (rpV c p) W := by
  obtain ⟨q0, q1⟩ := hW.two
  simp at h2
  simp [results, Tryz.results24, go_sem, h2, q0, q1]
theorem TouchS.join {S : Nat → Prop} {w w1 w2 : World} (h : TouchS S w w1) (h2 : TouchS S w1 w2) : TouchS S w w2 :=
  ⟨Nat.le_trans h.size h2.size, fun B hB hS => (h.low B hB hS).trans (h2.low B (Nat.le_trans hB h.size) hS), fun k hk hne => (h2.block k (Nat.lt_of_lt_of_le hk h.size) hne).trans (h.block k hk hne)⟩
set_option maxHeartbeats 2000000 in
theorem obeyed_bad (W B b : Nat) (rs : List Wr) (G : Nat) (v : Value) (ls : List M.La) (en : M.En) (w : World) (h : BkSt w W B b rs G v ls) (hll : ls.length ≤ 1048575) (hn : en.order.deed.name.size ≤ 1048576) (hpg : en.order.deed.page.size ≤ 1048576) (hok : M.entryOk en = false) :
    Calls Tryz.prog 24 #[.pointer (some ⟨G, 0, none⟩), enV en] w (OrdOut w W B b G v rs (M.obeyI (rs.map Wr.wk, ls) en)) := by
  have HE : Hid (M.obeyI (rs.map Wr.wk, ls) en = ((rs.map Wr.wk, ls), ((7 : Int), M.nilB))) := Lib.hid (by simp [M.obeyI, hok])
  have hM := ((Mem.start w).new (enC en) 35).new (rpA 0 noP) 39
  have hst := h.below (((Below.refl w.heap.size w).alloc (Nat.le_refl _) (.cells (enC en) 35)).alloc (by simp) (.cells (rpA 0 noP) 39))
  simp only [World.size_alloc] at hM
  have hGw : G < w.heap.size := h.box.1
  have hbw : b < w.heap.size := by have := h.low; have := h.top; omega
  have HLOW : Hid (∀ r ∈ rs, ∀ k, r.sl.ownBlock = some k → k < w.heap.size) := Lib.hid (fun r hr k e => ((h.own.1 r hr).lt k e).2)
  have HVL : Hid (∀ k, v.ownBlock = some k → k < w.heap.size) := Lib.hid (fun k e => (World.ownsRow.lt h.las k e).2)
  clear h
  go_enter Tryz.func24, Tryz.ntmps24
  go_wp2_with fail
  have hcall := implEntryOk en ((w.alloc (.cells (enC en) 35)).alloc (.cells (rpA 0 noP) 39)) (by unfold maxLen; omega) (by unfold maxLen; omega)
  rw [hok] at hcall
  refine hcall.mono ?_
  rintro e x1 ⟨rfl, b1⟩
  have hM1 := hM.below b1
  have hst1 := hst.below b1
  clear hcall hM hst b1 hok
  obtain ⟨r0, r1⟩ := (hM1.get (w.heap.size + 1) (rpA 0 noP) (by simp)).two
  have z0 := hM1.loose (w.heap.size + 1) (by simp) 0
  have z1 := hM1.loose (w.heap.size + 1) (by simp) 1
  have HM := Lib.hid hM1
  have HST := Lib.hid hst1
  clear hM1 hst1
  go_wp2
  obtain ⟨e1, e2⟩ := ord_end (TouchS.of_below (S := bkS b G v) HM.out.1) (Nat.le_succ _) HST.out hbw hGw (fun r hr e => by have := HLOW.out r hr _ e; omega) (fun e => by have := HVL.out _ e; omega) (.int .i64 7) (.string noP)
  refine bodyPost_ret (results_obey 7 noP (w.heap.size + 1) _ _ rfl ?_) rfl ⟨by rw [HE.out]; rfl, e1, rs, v, by rw [HE.out], by rw [HE.out]; exact e2, fun k hk => .inr hk⟩
  simpa using (((HM.out.get (w.heap.size + 1) (rpA 0 noP) (by simp)).putM 0 (.int .i64 7)).putM 1 (.string noP))
set_option maxHeartbeats 2000000 in
theorem obeyed_idle (W B b : Nat) (rs : List Wr) (G : Nat) (v : Value) (ls : List M.La) (en : M.En) (w : World) (h : BkSt w W B b rs G v ls) (hll : ls.length ≤ 1048575) (hn : en.order.deed.name.size ≤ 1048576) (hpg : en.order.deed.page.size ≤ 1048576) (hok : M.entryOk en = true) (hz : M.orEq en.order M.or0 = true) :
    Calls Tryz.prog 24 #[.pointer (some ⟨G, 0, none⟩), enV en] w (OrdOut w W B b G v rs (M.obeyI (rs.map Wr.wk, ls) en)) := by
  have HE : Hid (M.obeyI (rs.map Wr.wk, ls) en = ((rs.map Wr.wk, ls), ((0 : Int), M.nilB))) := Lib.hid (by simp [M.obeyI, hok, hz])
  have hk : kindI en = 0 := by simp [kindI, hz]
  clear hz
  have hM := ((Mem.start w).new (enC en) 35).new (rpA 0 noP) 39
  have hst := h.below (((Below.refl w.heap.size w).alloc (Nat.le_refl _) (.cells (enC en) 35)).alloc (by simp) (.cells (rpA 0 noP) 39))
  simp only [World.size_alloc] at hM
  have hGw : G < w.heap.size := h.box.1
  have hbw : b < w.heap.size := by have := h.low; have := h.top; omega
  have HLOW : Hid (∀ r ∈ rs, ∀ k, r.sl.ownBlock = some k → k < w.heap.size) := Lib.hid (fun r hr k e => ((h.own.1 r hr).lt k e).2)
  have HVL : Hid (∀ k, v.ownBlock = some k → k < w.heap.size) := Lib.hid (fun k e => (World.ownsRow.lt h.las k e).2)
  clear h
  go_enter Tryz.func24, Tryz.ntmps24
  go_wp2_with fail
  have hcall := implEntryOk en ((w.alloc (.cells (enC en) 35)).alloc (.cells (rpA 0 noP) 39)) (by unfold maxLen; omega) (by unfold maxLen; omega)
  rw [hok] at hcall
  refine hcall.mono ?_
  rintro e x1 ⟨rfl, b1⟩
  have hM1 := hM.below b1
  have hst1 := hst.below b1
  clear hcall hM hst b1 hok
  obtain ⟨p0, p1, p2, p3, p4, p5, p6, p7, p8, p9⟩ := (hM1.get w.heap.size (enC en) (by simp)).ten
  go_wp2_with fail
  have hcall := kindOf_any en x1
  rw [hk] at hcall
  refine hcall.mono ?_
  rintro e x2 ⟨rfl, b2⟩
  have hM2 := hM1.below b2
  have hst2 := hst1.below b2
  clear hcall hM1 hst1 b2 hk p0 p1 p2 p3 p4 p5 p6 p7 p8 p9
  obtain ⟨r0, r1⟩ := (hM2.get (w.heap.size + 1) (rpA 0 noP) (by simp)).two
  have z0 := hM2.loose (w.heap.size + 1) (by simp) 0
  have z1 := hM2.loose (w.heap.size + 1) (by simp) 1
  have HM := Lib.hid hM2
  have HST := Lib.hid hst2
  clear hM2 hst2
  go_wp2
  obtain ⟨e1, e2⟩ := ord_end (TouchS.of_below (S := bkS b G v) HM.out.1) (Nat.le_succ _) HST.out hbw hGw (fun r hr e => by have := HLOW.out r hr _ e; omega) (fun e => by have := HVL.out _ e; omega) (.int .i64 0) (.string noP)
  refine bodyPost_ret (results_obey 0 noP (w.heap.size + 1) _ _ rfl ?_) rfl ⟨by rw [HE.out]; rfl, e1, rs, v, by rw [HE.out], by rw [HE.out]; exact e2, fun k hk => .inr hk⟩
  simpa using (((HM.out.get (w.heap.size + 1) (rpA 0 noP) (by simp)).putM 0 (.int .i64 0)).putM 1 (.string noP))
set_option maxHeartbeats 4000000 in
theorem obeyed_ord (W B b : Nat) (rs : List Wr) (G : Nat) (v : Value) (ls : List M.La) (en : M.En) (w : World) (h : BkSt w W B b rs G v ls) (hll : ls.length ≤ 1048575) (hn : en.order.deed.name.size ≤ 1048576) (hpg : en.order.deed.page.size ≤ 1048576) (hok : M.entryOk en = true) (hz : M.orEq en.order M.or0 = false) :
    Calls Tryz.prog 24 #[.pointer (some ⟨G, 0, none⟩), enV en] w (OrdOut w W B b G v rs (M.obeyI (rs.map Wr.wk, ls) en)) := by
  have HE : Hid (M.obeyI (rs.map Wr.wk, ls) en = M.ordI (rs.map Wr.wk, ls) en.order) := Lib.hid (by simp [M.obeyI, hok, hz])
  have hk : kindI en = 1 := by simp [kindI, hz]
  clear hz
  have hM := ((Mem.start w).new (enC en) 35).new (rpA 0 noP) 39
  have hst := h.below (((Below.refl w.heap.size w).alloc (Nat.le_refl _) (.cells (enC en) 35)).alloc (by simp) (.cells (rpA 0 noP) 39))
  simp only [World.size_alloc] at hM
  have hGw : G < w.heap.size := h.box.1
  have hbw : b < w.heap.size := by have := h.low; have := h.top; omega
  have HLOW : Hid (∀ r ∈ rs, ∀ k, r.sl.ownBlock = some k → k < w.heap.size) := Lib.hid (fun r hr k e => ((h.own.1 r hr).lt k e).2)
  have HVL : Hid (∀ k, v.ownBlock = some k → k < w.heap.size) := Lib.hid (fun k e => (World.ownsRow.lt h.las k e).2)
  clear h
  go_enter Tryz.func24, Tryz.ntmps24
  go_wp2_with fail
  have hcall := implEntryOk en ((w.alloc (.cells (enC en) 35)).alloc (.cells (rpA 0 noP) 39)) (by unfold maxLen; omega) (by unfold maxLen; omega)
  rw [hok] at hcall
  refine hcall.mono ?_
  rintro e x1 ⟨rfl, b1⟩
  have hM1 := hM.below b1
  have hst1 := hst.below b1
  clear hcall hM hst b1 hok
  obtain ⟨p0, p1, p2, p3, p4, p5, p6, p7, p8, p9⟩ := (hM1.get w.heap.size (enC en) (by simp)).ten
  go_wp2_with fail
  have hcall := kindOf_any en x1
  rw [hk] at hcall
  refine hcall.mono ?_
  rintro e x2 ⟨rfl, b2⟩
  have hM2 := hM1.below b2
  have hst2 := hst1.below b2
  clear hcall hM1 hst1 b2 hk p0 p1 p2 p3 p4 p5 p6 p7 p8 p9
  obtain ⟨p0, p1, p2, p3, p4, p5, p6, p7, p8, p9⟩ := (hM2.get w.heap.size (enC en) (by simp)).ten
  have hx2 : (w.heap.size + 1) < x2.heap.size := (hM2.get (w.heap.size + 1) (rpA 0 noP) (by simp)).1
  go_wp2_with fail
  obtain ⟨q, hq⟩ : ∃ q, M.ordI (rs.map Wr.wk, ls) en.order = q := ⟨_, rfl⟩
  have hcall := ordered_any W B b rs G v ls en.order x2 hst2 hll hn hpg
  rw [hq] at hcall
  have HQ := Lib.hid hq
  refine hcall.mono ?_
  rintro e x3 ⟨rfl, ht, rs', v', hmap, hst3, hfr⟩
  have HS : Hid (∀ g, bkS b G v g → g < w.heap.size) := Lib.hid (fun g hg => by
    rcases hg with rfl | rfl | hg
    · exact hbw
    · exact hGw
    · exact HVL.out g hg)
  have HT := Lib.hid (TouchS.join (TouchS.of_below hM2.1) ht)
  have hR : Holds x3 (w.heap.size + 1) (rpA 0 noP) := ht.holds (hM2.get (w.heap.size + 1) (rpA 0 noP) (by simp)) (fun hg => by have := HS.out _ hg; omega)
  have hRl : Loose x3 (w.heap.size + 1) := ht.loose (hM2.loose (w.heap.size + 1) (by simp)) hx2 (fun hg => by have := HS.out _ hg; omega)
  have HRS : Hid (∀ r ∈ rs', r.sl.ownBlock ≠ some (w.heap.size + 1)) := Lib.hid (fun r hr e => by
    rcases hfr _ (.inr ⟨r, hr, e⟩) with h | h | ⟨y, hy, h⟩
    · omega
    · have := HVL.out _ h; omega
    · have := HLOW.out y hy _ h; omega)
  have HVS : Hid (v'.ownBlock ≠ some (w.heap.size + 1)) := Lib.hid (fun e => by
    rcases hfr _ (.inl e) with h | h | ⟨y, hy, h⟩
    · omega
    · have := HVL.out _ h; omega
    · have := HLOW.out y hy _ h; omega)
  have HFR : Hid (FromB w v rs v' rs') := Lib.hid (fun k hk => (hfr k hk).imp (fun h => by omega) id)
  have HMP := Lib.hid hmap
  have HST := Lib.hid hst3
  have HR := Lib.hid (show _ ∧ _ from ⟨hR, hRl⟩)
  obtain ⟨r0, r1⟩ := hR.two
  have z0 := hRl 0
  have z1 := hRl 1
  have zr := hR.1
  clear hcall hq ht hfr hmap hst3 hR hRl hM2 hst2 p0 p1 p2 p3 p4 p5 p6 p7 p8 p9
  go_wp2
  obtain ⟨e1, e2⟩ := ord_end HT.out (Nat.le_succ _) HST.out hbw hGw HRS.out HVS.out (.int .i64 q.2.1) (.string q.2.2)
  refine bodyPost_ret (results_obey q.2.1 q.2.2 (w.heap.size + 1) _ _ rfl ?_) rfl ⟨by rw [HE.out, HQ.out], e1, rs', v', by rw [HE.out, HQ.out]; exact HMP.out, by rw [HE.out, HQ.out]; exact e2, HFR.out⟩
  simpa using ((HR.out.1.putM 0 (.int .i64 q.2.1)).putM 1 (.string q.2.2))
theorem obeyed_any (W B b : Nat) (rs : List Wr) (G : Nat) (v : Value) (ls : List M.La) (en : M.En) (w : World) (h : BkSt w W B b rs G v ls) (hll : ls.length ≤ 1048575) (hn : en.order.deed.name.size ≤ 1048576) (hpg : en.order.deed.page.size ≤ 1048576) :
    Calls Tryz.prog 24 #[.pointer (some ⟨G, 0, none⟩), enV en] w (OrdOut w W B b G v rs (M.obeyI (rs.map Wr.wk, ls) en)) := by
  rcases hok : M.entryOk en with _ | _
  · exact obeyed_bad W B b rs G v ls en w h hll hn hpg hok
  · rcases hz : M.orEq en.order M.or0 with _ | _
    · exact obeyed_ord W B b rs G v ls en w h hll hn hpg hok hz
    · exact obeyed_idle W B b rs G v ls en w h hll hn hpg hok hz
theorem results_iOb (a b : Value) (c : Int) (p : ByteArray) (R T : Nat) (W : World) (tmps : Array Value) (h4 : tmps.getD 4 undef = .pointer (some ⟨R, 0, none⟩)) (h5 : tmps.getD 5 undef = .pointer (some ⟨T, 0, none⟩)) (hR : Holds W R #[a, b]) (hT : Holds W T (rpA c p)) :
    (results Tryz.f6 tmps).run Tryz.prog W = .ok (.tuple #[.agg #[a, b], rpV c p]) W := by
  obtain ⟨q0, q1⟩ := hR.two
  obtain ⟨r0, r1⟩ := hT.two
  simp at h4 h5
  simp [results, Tryz.results6, go_sem, h4, h5, q0, q1, r0, r1]
set_option maxHeartbeats 4000000 in
theorem implObeyed (A : Option Addr) (l : List Wr) (cap : Nat) (A2 : Option Addr) (m : List M.La) (cb : Nat) (en : M.En) (w : World) (hl : Wks w A l) (hlen : l.length ≤ 1048576) (hp : WrsIn 1048576 l) (hm : Las w A2 m) (hml : m.length ≤ 1048576) (hmp : ∀ c ∈ m, laIn 1048576 c) (hn : en.order.deed.name.size ≤ 1048576) (hpg : en.order.deed.page.size ≤ 1048576) :
    Calls Tryz.prog 6 #[bkV A l.length cap A2 m.length cb, enV en] w (OrRet w (M.obeyed (l.map Wr.wk, m) en)) := by
  have HL := Lib.hid hl
  have HP := Lib.hid hp
  have HM := Lib.hid hm
  have HMP := Lib.hid hmp
  clear hl hp hm hmp
  have hM := ((((Mem.start w).new (bkA A l.length cap A2 m.length cb) 27).new (enC en) 35).new (bkA none 0 0 none 0 0) 27).new (rpA 0 noP) 39
  simp only [World.size_alloc] at hM
  rcases hok : M.bkOk (l.map Wr.wk) m with _ | _
  · have HE : Hid (M.obeyed (l.map Wr.wk, m) en = (([], []), ((7 : Int), M.nilB))) := Lib.hid (by unfold M.obeyed; rw [if_neg (by simp [hok])])
    have HOK := Lib.hid hok
    clear hok
    go_enter Tryz.func6, Tryz.ntmps6
    go_wp2_with fail
    refine (implBookOk A l cap A2 m cb _ (HL.out.below hM.1) (by omega) HP.out (HM.out.below hM.1) (by omega)).mono ?_
    rintro e x1 ⟨rfl, b1⟩
    rw [HOK.out]
    have hM1 := hM.below b1
    clear hM b1
    obtain ⟨q0, q1⟩ := (hM1.get (w.heap.size + 1 + 1) (bkA none 0 0 none 0 0) (by simp)).two
    obtain ⟨r0, r1⟩ := (hM1.get (w.heap.size + 1 + 1 + 1) (rpA 0 noP) (by simp)).two
    have y0 := hM1.loose (w.heap.size + 1 + 1) (by simp) 0
    have y1 := hM1.loose (w.heap.size + 1 + 1) (by simp) 1
    have z0 := hM1.loose (w.heap.size + 1 + 1 + 1) (by simp) 0
    have z1 := hM1.loose (w.heap.size + 1 + 1 + 1) (by simp) 1
    have HM1 := Lib.hid hM1
    clear hM1
    go_wp2
    refine bodyPost_ret (results_iOb (.slice none 0 0) (.slice none 0 0) 7 noP (w.heap.size + 1 + 1) (w.heap.size + 1 + 1 + 1) _ _ rfl rfl ?_ ?_) rfl ⟨.slice none 0 0, .slice none 0 0, [], by rw [HE.out] <;> rfl, ⟨⟨rfl, .inl ⟨rfl, rfl⟩⟩, by simp, by simp, List.Pairwise.nil⟩, by rw [HE.out]; rfl, by rw [HE.out]; exact LasOwn.nil _ _, fun g e => (by cases e), ?_⟩
    · exact ((((HM1.out.get (w.heap.size + 1 + 1) (bkA none 0 0 none 0 0) (by simp)).wr2 _ _).otherM (by omega)).otherM (by omega))
    · exact (((HM1.out.get (w.heap.size + 1 + 1 + 1) (rpA 0 noP) (by simp)).otherM (by omega)).otherM (by omega)).wr2 _ _
    · exact far_2 (far_2 HM1.out.1 (by omega) _ _) (by omega) _ _
  · have HOKL : Hid (M.sfOk (l.map Wr.wk) = true) := Lib.hid (by simp only [M.bkOk, Bool.and_eq_true] at hok; exact hok.1)
    replace hml : m.length ≤ 1048575 := by
      have h := hok
      simp only [M.bkOk, Bool.and_eq_true] at h
      have := M.lasOk_len h.2
      omega
    obtain ⟨q, hq⟩ : ∃ q, M.obeyI (l.map Wr.wk, m) en = q := ⟨_, rfl⟩
    have HQ := Lib.hid hq
    have HE : Hid (M.obeyed (l.map Wr.wk, m) en = q) := Lib.hid (by unfold M.obeyed; rw [if_pos hok]; exact hq)
    have HOK := Lib.hid hok
    clear hok hq
    go_enter Tryz.func6, Tryz.ntmps6
    go_wp2_with fail
    refine (implBookOk A l cap A2 m cb _ (HL.out.below hM.1) (by omega) HP.out (HM.out.below hM.1) (by omega)).mono ?_
    rintro e x1 ⟨rfl, b1⟩
    rw [HOK.out]
    have hM1 := hM.below b1
    clear hM b1
    obtain ⟨p0, p1⟩ := (hM1.get w.heap.size (bkA A l.length cap A2 m.length cb) (by simp)).two
    have hx1 : (w.heap.size + 1 + 1 + 1) < x1.heap.size := (hM1.get (w.heap.size + 1 + 1 + 1) (rpA 0 noP) (by simp)).1
    go_wp2_with fail
    refine (bookOf_any A l cap A2 m cb _ (HL.out.below hM1.1) (sfOk_rise HOKL.out).1 (by omega) HP.out (HM.out.below hM1.1) (by omega) HMP.out).mono ?_
    rintro e x2 ⟨b, rs, v, rfl, hb1, hrs, hmap, hown, hb2, hlas, hblk, b2⟩
    obtain ⟨A3, c3, rfl, -, -⟩ := LasOwn.open hlas
    have hM2 := hM1.below b2
    have hM3 := hM2.alloc (.cells #[.map (some b), .slice A3 m.length c3] 61)
    have bA := (Below.refl x2.heap.size x2).alloc (Nat.le_refl _) (.cells #[.map (some b), .slice A3 m.length c3] 61)
    have hst : BkSt (x2.alloc (.cells #[.map (some b), .slice A3 m.length c3] 61)) x1.heap.size (b + 1) b rs x2.heap.size (.slice A3 m.length c3) m :=
      ⟨(hmap.tight).kept (grown_lw bA none) (by simp), hown.below bA, by rw [hrs]; exact HOKL.out, Nat.lt_succ_self _, by simp; omega, holds_new _ _ _, loose_new _ _ _, LasOwn.below hlas bA, HMP.out, by omega, fun r hr e => by have := ((hown.1 r hr).lt _ e).2; omega, fun e => by have := (hblk _ e).1; omega, fun e => by have := (World.ownsRow.lt hlas _ e).2; omega, fun r hr k e e' => by have := (hblk _ e').2 r hr k e; omega, by omega, by omega⟩
    have HVB : Hid (∀ g, bkS b x2.heap.size (.slice A3 m.length c3) g → x1.heap.size ≤ g) := Lib.hid (fun g hg => by
      rcases hg with rfl | rfl | hg
      · omega
      · omega
      · have := (hblk g hg).1; omega)
    have HRSQ := Lib.hid hrs
    have HST := Lib.hid hst
    clear hM1 hM2 hmap hown hlas hblk b2 bA hst hrs p0 p1
    obtain ⟨p0, p1, p2, p3, p4, p5, p6, p7, p8, p9⟩ := (hM3.get (w.heap.size + 1) (enC en) (by simp)).ten
    go_wp2_with fail
    have hcall := obeyed_any x1.heap.size (b + 1) b rs x2.heap.size (.slice A3 m.length c3) m en _ HST.out hml hn hpg
    rw [HRSQ.out, HQ.out] at hcall
    refine hcall.mono ?_
    rintro e x4 ⟨rfl, ht, rs2, v2, hmp2, hst4, -⟩
    have hM4 := hM3.touch ht (fun g hg => by have := HVB.out g hg; omega) (fun p hp hT => by have := HVB.out _ hT; simp at hp; rcases hp with rfl | rfl | rfl | rfl <;> simp at this <;> omega) (fun g hp hT => by have := HVB.out _ hT; simp at hp; rcases hp with rfl | rfl | rfl | rfl <;> omega)
    clear hcall hM3 p0 p1 p2 p3 p4 p5 p6 p7 p8 p9
    obtain ⟨A4, c4, rfl, -, -⟩ := LasOwn.open hst4.las
    have hV4 := fun g (e : (Value.slice A4 q.1.2.length c4).ownBlock = some g) => show (g ≠ b ∧ g ≠ x2.heap.size ∧ ∀ r ∈ rs2, r.sl.ownBlock ≠ some g) ∧ x1.heap.size ≤ g ∧ g < x4.heap.size from ⟨⟨fun h => hst4.vb (h ▸ e), fun h => hst4.vg (h ▸ e), fun r hr h => hst4.vr r hr g h e⟩, World.ownsRow.lt hst4.las g e⟩
    have h7 := holds_new x4 (rpA q.2.1 q.2.2) 39
    have bA := (Below.refl x4.heap.size x4).alloc (Nat.le_refl _) (.cells (rpA q.2.1 q.2.2) 39)
    have hM5 := hM4.below bA
    have hst5 := hst4.below bA
    have hx4 : x2.heap.size < x4.heap.size := hst4.box.1
    have HMP2 := Lib.hid hmp2
    clear hM4 hst4 hmp2 bA
    have HT := Lib.hid ht
    clear ht
    go_wp2_with fail
    generalize x4.alloc (.cells (rpA q.2.1 q.2.2) 39) = x5 at h7 hM5 hst5 ⊢
    have dr := (Below.refl x5.heap.size x5).drew
    have HSW := Lib.hid (hst5.below dr)
    have HM5 := Lib.hid (hM5.below dr)
    have HH := Lib.hid (show _ ∧ _ from ⟨hst5.box.below dr, h7.below dr⟩)
    have HRS := Lib.hid (show _ ∧ _ ∧ _ ∧ _ from ⟨(hM5.below dr).get (w.heap.size + 1 + 1) (bkA none 0 0 none 0 0) (by simp), (hM5.below dr).get (w.heap.size + 1 + 1 + 1) (rpA 0 noP) (by simp), (hM5.below dr).loose (w.heap.size + 1 + 1) (by simp), (hM5.below dr).loose (w.heap.size + 1 + 1 + 1) (by simp)⟩)
    have hx5 : x4.heap.size < x5.heap.size := h7.1
    clear hM5 hst5 h7 dr
    refine wp_region_seq (fun x => Holds x x2.heap.size #[.map (some b), .slice A4 q.1.2.length c4] ∧ Holds x x4.heap.size (rpA q.2.1 q.2.2)) [(0, true), (2, true), (1, false), (3, false), (4, false)] (by kernel_rfl) (by kernel_rfl) (fun _ _ _ _ _ h => h) (by kernel_rfl) (by decide) ⟨HH.out.1, HH.out.2⟩ ?_
    intro hHeld
    repeat (first
      | (refine seq_skip (by simp only [List.getElem?_toArray, List.getElem?_cons_succ, List.getElem?_cons_zero]; first | done | rfl) (by rfl) ?_; (try simp only [Act.put, List.setIfInBounds_toArray, List.set_cons_zero, List.set_cons_succ]))
      | (refine seq_reads (by simp only [List.getElem?_toArray, List.getElem?_cons_succ, List.getElem?_cons_zero]; first | done | rfl) (by rfl) ?_; apply Exists.intro; apply And.intro; (focus (intro w hSw; (try (obtain ⟨g0, g1⟩ := hSw.1.two)); (try (obtain ⟨r0, r1⟩ := hSw.2.two)); go_simp; (try with_reducible rfl); done)); (try simp only [Act.put, List.setIfInBounds_toArray, List.set_cons_zero, List.set_cons_succ]))
      | (refine seq_pass (by simp only [List.getElem?_toArray, List.getElem?_cons_succ, List.getElem?_cons_zero]; first | done | rfl) (by rfl) hHeld ?_; clear hHeld; intro hHeld; (try simp only [Act.put, List.setIfInBounds_toArray, List.set_cons_zero, List.set_cons_succ]))
      | (refine seq_call (by simp only [List.getElem?_toArray, List.getElem?_cons_succ, List.getElem?_cons_zero]; first | done | rfl) (by rfl) (fun K hK => ?_); go_simp; go_at_call 25; refine (written_any (b + 1) b rs2.length rs2 A4 q.1.2.length c4 _ (HSW.out.map) HSW.out.rise HSW.out.own HSW.out.top (by have := (wrs_ok HSW.out.ok).1; omega) (fun r hr => Nat.le_trans ((wrs_ok HSW.out.ok).2 r hr).1 (by omega))).mono ?_; rintro r w1 ⟨A9, c9, rfl, hs9, hn9, b1⟩; go_simp; refine hK.out _ _ ⟨hHeld.1.below b1, hHeld.2.below b1⟩ ?_; clear hK hHeld; intro hHeld; (have HS9 := Lib.hid hs9); (have HN9 := Lib.hid hn9); (have HB9 := Lib.hid b1); (have HX := Lib.hid (show _ ∧ _ ∧ _ ∧ _ from ⟨HRS.out.1.below b1, HRS.out.2.1.below b1, HRS.out.2.2.1.below HRS.out.1.1 b1, HRS.out.2.2.2.below HRS.out.2.1.1 b1⟩)); clear hs9 hn9 b1; (try simp only [Act.put, List.setIfInBounds_toArray, List.set_cons_zero, List.set_cons_succ]))
      | (refine seq_call (by simp only [List.getElem?_toArray, List.getElem?_cons_succ, List.getElem?_cons_zero]; first | done | rfl) (by rfl) (fun K hK => ?_); (obtain ⟨s0, s1⟩ := HX.out.1.two); (obtain ⟨t0, t1⟩ := HX.out.2.1.two); (have u0 := HX.out.2.2.1 0); (have u1 := HX.out.2.2.1 1); (have v0 := HX.out.2.2.2 0); (have v1 := HX.out.2.2.2 1); (have zs := HX.out.1.1); (have zt := HX.out.2.1.1); go_simp; refine hK.out _ _ ⟨(hHeld.1.otherM (by omega)).otherM (by omega), (hHeld.2.otherM (by omega)).otherM (by omega)⟩ ?_; clear hK hHeld; intro hHeld; clear s0 s1 t0 t1 u0 u1 v0 v1 zs zt; (try simp only [Act.put, List.setIfInBounds_toArray, List.set_cons_zero, List.set_cons_succ])))
    refine seq_end ?_
    go_wp2
    have hlas9 := LasOwn.below HSW.out.las HB9.out
    have hne4 : ∀ g, (Value.slice A4 q.1.2.length c4).ownBlock = some g → (w.heap.size + 1 + 1 + 1) < g := fun g e => by have := (hV4 g e).2.1; omega
    refine bodyPost_ret (results_iOb (.slice A9 rs2.length c9) (.slice A4 q.1.2.length c4) q.2.1 q.2.2 (w.heap.size + 1 + 1) (w.heap.size + 1 + 1 + 1) _ _ rfl rfl ?_ ?_) rfl ⟨.slice A9 rs2.length c9, .slice A4 q.1.2.length c4, rs2, by rw [HE.out], ?_, by rw [HE.out]; exact HMP2.out, ?_, fun g e hg => ?_, ?_⟩
    · exact ((HX.out.1.wr2 _ _).otherM (by omega)).otherM (by omega)
    · exact ((HX.out.2.1.otherM (by omega)).otherM (by omega)).wr2 _ _
    · exact ((((HS9.out.set (by omega) 0 _).set (by omega) 1 _).set (by omega) 0 _).set (by omega) 1 _).mono (by omega)
    · rw [HE.out]
      exact LasOwn.mono (own_off (own_off (own_off (own_off hlas9 (fun e => by have := hne4 _ e; omega) 0 _) (fun e => by have := hne4 _ e; omega) 1 _) (fun e => by have := hne4 _ e; omega) 0 _) (fun e => by have := hne4 _ e; omega) 1 _) (by omega)
    · rcases hg with hg | ⟨r, hr, hg⟩
      · have h1 : x5.heap.size ≤ g := HN9.out g hg
        have := (hV4 g e).2.2
        omega
      · exact (hV4 g e).1.2.2 r hr hg
    · exact far_2 (far_2 (next HM5.out.1 HB9.out) (by omega) _ _) (by omega) _ _
end Go.Proofs.YtkpbfocnokbmiaaGreat
namespace Go.Proofs.YtkpbfocnokbmiaaGreat
open Go.RowKit
set_option maxRecDepth 20000
theorem results_iOa (a b : Value) (R : Nat) (W : World) (tmps : Array Value) (h4 : tmps.getD 4 undef = .pointer (some ⟨R, 0, none⟩)) (hR : Holds W R #[a, b]) :
    (results Tryz.f8 tmps).run Tryz.prog W = .ok (.agg #[a, b]) W := by
  obtain ⟨q0, q1⟩ := hR.two
  simp at h4
  simp [results, Tryz.results8, go_sem, h4, q0, q1]
set_option maxHeartbeats 8000000 in
theorem implObeyedAll (A : Option Addr) (l : List Wr) (cap : Nat) (A2 : Option Addr) (m : List M.La) (cb : Nat) (AO : Option Addr) (es : List M.En) (co : Nat) (w : World) (hl : Wks w A l) (hlen : l.length ≤ 1048576) (hp : WrsIn 1048576 l) (hm : Las w A2 m) (hml : m.length ≤ 1048576) (hmp : ∀ c ∈ m, laIn 1048576 c) (ho : Ens w AO es) (hol : es.length ≤ 1048576) (hop : ∀ e ∈ es, enIn 1048576 e) :
    Calls Tryz.prog 8 #[bkV A l.length cap A2 m.length cb, .slice AO es.length co] w (BkRet w (M.obeyedAll (l.map Wr.wk, m) es)) := by
  have HL := Lib.hid hl
  have HP := Lib.hid hp
  have HM := Lib.hid hm
  have HMP := Lib.hid hmp
  have HO := Lib.hid ho
  have HOP := Lib.hid hop
  clear hl hp hm hmp ho hop
  have hM := ((Mem.start w).new (bkA A l.length cap A2 m.length cb) 27).new (bkA none 0 0 none 0 0) 27
  simp only [World.size_alloc] at hM
  rcases hok : M.bkOk (l.map Wr.wk) m with _ | _
  · have HE : Hid (M.obeyedAll (l.map Wr.wk, m) es = ([], [])) := Lib.hid (by unfold M.obeyedAll; simp [hok])
    have HOK := Lib.hid hok
    clear hok
    go_enter Tryz.func8, Tryz.ntmps8
    go_wp2_with fail
    refine (implBookOk A l cap A2 m cb _ (HL.out.below hM.1) hlen HP.out (HM.out.below hM.1) hml).mono ?_
    rintro e x1 ⟨rfl, b1⟩
    rw [HOK.out]
    have hM1 := hM.below b1
    clear hM b1
    have HM1 := Lib.hid hM1
    clear hM1
    obtain ⟨q0, q1⟩ := (HM1.out.get (w.heap.size + 1) (bkA none 0 0 none 0 0) (by simp)).two
    have y0 := HM1.out.loose (w.heap.size + 1) (by simp) 0
    have y1 := HM1.out.loose (w.heap.size + 1) (by simp) 1
    go_wp2
    refine bodyPost_ret (results_iOa (.slice none 0 0) (.slice none 0 0) (w.heap.size + 1) _ _ rfl ((HM1.out.get (w.heap.size + 1) (bkA none 0 0 none 0 0) (by simp)).wr2 _ _)) rfl ⟨.slice none 0 0, .slice none 0 0, [], rfl, ⟨⟨rfl, .inl ⟨rfl, rfl⟩⟩, by simp, by simp, List.Pairwise.nil⟩, by rw [HE.out]; rfl, by rw [HE.out]; exact LasOwn.nil _ _, fun g e => (by cases e), far_2 HM1.out.1 (by omega) _ _⟩
  rcases Nat.lt_or_ge 400 es.length with h4 | h4
  · have HE : Hid (M.obeyedAll (l.map Wr.wk, m) es = ([], [])) := Lib.hid (by unfold M.obeyedAll; rw [if_neg (by simp; omega)])
    have HOK := Lib.hid hok
    clear hok
    go_enter Tryz.func8, Tryz.ntmps8
    go_wp2_with fail
    refine (implBookOk A l cap A2 m cb _ (HL.out.below hM.1) hlen HP.out (HM.out.below hM.1) hml).mono ?_
    rintro e x1 ⟨rfl, b1⟩
    rw [HOK.out]
    have hM1 := hM.below b1
    clear hM b1
    have HM1 := Lib.hid hM1
    clear hM1
    obtain ⟨q0, q1⟩ := (HM1.out.get (w.heap.size + 1) (bkA none 0 0 none 0 0) (by simp)).two
    have y0 := HM1.out.loose (w.heap.size + 1) (by simp) 0
    have y1 := HM1.out.loose (w.heap.size + 1) (by simp) 1
    go_wp2
    refine bodyPost_ret (results_iOa (.slice none 0 0) (.slice none 0 0) (w.heap.size + 1) _ _ rfl ((HM1.out.get (w.heap.size + 1) (bkA none 0 0 none 0 0) (by simp)).wr2 _ _)) rfl ⟨.slice none 0 0, .slice none 0 0, [], rfl, ⟨⟨rfl, .inl ⟨rfl, rfl⟩⟩, by simp, by simp, List.Pairwise.nil⟩, by rw [HE.out]; rfl, by rw [HE.out]; exact LasOwn.nil _ _, fun g e => (by cases e), far_2 HM1.out.1 (by omega) _ _⟩
  have HE : Hid (M.obeyedAll (l.map Wr.wk, m) es = M.obeyTo (l.map Wr.wk, m) es) := Lib.hid (by unfold M.obeyedAll; simp [hok, h4])
  have HKEEP := Lib.hid (fun j => M.obeyTo_ok (b := (l.map Wr.wk, m)) hok (es.take j))
  have HOKL : Hid (M.sfOk (l.map Wr.wk) = true) := Lib.hid (by simp only [M.bkOk, Bool.and_eq_true] at hok; exact hok.1)
  have HOK := Lib.hid hok
  clear hok
  go_enter Tryz.func8, Tryz.ntmps8
  go_wp2_with fail
  refine (implBookOk A l cap A2 m cb _ (HL.out.below hM.1) hlen HP.out (HM.out.below hM.1) hml).mono ?_
  rintro e x1 ⟨rfl, b1⟩
  rw [HOK.out]
  have hM1 := hM.below b1
  clear hM b1
  obtain ⟨p0, p1⟩ := (hM1.get w.heap.size (bkA A l.length cap A2 m.length cb) (by simp)).two
  have hx1 : (w.heap.size + 1) < x1.heap.size := (hM1.get (w.heap.size + 1) (bkA none 0 0 none 0 0) (by simp)).1
  go_wp2_with fail
  refine (bookOf_any A l cap A2 m cb _ (HL.out.below hM1.1) (sfOk_rise HOKL.out).1 hlen HP.out (HM.out.below hM1.1) hml HMP.out).mono ?_
  rintro e x2 ⟨b, rs, v, rfl, hb1, hrs, hmap, hown, hb2, hlas, hblk, b2⟩
  obtain ⟨A3, c3, rfl, -, -⟩ := LasOwn.open hlas
  have hM2 := hM1.below b2
  have hM3 := hM2.alloc (.cells #[.map (some b), .slice A3 m.length c3] 61)
  have bA := (Below.refl x2.heap.size x2).alloc (Nat.le_refl _) (.cells #[.map (some b), .slice A3 m.length c3] 61)
  have hst : BkSt (x2.alloc (.cells #[.map (some b), .slice A3 m.length c3] 61)) x1.heap.size (b + 1) b rs x2.heap.size (.slice A3 m.length c3) m :=
    ⟨(hmap.tight).kept (grown_lw bA none) (by simp), hown.below bA, by rw [hrs]; exact HOKL.out, Nat.lt_succ_self _, by simp; omega, holds_new _ _ _, loose_new _ _ _, LasOwn.below hlas bA, HMP.out, by omega, fun r hr e => by have := ((hown.1 r hr).lt _ e).2; omega, fun e => by have := (hblk _ e).1; omega, fun e => by have := (World.ownsRow.lt hlas _ e).2; omega, fun r hr k e e' => by have := (hblk _ e').2 r hr k e; omega, by omega, by omega⟩
  have HST0 : Hid (EnSt w x1.heap.size (w.heap.size + 1) (l.map Wr.wk, m) es x2.heap.size b 0 (x2.alloc (.cells #[.map (some b), .slice A3 m.length c3] 61))) := Lib.hid ⟨⟨rs, _, hrs, hst⟩, hM3.1, hM3.get (w.heap.size + 1) (bkA none 0 0 none 0 0) (by simp), hM3.loose (w.heap.size + 1) (by simp)⟩
  have HWB : Hid (x1.heap.size ≤ b) := Lib.hid hb1
  have HWG : Hid (x1.heap.size ≤ x2.heap.size) := Lib.hid b2.size
  clear hM1 hM2 hM3 hmap hown hlas hblk b2 bA hst hrs p0 p1 hb1 hb2
  go_wp2_with fail
  go_loopw [21] (fun s21 wr => ∃ j : Nat, s21 = .int .i64 j ∧ j ≤ es.length ∧ EnSt w x1.heap.size (w.heap.size + 1) (l.map Wr.wk, m) es x2.heap.size b j wr) (fun i _ => es.length - (intOf i).toNat)
  case atStart => exact ⟨0, rfl, Nat.zero_le _, HST0.out⟩
  case round =>
    obtain ⟨j, rfl, hj, hst⟩ := hrel
    have HS := Lib.hid hst
    clear hst HST0
    by_cases hlt : j < es.length
    · obtain ⟨ob, oo, rfl, zo, c0, c1, c2, c3, c4, c5, c6, c7, c8, c9⟩ := Ens_at (HO.out.below HS.out.below) hlt
      obtain ⟨⟨hn1, hp1⟩, -⟩ : enIn 1048576 es[j] ∧ True := ⟨HOP.out es[j] (List.getElem_mem hlt), trivial⟩
      have HSUC := Lib.hid (M.obeyTo_succ (l.map Wr.wk, m) es j hlt)
      obtain ⟨rs2, v2, hmp, hbk⟩ := HS.out.book
      have ba := (Below.refl wr.heap.size wr).alloc (Nat.le_refl _) (.cells (enC es[j]) 35)
      have HBK := Lib.hid (hbk.below ba)
      have HMP2 := Lib.hid hmp
      have HBA := Lib.hid ba
      have hls : (M.obeyTo (l.map Wr.wk, m) (es.take j)).2.length ≤ 1048575 := by
        have h := HKEEP.out j
        simp only [M.bkOk, Bool.and_eq_true] at h
        have := M.lasOk_len h.2
        omega
      clear hmp hbk ba
      go_wp2_with fail
      have hcall := obeyed_any x1.heap.size (b + 1) b rs2 x2.heap.size v2 (M.obeyTo (l.map Wr.wk, m) (es.take j)).2 es[j] _ HBK.out hls hn1 hp1
      rw [HMP2.out] at hcall
      refine hcall.mono ?_
      rintro e y1 ⟨rfl, ht, rs3, v3, hmp3, hst3, hfr⟩
      have HT := Lib.hid ht
      have HST3 := Lib.hid hst3
      have HMP3 := Lib.hid hmp3
      have HSB : Hid (∀ g, bkS b x2.heap.size v2 g → x1.heap.size ≤ g) := Lib.hid (fun g hg => by
        rcases hg with rfl | rfl | hg
        · exact HWB.out
        · exact HWG.out
        · exact (World.ownsRow.lt HBK.out.las g hg).1)
      have HB1 : Hid (Below w.heap.size w y1) := Lib.hid ((HS.out.below.trans (HBA.out.mono HS.out.below.size)).trans (HT.out.low w.heap.size (Nat.le_trans HS.out.below.size HBA.out.size) (fun g hg => by have := HSB.out g hg; omega)))
      have hb1 : Holds y1 (w.heap.size + 1) (bkA none 0 0 none 0 0) := HT.out.holds (HS.out.box.below HBA.out) (fun hg => by have := HSB.out _ hg; omega)
      have hl1 : Loose y1 (w.heap.size + 1) := HT.out.loose (HS.out.loose.below HS.out.box.1 HBA.out) (HS.out.box.below HBA.out).1 (fun hg => by have := HSB.out _ hg; omega)
      have HBX := Lib.hid (show _ ∧ _ from ⟨hb1, hl1⟩)
      clear hcall ht hst3 hfr hmp3 c0 c1 c2 c3 c4 c5 c6 c7 c8 c9 hb1 hl1
      go_wp2
      go_roundw
      case rel => exact ⟨j + 1, by go_num, by omega, ⟨⟨rs3, v3, by rw [HSUC.out]; exact HMP3.out, by rw [HSUC.out]; exact HST3.out⟩, HB1.out, HBX.out.1, HBX.out.2⟩⟩
      case measure => simp [intOf]; omega
    · have hj' : j = es.length := by omega
      subst hj'
      obtain ⟨rs2, v2, hmp, hbk⟩ := HS.out.book
      rw [List.take_length] at hmp hbk
      obtain ⟨A4, c4, rfl, -, -⟩ := LasOwn.open hbk.las
      have HBK := Lib.hid hbk
      have HMP2 := Lib.hid hmp
      obtain ⟨g0, g1⟩ := hbk.box.two
      have zg := hbk.box.1
      clear hmp hbk
      go_wp2_with fail
      refine (written_any (b + 1) b rs2.length rs2 A4 _ c4 _ HBK.out.map HBK.out.rise HBK.out.own HBK.out.top (by have := (wrs_ok HBK.out.ok).1; omega) (fun r hr => Nat.le_trans ((wrs_ok HBK.out.ok).2 r hr).1 (by omega))).mono ?_
      rintro e y1 ⟨A9, c9, rfl, hs9, hn9, b1⟩
      have hbx := HS.out.box.below b1
      have hlx := HS.out.loose.below HS.out.box.1 b1
      obtain ⟨q0, q1⟩ := hbx.two
      have y0 := hlx 0
      have y1' := hlx 1
      have zq := hbx.1
      have HBX := Lib.hid hbx
      have HS9 := Lib.hid hs9
      have HN9 := Lib.hid hn9
      have HB1 := Lib.hid b1
      clear hbx hlx hs9 hn9 b1 g0 g1 zg
      go_wp2
      have hWB := HWB.out
      have hgv := fun g (e : (Value.slice A4 (M.obeyTo (l.map Wr.wk, m) es).2.length c4).ownBlock = some g) => World.ownsRow.lt HBK.out.las g e
      refine bodyPost_ret (results_iOa (.slice A9 rs2.length c9) (.slice A4 (M.obeyTo (l.map Wr.wk, m) es).2.length c4) (w.heap.size + 1) _ _ rfl (HBX.out.wr2 _ _)) rfl ⟨.slice A9 rs2.length c9, .slice A4 (M.obeyTo (l.map Wr.wk, m) es).2.length c4, rs2, rfl, ((HS9.out.set (by omega) 0 _).set (by omega) 1 _).mono (by omega), by rw [HE.out]; exact HMP2.out, ?_, fun g e hg => ?_, far_2 (next HS.out.below HB1.out) (by omega) _ _⟩
      · rw [HE.out]
        exact LasOwn.mono (own_off (own_off (LasOwn.below HBK.out.las HB1.out) (fun e => by have := (hgv _ e).1; omega) 0 _) (fun e => by have := (hgv _ e).1; omega) 1 _) (by omega)
      · rcases hg with hg | ⟨r, hr, hg⟩
        · have h1 := HN9.out g hg
          have := (hgv g e).2
          omega
        · exact HBK.out.vr r hr g hg e
end Go.Proofs.YtkpbfocnokbmiaaGreat
