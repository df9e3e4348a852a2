/- Proved, in parts: Proved: plain facts on what an entry does to a book, and many of them; no program is named here; no condition. Proved: the program's obeyed answers a plain Lean function, and leaves the book as it tells; so does its Obeyed, its book in new memory. Condition: texts and lists of at most a million. Proved: the model's l5Find tells where a name stands in a list of works, and its l5Copy answers the same works in new memory; they write nothing that was there. Condition: texts and lists of at most a million. Proved: where a name stands in a list whose names rise; what a put leaves of it, told by places. Condition: none. -/
import Derived.Test.YtblcgbgcccjpcaaGreatPart08
import Derived.Test.YtblcgbgcccjpcaaGreatPart30
import Derived.Test.YtblcgbgcccjpcaaGreatPart10
import Derived.Test.YtblcgbgcccjpcaaGreatPart09
import Derived.Test.YtblcgbgcccjpcaaGreatPart15
import Derived.Test.YtblcgbgcccjpcaaGreatPart22
namespace Go.Proofs.YtblcgbgcccjpcaaGreat
open Go.RowKit
set_option maxRecDepth 20000
namespace M
def obeyI (b : Bk) (e : En) : Bk × Rp := if entryOk e then (if orEq e.order or0 then (b, (0, nilB)) else ordI b e.order) else (b, (7, nilB))
def obeyed (b : Bk) (e : En) : Bk × Rp := if bkOk b.1 b.2 then obeyI b e else (([], []), (7, nilB))
theorem obeyI_ok {b : Bk} {e : En} (hb : bkOk b.1 b.2 = true) : bkOk (obeyI b e).1.1 (obeyI b e).1.2 = true := by
  unfold obeyI
  split
  · split
    · exact hb
    · exact ordI_ok hb
  · exact hb
theorem obeyed_ok {b : Bk} {e : En} (hb : bkOk b.1 b.2 = true) : obeyed b e = obeyI b e := if_pos hb
/-- Many entries, one after the other. -/
def obeyTo (b : Bk) (l : List En) : Bk := l.foldl (fun b e => (obeyI b e).1) b
theorem obeyTo_ok {b : Bk} (hb : bkOk b.1 b.2 = true) (l : List En) : bkOk (obeyTo b l).1 (obeyTo b l).2 = true := by
  induction l generalizing b with
  | nil => exact hb
  | cons e l ih => exact ih (obeyI_ok (e := e) hb)
theorem obeyTo_succ (b : Bk) (l : List En) (j : Nat) (hj : j < l.length) : obeyTo b (l.take (j + 1)) = (obeyI (obeyTo b (l.take j)) l[j]).1 := by
  unfold obeyTo
  rw [List.take_succ_eq_append_getElem hj, List.foldl_append]
  rfl
theorem obeyTo_append (b : Bk) (l k : List En) : obeyTo b (l ++ k) = obeyTo (obeyTo b l) k := List.foldl_append
def obeyedAll (b : Bk) (l : List En) : Bk := if bkOk b.1 b.2 && decide (l.length ≤ 400) then obeyTo b l else ([], [])
theorem obey_ok (b : Bk) (e : En) : sfOk (obeyed b e).1.1 = true ∧ (obeyed b e).1.2.length ≤ 5 := by
  unfold obeyed
  split
  · rename_i h
    have h2 := obeyI_ok (e := e) h
    simp only [bkOk, Bool.and_eq_true] at h2
    have := lasOk_len h2.2
    exact ⟨h2.1, by omega⟩
  · exact ⟨rfl, Nat.zero_le _⟩
theorem obeyAll_ok (b : Bk) (l : List En) : sfOk (obeyedAll b l).1 = true ∧ (obeyedAll b l).2.length ≤ 5 := by
  unfold obeyedAll
  split
  · rename_i h
    have h2 := obeyTo_ok (by simp only [Bool.and_eq_true] at h; exact h.1) l
    simp only [bkOk, Bool.and_eq_true] at h2
    have := lasOk_len h2.2
    exact ⟨h2.1, by omega⟩
  · exact ⟨rfl, Nat.zero_le _⟩
end M
end Go.Proofs.YtblcgbgcccjpcaaGreat
namespace Go.Proofs.YtblcgbgcccjpcaaGreat
open Go.RowKit
set_option maxRecDepth 20000
set_option linter.unusedVariables false
theorem results_obey (c : Int) (p : ByteArray) (R : Nat) (W : World) (tmps : Array Value) (h2 : tmps.getD 4 undef = .pointer (some ⟨R, 0, none⟩)) (hW : Holds W R (rpA c p)) :
    (results Tryz.f89 tmps).run Tryz.prog W = .ok (rpV c p) W := by
  obtain ⟨q0, q1⟩ := hW.two
  simp at h2
  simp [results, Tryz.results89, go_sem, h2, q0, q1]
theorem TouchS.join {S : Nat → Prop} {w w1 w2 : World} (h : TouchS S w w1) (h2 : TouchS S w1 w2) : TouchS S w w2 :=
  ⟨Nat.le_trans h.size h2.size, fun B hB hS => (h.low B hB hS).trans (h2.low B (Nat.le_trans hB h.size) hS), fun k hk hne => (h2.block k (Nat.lt_of_lt_of_le hk h.size) hne).trans (h.block k hk hne)⟩
set_option maxHeartbeats 2000000 in
theorem obeyed_bad (W B b : Nat) (rs : List Wr) (G : Nat) (v : Value) (ls : List M.La) (en : M.En) (w : World) (h : BkSt w W B b rs G v ls) (hll : ls.length ≤ 1048575) (hn : en.order.deed.name.size ≤ 1048576) (hpg : en.order.deed.page.size ≤ 1048576) (hok : M.entryOk en = false) :
    Calls Tryz.prog 89 #[.pointer (some ⟨G, 0, none⟩), enV en] w (OrdOut w W B b G v rs (M.obeyI (rs.map Wr.wk, ls) en)) := by
  have HE : Hid (M.obeyI (rs.map Wr.wk, ls) en = ((rs.map Wr.wk, ls), ((7 : Int), M.nilB))) := Lib.hid (by simp [M.obeyI, hok])
  have hM := ((Mem.start w).new (enC en) 70).new (rpA 0 noP) 33
  have hst := h.below (((Below.refl w.heap.size w).alloc (Nat.le_refl _) (.cells (enC en) 70)).alloc (by simp) (.cells (rpA 0 noP) 33))
  simp only [World.size_alloc] at hM
  have hGw : G < w.heap.size := h.box.1
  have hbw : b < w.heap.size := by have := h.low; have := h.top; omega
  have HLOW : Hid (∀ r ∈ rs, ∀ k, r.sl.ownBlock = some k → k < w.heap.size) := Lib.hid (fun r hr k e => ((h.own.1 r hr).lt k e).2)
  have HVL : Hid (∀ k, v.ownBlock = some k → k < w.heap.size) := Lib.hid (fun k e => (World.ownsRow.lt h.las k e).2)
  clear h
  go_enter Tryz.func89, Tryz.ntmps89
  go_wp2_with fail
  have hcall := implEntryOk en ((w.alloc (.cells (enC en) 70)).alloc (.cells (rpA 0 noP) 33)) (by unfold maxLen; omega) (by unfold maxLen; omega)
  rw [hok] at hcall
  refine hcall.mono ?_
  rintro e x1 ⟨rfl, b1⟩
  have hM1 := hM.below b1
  have hst1 := hst.below b1
  clear hcall hM hst b1 hok
  obtain ⟨r0, r1⟩ := (hM1.get (w.heap.size + 1) (rpA 0 noP) (by simp)).two
  have z0 := hM1.loose (w.heap.size + 1) (by simp) 0
  have z1 := hM1.loose (w.heap.size + 1) (by simp) 1
  have HM := Lib.hid hM1
  have HST := Lib.hid hst1
  clear hM1 hst1
  go_wp2
  obtain ⟨e1, e2⟩ := ord_end (TouchS.of_below (S := bkS b G v) HM.out.1) (Nat.le_succ _) HST.out hbw hGw (fun r hr e => by have := HLOW.out r hr _ e; omega) (fun e => by have := HVL.out _ e; omega) (.int .i64 7) (.string noP)
  refine bodyPost_ret (results_obey 7 noP (w.heap.size + 1) _ _ rfl ?_) rfl ⟨by rw [HE.out]; rfl, e1, rs, v, by rw [HE.out], by rw [HE.out]; exact e2, fun k hk => .inr hk⟩
  simpa using (((HM.out.get (w.heap.size + 1) (rpA 0 noP) (by simp)).putM 0 (.int .i64 7)).putM 1 (.string noP))
set_option maxHeartbeats 2000000 in
theorem obeyed_idle (W B b : Nat) (rs : List Wr) (G : Nat) (v : Value) (ls : List M.La) (en : M.En) (w : World) (h : BkSt w W B b rs G v ls) (hll : ls.length ≤ 1048575) (hn : en.order.deed.name.size ≤ 1048576) (hpg : en.order.deed.page.size ≤ 1048576) (hok : M.entryOk en = true) (hz : M.orEq en.order M.or0 = true) :
    Calls Tryz.prog 89 #[.pointer (some ⟨G, 0, none⟩), enV en] w (OrdOut w W B b G v rs (M.obeyI (rs.map Wr.wk, ls) en)) := by
  have HE : Hid (M.obeyI (rs.map Wr.wk, ls) en = ((rs.map Wr.wk, ls), ((0 : Int), M.nilB))) := Lib.hid (by simp [M.obeyI, hok, hz])
  have hk : kindI en = 0 := by simp [kindI, hz]
  clear hz
  have hM := ((Mem.start w).new (enC en) 70).new (rpA 0 noP) 33
  have hst := h.below (((Below.refl w.heap.size w).alloc (Nat.le_refl _) (.cells (enC en) 70)).alloc (by simp) (.cells (rpA 0 noP) 33))
  simp only [World.size_alloc] at hM
  have hGw : G < w.heap.size := h.box.1
  have hbw : b < w.heap.size := by have := h.low; have := h.top; omega
  have HLOW : Hid (∀ r ∈ rs, ∀ k, r.sl.ownBlock = some k → k < w.heap.size) := Lib.hid (fun r hr k e => ((h.own.1 r hr).lt k e).2)
  have HVL : Hid (∀ k, v.ownBlock = some k → k < w.heap.size) := Lib.hid (fun k e => (World.ownsRow.lt h.las k e).2)
  clear h
  go_enter Tryz.func89, Tryz.ntmps89
  go_wp2_with fail
  have hcall := implEntryOk en ((w.alloc (.cells (enC en) 70)).alloc (.cells (rpA 0 noP) 33)) (by unfold maxLen; omega) (by unfold maxLen; omega)
  rw [hok] at hcall
  refine hcall.mono ?_
  rintro e x1 ⟨rfl, b1⟩
  have hM1 := hM.below b1
  have hst1 := hst.below b1
  clear hcall hM hst b1 hok
  obtain ⟨p0, p1, p2, p3, p4, p5, p6, p7, p8, p9⟩ := (hM1.get w.heap.size (enC en) (by simp)).ten
  go_wp2_with fail
  have hcall := kindOf_any en x1
  rw [hk] at hcall
  refine hcall.mono ?_
  rintro e x2 ⟨rfl, b2⟩
  have hM2 := hM1.below b2
  have hst2 := hst1.below b2
  clear hcall hM1 hst1 b2 hk p0 p1 p2 p3 p4 p5 p6 p7 p8 p9
  obtain ⟨r0, r1⟩ := (hM2.get (w.heap.size + 1) (rpA 0 noP) (by simp)).two
  have z0 := hM2.loose (w.heap.size + 1) (by simp) 0
  have z1 := hM2.loose (w.heap.size + 1) (by simp) 1
  have HM := Lib.hid hM2
  have HST := Lib.hid hst2
  clear hM2 hst2
  go_wp2
  obtain ⟨e1, e2⟩ := ord_end (TouchS.of_below (S := bkS b G v) HM.out.1) (Nat.le_succ _) HST.out hbw hGw (fun r hr e => by have := HLOW.out r hr _ e; omega) (fun e => by have := HVL.out _ e; omega) (.int .i64 0) (.string noP)
  refine bodyPost_ret (results_obey 0 noP (w.heap.size + 1) _ _ rfl ?_) rfl ⟨by rw [HE.out]; rfl, e1, rs, v, by rw [HE.out], by rw [HE.out]; exact e2, fun k hk => .inr hk⟩
  simpa using (((HM.out.get (w.heap.size + 1) (rpA 0 noP) (by simp)).putM 0 (.int .i64 0)).putM 1 (.string noP))
set_option maxHeartbeats 4000000 in
theorem obeyed_ord (W B b : Nat) (rs : List Wr) (G : Nat) (v : Value) (ls : List M.La) (en : M.En) (w : World) (h : BkSt w W B b rs G v ls) (hll : ls.length ≤ 1048575) (hn : en.order.deed.name.size ≤ 1048576) (hpg : en.order.deed.page.size ≤ 1048576) (hok : M.entryOk en = true) (hz : M.orEq en.order M.or0 = false) :
    Calls Tryz.prog 89 #[.pointer (some ⟨G, 0, none⟩), enV en] w (OrdOut w W B b G v rs (M.obeyI (rs.map Wr.wk, ls) en)) := by
  have HE : Hid (M.obeyI (rs.map Wr.wk, ls) en = M.ordI (rs.map Wr.wk, ls) en.order) := Lib.hid (by simp [M.obeyI, hok, hz])
  have hk : kindI en = 1 := by simp [kindI, hz]
  clear hz
  have hM := ((Mem.start w).new (enC en) 70).new (rpA 0 noP) 33
  have hst := h.below (((Below.refl w.heap.size w).alloc (Nat.le_refl _) (.cells (enC en) 70)).alloc (by simp) (.cells (rpA 0 noP) 33))
  simp only [World.size_alloc] at hM
  have hGw : G < w.heap.size := h.box.1
  have hbw : b < w.heap.size := by have := h.low; have := h.top; omega
  have HLOW : Hid (∀ r ∈ rs, ∀ k, r.sl.ownBlock = some k → k < w.heap.size) := Lib.hid (fun r hr k e => ((h.own.1 r hr).lt k e).2)
  have HVL : Hid (∀ k, v.ownBlock = some k → k < w.heap.size) := Lib.hid (fun k e => (World.ownsRow.lt h.las k e).2)
  clear h
  go_enter Tryz.func89, Tryz.ntmps89
  go_wp2_with fail
  have hcall := implEntryOk en ((w.alloc (.cells (enC en) 70)).alloc (.cells (rpA 0 noP) 33)) (by unfold maxLen; omega) (by unfold maxLen; omega)
  rw [hok] at hcall
  refine hcall.mono ?_
  rintro e x1 ⟨rfl, b1⟩
  have hM1 := hM.below b1
  have hst1 := hst.below b1
  clear hcall hM hst b1 hok
  obtain ⟨p0, p1, p2, p3, p4, p5, p6, p7, p8, p9⟩ := (hM1.get w.heap.size (enC en) (by simp)).ten
  go_wp2_with fail
  have hcall := kindOf_any en x1
  rw [hk] at hcall
  refine hcall.mono ?_
  rintro e x2 ⟨rfl, b2⟩
  have hM2 := hM1.below b2
  have hst2 := hst1.below b2
  clear hcall hM1 hst1 b2 hk p0 p1 p2 p3 p4 p5 p6 p7 p8 p9
  obtain ⟨p0, p1, p2, p3, p4, p5, p6, p7, p8, p9⟩ := (hM2.get w.heap.size (enC en) (by simp)).ten
  have hx2 : (w.heap.size + 1) < x2.heap.size := (hM2.get (w.heap.size + 1) (rpA 0 noP) (by simp)).1
  go_wp2_with fail
  obtain ⟨q, hq⟩ : ∃ q, M.ordI (rs.map Wr.wk, ls) en.order = q := ⟨_, rfl⟩
  have hcall := ordered_any W B b rs G v ls en.order x2 hst2 hll hn hpg
  rw [hq] at hcall
  have HQ := Lib.hid hq
  refine hcall.mono ?_
  rintro e x3 ⟨rfl, ht, rs', v', hmap, hst3, hfr⟩
  have HS : Hid (∀ g, bkS b G v g → g < w.heap.size) := Lib.hid (fun g hg => by
    rcases hg with rfl | rfl | hg
    · exact hbw
    · exact hGw
    · exact HVL.out g hg)
  have HT := Lib.hid (TouchS.join (TouchS.of_below hM2.1) ht)
  have hR : Holds x3 (w.heap.size + 1) (rpA 0 noP) := ht.holds (hM2.get (w.heap.size + 1) (rpA 0 noP) (by simp)) (fun hg => by have := HS.out _ hg; omega)
  have hRl : Loose x3 (w.heap.size + 1) := ht.loose (hM2.loose (w.heap.size + 1) (by simp)) hx2 (fun hg => by have := HS.out _ hg; omega)
  have HRS : Hid (∀ r ∈ rs', r.sl.ownBlock ≠ some (w.heap.size + 1)) := Lib.hid (fun r hr e => by
    rcases hfr _ (.inr ⟨r, hr, e⟩) with h | h | ⟨y, hy, h⟩
    · omega
    · have := HVL.out _ h; omega
    · have := HLOW.out y hy _ h; omega)
  have HVS : Hid (v'.ownBlock ≠ some (w.heap.size + 1)) := Lib.hid (fun e => by
    rcases hfr _ (.inl e) with h | h | ⟨y, hy, h⟩
    · omega
    · have := HVL.out _ h; omega
    · have := HLOW.out y hy _ h; omega)
  have HFR : Hid (FromB w v rs v' rs') := Lib.hid (fun k hk => (hfr k hk).imp (fun h => by omega) id)
  have HMP := Lib.hid hmap
  have HST := Lib.hid hst3
  have HR := Lib.hid (show _ ∧ _ from ⟨hR, hRl⟩)
  obtain ⟨r0, r1⟩ := hR.two
  have z0 := hRl 0
  have z1 := hRl 1
  have zr := hR.1
  clear hcall hq ht hfr hmap hst3 hR hRl hM2 hst2 p0 p1 p2 p3 p4 p5 p6 p7 p8 p9
  go_wp2
  obtain ⟨e1, e2⟩ := ord_end HT.out (Nat.le_succ _) HST.out hbw hGw HRS.out HVS.out (.int .i64 q.2.1) (.string q.2.2)
  refine bodyPost_ret (results_obey q.2.1 q.2.2 (w.heap.size + 1) _ _ rfl ?_) rfl ⟨by rw [HE.out, HQ.out], e1, rs', v', by rw [HE.out, HQ.out]; exact HMP.out, by rw [HE.out, HQ.out]; exact e2, HFR.out⟩
  simpa using ((HR.out.1.putM 0 (.int .i64 q.2.1)).putM 1 (.string q.2.2))
theorem obeyed_any (W B b : Nat) (rs : List Wr) (G : Nat) (v : Value) (ls : List M.La) (en : M.En) (w : World) (h : BkSt w W B b rs G v ls) (hll : ls.length ≤ 1048575) (hn : en.order.deed.name.size ≤ 1048576) (hpg : en.order.deed.page.size ≤ 1048576) :
    Calls Tryz.prog 89 #[.pointer (some ⟨G, 0, none⟩), enV en] w (OrdOut w W B b G v rs (M.obeyI (rs.map Wr.wk, ls) en)) := by
  rcases hok : M.entryOk en with _ | _
  · exact obeyed_bad W B b rs G v ls en w h hll hn hpg hok
  · rcases hz : M.orEq en.order M.or0 with _ | _
    · exact obeyed_ord W B b rs G v ls en w h hll hn hpg hok hz
    · exact obeyed_idle W B b rs G v ls en w h hll hn hpg hok hz
theorem results_iOb (a b : Value) (c : Int) (p : ByteArray) (R T : Nat) (W : World) (tmps : Array Value) (h4 : tmps.getD 4 undef = .pointer (some ⟨R, 0, none⟩)) (h5 : tmps.getD 5 undef = .pointer (some ⟨T, 0, none⟩)) (hR : Holds W R #[a, b]) (hT : Holds W T (rpA c p)) :
    (results Tryz.f31 tmps).run Tryz.prog W = .ok (.tuple #[.agg #[a, b], rpV c p]) W := by
  obtain ⟨q0, q1⟩ := hR.two
  obtain ⟨r0, r1⟩ := hT.two
  simp at h4 h5
  simp [results, Tryz.results31, go_sem, h4, h5, q0, q1, r0, r1]
set_option maxHeartbeats 4000000 in
theorem implObeyed (A : Option Addr) (l : List Wr) (cap : Nat) (A2 : Option Addr) (m : List M.La) (cb : Nat) (en : M.En) (w : World) (hl : Wks w A l) (hlen : l.length ≤ 1048576) (hp : WrsIn 1048576 l) (hm : Las w A2 m) (hml : m.length ≤ 1048576) (hmp : ∀ c ∈ m, laIn 1048576 c) (hn : en.order.deed.name.size ≤ 1048576) (hpg : en.order.deed.page.size ≤ 1048576) :
    Calls Tryz.prog 31 #[bkV A l.length cap A2 m.length cb, enV en] w (OrRet w (M.obeyed (l.map Wr.wk, m) en)) := by
  have HL := Lib.hid hl
  have HP := Lib.hid hp
  have HM := Lib.hid hm
  have HMP := Lib.hid hmp
  clear hl hp hm hmp
  have hM := ((((Mem.start w).new (bkA A l.length cap A2 m.length cb) 27).new (enC en) 70).new (bkA none 0 0 none 0 0) 27).new (rpA 0 noP) 33
  simp only [World.size_alloc] at hM
  rcases hok : M.bkOk (l.map Wr.wk) m with _ | _
  · have HE : Hid (M.obeyed (l.map Wr.wk, m) en = (([], []), ((7 : Int), M.nilB))) := Lib.hid (by unfold M.obeyed; rw [if_neg (by simp [hok])])
    have HOK := Lib.hid hok
    clear hok
    go_enter Tryz.func31, Tryz.ntmps31
    go_wp2_with fail
    refine (implBookOk A l cap A2 m cb _ (HL.out.below hM.1) (by omega) HP.out (HM.out.below hM.1) (by omega)).mono ?_
    rintro e x1 ⟨rfl, b1⟩
    rw [HOK.out]
    have hM1 := hM.below b1
    clear hM b1
    obtain ⟨q0, q1⟩ := (hM1.get (w.heap.size + 1 + 1) (bkA none 0 0 none 0 0) (by simp)).two
    obtain ⟨r0, r1⟩ := (hM1.get (w.heap.size + 1 + 1 + 1) (rpA 0 noP) (by simp)).two
    have y0 := hM1.loose (w.heap.size + 1 + 1) (by simp) 0
    have y1 := hM1.loose (w.heap.size + 1 + 1) (by simp) 1
    have z0 := hM1.loose (w.heap.size + 1 + 1 + 1) (by simp) 0
    have z1 := hM1.loose (w.heap.size + 1 + 1 + 1) (by simp) 1
    have HM1 := Lib.hid hM1
    clear hM1
    go_wp2
    refine bodyPost_ret (results_iOb (.slice none 0 0) (.slice none 0 0) 7 noP (w.heap.size + 1 + 1) (w.heap.size + 1 + 1 + 1) _ _ rfl rfl ?_ ?_) rfl ⟨.slice none 0 0, .slice none 0 0, [], by rw [HE.out] <;> rfl, ⟨⟨rfl, .inl ⟨rfl, rfl⟩⟩, by simp, by simp, List.Pairwise.nil⟩, by rw [HE.out]; rfl, by rw [HE.out]; exact LasOwn.nil _ _, fun g e => (by cases e), ?_⟩
    · exact ((((HM1.out.get (w.heap.size + 1 + 1) (bkA none 0 0 none 0 0) (by simp)).wr2 _ _).otherM (by omega)).otherM (by omega))
    · exact (((HM1.out.get (w.heap.size + 1 + 1 + 1) (rpA 0 noP) (by simp)).otherM (by omega)).otherM (by omega)).wr2 _ _
    · exact far_2 (far_2 HM1.out.1 (by omega) _ _) (by omega) _ _
  · have HOKL : Hid (M.sfOk (l.map Wr.wk) = true) := Lib.hid (by simp only [M.bkOk, Bool.and_eq_true] at hok; exact hok.1)
    replace hml : m.length ≤ 1048575 := by
      have h := hok
      simp only [M.bkOk, Bool.and_eq_true] at h
      have := M.lasOk_len h.2
      omega
    obtain ⟨q, hq⟩ : ∃ q, M.obeyI (l.map Wr.wk, m) en = q := ⟨_, rfl⟩
    have HQ := Lib.hid hq
    have HE : Hid (M.obeyed (l.map Wr.wk, m) en = q) := Lib.hid (by unfold M.obeyed; rw [if_pos hok]; exact hq)
    have HOK := Lib.hid hok
    clear hok hq
    go_enter Tryz.func31, Tryz.ntmps31
    go_wp2_with fail
    refine (implBookOk A l cap A2 m cb _ (HL.out.below hM.1) (by omega) HP.out (HM.out.below hM.1) (by omega)).mono ?_
    rintro e x1 ⟨rfl, b1⟩
    rw [HOK.out]
    have hM1 := hM.below b1
    clear hM b1
    obtain ⟨p0, p1⟩ := (hM1.get w.heap.size (bkA A l.length cap A2 m.length cb) (by simp)).two
    have hx1 : (w.heap.size + 1 + 1 + 1) < x1.heap.size := (hM1.get (w.heap.size + 1 + 1 + 1) (rpA 0 noP) (by simp)).1
    go_wp2_with fail
    refine (bookOf_any A l cap A2 m cb _ (HL.out.below hM1.1) (sfOk_rise HOKL.out).1 (by omega) HP.out (HM.out.below hM1.1) (by omega) HMP.out).mono ?_
    rintro e x2 ⟨b, rs, v, rfl, hb1, hrs, hmap, hown, hb2, hlas, hblk, b2⟩
    obtain ⟨A3, c3, rfl, -, -⟩ := LasOwn.open hlas
    have hM2 := hM1.below b2
    have hM3 := hM2.alloc (.cells #[.map (some b), .slice A3 m.length c3] 126)
    have bA := (Below.refl x2.heap.size x2).alloc (Nat.le_refl _) (.cells #[.map (some b), .slice A3 m.length c3] 126)
    have hst : BkSt (x2.alloc (.cells #[.map (some b), .slice A3 m.length c3] 126)) x1.heap.size (b + 1) b rs x2.heap.size (.slice A3 m.length c3) m :=
      ⟨(hmap.tight).kept (grown_lw bA none) (by simp), hown.below bA, by rw [hrs]; exact HOKL.out, Nat.lt_succ_self _, by simp; omega, holds_new _ _ _, loose_new _ _ _, LasOwn.below hlas bA, HMP.out, by omega, fun r hr e => by have := ((hown.1 r hr).lt _ e).2; omega, fun e => by have := (hblk _ e).1; omega, fun e => by have := (World.ownsRow.lt hlas _ e).2; omega, fun r hr k e e' => by have := (hblk _ e').2 r hr k e; omega, by omega, by omega⟩
    have HVB : Hid (∀ g, bkS b x2.heap.size (.slice A3 m.length c3) g → x1.heap.size ≤ g) := Lib.hid (fun g hg => by
      rcases hg with rfl | rfl | hg
      · omega
      · omega
      · have := (hblk g hg).1; omega)
    have HRSQ := Lib.hid hrs
    have HST := Lib.hid hst
    clear hM1 hM2 hmap hown hlas hblk b2 bA hst hrs p0 p1
    obtain ⟨p0, p1, p2, p3, p4, p5, p6, p7, p8, p9⟩ := (hM3.get (w.heap.size + 1) (enC en) (by simp)).ten
    go_wp2_with fail
    have hcall := obeyed_any x1.heap.size (b + 1) b rs x2.heap.size (.slice A3 m.length c3) m en _ HST.out hml hn hpg
    rw [HRSQ.out, HQ.out] at hcall
    refine hcall.mono ?_
    rintro e x4 ⟨rfl, ht, rs2, v2, hmp2, hst4, -⟩
    have hM4 := hM3.touch ht (fun g hg => by have := HVB.out g hg; omega) (fun p hp hT => by have := HVB.out _ hT; simp at hp; rcases hp with rfl | rfl | rfl | rfl <;> simp at this <;> omega) (fun g hp hT => by have := HVB.out _ hT; simp at hp; rcases hp with rfl | rfl | rfl | rfl <;> omega)
    clear hcall hM3 p0 p1 p2 p3 p4 p5 p6 p7 p8 p9
    obtain ⟨A4, c4, rfl, -, -⟩ := LasOwn.open hst4.las
    have hV4 := fun g (e : (Value.slice A4 q.1.2.length c4).ownBlock = some g) => show (g ≠ b ∧ g ≠ x2.heap.size ∧ ∀ r ∈ rs2, r.sl.ownBlock ≠ some g) ∧ x1.heap.size ≤ g ∧ g < x4.heap.size from ⟨⟨fun h => hst4.vb (h ▸ e), fun h => hst4.vg (h ▸ e), fun r hr h => hst4.vr r hr g h e⟩, World.ownsRow.lt hst4.las g e⟩
    have h7 := holds_new x4 (rpA q.2.1 q.2.2) 33
    have bA := (Below.refl x4.heap.size x4).alloc (Nat.le_refl _) (.cells (rpA q.2.1 q.2.2) 33)
    have hM5 := hM4.below bA
    have hst5 := hst4.below bA
    have hx4 : x2.heap.size < x4.heap.size := hst4.box.1
    have HMP2 := Lib.hid hmp2
    clear hM4 hst4 hmp2 bA
    have HT := Lib.hid ht
    clear ht
    go_wp2_with fail
    generalize x4.alloc (.cells (rpA q.2.1 q.2.2) 33) = x5 at h7 hM5 hst5 ⊢
    have dr := (Below.refl x5.heap.size x5).drew
    have HSW := Lib.hid (hst5.below dr)
    have HM5 := Lib.hid (hM5.below dr)
    have HH := Lib.hid (show _ ∧ _ from ⟨hst5.box.below dr, h7.below dr⟩)
    have HRS := Lib.hid (show _ ∧ _ ∧ _ ∧ _ from ⟨(hM5.below dr).get (w.heap.size + 1 + 1) (bkA none 0 0 none 0 0) (by simp), (hM5.below dr).get (w.heap.size + 1 + 1 + 1) (rpA 0 noP) (by simp), (hM5.below dr).loose (w.heap.size + 1 + 1) (by simp), (hM5.below dr).loose (w.heap.size + 1 + 1 + 1) (by simp)⟩)
    have hx5 : x4.heap.size < x5.heap.size := h7.1
    clear hM5 hst5 h7 dr
    refine wp_region_seq (fun x => Holds x x2.heap.size #[.map (some b), .slice A4 q.1.2.length c4] ∧ Holds x x4.heap.size (rpA q.2.1 q.2.2)) [(0, true), (2, true), (1, false), (3, false), (4, false)] (by kernel_rfl) (by kernel_rfl) (fun _ _ _ _ _ h => h) (by kernel_rfl) (by decide) ⟨HH.out.1, HH.out.2⟩ ?_
    intro hHeld
    repeat (first
      | (refine seq_skip (by simp only [List.getElem?_toArray, List.getElem?_cons_succ, List.getElem?_cons_zero]; first | done | rfl) (by rfl) ?_; (try simp only [Act.put, List.setIfInBounds_toArray, List.set_cons_zero, List.set_cons_succ]))
      | (refine seq_reads (by simp only [List.getElem?_toArray, List.getElem?_cons_succ, List.getElem?_cons_zero]; first | done | rfl) (by rfl) ?_; apply Exists.intro; apply And.intro; (focus (intro w hSw; (try (obtain ⟨g0, g1⟩ := hSw.1.two)); (try (obtain ⟨r0, r1⟩ := hSw.2.two)); go_simp; (try with_reducible rfl); done)); (try simp only [Act.put, List.setIfInBounds_toArray, List.set_cons_zero, List.set_cons_succ]))
      | (refine seq_pass (by simp only [List.getElem?_toArray, List.getElem?_cons_succ, List.getElem?_cons_zero]; first | done | rfl) (by rfl) hHeld ?_; clear hHeld; intro hHeld; (try simp only [Act.put, List.setIfInBounds_toArray, List.set_cons_zero, List.set_cons_succ]))
      | (refine seq_call (by simp only [List.getElem?_toArray, List.getElem?_cons_succ, List.getElem?_cons_zero]; first | done | rfl) (by rfl) (fun K hK => ?_); go_simp; go_at_call 71; refine (written_any (b + 1) b rs2.length rs2 A4 q.1.2.length c4 _ (HSW.out.map) HSW.out.rise HSW.out.own HSW.out.top (by have := (wrs_ok HSW.out.ok).1; omega) (fun r hr => Nat.le_trans ((wrs_ok HSW.out.ok).2 r hr).1 (by omega))).mono ?_; rintro r w1 ⟨A9, c9, rfl, hs9, hn9, b1⟩; go_simp; refine hK.out _ _ ⟨hHeld.1.below b1, hHeld.2.below b1⟩ ?_; clear hK hHeld; intro hHeld; (have HS9 := Lib.hid hs9); (have HN9 := Lib.hid hn9); (have HB9 := Lib.hid b1); (have HX := Lib.hid (show _ ∧ _ ∧ _ ∧ _ from ⟨HRS.out.1.below b1, HRS.out.2.1.below b1, HRS.out.2.2.1.below HRS.out.1.1 b1, HRS.out.2.2.2.below HRS.out.2.1.1 b1⟩)); clear hs9 hn9 b1; (try simp only [Act.put, List.setIfInBounds_toArray, List.set_cons_zero, List.set_cons_succ]))
      | (refine seq_call (by simp only [List.getElem?_toArray, List.getElem?_cons_succ, List.getElem?_cons_zero]; first | done | rfl) (by rfl) (fun K hK => ?_); (obtain ⟨s0, s1⟩ := HX.out.1.two); (obtain ⟨t0, t1⟩ := HX.out.2.1.two); (have u0 := HX.out.2.2.1 0); (have u1 := HX.out.2.2.1 1); (have v0 := HX.out.2.2.2 0); (have v1 := HX.out.2.2.2 1); (have zs := HX.out.1.1); (have zt := HX.out.2.1.1); go_simp; refine hK.out _ _ ⟨(hHeld.1.otherM (by omega)).otherM (by omega), (hHeld.2.otherM (by omega)).otherM (by omega)⟩ ?_; clear hK hHeld; intro hHeld; clear s0 s1 t0 t1 u0 u1 v0 v1 zs zt; (try simp only [Act.put, List.setIfInBounds_toArray, List.set_cons_zero, List.set_cons_succ])))
    refine seq_end ?_
    go_wp2
    have hlas9 := LasOwn.below HSW.out.las HB9.out
    have hne4 : ∀ g, (Value.slice A4 q.1.2.length c4).ownBlock = some g → (w.heap.size + 1 + 1 + 1) < g := fun g e => by have := (hV4 g e).2.1; omega
    refine bodyPost_ret (results_iOb (.slice A9 rs2.length c9) (.slice A4 q.1.2.length c4) q.2.1 q.2.2 (w.heap.size + 1 + 1) (w.heap.size + 1 + 1 + 1) _ _ rfl rfl ?_ ?_) rfl ⟨.slice A9 rs2.length c9, .slice A4 q.1.2.length c4, rs2, by rw [HE.out], ?_, by rw [HE.out]; exact HMP2.out, ?_, fun g e hg => ?_, ?_⟩
    · exact ((HX.out.1.wr2 _ _).otherM (by omega)).otherM (by omega)
    · exact ((HX.out.2.1.otherM (by omega)).otherM (by omega)).wr2 _ _
    · exact ((((HS9.out.set (by omega) 0 _).set (by omega) 1 _).set (by omega) 0 _).set (by omega) 1 _).mono (by omega)
    · rw [HE.out]
      exact LasOwn.mono (own_off (own_off (own_off (own_off hlas9 (fun e => by have := hne4 _ e; omega) 0 _) (fun e => by have := hne4 _ e; omega) 1 _) (fun e => by have := hne4 _ e; omega) 0 _) (fun e => by have := hne4 _ e; omega) 1 _) (by omega)
    · rcases hg with hg | ⟨r, hr, hg⟩
      · have h1 : x5.heap.size ≤ g := HN9.out g hg
        have := (hV4 g e).2.2
        omega
      · exact (hV4 g e).1.2.2 r hr hg
    · exact far_2 (far_2 (next HM5.out.1 HB9.out) (by omega) _ _) (by omega) _ _
end Go.Proofs.YtblcgbgcccjpcaaGreat
namespace Go.Proofs.YtblcgbgcccjpcaaGreat
open Go.RowKit
set_option maxRecDepth 20000
namespace M
def isName (n : ByteArray) (w : Wk) : Bool := w.name.toList == n.toList
def sfFind (l : List Wk) (n : ByteArray) : Nat := l.findIdx (isName n)
def sfFindInt (l : List Wk) (n : ByteArray) : Int := if sfFind l n < l.length then (sfFind l n : Int) else -1
theorem sfFindInt_pos {l : List Wk} {n : ByteArray} (h : sfFind l n < l.length) : sfFindInt l n = sfFind l n := if_pos h
theorem sfFindInt_neg {l : List Wk} {n : ByteArray} (h : sfFind l n = l.length) : sfFindInt l n = -1 := if_neg (by omega)
end M

set_option maxHeartbeats 1000000 in
theorem l5Find_any (A : Option Addr) (l : List Wr) (cap : Nat) (name : ByteArray) (w : World) (hl : Wks w A l) (hlen : l.length ≤ 1048576) :
    Calls Tryz.prog 65 #[.slice A l.length cap, .string name] w fun r w' => r = .returned (.int .i64 (M.sfFindInt (l.map Wr.wk) name)) ∧ w = w' := by
  have HL := Lib.hid hl
  clear hl
  go_enter Tryz.func65, Tryz.ntmps65
  go_wp2
  go_loop [5] (fun i => ∃ j : Nat, i = .int .i64 j ∧ j ≤ l.length ∧ WNoneTo (fun r => M.isName name r.wk) l j) (fun i => l.length - (intOf i).toNat)
  case atStart => exact ⟨0, rfl, Nat.zero_le _, WNoneTo.zero _ l⟩
  case round =>
    obtain ⟨j, rfl, hj, hnone⟩ := hrel
    have HN := Lib.hid hnone
    clear hnone
    by_cases hlt : j < l.length
    · obtain ⟨b, o, hA, lb, c0, c1, c2, -⟩ := Wks_at HL.out hlt
      subst hA
      rcases hq : (l[j].name.toList == name.toList) with _ | _
      · have HQ : Hid ((fun r : Wr => M.isName name r.wk) l[j] = false) := Lib.hid hq
        go_wp2
        go_round
        case rel => exact ⟨j + 1, by go_num, by omega, HN.out.next hlt HQ.out⟩
        case measure => simp [intOf]; omega
      · have HE : Hid (M.sfFindInt (l.map Wr.wk) name = j) := Lib.hid (by
          have h1 : l.findIdx (fun r => M.isName name r.wk) = j := HN.out.hit hlt hq
          have h2 : M.sfFind (l.map Wr.wk) name = j := by unfold M.sfFind; rw [List.findIdx_map]; exact h1
          rw [M.sfFindInt_pos (by rw [h2]; simpa using hlt), h2])
        go_wp2
        go_ret
        exact ⟨ret_int HE.out.symm, rfl⟩
    · have hj' : j = l.length := by omega
      have HE : Hid (M.sfFindInt (l.map Wr.wk) name = -1) := Lib.hid (by
        have h1 : l.findIdx (fun r => M.isName name r.wk) = l.length := by
          have := HN.out
          rw [hj'] at this
          exact this.all
        have h2 : M.sfFind (l.map Wr.wk) name = (l.map Wr.wk).length := by unfold M.sfFind; rw [List.findIdx_map, List.length_map]; exact h1
        exact M.sfFindInt_neg h2)
      go_wp2
      go_ret
      exact ⟨ret_int HE.out.symm, rfl⟩
end Go.Proofs.YtblcgbgcccjpcaaGreat
namespace Go.Proofs.YtblcgbgcccjpcaaGreat
open Go.RowKit
namespace M
abbrev nmB (w : Wk) : List UInt8 := w.name.data.toList
def RiseN (l : List Wk) : Prop := l.Pairwise fun a b => bytesBefore (nmB a) (nmB b) = true
theorem riseN_of : ∀ {l : List Wk}, risesN l = true → RiseN l
  | [], _ => List.Pairwise.nil
  | [a], _ => List.pairwise_singleton _ _
  | a :: b :: l, h => by
    have h1 : nameLt a.name b.name = true ∧ risesN (b :: l) = true := by
      have h' : (nameLt a.name b.name && risesN (b :: l)) = true := h
      simpa using h'
    have ih := riseN_of (l := b :: l) h1.2
    have hab : bytesBefore (nmB a) (nmB b) = true := (before_name a.name b.name).trans h1.1
    refine List.pairwise_cons.2 ⟨fun x hx => ?_, ih⟩
    rcases List.mem_cons.1 hx with e | hx
    · rw [e]; exact hab
    · exact before_trans hab ((List.pairwise_cons.1 ih).1 x hx)
theorem sfOk_riseN {l : List Wk} (h : sfOk l = true) : RiseN l := by
  unfold sfOk at h
  simp only [Bool.and_eq_true] at h
  exact riseN_of h.2.2
/-- The first name that is behind. -/
def placeN (l : List Wk) (w : Wk) : Nat := l.findIdx fun x => bytesBefore (nmB w) (nmB x)
theorem insN_at (w : Wk) : ∀ l : List Wk, insN w l = l.take (placeN l w) ++ w :: l.drop (placeN l w)
  | [] => rfl
  | x :: l => by
    have ih := insN_at w l
    unfold insN placeN
    rw [List.findIdx_cons]
    by_cases h : bytesBefore (nmB w) (nmB x) = true
    · rw [if_pos h, h]; rfl
    · have h' : bytesBefore (nmB w) (nmB x) = false := by simpa using h
      rw [if_neg h, h', ih]
      rfl
theorem filter_new {l : List Wk} {w : Wk} (h : ∀ x ∈ l, nmB x ≠ nmB w) : (l.filter fun x => !(x.name.data.toList == w.name.data.toList)) = l :=
  List.filter_eq_self.2 fun x hx => by
    have := h x hx
    simpa using this
theorem putN_new {l : List Wk} {w : Wk} (h : ∀ x ∈ l, nmB x ≠ nmB w) : putN l w = l.take (placeN l w) ++ w :: l.drop (placeN l w) := by
  unfold putN
  rw [filter_new h, insN_at]
theorem putN_set : ∀ {l : List Wk} {w : Wk} (_ : RiseN l) {k : Nat} (hk : k < l.length) (_ : nmB l[k] = nmB w), putN l w = l.set k w
  | [], _, _, _, hk, _ => absurd hk (by simp)
  | x :: l, w, hr, 0, _, he => by
    have he' : nmB x = nmB w := he
    obtain ⟨h1, h2⟩ := List.pairwise_cons.1 hr
    have hf : (l.filter fun x => !(x.name.data.toList == w.name.data.toList)) = l := filter_new fun y hy e => by
      have := h1 y hy
      rw [e, ← he'] at this
      exact absurd (before_asymm this).2 (by simp)
    unfold putN
    rw [List.filter_cons, if_neg (by simpa using he'), hf, List.set_cons_zero]
    rcases l with _ | ⟨y, l⟩
    · rfl
    · unfold insN
      have := h1 y (by simp)
      rw [he'] at this
      rw [if_pos this]
  | x :: l, w, hr, k + 1, hk, he => by
    obtain ⟨h1, h2⟩ := List.pairwise_cons.1 hr
    have hk' : k < l.length := by simpa using hk
    have he' : nmB l[k] = nmB w := he
    have hxw : bytesBefore (nmB x) (nmB w) = true := by
      have := h1 l[k] (List.getElem_mem hk')
      rw [he'] at this
      exact this
    have ih := putN_set h2 hk' he'
    have hne : ¬ (nmB x = nmB w) := by
      have := (before_asymm hxw).2
      simpa using this
    unfold putN at ih ⊢
    rw [List.filter_cons, if_pos (by simpa using hne)]
    unfold insN
    rw [if_neg (by rw [(before_asymm hxw).1]; simp), ih, List.set_cons_succ]
theorem getN_find : ∀ (l : List Wk) (n : ByteArray), getN l n = l[l.findIdx fun x => x.name.data.toList == n.data.toList]?
  | [], _ => rfl
  | x :: l, n => by
    have ih := getN_find l n
    unfold getN at ih ⊢
    rw [List.find?_cons, List.findIdx_cons]
    rcases h : (x.name.data.toList == n.data.toList) with _ | _
    · simpa using ih
    · rfl
/-- Where all names are others', the names ahead are those that are not behind. -/
theorem place_count : ∀ {l : List Wk} {w : Wk} (_ : RiseN l) (_ : ∀ x ∈ l, nmB x ≠ nmB w) {k : Nat} (hk : k ≤ l.length) (_ : ∀ i (hi : i < k), bytesBefore (nmB (l[i]'(by omega))) (nmB w) = true) (_ : ∀ h : k < l.length, bytesBefore (nmB l[k]) (nmB w) = false), placeN l w = k
  | [], _, _, _, k, hk, _, _ => by
    have : k = 0 := by simpa using hk
    subst this
    rfl
  | x :: l, w, hr, hne, 0, _, _, h0 => by
    have h := h0 (by simp)
    have hx : bytesBefore (nmB w) (nmB x) = true := by
      rcases Go.WideAt.bytes_total _ _ (hne x (by simp)) with h' | h'
      · exact absurd h' (by rw [show bytesBefore (nmB x) (nmB w) = false from h]; simp)
      · exact h'
    unfold placeN
    rw [List.findIdx_cons, hx]
    rfl
  | x :: l, w, hr, hne, k + 1, hk, hlt, h0 => by
    obtain ⟨h1, h2⟩ := List.pairwise_cons.1 hr
    have hx := hlt 0 (by omega)
    have hx' : bytesBefore (nmB w) (nmB x) = false := (before_asymm hx).1
    have ih := place_count h2 (fun y hy => hne y (List.mem_cons_of_mem _ hy)) (k := k) (by simpa using hk) (fun i hi => by simpa using hlt (i + 1) (by omega)) (fun h => h0 (Nat.succ_lt_succ h))
    unfold placeN at ih ⊢
    rw [List.findIdx_cons, hx', ih]
    rfl
end M
end Go.Proofs.YtblcgbgcccjpcaaGreat
