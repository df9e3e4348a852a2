/- Proved, in parts: Proved: the program's deeds on the map of works (put, veil, give, fetch, claim) answer plain Lean functions; they write the map's block alone. Condition: texts of at most a million bytes. -/
import Derived.Test.YtdcdalbbjfjadaaGreatDoorPart20
namespace Go.Proofs.YtdcdalbbjfjadaaGreatDoor
open Go.RowKit
set_option maxRecDepth 20000

theorem holds_by {x y : World} {g b : Nat} {C : Array Value} (h : Holds x g C) (hg : x.grownBy y (some b)) (hne : g ≠ b) : Holds y g C := by
  have hb : y.heap[g]? = x.heap[g]? := hg.block g h.1 (by intro e; injection e with e; exact hne e)
  exact ⟨Nat.lt_of_lt_of_le h.1 hg.size, fun j v hj => (World.cell?_of_block (a := ⟨g, j, none⟩) hb).trans (h.2 j v hj)⟩
theorem loose_by {x y : World} {g b : Nat} (h : Loose x g) (hx : g < x.heap.size) (hg : x.grownBy y (some b)) (hne : g ≠ b) : Loose y g := fun j => by
  have hb : y.heap[g]? = x.heap[g]? := hg.block g hx (by intro e; injection e with e; exact hne e)
  exact (World.frozen?_of_block (a := ⟨g, j, none⟩) hb).trans (h j)
theorem CpOwn.apart5 {B g : Nat} {w : World} {v : Value} {l : List M.Cp} (h : CpOwn B w v l) (hk : ∀ k, v.ownBlock = some k → g < k) (i : Nat) (u : Value) : CpOwn B (w.setCell ⟨g, i, none⟩ u) v l := by
  obtain ⟨hl, h0 | ⟨k, cap, cur, rfl, hb, hh, hr⟩⟩ := h
  · exact ⟨hl, .inl h0⟩
  · have := hk k rfl
    exact ⟨hl, .inr ⟨k, cap, cur, rfl, hb, (Below.heap_setCell _ _ _ _ (by show k ≠ g; omega)).trans hh, hr⟩⟩
theorem OpOut.bad {w x : World} {B b n c' : Nat} {rs : List Wr} {D : DataW Value} {p : List M.Wk × M.Rp} {c : Int} (hb : Below w.heap.size w x) (hm : x.ownsMap Tryz.prog 9 heldR b n D) (hlt : b < w.heap.size) (hp : p.2 = (c, M.nilB)) (hc : c ≠ 0) (hR : w.heap.size ≤ c') :
    OpOut w B b rs p (.returned (rpV c noP)) ((x.setCell ⟨c', 0, none⟩ (.int .i64 c)).setCell ⟨c', 1, none⟩ (.string noP)) := by
  refine ⟨by rw [hp]; rfl, grown_new (grown_new (grown_lw hb _) hR _ _) hR _ _, ⟨n, D, ShM.set (ShM.set hm (by omega)) (by omega)⟩, fun h => ?_⟩
  rw [hp] at h
  exact absurd h hc
theorem OpOut.badW {w x : World} {B b n c' : Nat} {rs : List Wr} {D : DataW Value} {p : List M.Wk × M.Rp} {c : Int} (hb : w.grownBy x (some b)) (hm : x.ownsMap Tryz.prog 9 heldR b n D) (hlt : b < w.heap.size) (hp : p.2 = (c, M.nilB)) (hc : c ≠ 0) (hR : w.heap.size ≤ c') :
    OpOut w B b rs p (.returned (rpV c noP)) ((x.setCell ⟨c', 0, none⟩ (.int .i64 c)).setCell ⟨c', 1, none⟩ (.string noP)) := by
  refine ⟨by rw [hp]; rfl, grown_new (grown_new hb hR _ _) hR _ _, ⟨n, D, ShM.set (ShM.set hm (by omega)) (by omega)⟩, fun h => ?_⟩
  rw [hp] at h
  exact absurd h hc
theorem OpOut.same {w x : World} {B b n : Nat} {rs : List Wr} {D : DataW Value} {p : List M.Wk × M.Rp} {c : Int} (hb : Below w.heap.size w x) (hm : x.ownsMap Tryz.prog 9 heldR b n D) (hp : p.2 = (c, M.nilB)) (hc : c ≠ 0) :
    OpOut w B b rs p (.returned (rpV c noP)) x := by
  refine ⟨by rw [hp]; rfl, grown_lw hb _, ⟨n, D, hm⟩, fun h => ?_⟩
  rw [hp] at h
  exact absurd h hc
theorem OpOut.good {w y w3 : World} {B b n R : Nat} {rs rs' : List Wr} {p : List M.Wk × M.Rp} {pg : ByteArray} (hg : w.grownBy y (some b)) (hg3 : y.grownBy w3 (some b)) (hm : ShM w3 b n rs') (hr : RiseW rs') (ho : RsOwn B w3 rs') (hlt : b < w.heap.size) (hne : ∀ r ∈ rs', r.sl.ownBlock ≠ some R) (hp : p = (rs'.map Wr.wk, ((0 : Int), pg))) (hR : w.heap.size ≤ R) (hfr : ∀ r ∈ rs', ∀ k, r.sl.ownBlock = some k → w.heap.size ≤ k ∨ ∃ x ∈ rs, x.sl.ownBlock = some k) :
    OpOut w B b rs p (.returned (rpV 0 pg)) ((w3.setCell ⟨R, 0, none⟩ (.int .i64 0)).setCell ⟨R, 1, none⟩ (.string pg)) := by
  subst hp
  refine ⟨rfl, grown_new (grown_new (grown_tr hg hg3) hR _ _) hR _ _, ⟨n, _, ShM.set (ShM.set hm (by omega)) (by omega)⟩, fun _ => ⟨n, rs', ShM.set (ShM.set hm (by omega)) (by omega), hr, (ho.set hne 0 _).set hne 1 _, rfl, hfr⟩⟩
theorem apart_new {a c : Value} {x y : Nat} (ha : ∀ k, a.ownBlock = some k → x < k) (hc : ∀ k, c.ownBlock = some k → k < y) (h : y ≤ x) : Apart a c := by
  unfold Apart
  rcases hc' : a.ownBlock with _ | k
  · exact .inl rfl
  · refine .inr fun e => ?_
    have h1 := ha k hc'
    have h2 := hc k e.symm
    omega
theorem apart_old {R : Wr → Wr → Prop} (hs : ∀ a c, R a c → R c a) : ∀ {l : List Wr}, l.Pairwise R → ∀ {a c : Wr}, a ∈ l → c ∈ l → a ≠ c → R a c
  | [], _, _, _, h, _, _ => by cases h
  | x :: l, h, a, c, ha, hc, hne => by
    obtain ⟨h1, h2⟩ := List.pairwise_cons.1 h
    rcases List.mem_cons.1 ha with e1 | ha1
    · rcases List.mem_cons.1 hc with e2 | hc1
      · exact absurd (e1.trans e2.symm) hne
      · rw [e1]; exact h1 c hc1
    · rcases List.mem_cons.1 hc with e2 | hc1
      · rw [e2]; exact hs _ _ (h1 a ha1)
      · exact apart_old hs h2 ha1 hc1 hne
theorem OpOut.stored {w y w3 : World} {B b n : Nat} {rs : List Wr} {r' : Wr} {p : List M.Wk × M.Rp} (hb : Below w.heap.size w y) (st : St y B b n rs) (hlt : b < w.heap.size) (hop : CpOwn B y r'.sl r'.cps) (hap : ∀ x ∈ rs, nmL x ≠ nmL r' → Apart r'.sl x.sl)
    (hlow : ∀ r ∈ rs, ∀ k, r.sl.ownBlock = some k → k < w.heap.size) (hne : ∀ k, r'.sl.ownBlock = some k → k ≠ w.heap.size + 1) (hm3 : w3.ownsMap Tryz.prog 9 heldR b (n + 1) ((mapD rs).put (.string (nmL r')) (.held (wrV r')))) (hg3 : y.grownBy w3 (some b)) (hp : p = ((putW rs r').map Wr.wk, ((0 : Int), M.nilB))) (hfr : ∀ k, r'.sl.ownBlock = some k → w.heap.size ≤ k ∨ ∃ x ∈ rs, x.sl.ownBlock = some k) :
    OpOut w B b rs p (.returned (rpV 0 noP)) ((w3.setCell ⟨w.heap.size + 1, 0, none⟩ (.int .i64 0)).setCell ⟨w.heap.size + 1, 1, none⟩ (.string noP)) := by
  rw [mapD_put] at hm3
  refine OpOut.good (grown_lw hb _) hg3 hm3 (putW_rise st.rise) ((st.own.put hop hap).by hg3 st.low) hlt (fun x hx e => ?_) hp (Nat.le_succ _) (fun x hx k e => ?_)
  · rcases insW_mem hx with rfl | hx
    · exact hne _ e rfl
    · have := hlow x (List.mem_filter.1 hx).1 _ e
      omega
  · rcases insW_mem hx with rfl | hx
    · exact hfr k e
    · exact .inr ⟨x, (List.mem_filter.1 hx).1, e⟩
theorem putW_new {rs : List Wr} {r : Wr} (h : findW rs (nmL r) = none) : (putW rs r).length = rs.length + 1 := by
  have hf : (rs.filter fun x => !(nmL x == nmL r)) = rs := by
    refine List.filter_eq_self.2 fun x hx => ?_
    unfold findW at h
    have := List.find?_eq_none.1 h x hx
    simpa using this
  unfold putW
  rw [(insW_perm _ _).length_eq, hf]
  rfl

theorem results_put (c : Int) (p : ByteArray) (R : Nat) (W : World) (tmps : Array Value) (h2 : tmps.getD 4 undef = .pointer (some ⟨R, 0, none⟩)) (hW : Holds W R (rpA c p)) :
    (results Tryz.f87 tmps).run Tryz.prog W = .ok (rpV c p) W := by
  obtain ⟨q0, q1⟩ := hW.two
  simp at h2
  simp [results, Tryz.results87, go_sem, h2, q0, q1]

set_option maxHeartbeats 4000000 in
theorem put_any (B b n : Nat) (rs : List Wr) (d : M.Dd) (w : World) (h : St w B b n rs) (hn : d.name.size ≤ 1048576) (hpg : d.page.size ≤ 1048576) :
    Calls Tryz.prog 87 #[.map (some b), puV d] w (OpOut w B b rs (M.doPut (rs.map Wr.wk) d)) := by
  have hm := ((Mem.start w).new #[.string d.name, .int .i64 d.ed.ma, .int .i64 d.ed.mi, .int .i64 d.ed.pa, .string d.page, .int .i64 d.who] 123).new (rpA 0 noP) 32
  have hst := h.below (((Below.refl w.heap.size w).alloc (Nat.le_refl _) (.cells #[.string d.name, .int .i64 d.ed.ma, .int .i64 d.ed.mi, .int .i64 d.ed.pa, .string d.page, .int .i64 d.who] 123)).alloc (by simp) (.cells (rpA 0 noP) 32))
  simp only [World.size_alloc] at hm
  have hlt : b < w.heap.size := by have := h.low; have := h.top; omega
  have hnm : d.name.size ≤ maxLen := by unfold maxLen; omega
  have HLOW : Hid (∀ r ∈ rs, ∀ k, r.sl.ownBlock = some k → k < w.heap.size) := Lib.hid (fun r hr k e => ((h.own.1 r hr).lt k e).2)
  have HH := Lib.hid h
  clear h
  rcases hf : findW rs d.name.data.toList with _ | r
  · have HE : Hid ((M.doPut (rs.map Wr.wk) d).2 = ((1 : Int), M.nilB)) := Lib.hid (by simp [M.doPut, findW_wk, hf])
    have hov : ownedV rs d.name d.who = (zW, 1) := by unfold ownedV; rw [hf]
    have HF := Lib.hid hf
    clear hf
    go_enter Tryz.func87, Tryz.ntmps87
    go_wp2_with fail
    refine (owned_any b n rs d.name d.who _ hst.map hnm).mono ?_
    rintro e x1 ⟨rfl, b1⟩
    rw [hov]
    have hm1 := ((hm.below b1).new (wkL ⟨#[]⟩ 0 none 0 0) 39).new (rpA 1 noP) 32
    have hst1 := ((hst.below b1).alloc (.cells (wkL ⟨#[]⟩ 0 none 0 0) 39)).alloc (.cells (rpA 1 noP) 32)
    simp only [World.size_alloc] at hm1
    have hneq := fun w => rp_neq1 w
    clear hm hst b1
    obtain ⟨r0, r1⟩ := (hm1.get (w.heap.size + 1) (rpA 0 noP) (by simp)).two
    have z0 := hm1.loose (w.heap.size + 1) (by simp) 0
    have z1 := hm1.loose (w.heap.size + 1) (by simp) 1
    have HM := Lib.hid hm1
    have HST := Lib.hid hst1
    clear hm1 hst1
    go_wp2
    refine bodyPost_ret (results_put 1 noP (w.heap.size + 1) _ _ rfl ?_) rfl (OpOut.bad HM.out.1 HST.out.map hlt HE.out (by decide) (Nat.le_succ _))
    simpa using (((HM.out.get (w.heap.size + 1) (rpA 0 noP) (by simp)).putM 0 (.int .i64 1)).putM 1 (.string noP))
  · by_cases ho : r.owner = d.who
    · have hov : ownedV rs d.name d.who = (wrV r, 0) := by unfold ownedV; rw [hf]; simp [ho]
      obtain ⟨hmem, hnr⟩ := findW_mem hf
      obtain ⟨hz1, hz2, hz3⟩ := hst.size r hmem
      have HZ3 := Lib.hid hz3
      have HOW := Lib.hid ho
      have HF := Lib.hid hf
      have HMEM := Lib.hid hmem
      have HNR := Lib.hid hnr
      have HOV := Lib.hid hov
      clear hz3 ho hf hmem hnr hov
      go_enter Tryz.func87, Tryz.ntmps87
      go_wp2_with fail
      refine (owned_any b n rs d.name d.who _ hst.map hnm).mono ?_
      rintro e x1 ⟨rfl, b1⟩
      rw [HOV.out]
      have hm1 := ((hm.below b1).new (wkL r.name r.owner r.ad r.cps.length r.cap) 39).new (rpA 0 noP) 32
      have hst1 := ((hst.below b1).alloc (.cells (wkL r.name r.owner r.ad r.cps.length r.cap) 39)).alloc (.cells (rpA 0 noP) 32)
      simp only [World.size_alloc] at hm1
      have hneq := fun w => rp_neq0 w
      have HMX := Lib.hid (hm.below b1)
      have hs1 := b1.size
      simp only [World.size_alloc] at hs1
      clear hm hst b1
      obtain ⟨CP, hCP⟩ : ∃ CP, M.copyIn ⟨r.name, r.owner, r.cps⟩ d.ed = CP := ⟨_, rfl⟩
      obtain ⟨P, hP⟩ : ∃ P, M.printed ⟨r.name, r.owner, r.cps⟩ d.ed d.page = P := ⟨_, rfl⟩
      obtain ⟨p0, p1, p2⟩ := (hm1.get (x1.heap.size) (wkL r.name r.owner r.ad r.cps.length r.cap) (by simp)).three
      obtain ⟨s0, s1⟩ := (hm1.get (x1.heap.size + 1) (rpA 0 noP) (by simp)).two
      obtain ⟨q0, q1, q2, q3, q4, q5⟩ := (hm1.get w.heap.size #[.string d.name, .int .i64 d.ed.ma, .int .i64 d.ed.mi, .int .i64 d.ed.pa, .string d.page, .int .i64 d.who] (by simp)).six
      go_wp2_with fail
      have hcall := implCopyIn r.name r.owner r.ad r.cps r.cap d.ed _ (hst1.own.1 r HMEM.out).cps.1 (by unfold maxLen; omega) hz2 HZ3.out
      rw [hCP] at hcall
      refine hcall.mono ?_
      rintro e x2 ⟨rfl, b2⟩
      have hm2 := (hm1.below b2).new #[.int .i64 CP.1.ed.ma, .int .i64 CP.1.ed.mi, .int .i64 CP.1.ed.pa, .string CP.1.page, .bool CP.1.hidden] 71
      have hst2 := (hst1.below b2).alloc (.cells #[.int .i64 CP.1.ed.ma, .int .i64 CP.1.ed.mi, .int .i64 CP.1.ed.pa, .string CP.1.page, .bool CP.1.hidden] 71)
      have hs2 := b2.size
      simp only [World.size_alloc] at hs2
      clear hcall hm1 hst1 b2 p0 p1 p2 q0 q1 q2 q3 q4 q5 s0 s1 hneq
      rcases hC2 : CP.2 with _ | _
      · have HE4 : Hid (P.2 = false → (M.doPut (rs.map Wr.wk) d).2 = ((4 : Int), M.nilB)) := Lib.hid (fun h => by
          have ho' : r.wk.owner = d.who := HOW.out
          simp [M.doPut, findW_wk, HF.out, ho', show M.copyIn r.wk d.ed = CP from hCP, show M.printed r.wk d.ed d.page = P from hP, hC2, h])
        have HEP : Hid (P.2 = true → ∀ A' c', M.doPut (rs.map Wr.wk) d = ((putW rs ⟨P.1.name, P.1.owner, A', c', P.1.copies⟩).map Wr.wk, ((0 : Int), M.nilB))) := Lib.hid (fun h A' c' => by
          have ho' : r.wk.owner = d.who := HOW.out
          simp [M.doPut, findW_wk, HF.out, ho', show M.copyIn r.wk d.ed = CP from hCP, show M.printed r.wk d.ed d.page = P from hP, hC2, h, putW_wk]
          rfl)
        have HPN : Hid (P.2 = true → P.1.name = r.name) := Lib.hid (fun h => by rw [← hP] at h ⊢; exact M.printed_name h)
        obtain ⟨p0, p1, p2⟩ := (hm2.get (x1.heap.size) (wkL r.name r.owner r.ad r.cps.length r.cap) (by simp)).three
        obtain ⟨q0, q1, q2, q3, q4, q5⟩ := (hm2.get w.heap.size #[.string d.name, .int .i64 d.ed.ma, .int .i64 d.ed.mi, .int .i64 d.ed.pa, .string d.page, .int .i64 d.who] (by simp)).six
        go_wp2_with fail
        have hcall := implPrinted r.name r.owner r.ad r.cps r.cap d.ed d.page _ (hst2.own.1 r HMEM.out).cps.1 hz1 hz2 HZ3.out hpg
        rw [hP] at hcall
        refine hcall.mono ?_
        rintro e x3 ⟨⟨A', c', rfl, o3⟩, b3⟩
        have hm3 := hm2.below b3
        have hst3 := hst2.below b3
        have htop := hst2.top
        simp only [World.size_alloc] at htop
        have HTOP := Lib.hid htop
        clear htop
        simp only [World.size_alloc] at o3
        clear hcall hm2 hst2 b3 p0 p1 p2 q0 q1 q2 q3 q4 q5
        have hmr := hm3.re (hs' := [(x1.heap.size, (wkL r.name r.owner r.ad r.cps.length r.cap)), (x1.heap.size + 1, rpA 0 noP), (w.heap.size + 1, rpA 0 noP)]) (ls' := [x1.heap.size, w.heap.size + 1]) (by simp) (by simp)
        obtain ⟨p0, p1, p2⟩ := (hmr.get (x1.heap.size) (wkL r.name r.owner r.ad r.cps.length r.cap) (by simp)).three
        have y0 := hmr.loose (x1.heap.size) (by simp) 0
        have y1 := hmr.loose (x1.heap.size) (by simp) 1
        have y2 := hmr.loose (x1.heap.size) (by simp) 2
        have hne5 : ∀ x ∈ rs, x.sl.ownBlock ≠ some (x1.heap.size) := fun x hx e => by have := HLOW.out x hx _ e; omega
        have hmp := hmr.put3 (by omega) (by simp; omega) (.string P.1.name) (.int .i64 P.1.owner) (.slice A' P.1.copies.length c')
        have hsp := ((hst3.set (by omega) hne5 0 (.string P.1.name)).set (by omega) hne5 1 (.int .i64 P.1.owner)).set (by omega) hne5 2 (.slice A' P.1.copies.length c')
        have hblk : ∀ k, (Value.slice A' P.1.copies.length c').ownBlock = some k → x1.heap.size < k := fun k e => by have h1 := (World.ownsRow.lt o3 k e).1; omega
        have hop := ((o3.mono HTOP.out).apart5 hblk 0 (.string P.1.name)).apart5 hblk 1 (.int .i64 P.1.owner) |>.apart5 hblk 2 (.slice A' P.1.copies.length c')
        rcases hP2 : P.2 with _ | _
        · have HE : Hid ((M.doPut (rs.map Wr.wk) d).2 = ((4 : Int), M.nilB)) := Lib.hid (HE4.out hP2)
          obtain ⟨r0, r1⟩ := (hmp.get (w.heap.size + 1) (rpA 0 noP) (by simp)).two
          have z0 := hm3.loose (w.heap.size + 1) (by simp) 0
          have z1 := hm3.loose (w.heap.size + 1) (by simp) 1
          have HM := Lib.hid hmp
          have HST := Lib.hid hsp
          clear hmp hsp hop hm3 hst3 hmr
          go_wp2
          refine bodyPost_ret (results_put 4 noP (w.heap.size + 1) _ _ rfl ?_) rfl (OpOut.bad HM.out.1 HST.out.map hlt HE.out (by decide) (Nat.le_succ _))
          simpa using (((HM.out.get (w.heap.size + 1) (rpA 0 noP) (by simp)).putM 0 (.int .i64 4)).putM 1 (.string noP))
        · have hkl : P.1.name.size ≤ maxLen := by rw [HPN.out hP2]; unfold maxLen; omega
          have HM := Lib.hid hmp
          have HST := Lib.hid hsp
          have HOP := Lib.hid hop
          have HBL := Lib.hid hblk
          clear hmp hsp hop hst3
          go_wp2_with (at_mapUpdate; refine stop_mk ?_)
          refine stop_un ?_
          refine wpList_mapUpdate_own _ rfl _ _ _ mapT rfl 9 39 kd Tryz.underlying52 heldR b n (mapD rs) rfl HST.out.map (by have := HST.out.room; unfold maxLen; omega) (.string P.1.name) (wkV P.1.name P.1.owner A' P.1.copies.length c') (.string P.1.name.data.toList) rfl rfl (key_of hkl) (.held (wkV P.1.name P.1.owner A' P.1.copies.length c')) [] rfl ?_
          intro w3 hmu hgu
          have hr4 := HM.out.get (w.heap.size + 1) (rpA 0 noP) (by simp)
          have hr4' := holds_by hr4 hgu (by omega)
          obtain ⟨s0, s1⟩ := (holds_by (HM.out.get (x1.heap.size + 1) (rpA 0 noP) (by simp)) hgu (by omega)).two
          obtain ⟨r0, r1⟩ := hr4'.two
          have z := loose_by (HM.out.loose (w.heap.size + 1) (by simp)) hr4.1 hgu (by omega)
          have z0 := z 0
          have z1 := z 1
          have HM3 := Lib.hid hmu
          have HG3 := Lib.hid hgu
          have HR4 := Lib.hid hr4'
          clear hmu hgu z hr4 hr4' hm3 hmr
          go_wp2
          refine bodyPost_ret (results_put 0 noP (w.heap.size + 1) _ _ rfl ?_) rfl (OpOut.stored (r' := ⟨P.1.name, P.1.owner, A', c', P.1.copies⟩) HM.out.1 HST.out hlt HOP.out (fun x hx _ => apart_new HBL.out (HLOW.out x hx) (by omega)) HLOW.out (fun k e => by have := HBL.out k e; omega) HM3.out HG3.out (HEP.out hP2 A' c') (fun k e => .inl (by have := HBL.out k e; omega)))
          simpa using ((HR4.out.putM 0 (.int .i64 0)).putM 1 (.string noP))
      · have HE : Hid ((M.doPut (rs.map Wr.wk) d).2 = ((2 : Int), M.nilB)) := Lib.hid (by
          have ho' : r.wk.owner = d.who := HOW.out
          simp [M.doPut, findW_wk, HF.out, ho', show M.copyIn r.wk d.ed = CP from hCP, hC2])
        obtain ⟨r0, r1⟩ := (hm2.get (w.heap.size + 1) (rpA 0 noP) (by simp)).two
        have z0 := hm2.loose (w.heap.size + 1) (by simp) 0
        have z1 := hm2.loose (w.heap.size + 1) (by simp) 1
        have HM := Lib.hid hm2
        have HST := Lib.hid hst2
        clear hm2 hst2
        go_wp2
        refine bodyPost_ret (results_put 2 noP (w.heap.size + 1) _ _ rfl ?_) rfl (OpOut.bad HM.out.1 HST.out.map hlt HE.out (by decide) (Nat.le_succ _))
        simpa using (((HM.out.get (w.heap.size + 1) (rpA 0 noP) (by simp)).putM 0 (.int .i64 2)).putM 1 (.string noP))
    · have HE : Hid ((M.doPut (rs.map Wr.wk) d).2 = ((3 : Int), M.nilB)) := Lib.hid (by
        have ho' : ¬ r.wk.owner = d.who := ho
        simp [M.doPut, findW_wk, hf, ho'])
      have hov : ownedV rs d.name d.who = (zW, 3) := by unfold ownedV; rw [hf]; simp [ho]
      have HF := Lib.hid hf
      clear hf ho
      go_enter Tryz.func87, Tryz.ntmps87
      go_wp2_with fail
      refine (owned_any b n rs d.name d.who _ hst.map hnm).mono ?_
      rintro e x1 ⟨rfl, b1⟩
      rw [hov]
      have hm1 := ((hm.below b1).new (wkL ⟨#[]⟩ 0 none 0 0) 39).new (rpA 3 noP) 32
      have hst1 := ((hst.below b1).alloc (.cells (wkL ⟨#[]⟩ 0 none 0 0) 39)).alloc (.cells (rpA 3 noP) 32)
      simp only [World.size_alloc] at hm1
      have hneq := fun w => rp_neq3 w
      clear hm hst b1
      obtain ⟨r0, r1⟩ := (hm1.get (w.heap.size + 1) (rpA 0 noP) (by simp)).two
      have z0 := hm1.loose (w.heap.size + 1) (by simp) 0
      have z1 := hm1.loose (w.heap.size + 1) (by simp) 1
      have HM := Lib.hid hm1
      have HST := Lib.hid hst1
      clear hm1 hst1
      go_wp2
      refine bodyPost_ret (results_put 3 noP (w.heap.size + 1) _ _ rfl ?_) rfl (OpOut.bad HM.out.1 HST.out.map hlt HE.out (by decide) (Nat.le_succ _))
      simpa using (((HM.out.get (w.heap.size + 1) (rpA 0 noP) (by simp)).putM 0 (.int .i64 3)).putM 1 (.string noP))

theorem results_veil (c : Int) (p : ByteArray) (R : Nat) (W : World) (tmps : Array Value) (h2 : tmps.getD 4 undef = .pointer (some ⟨R, 0, none⟩)) (hW : Holds W R (rpA c p)) :
    (results Tryz.f88 tmps).run Tryz.prog W = .ok (rpV c p) W := by
  obtain ⟨q0, q1⟩ := hW.two
  simp at h2
  simp [results, Tryz.results88, go_sem, h2, q0, q1]

set_option maxHeartbeats 4000000 in
theorem veil_any (B b n : Nat) (rs : List Wr) (d : M.Dd) (hid : Bool) (w : World) (h : St w B b n rs) (hn : d.name.size ≤ 1048576) :
    Calls Tryz.prog 88 #[.map (some b), veV hid d] w (OpOut w B b rs (M.doVeil (rs.map Wr.wk) d hid)) := by
  have hm := ((Mem.start w).new #[.bool hid, .string d.name, .int .i64 d.ed.ma, .int .i64 d.ed.mi, .int .i64 d.ed.pa, .int .i64 d.who] 126).new (rpA 0 noP) 32
  have hst := h.below (((Below.refl w.heap.size w).alloc (Nat.le_refl _) (.cells #[.bool hid, .string d.name, .int .i64 d.ed.ma, .int .i64 d.ed.mi, .int .i64 d.ed.pa, .int .i64 d.who] 126)).alloc (by simp) (.cells (rpA 0 noP) 32))
  simp only [World.size_alloc] at hm
  have hlt : b < w.heap.size := by have := h.low; have := h.top; omega
  have hnm : d.name.size ≤ maxLen := by unfold maxLen; omega
  have HLOW : Hid (∀ r ∈ rs, ∀ k, r.sl.ownBlock = some k → k < w.heap.size) := Lib.hid (fun r hr k e => ((h.own.1 r hr).lt k e).2)
  have HH := Lib.hid h
  clear h
  rcases hf : findW rs d.name.data.toList with _ | r
  · have HE : Hid ((M.doVeil (rs.map Wr.wk) d hid).2 = ((1 : Int), M.nilB)) := Lib.hid (by simp [M.doVeil, findW_wk, hf])
    have hov : ownedV rs d.name d.who = (zW, 1) := by unfold ownedV; rw [hf]
    have HF := Lib.hid hf
    clear hf
    go_enter Tryz.func88, Tryz.ntmps88
    go_wp2_with fail
    refine (owned_any b n rs d.name d.who _ hst.map hnm).mono ?_
    rintro e x1 ⟨rfl, b1⟩
    rw [hov]
    have hm1 := ((hm.below b1).new (wkL ⟨#[]⟩ 0 none 0 0) 39).new (rpA 1 noP) 32
    have hst1 := ((hst.below b1).alloc (.cells (wkL ⟨#[]⟩ 0 none 0 0) 39)).alloc (.cells (rpA 1 noP) 32)
    simp only [World.size_alloc] at hm1
    have hneq := fun w => rp_neq1 w
    clear hm hst b1
    obtain ⟨r0, r1⟩ := (hm1.get (w.heap.size + 1) (rpA 0 noP) (by simp)).two
    have z0 := hm1.loose (w.heap.size + 1) (by simp) 0
    have z1 := hm1.loose (w.heap.size + 1) (by simp) 1
    have HM := Lib.hid hm1
    have HST := Lib.hid hst1
    clear hm1 hst1
    go_wp2
    refine bodyPost_ret (results_veil 1 noP (w.heap.size + 1) _ _ rfl ?_) rfl (OpOut.bad HM.out.1 HST.out.map hlt HE.out (by decide) (Nat.le_succ _))
    simpa using (((HM.out.get (w.heap.size + 1) (rpA 0 noP) (by simp)).putM 0 (.int .i64 1)).putM 1 (.string noP))
  · by_cases ho : r.owner = d.who
    · have hov : ownedV rs d.name d.who = (wrV r, 0) := by unfold ownedV; rw [hf]; simp [ho]
      obtain ⟨hmem, hnr⟩ := findW_mem hf
      obtain ⟨hz1, hz2, hz3⟩ := hst.size r hmem
      have HZ3 := Lib.hid hz3
      have HOW := Lib.hid ho
      have HF := Lib.hid hf
      have HMEM := Lib.hid hmem
      have HNR := Lib.hid hnr
      have HOV := Lib.hid hov
      clear hz3 ho hf hmem hnr hov
      go_enter Tryz.func88, Tryz.ntmps88
      go_wp2_with fail
      refine (owned_any b n rs d.name d.who _ hst.map hnm).mono ?_
      rintro e x1 ⟨rfl, b1⟩
      rw [HOV.out]
      have hm1 := ((hm.below b1).new (wkL r.name r.owner r.ad r.cps.length r.cap) 39).new (rpA 0 noP) 32
      have hst1 := ((hst.below b1).alloc (.cells (wkL r.name r.owner r.ad r.cps.length r.cap) 39)).alloc (.cells (rpA 0 noP) 32)
      simp only [World.size_alloc] at hm1
      have hneq := fun w => rp_neq0 w
      have HMX := Lib.hid (hm.below b1)
      have hs1 := b1.size
      simp only [World.size_alloc] at hs1
      clear hm hst b1
      obtain ⟨P, hP⟩ : ∃ P, M.veiled ⟨r.name, r.owner, r.cps⟩ d.ed hid = P := ⟨_, rfl⟩
      have HE4 : Hid (P.2 = false → (M.doVeil (rs.map Wr.wk) d hid).2 = ((1 : Int), M.nilB)) := Lib.hid (fun h => by
        have ho' : r.wk.owner = d.who := HOW.out
        simp [M.doVeil, findW_wk, HF.out, ho', show M.veiled r.wk d.ed hid = P from hP, h])
      have HEP : Hid (P.2 = true → ∀ A' c', M.doVeil (rs.map Wr.wk) d hid = ((putW rs ⟨P.1.name, P.1.owner, A', c', P.1.copies⟩).map Wr.wk, ((0 : Int), M.nilB))) := Lib.hid (fun h A' c' => by
        have ho' : r.wk.owner = d.who := HOW.out
        simp [M.doVeil, findW_wk, HF.out, ho', show M.veiled r.wk d.ed hid = P from hP, h, putW_wk]
        rfl)
      have HPN : Hid (P.2 = true → P.1.name = r.name) := Lib.hid (fun h => by rw [← hP] at h ⊢; exact M.veiled_name h)
      obtain ⟨p0, p1, p2⟩ := (hm1.get (x1.heap.size) (wkL r.name r.owner r.ad r.cps.length r.cap) (by simp)).three
      obtain ⟨s0, s1⟩ := (hm1.get (x1.heap.size + 1) (rpA 0 noP) (by simp)).two
      obtain ⟨q0, q1, q2, q3, q4, q5⟩ := (hm1.get w.heap.size #[.bool hid, .string d.name, .int .i64 d.ed.ma, .int .i64 d.ed.mi, .int .i64 d.ed.pa, .int .i64 d.who] (by simp)).six
      go_wp2_with fail
      have hcall := implVeiled r.name r.owner r.ad r.cps r.cap d.ed hid _ (hst1.own.1 r HMEM.out).cps.1 hz1 hz2 HZ3.out
      rw [hP] at hcall
      refine hcall.mono ?_
      rintro e x3 ⟨⟨A', c', rfl, o3⟩, b3⟩
      have hm3 := hm1.below b3
      have hst3 := hst1.below b3
      have hs3 := b3.size
      have htop := hst1.top
      simp only [World.size_alloc] at htop hs3
      have HTOP := Lib.hid htop
      clear htop
      simp only [World.size_alloc] at o3
      clear hcall hm1 hst1 b3 p0 p1 p2 q0 q1 q2 q3 q4 q5 s0 s1 hneq
      have hmr := hm3.re (hs' := [(x1.heap.size, (wkL r.name r.owner r.ad r.cps.length r.cap)), (x1.heap.size + 1, rpA 0 noP), (w.heap.size + 1, rpA 0 noP)]) (ls' := [x1.heap.size, w.heap.size + 1]) (by simp) (by simp)
      obtain ⟨p0, p1, p2⟩ := (hmr.get (x1.heap.size) (wkL r.name r.owner r.ad r.cps.length r.cap) (by simp)).three
      have y0 := hmr.loose (x1.heap.size) (by simp) 0
      have y1 := hmr.loose (x1.heap.size) (by simp) 1
      have y2 := hmr.loose (x1.heap.size) (by simp) 2
      have hne5 : ∀ x ∈ rs, x.sl.ownBlock ≠ some (x1.heap.size) := fun x hx e => by have := HLOW.out x hx _ e; omega
      have hmp := hmr.put3 (by omega) (by simp; omega) (.string P.1.name) (.int .i64 P.1.owner) (.slice A' P.1.copies.length c')
      have hsp := ((hst3.set (by omega) hne5 0 (.string P.1.name)).set (by omega) hne5 1 (.int .i64 P.1.owner)).set (by omega) hne5 2 (.slice A' P.1.copies.length c')
      have hblk : ∀ k, (Value.slice A' P.1.copies.length c').ownBlock = some k → x1.heap.size < k := fun k e => by have h1 := (World.ownsRow.lt o3 k e).1; omega
      have hop := ((o3.mono HTOP.out).apart5 hblk 0 (.string P.1.name)).apart5 hblk 1 (.int .i64 P.1.owner) |>.apart5 hblk 2 (.slice A' P.1.copies.length c')
      rcases hP2 : P.2 with _ | _
      · have HE : Hid ((M.doVeil (rs.map Wr.wk) d hid).2 = ((1 : Int), M.nilB)) := Lib.hid (HE4.out hP2)
        obtain ⟨r0, r1⟩ := (hmp.get (w.heap.size + 1) (rpA 0 noP) (by simp)).two
        have z0 := hm3.loose (w.heap.size + 1) (by simp) 0
        have z1 := hm3.loose (w.heap.size + 1) (by simp) 1
        have HM := Lib.hid hmp
        have HST := Lib.hid hsp
        clear hmp hsp hop hm3 hst3 hmr
        go_wp2
        refine bodyPost_ret (results_veil 1 noP (w.heap.size + 1) _ _ rfl ?_) rfl (OpOut.bad HM.out.1 HST.out.map hlt HE.out (by decide) (Nat.le_succ _))
        simpa using (((HM.out.get (w.heap.size + 1) (rpA 0 noP) (by simp)).putM 0 (.int .i64 1)).putM 1 (.string noP))
      · have hkl : P.1.name.size ≤ maxLen := by rw [HPN.out hP2]; unfold maxLen; omega
        have HM := Lib.hid hmp
        have HST := Lib.hid hsp
        have HOP := Lib.hid hop
        have HBL := Lib.hid hblk
        clear hmp hsp hop hst3
        go_wp2_with (at_mapUpdate; refine stop_mk ?_)
        refine stop_un ?_
        refine wpList_mapUpdate_own _ rfl _ _ _ mapT rfl 9 39 kd Tryz.underlying52 heldR b n (mapD rs) rfl HST.out.map (by have := HST.out.room; unfold maxLen; omega) (.string P.1.name) (wkV P.1.name P.1.owner A' P.1.copies.length c') (.string P.1.name.data.toList) rfl rfl (key_of hkl) (.held (wkV P.1.name P.1.owner A' P.1.copies.length c')) [] rfl ?_
        intro w3 hmu hgu
        have hr4 := HM.out.get (w.heap.size + 1) (rpA 0 noP) (by simp)
        have hr4' := holds_by hr4 hgu (by omega)
        obtain ⟨s0, s1⟩ := (holds_by (HM.out.get (x1.heap.size + 1) (rpA 0 noP) (by simp)) hgu (by omega)).two
        obtain ⟨r0, r1⟩ := hr4'.two
        have z := loose_by (HM.out.loose (w.heap.size + 1) (by simp)) hr4.1 hgu (by omega)
        have z0 := z 0
        have z1 := z 1
        have HM3 := Lib.hid hmu
        have HG3 := Lib.hid hgu
        have HR4 := Lib.hid hr4'
        clear hmu hgu z hr4 hr4' hm3 hmr
        go_wp2
        refine bodyPost_ret (results_veil 0 noP (w.heap.size + 1) _ _ rfl ?_) rfl (OpOut.stored (r' := ⟨P.1.name, P.1.owner, A', c', P.1.copies⟩) HM.out.1 HST.out hlt HOP.out (fun x hx _ => apart_new HBL.out (HLOW.out x hx) (by omega)) HLOW.out (fun k e => by have := HBL.out k e; omega) HM3.out HG3.out (HEP.out hP2 A' c') (fun k e => .inl (by have := HBL.out k e; omega)))
        simpa using ((HR4.out.putM 0 (.int .i64 0)).putM 1 (.string noP))
    · have HE : Hid ((M.doVeil (rs.map Wr.wk) d hid).2 = ((3 : Int), M.nilB)) := Lib.hid (by
        have ho' : ¬ r.wk.owner = d.who := ho
        simp [M.doVeil, findW_wk, hf, ho'])
      have hov : ownedV rs d.name d.who = (zW, 3) := by unfold ownedV; rw [hf]; simp [ho]
      have HF := Lib.hid hf
      clear hf ho
      go_enter Tryz.func88, Tryz.ntmps88
      go_wp2_with fail
      refine (owned_any b n rs d.name d.who _ hst.map hnm).mono ?_
      rintro e x1 ⟨rfl, b1⟩
      rw [hov]
      have hm1 := ((hm.below b1).new (wkL ⟨#[]⟩ 0 none 0 0) 39).new (rpA 3 noP) 32
      have hst1 := ((hst.below b1).alloc (.cells (wkL ⟨#[]⟩ 0 none 0 0) 39)).alloc (.cells (rpA 3 noP) 32)
      simp only [World.size_alloc] at hm1
      have hneq := fun w => rp_neq3 w
      clear hm hst b1
      obtain ⟨r0, r1⟩ := (hm1.get (w.heap.size + 1) (rpA 0 noP) (by simp)).two
      have z0 := hm1.loose (w.heap.size + 1) (by simp) 0
      have z1 := hm1.loose (w.heap.size + 1) (by simp) 1
      have HM := Lib.hid hm1
      have HST := Lib.hid hst1
      clear hm1 hst1
      go_wp2
      refine bodyPost_ret (results_veil 3 noP (w.heap.size + 1) _ _ rfl ?_) rfl (OpOut.bad HM.out.1 HST.out.map hlt HE.out (by decide) (Nat.le_succ _))
      simpa using (((HM.out.get (w.heap.size + 1) (rpA 0 noP) (by simp)).putM 0 (.int .i64 3)).putM 1 (.string noP))

theorem results_give (c : Int) (p : ByteArray) (R : Nat) (W : World) (tmps : Array Value) (h2 : tmps.getD 4 undef = .pointer (some ⟨R, 0, none⟩)) (hW : Holds W R (rpA c p)) :
    (results Tryz.f90 tmps).run Tryz.prog W = .ok (rpV c p) W := by
  obtain ⟨q0, q1⟩ := hW.two
  simp at h2
  simp [results, Tryz.results90, go_sem, h2, q0, q1]

set_option maxHeartbeats 4000000 in
theorem give_any (B b n : Nat) (rs : List Wr) (d : M.Dd) (w : World) (h : St w B b n rs) (hn : d.name.size ≤ 1048576) :
    Calls Tryz.prog 90 #[.map (some b), giV d] w (OpOut w B b rs (M.doGive (rs.map Wr.wk) d)) := by
  have hm := ((Mem.start w).new #[.string d.name, .int .i64 d.who, .int .i64 d.ed.ma] 132).new (rpA 0 noP) 32
  have hst := h.below (((Below.refl w.heap.size w).alloc (Nat.le_refl _) (.cells #[.string d.name, .int .i64 d.who, .int .i64 d.ed.ma] 132)).alloc (by simp) (.cells (rpA 0 noP) 32))
  simp only [World.size_alloc] at hm
  have hlt : b < w.heap.size := by have := h.low; have := h.top; omega
  have hnm : d.name.size ≤ maxLen := by unfold maxLen; omega
  have HLOW : Hid (∀ r ∈ rs, ∀ k, r.sl.ownBlock = some k → k < w.heap.size) := Lib.hid (fun r hr k e => ((h.own.1 r hr).lt k e).2)
  have HH := Lib.hid h
  clear h
  by_cases hin : M.inI d.ed.ma 0 3 = true
  · have HIN := Lib.hid hin
    clear hin
    rcases hf : findW rs d.name.data.toList with _ | r
    · have HE : Hid ((M.doGive (rs.map Wr.wk) d).2 = ((1 : Int), M.nilB)) := Lib.hid (by simp [M.doGive, HIN.out, findW_wk, hf])
      have hov : ownedV rs d.name d.who = (zW, 1) := by unfold ownedV; rw [hf]
      have HF := Lib.hid hf
      clear hf
      go_enter Tryz.func90, Tryz.ntmps90
      go_wp2_with fail
      refine (whoOk_any d.ed.ma _).mono ?_
      rintro e w1 ⟨rfl, rfl⟩
      rw [HIN.out]
      go_wp2_with fail
      refine (owned_any b n rs d.name d.who _ hst.map hnm).mono ?_
      rintro e x1 ⟨rfl, b1⟩
      rw [hov]
      have hm1 := ((hm.below b1).new (wkL ⟨#[]⟩ 0 none 0 0) 39).new (rpA 1 noP) 32
      have hst1 := ((hst.below b1).alloc (.cells (wkL ⟨#[]⟩ 0 none 0 0) 39)).alloc (.cells (rpA 1 noP) 32)
      simp only [World.size_alloc] at hm1
      have hneq := fun w => rp_neq1 w
      clear hm hst b1
      obtain ⟨r0, r1⟩ := (hm1.get (w.heap.size + 1) (rpA 0 noP) (by simp)).two
      have z0 := hm1.loose (w.heap.size + 1) (by simp) 0
      have z1 := hm1.loose (w.heap.size + 1) (by simp) 1
      have HM := Lib.hid hm1
      have HST := Lib.hid hst1
      clear hm1 hst1
      go_wp2
      refine bodyPost_ret (results_give 1 noP (w.heap.size + 1) _ _ rfl ?_) rfl (OpOut.bad HM.out.1 HST.out.map hlt HE.out (by decide) (Nat.le_succ _))
      simpa using (((HM.out.get (w.heap.size + 1) (rpA 0 noP) (by simp)).putM 0 (.int .i64 1)).putM 1 (.string noP))
    · by_cases ho : r.owner = d.who
      · have hov : ownedV rs d.name d.who = (wrV r, 0) := by unfold ownedV; rw [hf]; simp [ho]
        obtain ⟨hmem, hnr⟩ := findW_mem hf
        obtain ⟨hz1, hz2, hz3⟩ := hst.size r hmem
        have HZ3 := Lib.hid hz3
        have HOW := Lib.hid ho
        have HF := Lib.hid hf
        have HMEM := Lib.hid hmem
        have HNR := Lib.hid hnr
        have HOV := Lib.hid hov
        clear hz3 ho hf hmem hnr hov
        go_enter Tryz.func90, Tryz.ntmps90
        go_wp2_with fail
        refine (whoOk_any d.ed.ma _).mono ?_
        rintro e w1 ⟨rfl, rfl⟩
        rw [HIN.out]
        go_wp2_with fail
        refine (owned_any b n rs d.name d.who _ hst.map hnm).mono ?_
        rintro e x1 ⟨rfl, b1⟩
        rw [HOV.out]
        have hm1 := ((hm.below b1).new (wkL r.name d.ed.ma r.ad r.cps.length r.cap) 39).new (rpA 0 noP) 32
        have hst1 := ((hst.below b1).alloc (.cells (wkL r.name d.ed.ma r.ad r.cps.length r.cap) 39)).alloc (.cells (rpA 0 noP) 32)
        simp only [World.size_alloc] at hm1
        have hneq := fun w => rp_neq0 w
        have HMX := Lib.hid (hm.below b1)
        have hs1 := b1.size
        simp only [World.size_alloc] at hs1
        clear hm hst b1
        have hmr := hm1.re (hs' := [(x1.heap.size + 1, rpA 0 noP), (w.heap.size + 1, rpA 0 noP), (w.heap.size, #[.string d.name, .int .i64 d.who, .int .i64 d.ed.ma])]) (ls' := [x1.heap.size, w.heap.size + 1]) (by simp) (by simp)
        obtain ⟨s0, s1⟩ := (hmr.get (x1.heap.size + 1) (rpA 0 noP) (by simp)).two
        obtain ⟨q0, q1, q2⟩ := (((HMX.out.get w.heap.size #[.string d.name, .int .i64 d.who, .int .i64 d.ed.ma] (by simp)).alloc (.cells (wkL r.name r.owner r.ad r.cps.length r.cap) 39)).alloc (.cells (rpA 0 noP) 32)).three
        have HE0 : Hid (M.doGive (rs.map Wr.wk) d = ((putW rs ⟨r.name, d.ed.ma, r.ad, r.cap, r.cps⟩).map Wr.wk, ((0 : Int), M.nilB))) := Lib.hid (by
          have ho' : r.wk.owner = d.who := HOW.out
          simp [M.doGive, HIN.out, findW_wk, HF.out, ho', putW_wk]
          rfl)
        have hkl : r.name.size ≤ maxLen := by unfold maxLen; omega
        have HM := Lib.hid hmr
        have HST := Lib.hid hst1
        clear hm1 hst1
        go_wp2_with (at_mapUpdate; refine stop_mk ?_)
        refine stop_un ?_
        refine wpList_mapUpdate_own _ rfl _ _ _ mapT rfl 9 39 kd Tryz.underlying52 heldR b n (mapD rs) rfl HST.out.map (by have := HST.out.room; unfold maxLen; omega) (.string r.name) (wkV r.name d.ed.ma r.ad r.cps.length r.cap) (.string r.name.data.toList) rfl rfl (key_of hkl) (.held (wkV r.name d.ed.ma r.ad r.cps.length r.cap)) [] rfl ?_
        intro w3 hmu hgu
        have hr4 := HM.out.get (w.heap.size + 1) (rpA 0 noP) (by simp)
        have hr4' := holds_by hr4 hgu (by omega)
        obtain ⟨s0, s1⟩ := (holds_by (HM.out.get (x1.heap.size + 1) (rpA 0 noP) (by simp)) hgu (by omega)).two
        obtain ⟨r0, r1⟩ := hr4'.two
        have z := loose_by (HM.out.loose (w.heap.size + 1) (by simp)) hr4.1 hgu (by omega)
        have z0 := z 0
        have z1 := z 1
        have HM3 := Lib.hid hmu
        have HG3 := Lib.hid hgu
        have HR4 := Lib.hid hr4'
        clear hmu hgu z hr4 hr4' hmr
        go_wp2
        refine bodyPost_ret (results_give 0 noP (w.heap.size + 1) _ _ rfl ?_) rfl (OpOut.stored (r' := ⟨r.name, d.ed.ma, r.ad, r.cap, r.cps⟩) HM.out.1 HST.out hlt (HST.out.own.1 r HMEM.out) (fun x hx hnx => show Apart r.sl x.sl from apart_old (R := fun a c => Apart a.sl c.sl) (fun _ _ h => h.symm) HST.out.own.2 (a := r) (c := x) HMEM.out hx (fun e => hnx (by rw [← e]))) HLOW.out (fun k e => by have := HLOW.out r HMEM.out k e; omega) HM3.out HG3.out HE0.out (fun k e => .inr ⟨r, HMEM.out, e⟩))
        simpa using ((HR4.out.putM 0 (.int .i64 0)).putM 1 (.string noP))
      · have HE : Hid ((M.doGive (rs.map Wr.wk) d).2 = ((3 : Int), M.nilB)) := Lib.hid (by
          have ho' : ¬ r.wk.owner = d.who := ho
          simp [M.doGive, HIN.out, findW_wk, hf, ho'])
        have hov : ownedV rs d.name d.who = (zW, 3) := by unfold ownedV; rw [hf]; simp [ho]
        have HF := Lib.hid hf
        clear hf ho
        go_enter Tryz.func90, Tryz.ntmps90
        go_wp2_with fail
        refine (whoOk_any d.ed.ma _).mono ?_
        rintro e w1 ⟨rfl, rfl⟩
        rw [HIN.out]
        go_wp2_with fail
        refine (owned_any b n rs d.name d.who _ hst.map hnm).mono ?_
        rintro e x1 ⟨rfl, b1⟩
        rw [hov]
        have hm1 := ((hm.below b1).new (wkL ⟨#[]⟩ 0 none 0 0) 39).new (rpA 3 noP) 32
        have hst1 := ((hst.below b1).alloc (.cells (wkL ⟨#[]⟩ 0 none 0 0) 39)).alloc (.cells (rpA 3 noP) 32)
        simp only [World.size_alloc] at hm1
        have hneq := fun w => rp_neq3 w
        clear hm hst b1
        obtain ⟨r0, r1⟩ := (hm1.get (w.heap.size + 1) (rpA 0 noP) (by simp)).two
        have z0 := hm1.loose (w.heap.size + 1) (by simp) 0
        have z1 := hm1.loose (w.heap.size + 1) (by simp) 1
        have HM := Lib.hid hm1
        have HST := Lib.hid hst1
        clear hm1 hst1
        go_wp2
        refine bodyPost_ret (results_give 3 noP (w.heap.size + 1) _ _ rfl ?_) rfl (OpOut.bad HM.out.1 HST.out.map hlt HE.out (by decide) (Nat.le_succ _))
        simpa using (((HM.out.get (w.heap.size + 1) (rpA 0 noP) (by simp)).putM 0 (.int .i64 3)).putM 1 (.string noP))
  · have hin' : M.inI d.ed.ma 0 3 = false := by simpa using hin
    have HIN := Lib.hid hin'
    have HE : Hid ((M.doGive (rs.map Wr.wk) d).2 = ((7 : Int), M.nilB)) := Lib.hid (by simp [M.doGive, hin'])
    clear hin hin'
    have hm7 := ((Mem.start w).new #[.string d.name, .int .i64 d.who, .int .i64 d.ed.ma] 132).new (rpA 7 noP) 32
    have hst7 := HH.out.below (((Below.refl w.heap.size w).alloc (Nat.le_refl _) (.cells #[.string d.name, .int .i64 d.who, .int .i64 d.ed.ma] 132)).alloc (by simp) (.cells (rpA 7 noP) 32))
    simp only [World.size_alloc] at hm7
    have HM := Lib.hid hm7
    have HST := Lib.hid hst7
    clear hm hst hm7 hst7
    go_enter Tryz.func90, Tryz.ntmps90
    go_wp2_with fail
    refine (whoOk_any d.ed.ma _).mono ?_
    rintro e w1 ⟨rfl, rfl⟩
    rw [HIN.out]
    go_wp2
    exact bodyPost_ret (results_give 7 noP (w.heap.size + 1) _ _ rfl (HM.out.get (w.heap.size + 1) (rpA 7 noP) (by simp))) rfl (OpOut.same HM.out.1 HST.out.map HE.out (by decide))

theorem results_fetch (c : Int) (p : ByteArray) (R : Nat) (W : World) (tmps : Array Value) (h2 : tmps.getD 4 undef = .pointer (some ⟨R, 0, none⟩)) (hW : Holds W R (rpA c p)) :
    (results Tryz.f89 tmps).run Tryz.prog W = .ok (rpV c p) W := by
  obtain ⟨q0, q1⟩ := hW.two
  simp at h2
  simp [results, Tryz.results89, go_sem, h2, q0, q1]

set_option maxHeartbeats 4000000 in
theorem fetch_any (B b n : Nat) (rs : List Wr) (d : M.Dd) (w : World) (h : St w B b n rs) (hn : d.name.size ≤ 1048576) :
    Calls Tryz.prog 89 #[.map (some b), feV d] w (OpOut w B b rs (M.doFetch (rs.map Wr.wk) d)) := by
  have hm := ((Mem.start w).new #[.string d.name, .int .i64 d.ed.ma, .int .i64 d.ed.mi, .int .i64 d.ed.pa] 129).new (rpA 0 noP) 32
  have hst := h.below (((Below.refl w.heap.size w).alloc (Nat.le_refl _) (.cells #[.string d.name, .int .i64 d.ed.ma, .int .i64 d.ed.mi, .int .i64 d.ed.pa] 129)).alloc (by simp) (.cells (rpA 0 noP) 32))
  simp only [World.size_alloc] at hm
  have hlt : b < w.heap.size := by have := h.low; have := h.top; omega
  have hnm : d.name.size ≤ maxLen := by unfold maxLen; omega
  have HLOW : Hid (∀ r ∈ rs, ∀ k, r.sl.ownBlock = some k → k < w.heap.size) := Lib.hid (fun r hr k e => ((h.own.1 r hr).lt k e).2)
  have HH := Lib.hid h
  clear h
  obtain ⟨CP, nm, ow, ad, cs, cap, hlk, hfl, hsz, hl1, hl2, HE⟩ : ∃ CP nm ow ad cs cap, (Instr.lookup 52 (.map (some b)) (.string d.name) false).run Tryz.prog ((w.alloc (.cells #[.string d.name, .int .i64 d.ed.ma, .int .i64 d.ed.mi, .int .i64 d.ed.pa] 129)).alloc (.cells (rpA 0 noP) 32)) = .ok (wkV nm ow ad cs.length cap) ((w.alloc (.cells #[.string d.name, .int .i64 d.ed.ma, .int .i64 d.ed.mi, .int .i64 d.ed.pa] 129)).alloc (.cells (rpA 0 noP) 32))
      ∧ Cps ((w.alloc (.cells #[.string d.name, .int .i64 d.ed.ma, .int .i64 d.ed.mi, .int .i64 d.ed.pa] 129)).alloc (.cells (rpA 0 noP) 32)) ad cs ∧ nm.size ≤ 1048576 ∧ cs.length ≤ 1048576 ∧ (∀ c ∈ cs, c.page.size ≤ 1048576)
      ∧ Hid (M.copyIn ⟨nm, ow, cs⟩ d.ed = CP ∧ (CP.2 = false → (M.doFetch (rs.map Wr.wk) d).2 = ((1 : Int), M.nilB)) ∧ (CP.2 = true → CP.1.hidden = true → (M.doFetch (rs.map Wr.wk) d).2 = ((5 : Int), M.nilB)) ∧ (CP.2 = true → CP.1.hidden = false → M.doFetch (rs.map Wr.wk) d = (rs.map Wr.wk, ((0 : Int), CP.1.page)))) := by
    rcases hf : findW rs d.name.data.toList with _ | r
    · refine ⟨_, ⟨#[]⟩, 0, none, [], 0, look1_none hst.map hnm hf, .inl rfl, Nat.zero_le _, Nat.zero_le _, fun _ h => (by cases h), Lib.hid ⟨rfl, fun _ => ?_, fun h => ?_, fun h => ?_⟩⟩
      · simp [M.doFetch, findW_wk, hf]
      · rw [show (M.copyIn ⟨⟨#[]⟩, 0, []⟩ d.ed).2 = false from by simp [M.copyIn]] at h; cases h
      · rw [show (M.copyIn ⟨⟨#[]⟩, 0, []⟩ d.ed).2 = false from by simp [M.copyIn]] at h; cases h
    · obtain ⟨hmem, hnr⟩ := findW_mem hf
      obtain ⟨hz1, hz2, hz3⟩ := hst.size r hmem
      refine ⟨_, r.name, r.owner, r.ad, r.cps, r.cap, look1_some hst.map hnm hf, (hst.own.1 r hmem).cps.1, hz1, hz2, hz3, Lib.hid ⟨rfl, fun h => ?_, fun h h' => ?_, fun h h' => ?_⟩⟩
      · simp [M.doFetch, findW_wk, hf, show (M.copyIn r.wk d.ed).2 = false from h]
      · simp [M.doFetch, findW_wk, hf, show (M.copyIn r.wk d.ed).2 = true from h, show (M.copyIn r.wk d.ed).1.hidden = true from h']
      · simp [M.doFetch, findW_wk, hf, show (M.copyIn r.wk d.ed).2 = true from h, show (M.copyIn r.wk d.ed).1.hidden = false from h']
        rfl
  obtain ⟨hCP, hE1, hE5, hE0⟩ := HE.out
  have HE1 := Lib.hid hE1
  have HE5 := Lib.hid hE5
  have HE0 := Lib.hid hE0
  clear HE hE1 hE5 hE0
  go_enter Tryz.func89, Tryz.ntmps89
  go_wp2_with fail
  have hcall := implCopyIn nm ow ad cs cap d.ed _ hfl (by unfold maxLen; omega) hl1 hl2
  rw [hCP] at hcall
  refine hcall.mono ?_
  rintro e x1 ⟨rfl, b1⟩
  have hm1 := (hm.below b1).new #[.int .i64 CP.1.ed.ma, .int .i64 CP.1.ed.mi, .int .i64 CP.1.ed.pa, .string CP.1.page, .bool CP.1.hidden] 71
  have hst1 := (hst.below b1).alloc (.cells #[.int .i64 CP.1.ed.ma, .int .i64 CP.1.ed.mi, .int .i64 CP.1.ed.pa, .string CP.1.page, .bool CP.1.hidden] 71)
  clear hcall hm hst b1 hlk hfl hl2
  rcases hC2 : CP.2 with _ | _
  · have HE : Hid ((M.doFetch (rs.map Wr.wk) d).2 = ((1 : Int), M.nilB)) := Lib.hid (HE1.out hC2)
    obtain ⟨r0, r1⟩ := (hm1.get (w.heap.size + 1) (rpA 0 noP) (by simp)).two
    have z0 := hm1.loose (w.heap.size + 1) (by simp) 0
    have z1 := hm1.loose (w.heap.size + 1) (by simp) 1
    obtain ⟨c0, c1, c2, c3, c4⟩ := (hm1.get x1.heap.size #[.int .i64 CP.1.ed.ma, .int .i64 CP.1.ed.mi, .int .i64 CP.1.ed.pa, .string CP.1.page, .bool CP.1.hidden] (by simp)).five
    have HM := Lib.hid hm1
    have HST := Lib.hid hst1
    clear hm1 hst1
    go_wp2
    refine bodyPost_ret (results_fetch 1 noP (w.heap.size + 1) _ _ rfl ?_) rfl (OpOut.bad HM.out.1 HST.out.map hlt HE.out (by decide) (Nat.le_succ _))
    simpa using (((HM.out.get (w.heap.size + 1) (rpA 0 noP) (by simp)).putM 0 (.int .i64 1)).putM 1 (.string noP))
  · rcases hH : CP.1.hidden with _ | _
    · have HE := Lib.hid (HE0.out hC2 hH)
      rw [hH] at hm1 hst1
      obtain ⟨r0, r1⟩ := (hm1.get (w.heap.size + 1) (rpA 0 noP) (by simp)).two
      have z0 := hm1.loose (w.heap.size + 1) (by simp) 0
      have z1 := hm1.loose (w.heap.size + 1) (by simp) 1
      obtain ⟨c0, c1, c2, c3, c4⟩ := (hm1.get x1.heap.size #[.int .i64 CP.1.ed.ma, .int .i64 CP.1.ed.mi, .int .i64 CP.1.ed.pa, .string CP.1.page, .bool false] (by simp)).five
      have HM := Lib.hid hm1
      have HST := Lib.hid hst1
      clear hm1 hst1
      go_wp2
      refine bodyPost_ret (results_fetch 0 CP.1.page (w.heap.size + 1) _ _ rfl ?_) rfl (OpOut.good (grown_lw HM.out.1 _) (World.grownBy.refl _ _) HST.out.map HST.out.rise HST.out.own hlt (fun r hr e => by have := HLOW.out r hr _ e; omega) HE.out (Nat.le_succ _) (fun r hr k e => .inr ⟨r, hr, e⟩))
      simpa using (((HM.out.get (w.heap.size + 1) (rpA 0 noP) (by simp)).putM 0 (.int .i64 0)).putM 1 (.string CP.1.page))
    · have HE : Hid ((M.doFetch (rs.map Wr.wk) d).2 = ((5 : Int), M.nilB)) := Lib.hid (HE5.out hC2 hH)
      rw [hH] at hm1 hst1
      obtain ⟨r0, r1⟩ := (hm1.get (w.heap.size + 1) (rpA 0 noP) (by simp)).two
      have z0 := hm1.loose (w.heap.size + 1) (by simp) 0
      have z1 := hm1.loose (w.heap.size + 1) (by simp) 1
      obtain ⟨c0, c1, c2, c3, c4⟩ := (hm1.get x1.heap.size #[.int .i64 CP.1.ed.ma, .int .i64 CP.1.ed.mi, .int .i64 CP.1.ed.pa, .string CP.1.page, .bool true] (by simp)).five
      have HM := Lib.hid hm1
      have HST := Lib.hid hst1
      clear hm1 hst1
      go_wp2
      refine bodyPost_ret (results_fetch 5 noP (w.heap.size + 1) _ _ rfl ?_) rfl (OpOut.bad HM.out.1 HST.out.map hlt HE.out (by decide) (Nat.le_succ _))
      simpa using (((HM.out.get (w.heap.size + 1) (rpA 0 noP) (by simp)).putM 0 (.int .i64 5)).putM 1 (.string noP))

theorem results_claim (c : Int) (p : ByteArray) (R : Nat) (W : World) (tmps : Array Value) (h2 : tmps.getD 4 undef = .pointer (some ⟨R, 0, none⟩)) (hW : Holds W R (rpA c p)) :
    (results Tryz.f86 tmps).run Tryz.prog W = .ok (rpV c p) W := by
  obtain ⟨q0, q1⟩ := hW.two
  simp at h2
  simp [results, Tryz.results86, go_sem, h2, q0, q1]

set_option maxHeartbeats 4000000 in
theorem claim_any (B b n : Nat) (rs : List Wr) (d : M.Dd) (w : World) (h : St w B b n rs) (hn : d.name.size ≤ 1048576) :
    Calls Tryz.prog 86 #[.map (some b), clV d] w (OpOut w B b rs (M.doClaim (rs.map Wr.wk) d)) := by
  have hm := ((Mem.start w).new #[.string d.name, .int .i64 d.who] 120).new (rpA 0 noP) 32
  have hst := h.below (((Below.refl w.heap.size w).alloc (Nat.le_refl _) (.cells #[.string d.name, .int .i64 d.who] 120)).alloc (by simp) (.cells (rpA 0 noP) 32))
  simp only [World.size_alloc] at hm
  have hlt : b < w.heap.size := by have := h.low; have := h.top; omega
  have hnm : d.name.size ≤ maxLen := by unfold maxLen; omega
  have HLOW : Hid (∀ r ∈ rs, ∀ k, r.sl.ownBlock = some k → k < w.heap.size) := Lib.hid (fun r hr k e => ((h.own.1 r hr).lt k e).2)
  have HH := Lib.hid h
  clear h
  rcases hf : findW rs d.name.data.toList with _ | r
  · have hlk := look_none hst.map hnm hf
    have HE4 : Hid ((5 : Int) < ((rs.length + 1 : Nat) : Int) → (M.doClaim (rs.map Wr.wk) d).2 = ((4 : Int), M.nilB)) := Lib.hid (fun h => by
      have h' : 5 < rs.length + 1 := by omega
      simp [M.doClaim, findW_wk, hf, h'])
    have HE0 : Hid (¬ (5 : Int) < ((rs.length + 1 : Nat) : Int) → ∀ A' c', M.doClaim (rs.map Wr.wk) d = ((putW rs ⟨d.name, d.who, A', c', []⟩).map Wr.wk, ((0 : Int), M.nilB))) := Lib.hid (fun h A' c' => by
      have h' : ¬ 5 < rs.length + 1 := by omega
      simp [M.doClaim, findW_wk, hf, h', putW_wk]
      rfl)
    have hm2 := hm.new (wkL ⟨#[]⟩ 0 none 0 0) 39
    have hst2 := hst.alloc (.cells (wkL ⟨#[]⟩ 0 none 0 0) 39)
    simp only [World.size_alloc] at hm2
    have HF := Lib.hid hf
    clear hm hst hf
    go_enter Tryz.func86, Tryz.ntmps86
    go_wp2_with fail
    have hcall := newWork_any d.name d.who none [] 0 ((((w.alloc (.cells #[.string d.name, .int .i64 d.who] 120)).alloc (.cells (rpA 0 noP) 32))).alloc (.cells (wkL ⟨#[]⟩ 0 none 0 0) 39)) (.inl rfl) hn (Nat.zero_le _) (fun _ h => by cases h)
    simp only [List.length_nil] at hcall
    refine hcall.mono ?_
    rintro e x1 ⟨A', c', rfl, o1, b1⟩
    have htop := hst2.top
    have hs1 := b1.size
    simp only [World.size_alloc] at o1 htop hs1
    have hm3 := (hm2.below b1).new (wkL d.name d.who A' 0 c') 39
    have hst3 := (hst2.below b1).alloc (.cells (wkL d.name d.who A' 0 c') 39)
    have HOP := Lib.hid ((o1.mono htop).below ((Below.refl _ _).alloc (Nat.le_refl _) (.cells (wkL d.name d.who A' 0 c') 39)))
    have HBL : Hid (∀ k, (Value.slice A' 0 c').ownBlock = some k → w.heap.size + 2 < k) := Lib.hid (fun k e => by have h1 := (World.ownsRow.lt o1 k e).1; omega)
    have HM := Lib.hid hm3
    have HST := Lib.hid hst3
    clear hcall hm2 hst2 hm3 hst3 b1 o1 htop
    go_wp2_with (at_mapUpdate; refine stop_mk ?_)
    refine stop_un ?_
    refine wpList_mapUpdate_own _ rfl _ _ _ mapT rfl 9 39 kd Tryz.underlying52 heldR b n (mapD rs) rfl HST.out.map (by have := HST.out.room; unfold maxLen; omega) (.string d.name) (wkV d.name d.who A' 0 c') (.string d.name.data.toList) rfl rfl (key_of hnm) (.held (wkV d.name d.who A' 0 c')) [] rfl ?_
    intro w3 hmu hgu
    have hr4 := HM.out.get (w.heap.size + 1) (rpA 0 noP) (by simp)
    have hr4' := holds_by hr4 hgu (by omega)
    obtain ⟨r0, r1⟩ := hr4'.two
    have z := loose_by (HM.out.loose (w.heap.size + 1) (by simp)) hr4.1 hgu (by omega)
    have z0 := z 0
    have z1 := z 1
    have hln := fun ty => World.ownsMap.len hmu Tryz.underlying52 ty
    have hsz : Maps.size ((mapD rs).put (.string d.name.data.toList) (.held (wkV d.name d.who A' 0 c'))) = rs.length + 1 := by
      rw [show (mapD rs).put (.string d.name.data.toList) (.held (wkV d.name d.who A' 0 c')) = mapD (putW rs ⟨d.name, d.who, A', c', []⟩) from mapD_put rs ⟨d.name, d.who, A', c', []⟩, mapD_size]
      exact putW_new (r := ⟨d.name, d.who, A', c', []⟩) HF.out
    rw [hsz] at hln
    have HM3 := Lib.hid hmu
    have HG3 := Lib.hid hgu
    have HR4 := Lib.hid hr4'
    clear hmu hgu z hr4 hr4' hsz
    generalize ((rs.length + 1 : Nat) : Int) = N at hln HE4 HE0
    by_cases hN : (5 : Int) < N
    · have HE := Lib.hid (HE4.out hN)
      go_wp2
      refine bodyPost_ret (results_claim 4 noP (w.heap.size + 1) _ _ rfl ?_) rfl (OpOut.badW (grown_tr (grown_lw HM.out.1 _) HG3.out) HM3.out hlt HE.out (by decide) (Nat.le_succ _))
      simpa using ((HR4.out.putM 0 (.int .i64 4)).putM 1 (.string noP))
    · have HE := Lib.hid (HE0.out (by omega) A' c')
      go_wp2
      refine bodyPost_ret (results_claim 0 noP (w.heap.size + 1) _ _ rfl ?_) rfl (OpOut.stored (r' := ⟨d.name, d.who, A', c', []⟩) HM.out.1 HST.out hlt HOP.out (fun x hx _ => apart_new HBL.out (HLOW.out x hx) (by omega)) HLOW.out (fun k e => by have := HBL.out k e; omega) HM3.out HG3.out HE.out (fun k e => .inl (by have := HBL.out k e; omega)))
      simpa using ((HR4.out.putM 0 (.int .i64 0)).putM 1 (.string noP))
  · have HE : Hid ((M.doClaim (rs.map Wr.wk) d).2 = ((2 : Int), M.nilB)) := Lib.hid (by simp [M.doClaim, findW_wk, hf])
    have hlk := look_some hst.map hnm hf
    have hm2 := (((Mem.start w).new #[.string d.name, .int .i64 d.who] 120).new (rpA 2 noP) 32).new (wkL r.name r.owner r.ad r.cps.length r.cap) 39
    have hst2 := HH.out.below hm2.1
    simp only [World.size_alloc] at hm2
    have HM := Lib.hid hm2
    have HST := Lib.hid hst2
    clear hm hst hm2 hst2 hf
    go_enter Tryz.func86, Tryz.ntmps86
    go_wp2
    exact bodyPost_ret (results_claim 2 noP (w.heap.size + 1) _ _ rfl (HM.out.get (w.heap.size + 1) (rpA 2 noP) (by simp))) rfl (OpOut.same HM.out.1 HST.out.map HE.out (by decide))
end Go.Proofs.YtdcdalbbjfjadaaGreatDoor
