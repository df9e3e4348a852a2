/- Proved, in parts: Proved: the program's tries on the map of works answers a plain Lean function; it writes the map's block alone. Condition: texts of at most a million bytes. Proved: what a block's write leaves of rows that lie elsewhere. No program is named here; no condition. Proved: what the plain Lean functions of the deeds leave is near what was there; names that rise; what a block's write leaves of rows that lie elsewhere. Condition: none. -/
import Derived.Test.YtblcgbgcccjpcaaGreatPart18
import Derived.Test.YtblcgbgcccjpcaaGreatPart20
import Derived.Test.YtblcgbgcccjpcaaGreatPart05
import Derived.Test.YtblcgbgcccjpcaaGreatPart06
namespace Go.Proofs.YtblcgbgcccjpcaaGreat
open Go.RowKit
set_option maxRecDepth 20000
namespace M
def doAll (l : List Wk) (d : Dd) : List Wk × Rp := if deedOk d then
    (if d.kind = 1 then doClaim l d else if d.kind = 2 then doPut l d else if d.kind = 3 then doVeil l d true else if d.kind = 4 then doVeil l d false else if d.kind = 5 then doFetch l d else doGive l d)
  else (l, (7, nilB))
end M
theorem OpOut.up {w W x : World} {B b R : Nat} {rs : List Wr} {p : List M.Wk × M.Rp} {e : Ending} (hb : Below w.heap.size w W) (hW : R < W.heap.size) (hlt : b < w.heap.size) (hlow : ∀ r ∈ rs, ∀ k, r.sl.ownBlock = some k → k < w.heap.size) (hR : w.heap.size ≤ R) (h : OpOut W B b rs p e x) :
    OpOut w B b rs p (.returned (rpV p.2.1 p.2.2)) ((x.setCell ⟨R, 0, none⟩ (.int .i64 p.2.1)).setCell ⟨R, 1, none⟩ (.string p.2.2)) := by
  obtain ⟨_, hg, ⟨n, D, hm⟩, hz⟩ := h
  refine ⟨rfl, grown_new (grown_new (grown_tr (grown_lw hb _) hg) hR _ _) hR _ _, ⟨n, D, ShM.set (ShM.set hm (by omega)) (by omega)⟩, fun h0 => ?_⟩
  obtain ⟨n', rs', h1, h2, h3, h4, h5⟩ := hz h0
  have hne : ∀ r ∈ rs', r.sl.ownBlock ≠ some R := fun r hr e => by
    rcases h5 r hr R e with h | ⟨y, hy, e'⟩
    · omega
    · have := hlow y hy R e'
      omega
  refine ⟨n', rs', ShM.set (ShM.set h1 (by omega)) (by omega), h2, (h3.set hne 0 _).set hne 1 _, h4, fun r hr k e => ?_⟩
  rcases h5 r hr k e with h | h
  · have := hb.size
    exact .inl (by omega)
  · exact .inr h

theorem results_tries (c : Int) (p : ByteArray) (R : Nat) (W : World) (tmps : Array Value) (h2 : tmps.getD 4 undef = .pointer (some ⟨R, 0, none⟩)) (hW : Holds W R (rpA c p)) :
    (results Tryz.f117 tmps).run Tryz.prog W = .ok (rpV c p) W := by
  obtain ⟨q0, q1⟩ := hW.two
  simp at h2
  simp [results, Tryz.results117, go_sem, h2, q0, q1]

set_option maxHeartbeats 4000000 in
theorem tries_1 (B b n : Nat) (rs : List Wr) (d : M.Dd) (w : World) (h : St w B b n rs) (hn : d.name.size ≤ 1048576) (hpg : d.page.size ≤ 1048576) (hok : M.deedOk d = true) (hk : d.kind = 1) :
    Calls Tryz.prog 117 #[.map (some b), ddV d] w (OpOut w B b rs (M.doAll (rs.map Wr.wk) d)) := by
  have HE : Hid (M.doAll (rs.map Wr.wk) d = M.doClaim (rs.map Wr.wk) d) := Lib.hid (by unfold M.doAll; rw [if_pos hok]; simp [hk])
  have HSH : Hid (shV d = .iface 209 (clV d)) := Lib.hid (by simp [shV, hk])
  have HPG := Lib.hid hpg
  clear hk
  obtain ⟨p, hp⟩ : ∃ p, M.doClaim (rs.map Wr.wk) d = p := ⟨_, rfl⟩
  have HP := Lib.hid hp
  clear hp
  have hm := ((Mem.start w).new (ddC d) 39).new (rpA 0 noP) 33
  have hst := h.below (((Below.refl w.heap.size w).alloc (Nat.le_refl _) (.cells (ddC d) 39)).alloc (by simp) (.cells (rpA 0 noP) 33))
  simp only [World.size_alloc] at hm
  have hlt : b < w.heap.size := by have := h.low; have := h.top; omega
  have HLOW : Hid (∀ r ∈ rs, ∀ k, r.sl.ownBlock = some k → k < w.heap.size) := Lib.hid (fun r hr k e => ((h.own.1 r hr).lt k e).2)
  clear h
  go_enter Tryz.func117, Tryz.ntmps117
  go_wp2_with fail
  have hcall := implDeedOk d ((w.alloc (.cells (ddC d) 39)).alloc (.cells (rpA 0 noP) 33)) (by unfold maxLen; omega) (by have := HPG.out; unfold maxLen; omega)
  rw [hok] at hcall
  refine hcall.mono ?_
  rintro e x1 ⟨rfl, b1⟩
  have hm1 := hm.below b1
  have hst1 := hst.below b1
  have hs1 := b1.size
  simp only [World.size_alloc] at hs1
  clear hcall hm hst b1 hok
  obtain ⟨q0, q1, q2, q3, q4, q5, q6⟩ := (hm1.get w.heap.size (ddC d) (by simp)).seven
  go_wp2_with fail
  refine (shapeOf_any d _).mono ?_
  rintro e x2 ⟨rfl, b2⟩
  rw [HSH.out]
  have hm2 := (hm1.below b2).new (#[.string d.name, .int .i64 d.who]) 209
  have hst2 := (hst1.below b2).alloc (.cells (#[.string d.name, .int .i64 d.who]) 209)
  have hs2 := b2.size
  have HM := Lib.hid hm2
  have HSTW := Lib.hid hst2
  clear hm1 hst1 hm2 hst2 b2 q0 q1 q2 q3 q4 q5 q6
  have as0 := as_cl_cl (clV d)
  go_wp2_with fail
  have hcall := claim_any B b n rs d _ HSTW.out hn
  rw [HP.out] at hcall
  refine hcall.mono ?_
  rintro e x3 ho
  obtain rfl := ho.1
  have hr4 := holds_by (HM.out.get (w.heap.size + 1) (rpA 0 noP) (by simp)) ho.2.1 (by omega)
  obtain ⟨r0, r1⟩ := hr4.two
  have z := loose_by (HM.out.loose (w.heap.size + 1) (by simp)) (HM.out.get (w.heap.size + 1) (rpA 0 noP) (by simp)).1 ho.2.1 (by omega)
  have z0 := z 0
  have z1 := z 1
  have HO := Lib.hid ho
  have HR4 := Lib.hid hr4
  clear hcall ho z hr4
  go_wp2
  refine bodyPost_ret (results_tries p.2.1 p.2.2 (w.heap.size + 1) _ _ rfl ?_) rfl (by rw [HE.out, HP.out]; exact OpOut.up HM.out.1 (by simp; omega) hlt HLOW.out (Nat.le_succ _) HO.out)
  simpa using ((HR4.out.putM 0 (.int .i64 p.2.1)).putM 1 (.string p.2.2))

set_option maxHeartbeats 4000000 in
theorem tries_2 (B b n : Nat) (rs : List Wr) (d : M.Dd) (w : World) (h : St w B b n rs) (hn : d.name.size ≤ 1048576) (hpg : d.page.size ≤ 1048576) (hok : M.deedOk d = true) (hk : d.kind = 2) :
    Calls Tryz.prog 117 #[.map (some b), ddV d] w (OpOut w B b rs (M.doAll (rs.map Wr.wk) d)) := by
  have HE : Hid (M.doAll (rs.map Wr.wk) d = M.doPut (rs.map Wr.wk) d) := Lib.hid (by unfold M.doAll; rw [if_pos hok]; simp [hk])
  have HSH : Hid (shV d = .iface 212 (puV d)) := Lib.hid (by simp [shV, hk])
  have HPG := Lib.hid hpg
  clear hk
  obtain ⟨p, hp⟩ : ∃ p, M.doPut (rs.map Wr.wk) d = p := ⟨_, rfl⟩
  have HP := Lib.hid hp
  clear hp
  have hm := ((Mem.start w).new (ddC d) 39).new (rpA 0 noP) 33
  have hst := h.below (((Below.refl w.heap.size w).alloc (Nat.le_refl _) (.cells (ddC d) 39)).alloc (by simp) (.cells (rpA 0 noP) 33))
  simp only [World.size_alloc] at hm
  have hlt : b < w.heap.size := by have := h.low; have := h.top; omega
  have HLOW : Hid (∀ r ∈ rs, ∀ k, r.sl.ownBlock = some k → k < w.heap.size) := Lib.hid (fun r hr k e => ((h.own.1 r hr).lt k e).2)
  clear h
  go_enter Tryz.func117, Tryz.ntmps117
  go_wp2_with fail
  have hcall := implDeedOk d ((w.alloc (.cells (ddC d) 39)).alloc (.cells (rpA 0 noP) 33)) (by unfold maxLen; omega) (by have := HPG.out; unfold maxLen; omega)
  rw [hok] at hcall
  refine hcall.mono ?_
  rintro e x1 ⟨rfl, b1⟩
  have hm1 := hm.below b1
  have hst1 := hst.below b1
  have hs1 := b1.size
  simp only [World.size_alloc] at hs1
  clear hcall hm hst b1 hok
  obtain ⟨q0, q1, q2, q3, q4, q5, q6⟩ := (hm1.get w.heap.size (ddC d) (by simp)).seven
  go_wp2_with fail
  refine (shapeOf_any d _).mono ?_
  rintro e x2 ⟨rfl, b2⟩
  rw [HSH.out]
  have hm2 := (hm1.below b2).new (#[.string d.name, .int .i64 d.ed.ma, .int .i64 d.ed.mi, .int .i64 d.ed.pa, .string d.page, .int .i64 d.who]) 212
  have hst2 := (hst1.below b2).alloc (.cells (#[.string d.name, .int .i64 d.ed.ma, .int .i64 d.ed.mi, .int .i64 d.ed.pa, .string d.page, .int .i64 d.who]) 212)
  have hs2 := b2.size
  have HM := Lib.hid hm2
  have HSTW := Lib.hid hst2
  clear hm1 hst1 hm2 hst2 b2 q0 q1 q2 q3 q4 q5 q6
  have as0 := as_pu_cl (puV d)
  have as1 := as_pu_pu (puV d)
  go_wp2_with fail
  have hcall := put_any B b n rs d _ HSTW.out hn HPG.out
  rw [HP.out] at hcall
  refine hcall.mono ?_
  rintro e x3 ho
  obtain rfl := ho.1
  have hr4 := holds_by (HM.out.get (w.heap.size + 1) (rpA 0 noP) (by simp)) ho.2.1 (by omega)
  obtain ⟨r0, r1⟩ := hr4.two
  have z := loose_by (HM.out.loose (w.heap.size + 1) (by simp)) (HM.out.get (w.heap.size + 1) (rpA 0 noP) (by simp)).1 ho.2.1 (by omega)
  have z0 := z 0
  have z1 := z 1
  have HO := Lib.hid ho
  have HR4 := Lib.hid hr4
  clear hcall ho z hr4
  go_wp2
  refine bodyPost_ret (results_tries p.2.1 p.2.2 (w.heap.size + 1) _ _ rfl ?_) rfl (by rw [HE.out, HP.out]; exact OpOut.up HM.out.1 (by simp; omega) hlt HLOW.out (Nat.le_succ _) HO.out)
  simpa using ((HR4.out.putM 0 (.int .i64 p.2.1)).putM 1 (.string p.2.2))

set_option maxHeartbeats 4000000 in
theorem tries_3 (B b n : Nat) (rs : List Wr) (d : M.Dd) (w : World) (h : St w B b n rs) (hn : d.name.size ≤ 1048576) (hpg : d.page.size ≤ 1048576) (hok : M.deedOk d = true) (hk : d.kind = 3) :
    Calls Tryz.prog 117 #[.map (some b), ddV d] w (OpOut w B b rs (M.doAll (rs.map Wr.wk) d)) := by
  have HE : Hid (M.doAll (rs.map Wr.wk) d = M.doVeil (rs.map Wr.wk) d true) := Lib.hid (by unfold M.doAll; rw [if_pos hok]; simp [hk])
  have HSH : Hid (shV d = .iface 215 (veV true d)) := Lib.hid (by simp [shV, hk])
  have HPG := Lib.hid hpg
  clear hk
  obtain ⟨p, hp⟩ : ∃ p, M.doVeil (rs.map Wr.wk) d true = p := ⟨_, rfl⟩
  have HP := Lib.hid hp
  clear hp
  have hm := ((Mem.start w).new (ddC d) 39).new (rpA 0 noP) 33
  have hst := h.below (((Below.refl w.heap.size w).alloc (Nat.le_refl _) (.cells (ddC d) 39)).alloc (by simp) (.cells (rpA 0 noP) 33))
  simp only [World.size_alloc] at hm
  have hlt : b < w.heap.size := by have := h.low; have := h.top; omega
  have HLOW : Hid (∀ r ∈ rs, ∀ k, r.sl.ownBlock = some k → k < w.heap.size) := Lib.hid (fun r hr k e => ((h.own.1 r hr).lt k e).2)
  clear h
  go_enter Tryz.func117, Tryz.ntmps117
  go_wp2_with fail
  have hcall := implDeedOk d ((w.alloc (.cells (ddC d) 39)).alloc (.cells (rpA 0 noP) 33)) (by unfold maxLen; omega) (by have := HPG.out; unfold maxLen; omega)
  rw [hok] at hcall
  refine hcall.mono ?_
  rintro e x1 ⟨rfl, b1⟩
  have hm1 := hm.below b1
  have hst1 := hst.below b1
  have hs1 := b1.size
  simp only [World.size_alloc] at hs1
  clear hcall hm hst b1 hok
  obtain ⟨q0, q1, q2, q3, q4, q5, q6⟩ := (hm1.get w.heap.size (ddC d) (by simp)).seven
  go_wp2_with fail
  refine (shapeOf_any d _).mono ?_
  rintro e x2 ⟨rfl, b2⟩
  rw [HSH.out]
  have hm2 := (hm1.below b2).new (#[.bool true, .string d.name, .int .i64 d.ed.ma, .int .i64 d.ed.mi, .int .i64 d.ed.pa, .int .i64 d.who]) 215
  have hst2 := (hst1.below b2).alloc (.cells (#[.bool true, .string d.name, .int .i64 d.ed.ma, .int .i64 d.ed.mi, .int .i64 d.ed.pa, .int .i64 d.who]) 215)
  have hs2 := b2.size
  have HM := Lib.hid hm2
  have HSTW := Lib.hid hst2
  clear hm1 hst1 hm2 hst2 b2 q0 q1 q2 q3 q4 q5 q6
  have as0 := as_ve_cl (veV true d)
  have as1 := as_ve_pu (veV true d)
  have as2 := as_ve_ve (veV true d)
  go_wp2_with fail
  have hcall := veil_any B b n rs d true _ HSTW.out hn
  rw [HP.out] at hcall
  refine hcall.mono ?_
  rintro e x3 ho
  obtain rfl := ho.1
  have hr4 := holds_by (HM.out.get (w.heap.size + 1) (rpA 0 noP) (by simp)) ho.2.1 (by omega)
  obtain ⟨r0, r1⟩ := hr4.two
  have z := loose_by (HM.out.loose (w.heap.size + 1) (by simp)) (HM.out.get (w.heap.size + 1) (rpA 0 noP) (by simp)).1 ho.2.1 (by omega)
  have z0 := z 0
  have z1 := z 1
  have HO := Lib.hid ho
  have HR4 := Lib.hid hr4
  clear hcall ho z hr4
  go_wp2
  refine bodyPost_ret (results_tries p.2.1 p.2.2 (w.heap.size + 1) _ _ rfl ?_) rfl (by rw [HE.out, HP.out]; exact OpOut.up HM.out.1 (by simp; omega) hlt HLOW.out (Nat.le_succ _) HO.out)
  simpa using ((HR4.out.putM 0 (.int .i64 p.2.1)).putM 1 (.string p.2.2))

set_option maxHeartbeats 4000000 in
theorem tries_4 (B b n : Nat) (rs : List Wr) (d : M.Dd) (w : World) (h : St w B b n rs) (hn : d.name.size ≤ 1048576) (hpg : d.page.size ≤ 1048576) (hok : M.deedOk d = true) (hk : d.kind = 4) :
    Calls Tryz.prog 117 #[.map (some b), ddV d] w (OpOut w B b rs (M.doAll (rs.map Wr.wk) d)) := by
  have HE : Hid (M.doAll (rs.map Wr.wk) d = M.doVeil (rs.map Wr.wk) d false) := Lib.hid (by unfold M.doAll; rw [if_pos hok]; simp [hk])
  have HSH : Hid (shV d = .iface 215 (veV false d)) := Lib.hid (by simp [shV, hk])
  have HPG := Lib.hid hpg
  clear hk
  obtain ⟨p, hp⟩ : ∃ p, M.doVeil (rs.map Wr.wk) d false = p := ⟨_, rfl⟩
  have HP := Lib.hid hp
  clear hp
  have hm := ((Mem.start w).new (ddC d) 39).new (rpA 0 noP) 33
  have hst := h.below (((Below.refl w.heap.size w).alloc (Nat.le_refl _) (.cells (ddC d) 39)).alloc (by simp) (.cells (rpA 0 noP) 33))
  simp only [World.size_alloc] at hm
  have hlt : b < w.heap.size := by have := h.low; have := h.top; omega
  have HLOW : Hid (∀ r ∈ rs, ∀ k, r.sl.ownBlock = some k → k < w.heap.size) := Lib.hid (fun r hr k e => ((h.own.1 r hr).lt k e).2)
  clear h
  go_enter Tryz.func117, Tryz.ntmps117
  go_wp2_with fail
  have hcall := implDeedOk d ((w.alloc (.cells (ddC d) 39)).alloc (.cells (rpA 0 noP) 33)) (by unfold maxLen; omega) (by have := HPG.out; unfold maxLen; omega)
  rw [hok] at hcall
  refine hcall.mono ?_
  rintro e x1 ⟨rfl, b1⟩
  have hm1 := hm.below b1
  have hst1 := hst.below b1
  have hs1 := b1.size
  simp only [World.size_alloc] at hs1
  clear hcall hm hst b1 hok
  obtain ⟨q0, q1, q2, q3, q4, q5, q6⟩ := (hm1.get w.heap.size (ddC d) (by simp)).seven
  go_wp2_with fail
  refine (shapeOf_any d _).mono ?_
  rintro e x2 ⟨rfl, b2⟩
  rw [HSH.out]
  have hm2 := (hm1.below b2).new (#[.bool false, .string d.name, .int .i64 d.ed.ma, .int .i64 d.ed.mi, .int .i64 d.ed.pa, .int .i64 d.who]) 215
  have hst2 := (hst1.below b2).alloc (.cells (#[.bool false, .string d.name, .int .i64 d.ed.ma, .int .i64 d.ed.mi, .int .i64 d.ed.pa, .int .i64 d.who]) 215)
  have hs2 := b2.size
  have HM := Lib.hid hm2
  have HSTW := Lib.hid hst2
  clear hm1 hst1 hm2 hst2 b2 q0 q1 q2 q3 q4 q5 q6
  have as0 := as_ve_cl (veV false d)
  have as1 := as_ve_pu (veV false d)
  have as2 := as_ve_ve (veV false d)
  go_wp2_with fail
  have hcall := veil_any B b n rs d false _ HSTW.out hn
  rw [HP.out] at hcall
  refine hcall.mono ?_
  rintro e x3 ho
  obtain rfl := ho.1
  have hr4 := holds_by (HM.out.get (w.heap.size + 1) (rpA 0 noP) (by simp)) ho.2.1 (by omega)
  obtain ⟨r0, r1⟩ := hr4.two
  have z := loose_by (HM.out.loose (w.heap.size + 1) (by simp)) (HM.out.get (w.heap.size + 1) (rpA 0 noP) (by simp)).1 ho.2.1 (by omega)
  have z0 := z 0
  have z1 := z 1
  have HO := Lib.hid ho
  have HR4 := Lib.hid hr4
  clear hcall ho z hr4
  go_wp2
  refine bodyPost_ret (results_tries p.2.1 p.2.2 (w.heap.size + 1) _ _ rfl ?_) rfl (by rw [HE.out, HP.out]; exact OpOut.up HM.out.1 (by simp; omega) hlt HLOW.out (Nat.le_succ _) HO.out)
  simpa using ((HR4.out.putM 0 (.int .i64 p.2.1)).putM 1 (.string p.2.2))

set_option maxHeartbeats 4000000 in
theorem tries_5 (B b n : Nat) (rs : List Wr) (d : M.Dd) (w : World) (h : St w B b n rs) (hn : d.name.size ≤ 1048576) (hpg : d.page.size ≤ 1048576) (hok : M.deedOk d = true) (hk : d.kind = 5) :
    Calls Tryz.prog 117 #[.map (some b), ddV d] w (OpOut w B b rs (M.doAll (rs.map Wr.wk) d)) := by
  have HE : Hid (M.doAll (rs.map Wr.wk) d = M.doFetch (rs.map Wr.wk) d) := Lib.hid (by unfold M.doAll; rw [if_pos hok]; simp [hk])
  have HSH : Hid (shV d = .iface 218 (feV d)) := Lib.hid (by simp [shV, hk])
  have HPG := Lib.hid hpg
  clear hk
  obtain ⟨p, hp⟩ : ∃ p, M.doFetch (rs.map Wr.wk) d = p := ⟨_, rfl⟩
  have HP := Lib.hid hp
  clear hp
  have hm := ((Mem.start w).new (ddC d) 39).new (rpA 0 noP) 33
  have hst := h.below (((Below.refl w.heap.size w).alloc (Nat.le_refl _) (.cells (ddC d) 39)).alloc (by simp) (.cells (rpA 0 noP) 33))
  simp only [World.size_alloc] at hm
  have hlt : b < w.heap.size := by have := h.low; have := h.top; omega
  have HLOW : Hid (∀ r ∈ rs, ∀ k, r.sl.ownBlock = some k → k < w.heap.size) := Lib.hid (fun r hr k e => ((h.own.1 r hr).lt k e).2)
  clear h
  go_enter Tryz.func117, Tryz.ntmps117
  go_wp2_with fail
  have hcall := implDeedOk d ((w.alloc (.cells (ddC d) 39)).alloc (.cells (rpA 0 noP) 33)) (by unfold maxLen; omega) (by have := HPG.out; unfold maxLen; omega)
  rw [hok] at hcall
  refine hcall.mono ?_
  rintro e x1 ⟨rfl, b1⟩
  have hm1 := hm.below b1
  have hst1 := hst.below b1
  have hs1 := b1.size
  simp only [World.size_alloc] at hs1
  clear hcall hm hst b1 hok
  obtain ⟨q0, q1, q2, q3, q4, q5, q6⟩ := (hm1.get w.heap.size (ddC d) (by simp)).seven
  go_wp2_with fail
  refine (shapeOf_any d _).mono ?_
  rintro e x2 ⟨rfl, b2⟩
  rw [HSH.out]
  have hm2 := (hm1.below b2).new (#[.string d.name, .int .i64 d.ed.ma, .int .i64 d.ed.mi, .int .i64 d.ed.pa]) 218
  have hst2 := (hst1.below b2).alloc (.cells (#[.string d.name, .int .i64 d.ed.ma, .int .i64 d.ed.mi, .int .i64 d.ed.pa]) 218)
  have hs2 := b2.size
  have HM := Lib.hid hm2
  have HSTW := Lib.hid hst2
  clear hm1 hst1 hm2 hst2 b2 q0 q1 q2 q3 q4 q5 q6
  have as0 := as_fe_cl (feV d)
  have as1 := as_fe_pu (feV d)
  have as2 := as_fe_ve (feV d)
  have as3 := as_fe_fe (feV d)
  go_wp2_with fail
  have hcall := fetch_any B b n rs d _ HSTW.out hn
  rw [HP.out] at hcall
  refine hcall.mono ?_
  rintro e x3 ho
  obtain rfl := ho.1
  have hr4 := holds_by (HM.out.get (w.heap.size + 1) (rpA 0 noP) (by simp)) ho.2.1 (by omega)
  obtain ⟨r0, r1⟩ := hr4.two
  have z := loose_by (HM.out.loose (w.heap.size + 1) (by simp)) (HM.out.get (w.heap.size + 1) (rpA 0 noP) (by simp)).1 ho.2.1 (by omega)
  have z0 := z 0
  have z1 := z 1
  have HO := Lib.hid ho
  have HR4 := Lib.hid hr4
  clear hcall ho z hr4
  go_wp2
  refine bodyPost_ret (results_tries p.2.1 p.2.2 (w.heap.size + 1) _ _ rfl ?_) rfl (by rw [HE.out, HP.out]; exact OpOut.up HM.out.1 (by simp; omega) hlt HLOW.out (Nat.le_succ _) HO.out)
  simpa using ((HR4.out.putM 0 (.int .i64 p.2.1)).putM 1 (.string p.2.2))

set_option maxHeartbeats 4000000 in
theorem tries_6 (B b n : Nat) (rs : List Wr) (d : M.Dd) (w : World) (h : St w B b n rs) (hn : d.name.size ≤ 1048576) (hpg : d.page.size ≤ 1048576) (hok : M.deedOk d = true) (hk : d.kind = 6) :
    Calls Tryz.prog 117 #[.map (some b), ddV d] w (OpOut w B b rs (M.doAll (rs.map Wr.wk) d)) := by
  have HE : Hid (M.doAll (rs.map Wr.wk) d = M.doGive (rs.map Wr.wk) d) := Lib.hid (by unfold M.doAll; rw [if_pos hok]; simp [hk])
  have HSH : Hid (shV d = .iface 221 (giV d)) := Lib.hid (by simp [shV, hk])
  have HPG := Lib.hid hpg
  clear hk
  obtain ⟨p, hp⟩ : ∃ p, M.doGive (rs.map Wr.wk) d = p := ⟨_, rfl⟩
  have HP := Lib.hid hp
  clear hp
  have hm := ((Mem.start w).new (ddC d) 39).new (rpA 0 noP) 33
  have hst := h.below (((Below.refl w.heap.size w).alloc (Nat.le_refl _) (.cells (ddC d) 39)).alloc (by simp) (.cells (rpA 0 noP) 33))
  simp only [World.size_alloc] at hm
  have hlt : b < w.heap.size := by have := h.low; have := h.top; omega
  have HLOW : Hid (∀ r ∈ rs, ∀ k, r.sl.ownBlock = some k → k < w.heap.size) := Lib.hid (fun r hr k e => ((h.own.1 r hr).lt k e).2)
  clear h
  go_enter Tryz.func117, Tryz.ntmps117
  go_wp2_with fail
  have hcall := implDeedOk d ((w.alloc (.cells (ddC d) 39)).alloc (.cells (rpA 0 noP) 33)) (by unfold maxLen; omega) (by have := HPG.out; unfold maxLen; omega)
  rw [hok] at hcall
  refine hcall.mono ?_
  rintro e x1 ⟨rfl, b1⟩
  have hm1 := hm.below b1
  have hst1 := hst.below b1
  have hs1 := b1.size
  simp only [World.size_alloc] at hs1
  clear hcall hm hst b1 hok
  obtain ⟨q0, q1, q2, q3, q4, q5, q6⟩ := (hm1.get w.heap.size (ddC d) (by simp)).seven
  go_wp2_with fail
  refine (shapeOf_any d _).mono ?_
  rintro e x2 ⟨rfl, b2⟩
  rw [HSH.out]
  have hm2 := (hm1.below b2).new (#[.string d.name, .int .i64 d.who, .int .i64 d.ed.ma]) 221
  have hst2 := (hst1.below b2).alloc (.cells (#[.string d.name, .int .i64 d.who, .int .i64 d.ed.ma]) 221)
  have hs2 := b2.size
  have HM := Lib.hid hm2
  have HSTW := Lib.hid hst2
  clear hm1 hst1 hm2 hst2 b2 q0 q1 q2 q3 q4 q5 q6
  have as0 := as_gi_cl (giV d)
  have as1 := as_gi_pu (giV d)
  have as2 := as_gi_ve (giV d)
  have as3 := as_gi_fe (giV d)
  have as4 := as_gi_gi (giV d)
  go_wp2_with fail
  have hcall := give_any B b n rs d _ HSTW.out hn
  rw [HP.out] at hcall
  refine hcall.mono ?_
  rintro e x3 ho
  obtain rfl := ho.1
  have hr4 := holds_by (HM.out.get (w.heap.size + 1) (rpA 0 noP) (by simp)) ho.2.1 (by omega)
  obtain ⟨r0, r1⟩ := hr4.two
  have z := loose_by (HM.out.loose (w.heap.size + 1) (by simp)) (HM.out.get (w.heap.size + 1) (rpA 0 noP) (by simp)).1 ho.2.1 (by omega)
  have z0 := z 0
  have z1 := z 1
  have HO := Lib.hid ho
  have HR4 := Lib.hid hr4
  clear hcall ho z hr4
  go_wp2
  refine bodyPost_ret (results_tries p.2.1 p.2.2 (w.heap.size + 1) _ _ rfl ?_) rfl (by rw [HE.out, HP.out]; exact OpOut.up HM.out.1 (by simp; omega) hlt HLOW.out (Nat.le_succ _) HO.out)
  simpa using ((HR4.out.putM 0 (.int .i64 p.2.1)).putM 1 (.string p.2.2))

set_option maxHeartbeats 4000000 in
theorem tries_bad (B b n : Nat) (rs : List Wr) (d : M.Dd) (w : World) (h : St w B b n rs) (hn : d.name.size ≤ 1048576) (hpg : d.page.size ≤ 1048576) (hok : M.deedOk d = false) :
    Calls Tryz.prog 117 #[.map (some b), ddV d] w (OpOut w B b rs (M.doAll (rs.map Wr.wk) d)) := by
  have HE : Hid ((M.doAll (rs.map Wr.wk) d).2 = ((7 : Int), M.nilB)) := Lib.hid (by simp [M.doAll, hok])
  have hm := ((Mem.start w).new (ddC d) 39).new (rpA 0 noP) 33
  have hst := h.below (((Below.refl w.heap.size w).alloc (Nat.le_refl _) (.cells (ddC d) 39)).alloc (by simp) (.cells (rpA 0 noP) 33))
  simp only [World.size_alloc] at hm
  have hlt : b < w.heap.size := by have := h.low; have := h.top; omega
  clear h
  go_enter Tryz.func117, Tryz.ntmps117
  go_wp2_with fail
  have hcall := implDeedOk d ((w.alloc (.cells (ddC d) 39)).alloc (.cells (rpA 0 noP) 33)) (by unfold maxLen; omega) (by unfold maxLen; omega)
  rw [hok] at hcall
  refine hcall.mono ?_
  rintro e x1 ⟨rfl, b1⟩
  have hm1 := hm.below b1
  have hst1 := hst.below b1
  clear hcall hm hst b1 hok
  obtain ⟨r0, r1⟩ := (hm1.get (w.heap.size + 1) (rpA 0 noP) (by simp)).two
  have z0 := hm1.loose (w.heap.size + 1) (by simp) 0
  have z1 := hm1.loose (w.heap.size + 1) (by simp) 1
  have HM := Lib.hid hm1
  have HST := Lib.hid hst1
  clear hm1 hst1
  go_wp2
  refine bodyPost_ret (results_tries 7 noP (w.heap.size + 1) _ _ rfl ?_) rfl (OpOut.bad HM.out.1 HST.out.map hlt HE.out (by decide) (Nat.le_succ _))
  simpa using (((HM.out.get (w.heap.size + 1) (rpA 0 noP) (by simp)).putM 0 (.int .i64 7)).putM 1 (.string noP))

theorem deedOk_kind {d : M.Dd} (h : M.deedOk d = true) : d.kind = 1 ∨ d.kind = 2 ∨ d.kind = 3 ∨ d.kind = 4 ∨ d.kind = 5 ∨ d.kind = 6 := by
  by_cases h' : 1 ≤ d.kind ∧ d.kind ≤ 6
  · omega
  · rw [ok_none d h'] at h; cases h
theorem tries_any (B b n : Nat) (rs : List Wr) (d : M.Dd) (w : World) (h : St w B b n rs) (hn : d.name.size ≤ 1048576) (hpg : d.page.size ≤ 1048576) :
    Calls Tryz.prog 117 #[.map (some b), ddV d] w (OpOut w B b rs (M.doAll (rs.map Wr.wk) d)) := by
  rcases hok : M.deedOk d with _ | _
  · exact tries_bad B b n rs d w h hn hpg hok
  · rcases deedOk_kind hok with hk | hk | hk | hk | hk | hk
    · exact tries_1 B b n rs d w h hn hpg hok hk
    · exact tries_2 B b n rs d w h hn hpg hok hk
    · exact tries_3 B b n rs d w h hn hpg hok hk
    · exact tries_4 B b n rs d w h hn hpg hok hk
    · exact tries_5 B b n rs d w h hn hpg hok hk
    · exact tries_6 B b n rs d w h hn hpg hok hk
end Go.Proofs.YtblcgbgcccjpcaaGreat
namespace Go.Proofs.YtblcgbgcccjpcaaGreat
open Go.RowKit
theorem own_set {B g : Nat} {w : World} {t : TypeId} {kk n : Nat} {v : Value} {C : List Value} (h : w.ownsRow B t kk v n C) (hg : g < B) (i : Nat) (u : Value) : (w.setCell ⟨g, i, none⟩ u).ownsRow B t kk v n C := by
  obtain ⟨hl, h0 | ⟨k, cap, cur, rfl, hb, hh, hr⟩⟩ := h
  · exact ⟨hl, .inl h0⟩
  · exact ⟨hl, .inr ⟨k, cap, cur, rfl, hb, (Below.heap_setCell _ _ _ _ (by show k ≠ g; omega)).trans hh, hr⟩⟩
theorem SfOwn.set {B g : Nat} {w : World} {v : Value} {l : List Wr} (h : SfOwn B w v l) (hg : g < B) (i : Nat) (u : Value) : SfOwn B (w.setCell ⟨g, i, none⟩ u) v l :=
  ⟨own_set h.1 hg i u, fun r hr => own_set (h.2.1 r hr) hg i u, h.2.2⟩
end Go.Proofs.YtblcgbgcccjpcaaGreat
namespace Go.Proofs.YtblcgbgcccjpcaaGreat
open Go.RowKit
set_option maxRecDepth 20000
namespace M
/-- What a deed leaves, all as it was where it is refused. -/
def keptD (l : List Wk) (d : Dd) : List Wk × Rp := (if (doAll l d).2.1 = 0 then (doAll l d).1 else l, (doAll l d).2)
def does (s : List Wk) (d : Dd) : List Wk × Rp := if sfOk s then (if (doAll s d).2.1 = 0 then (doAll s d).1 else s, (doAll s d).2) else ([], (7, nilB))
def Near (l : List Wk) (d : Dd) (m : List Wk) : Prop := m.length ≤ l.length + 1 ∧ ∀ x ∈ m, x.name = d.name ∨ ∃ y ∈ l, x.name = y.name
theorem near_self (l : List Wk) (d : Dd) : Near l d l := ⟨Nat.le_succ _, fun x hx => .inr ⟨x, hx, rfl⟩⟩
theorem insN_mem {w x : Wk} : ∀ {l : List Wk}, x ∈ insN w l → x = w ∨ x ∈ l
  | [], h => .inl (by simpa [insN] using h)
  | y :: l, h => by
    unfold insN at h
    split at h
    · rcases List.mem_cons.1 h with h | h
      · exact .inl h
      · exact .inr h
    · rcases List.mem_cons.1 h with h | h
      · exact .inr (by rw [h]; simp)
      · rcases insN_mem h with h | h
        · exact .inl h
        · exact .inr (List.mem_cons_of_mem _ h)
theorem insN_length (w : Wk) : ∀ l : List Wk, (insN w l).length = l.length + 1
  | [] => rfl
  | y :: l => by
    unfold insN
    split
    · rfl
    · simp [insN_length w l]
theorem near_put {l : List Wk} {d : Dd} {w : Wk} (h : w.name = d.name ∨ ∃ y ∈ l, w.name = y.name) : Near l d (putN l w) := by
  refine ⟨?_, fun x hx => ?_⟩
  · unfold putN
    rw [insN_length]
    have := List.length_filter_le (fun x : Wk => !(x.name.data.toList == w.name.data.toList)) l
    omega
  · rcases insN_mem hx with rfl | hx
    · exact h
    · exact .inr ⟨x, (List.mem_filter.1 hx).1, rfl⟩
theorem getN_mem {l : List Wk} {n : ByteArray} {w : Wk} (h : getN l n = some w) : w ∈ l := List.mem_of_find?_eq_some h
theorem near_doPut (l : List Wk) (d : Dd) : Near l d (doPut l d).1 := by
  unfold doPut
  split
  · exact near_self l d
  · rename_i w hw
    split
    · split
      · exact near_self l d
      · split
        · rename_i h
          exact near_put (.inr ⟨w, getN_mem hw, printed_name h⟩)
        · exact near_self l d
    · exact near_self l d
theorem near_doVeil (l : List Wk) (d : Dd) (b : Bool) : Near l d (doVeil l d b).1 := by
  unfold doVeil
  split
  · exact near_self l d
  · rename_i w hw
    split
    · split
      · rename_i h
        exact near_put (.inr ⟨w, getN_mem hw, veiled_name h⟩)
      · exact near_self l d
    · exact near_self l d
theorem near_doGive (l : List Wk) (d : Dd) : Near l d (doGive l d).1 := by
  unfold doGive
  split
  · split
    · exact near_self l d
    · rename_i w hw
      split
      · exact near_put (.inr ⟨w, getN_mem hw, rfl⟩)
      · exact near_self l d
  · exact near_self l d
theorem near_doFetch (l : List Wk) (d : Dd) : Near l d (doFetch l d).1 := by
  unfold doFetch
  split
  · exact near_self l d
  · split
    · split <;> exact near_self l d
    · exact near_self l d
theorem near_doClaim (l : List Wk) (d : Dd) : Near l d (doClaim l d).1 := by
  unfold doClaim
  split
  · exact near_self l d
  · split
    · exact near_self l d
    · exact near_put (.inl rfl)
theorem near_doAll (l : List Wk) (d : Dd) : Near l d (doAll l d).1 := by
  unfold doAll
  split
  · split
    · exact near_doClaim l d
    · split
      · exact near_doPut l d
      · split
        · exact near_doVeil l d true
        · split
          · exact near_doVeil l d false
          · split
            · exact near_doFetch l d
            · exact near_doGive l d
  · exact near_self l d
theorem near_keptD (l : List Wk) (d : Dd) : Near l d (keptD l d).1 := by
  show Near l d (if (doAll l d).2.1 = 0 then (doAll l d).1 else l)
  split
  · exact near_doAll l d
  · exact near_self l d
end M

theorem rise_of : ∀ {l : List Wr}, M.risesN (l.map Wr.wk) = true → RiseW l
  | [], _ => List.Pairwise.nil
  | [a], _ => List.pairwise_singleton _ _
  | a :: b :: l, h => by
    have h1 : M.nameLt a.name b.name = true ∧ M.risesN ((b :: l).map Wr.wk) = true := by
      have h' : (M.nameLt a.name b.name && M.risesN ((b :: l).map Wr.wk)) = true := h
      simpa using h'
    have ih := rise_of (l := b :: l) h1.2
    have hab : bytesBefore (nmL a) (nmL b) = true := (before_name a.name b.name).trans h1.1
    refine List.pairwise_cons.2 ⟨fun x hx => ?_, ih⟩
    rcases List.mem_cons.1 hx with e | hx
    · rw [e]; exact hab
    · exact before_trans hab ((List.pairwise_cons.1 ih).1 x hx)
theorem sfOk_rise {l : List Wr} (h : M.sfOk (l.map Wr.wk) = true) : RiseW l ∧ l.length ≤ 5 := by
  unfold M.sfOk at h
  simp only [Bool.and_eq_true, decide_eq_true_eq, List.length_map] at h
  exact ⟨rise_of h.2.2, h.1⟩
theorem rise_same {l rs : List Wr} (h : rs.map Wr.wk = l.map Wr.wk) (hr : RiseW l) : RiseW rs := by
  have e : rs.map nmL = l.map nmL := by
    have := congrArg (List.map fun k : M.Wk => k.name.data.toList) h
    rw [List.map_map, List.map_map] at this
    exact this
  have h1 : (l.map nmL).Pairwise fun a b => bytesBefore a b = true := List.pairwise_map.2 hr
  rw [← e] at h1
  exact List.pairwise_map.1 h1
theorem wrs_same {l rs : List Wr} {n : Nat} (h : rs.map Wr.wk = l.map Wr.wk) (hp : WrsIn n l) : WrsIn n rs := fun r hr => by
  have h1 : r.wk ∈ l.map Wr.wk := h ▸ List.mem_map_of_mem hr
  obtain ⟨x, hx, e⟩ := List.mem_map.1 h1
  have h2 := hp x hx
  have e1 : x.name = r.name := congrArg M.Wk.name e
  have e2 : x.cps = r.cps := congrArg M.Wk.copies e
  rw [e1, e2] at h2
  exact h2
theorem length_same {l rs : List Wr} (h : rs.map Wr.wk = l.map Wr.wk) : rs.length = l.length := by simpa using congrArg List.length h
theorem near_names {l rs' : List Wr} {d : M.Dd} {m : List M.Wk} (h : M.Near (l.map Wr.wk) d m) (e : rs'.map Wr.wk = m) (hl : l.length ≤ 5) (hp : WrsIn 1048576 l) (hn : d.name.size ≤ 1048576) : rs'.length ≤ 1000 ∧ ∀ r ∈ rs', r.name.size ≤ 1048576 := by
  subst e
  refine ⟨?_, fun r hr => ?_⟩
  · have := h.1
    simp only [List.length_map] at this
    omega
  · rcases h.2 r.wk (List.mem_map_of_mem hr) with e | ⟨y, hy, e⟩
    · rw [show r.name = d.name from e]; exact hn
    · obtain ⟨x, hx, rfl⟩ := List.mem_map.1 hy
      rw [show r.name = x.name from e]
      exact (hp x hx).1

theorem own_by {b g : Nat} {x y : World} {t : TypeId} {kk n : Nat} {v : Value} {C : List Value} (h : x.ownsRow b t kk v n C) (hg : x.grownBy y (some g)) (hb : g < b) : y.ownsRow b t kk v n C := by
  obtain ⟨hl, h0 | ⟨k, cap, cur, rfl, hk, hh, hr⟩⟩ := h
  · exact ⟨hl, .inl h0⟩
  · refine ⟨hl, .inr ⟨k, cap, cur, rfl, hk, (hg.block k (Array.getElem?_eq_some_iff.1 hh).1 ?_).trans hh, hr⟩⟩
    intro e
    injection e with e
    omega
theorem SfOwn.by {B g : Nat} {w w' : World} {v : Value} {l : List Wr} (h : SfOwn B w v l) (hg : w.grownBy w' (some g)) (hb : g < B) : SfOwn B w' v l :=
  ⟨own_by h.1 hg hb, fun r hr => cp_by (h.2.1 r hr) hg hb, h.2.2⟩
theorem Mem.by {w0 : World} {b : Nat} {hs : List (Nat × Array Value)} {ls : List Nat} {x y : World} (h : Mem w0 hs ls x) (hg : x.grownBy y (some b)) (hb : w0.heap.size ≤ b) (hne : ∀ p ∈ hs, p.1 ≠ b) (hnl : ∀ g ∈ ls, g ≠ b) : Mem w0 hs ls y :=
  ⟨h.1.grown hg h.1.size (fun k e => by cases e; exact hb), fun p hp => holds_by (h.2.1 p hp) hg (hne p hp), fun g hp => ⟨Nat.lt_of_lt_of_le (h.2.2 g hp).1 hg.size, loose_by (h.2.2 g hp).2 (h.2.2 g hp).1 hg (hnl g hp)⟩⟩
end Go.Proofs.YtblcgbgcccjpcaaGreat
