/- Proved, in parts: Proved: the program's tries on the map of works answers a plain Lean function; it writes the map's block alone. Condition: texts of at most a million bytes. Proved: what a block's write leaves of rows that lie elsewhere. No program is named here; no condition. -/
import Derived.Test.YtdcdalbbjfjadaaGreatDoorPart21
import Derived.Test.YtdcdalbbjfjadaaGreatDoorPart23
import Derived.Test.YtdcdalbbjfjadaaGreatDoorPart07
namespace Go.Proofs.YtdcdalbbjfjadaaGreatDoor
open Go.RowKit
set_option maxRecDepth 20000
namespace M
def doAll (l : List Wk) (d : Dd) : List Wk × Rp := if deedOk d then
    (if d.kind = 1 then doClaim l d else if d.kind = 2 then doPut l d else if d.kind = 3 then doVeil l d true else if d.kind = 4 then doVeil l d false else if d.kind = 5 then doFetch l d else doGive l d)
  else (l, (7, nilB))
end M
theorem OpOut.up {w W x : World} {B b R : Nat} {rs : List Wr} {p : List M.Wk × M.Rp} {e : Ending} (hb : Below w.heap.size w W) (hW : R < W.heap.size) (hlt : b < w.heap.size) (hlow : ∀ r ∈ rs, ∀ k, r.sl.ownBlock = some k → k < w.heap.size) (hR : w.heap.size ≤ R) (h : OpOut W B b rs p e x) :
    OpOut w B b rs p (.returned (rpV p.2.1 p.2.2)) ((x.setCell ⟨R, 0, none⟩ (.int .i64 p.2.1)).setCell ⟨R, 1, none⟩ (.string p.2.2)) := by
  obtain ⟨_, hg, ⟨n, D, hm⟩, hz⟩ := h
  refine ⟨rfl, grown_new (grown_new (grown_tr (grown_lw hb _) hg) hR _ _) hR _ _, ⟨n, D, ShM.set (ShM.set hm (by omega)) (by omega)⟩, fun h0 => ?_⟩
  obtain ⟨n', rs', h1, h2, h3, h4, h5⟩ := hz h0
  have hne : ∀ r ∈ rs', r.sl.ownBlock ≠ some R := fun r hr e => by
    rcases h5 r hr R e with h | ⟨y, hy, e'⟩
    · omega
    · have := hlow y hy R e'
      omega
  refine ⟨n', rs', ShM.set (ShM.set h1 (by omega)) (by omega), h2, (h3.set hne 0 _).set hne 1 _, h4, fun r hr k e => ?_⟩
  rcases h5 r hr k e with h | h
  · have := hb.size
    exact .inl (by omega)
  · exact .inr h

theorem results_tries (c : Int) (p : ByteArray) (R : Nat) (W : World) (tmps : Array Value) (h2 : tmps.getD 4 undef = .pointer (some ⟨R, 0, none⟩)) (hW : Holds W R (rpA c p)) :
    (results Tryz.f54 tmps).run Tryz.prog W = .ok (rpV c p) W := by
  obtain ⟨q0, q1⟩ := hW.two
  simp at h2
  simp [results, Tryz.results54, go_sem, h2, q0, q1]

set_option maxHeartbeats 4000000 in
theorem tries_1 (B b n : Nat) (rs : List Wr) (d : M.Dd) (w : World) (h : St w B b n rs) (hn : d.name.size ≤ 1048576) (hpg : d.page.size ≤ 1048576) (hok : M.deedOk d = true) (hk : d.kind = 1) :
    Calls Tryz.prog 54 #[.map (some b), ddV d] w (OpOut w B b rs (M.doAll (rs.map Wr.wk) d)) := by
  have HE : Hid (M.doAll (rs.map Wr.wk) d = M.doClaim (rs.map Wr.wk) d) := Lib.hid (by unfold M.doAll; rw [if_pos hok]; simp [hk])
  have HSH : Hid (shV d = .iface 120 (clV d)) := Lib.hid (by simp [shV, hk])
  have HPG := Lib.hid hpg
  clear hk
  obtain ⟨p, hp⟩ : ∃ p, M.doClaim (rs.map Wr.wk) d = p := ⟨_, rfl⟩
  have HP := Lib.hid hp
  clear hp
  have hm := ((Mem.start w).new (ddC d) 28).new (rpA 0 noP) 32
  have hst := h.below (((Below.refl w.heap.size w).alloc (Nat.le_refl _) (.cells (ddC d) 28)).alloc (by simp) (.cells (rpA 0 noP) 32))
  simp only [World.size_alloc] at hm
  have hlt : b < w.heap.size := by have := h.low; have := h.top; omega
  have HLOW : Hid (∀ r ∈ rs, ∀ k, r.sl.ownBlock = some k → k < w.heap.size) := Lib.hid (fun r hr k e => ((h.own.1 r hr).lt k e).2)
  clear h
  go_enter Tryz.func54, Tryz.ntmps54
  go_wp2_with fail
  have hcall := implDeedOk d ((w.alloc (.cells (ddC d) 28)).alloc (.cells (rpA 0 noP) 32)) (by unfold maxLen; omega) (by have := HPG.out; unfold maxLen; omega)
  rw [hok] at hcall
  refine hcall.mono ?_
  rintro e x1 ⟨rfl, b1⟩
  have hm1 := hm.below b1
  have hst1 := hst.below b1
  have hs1 := b1.size
  simp only [World.size_alloc] at hs1
  clear hcall hm hst b1 hok
  obtain ⟨q0, q1, q2, q3, q4, q5, q6⟩ := (hm1.get w.heap.size (ddC d) (by simp)).seven
  go_wp2_with fail
  refine (shapeOf_any d _).mono ?_
  rintro e x2 ⟨rfl, b2⟩
  rw [HSH.out]
  have hm2 := (hm1.below b2).new (#[.string d.name, .int .i64 d.who]) 120
  have hst2 := (hst1.below b2).alloc (.cells (#[.string d.name, .int .i64 d.who]) 120)
  have hs2 := b2.size
  have HM := Lib.hid hm2
  have HSTW := Lib.hid hst2
  clear hm1 hst1 hm2 hst2 b2 q0 q1 q2 q3 q4 q5 q6
  have as0 := as_cl_cl (clV d)
  go_wp2_with fail
  have hcall := claim_any B b n rs d _ HSTW.out hn
  rw [HP.out] at hcall
  refine hcall.mono ?_
  rintro e x3 ho
  obtain rfl := ho.1
  have hr4 := holds_by (HM.out.get (w.heap.size + 1) (rpA 0 noP) (by simp)) ho.2.1 (by omega)
  obtain ⟨r0, r1⟩ := hr4.two
  have z := loose_by (HM.out.loose (w.heap.size + 1) (by simp)) (HM.out.get (w.heap.size + 1) (rpA 0 noP) (by simp)).1 ho.2.1 (by omega)
  have z0 := z 0
  have z1 := z 1
  have HO := Lib.hid ho
  have HR4 := Lib.hid hr4
  clear hcall ho z hr4
  go_wp2
  refine bodyPost_ret (results_tries p.2.1 p.2.2 (w.heap.size + 1) _ _ rfl ?_) rfl (by rw [HE.out, HP.out]; exact OpOut.up HM.out.1 (by simp; omega) hlt HLOW.out (Nat.le_succ _) HO.out)
  simpa using ((HR4.out.putM 0 (.int .i64 p.2.1)).putM 1 (.string p.2.2))

set_option maxHeartbeats 4000000 in
theorem tries_2 (B b n : Nat) (rs : List Wr) (d : M.Dd) (w : World) (h : St w B b n rs) (hn : d.name.size ≤ 1048576) (hpg : d.page.size ≤ 1048576) (hok : M.deedOk d = true) (hk : d.kind = 2) :
    Calls Tryz.prog 54 #[.map (some b), ddV d] w (OpOut w B b rs (M.doAll (rs.map Wr.wk) d)) := by
  have HE : Hid (M.doAll (rs.map Wr.wk) d = M.doPut (rs.map Wr.wk) d) := Lib.hid (by unfold M.doAll; rw [if_pos hok]; simp [hk])
  have HSH : Hid (shV d = .iface 123 (puV d)) := Lib.hid (by simp [shV, hk])
  have HPG := Lib.hid hpg
  clear hk
  obtain ⟨p, hp⟩ : ∃ p, M.doPut (rs.map Wr.wk) d = p := ⟨_, rfl⟩
  have HP := Lib.hid hp
  clear hp
  have hm := ((Mem.start w).new (ddC d) 28).new (rpA 0 noP) 32
  have hst := h.below (((Below.refl w.heap.size w).alloc (Nat.le_refl _) (.cells (ddC d) 28)).alloc (by simp) (.cells (rpA 0 noP) 32))
  simp only [World.size_alloc] at hm
  have hlt : b < w.heap.size := by have := h.low; have := h.top; omega
  have HLOW : Hid (∀ r ∈ rs, ∀ k, r.sl.ownBlock = some k → k < w.heap.size) := Lib.hid (fun r hr k e => ((h.own.1 r hr).lt k e).2)
  clear h
  go_enter Tryz.func54, Tryz.ntmps54
  go_wp2_with fail
  have hcall := implDeedOk d ((w.alloc (.cells (ddC d) 28)).alloc (.cells (rpA 0 noP) 32)) (by unfold maxLen; omega) (by have := HPG.out; unfold maxLen; omega)
  rw [hok] at hcall
  refine hcall.mono ?_
  rintro e x1 ⟨rfl, b1⟩
  have hm1 := hm.below b1
  have hst1 := hst.below b1
  have hs1 := b1.size
  simp only [World.size_alloc] at hs1
  clear hcall hm hst b1 hok
  obtain ⟨q0, q1, q2, q3, q4, q5, q6⟩ := (hm1.get w.heap.size (ddC d) (by simp)).seven
  go_wp2_with fail
  refine (shapeOf_any d _).mono ?_
  rintro e x2 ⟨rfl, b2⟩
  rw [HSH.out]
  have hm2 := (hm1.below b2).new (#[.string d.name, .int .i64 d.ed.ma, .int .i64 d.ed.mi, .int .i64 d.ed.pa, .string d.page, .int .i64 d.who]) 123
  have hst2 := (hst1.below b2).alloc (.cells (#[.string d.name, .int .i64 d.ed.ma, .int .i64 d.ed.mi, .int .i64 d.ed.pa, .string d.page, .int .i64 d.who]) 123)
  have hs2 := b2.size
  have HM := Lib.hid hm2
  have HSTW := Lib.hid hst2
  clear hm1 hst1 hm2 hst2 b2 q0 q1 q2 q3 q4 q5 q6
  have as0 := as_pu_cl (puV d)
  have as1 := as_pu_pu (puV d)
  go_wp2_with fail
  have hcall := put_any B b n rs d _ HSTW.out hn HPG.out
  rw [HP.out] at hcall
  refine hcall.mono ?_
  rintro e x3 ho
  obtain rfl := ho.1
  have hr4 := holds_by (HM.out.get (w.heap.size + 1) (rpA 0 noP) (by simp)) ho.2.1 (by omega)
  obtain ⟨r0, r1⟩ := hr4.two
  have z := loose_by (HM.out.loose (w.heap.size + 1) (by simp)) (HM.out.get (w.heap.size + 1) (rpA 0 noP) (by simp)).1 ho.2.1 (by omega)
  have z0 := z 0
  have z1 := z 1
  have HO := Lib.hid ho
  have HR4 := Lib.hid hr4
  clear hcall ho z hr4
  go_wp2
  refine bodyPost_ret (results_tries p.2.1 p.2.2 (w.heap.size + 1) _ _ rfl ?_) rfl (by rw [HE.out, HP.out]; exact OpOut.up HM.out.1 (by simp; omega) hlt HLOW.out (Nat.le_succ _) HO.out)
  simpa using ((HR4.out.putM 0 (.int .i64 p.2.1)).putM 1 (.string p.2.2))

set_option maxHeartbeats 4000000 in
theorem tries_3 (B b n : Nat) (rs : List Wr) (d : M.Dd) (w : World) (h : St w B b n rs) (hn : d.name.size ≤ 1048576) (hpg : d.page.size ≤ 1048576) (hok : M.deedOk d = true) (hk : d.kind = 3) :
    Calls Tryz.prog 54 #[.map (some b), ddV d] w (OpOut w B b rs (M.doAll (rs.map Wr.wk) d)) := by
  have HE : Hid (M.doAll (rs.map Wr.wk) d = M.doVeil (rs.map Wr.wk) d true) := Lib.hid (by unfold M.doAll; rw [if_pos hok]; simp [hk])
  have HSH : Hid (shV d = .iface 126 (veV true d)) := Lib.hid (by simp [shV, hk])
  have HPG := Lib.hid hpg
  clear hk
  obtain ⟨p, hp⟩ : ∃ p, M.doVeil (rs.map Wr.wk) d true = p := ⟨_, rfl⟩
  have HP := Lib.hid hp
  clear hp
  have hm := ((Mem.start w).new (ddC d) 28).new (rpA 0 noP) 32
  have hst := h.below (((Below.refl w.heap.size w).alloc (Nat.le_refl _) (.cells (ddC d) 28)).alloc (by simp) (.cells (rpA 0 noP) 32))
  simp only [World.size_alloc] at hm
  have hlt : b < w.heap.size := by have := h.low; have := h.top; omega
  have HLOW : Hid (∀ r ∈ rs, ∀ k, r.sl.ownBlock = some k → k < w.heap.size) := Lib.hid (fun r hr k e => ((h.own.1 r hr).lt k e).2)
  clear h
  go_enter Tryz.func54, Tryz.ntmps54
  go_wp2_with fail
  have hcall := implDeedOk d ((w.alloc (.cells (ddC d) 28)).alloc (.cells (rpA 0 noP) 32)) (by unfold maxLen; omega) (by have := HPG.out; unfold maxLen; omega)
  rw [hok] at hcall
  refine hcall.mono ?_
  rintro e x1 ⟨rfl, b1⟩
  have hm1 := hm.below b1
  have hst1 := hst.below b1
  have hs1 := b1.size
  simp only [World.size_alloc] at hs1
  clear hcall hm hst b1 hok
  obtain ⟨q0, q1, q2, q3, q4, q5, q6⟩ := (hm1.get w.heap.size (ddC d) (by simp)).seven
  go_wp2_with fail
  refine (shapeOf_any d _).mono ?_
  rintro e x2 ⟨rfl, b2⟩
  rw [HSH.out]
  have hm2 := (hm1.below b2).new (#[.bool true, .string d.name, .int .i64 d.ed.ma, .int .i64 d.ed.mi, .int .i64 d.ed.pa, .int .i64 d.who]) 126
  have hst2 := (hst1.below b2).alloc (.cells (#[.bool true, .string d.name, .int .i64 d.ed.ma, .int .i64 d.ed.mi, .int .i64 d.ed.pa, .int .i64 d.who]) 126)
  have hs2 := b2.size
  have HM := Lib.hid hm2
  have HSTW := Lib.hid hst2
  clear hm1 hst1 hm2 hst2 b2 q0 q1 q2 q3 q4 q5 q6
  have as0 := as_ve_cl (veV true d)
  have as1 := as_ve_pu (veV true d)
  have as2 := as_ve_ve (veV true d)
  go_wp2_with fail
  have hcall := veil_any B b n rs d true _ HSTW.out hn
  rw [HP.out] at hcall
  refine hcall.mono ?_
  rintro e x3 ho
  obtain rfl := ho.1
  have hr4 := holds_by (HM.out.get (w.heap.size + 1) (rpA 0 noP) (by simp)) ho.2.1 (by omega)
  obtain ⟨r0, r1⟩ := hr4.two
  have z := loose_by (HM.out.loose (w.heap.size + 1) (by simp)) (HM.out.get (w.heap.size + 1) (rpA 0 noP) (by simp)).1 ho.2.1 (by omega)
  have z0 := z 0
  have z1 := z 1
  have HO := Lib.hid ho
  have HR4 := Lib.hid hr4
  clear hcall ho z hr4
  go_wp2
  refine bodyPost_ret (results_tries p.2.1 p.2.2 (w.heap.size + 1) _ _ rfl ?_) rfl (by rw [HE.out, HP.out]; exact OpOut.up HM.out.1 (by simp; omega) hlt HLOW.out (Nat.le_succ _) HO.out)
  simpa using ((HR4.out.putM 0 (.int .i64 p.2.1)).putM 1 (.string p.2.2))

set_option maxHeartbeats 4000000 in
theorem tries_4 (B b n : Nat) (rs : List Wr) (d : M.Dd) (w : World) (h : St w B b n rs) (hn : d.name.size ≤ 1048576) (hpg : d.page.size ≤ 1048576) (hok : M.deedOk d = true) (hk : d.kind = 4) :
    Calls Tryz.prog 54 #[.map (some b), ddV d] w (OpOut w B b rs (M.doAll (rs.map Wr.wk) d)) := by
  have HE : Hid (M.doAll (rs.map Wr.wk) d = M.doVeil (rs.map Wr.wk) d false) := Lib.hid (by unfold M.doAll; rw [if_pos hok]; simp [hk])
  have HSH : Hid (shV d = .iface 126 (veV false d)) := Lib.hid (by simp [shV, hk])
  have HPG := Lib.hid hpg
  clear hk
  obtain ⟨p, hp⟩ : ∃ p, M.doVeil (rs.map Wr.wk) d false = p := ⟨_, rfl⟩
  have HP := Lib.hid hp
  clear hp
  have hm := ((Mem.start w).new (ddC d) 28).new (rpA 0 noP) 32
  have hst := h.below (((Below.refl w.heap.size w).alloc (Nat.le_refl _) (.cells (ddC d) 28)).alloc (by simp) (.cells (rpA 0 noP) 32))
  simp only [World.size_alloc] at hm
  have hlt : b < w.heap.size := by have := h.low; have := h.top; omega
  have HLOW : Hid (∀ r ∈ rs, ∀ k, r.sl.ownBlock = some k → k < w.heap.size) := Lib.hid (fun r hr k e => ((h.own.1 r hr).lt k e).2)
  clear h
  go_enter Tryz.func54, Tryz.ntmps54
  go_wp2_with fail
  have hcall := implDeedOk d ((w.alloc (.cells (ddC d) 28)).alloc (.cells (rpA 0 noP) 32)) (by unfold maxLen; omega) (by have := HPG.out; unfold maxLen; omega)
  rw [hok] at hcall
  refine hcall.mono ?_
  rintro e x1 ⟨rfl, b1⟩
  have hm1 := hm.below b1
  have hst1 := hst.below b1
  have hs1 := b1.size
  simp only [World.size_alloc] at hs1
  clear hcall hm hst b1 hok
  obtain ⟨q0, q1, q2, q3, q4, q5, q6⟩ := (hm1.get w.heap.size (ddC d) (by simp)).seven
  go_wp2_with fail
  refine (shapeOf_any d _).mono ?_
  rintro e x2 ⟨rfl, b2⟩
  rw [HSH.out]
  have hm2 := (hm1.below b2).new (#[.bool false, .string d.name, .int .i64 d.ed.ma, .int .i64 d.ed.mi, .int .i64 d.ed.pa, .int .i64 d.who]) 126
  have hst2 := (hst1.below b2).alloc (.cells (#[.bool false, .string d.name, .int .i64 d.ed.ma, .int .i64 d.ed.mi, .int .i64 d.ed.pa, .int .i64 d.who]) 126)
  have hs2 := b2.size
  have HM := Lib.hid hm2
  have HSTW := Lib.hid hst2
  clear hm1 hst1 hm2 hst2 b2 q0 q1 q2 q3 q4 q5 q6
  have as0 := as_ve_cl (veV false d)
  have as1 := as_ve_pu (veV false d)
  have as2 := as_ve_ve (veV false d)
  go_wp2_with fail
  have hcall := veil_any B b n rs d false _ HSTW.out hn
  rw [HP.out] at hcall
  refine hcall.mono ?_
  rintro e x3 ho
  obtain rfl := ho.1
  have hr4 := holds_by (HM.out.get (w.heap.size + 1) (rpA 0 noP) (by simp)) ho.2.1 (by omega)
  obtain ⟨r0, r1⟩ := hr4.two
  have z := loose_by (HM.out.loose (w.heap.size + 1) (by simp)) (HM.out.get (w.heap.size + 1) (rpA 0 noP) (by simp)).1 ho.2.1 (by omega)
  have z0 := z 0
  have z1 := z 1
  have HO := Lib.hid ho
  have HR4 := Lib.hid hr4
  clear hcall ho z hr4
  go_wp2
  refine bodyPost_ret (results_tries p.2.1 p.2.2 (w.heap.size + 1) _ _ rfl ?_) rfl (by rw [HE.out, HP.out]; exact OpOut.up HM.out.1 (by simp; omega) hlt HLOW.out (Nat.le_succ _) HO.out)
  simpa using ((HR4.out.putM 0 (.int .i64 p.2.1)).putM 1 (.string p.2.2))

set_option maxHeartbeats 4000000 in
theorem tries_5 (B b n : Nat) (rs : List Wr) (d : M.Dd) (w : World) (h : St w B b n rs) (hn : d.name.size ≤ 1048576) (hpg : d.page.size ≤ 1048576) (hok : M.deedOk d = true) (hk : d.kind = 5) :
    Calls Tryz.prog 54 #[.map (some b), ddV d] w (OpOut w B b rs (M.doAll (rs.map Wr.wk) d)) := by
  have HE : Hid (M.doAll (rs.map Wr.wk) d = M.doFetch (rs.map Wr.wk) d) := Lib.hid (by unfold M.doAll; rw [if_pos hok]; simp [hk])
  have HSH : Hid (shV d = .iface 129 (feV d)) := Lib.hid (by simp [shV, hk])
  have HPG := Lib.hid hpg
  clear hk
  obtain ⟨p, hp⟩ : ∃ p, M.doFetch (rs.map Wr.wk) d = p := ⟨_, rfl⟩
  have HP := Lib.hid hp
  clear hp
  have hm := ((Mem.start w).new (ddC d) 28).new (rpA 0 noP) 32
  have hst := h.below (((Below.refl w.heap.size w).alloc (Nat.le_refl _) (.cells (ddC d) 28)).alloc (by simp) (.cells (rpA 0 noP) 32))
  simp only [World.size_alloc] at hm
  have hlt : b < w.heap.size := by have := h.low; have := h.top; omega
  have HLOW : Hid (∀ r ∈ rs, ∀ k, r.sl.ownBlock = some k → k < w.heap.size) := Lib.hid (fun r hr k e => ((h.own.1 r hr).lt k e).2)
  clear h
  go_enter Tryz.func54, Tryz.ntmps54
  go_wp2_with fail
  have hcall := implDeedOk d ((w.alloc (.cells (ddC d) 28)).alloc (.cells (rpA 0 noP) 32)) (by unfold maxLen; omega) (by have := HPG.out; unfold maxLen; omega)
  rw [hok] at hcall
  refine hcall.mono ?_
  rintro e x1 ⟨rfl, b1⟩
  have hm1 := hm.below b1
  have hst1 := hst.below b1
  have hs1 := b1.size
  simp only [World.size_alloc] at hs1
  clear hcall hm hst b1 hok
  obtain ⟨q0, q1, q2, q3, q4, q5, q6⟩ := (hm1.get w.heap.size (ddC d) (by simp)).seven
  go_wp2_with fail
  refine (shapeOf_any d _).mono ?_
  rintro e x2 ⟨rfl, b2⟩
  rw [HSH.out]
  have hm2 := (hm1.below b2).new (#[.string d.name, .int .i64 d.ed.ma, .int .i64 d.ed.mi, .int .i64 d.ed.pa]) 129
  have hst2 := (hst1.below b2).alloc (.cells (#[.string d.name, .int .i64 d.ed.ma, .int .i64 d.ed.mi, .int .i64 d.ed.pa]) 129)
  have hs2 := b2.size
  have HM := Lib.hid hm2
  have HSTW := Lib.hid hst2
  clear hm1 hst1 hm2 hst2 b2 q0 q1 q2 q3 q4 q5 q6
  have as0 := as_fe_cl (feV d)
  have as1 := as_fe_pu (feV d)
  have as2 := as_fe_ve (feV d)
  have as3 := as_fe_fe (feV d)
  go_wp2_with fail
  have hcall := fetch_any B b n rs d _ HSTW.out hn
  rw [HP.out] at hcall
  refine hcall.mono ?_
  rintro e x3 ho
  obtain rfl := ho.1
  have hr4 := holds_by (HM.out.get (w.heap.size + 1) (rpA 0 noP) (by simp)) ho.2.1 (by omega)
  obtain ⟨r0, r1⟩ := hr4.two
  have z := loose_by (HM.out.loose (w.heap.size + 1) (by simp)) (HM.out.get (w.heap.size + 1) (rpA 0 noP) (by simp)).1 ho.2.1 (by omega)
  have z0 := z 0
  have z1 := z 1
  have HO := Lib.hid ho
  have HR4 := Lib.hid hr4
  clear hcall ho z hr4
  go_wp2
  refine bodyPost_ret (results_tries p.2.1 p.2.2 (w.heap.size + 1) _ _ rfl ?_) rfl (by rw [HE.out, HP.out]; exact OpOut.up HM.out.1 (by simp; omega) hlt HLOW.out (Nat.le_succ _) HO.out)
  simpa using ((HR4.out.putM 0 (.int .i64 p.2.1)).putM 1 (.string p.2.2))

set_option maxHeartbeats 4000000 in
theorem tries_6 (B b n : Nat) (rs : List Wr) (d : M.Dd) (w : World) (h : St w B b n rs) (hn : d.name.size ≤ 1048576) (hpg : d.page.size ≤ 1048576) (hok : M.deedOk d = true) (hk : d.kind = 6) :
    Calls Tryz.prog 54 #[.map (some b), ddV d] w (OpOut w B b rs (M.doAll (rs.map Wr.wk) d)) := by
  have HE : Hid (M.doAll (rs.map Wr.wk) d = M.doGive (rs.map Wr.wk) d) := Lib.hid (by unfold M.doAll; rw [if_pos hok]; simp [hk])
  have HSH : Hid (shV d = .iface 132 (giV d)) := Lib.hid (by simp [shV, hk])
  have HPG := Lib.hid hpg
  clear hk
  obtain ⟨p, hp⟩ : ∃ p, M.doGive (rs.map Wr.wk) d = p := ⟨_, rfl⟩
  have HP := Lib.hid hp
  clear hp
  have hm := ((Mem.start w).new (ddC d) 28).new (rpA 0 noP) 32
  have hst := h.below (((Below.refl w.heap.size w).alloc (Nat.le_refl _) (.cells (ddC d) 28)).alloc (by simp) (.cells (rpA 0 noP) 32))
  simp only [World.size_alloc] at hm
  have hlt : b < w.heap.size := by have := h.low; have := h.top; omega
  have HLOW : Hid (∀ r ∈ rs, ∀ k, r.sl.ownBlock = some k → k < w.heap.size) := Lib.hid (fun r hr k e => ((h.own.1 r hr).lt k e).2)
  clear h
  go_enter Tryz.func54, Tryz.ntmps54
  go_wp2_with fail
  have hcall := implDeedOk d ((w.alloc (.cells (ddC d) 28)).alloc (.cells (rpA 0 noP) 32)) (by unfold maxLen; omega) (by have := HPG.out; unfold maxLen; omega)
  rw [hok] at hcall
  refine hcall.mono ?_
  rintro e x1 ⟨rfl, b1⟩
  have hm1 := hm.below b1
  have hst1 := hst.below b1
  have hs1 := b1.size
  simp only [World.size_alloc] at hs1
  clear hcall hm hst b1 hok
  obtain ⟨q0, q1, q2, q3, q4, q5, q6⟩ := (hm1.get w.heap.size (ddC d) (by simp)).seven
  go_wp2_with fail
  refine (shapeOf_any d _).mono ?_
  rintro e x2 ⟨rfl, b2⟩
  rw [HSH.out]
  have hm2 := (hm1.below b2).new (#[.string d.name, .int .i64 d.who, .int .i64 d.ed.ma]) 132
  have hst2 := (hst1.below b2).alloc (.cells (#[.string d.name, .int .i64 d.who, .int .i64 d.ed.ma]) 132)
  have hs2 := b2.size
  have HM := Lib.hid hm2
  have HSTW := Lib.hid hst2
  clear hm1 hst1 hm2 hst2 b2 q0 q1 q2 q3 q4 q5 q6
  have as0 := as_gi_cl (giV d)
  have as1 := as_gi_pu (giV d)
  have as2 := as_gi_ve (giV d)
  have as3 := as_gi_fe (giV d)
  have as4 := as_gi_gi (giV d)
  go_wp2_with fail
  have hcall := give_any B b n rs d _ HSTW.out hn
  rw [HP.out] at hcall
  refine hcall.mono ?_
  rintro e x3 ho
  obtain rfl := ho.1
  have hr4 := holds_by (HM.out.get (w.heap.size + 1) (rpA 0 noP) (by simp)) ho.2.1 (by omega)
  obtain ⟨r0, r1⟩ := hr4.two
  have z := loose_by (HM.out.loose (w.heap.size + 1) (by simp)) (HM.out.get (w.heap.size + 1) (rpA 0 noP) (by simp)).1 ho.2.1 (by omega)
  have z0 := z 0
  have z1 := z 1
  have HO := Lib.hid ho
  have HR4 := Lib.hid hr4
  clear hcall ho z hr4
  go_wp2
  refine bodyPost_ret (results_tries p.2.1 p.2.2 (w.heap.size + 1) _ _ rfl ?_) rfl (by rw [HE.out, HP.out]; exact OpOut.up HM.out.1 (by simp; omega) hlt HLOW.out (Nat.le_succ _) HO.out)
  simpa using ((HR4.out.putM 0 (.int .i64 p.2.1)).putM 1 (.string p.2.2))

set_option maxHeartbeats 4000000 in
theorem tries_bad (B b n : Nat) (rs : List Wr) (d : M.Dd) (w : World) (h : St w B b n rs) (hn : d.name.size ≤ 1048576) (hpg : d.page.size ≤ 1048576) (hok : M.deedOk d = false) :
    Calls Tryz.prog 54 #[.map (some b), ddV d] w (OpOut w B b rs (M.doAll (rs.map Wr.wk) d)) := by
  have HE : Hid ((M.doAll (rs.map Wr.wk) d).2 = ((7 : Int), M.nilB)) := Lib.hid (by simp [M.doAll, hok])
  have hm := ((Mem.start w).new (ddC d) 28).new (rpA 0 noP) 32
  have hst := h.below (((Below.refl w.heap.size w).alloc (Nat.le_refl _) (.cells (ddC d) 28)).alloc (by simp) (.cells (rpA 0 noP) 32))
  simp only [World.size_alloc] at hm
  have hlt : b < w.heap.size := by have := h.low; have := h.top; omega
  clear h
  go_enter Tryz.func54, Tryz.ntmps54
  go_wp2_with fail
  have hcall := implDeedOk d ((w.alloc (.cells (ddC d) 28)).alloc (.cells (rpA 0 noP) 32)) (by unfold maxLen; omega) (by unfold maxLen; omega)
  rw [hok] at hcall
  refine hcall.mono ?_
  rintro e x1 ⟨rfl, b1⟩
  have hm1 := hm.below b1
  have hst1 := hst.below b1
  clear hcall hm hst b1 hok
  obtain ⟨r0, r1⟩ := (hm1.get (w.heap.size + 1) (rpA 0 noP) (by simp)).two
  have z0 := hm1.loose (w.heap.size + 1) (by simp) 0
  have z1 := hm1.loose (w.heap.size + 1) (by simp) 1
  have HM := Lib.hid hm1
  have HST := Lib.hid hst1
  clear hm1 hst1
  go_wp2
  refine bodyPost_ret (results_tries 7 noP (w.heap.size + 1) _ _ rfl ?_) rfl (OpOut.bad HM.out.1 HST.out.map hlt HE.out (by decide) (Nat.le_succ _))
  simpa using (((HM.out.get (w.heap.size + 1) (rpA 0 noP) (by simp)).putM 0 (.int .i64 7)).putM 1 (.string noP))

theorem deedOk_kind {d : M.Dd} (h : M.deedOk d = true) : d.kind = 1 ∨ d.kind = 2 ∨ d.kind = 3 ∨ d.kind = 4 ∨ d.kind = 5 ∨ d.kind = 6 := by
  by_cases h' : 1 ≤ d.kind ∧ d.kind ≤ 6
  · omega
  · rw [ok_none d h'] at h; cases h
theorem tries_any (B b n : Nat) (rs : List Wr) (d : M.Dd) (w : World) (h : St w B b n rs) (hn : d.name.size ≤ 1048576) (hpg : d.page.size ≤ 1048576) :
    Calls Tryz.prog 54 #[.map (some b), ddV d] w (OpOut w B b rs (M.doAll (rs.map Wr.wk) d)) := by
  rcases hok : M.deedOk d with _ | _
  · exact tries_bad B b n rs d w h hn hpg hok
  · rcases deedOk_kind hok with hk | hk | hk | hk | hk | hk
    · exact tries_1 B b n rs d w h hn hpg hok hk
    · exact tries_2 B b n rs d w h hn hpg hok hk
    · exact tries_3 B b n rs d w h hn hpg hok hk
    · exact tries_4 B b n rs d w h hn hpg hok hk
    · exact tries_5 B b n rs d w h hn hpg hok hk
    · exact tries_6 B b n rs d w h hn hpg hok hk
end Go.Proofs.YtdcdalbbjfjadaaGreatDoor
namespace Go.Proofs.YtdcdalbbjfjadaaGreatDoor
open Go.RowKit
theorem own_set {B g : Nat} {w : World} {t : TypeId} {kk n : Nat} {v : Value} {C : List Value} (h : w.ownsRow B t kk v n C) (hg : g < B) (i : Nat) (u : Value) : (w.setCell ⟨g, i, none⟩ u).ownsRow B t kk v n C := by
  obtain ⟨hl, h0 | ⟨k, cap, cur, rfl, hb, hh, hr⟩⟩ := h
  · exact ⟨hl, .inl h0⟩
  · exact ⟨hl, .inr ⟨k, cap, cur, rfl, hb, (Below.heap_setCell _ _ _ _ (by show k ≠ g; omega)).trans hh, hr⟩⟩
theorem SfOwn.set {B g : Nat} {w : World} {v : Value} {l : List Wr} (h : SfOwn B w v l) (hg : g < B) (i : Nat) (u : Value) : SfOwn B (w.setCell ⟨g, i, none⟩ u) v l :=
  ⟨own_set h.1 hg i u, fun r hr => own_set (h.2.1 r hr) hg i u, h.2.2⟩
end Go.Proofs.YtdcdalbbjfjadaaGreatDoor
