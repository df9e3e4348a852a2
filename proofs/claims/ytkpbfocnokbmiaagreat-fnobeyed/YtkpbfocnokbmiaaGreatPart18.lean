/- Proved, in parts: Proved: the program's tries on the map of works answers a plain Lean function; it writes the map's block alone. Condition: texts of at most a million bytes. Proved: what a block's write leaves of rows that lie elsewhere. No program is named here; no condition. Proved: what the plain Lean functions of the deeds leave is near what was there; names that rise; what a block's write leaves of rows that lie elsewhere. Condition: none. Proved: plain facts on works that are drawn: how small they are, and that filling one up ends; no program is named here; no condition. -/
import Derived.Test.YtkpbfocnokbmiaaGreatPart15
import Derived.Test.YtkpbfocnokbmiaaGreatPart17
import Derived.Test.YtkpbfocnokbmiaaGreatPart04
import Derived.Test.YtkpbfocnokbmiaaGreatPart05
import Derived.Test.YtkpbfocnokbmiaaGreatPart08
namespace Go.Proofs.YtkpbfocnokbmiaaGreat
open Go.RowKit
set_option maxRecDepth 20000
namespace M
def doAll (l : List Wk) (d : Dd) : List Wk × Rp := if deedOk d then
    (if d.kind = 1 then doClaim l d else if d.kind = 2 then doPut l d else if d.kind = 3 then doVeil l d true else if d.kind = 4 then doVeil l d false else if d.kind = 5 then doFetch l d else doGive l d)
  else (l, (7, nilB))
end M
theorem OpOut.up {w W x : World} {B b R : Nat} {rs : List Wr} {p : List M.Wk × M.Rp} {e : Ending} (hb : Below w.heap.size w W) (hW : R < W.heap.size) (hlt : b < w.heap.size) (hlow : ∀ r ∈ rs, ∀ k, r.sl.ownBlock = some k → k < w.heap.size) (hR : w.heap.size ≤ R) (h : OpOut W B b rs p e x) :
    OpOut w B b rs p (.returned (rpV p.2.1 p.2.2)) ((x.setCell ⟨R, 0, none⟩ (.int .i64 p.2.1)).setCell ⟨R, 1, none⟩ (.string p.2.2)) := by
  obtain ⟨_, hg, ⟨n, D, hm⟩, hz⟩ := h
  refine ⟨rfl, grown_new (grown_new (grown_tr (grown_lw hb _) hg) hR _ _) hR _ _, ⟨n, D, ShM.set (ShM.set hm (by omega)) (by omega)⟩, fun h0 => ?_⟩
  obtain ⟨n', rs', h1, h2, h3, h4, h5⟩ := hz h0
  have hne : ∀ r ∈ rs', r.sl.ownBlock ≠ some R := fun r hr e => by
    rcases h5 r hr R e with h | ⟨y, hy, e'⟩
    · omega
    · have := hlow y hy R e'
      omega
  refine ⟨n', rs', ShM.set (ShM.set h1 (by omega)) (by omega), h2, (h3.set hne 0 _).set hne 1 _, h4, fun r hr k e => ?_⟩
  rcases h5 r hr k e with h | h
  · have := hb.size
    exact .inl (by omega)
  · exact .inr h

theorem results_tries (c : Int) (p : ByteArray) (R : Nat) (W : World) (tmps : Array Value) (h2 : tmps.getD 4 undef = .pointer (some ⟨R, 0, none⟩)) (hW : Holds W R (rpA c p)) :
    (results Tryz.f106 tmps).run Tryz.prog W = .ok (rpV c p) W := by
  obtain ⟨q0, q1⟩ := hW.two
  simp at h2
  simp [results, Tryz.results106, go_sem, h2, q0, q1]

set_option maxHeartbeats 4000000 in
theorem tries_1 (B b n : Nat) (rs : List Wr) (d : M.Dd) (w : World) (h : St w B b n rs) (hn : d.name.size ≤ 1048576) (hpg : d.page.size ≤ 1048576) (hok : M.deedOk d = true) (hk : d.kind = 1) :
    Calls Tryz.prog 106 #[.map (some b), ddV d] w (OpOut w B b rs (M.doAll (rs.map Wr.wk) d)) := by
  have HE : Hid (M.doAll (rs.map Wr.wk) d = M.doClaim (rs.map Wr.wk) d) := Lib.hid (by unfold M.doAll; rw [if_pos hok]; simp [hk])
  have HSH : Hid (shV d = .iface 147 (clV d)) := Lib.hid (by simp [shV, hk])
  have HPG := Lib.hid hpg
  clear hk
  obtain ⟨p, hp⟩ : ∃ p, M.doClaim (rs.map Wr.wk) d = p := ⟨_, rfl⟩
  have HP := Lib.hid hp
  clear hp
  have hm := ((Mem.start w).new (ddC d) 31).new (rpA 0 noP) 39
  have hst := h.below (((Below.refl w.heap.size w).alloc (Nat.le_refl _) (.cells (ddC d) 31)).alloc (by simp) (.cells (rpA 0 noP) 39))
  simp only [World.size_alloc] at hm
  have hlt : b < w.heap.size := by have := h.low; have := h.top; omega
  have HLOW : Hid (∀ r ∈ rs, ∀ k, r.sl.ownBlock = some k → k < w.heap.size) := Lib.hid (fun r hr k e => ((h.own.1 r hr).lt k e).2)
  clear h
  go_enter Tryz.func106, Tryz.ntmps106
  go_wp2_with fail
  have hcall := implDeedOk d ((w.alloc (.cells (ddC d) 31)).alloc (.cells (rpA 0 noP) 39)) (by unfold maxLen; omega) (by have := HPG.out; unfold maxLen; omega)
  rw [hok] at hcall
  refine hcall.mono ?_
  rintro e x1 ⟨rfl, b1⟩
  have hm1 := hm.below b1
  have hst1 := hst.below b1
  have hs1 := b1.size
  simp only [World.size_alloc] at hs1
  clear hcall hm hst b1 hok
  obtain ⟨q0, q1, q2, q3, q4, q5, q6⟩ := (hm1.get w.heap.size (ddC d) (by simp)).seven
  go_wp2_with fail
  refine (shapeOf_any d _).mono ?_
  rintro e x2 ⟨rfl, b2⟩
  rw [HSH.out]
  have hm2 := (hm1.below b2).new (#[.string d.name, .int .i64 d.who]) 147
  have hst2 := (hst1.below b2).alloc (.cells (#[.string d.name, .int .i64 d.who]) 147)
  have hs2 := b2.size
  have HM := Lib.hid hm2
  have HSTW := Lib.hid hst2
  clear hm1 hst1 hm2 hst2 b2 q0 q1 q2 q3 q4 q5 q6
  have as0 := as_cl_cl (clV d)
  go_wp2_with fail
  have hcall := claim_any B b n rs d _ HSTW.out hn
  rw [HP.out] at hcall
  refine hcall.mono ?_
  rintro e x3 ho
  obtain rfl := ho.1
  have hr4 := holds_by (HM.out.get (w.heap.size + 1) (rpA 0 noP) (by simp)) ho.2.1 (by omega)
  obtain ⟨r0, r1⟩ := hr4.two
  have z := loose_by (HM.out.loose (w.heap.size + 1) (by simp)) (HM.out.get (w.heap.size + 1) (rpA 0 noP) (by simp)).1 ho.2.1 (by omega)
  have z0 := z 0
  have z1 := z 1
  have HO := Lib.hid ho
  have HR4 := Lib.hid hr4
  clear hcall ho z hr4
  go_wp2
  refine bodyPost_ret (results_tries p.2.1 p.2.2 (w.heap.size + 1) _ _ rfl ?_) rfl (by rw [HE.out, HP.out]; exact OpOut.up HM.out.1 (by simp; omega) hlt HLOW.out (Nat.le_succ _) HO.out)
  simpa using ((HR4.out.putM 0 (.int .i64 p.2.1)).putM 1 (.string p.2.2))

set_option maxHeartbeats 4000000 in
theorem tries_2 (B b n : Nat) (rs : List Wr) (d : M.Dd) (w : World) (h : St w B b n rs) (hn : d.name.size ≤ 1048576) (hpg : d.page.size ≤ 1048576) (hok : M.deedOk d = true) (hk : d.kind = 2) :
    Calls Tryz.prog 106 #[.map (some b), ddV d] w (OpOut w B b rs (M.doAll (rs.map Wr.wk) d)) := by
  have HE : Hid (M.doAll (rs.map Wr.wk) d = M.doPut (rs.map Wr.wk) d) := Lib.hid (by unfold M.doAll; rw [if_pos hok]; simp [hk])
  have HSH : Hid (shV d = .iface 149 (puV d)) := Lib.hid (by simp [shV, hk])
  have HPG := Lib.hid hpg
  clear hk
  obtain ⟨p, hp⟩ : ∃ p, M.doPut (rs.map Wr.wk) d = p := ⟨_, rfl⟩
  have HP := Lib.hid hp
  clear hp
  have hm := ((Mem.start w).new (ddC d) 31).new (rpA 0 noP) 39
  have hst := h.below (((Below.refl w.heap.size w).alloc (Nat.le_refl _) (.cells (ddC d) 31)).alloc (by simp) (.cells (rpA 0 noP) 39))
  simp only [World.size_alloc] at hm
  have hlt : b < w.heap.size := by have := h.low; have := h.top; omega
  have HLOW : Hid (∀ r ∈ rs, ∀ k, r.sl.ownBlock = some k → k < w.heap.size) := Lib.hid (fun r hr k e => ((h.own.1 r hr).lt k e).2)
  clear h
  go_enter Tryz.func106, Tryz.ntmps106
  go_wp2_with fail
  have hcall := implDeedOk d ((w.alloc (.cells (ddC d) 31)).alloc (.cells (rpA 0 noP) 39)) (by unfold maxLen; omega) (by have := HPG.out; unfold maxLen; omega)
  rw [hok] at hcall
  refine hcall.mono ?_
  rintro e x1 ⟨rfl, b1⟩
  have hm1 := hm.below b1
  have hst1 := hst.below b1
  have hs1 := b1.size
  simp only [World.size_alloc] at hs1
  clear hcall hm hst b1 hok
  obtain ⟨q0, q1, q2, q3, q4, q5, q6⟩ := (hm1.get w.heap.size (ddC d) (by simp)).seven
  go_wp2_with fail
  refine (shapeOf_any d _).mono ?_
  rintro e x2 ⟨rfl, b2⟩
  rw [HSH.out]
  have hm2 := (hm1.below b2).new (#[.string d.name, .int .i64 d.ed.ma, .int .i64 d.ed.mi, .int .i64 d.ed.pa, .string d.page, .int .i64 d.who]) 149
  have hst2 := (hst1.below b2).alloc (.cells (#[.string d.name, .int .i64 d.ed.ma, .int .i64 d.ed.mi, .int .i64 d.ed.pa, .string d.page, .int .i64 d.who]) 149)
  have hs2 := b2.size
  have HM := Lib.hid hm2
  have HSTW := Lib.hid hst2
  clear hm1 hst1 hm2 hst2 b2 q0 q1 q2 q3 q4 q5 q6
  have as0 := as_pu_cl (puV d)
  have as1 := as_pu_pu (puV d)
  go_wp2_with fail
  have hcall := put_any B b n rs d _ HSTW.out hn HPG.out
  rw [HP.out] at hcall
  refine hcall.mono ?_
  rintro e x3 ho
  obtain rfl := ho.1
  have hr4 := holds_by (HM.out.get (w.heap.size + 1) (rpA 0 noP) (by simp)) ho.2.1 (by omega)
  obtain ⟨r0, r1⟩ := hr4.two
  have z := loose_by (HM.out.loose (w.heap.size + 1) (by simp)) (HM.out.get (w.heap.size + 1) (rpA 0 noP) (by simp)).1 ho.2.1 (by omega)
  have z0 := z 0
  have z1 := z 1
  have HO := Lib.hid ho
  have HR4 := Lib.hid hr4
  clear hcall ho z hr4
  go_wp2
  refine bodyPost_ret (results_tries p.2.1 p.2.2 (w.heap.size + 1) _ _ rfl ?_) rfl (by rw [HE.out, HP.out]; exact OpOut.up HM.out.1 (by simp; omega) hlt HLOW.out (Nat.le_succ _) HO.out)
  simpa using ((HR4.out.putM 0 (.int .i64 p.2.1)).putM 1 (.string p.2.2))

set_option maxHeartbeats 4000000 in
theorem tries_3 (B b n : Nat) (rs : List Wr) (d : M.Dd) (w : World) (h : St w B b n rs) (hn : d.name.size ≤ 1048576) (hpg : d.page.size ≤ 1048576) (hok : M.deedOk d = true) (hk : d.kind = 3) :
    Calls Tryz.prog 106 #[.map (some b), ddV d] w (OpOut w B b rs (M.doAll (rs.map Wr.wk) d)) := by
  have HE : Hid (M.doAll (rs.map Wr.wk) d = M.doVeil (rs.map Wr.wk) d true) := Lib.hid (by unfold M.doAll; rw [if_pos hok]; simp [hk])
  have HSH : Hid (shV d = .iface 151 (veV true d)) := Lib.hid (by simp [shV, hk])
  have HPG := Lib.hid hpg
  clear hk
  obtain ⟨p, hp⟩ : ∃ p, M.doVeil (rs.map Wr.wk) d true = p := ⟨_, rfl⟩
  have HP := Lib.hid hp
  clear hp
  have hm := ((Mem.start w).new (ddC d) 31).new (rpA 0 noP) 39
  have hst := h.below (((Below.refl w.heap.size w).alloc (Nat.le_refl _) (.cells (ddC d) 31)).alloc (by simp) (.cells (rpA 0 noP) 39))
  simp only [World.size_alloc] at hm
  have hlt : b < w.heap.size := by have := h.low; have := h.top; omega
  have HLOW : Hid (∀ r ∈ rs, ∀ k, r.sl.ownBlock = some k → k < w.heap.size) := Lib.hid (fun r hr k e => ((h.own.1 r hr).lt k e).2)
  clear h
  go_enter Tryz.func106, Tryz.ntmps106
  go_wp2_with fail
  have hcall := implDeedOk d ((w.alloc (.cells (ddC d) 31)).alloc (.cells (rpA 0 noP) 39)) (by unfold maxLen; omega) (by have := HPG.out; unfold maxLen; omega)
  rw [hok] at hcall
  refine hcall.mono ?_
  rintro e x1 ⟨rfl, b1⟩
  have hm1 := hm.below b1
  have hst1 := hst.below b1
  have hs1 := b1.size
  simp only [World.size_alloc] at hs1
  clear hcall hm hst b1 hok
  obtain ⟨q0, q1, q2, q3, q4, q5, q6⟩ := (hm1.get w.heap.size (ddC d) (by simp)).seven
  go_wp2_with fail
  refine (shapeOf_any d _).mono ?_
  rintro e x2 ⟨rfl, b2⟩
  rw [HSH.out]
  have hm2 := (hm1.below b2).new (#[.bool true, .string d.name, .int .i64 d.ed.ma, .int .i64 d.ed.mi, .int .i64 d.ed.pa, .int .i64 d.who]) 151
  have hst2 := (hst1.below b2).alloc (.cells (#[.bool true, .string d.name, .int .i64 d.ed.ma, .int .i64 d.ed.mi, .int .i64 d.ed.pa, .int .i64 d.who]) 151)
  have hs2 := b2.size
  have HM := Lib.hid hm2
  have HSTW := Lib.hid hst2
  clear hm1 hst1 hm2 hst2 b2 q0 q1 q2 q3 q4 q5 q6
  have as0 := as_ve_cl (veV true d)
  have as1 := as_ve_pu (veV true d)
  have as2 := as_ve_ve (veV true d)
  go_wp2_with fail
  have hcall := veil_any B b n rs d true _ HSTW.out hn
  rw [HP.out] at hcall
  refine hcall.mono ?_
  rintro e x3 ho
  obtain rfl := ho.1
  have hr4 := holds_by (HM.out.get (w.heap.size + 1) (rpA 0 noP) (by simp)) ho.2.1 (by omega)
  obtain ⟨r0, r1⟩ := hr4.two
  have z := loose_by (HM.out.loose (w.heap.size + 1) (by simp)) (HM.out.get (w.heap.size + 1) (rpA 0 noP) (by simp)).1 ho.2.1 (by omega)
  have z0 := z 0
  have z1 := z 1
  have HO := Lib.hid ho
  have HR4 := Lib.hid hr4
  clear hcall ho z hr4
  go_wp2
  refine bodyPost_ret (results_tries p.2.1 p.2.2 (w.heap.size + 1) _ _ rfl ?_) rfl (by rw [HE.out, HP.out]; exact OpOut.up HM.out.1 (by simp; omega) hlt HLOW.out (Nat.le_succ _) HO.out)
  simpa using ((HR4.out.putM 0 (.int .i64 p.2.1)).putM 1 (.string p.2.2))

set_option maxHeartbeats 4000000 in
theorem tries_4 (B b n : Nat) (rs : List Wr) (d : M.Dd) (w : World) (h : St w B b n rs) (hn : d.name.size ≤ 1048576) (hpg : d.page.size ≤ 1048576) (hok : M.deedOk d = true) (hk : d.kind = 4) :
    Calls Tryz.prog 106 #[.map (some b), ddV d] w (OpOut w B b rs (M.doAll (rs.map Wr.wk) d)) := by
  have HE : Hid (M.doAll (rs.map Wr.wk) d = M.doVeil (rs.map Wr.wk) d false) := Lib.hid (by unfold M.doAll; rw [if_pos hok]; simp [hk])
  have HSH : Hid (shV d = .iface 151 (veV false d)) := Lib.hid (by simp [shV, hk])
  have HPG := Lib.hid hpg
  clear hk
  obtain ⟨p, hp⟩ : ∃ p, M.doVeil (rs.map Wr.wk) d false = p := ⟨_, rfl⟩
  have HP := Lib.hid hp
  clear hp
  have hm := ((Mem.start w).new (ddC d) 31).new (rpA 0 noP) 39
  have hst := h.below (((Below.refl w.heap.size w).alloc (Nat.le_refl _) (.cells (ddC d) 31)).alloc (by simp) (.cells (rpA 0 noP) 39))
  simp only [World.size_alloc] at hm
  have hlt : b < w.heap.size := by have := h.low; have := h.top; omega
  have HLOW : Hid (∀ r ∈ rs, ∀ k, r.sl.ownBlock = some k → k < w.heap.size) := Lib.hid (fun r hr k e => ((h.own.1 r hr).lt k e).2)
  clear h
  go_enter Tryz.func106, Tryz.ntmps106
  go_wp2_with fail
  have hcall := implDeedOk d ((w.alloc (.cells (ddC d) 31)).alloc (.cells (rpA 0 noP) 39)) (by unfold maxLen; omega) (by have := HPG.out; unfold maxLen; omega)
  rw [hok] at hcall
  refine hcall.mono ?_
  rintro e x1 ⟨rfl, b1⟩
  have hm1 := hm.below b1
  have hst1 := hst.below b1
  have hs1 := b1.size
  simp only [World.size_alloc] at hs1
  clear hcall hm hst b1 hok
  obtain ⟨q0, q1, q2, q3, q4, q5, q6⟩ := (hm1.get w.heap.size (ddC d) (by simp)).seven
  go_wp2_with fail
  refine (shapeOf_any d _).mono ?_
  rintro e x2 ⟨rfl, b2⟩
  rw [HSH.out]
  have hm2 := (hm1.below b2).new (#[.bool false, .string d.name, .int .i64 d.ed.ma, .int .i64 d.ed.mi, .int .i64 d.ed.pa, .int .i64 d.who]) 151
  have hst2 := (hst1.below b2).alloc (.cells (#[.bool false, .string d.name, .int .i64 d.ed.ma, .int .i64 d.ed.mi, .int .i64 d.ed.pa, .int .i64 d.who]) 151)
  have hs2 := b2.size
  have HM := Lib.hid hm2
  have HSTW := Lib.hid hst2
  clear hm1 hst1 hm2 hst2 b2 q0 q1 q2 q3 q4 q5 q6
  have as0 := as_ve_cl (veV false d)
  have as1 := as_ve_pu (veV false d)
  have as2 := as_ve_ve (veV false d)
  go_wp2_with fail
  have hcall := veil_any B b n rs d false _ HSTW.out hn
  rw [HP.out] at hcall
  refine hcall.mono ?_
  rintro e x3 ho
  obtain rfl := ho.1
  have hr4 := holds_by (HM.out.get (w.heap.size + 1) (rpA 0 noP) (by simp)) ho.2.1 (by omega)
  obtain ⟨r0, r1⟩ := hr4.two
  have z := loose_by (HM.out.loose (w.heap.size + 1) (by simp)) (HM.out.get (w.heap.size + 1) (rpA 0 noP) (by simp)).1 ho.2.1 (by omega)
  have z0 := z 0
  have z1 := z 1
  have HO := Lib.hid ho
  have HR4 := Lib.hid hr4
  clear hcall ho z hr4
  go_wp2
  refine bodyPost_ret (results_tries p.2.1 p.2.2 (w.heap.size + 1) _ _ rfl ?_) rfl (by rw [HE.out, HP.out]; exact OpOut.up HM.out.1 (by simp; omega) hlt HLOW.out (Nat.le_succ _) HO.out)
  simpa using ((HR4.out.putM 0 (.int .i64 p.2.1)).putM 1 (.string p.2.2))

set_option maxHeartbeats 4000000 in
theorem tries_5 (B b n : Nat) (rs : List Wr) (d : M.Dd) (w : World) (h : St w B b n rs) (hn : d.name.size ≤ 1048576) (hpg : d.page.size ≤ 1048576) (hok : M.deedOk d = true) (hk : d.kind = 5) :
    Calls Tryz.prog 106 #[.map (some b), ddV d] w (OpOut w B b rs (M.doAll (rs.map Wr.wk) d)) := by
  have HE : Hid (M.doAll (rs.map Wr.wk) d = M.doFetch (rs.map Wr.wk) d) := Lib.hid (by unfold M.doAll; rw [if_pos hok]; simp [hk])
  have HSH : Hid (shV d = .iface 153 (feV d)) := Lib.hid (by simp [shV, hk])
  have HPG := Lib.hid hpg
  clear hk
  obtain ⟨p, hp⟩ : ∃ p, M.doFetch (rs.map Wr.wk) d = p := ⟨_, rfl⟩
  have HP := Lib.hid hp
  clear hp
  have hm := ((Mem.start w).new (ddC d) 31).new (rpA 0 noP) 39
  have hst := h.below (((Below.refl w.heap.size w).alloc (Nat.le_refl _) (.cells (ddC d) 31)).alloc (by simp) (.cells (rpA 0 noP) 39))
  simp only [World.size_alloc] at hm
  have hlt : b < w.heap.size := by have := h.low; have := h.top; omega
  have HLOW : Hid (∀ r ∈ rs, ∀ k, r.sl.ownBlock = some k → k < w.heap.size) := Lib.hid (fun r hr k e => ((h.own.1 r hr).lt k e).2)
  clear h
  go_enter Tryz.func106, Tryz.ntmps106
  go_wp2_with fail
  have hcall := implDeedOk d ((w.alloc (.cells (ddC d) 31)).alloc (.cells (rpA 0 noP) 39)) (by unfold maxLen; omega) (by have := HPG.out; unfold maxLen; omega)
  rw [hok] at hcall
  refine hcall.mono ?_
  rintro e x1 ⟨rfl, b1⟩
  have hm1 := hm.below b1
  have hst1 := hst.below b1
  have hs1 := b1.size
  simp only [World.size_alloc] at hs1
  clear hcall hm hst b1 hok
  obtain ⟨q0, q1, q2, q3, q4, q5, q6⟩ := (hm1.get w.heap.size (ddC d) (by simp)).seven
  go_wp2_with fail
  refine (shapeOf_any d _).mono ?_
  rintro e x2 ⟨rfl, b2⟩
  rw [HSH.out]
  have hm2 := (hm1.below b2).new (#[.string d.name, .int .i64 d.ed.ma, .int .i64 d.ed.mi, .int .i64 d.ed.pa]) 153
  have hst2 := (hst1.below b2).alloc (.cells (#[.string d.name, .int .i64 d.ed.ma, .int .i64 d.ed.mi, .int .i64 d.ed.pa]) 153)
  have hs2 := b2.size
  have HM := Lib.hid hm2
  have HSTW := Lib.hid hst2
  clear hm1 hst1 hm2 hst2 b2 q0 q1 q2 q3 q4 q5 q6
  have as0 := as_fe_cl (feV d)
  have as1 := as_fe_pu (feV d)
  have as2 := as_fe_ve (feV d)
  have as3 := as_fe_fe (feV d)
  go_wp2_with fail
  have hcall := fetch_any B b n rs d _ HSTW.out hn
  rw [HP.out] at hcall
  refine hcall.mono ?_
  rintro e x3 ho
  obtain rfl := ho.1
  have hr4 := holds_by (HM.out.get (w.heap.size + 1) (rpA 0 noP) (by simp)) ho.2.1 (by omega)
  obtain ⟨r0, r1⟩ := hr4.two
  have z := loose_by (HM.out.loose (w.heap.size + 1) (by simp)) (HM.out.get (w.heap.size + 1) (rpA 0 noP) (by simp)).1 ho.2.1 (by omega)
  have z0 := z 0
  have z1 := z 1
  have HO := Lib.hid ho
  have HR4 := Lib.hid hr4
  clear hcall ho z hr4
  go_wp2
  refine bodyPost_ret (results_tries p.2.1 p.2.2 (w.heap.size + 1) _ _ rfl ?_) rfl (by rw [HE.out, HP.out]; exact OpOut.up HM.out.1 (by simp; omega) hlt HLOW.out (Nat.le_succ _) HO.out)
  simpa using ((HR4.out.putM 0 (.int .i64 p.2.1)).putM 1 (.string p.2.2))

set_option maxHeartbeats 4000000 in
theorem tries_6 (B b n : Nat) (rs : List Wr) (d : M.Dd) (w : World) (h : St w B b n rs) (hn : d.name.size ≤ 1048576) (hpg : d.page.size ≤ 1048576) (hok : M.deedOk d = true) (hk : d.kind = 6) :
    Calls Tryz.prog 106 #[.map (some b), ddV d] w (OpOut w B b rs (M.doAll (rs.map Wr.wk) d)) := by
  have HE : Hid (M.doAll (rs.map Wr.wk) d = M.doGive (rs.map Wr.wk) d) := Lib.hid (by unfold M.doAll; rw [if_pos hok]; simp [hk])
  have HSH : Hid (shV d = .iface 155 (giV d)) := Lib.hid (by simp [shV, hk])
  have HPG := Lib.hid hpg
  clear hk
  obtain ⟨p, hp⟩ : ∃ p, M.doGive (rs.map Wr.wk) d = p := ⟨_, rfl⟩
  have HP := Lib.hid hp
  clear hp
  have hm := ((Mem.start w).new (ddC d) 31).new (rpA 0 noP) 39
  have hst := h.below (((Below.refl w.heap.size w).alloc (Nat.le_refl _) (.cells (ddC d) 31)).alloc (by simp) (.cells (rpA 0 noP) 39))
  simp only [World.size_alloc] at hm
  have hlt : b < w.heap.size := by have := h.low; have := h.top; omega
  have HLOW : Hid (∀ r ∈ rs, ∀ k, r.sl.ownBlock = some k → k < w.heap.size) := Lib.hid (fun r hr k e => ((h.own.1 r hr).lt k e).2)
  clear h
  go_enter Tryz.func106, Tryz.ntmps106
  go_wp2_with fail
  have hcall := implDeedOk d ((w.alloc (.cells (ddC d) 31)).alloc (.cells (rpA 0 noP) 39)) (by unfold maxLen; omega) (by have := HPG.out; unfold maxLen; omega)
  rw [hok] at hcall
  refine hcall.mono ?_
  rintro e x1 ⟨rfl, b1⟩
  have hm1 := hm.below b1
  have hst1 := hst.below b1
  have hs1 := b1.size
  simp only [World.size_alloc] at hs1
  clear hcall hm hst b1 hok
  obtain ⟨q0, q1, q2, q3, q4, q5, q6⟩ := (hm1.get w.heap.size (ddC d) (by simp)).seven
  go_wp2_with fail
  refine (shapeOf_any d _).mono ?_
  rintro e x2 ⟨rfl, b2⟩
  rw [HSH.out]
  have hm2 := (hm1.below b2).new (#[.string d.name, .int .i64 d.who, .int .i64 d.ed.ma]) 155
  have hst2 := (hst1.below b2).alloc (.cells (#[.string d.name, .int .i64 d.who, .int .i64 d.ed.ma]) 155)
  have hs2 := b2.size
  have HM := Lib.hid hm2
  have HSTW := Lib.hid hst2
  clear hm1 hst1 hm2 hst2 b2 q0 q1 q2 q3 q4 q5 q6
  have as0 := as_gi_cl (giV d)
  have as1 := as_gi_pu (giV d)
  have as2 := as_gi_ve (giV d)
  have as3 := as_gi_fe (giV d)
  have as4 := as_gi_gi (giV d)
  go_wp2_with fail
  have hcall := give_any B b n rs d _ HSTW.out hn
  rw [HP.out] at hcall
  refine hcall.mono ?_
  rintro e x3 ho
  obtain rfl := ho.1
  have hr4 := holds_by (HM.out.get (w.heap.size + 1) (rpA 0 noP) (by simp)) ho.2.1 (by omega)
  obtain ⟨r0, r1⟩ := hr4.two
  have z := loose_by (HM.out.loose (w.heap.size + 1) (by simp)) (HM.out.get (w.heap.size + 1) (rpA 0 noP) (by simp)).1 ho.2.1 (by omega)
  have z0 := z 0
  have z1 := z 1
  have HO := Lib.hid ho
  have HR4 := Lib.hid hr4
  clear hcall ho z hr4
  go_wp2
  refine bodyPost_ret (results_tries p.2.1 p.2.2 (w.heap.size + 1) _ _ rfl ?_) rfl (by rw [HE.out, HP.out]; exact OpOut.up HM.out.1 (by simp; omega) hlt HLOW.out (Nat.le_succ _) HO.out)
  simpa using ((HR4.out.putM 0 (.int .i64 p.2.1)).putM 1 (.string p.2.2))

set_option maxHeartbeats 4000000 in
theorem tries_bad (B b n : Nat) (rs : List Wr) (d : M.Dd) (w : World) (h : St w B b n rs) (hn : d.name.size ≤ 1048576) (hpg : d.page.size ≤ 1048576) (hok : M.deedOk d = false) :
    Calls Tryz.prog 106 #[.map (some b), ddV d] w (OpOut w B b rs (M.doAll (rs.map Wr.wk) d)) := by
  have HE : Hid ((M.doAll (rs.map Wr.wk) d).2 = ((7 : Int), M.nilB)) := Lib.hid (by simp [M.doAll, hok])
  have hm := ((Mem.start w).new (ddC d) 31).new (rpA 0 noP) 39
  have hst := h.below (((Below.refl w.heap.size w).alloc (Nat.le_refl _) (.cells (ddC d) 31)).alloc (by simp) (.cells (rpA 0 noP) 39))
  simp only [World.size_alloc] at hm
  have hlt : b < w.heap.size := by have := h.low; have := h.top; omega
  clear h
  go_enter Tryz.func106, Tryz.ntmps106
  go_wp2_with fail
  have hcall := implDeedOk d ((w.alloc (.cells (ddC d) 31)).alloc (.cells (rpA 0 noP) 39)) (by unfold maxLen; omega) (by unfold maxLen; omega)
  rw [hok] at hcall
  refine hcall.mono ?_
  rintro e x1 ⟨rfl, b1⟩
  have hm1 := hm.below b1
  have hst1 := hst.below b1
  clear hcall hm hst b1 hok
  obtain ⟨r0, r1⟩ := (hm1.get (w.heap.size + 1) (rpA 0 noP) (by simp)).two
  have z0 := hm1.loose (w.heap.size + 1) (by simp) 0
  have z1 := hm1.loose (w.heap.size + 1) (by simp) 1
  have HM := Lib.hid hm1
  have HST := Lib.hid hst1
  clear hm1 hst1
  go_wp2
  refine bodyPost_ret (results_tries 7 noP (w.heap.size + 1) _ _ rfl ?_) rfl (OpOut.bad HM.out.1 HST.out.map hlt HE.out (by decide) (Nat.le_succ _))
  simpa using (((HM.out.get (w.heap.size + 1) (rpA 0 noP) (by simp)).putM 0 (.int .i64 7)).putM 1 (.string noP))

theorem deedOk_kind {d : M.Dd} (h : M.deedOk d = true) : d.kind = 1 ∨ d.kind = 2 ∨ d.kind = 3 ∨ d.kind = 4 ∨ d.kind = 5 ∨ d.kind = 6 := by
  by_cases h' : 1 ≤ d.kind ∧ d.kind ≤ 6
  · omega
  · rw [ok_none d h'] at h; cases h
theorem tries_any (B b n : Nat) (rs : List Wr) (d : M.Dd) (w : World) (h : St w B b n rs) (hn : d.name.size ≤ 1048576) (hpg : d.page.size ≤ 1048576) :
    Calls Tryz.prog 106 #[.map (some b), ddV d] w (OpOut w B b rs (M.doAll (rs.map Wr.wk) d)) := by
  rcases hok : M.deedOk d with _ | _
  · exact tries_bad B b n rs d w h hn hpg hok
  · rcases deedOk_kind hok with hk | hk | hk | hk | hk | hk
    · exact tries_1 B b n rs d w h hn hpg hok hk
    · exact tries_2 B b n rs d w h hn hpg hok hk
    · exact tries_3 B b n rs d w h hn hpg hok hk
    · exact tries_4 B b n rs d w h hn hpg hok hk
    · exact tries_5 B b n rs d w h hn hpg hok hk
    · exact tries_6 B b n rs d w h hn hpg hok hk
end Go.Proofs.YtkpbfocnokbmiaaGreat
namespace Go.Proofs.YtkpbfocnokbmiaaGreat
open Go.RowKit
theorem own_set {B g : Nat} {w : World} {t : TypeId} {kk n : Nat} {v : Value} {C : List Value} (h : w.ownsRow B t kk v n C) (hg : g < B) (i : Nat) (u : Value) : (w.setCell ⟨g, i, none⟩ u).ownsRow B t kk v n C := by
  obtain ⟨hl, h0 | ⟨k, cap, cur, rfl, hb, hh, hr⟩⟩ := h
  · exact ⟨hl, .inl h0⟩
  · exact ⟨hl, .inr ⟨k, cap, cur, rfl, hb, (Below.heap_setCell _ _ _ _ (by show k ≠ g; omega)).trans hh, hr⟩⟩
theorem SfOwn.set {B g : Nat} {w : World} {v : Value} {l : List Wr} (h : SfOwn B w v l) (hg : g < B) (i : Nat) (u : Value) : SfOwn B (w.setCell ⟨g, i, none⟩ u) v l :=
  ⟨own_set h.1 hg i u, fun r hr => own_set (h.2.1 r hr) hg i u, h.2.2⟩
end Go.Proofs.YtkpbfocnokbmiaaGreat
namespace Go.Proofs.YtkpbfocnokbmiaaGreat
open Go.RowKit
set_option maxRecDepth 20000
namespace M
/-- What a deed leaves, all as it was where it is refused. -/
def keptD (l : List Wk) (d : Dd) : List Wk × Rp := (if (doAll l d).2.1 = 0 then (doAll l d).1 else l, (doAll l d).2)
def does (s : List Wk) (d : Dd) : List Wk × Rp := if sfOk s then (if (doAll s d).2.1 = 0 then (doAll s d).1 else s, (doAll s d).2) else ([], (7, nilB))
theorem insN_mem {w x : Wk} : ∀ {l : List Wk}, x ∈ insN w l → x = w ∨ x ∈ l
  | [], h => .inl (by simpa [insN] using h)
  | y :: l, h => by
    unfold insN at h
    split at h
    · rcases List.mem_cons.1 h with h | h
      · exact .inl h
      · exact .inr h
    · rcases List.mem_cons.1 h with h | h
      · exact .inr (by rw [h]; simp)
      · rcases insN_mem h with h | h
        · exact .inl h
        · exact .inr (List.mem_cons_of_mem _ h)
theorem insN_length (w : Wk) : ∀ l : List Wk, (insN w l).length = l.length + 1
  | [] => rfl
  | y :: l => by
    unfold insN
    split
    · rfl
    · simp [insN_length w l]
theorem getN_mem {l : List Wk} {n : ByteArray} {w : Wk} (h : getN l n = some w) : w ∈ l := List.mem_of_find?_eq_some h
end M

theorem rise_of : ∀ {l : List Wr}, M.risesN (l.map Wr.wk) = true → RiseW l
  | [], _ => List.Pairwise.nil
  | [a], _ => List.pairwise_singleton _ _
  | a :: b :: l, h => by
    have h1 : M.nameLt a.name b.name = true ∧ M.risesN ((b :: l).map Wr.wk) = true := by
      have h' : (M.nameLt a.name b.name && M.risesN ((b :: l).map Wr.wk)) = true := h
      simpa using h'
    have ih := rise_of (l := b :: l) h1.2
    have hab : bytesBefore (nmL a) (nmL b) = true := (before_name a.name b.name).trans h1.1
    refine List.pairwise_cons.2 ⟨fun x hx => ?_, ih⟩
    rcases List.mem_cons.1 hx with e | hx
    · rw [e]; exact hab
    · exact before_trans hab ((List.pairwise_cons.1 ih).1 x hx)
theorem sfOk_rise {l : List Wr} (h : M.sfOk (l.map Wr.wk) = true) : RiseW l ∧ l.length ≤ 5 := by
  unfold M.sfOk at h
  simp only [Bool.and_eq_true, decide_eq_true_eq, List.length_map] at h
  exact ⟨rise_of h.2.2, h.1⟩
theorem rise_same {l rs : List Wr} (h : rs.map Wr.wk = l.map Wr.wk) (hr : RiseW l) : RiseW rs := by
  have e : rs.map nmL = l.map nmL := by
    have := congrArg (List.map fun k : M.Wk => k.name.data.toList) h
    rw [List.map_map, List.map_map] at this
    exact this
  have h1 : (l.map nmL).Pairwise fun a b => bytesBefore a b = true := List.pairwise_map.2 hr
  rw [← e] at h1
  exact List.pairwise_map.1 h1
theorem wrs_same {l rs : List Wr} {n : Nat} (h : rs.map Wr.wk = l.map Wr.wk) (hp : WrsIn n l) : WrsIn n rs := fun r hr => by
  have h1 : r.wk ∈ l.map Wr.wk := h ▸ List.mem_map_of_mem hr
  obtain ⟨x, hx, e⟩ := List.mem_map.1 h1
  have h2 := hp x hx
  have e1 : x.name = r.name := congrArg M.Wk.name e
  have e2 : x.cps = r.cps := congrArg M.Wk.copies e
  rw [e1, e2] at h2
  exact h2
theorem own_by {b g : Nat} {x y : World} {t : TypeId} {kk n : Nat} {v : Value} {C : List Value} (h : x.ownsRow b t kk v n C) (hg : x.grownBy y (some g)) (hb : g < b) : y.ownsRow b t kk v n C := by
  obtain ⟨hl, h0 | ⟨k, cap, cur, rfl, hk, hh, hr⟩⟩ := h
  · exact ⟨hl, .inl h0⟩
  · refine ⟨hl, .inr ⟨k, cap, cur, rfl, hk, (hg.block k (Array.getElem?_eq_some_iff.1 hh).1 ?_).trans hh, hr⟩⟩
    intro e
    injection e with e
    omega
theorem SfOwn.by {B g : Nat} {w w' : World} {v : Value} {l : List Wr} (h : SfOwn B w v l) (hg : w.grownBy w' (some g)) (hb : g < B) : SfOwn B w' v l :=
  ⟨own_by h.1 hg hb, fun r hr => cp_by (h.2.1 r hr) hg hb, h.2.2⟩
theorem Mem.by {w0 : World} {b : Nat} {hs : List (Nat × Array Value)} {ls : List Nat} {x y : World} (h : Mem w0 hs ls x) (hg : x.grownBy y (some b)) (hb : w0.heap.size ≤ b) (hne : ∀ p ∈ hs, p.1 ≠ b) (hnl : ∀ g ∈ ls, g ≠ b) : Mem w0 hs ls y :=
  ⟨h.1.grown hg h.1.size (fun k e => by cases e; exact hb), fun p hp => holds_by (h.2.1 p hp) hg (hne p hp), fun g hp => ⟨Nat.lt_of_lt_of_le (h.2.2 g hp).1 hg.size, loose_by (h.2.2 g hp).2 (h.2.2 g hp).1 hg (hnl g hp)⟩⟩
end Go.Proofs.YtkpbfocnokbmiaaGreat
namespace Go.Proofs.YtkpbfocnokbmiaaGreat
namespace M

def smallWk (n : Nat) (w : Wk) : Prop := w.name.size ≤ 64 ∧ w.copies.length ≤ n ∧ ∀ c ∈ w.copies, c.page.size ≤ 64
theorem small_zero (n : Nat) : smallWk n zeroWk := ⟨by simp [zeroWk, nilB]; decide, by simp [zeroWk], by simp [zeroWk]⟩
theorem smallWk.mono {n m : Nat} {w : Wk} (h : smallWk n w) (hm : n ≤ m) : smallWk m w := ⟨h.1, Nat.le_trans h.2.1 hm, h.2.2⟩
theorem putAt_mem {l : List Cp} {k : Nat} {c x : Cp} (h : x ∈ putAt l k c) : x = c ∨ x ∈ l := by
  unfold putAt at h
  rcases List.mem_append.1 h with h | h
  · exact .inr (List.mem_of_mem_take h)
  · rcases List.mem_cons.1 h with h | h
    · exact .inl h
    · exact .inr (List.mem_of_mem_drop h)
theorem small_printed {n : Nat} {w : Wk} {e : Ed} {p : ByteArray} (hs : smallWk n w) (hn : 9 ≤ n) (hp : p.size ≤ 64) : smallWk n (printed w e p).1 := by
  rcases hk : wkOk w with _ | _
  · rw [printed_bad e p hk]; exact small_zero n
  · have h8 := (wkOk_rises hk).2.1
    unfold printed
    rw [if_pos hk]
    split
    · exact hs
    · refine ⟨hs.1, ?_, fun c hc => ?_⟩
      · show (putAt w.copies _ _).length ≤ n
        rw [putAt_len _ _ _ (place_le _ _)]; omega
      · rcases putAt_mem hc with rfl | hc
        · exact hp
        · exact hs.2.2 c hc
theorem veilAt_mem {l : List Cp} {k : Nat} {h : Bool} {x : Cp} (hx : x ∈ veilAt l k h) : ∃ c ∈ l, x.page = c.page := by
  unfold veilAt at hx
  obtain ⟨i, hi, rfl⟩ := List.mem_iff_getElem.1 hx
  have hi' : i < l.length := by simpa using hi
  refine ⟨l[i], List.getElem_mem hi', ?_⟩
  rw [List.getElem_modify]
  split <;> rfl
theorem small_veiled {n : Nat} {w : Wk} {e : Ed} {h : Bool} (hs : smallWk n w) : smallWk n (veiled w e h).1 := by
  rcases hk : wkOk w with _ | _
  · rw [veiled_bad e h hk]; exact small_zero n
  · unfold veiled
    rw [if_pos hk]
    split
    · refine ⟨hs.1, ?_, fun c hc => ?_⟩
      · show (veilAt w.copies _ _).length ≤ n
        rw [veilAt_len]; exact hs.2.1
      · obtain ⟨d, hd, e⟩ := veilAt_mem hc
        rw [e]; exact hs.2.2 d hd
    · exact hs

/-- How many copies stand where the filling up may still meet them. -/
def five (i : Nat) (c : Cp) : Bool := decide (c.ed.ma = 5 ∧ c.ed.pa = 0 ∧ (i : Int) ≤ c.ed.mi)
def fives (l : List Cp) (i : Nat) : Nat := l.countP (five i)
theorem fives_le (l : List Cp) (i : Nat) : fives l i ≤ l.length := List.countP_le_length
theorem five_mono {i : Nat} {c : Cp} (h : five (i + 1) c = true) : five i c = true := by
  simp only [five, decide_eq_true_eq] at h ⊢
  refine ⟨h.1, h.2.1, ?_⟩
  have := h.2.2
  omega
theorem fives_mono (l : List Cp) (i : Nat) : fives l (i + 1) ≤ fives l i := List.countP_mono_left fun _ _ h => five_mono h
theorem fives_lt : ∀ (l : List Cp) (i : Nat) (c : Cp), c ∈ l → c.ed = ⟨5, i, 0⟩ → fives l (i + 1) < fives l i
  | [], i, c, h, _ => by simp at h
  | d :: l, i, c, h, hc => by
    unfold fives
    rw [List.countP_cons, List.countP_cons]
    rcases List.mem_cons.1 h with rfl | h
    · have h1 : five i c = true := by simp [five, hc]
      have h2 : five (i + 1) c = false := by simp [five, hc]; omega
      have := fives_mono l i
      unfold fives at this
      rw [if_pos h1, if_neg (by rw [h2]; simp)]; omega
    · have ih := fives_lt l i c h hc
      unfold fives at ih
      rcases h2 : five (i + 1) d with _ | _
      · simp; split <;> omega
      · rw [if_pos rfl, if_pos (five_mono h2)]; omega
theorem fives_putAt (l : List Cp) (k i : Nat) (c : Cp) (hc : five i c = false) : fives (putAt l k c) i = fives l i := by
  unfold fives putAt
  rw [List.countP_append, List.countP_cons, if_neg (by rw [hc]; simp)]
  have := congrArg (List.countP (five i)) (List.take_append_drop k l)
  rw [List.countP_append] at this
  omega
/-- The page of the copies that fill up. -/
abbrev x1B : ByteArray := ⟨#[120, 49]⟩
theorem x1_ok (i : Nat) (hi : i ≤ 99) : cpOk ⟨⟨5, i, 0⟩, x1B, false⟩ = true := by
  have h1 : edOk ⟨5, (i : Int), 0⟩ = true := (edOk_iff _).2 (by simp only; omega)
  have h2 : pageOk x1B.data.toList = true := by decide
  simp [cpOk, h1, h2]
theorem fill_step {w : Wk} {i : Nat} (hk : wkOk w = true) (hl : w.copies.length < 8) (hi : i ≤ 99) :
    (8 - (printed w ⟨5, i, 0⟩ x1B).1.copies.length) + fives (printed w ⟨5, i, 0⟩ x1B).1.copies (i + 1) < (8 - w.copies.length) + fives w.copies i ∧ (printed w ⟨5, i, 0⟩ x1B).1.copies.length ≤ 8 := by
  by_cases hf : findEd w.copies ⟨5, i, 0⟩ < w.copies.length
  · rw [printed_there _ hk hf]
    have h1 : isEd ⟨5, i, 0⟩ (w.copies[findEd w.copies ⟨5, i, 0⟩]'hf) = true := List.findIdx_getElem (w := hf)
    have h2 : (w.copies[findEd w.copies ⟨5, i, 0⟩]'hf).ed = ⟨5, i, 0⟩ := by simpa [isEd] using h1
    have := fives_lt w.copies i _ (List.getElem_mem hf) h2
    exact ⟨by simp only; omega, by simp only; omega⟩
  · have hx := x1_ok i hi
    have he : printed w ⟨5, i, 0⟩ x1B = ({ w with copies := putAt w.copies (place w.copies ⟨5, i, 0⟩) ⟨⟨5, i, 0⟩, x1B, false⟩ }, true) := by
      unfold printed
      rw [if_pos hk, if_neg]
      rintro (h | h | h)
      · exact hf h
      · rw [hx] at h; cases h
      · omega
    rw [he]
    have h5 : five (i + 1) ⟨⟨5, (i : Int), 0⟩, x1B, false⟩ = false := by simp [five]; omega
    have h6 := fives_putAt w.copies (place w.copies ⟨5, i, 0⟩) (i + 1) ⟨⟨5, i, 0⟩, x1B, false⟩ h5
    have h7 := putAt_len w.copies (place w.copies ⟨5, i, 0⟩) ⟨⟨5, i, 0⟩, x1B, false⟩ (place_le _ _)
    have h8 := fives_mono w.copies i
    constructor
    · show (8 - (putAt _ _ _).length) + fives (putAt _ _ _) (i + 1) < _
      rw [h6, h7]; omega
    · show (putAt _ _ _).length ≤ 8
      rw [h7]; omega
end M
end Go.Proofs.YtkpbfocnokbmiaaGreat
