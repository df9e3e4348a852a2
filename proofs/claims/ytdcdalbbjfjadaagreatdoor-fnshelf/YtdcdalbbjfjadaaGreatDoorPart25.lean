/- Proved, in parts: Proved: what the plain Lean functions of the deeds leave is near what was there; names that rise; what a block's write leaves of rows that lie elsewhere. Condition: none. Proved: the program's does on the map of works leaves what a plain Lean function tells, all as it was where the deed is refused; it writes the map's block alone. Condition: texts of at most a million bytes. -/
import Derived.Test.YtdcdalbbjfjadaaGreatDoorPart24
import Derived.Test.YtdcdalbbjfjadaaGreatDoorPart08
namespace Go.Proofs.YtdcdalbbjfjadaaGreatDoor
open Go.RowKit
set_option maxRecDepth 20000
namespace M
/-- What a deed leaves, all as it was where it is refused. -/
def keptD (l : List Wk) (d : Dd) : List Wk × Rp := (if (doAll l d).2.1 = 0 then (doAll l d).1 else l, (doAll l d).2)
def does (s : List Wk) (d : Dd) : List Wk × Rp := if sfOk s then (if (doAll s d).2.1 = 0 then (doAll s d).1 else s, (doAll s d).2) else ([], (7, nilB))
def Near (l : List Wk) (d : Dd) (m : List Wk) : Prop := m.length ≤ l.length + 1 ∧ ∀ x ∈ m, x.name = d.name ∨ ∃ y ∈ l, x.name = y.name
theorem near_self (l : List Wk) (d : Dd) : Near l d l := ⟨Nat.le_succ _, fun x hx => .inr ⟨x, hx, rfl⟩⟩
theorem insN_mem {w x : Wk} : ∀ {l : List Wk}, x ∈ insN w l → x = w ∨ x ∈ l
  | [], h => .inl (by simpa [insN] using h)
  | y :: l, h => by
    unfold insN at h
    split at h
    · rcases List.mem_cons.1 h with h | h
      · exact .inl h
      · exact .inr h
    · rcases List.mem_cons.1 h with h | h
      · exact .inr (by rw [h]; simp)
      · rcases insN_mem h with h | h
        · exact .inl h
        · exact .inr (List.mem_cons_of_mem _ h)
theorem insN_length (w : Wk) : ∀ l : List Wk, (insN w l).length = l.length + 1
  | [] => rfl
  | y :: l => by
    unfold insN
    split
    · rfl
    · simp [insN_length w l]
theorem near_put {l : List Wk} {d : Dd} {w : Wk} (h : w.name = d.name ∨ ∃ y ∈ l, w.name = y.name) : Near l d (putN l w) := by
  refine ⟨?_, fun x hx => ?_⟩
  · unfold putN
    rw [insN_length]
    have := List.length_filter_le (fun x : Wk => !(x.name.data.toList == w.name.data.toList)) l
    omega
  · rcases insN_mem hx with rfl | hx
    · exact h
    · exact .inr ⟨x, (List.mem_filter.1 hx).1, rfl⟩
theorem getN_mem {l : List Wk} {n : ByteArray} {w : Wk} (h : getN l n = some w) : w ∈ l := List.mem_of_find?_eq_some h
theorem near_doPut (l : List Wk) (d : Dd) : Near l d (doPut l d).1 := by
  unfold doPut
  split
  · exact near_self l d
  · rename_i w hw
    split
    · split
      · exact near_self l d
      · split
        · rename_i h
          exact near_put (.inr ⟨w, getN_mem hw, printed_name h⟩)
        · exact near_self l d
    · exact near_self l d
theorem near_doVeil (l : List Wk) (d : Dd) (b : Bool) : Near l d (doVeil l d b).1 := by
  unfold doVeil
  split
  · exact near_self l d
  · rename_i w hw
    split
    · split
      · rename_i h
        exact near_put (.inr ⟨w, getN_mem hw, veiled_name h⟩)
      · exact near_self l d
    · exact near_self l d
theorem near_doGive (l : List Wk) (d : Dd) : Near l d (doGive l d).1 := by
  unfold doGive
  split
  · split
    · exact near_self l d
    · rename_i w hw
      split
      · exact near_put (.inr ⟨w, getN_mem hw, rfl⟩)
      · exact near_self l d
  · exact near_self l d
theorem near_doFetch (l : List Wk) (d : Dd) : Near l d (doFetch l d).1 := by
  unfold doFetch
  split
  · exact near_self l d
  · split
    · split <;> exact near_self l d
    · exact near_self l d
theorem near_doClaim (l : List Wk) (d : Dd) : Near l d (doClaim l d).1 := by
  unfold doClaim
  split
  · exact near_self l d
  · split
    · exact near_self l d
    · exact near_put (.inl rfl)
theorem near_doAll (l : List Wk) (d : Dd) : Near l d (doAll l d).1 := by
  unfold doAll
  split
  · split
    · exact near_doClaim l d
    · split
      · exact near_doPut l d
      · split
        · exact near_doVeil l d true
        · split
          · exact near_doVeil l d false
          · split
            · exact near_doFetch l d
            · exact near_doGive l d
  · exact near_self l d
theorem near_keptD (l : List Wk) (d : Dd) : Near l d (keptD l d).1 := by
  show Near l d (if (doAll l d).2.1 = 0 then (doAll l d).1 else l)
  split
  · exact near_doAll l d
  · exact near_self l d
end M

theorem rise_of : ∀ {l : List Wr}, M.risesN (l.map Wr.wk) = true → RiseW l
  | [], _ => List.Pairwise.nil
  | [a], _ => List.pairwise_singleton _ _
  | a :: b :: l, h => by
    have h1 : M.nameLt a.name b.name = true ∧ M.risesN ((b :: l).map Wr.wk) = true := by
      have h' : (M.nameLt a.name b.name && M.risesN ((b :: l).map Wr.wk)) = true := h
      simpa using h'
    have ih := rise_of (l := b :: l) h1.2
    have hab : bytesBefore (nmL a) (nmL b) = true := (before_name a.name b.name).trans h1.1
    refine List.pairwise_cons.2 ⟨fun x hx => ?_, ih⟩
    rcases List.mem_cons.1 hx with e | hx
    · rw [e]; exact hab
    · exact before_trans hab ((List.pairwise_cons.1 ih).1 x hx)
theorem sfOk_rise {l : List Wr} (h : M.sfOk (l.map Wr.wk) = true) : RiseW l ∧ l.length ≤ 5 := by
  unfold M.sfOk at h
  simp only [Bool.and_eq_true, decide_eq_true_eq, List.length_map] at h
  exact ⟨rise_of h.2.2, h.1⟩
theorem rise_same {l rs : List Wr} (h : rs.map Wr.wk = l.map Wr.wk) (hr : RiseW l) : RiseW rs := by
  have e : rs.map nmL = l.map nmL := by
    have := congrArg (List.map fun k : M.Wk => k.name.data.toList) h
    rw [List.map_map, List.map_map] at this
    exact this
  have h1 : (l.map nmL).Pairwise fun a b => bytesBefore a b = true := List.pairwise_map.2 hr
  rw [← e] at h1
  exact List.pairwise_map.1 h1
theorem wrs_same {l rs : List Wr} {n : Nat} (h : rs.map Wr.wk = l.map Wr.wk) (hp : WrsIn n l) : WrsIn n rs := fun r hr => by
  have h1 : r.wk ∈ l.map Wr.wk := h ▸ List.mem_map_of_mem hr
  obtain ⟨x, hx, e⟩ := List.mem_map.1 h1
  have h2 := hp x hx
  have e1 : x.name = r.name := congrArg M.Wk.name e
  have e2 : x.cps = r.cps := congrArg M.Wk.copies e
  rw [e1, e2] at h2
  exact h2
theorem length_same {l rs : List Wr} (h : rs.map Wr.wk = l.map Wr.wk) : rs.length = l.length := by simpa using congrArg List.length h
theorem near_names {l rs' : List Wr} {d : M.Dd} {m : List M.Wk} (h : M.Near (l.map Wr.wk) d m) (e : rs'.map Wr.wk = m) (hl : l.length ≤ 5) (hp : WrsIn 1048576 l) (hn : d.name.size ≤ 1048576) : rs'.length ≤ 1000 ∧ ∀ r ∈ rs', r.name.size ≤ 1048576 := by
  subst e
  refine ⟨?_, fun r hr => ?_⟩
  · have := h.1
    simp only [List.length_map] at this
    omega
  · rcases h.2 r.wk (List.mem_map_of_mem hr) with e | ⟨y, hy, e⟩
    · rw [show r.name = d.name from e]; exact hn
    · obtain ⟨x, hx, rfl⟩ := List.mem_map.1 hy
      rw [show r.name = x.name from e]
      exact (hp x hx).1

theorem own_by {b g : Nat} {x y : World} {t : TypeId} {kk n : Nat} {v : Value} {C : List Value} (h : x.ownsRow b t kk v n C) (hg : x.grownBy y (some g)) (hb : g < b) : y.ownsRow b t kk v n C := by
  obtain ⟨hl, h0 | ⟨k, cap, cur, rfl, hk, hh, hr⟩⟩ := h
  · exact ⟨hl, .inl h0⟩
  · refine ⟨hl, .inr ⟨k, cap, cur, rfl, hk, (hg.block k (Array.getElem?_eq_some_iff.1 hh).1 ?_).trans hh, hr⟩⟩
    intro e
    injection e with e
    omega
theorem SfOwn.by {B g : Nat} {w w' : World} {v : Value} {l : List Wr} (h : SfOwn B w v l) (hg : w.grownBy w' (some g)) (hb : g < B) : SfOwn B w' v l :=
  ⟨own_by h.1 hg hb, fun r hr => cp_by (h.2.1 r hr) hg hb, h.2.2⟩
theorem Mem.by {w0 : World} {b : Nat} {hs : List (Nat × Array Value)} {ls : List Nat} {x y : World} (h : Mem w0 hs ls x) (hg : x.grownBy y (some b)) (hb : w0.heap.size ≤ b) (hne : ∀ p ∈ hs, p.1 ≠ b) (hnl : ∀ g ∈ ls, g ≠ b) : Mem w0 hs ls y :=
  ⟨h.1.grown hg h.1.size (fun k e => by cases e; exact hb), fun p hp => holds_by (h.2.1 p hp) hg (hne p hp), fun g hp => ⟨Nat.lt_of_lt_of_le (h.2.2 g hp).1 hg.size, loose_by (h.2.2 g hp).2 (h.2.2 g hp).1 hg (hnl g hp)⟩⟩
end Go.Proofs.YtdcdalbbjfjadaaGreatDoor
namespace Go.Proofs.YtdcdalbbjfjadaaGreatDoor
open Go.RowKit
set_option maxRecDepth 20000

/-- What does leaves. -/
def DoOut (w : World) (B b : Nat) (rs : List Wr) (q : List M.Wk × M.Rp) (e : Ending) (w' : World) : Prop :=
  e = .returned (rpV q.2.1 q.2.2) ∧ w.grownBy w' (some b) ∧ ∃ n' rs', ShM w' b n' rs' ∧ RiseW rs' ∧ RsOwn B w' rs' ∧ rs'.map Wr.wk = q.1 ∧ ∀ r ∈ rs', ∀ k, r.sl.ownBlock = some k → w.heap.size ≤ k ∨ ∃ x ∈ rs, x.sl.ownBlock = some k

theorem results_sdoes (c : Int) (p : ByteArray) (R : Nat) (W : World) (tmps : Array Value) (h2 : tmps.getD 4 undef = .pointer (some ⟨R, 0, none⟩)) (hW : Holds W R (rpA c p)) :
    (results Tryz.f22 tmps).run Tryz.prog W = .ok (rpV c p) W := by
  obtain ⟨q0, q1⟩ := hW.two
  simp at h2
  simp [results, Tryz.results22, go_sem, h2, q0, q1]

set_option maxHeartbeats 4000000 in
theorem does_any (B b n : Nat) (rs : List Wr) (d : M.Dd) (w : World) (h : St w B b n rs) (hl5 : rs.length ≤ 5) (hn : d.name.size ≤ 1048576) (hpg : d.page.size ≤ 1048576) :
    Calls Tryz.prog 22 #[.map (some b), ddV d] w (DoOut w B b rs (M.keptD (rs.map Wr.wk) d)) := by
  have HP := Lib.hid h.size
  have HRI := Lib.hid h.rise
  obtain ⟨p, hpp⟩ : ∃ p, M.doAll (rs.map Wr.wk) d = p := ⟨_, rfl⟩
  have HPP := Lib.hid hpp
  have HDO : Hid (M.keptD (rs.map Wr.wk) d = (if p.2.1 = 0 then p.1 else rs.map Wr.wk, p.2)) := Lib.hid (by rw [← hpp]; rfl)
  clear hpp
  have hm := ((Mem.start w).new (ddC d) 28).new (rpA 0 noP) 32
  have hst := h.below (((Below.refl w.heap.size w).alloc (Nat.le_refl _) (.cells (ddC d) 28)).alloc (by simp) (.cells (rpA 0 noP) 32))
  simp only [World.size_alloc] at hm
  have hbB : b < B := h.low
  have hBw : B ≤ w.heap.size := h.top
  have HLOW : Hid (∀ r ∈ rs, ∀ k, r.sl.ownBlock = some k → k < w.heap.size) := Lib.hid (fun r hr k e => ((h.own.1 r hr).lt k e).2)
  clear h
  go_enter Tryz.func22, Tryz.ntmps22
  go_wp2_with fail
  refine (inOrder_any b n B rs _ hst.map HRI.out hst.own hst.top (by omega) (fun r hr => (HP.out r hr).1)).mono ?_
  rintro e x1 ⟨v, rfl, hs, b1⟩
  have hm1 := hm.below b1
  have hst1 := hst.below b1
  have hs1 := b1.size
  simp only [World.size_alloc] at hs1
  obtain ⟨A, cap, rfl, hcap, -⟩ := hs.open
  have HS := Lib.hid hs
  have HST := Lib.hid hst1
  clear hm hst b1 hs hst1 hcap
  obtain ⟨q0, q1, q2, q3, q4, q5, q6⟩ := (hm1.get w.heap.size (ddC d) (by simp)).seven
  go_wp2_with fail
  have hcall := tries_any B b n rs d x1 HST.out hn hpg
  rw [HPP.out] at hcall
  refine hcall.mono ?_
  rintro e x3 ho
  obtain rfl := ho.1
  have hR := holds_by (hm1.get (w.heap.size + 1) (rpA 0 noP) (by simp)) ho.2.1 (by omega)
  have lR := loose_by (hm1.loose (w.heap.size + 1) (by simp)) (hm1.get (w.heap.size + 1) (rpA 0 noP) (by simp)).1 ho.2.1 (by omega)
  have bA := (Below.refl x3.heap.size x3).alloc (Nat.le_refl _) (.cells (rpA p.2.1 p.2.2) 32)
  have HL := Lib.hid (lR.below hR.1 bA)
  have HR := Lib.hid (hR.below bA)
  have HX := Lib.hid (holds_new x3 (rpA p.2.1 p.2.2) 32)
  have hg3 := ho.2.1.size
  have HS3 := Lib.hid ((HS.out.by ho.2.1 hbB).below ((Below.refl _ _).alloc (Nat.le_refl _) (.cells (rpA p.2.1 p.2.2) 32)))
  have HG : Hid (w.grownBy (x3.alloc (.cells (rpA p.2.1 p.2.2) 32)) (some b)) := Lib.hid (grown_tr (grown_tr (grown_lw hm1.1 _) ho.2.1) (World.grownBy_alloc x3 _ _))
  have HOM := Lib.hid ho.2.2.1
  have HOZ := Lib.hid ho.2.2.2
  clear hcall ho hm1 hR lR bA q0 q1 q2 q3 q4 q5 q6
  by_cases hz : p.2.1 = 0
  · have HE : Hid (M.keptD (rs.map Wr.wk) d = (p.1, p.2)) := Lib.hid (by rw [HDO.out, if_pos hz])
    obtain ⟨n', rs', h1, h2, h3, h4, h5⟩ := HOZ.out hz
    have HMP := Lib.hid (h1.alloc (.cells (rpA p.2.1 p.2.2) 32))
    have HRO := Lib.hid (h3.below ((Below.refl _ _).alloc (Nat.le_refl _) (.cells (rpA p.2.1 p.2.2) 32)))
    have H4 := Lib.hid h4
    have H5 : Hid (∀ r ∈ rs', ∀ k, r.sl.ownBlock = some k → w.heap.size + 2 ≤ k ∨ ∃ x ∈ rs, x.sl.ownBlock = some k) := Lib.hid (fun r hr k e => by
      rcases h5 r hr k e with h | h
      · exact .inl (by omega)
      · exact .inr h)
    have hz' : (p.2.1 != 0) = false := by simp [hz]
    have HZ := Lib.hid hz
    obtain ⟨r0, r1⟩ := HR.out.two
    obtain ⟨s0, s1⟩ := HX.out.two
    have z0 := HL.out 0
    have z1 := HL.out 1
    clear h1 h3 h4 h5 hz
    go_wp2
    have hne : ∀ r ∈ rs', r.sl.ownBlock ≠ some (w.heap.size + 1) := fun r hr e => by
      rcases H5.out r hr _ e with h | ⟨x, hx, e'⟩
      · omega
      · have := HLOW.out x hx _ e'; omega
    refine bodyPost_ret (results_sdoes p.2.1 p.2.2 (w.heap.size + 1) _ _ rfl ?_) rfl ?_
    · simpa using ((HR.out.putM 0 (.int .i64 p.2.1)).putM 1 (.string p.2.2))
    · refine ⟨by rw [HE.out], grown_new (grown_new HG.out (Nat.le_succ _) _ _) (Nat.le_succ _) _ _, n', rs', ShM.set (ShM.set HMP.out (by omega)) (by omega), h2, (HRO.out.set hne 0 _).set hne 1 _, by rw [HE.out]; exact H4.out, fun r hr k e => ?_⟩
      rcases H5.out r hr k e with h | h
      · exact .inl (by omega)
      · exact .inr h
  · have HE : Hid (M.keptD (rs.map Wr.wk) d = (rs.map Wr.wk, p.2)) := Lib.hid (by rw [HDO.out, if_neg hz])
    obtain ⟨n', D, hom⟩ := HOM.out
    have hom' := hom.alloc (.cells (rpA p.2.1 p.2.2) 32)
    have hz' : (p.2.1 != 0) = true := by simp [hz]
    have HZ := Lib.hid hz
    obtain ⟨s0, s1⟩ := HX.out.two
    clear hz hom
    go_wp2_with fail
    refine (fill_any b n' D A rs cap _ hom' (fun x hg => (HS3.out.by hg hbB).wks.1) HRI.out (by omega) HP.out).mono ?_
    rintro e x4 ⟨rfl, rs', h4, h1, h3, hg4⟩
    have hR4 := holds_by HR.out hg4 (by omega)
    have lR4 := loose_by HL.out HR.out.1 hg4 (by omega)
    have hX4 := holds_by HX.out hg4 (by omega)
    rw [World.size_alloc] at h3
    have HG4 := Lib.hid (grown_tr HG.out hg4)
    have HMP := Lib.hid h1
    have HRO := Lib.hid h3
    have H4 := Lib.hid h4
    have HR4 := Lib.hid hR4
    obtain ⟨r0, r1⟩ := hR4.two
    obtain ⟨s0', s1'⟩ := hX4.two
    have z0 := lR4 0
    have z1 := lR4 1
    clear h1 h3 h4 hg4 hom' hR4 lR4 hX4 s0 s1
    go_wp2
    have hne : ∀ r ∈ rs', r.sl.ownBlock ≠ some (w.heap.size + 1) := fun r hr e => by
      have := ((HRO.out.1 r hr).lt _ e).1
      omega
    refine bodyPost_ret (results_sdoes p.2.1 p.2.2 (w.heap.size + 1) _ _ rfl ?_) rfl ?_
    · simpa using ((HR4.out.putM 0 (.int .i64 p.2.1)).putM 1 (.string p.2.2))
    · refine ⟨by rw [HE.out], grown_new (grown_new HG4.out (Nat.le_succ _) _ _) (Nat.le_succ _) _ _, rs.length, rs', ShM.set (ShM.set HMP.out (by omega)) (by omega), rise_same H4.out HRI.out, ((HRO.out.mono (by omega)).set hne 0 _).set hne 1 _, by rw [HE.out]; exact H4.out, fun r hr k e => ?_⟩
      have := ((HRO.out.1 r hr).lt _ e).1
      exact .inl (by omega)
end Go.Proofs.YtdcdalbbjfjadaaGreatDoor
