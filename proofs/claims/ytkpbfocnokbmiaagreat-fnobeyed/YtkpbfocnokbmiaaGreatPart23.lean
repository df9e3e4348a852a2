/- Proved, in parts: Proved: the program's ordered answers a plain Lean function, and leaves the book as it tells. Condition: texts and lists of at most a million. -/
import Derived.Test.YtkpbfocnokbmiaaGreatPart22
namespace Go.Proofs.YtkpbfocnokbmiaaGreat
open Go.RowKit
set_option maxRecDepth 20000
/-- Which blocks an order may write. -/
def bkS (b G : Nat) (v : Value) (g : Nat) : Prop := g = b ∨ g = G ∨ v.ownBlock = some g
/-- What ordered leaves. -/
def FromB (w : World) (v : Value) (rs : List Wr) (v' : Value) (rs' : List Wr) : Prop := ∀ k, (v'.ownBlock = some k ∨ ∃ r ∈ rs', r.sl.ownBlock = some k) → w.heap.size ≤ k ∨ v.ownBlock = some k ∨ ∃ r ∈ rs, r.sl.ownBlock = some k
def OrdOut (w : World) (W B b G : Nat) (v : Value) (rs : List Wr) (q : M.Bk × M.Rp) (e : Ending) (w' : World) : Prop :=
  e = .returned (rpV q.2.1 q.2.2) ∧ TouchS (bkS b G v) w w' ∧ ∃ rs' v', rs'.map Wr.wk = q.1.1 ∧ BkSt w' W B b rs' G v' q.1.2 ∧ FromB w v rs v' rs'
theorem results_ord (c : Int) (p : ByteArray) (R : Nat) (W : World) (tmps : Array Value) (h2 : tmps.getD 4 undef = .pointer (some ⟨R, 0, none⟩)) (hW : Holds W R (rpA c p)) :
    (results Tryz.f52 tmps).run Tryz.prog W = .ok (rpV c p) W := by
  obtain ⟨q0, q1⟩ := hW.two
  simp at h2
  simp [results, Tryz.results52, go_sem, h2, q0, q1]
theorem TouchS.of_below {S : Nat → Prop} {w w' : World} (h : Below w.heap.size w w') : TouchS S w w' := (TouchS.refl S w).below h
/-- The answer's box is written last. -/
theorem ord_end {w y : World} {W B b G : Nat} {v v' : Value} {rs' : List Wr} {ls' : List M.La} {R : Nat} (ht : TouchS (bkS b G v) w y) (hR : w.heap.size ≤ R) (hst : BkSt y W B b rs' G v' ls') (hb : b < w.heap.size) (hG : G < w.heap.size) (hr : ∀ r ∈ rs', r.sl.ownBlock ≠ some R) (hv : v'.ownBlock ≠ some R) (a c : Value) :
    TouchS (bkS b G v) w ((y.setCell ⟨R, 0, none⟩ a).setCell ⟨R, 1, none⟩ c) ∧ BkSt ((y.setCell ⟨R, 0, none⟩ a).setCell ⟨R, 1, none⟩ c) W B b rs' G v' ls' :=
  ⟨(ht.setNew hR 0 a).setNew hR 1 c, (hst.set (by omega) (by omega) hr hv 0 a).set (by omega) (by omega) hr hv 1 c⟩

set_option maxHeartbeats 2000000 in
theorem ordered_bad (W B b : Nat) (rs : List Wr) (G : Nat) (v : Value) (ls : List M.La) (o : M.Or) (w : World) (h : BkSt w W B b rs G v ls) (hn : o.deed.name.size ≤ 1048576) (hpg : o.deed.page.size ≤ 1048576) (hok : M.orderOk o = false) :
    Calls Tryz.prog 52 #[.pointer (some ⟨G, 0, none⟩), orV o] w (OrdOut w W B b G v rs (M.ordI (rs.map Wr.wk, ls) o)) := by
  have HE : Hid (M.ordI (rs.map Wr.wk, ls) o = ((rs.map Wr.wk, ls), ((7 : Int), M.nilB))) := Lib.hid (by simp [M.ordI, hok])
  have hM := ((Mem.start w).new (orC o) 33).new (rpA 0 noP) 39
  have hst := h.below (((Below.refl w.heap.size w).alloc (Nat.le_refl _) (.cells (orC o) 33)).alloc (by simp) (.cells (rpA 0 noP) 39))
  simp only [World.size_alloc] at hM
  have hGw : G < w.heap.size := h.box.1
  have hbw : b < w.heap.size := by have := h.low; have := h.top; omega
  have HLOW : Hid (∀ r ∈ rs, ∀ k, r.sl.ownBlock = some k → k < w.heap.size) := Lib.hid (fun r hr k e => ((h.own.1 r hr).lt k e).2)
  have HVL : Hid (∀ k, v.ownBlock = some k → k < w.heap.size) := Lib.hid (fun k e => (World.ownsRow.lt h.las k e).2)
  clear h
  go_enter Tryz.func52, Tryz.ntmps52
  go_wp2_with fail
  have hcall := implOrderOk o ((w.alloc (.cells (orC o) 33)).alloc (.cells (rpA 0 noP) 39)) (by unfold maxLen; omega) (by unfold maxLen; omega)
  rw [hok] at hcall
  refine hcall.mono ?_
  rintro e x1 ⟨rfl, b1⟩
  have hM1 := hM.below b1
  have hst1 := hst.below b1
  clear hcall hM hst b1 hok
  obtain ⟨r0, r1⟩ := (hM1.get (w.heap.size + 1) (rpA 0 noP) (by simp)).two
  have z0 := hM1.loose (w.heap.size + 1) (by simp) 0
  have z1 := hM1.loose (w.heap.size + 1) (by simp) 1
  have HM := Lib.hid hM1
  have HST := Lib.hid hst1
  clear hM1 hst1
  go_wp2
  obtain ⟨e1, e2⟩ := ord_end (TouchS.of_below (S := bkS b G v) HM.out.1) (Nat.le_succ _) HST.out hbw hGw (fun r hr e => by have := HLOW.out r hr _ e; omega) (fun e => by have := HVL.out _ e; omega) (.int .i64 7) (.string noP)
  refine bodyPost_ret (results_ord 7 noP (w.heap.size + 1) _ _ rfl ?_) rfl ⟨by rw [HE.out]; rfl, e1, rs, v, by rw [HE.out], by rw [HE.out]; exact e2, fun k hk => .inr hk⟩
  simpa using (((HM.out.get (w.heap.size + 1) (rpA 0 noP) (by simp)).putM 0 (.int .i64 7)).putM 1 (.string noP))

/-- Where the walk stands ahead of the client's last. -/
def OrdMid (w : World) (W B b G : Nat) (rs : List Wr) (v : Value) (ls1 : List M.La) (k : Nat) (o : M.Or) (x : World) : Prop :=
  ∃ v1, BkSt x W B b rs G v1 ls1 ∧ k < ls1.length ∧ TouchS (bkS b G v) w x ∧ Holds x w.heap.size (orC o) ∧ Holds x (w.heap.size + 1) (rpA 0 noP) ∧ Loose x (w.heap.size + 1) ∧ (∀ g, v1.ownBlock = some g → v.ownBlock = some g ∨ w.heap.size + 2 ≤ g)
set_option maxHeartbeats 4000000 in
theorem ordered_ok (W B b : Nat) (rs : List Wr) (G : Nat) (v : Value) (ls : List M.La) (o : M.Or) (w : World) (h : BkSt w W B b rs G v ls) (hll : ls.length ≤ 1048575) (hn : o.deed.name.size ≤ 1048576) (hpg : o.deed.page.size ≤ 1048576) (hok : M.orderOk o = true) :
    Calls Tryz.prog 52 #[.pointer (some ⟨G, 0, none⟩), orV o] w (OrdOut w W B b G v rs (M.ordI (rs.map Wr.wk, ls) o)) := by
  obtain ⟨k, hpl⟩ : ∃ k, M.laPlace ls o.client = k := ⟨_, rfl⟩
  have HPL := Lib.hid hpl
  have hkle : k ≤ ls.length := by rw [← hpl]; exact M.laPlace_le _ _
  obtain ⟨ls1, hls1⟩ : ∃ ls1, M.laFor ls o.client = ls1 := ⟨_, rfl⟩
  have HLS1 := Lib.hid hls1
  have HE : Hid (M.ordI (rs.map Wr.wk, ls) o = M.ordT (rs.map Wr.wk, ls1) k o) := Lib.hid (by unfold M.ordI; rw [if_pos hok]; show M.ordT (rs.map Wr.wk, M.laFor ls o.client) (M.laPlace ls o.client) o = _; rw [hls1, hpl])
  clear hpl hls1
  have hM := ((Mem.start w).new (orC o) 33).new (rpA 0 noP) 39
  have hst := h.below (((Below.refl w.heap.size w).alloc (Nat.le_refl _) (.cells (orC o) 33)).alloc (by simp) (.cells (rpA 0 noP) 39))
  simp only [World.size_alloc] at hM
  have hGw : G < w.heap.size := h.box.1
  have hbw : b < w.heap.size := by have := h.low; have := h.top; omega
  have HLOW : Hid (∀ r ∈ rs, ∀ k, r.sl.ownBlock = some k → k < w.heap.size) := Lib.hid (fun r hr k e => ((h.own.1 r hr).lt k e).2)
  have HVL : Hid (∀ k, v.ownBlock = some k → k < w.heap.size) := Lib.hid (fun k e => (World.ownsRow.lt h.las k e).2)
  clear h
  have hpl := HPL.out
  obtain ⟨is, hat⟩ : ∃ is, M.laAt ls o.client = is := ⟨_, rfl⟩
  have HAT := Lib.hid hat
  go_enter Tryz.func52, Tryz.ntmps52
  go_wp2_with fail
  have hcall := implOrderOk o ((w.alloc (.cells (orC o) 33)).alloc (.cells (rpA 0 noP) 39)) (by unfold maxLen; omega) (by unfold maxLen; omega)
  rw [hok] at hcall
  refine hcall.mono ?_
  rintro e x1 ⟨rfl, b1⟩
  have hM1 := hM.below b1
  have hst1 := hst.below b1
  clear hcall hM hst b1 hok
  have HST := Lib.hid hst1
  have HM := Lib.hid hM1
  obtain ⟨A, cap, hv, hLas, hA⟩ := LasOwn.open hst1.las
  have HLAS := Lib.hid (show _ ∧ _ from ⟨hLas, hA⟩)
  have HV := Lib.hid hv
  have hbox := hst1.box
  rw [hv] at hbox
  obtain ⟨p0, p1, p2, p3, p4, p5, p6, p7, p8⟩ := (hM1.get w.heap.size (orC o) (by simp)).nine
  have HBOX := Lib.hid hbox
  clear hst1 hM1 hLas hA hv hbox
  go_wp2_with fail
  have hcall := placeFor_any G b A ls cap o.client x1 HBOX.out HLAS.out.1 (by omega)
  rw [hat, hpl] at hcall
  refine hcall.mono ?_
  rintro e x2 ⟨rfl, b2⟩
  have hst2 := HST.out.below b2
  have hM2 := HM.out.below b2
  clear hcall HST HM HBOX HLAS p0 p1 p2 p3 p4 p5 p6 p7 p8 b2
  clear hat hpl
  go_upto_if 20 with (fail)
  go_cut [] (fun wx => OrdMid w W B b G rs v ls1 k o wx)
  case first =>
    rcases is with _ | _
    · have HL1 : Hid (ls1 = M.putLa ls k ⟨o.client, 0, 0, noP⟩) := Lib.hid (by rw [← HLS1.out]; unfold M.laFor; rw [HAT.out, HPL.out]; rfl)
      obtain ⟨A2, cap2, hv2, hLas2, hA2⟩ := LasOwn.open hst2.las
      clear HV
      subst hv2
      have hcap2 : Hid (ls.length ≤ cap2) := Lib.hid (la_cap hst2.las)
      have HST := Lib.hid hst2
      have HM := Lib.hid hM2
      have HLA := Lib.hid (show _ ∧ _ from ⟨hLas2, hA2⟩)
      clear hst2 hM2 hLas2 hA2
      go_wp2_with fail
      refine wp_region_fin 12 (fun x => Holds x w.heap.size (orC o) ∧ Holds x G #[.map (some b), .slice A2 ls.length cap2]) [(0, true), (1, true), (2, true), (3, true), (4, true), (5, true), (6, true), (7, true), (8, true), (9, false), (10, true), (11, true), (12, false)] (by kernel_rfl) (by kernel_rfl) (fun _ _ _ _ _ h => h) (by kernel_rfl) (by decide) ⟨HM.out.get w.heap.size (orC o) (by simp), HST.out.box⟩ ?_
      intro hHeld
      repeat (first
        | (refine seqF_reads (by simp only [List.getElem?_toArray, List.getElem?_cons_succ, List.getElem?_cons_zero]; first | done | rfl) (by rfl) ?_; apply Exists.intro; apply And.intro; (focus (intro w hSw; (try (replace hSw := hSw (by decide +kernel))); (try (obtain ⟨p0, p1, p2, p3, p4, p5, p6, p7, p8⟩ := hSw.1.nine)); (try (obtain ⟨g0, g1⟩ := hSw.2.two)); go_simp; (try with_reducible rfl); done)); (try simp only [Act.put, List.setIfInBounds_toArray, List.set_cons_zero, List.set_cons_succ]))
        | (refine seqF_call (by simp only [List.getElem?_toArray, List.getElem?_cons_succ, List.getElem?_cons_zero]; first | done | rfl) (by rfl) (fun K hK => ?_) (by decide); go_simp; go_at_call 76; refine (with_la A2 ls cap2 k ⟨o.client, 0, 0, noP⟩ _ (HLA.out.1.below (Below.refl _ _).drew) HLA.out.2 hcap2.out hkle (by omega)).mono ?_; rintro r w1 ⟨A3, c3, rfl, o3, b3⟩; go_simp; refine hK.out _ _ _ (fun _ h => h) ⟨hHeld.1.below b3, hHeld.2.below b3⟩ ?_; clear hK hHeld; intro hHeld; (have HO3 := Lib.hid o3); (have HB3 := Lib.hid b3); clear o3 b3; (try simp only [Act.put, List.setIfInBounds_toArray, List.set_cons_zero, List.set_cons_succ]))
        | (refine seqF_last (by simp only [List.getElem?_toArray, List.getElem?_cons_succ, List.getElem?_cons_zero]; first | done | rfl) (by rfl) (fun K hK => ?_); (have hG0 := hHeld.2); (obtain ⟨g0, g1⟩ := hG0.two); (have f1 := ((HST.out.below (Below.refl _ _).drew).below HB3.out).loose 1); go_simp; refine hK.out _ _ ?_; clear hK; (have HHE := Lib.hid hHeld); clear hHeld g0 g1 f1 hG0; (try simp only [Act.put, List.setIfInBounds_toArray, List.set_cons_zero, List.set_cons_succ])))
      refine seqF_end ?_
      go_wp2
      go_meet
      have hS1 := ((HST.out.below (Below.refl _ _).drew).below HB3.out)
      have hMM := (HM.out.below (Below.refl _ _).drew).below HB3.out
      have hx2 : w.heap.size + 2 ≤ x2.heap.size := (HM.out.get (w.heap.size + 1) (rpA 0 noP) (by simp)).1
      have hput : (M.putLa ls k ⟨o.client, 0, 0, noP⟩).length = ls.length + 1 := M.putLa_len _ _ _ hkle
      have HO3' : LasOwn x2.heap.size w1 (.slice A3 (ls.length + 1) c3) (M.putLa ls k ⟨o.client, 0, 0, noP⟩) := HO3.out
      have hblk : ∀ g, (Value.slice A3 (ls.length + 1) c3).ownBlock = some g → x2.heap.size ≤ g := fun g e => (World.ownsRow.lt HO3' g e).1
      refine ⟨.slice A3 (ls.length + 1) c3, ?_, ?_, (TouchS.of_below hMM.1).set (.inr (.inl rfl)) 1 _, (hMM.get w.heap.size (orC o) (by simp)).otherM (by omega), (hMM.get (w.heap.size + 1) (rpA 0 noP) (by simp)).otherM (by omega), fun j => by rw [World.frozen?_setCell]; exact hMM.loose (w.heap.size + 1) (by simp) j, fun g e => .inr (Nat.le_trans hx2 (hblk g e))⟩
      · rw [HL1.out]
        refine { hS1 with map := ShM.set hS1.map (fun e => hS1.gb e.symm), own := hS1.own.set hS1.gr _ _, top := by simpa using hS1.top, box := ?_, loose := fun j => by rw [World.frozen?_setCell]; exact hS1.loose j, las := own_off (HO3'.mono (by have := HST.out.wB; have := HST.out.low; have := HST.out.top; omega)) (fun e => by have := hblk _ e; omega) 1 _, lasIn := fun x hx => ?_, vb := fun e => by have := hblk _ e; omega, vg := fun e => by have := hblk _ e; omega, vr := fun r hr q e e' => by have := hblk _ e'; have := HLOW.out r hr q e; omega }
        · simpa using hS1.box.putM 1 (.slice A3 (ls.length + 1) c3)
        · unfold M.putLa at hx
          rcases List.mem_append.1 hx with hx | hx
          · exact HST.out.lasIn x (List.mem_of_mem_take hx)
          · rcases List.mem_cons.1 hx with rfl | hx
            · exact Nat.zero_le _
            · exact HST.out.lasIn x (List.mem_of_mem_drop hx)
      · rw [HL1.out, hput]; omega
    · go_wp2
      go_meet
      have HL1 : Hid (ls1 = ls) := Lib.hid (by rw [← HLS1.out]; unfold M.laFor; rw [HAT.out]; rfl)
      have hk : k < ls.length := by obtain ⟨h, _⟩ := M.laAt_lt HAT.out; rw [HPL.out] at h; exact h
      refine ⟨v, ?_, ?_, TouchS.of_below hM2.1, hM2.get w.heap.size (orC o) (by simp), hM2.get (w.heap.size + 1) (rpA 0 noP) (by simp), hM2.loose (w.heap.size + 1) (by simp), fun g hg => .inl hg⟩
      · rw [HL1.out]; exact hst2
      · rw [HL1.out]; exact hk
  case rest =>
  clear hst2 hM2
  obtain ⟨v1, hst3, hk, ht3, h03, hR3, lR3, hv1⟩ := hcut
  have h03 := h03
  obtain ⟨g, cap1, rfl, hgW, hgl⟩ := la_form hst3.las (by omega)
  have hgR : g < w.heap.size ∨ w.heap.size + 2 ≤ g := by
    rcases hv1 g rfl with h | h
    · exact .inl (HVL.out g h)
    · exact .inr h
  have HV1 := Lib.hid hv1
  clear hv1
  obtain ⟨g0, g1⟩ := hst3.box.two
  have zG := hst3.box.1
  have HG : Hid (g ≠ b ∧ g ≠ G ∧ ∀ r ∈ rs, r.sl.ownBlock ≠ some g) := Lib.hid ⟨fun e => hst3.vb (by rw [e]; rfl), fun e => hst3.vg (by rw [e]; rfl), fun r hr e => hst3.vr r hr g e rfl⟩
  rcases Int.lt_trichotomy o.seq ls1[k].seq with hlt | heq | hgt
  · have HQ : Hid (M.ordI (rs.map Wr.wk, ls) o = ((rs.map Wr.wk, ls1), ((6 : Int), M.nilB))) := Lib.hid (by rw [HE.out, M.ordT_old (b := (rs.map Wr.wk, ls1)) hk hlt])
    obtain ⟨p0, p1, p2, p3, p4, p5, p6, p7, p8⟩ := h03.nine
    obtain ⟨⟨c0, c1, c2, c3⟩, -⟩ := la_cells hst3.las hk
    have zp := h03.1
    have zg := (World.ownsRow.lt hst3.las g rfl).2
    go_wp2_with fail
    refine wp_region_seq (fun w' => Below wc.heap.size wc w') [(0, true), (1, true), (2, true), (3, true), (4, true), (5, true), (6, true), (7, true)] (by kernel_rfl) (by kernel_rfl) (fun _ _ _ _ _ h => h) (by kernel_rfl) (by decide) (Below.refl _ _).drew ?_
    intro hHeld
    repeat (first
      | (refine seq_skip (by simp only [List.getElem?_toArray, List.getElem?_cons_succ, List.getElem?_cons_zero]; first | done | rfl) (by rfl) ?_; (try simp only [Act.put, List.setIfInBounds_toArray, List.set_cons_zero, List.set_cons_succ]))
      | (refine seq_reads (by simp only [List.getElem?_toArray, List.getElem?_cons_succ, List.getElem?_cons_zero]; first | done | rfl) (by rfl) ?_; apply Exists.intro; apply And.intro; (focus (intro w hSw; obtain ⟨hcS, -⟩ := bcell hSw; go_simp; (try with_reducible rfl); done)); (try simp only [Act.put, List.setIfInBounds_toArray, List.set_cons_zero, List.set_cons_succ]))
      | (refine seq_pass (by simp only [List.getElem?_toArray, List.getElem?_cons_succ, List.getElem?_cons_zero]; first | done | rfl) (by rfl) hHeld ?_; clear hHeld; intro hHeld; (try simp only [Act.put, List.setIfInBounds_toArray, List.set_cons_zero, List.set_cons_succ])))
    refine seq_end ?_
    clear p0 p1 p2 p3 p4 p5 p6 p7 p8 c0 c1 c2 c3 zp zg
    clear g0 g1 zG
    generalize wc.drew = y4 at hHeld ⊢
    have hst4 := hst3.below hHeld
    have ht4 := ht3.below hHeld
    have h04 := h03.below hHeld
    have lR4 := lR3.below hR3.1 hHeld
    have hR4 := hR3.below hHeld
    clear hHeld hst3 ht3 h03 lR3 hR3
    obtain ⟨r0, r1⟩ := hR4.two
    have z0 := lR4 0
    have z1 := lR4 1
    have HT := Lib.hid ht4
    have HSTE := Lib.hid hst4
    have HRR := Lib.hid hR4
    have HRB : Hid (∀ r ∈ rs, r.sl.ownBlock ≠ some (w.heap.size + 1)) := Lib.hid (fun r hr e => by have := HLOW.out r hr _ e; omega)
    clear hst4 ht4 h04 lR4 hR4
    go_wp2
    obtain ⟨e1, e2⟩ := ord_end HT.out (Nat.le_succ _) HSTE.out hbw hGw (HRB.out) (fun e => by have e' : g = w.heap.size + 1 := Option.some.inj e; omega) (.int .i64 (6)) (.string (noP))
    refine bodyPost_ret (results_ord (6) (noP) (w.heap.size + 1) _ _ rfl ?_) rfl ⟨by rw [HQ.out] <;> rfl, e1, rs, _, by rw [HQ.out], by rw [HQ.out]; exact e2, fun x hx => by
      rcases hx with hx | hx
      · rcases HV1.out x hx with h | h
        · exact .inr (.inl h)
        · exact .inl (by omega)
      · exact .inr (.inr hx)⟩
    simpa using ((HRR.out.putM 0 (.int .i64 (6))).putM 1 (.string (noP)))
  · have HQ : Hid (M.ordI (rs.map Wr.wk, ls) o = ((rs.map Wr.wk, ls1), (ls1[k].code, ls1[k].page))) := Lib.hid (by rw [HE.out, M.ordT_same (b := (rs.map Wr.wk, ls1)) hk heq])
    have hpgk : ls1[k].page.size ≤ 1048576 := hst3.lasIn _ (List.getElem_mem hk)
    have n1 : decide (o.seq < ls1[k].seq) = false := by simp; omega
    have n2 : decide (ls1[k].seq < o.seq) = false := by simp; omega
    have HQE := Lib.hid heq
    clear heq
    obtain ⟨p0, p1, p2, p3, p4, p5, p6, p7, p8⟩ := h03.nine
    obtain ⟨⟨c0, c1, c2, c3⟩, -⟩ := la_cells hst3.las hk
    have zp := h03.1
    have zg := (World.ownsRow.lt hst3.las g rfl).2
    go_wp2_with fail
    refine wp_region_seq (fun w' => Below wc.heap.size wc w') [(0, true), (1, true), (2, true), (3, true), (4, true), (5, true), (6, true), (7, true)] (by kernel_rfl) (by kernel_rfl) (fun _ _ _ _ _ h => h) (by kernel_rfl) (by decide) (Below.refl _ _).drew ?_
    intro hHeld
    repeat (first
      | (refine seq_skip (by simp only [List.getElem?_toArray, List.getElem?_cons_succ, List.getElem?_cons_zero]; first | done | rfl) (by rfl) ?_; (try simp only [Act.put, List.setIfInBounds_toArray, List.set_cons_zero, List.set_cons_succ]))
      | (refine seq_reads (by simp only [List.getElem?_toArray, List.getElem?_cons_succ, List.getElem?_cons_zero]; first | done | rfl) (by rfl) ?_; apply Exists.intro; apply And.intro; (focus (intro w hSw; obtain ⟨hcS, -⟩ := bcell hSw; go_simp; (try with_reducible rfl); done)); (try simp only [Act.put, List.setIfInBounds_toArray, List.set_cons_zero, List.set_cons_succ]))
      | (refine seq_pass (by simp only [List.getElem?_toArray, List.getElem?_cons_succ, List.getElem?_cons_zero]; first | done | rfl) (by rfl) hHeld ?_; clear hHeld; intro hHeld; (try simp only [Act.put, List.setIfInBounds_toArray, List.set_cons_zero, List.set_cons_succ])))
    refine seq_end ?_
    clear p0 p1 p2 p3 p4 p5 p6 p7 p8 c0 c1 c2 c3 zp zg
    clear g0 g1 zG
    generalize wc.drew = y4 at hHeld ⊢
    have hst4 := hst3.below hHeld
    have ht4 := ht3.below hHeld
    have h04 := h03.below hHeld
    have lR4 := lR3.below hR3.1 hHeld
    have hR4 := hR3.below hHeld
    clear hHeld hst3 ht3 h03 lR3 hR3
    obtain ⟨p0, p1, p2, p3, p4, p5, p6, p7, p8⟩ := h04.nine
    obtain ⟨⟨c0, c1, c2, c3⟩, -⟩ := la_cells hst4.las hk
    have zp := h04.1
    have zg := (World.ownsRow.lt hst4.las g rfl).2
    go_wp2_with fail
    refine wp_region_seq (fun w' => Below y4.heap.size y4 w') [(0, true), (1, true), (2, true), (3, true), (4, true), (5, true), (6, true), (7, true)] (by kernel_rfl) (by kernel_rfl) (fun _ _ _ _ _ h => h) (by kernel_rfl) (by decide) (Below.refl _ _).drew ?_
    intro hHeld
    repeat (first
      | (refine seq_skip (by simp only [List.getElem?_toArray, List.getElem?_cons_succ, List.getElem?_cons_zero]; first | done | rfl) (by rfl) ?_; (try simp only [Act.put, List.setIfInBounds_toArray, List.set_cons_zero, List.set_cons_succ]))
      | (refine seq_reads (by simp only [List.getElem?_toArray, List.getElem?_cons_succ, List.getElem?_cons_zero]; first | done | rfl) (by rfl) ?_; apply Exists.intro; apply And.intro; (focus (intro w hSw; obtain ⟨hcS, -⟩ := bcell hSw; go_simp; (try with_reducible rfl); done)); (try simp only [Act.put, List.setIfInBounds_toArray, List.set_cons_zero, List.set_cons_succ]))
      | (refine seq_pass (by simp only [List.getElem?_toArray, List.getElem?_cons_succ, List.getElem?_cons_zero]; first | done | rfl) (by rfl) hHeld ?_; clear hHeld; intro hHeld; (try simp only [Act.put, List.setIfInBounds_toArray, List.set_cons_zero, List.set_cons_succ])))
    refine seq_end ?_
    clear p0 p1 p2 p3 p4 p5 p6 p7 p8 c0 c1 c2 c3 zp zg
    generalize y4.drew = y5 at hHeld ⊢
    have hst5 := hst4.below hHeld
    have ht5 := ht4.below hHeld
    have h05 := h04.below hHeld
    have lR5 := lR4.below hR4.1 hHeld
    have hR5 := hR4.below hHeld
    clear hHeld hst4 ht4 h04 lR4 hR4
    obtain ⟨⟨-, -, c2, c3⟩, -⟩ := la_cells hst5.las hk
    have zg := (World.ownsRow.lt hst5.las g rfl).2
    go_wp2_with fail
    refine (newReply_any ls1[k].code ls1[k].page _ hpgk).mono ?_
    rintro e y6 ⟨rfl, hHeld⟩
    clear c2 c3 zg
    have hst6 := hst5.below hHeld
    have ht6 := ht5.below hHeld
    have h06 := h05.below hHeld
    have lR6 := lR5.below hR5.1 hHeld
    have hR6 := hR5.below hHeld
    clear hHeld hst5 ht5 h05 lR5 hR5
    obtain ⟨r0, r1⟩ := hR6.two
    have z0 := lR6 0
    have z1 := lR6 1
    have HT := Lib.hid ht6
    have HSTE := Lib.hid hst6
    have HRR := Lib.hid hR6
    have HRB : Hid (∀ r ∈ rs, r.sl.ownBlock ≠ some (w.heap.size + 1)) := Lib.hid (fun r hr e => by have := HLOW.out r hr _ e; omega)
    clear hst6 ht6 h06 lR6 hR6
    go_wp2
    obtain ⟨e1, e2⟩ := ord_end HT.out (Nat.le_succ _) HSTE.out hbw hGw (HRB.out) (fun e => by have e' : g = w.heap.size + 1 := Option.some.inj e; omega) (.int .i64 (ls1[k].code)) (.string (ls1[k].page))
    refine bodyPost_ret (results_ord (ls1[k].code) (ls1[k].page) (w.heap.size + 1) _ _ rfl ?_) rfl ⟨by rw [HQ.out] <;> rfl, e1, rs, _, by rw [HQ.out], by rw [HQ.out]; exact e2, fun x hx => by
      rcases hx with hx | hx
      · rcases HV1.out x hx with h | h
        · exact .inr (.inl h)
        · exact .inl (by omega)
      · exact .inr (.inr hx)⟩
    simpa using ((HRR.out.putM 0 (.int .i64 (ls1[k].code))).putM 1 (.string (ls1[k].page)))
  · have HQ : Hid (M.ordI (rs.map Wr.wk, ls) o = (((M.keptD (rs.map Wr.wk) o.deed).1, ls1.set k (M.laSet ls1[k] o.seq (M.keptD (rs.map Wr.wk) o.deed).2)), (M.keptD (rs.map Wr.wk) o.deed).2)) := Lib.hid (by rw [HE.out, M.ordT_new (b := (rs.map Wr.wk, ls1)) hk hgt])
    have HPG : Hid ((M.keptD (rs.map Wr.wk) o.deed).2.2.size ≤ 1048576) := Lib.hid (M.keptD_page o.deed hst3.st.size)
    have n1 : decide (o.seq < ls1[k].seq) = false := by simp; omega
    have n2 : decide (ls1[k].seq < o.seq) = true := by simp; omega
    have HQE := Lib.hid hgt
    have HGB := Lib.hid hst3.gb
    clear hgt
    obtain ⟨p0, p1, p2, p3, p4, p5, p6, p7, p8⟩ := h03.nine
    obtain ⟨⟨c0, c1, c2, c3⟩, -⟩ := la_cells hst3.las hk
    have zp := h03.1
    have zg := (World.ownsRow.lt hst3.las g rfl).2
    go_wp2_with fail
    refine wp_region_seq (fun w' => Below wc.heap.size wc w') [(0, true), (1, true), (2, true), (3, true), (4, true), (5, true), (6, true), (7, true)] (by kernel_rfl) (by kernel_rfl) (fun _ _ _ _ _ h => h) (by kernel_rfl) (by decide) (Below.refl _ _).drew ?_
    intro hHeld
    repeat (first
      | (refine seq_skip (by simp only [List.getElem?_toArray, List.getElem?_cons_succ, List.getElem?_cons_zero]; first | done | rfl) (by rfl) ?_; (try simp only [Act.put, List.setIfInBounds_toArray, List.set_cons_zero, List.set_cons_succ]))
      | (refine seq_reads (by simp only [List.getElem?_toArray, List.getElem?_cons_succ, List.getElem?_cons_zero]; first | done | rfl) (by rfl) ?_; apply Exists.intro; apply And.intro; (focus (intro w hSw; obtain ⟨hcS, -⟩ := bcell hSw; go_simp; (try with_reducible rfl); done)); (try simp only [Act.put, List.setIfInBounds_toArray, List.set_cons_zero, List.set_cons_succ]))
      | (refine seq_pass (by simp only [List.getElem?_toArray, List.getElem?_cons_succ, List.getElem?_cons_zero]; first | done | rfl) (by rfl) hHeld ?_; clear hHeld; intro hHeld; (try simp only [Act.put, List.setIfInBounds_toArray, List.set_cons_zero, List.set_cons_succ])))
    refine seq_end ?_
    clear p0 p1 p2 p3 p4 p5 p6 p7 p8 c0 c1 c2 c3 zp zg
    clear g0 g1 zG
    generalize wc.drew = y4 at hHeld ⊢
    have hst4 := hst3.below hHeld
    have ht4 := ht3.below hHeld
    have h04 := h03.below hHeld
    have lR4 := lR3.below hR3.1 hHeld
    have hR4 := hR3.below hHeld
    clear hHeld hst3 ht3 h03 lR3 hR3
    obtain ⟨p0, p1, p2, p3, p4, p5, p6, p7, p8⟩ := h04.nine
    obtain ⟨⟨c0, c1, c2, c3⟩, -⟩ := la_cells hst4.las hk
    have zp := h04.1
    have zg := (World.ownsRow.lt hst4.las g rfl).2
    go_wp2_with fail
    refine wp_region_seq (fun w' => Below y4.heap.size y4 w') [(0, true), (1, true), (2, true), (3, true), (4, true), (5, true), (6, true), (7, true)] (by kernel_rfl) (by kernel_rfl) (fun _ _ _ _ _ h => h) (by kernel_rfl) (by decide) (Below.refl _ _).drew ?_
    intro hHeld
    repeat (first
      | (refine seq_skip (by simp only [List.getElem?_toArray, List.getElem?_cons_succ, List.getElem?_cons_zero]; first | done | rfl) (by rfl) ?_; (try simp only [Act.put, List.setIfInBounds_toArray, List.set_cons_zero, List.set_cons_succ]))
      | (refine seq_reads (by simp only [List.getElem?_toArray, List.getElem?_cons_succ, List.getElem?_cons_zero]; first | done | rfl) (by rfl) ?_; apply Exists.intro; apply And.intro; (focus (intro w hSw; obtain ⟨hcS, -⟩ := bcell hSw; go_simp; (try with_reducible rfl); done)); (try simp only [Act.put, List.setIfInBounds_toArray, List.set_cons_zero, List.set_cons_succ]))
      | (refine seq_pass (by simp only [List.getElem?_toArray, List.getElem?_cons_succ, List.getElem?_cons_zero]; first | done | rfl) (by rfl) hHeld ?_; clear hHeld; intro hHeld; (try simp only [Act.put, List.setIfInBounds_toArray, List.set_cons_zero, List.set_cons_succ])))
    refine seq_end ?_
    clear p0 p1 p2 p3 p4 p5 p6 p7 p8 c0 c1 c2 c3 zp zg
    generalize y4.drew = y5 at hHeld ⊢
    have hst5 := hst4.below hHeld
    have ht5 := ht4.below hHeld
    have HSW := Lib.hid ht5.size
    have h05 := h04.below hHeld
    have lR5 := lR4.below hR4.1 hHeld
    have hR5 := hR4.below hHeld
    clear hHeld hst4 ht4 h04 lR4 hR4
    obtain ⟨hgb, hgG, hgr⟩ := HG.out
    have hy5 : w.heap.size + 2 ≤ y5.heap.size := hR5.1
    have HST5 := Lib.hid (hst5.below (Below.refl _ _).drew)
    have HT5 := Lib.hid (ht5.below (Below.refl _ _).drew)
    have HH := Lib.hid (show _ ∧ _ ∧ _ ∧ _ from ⟨h05, hst5.box, hR5, lR5⟩)
    clear h05 hst5 hR5 lR5 ht5 hgr
    go_wp2_with fail
    refine wp_region_seq (fun x => Holds x w.heap.size (orC o) ∧ Holds x G #[.map (some b), .slice (some ⟨g, 0, none⟩) ls1.length cap1] ∧ Holds x (w.heap.size + 1) (rpA 0 noP) ∧ Loose x (w.heap.size + 1)) [(0, true), (1, true), (2, true), (3, true), (4, true), (5, true), (6, true), (7, true), (8, true), (9, true), (10, false), (11, true), (12, true), (13, false), (14, true), (15, true), (16, false)] (by kernel_rfl) (by kernel_rfl) (fun _ _ _ _ _ h => h) (by kernel_rfl) (by decide) ⟨HH.out.1, HH.out.2.1, HH.out.2.2.1, HH.out.2.2.2⟩ ?_
    intro hHeld
    repeat (first
      | (refine seq_skip (by simp only [List.getElem?_toArray, List.getElem?_cons_succ, List.getElem?_cons_zero]; first | done | rfl) (by rfl) ?_; (try simp only [Act.put, List.setIfInBounds_toArray, List.set_cons_zero, List.set_cons_succ]))
      | (refine seq_reads (by simp only [List.getElem?_toArray, List.getElem?_cons_succ, List.getElem?_cons_zero]; first | done | rfl) (by rfl) ?_; apply Exists.intro; apply And.intro; (focus (intro w hSw; obtain ⟨p0, p1, p2, p3, p4, p5, p6, p7, p8⟩ := hSw.1.nine; obtain ⟨g0, g1⟩ := hSw.2.1.two; go_simp; (try with_reducible rfl); done)); (try simp only [Act.put, List.setIfInBounds_toArray, List.set_cons_zero, List.set_cons_succ]))
      | (refine seq_pass (by simp only [List.getElem?_toArray, List.getElem?_cons_succ, List.getElem?_cons_zero]; first | done | rfl) (by rfl) hHeld ?_; clear hHeld; intro hHeld; (try simp only [Act.put, List.setIfInBounds_toArray, List.set_cons_zero, List.set_cons_succ]))
      | (refine seq_call (by simp only [List.getElem?_toArray, List.getElem?_cons_succ, List.getElem?_cons_zero]; first | done | rfl) (by rfl) (fun K hK => ?_); go_simp; go_at_call 77; refine (does_bk o.deed HST5.out hn hpg).mono ?_; rintro r w1 ⟨rfl, hg, rs2, hmp, hbk, hst6⟩; go_simp; refine hK.out _ _ ⟨holds_by hHeld.1 hg (by omega), holds_by hHeld.2.1 hg HGB.out, holds_by hHeld.2.2.1 hg (by omega), loose_by hHeld.2.2.2 hHeld.2.2.1.1 hg (by omega)⟩ ?_; clear hK hHeld; intro hHeld; (have HG6 := Lib.hid hg); (have HST6 := Lib.hid hst6); (have HMP := Lib.hid hmp); (have HBK := Lib.hid hbk); clear hg hst6 hmp hbk; (try simp only [Act.put, List.setIfInBounds_toArray, List.set_cons_zero, List.set_cons_succ]))
      | (refine seq_call (by simp only [List.getElem?_toArray, List.getElem?_cons_succ, List.getElem?_cons_zero]; first | done | rfl) (by rfl) (fun K hK => ?_); (obtain ⟨⟨c0, c1, c2, c3⟩, fz⟩ := la_cells HST6.out.las hk); (have f1 := fz (k * 4 + 1)); (have f2 := fz (k * 4 + 2)); (have f3 := fz (k * 4 + 2 + 1)); (have c3a := c3); (have zg := (World.ownsRow.lt HST6.out.las g rfl).2); go_simp; refine hK.out _ _ (by first | exact ⟨hHeld.1.otherM (by omega), hHeld.2.1.otherM (by omega), hHeld.2.2.1.otherM (by omega), fun j => by rw [World.frozen?_setCell]; exact hHeld.2.2.2 j⟩ | exact ⟨(hHeld.1.otherM (by omega)).otherM (by omega), (hHeld.2.1.otherM (by omega)).otherM (by omega), (hHeld.2.2.1.otherM (by omega)).otherM (by omega), fun j => by rw [World.frozen?_setCell, World.frozen?_setCell]; exact hHeld.2.2.2 j⟩) ?_; clear hK hHeld; intro hHeld; clear c0 c1 c2 c3 fz f1 f2 f3 c3a zg; (try simp only [Act.put, List.setIfInBounds_toArray, List.set_cons_zero, List.set_cons_succ])))
    refine seq_end ?_
    have hst7 := HST6.out.wrote hk o.seq (M.keptD (rs.map Wr.wk) o.deed).2.1 (M.keptD (rs.map Wr.wk) o.deed).2.2 HPG.out
    have hor : bkS b G v g ∨ w.heap.size ≤ g := by
      rcases HV1.out g rfl with h | h
      · exact .inl (.inr (.inr h))
      · exact .inr (by omega)
    have ht7 := (((HT5.out.grown HG6.out (.inl rfl)).setOr hor (k * 4 + 1) (.int .i64 o.seq)).setOr hor (k * 4 + 2) (.int .i64 (M.keptD (rs.map Wr.wk) o.deed).2.1)).setOr hor (k * 4 + 2 + 1) (.string (M.keptD (rs.map Wr.wk) o.deed).2.2)
    obtain ⟨h07, -, hR7, lR7⟩ := hHeld
    generalize ((w1.setCell ⟨g, k * 4 + 1, none⟩ (.int .i64 o.seq)).setCell ⟨g, k * 4 + 2, none⟩ (.int .i64 (M.keptD (rs.map Wr.wk) o.deed).2.1)).setCell ⟨g, k * 4 + 2 + 1, none⟩ (.string (M.keptD (rs.map Wr.wk) o.deed).2.2) = y7 at hst7 ht7 h07 hR7 lR7 ⊢
    obtain ⟨⟨-, -, c2, c3⟩, -⟩ := la_cellsN hst7.las (by simp) (k := k) (by simpa using hk)
    rw [List.getElem_set_self] at c2 c3
    simp only [M.laSet] at c2 c3
    have zg := (World.ownsRow.lt hst7.las g rfl).2
    have HRB2 : Hid (∀ r ∈ rs2, r.sl.ownBlock ≠ some (w.heap.size + 1)) := Lib.hid (fun r hr e => by
      rcases HBK.out r hr _ e with h | ⟨x, hx, e'⟩
      · have h' : y5.heap.size ≤ w.heap.size + 1 := h
        omega
      · have := HLOW.out x hx _ e'; omega)
    clear hgb hgG hor HH HST5 HST6 HT5
    go_wp2_with fail
    refine (newReply_any (M.keptD (rs.map Wr.wk) o.deed).2.1 (M.keptD (rs.map Wr.wk) o.deed).2.2 _ HPG.out).mono ?_
    rintro e y8 ⟨rfl, hHeld⟩
    clear c2 c3 zg
    have hst8 := hst7.below hHeld
    have ht8 := ht7.below hHeld
    have lR8 := lR7.below hR7.1 hHeld
    have hR8 := hR7.below hHeld
    obtain ⟨r0, r1⟩ := hR8.two
    have z0 := lR8 0
    have z1 := lR8 1
    have HT := Lib.hid ht8
    have HSTE := Lib.hid hst8
    have HRR := Lib.hid hR8
    clear hHeld hst7 ht7 h07 lR7 hR7 hst8 ht8 lR8 hR8
    go_wp2
    obtain ⟨e1, e2⟩ := ord_end HT.out (Nat.le_succ _) HSTE.out hbw hGw HRB2.out (fun e => by have e' : g = w.heap.size + 1 := Option.some.inj e; omega) (.int .i64 (M.keptD (rs.map Wr.wk) o.deed).2.1) (.string (M.keptD (rs.map Wr.wk) o.deed).2.2)
    refine bodyPost_ret (results_ord (M.keptD (rs.map Wr.wk) o.deed).2.1 (M.keptD (rs.map Wr.wk) o.deed).2.2 (w.heap.size + 1) _ _ rfl ?_) rfl ⟨by rw [HQ.out] <;> rfl, e1, rs2, _, by rw [HQ.out]; exact HMP.out, by rw [HQ.out]; exact e2, fun x hx => by
      rcases hx with hx | ⟨r, hr, hx⟩
      · rcases HV1.out x hx with h | h
        · exact .inr (.inl h)
        · exact .inl (by omega)
      · rcases HBK.out r hr x hx with h | h
        · exact .inl (Nat.le_trans HSW.out h)
        · exact .inr (.inr h)⟩
    simpa using ((HRR.out.putM 0 (.int .i64 (M.keptD (rs.map Wr.wk) o.deed).2.1)).putM 1 (.string (M.keptD (rs.map Wr.wk) o.deed).2.2))

theorem ordered_any (W B b : Nat) (rs : List Wr) (G : Nat) (v : Value) (ls : List M.La) (o : M.Or) (w : World) (h : BkSt w W B b rs G v ls) (hll : ls.length ≤ 1048575) (hn : o.deed.name.size ≤ 1048576) (hpg : o.deed.page.size ≤ 1048576) :
    Calls Tryz.prog 52 #[.pointer (some ⟨G, 0, none⟩), orV o] w (OrdOut w W B b G v rs (M.ordI (rs.map Wr.wk, ls) o)) := by
  rcases hok : M.orderOk o with _ | _
  · exact ordered_bad W B b rs G v ls o w h hn hpg hok
  · exact ordered_ok W B b rs G v ls o w h hll hn hpg hok
end Go.Proofs.YtkpbfocnokbmiaaGreat
