/- Proved, in parts: Proved: further ways of the model's l5Do (a page is fetched; a work is veiled; a copy is put). Condition: texts and lists of at most a million. -/
import Derived.Test.YtdcdalbbjfjadaaGreatDoorPart30
namespace Go.Proofs.YtdcdalbbjfjadaaGreatDoor
open Go.RowKit
set_option maxRecDepth 20000

set_option maxHeartbeats 4000000 in
theorem l5Do_fetch (B g : Nat) (c : Nat) (rs : List Wr) (x : World) (d : M.Dd) (h : SfOwn B x (.slice (some ⟨g, 0, none⟩) rs.length c) rs) (hB : B ≤ x.heap.size) (hp : rs.length ≤ 1048576) (hw : WrsIn 1048576 rs) (hk5 : d.kind = 5) (k : Nat) (hkl : k < rs.length) (hf : M.sfFind (rs.map Wr.wk) d.name = k) :
    Calls Tryz.prog 32 #[.slice (some ⟨g, 0, none⟩) rs.length c, ddV d] x (DoIn B x (M.sDo (rs.map Wr.wk) d)) := by
  obtain ⟨cp, b, hci⟩ : ∃ cp b, M.copyIn ⟨rs[k].name, rs[k].owner, rs[k].cps⟩ d.ed = (cp, b) := ⟨_, _, rfl⟩
  have hsd : M.sDo (rs.map Wr.wk) d = (rs.map Wr.wk, if b then (if cp.hidden then ((5 : Int), M.nilB) else ((0 : Int), cp.page)) else ((1 : Int), M.nilB)) := by
    unfold M.sDo
    rw [if_neg (by omega), hf, List.getElem?_eq_getElem (by simpa using hkl)]
    simp only [List.getElem_map]
    unfold M.sAt
    have hci' : M.copyIn rs[k].wk d.ed = (cp, b) := hci
    rw [if_pos hk5, hci']
    cases b <;> simp
    cases cp.hidden <;> simp
  have hwk := hw rs[k] (List.getElem_mem hkl)
  have HCI : Hid (∀ y : World, Cps y rs[k].ad rs[k].cps → Calls Tryz.prog 65 #[wkV rs[k].name rs[k].owner rs[k].ad rs[k].cps.length rs[k].cap, edV d.ed] y fun r w' => r = .returned (.tuple #[cpV cp, .bool b]) ∧ Below y.heap.size y w') := Lib.hid (fun y hy => by
    have := specCopyIn rs[k].name rs[k].owner rs[k].ad rs[k].cps rs[k].cap d.ed y hy (Nat.le_trans hwk.1 (by unfold maxLen; omega)) hwk.2.1 (fun c hc => Nat.le_trans (hwk.2.2 c hc) (by unfold maxLen; omega))
    rw [hci] at this
    exact this)
  have HE := Lib.hid hsd
  clear hsd hci hwk
  have hk1 : (d.kind == 1) = false := by rw [hk5]; rfl
  have hk5' : (d.kind == 5) = true := by rw [hk5]; rfl
  clear hk5
  have hpos : M.sfFindInt (rs.map Wr.wk) d.name = (k : Int) := by rw [M.sfFindInt_pos (by rw [hf]; simpa using hkl), hf]
  have HPOS := Lib.hid hpos
  clear hpos hf
  have hm := ((Mem.start x).new (ddC d) 28).new (rpA 0 noP) 32
  simp only [World.size_alloc] at hm
  have hmr := hm.re (hs' := [(x.heap.size + 1, rpA 0 noP), (x.heap.size, ddC d)]) (ls' := [x.heap.size + 1]) (by simp) (by simp)
  have hsw := h.below hm.1
  have HW := Lib.hid hsw.wks.1
  have HS := Lib.hid h
  have HB := Lib.hid hB
  have HP := Lib.hid hp
  have HWI := Lib.hid (hw rs[k] (List.getElem_mem hkl))
  clear h hB hp hw hm
  go_enter Tryz.func32, Tryz.ntmps32
  go_wp2_with fail
  have hcall := l5Find_any (some ⟨g, 0, none⟩) rs c d.name _ HW.out HP.out
  rw [HPOS.out] at hcall
  refine hcall.mono ?_
  rintro e x1 ⟨rfl, rfl⟩
  clear hcall HW
  go_upto_region 8 with (fail)
  generalize hW0 : ((x.alloc (.cells (ddC d) 28)).alloc (.cells (rpA 0 noP) 32)) = W0 at hmr hsw ⊢
  clear hW0
  obtain ⟨⟨k0, k1, k2⟩, y0, y1, y2⟩ := hsw.cellsK hkl
  obtain ⟨q0, q1, q2, q3, q4, q5, q6⟩ := (hmr.get x.heap.size (ddC d) (by simp)).seven
  obtain ⟨r0, r1⟩ := (hmr.get (x.heap.size + 1) (rpA 0 noP) (by simp)).two
  have zg := (World.ownsRow.lt hsw.1 g rfl).2
  have zd := (hmr.get x.heap.size (ddC d) (by simp)).1
  have zr := (hmr.get (x.heap.size + 1) (rpA 0 noP) (by simp)).1
  have hck := hsw.2.1 rs[k] (List.getElem_mem hkl)
  go_cut [9, 10] (fun s9 s10 wx => s10 = .bool b ∧ BoxAt W0 #[.int .i64 cp.ed.ma, .int .i64 cp.ed.mi, .int .i64 cp.ed.pa, .string cp.page, .bool cp.hidden] s9 wx)
  case first =>
    refine wp_region_tq (fun w' => Below W0.heap.size W0 w') (.read 0 (.read 1 (.read 2 (.read 3 (.read 4 (.read 5 (.two 6 10 (.read 7 (.read 8 (.read 9 (.one 10 (.one 11 (.read 12 .done)))))) (.one 6 (.read 7 (.read 8 (.read 9 (.one 11 (.read 12 .done))))))))))))) (by kernel_rfl) (by kernel_rfl) (fun _ _ _ _ _ h => h) (by kernel_rfl) (by decide) (Below.refl _ _).drew ?_
    intro hHeld
    generalize W0.drew = wd at hHeld ⊢
    repeat (first
      | (refine tq_reads (by simp only [List.getElem?_toArray, List.getElem?_cons_succ, List.getElem?_cons_zero]; first | done | rfl) (by rfl) ?_; apply Exists.intro; apply And.intro; (focus (intro w hSw; obtain ⟨hcS, -⟩ := bcell hSw; go_simp; (try with_reducible rfl); done)); (try simp only [Act.put, List.setIfInBounds_toArray, List.set_cons_zero, List.set_cons_succ]))
      | (refine tq_two ?_ ?_)
      | (refine tq_three ?_ ?_ ?_)
      | (refine tq_one (by simp only [List.getElem?_toArray, List.getElem?_cons_succ, List.getElem?_cons_zero]; first | done | rfl) (by rfl) (fun K hK => ?_); go_simp; go_at_call 65; refine (HCI.out _ (hck.below hHeld).cps.1).mono ?_; rintro r w1 ⟨rfl, b1⟩; go_simp; refine hK.out _ _ _ (fun _ h => h) (next hHeld b1) ?_; clear hK hHeld; intro hHeld; (try (replace fx := fx.below hx.1 b1; replace hx := hx.below b1)); (try simp only [Act.put, List.setIfInBounds_toArray, List.set_cons_zero, List.set_cons_succ]))
      | (refine tq_one (by simp only [List.getElem?_toArray, List.getElem?_cons_succ, List.getElem?_cons_zero]; first | done | rfl) (by rfl) (fun K hK => ?_); go_simp; refine hK.out _ _ _ (fun _ h => h) (hHeld.alloc hHeld.size _) ?_; clear hK; intro hS; refine tq_alloc ?_ hS; clear hS; intro wA bA hx fx hS; have hge := hHeld.size; clear hHeld; have hHeld := hS; clear hS bA; (try simp only [Act.put, List.setIfInBounds_toArray, List.set_cons_zero, List.set_cons_succ]))
      | (refine tq_one (by simp only [List.getElem?_toArray, List.getElem?_cons_succ, List.getElem?_cons_zero]; first | done | rfl) (by rfl) (fun K hK => ?_); obtain ⟨x0, x1, x2, x3, x4⟩ := hx.at5; obtain ⟨y0, y1, y2, y3, y4⟩ := fx.fz5; go_simp; refine hK.out _ _ _ (fun _ h => h) (far_5 hHeld hge _ _ _ _ _ ) ?_; clear hK hHeld; intro hHeld; (try simp only [Act.put, List.setIfInBounds_toArray, List.set_cons_zero, List.set_cons_succ]))
      | (refine tq_end ?_; go_wp2; go_meet; exact ⟨rfl, _, rfl, hge, hHeld, hx.wr5 _ _ _ _ _, fx.wr5 _ _ _ _ _⟩))
  case rest =>
  obtain ⟨rfl, G, rfl, hG, bx, hx, -⟩ := hcut
  have hmx := hmr.below bx
  have hxx := hmx.1
  clear k0 k1 k2 y0 y1 y2 q0 q1 q2 q3 q4 q5 q6 r0 r1 hmr hsw hck HCI
  rcases b with _ | _
  · replace HE := Lib.hid HE.out
    obtain ⟨r0, r1⟩ := (hmx.get (x.heap.size + 1) (rpA 0 noP) (by simp)).two
    have z0 := hmx.loose (x.heap.size + 1) (by simp) 0
    have z1 := hmx.loose (x.heap.size + 1) (by simp) 1
    have HH := Lib.hid hmx
    clear hmx
    go_wp2
    refine bodyPost_ret (results_sl5Do (.slice (some ⟨g, 0, none⟩) rs.length c) 1 noP (x.heap.size + 1) _ _ rfl rfl ?_) rfl (by rw [HE.out]; exact DoIn.same HS.out HB.out ((HH.out.1.setCell (by show x.heap.size ≤ x.heap.size + 1; omega) _).setCell (by show x.heap.size ≤ x.heap.size + 1; omega) _) rfl)
    simpa using (((HH.out.get (x.heap.size + 1) (rpA 0 noP) (by simp)).putM 0 (.int .i64 1)).putM 1 (.string noP))
  · obtain ⟨m0, m1, m2, m3, m4⟩ := hx.at5
    have zG := hx.1
    rcases hh : cp.hidden with _ | _
    · replace HE : Hid (M.sDo (rs.map Wr.wk) d = (rs.map Wr.wk, ((0 : Int), cp.page))) := Lib.hid (by rw [HE.out, hh]; rfl)
      have hmg := (hmx.add hx).re (hs' := [(x.heap.size + 1, rpA 0 noP), (G, #[.int .i64 cp.ed.ma, .int .i64 cp.ed.mi, .int .i64 cp.ed.pa, .string cp.page, .bool cp.hidden])]) (ls' := [x.heap.size + 1]) (by simp) (by simp)
      have HGG := Lib.hid (fun (y : World) (h : Mem x [(x.heap.size + 1, rpA 0 noP), (G, #[.int .i64 cp.ed.ma, .int .i64 cp.ed.mi, .int .i64 cp.ed.pa, .string cp.page, .bool cp.hidden])] [x.heap.size + 1] y) => (h.get G #[.int .i64 cp.ed.ma, .int .i64 cp.ed.mi, .int .i64 cp.ed.pa, .string cp.page, .bool cp.hidden] (by simp)).at5)
      rw [hh] at m4
      clear hmx hx hh
      go_wp2_with fail
      refine wp_region_fin 5 (fun y => Mem x [(x.heap.size + 1, rpA 0 noP), (G, #[.int .i64 cp.ed.ma, .int .i64 cp.ed.mi, .int .i64 cp.ed.pa, .string cp.page, .bool cp.hidden])] [x.heap.size + 1] y) [(0, true), (1, true), (2, true), (3, true), (4, true), (5, false)] (by kernel_rfl) (by kernel_rfl) (fun _ _ _ _ _ h => h) (by kernel_rfl) (by decide) hmg.drew ?_
      intro hHeld
      generalize World.drew _ = wd at hHeld ⊢
      repeat (first
        | (refine seqF_reads (by simp only [List.getElem?_toArray, List.getElem?_cons_succ, List.getElem?_cons_zero]; first | done | rfl) (by rfl) ?_; apply Exists.intro; apply And.intro; (focus (intro w hSw; (try (replace hSw := hSw (by decide +kernel))); (try (obtain ⟨m0, m1, m2, m3, m4⟩ := HGG.out _ hSw)); go_simp; (try with_reducible rfl); done)); (try simp only [Act.put, List.setIfInBounds_toArray, List.set_cons_zero, List.set_cons_succ]))
        | (refine seqF_last (by simp only [List.getElem?_toArray, List.getElem?_cons_succ, List.getElem?_cons_zero]; first | done | rfl) (by rfl) (fun K hK => ?_); have hD := hHeld; obtain ⟨r0, r1⟩ := (hD.get (x.heap.size + 1) (rpA 0 noP) (by simp)).two; have z0 := hD.loose (x.heap.size + 1) (by simp) 0; have z1 := hD.loose (x.heap.size + 1) (by simp) 1; go_simp; refine hK.out _ _ ?_; clear hK; clear r0 r1 z0 z1 hD; (have HH := Lib.hid hHeld); clear hHeld; (try simp only [Act.put, List.setIfInBounds_toArray, List.set_cons_zero, List.set_cons_succ])))
      refine seqF_end ?_
      go_wp2
      refine bodyPost_ret (results_sl5Do (.slice (some ⟨g, 0, none⟩) rs.length c) 0 cp.page (x.heap.size + 1) _ _ rfl rfl ?_) rfl (by rw [HE.out]; exact DoIn.same HS.out HB.out ((HH.out.1.setCell (by show x.heap.size ≤ x.heap.size + 1; omega) _).setCell (by show x.heap.size ≤ x.heap.size + 1; omega) _) rfl)
      simpa using (((HH.out.get (x.heap.size + 1) (rpA 0 noP) (by simp)).putM 0 (.int .i64 0)).putM 1 (.string cp.page))
    · replace HE : Hid (M.sDo (rs.map Wr.wk) d = (rs.map Wr.wk, ((5 : Int), M.nilB))) := Lib.hid (by rw [HE.out, hh]; rfl)
      rw [hh] at m4
      clear hx hh
      obtain ⟨r0, r1⟩ := (hmx.get (x.heap.size + 1) (rpA 0 noP) (by simp)).two
      have z0 := hmx.loose (x.heap.size + 1) (by simp) 0
      have z1 := hmx.loose (x.heap.size + 1) (by simp) 1
      have HH := Lib.hid hmx
      clear hmx
      go_wp2
      refine bodyPost_ret (results_sl5Do (.slice (some ⟨g, 0, none⟩) rs.length c) 5 noP (x.heap.size + 1) _ _ rfl rfl ?_) rfl (by rw [HE.out]; exact DoIn.same HS.out HB.out ((HH.out.1.setCell (by show x.heap.size ≤ x.heap.size + 1; omega) _).setCell (by show x.heap.size ≤ x.heap.size + 1; omega) _) rfl)
      simpa using (((HH.out.get (x.heap.size + 1) (rpA 0 noP) (by simp)).putM 0 (.int .i64 5)).putM 1 (.string noP))

set_option maxHeartbeats 4000000 in
theorem l5Do_veil (B g : Nat) (c : Nat) (rs : List Wr) (x : World) (d : M.Dd) (h : SfOwn B x (.slice (some ⟨g, 0, none⟩) rs.length c) rs) (hB : B ≤ x.heap.size) (hp : rs.length ≤ 1048576) (hw : WrsIn 1048576 rs) (hk34 : d.kind = 3 ∨ d.kind = 4) (k : Nat) (hkl : k < rs.length) (hf : M.sfFind (rs.map Wr.wk) d.name = k) (ho : rs[k].owner = d.who) :
    Calls Tryz.prog 32 #[.slice (some ⟨g, 0, none⟩) rs.length c, ddV d] x (DoIn B x (M.sDo (rs.map Wr.wk) d)) := by
  obtain ⟨wk1, b, hv⟩ : ∃ wk1 b, M.veiled ⟨rs[k].name, rs[k].owner, rs[k].cps⟩ d.ed (d.kind == 3) = (wk1, b) := ⟨_, _, rfl⟩
  have hsd : M.sDo (rs.map Wr.wk) d = if b then ((rs.map Wr.wk).set k wk1, ((0 : Int), M.nilB)) else (rs.map Wr.wk, ((1 : Int), M.nilB)) := by
    unfold M.sDo
    rw [if_neg (by omega), hf, List.getElem?_eq_getElem (by simpa using hkl)]
    simp only [List.getElem_map]
    unfold M.sAt
    have hv' : M.veiled rs[k].wk d.ed (d.kind == 3) = (wk1, b) := hv
    rw [if_neg (by omega), if_pos (show rs[k].wk.owner = d.who from ho), if_neg (by omega), if_neg (by omega), hv']
  have hwk := hw rs[k] (List.getElem_mem hkl)
  have HV : Hid (∀ y : World, CpOwn B y rs[k].sl rs[k].cps → Calls Tryz.prog 68 #[wkV rs[k].name rs[k].owner rs[k].ad rs[k].cps.length rs[k].cap, edV d.ed, .bool (d.kind == 3)] y fun r w' => WkRet y.heap.size (wk1, b) r w' ∧ Below y.heap.size y w') := Lib.hid (fun y hy => by
    have := specVeiled rs[k].name rs[k].owner rs[k].ad rs[k].cps rs[k].cap d.ed (d.kind == 3) y hy.cps.1 hy.nilc (Nat.le_trans hwk.1 (by unfold maxLen; omega)) hwk.2.1 (fun c hc => Nat.le_trans (hwk.2.2 c hc) (by unfold maxLen; omega))
    rw [hv] at this
    exact this)
  have HE := Lib.hid hsd
  clear hsd hv hwk
  have hk1 : (d.kind == 1) = false := by rcases hk34 with h | h <;> rw [h] <;> rfl
  have hk5 : (d.kind == 5) = false := by rcases hk34 with h | h <;> rw [h] <;> rfl
  have hk2 : (d.kind == 2) = false := by rcases hk34 with h | h <;> rw [h] <;> rfl
  have hk6 : (d.kind == 6) = false := by rcases hk34 with h | h <;> rw [h] <;> rfl
  clear hk34
  have hpos : M.sfFindInt (rs.map Wr.wk) d.name = (k : Int) := by rw [M.sfFindInt_pos (by rw [hf]; simpa using hkl), hf]
  have HPOS := Lib.hid hpos
  have ho' : (rs[k].owner != d.who) = false := by simp [ho]
  clear hpos hf ho
  have hm := ((Mem.start x).new (ddC d) 28).new (rpA 0 noP) 32
  simp only [World.size_alloc] at hm
  have hmr := hm.re (hs' := [(x.heap.size + 1, rpA 0 noP), (x.heap.size, ddC d)]) (ls' := [x.heap.size + 1]) (by simp) (by simp)
  have HSW := Lib.hid (h.below hmr.1)
  have HBW := Lib.hid hmr.1
  have HMR := Lib.hid hmr
  have HGET := Lib.hid (fun (y : World) (h : Mem x [(x.heap.size + 1, rpA 0 noP), (x.heap.size, ddC d)] [x.heap.size + 1] y ∧ SfOwn B y (.slice (some ⟨g, 0, none⟩) rs.length c) rs ∧ Below x.heap.size x y) => (And.intro (h.1.get x.heap.size (ddC d) (by simp)).seven (h.2.1.cellsK hkl).1))
  have HW := Lib.hid HSW.out.wks.1
  have HS := Lib.hid h
  have HB := Lib.hid hB
  have HP := Lib.hid hp
  clear h hB hp hw hm hmr
  go_enter Tryz.func32, Tryz.ntmps32
  go_wp2_with fail
  have hcall := l5Find_any (some ⟨g, 0, none⟩) rs c d.name _ HW.out HP.out
  rw [HPOS.out] at hcall
  refine hcall.mono ?_
  rintro e x1 ⟨rfl, rfl⟩
  clear hcall HW
  go_wp2_with fail
  refine wp_region_seq (fun y => Mem x [(x.heap.size + 1, rpA 0 noP), (x.heap.size, ddC d)] [x.heap.size + 1] y ∧ SfOwn B y (.slice (some ⟨g, 0, none⟩) rs.length c) rs ∧ Below x.heap.size x y) [(0, true), (1, true), (2, true), (3, true), (4, true), (5, true), (6, true), (7, true)] (by kernel_rfl) (by kernel_rfl) (fun _ _ _ _ _ h => h) (by kernel_rfl) (by decide) ⟨HMR.out.drew, HSW.out, HBW.out.drew⟩ ?_
  intro hHeld
  generalize World.drew _ = wd at hHeld ⊢
  repeat (first
    | (refine seq_skip (by simp only [List.getElem?_toArray, List.getElem?_cons_succ, List.getElem?_cons_zero]; first | done | rfl) (by rfl) ?_; (try simp only [Act.put, List.setIfInBounds_toArray, List.set_cons_zero, List.set_cons_succ]))
    | (refine seq_reads (by simp only [List.getElem?_toArray, List.getElem?_cons_succ, List.getElem?_cons_zero]; first | done | rfl) (by rfl) ?_; apply Exists.intro; apply And.intro; (focus (intro w hSw; (try (obtain ⟨⟨q0, q1, q2, q3, q4, q5, q6⟩, k0, k1, k2⟩ := HGET.out _ hSw)); go_simp; (try with_reducible rfl); done)); (try simp only [Act.put, List.setIfInBounds_toArray, List.set_cons_zero, List.set_cons_succ]))
    | (refine seq_pass (by simp only [List.getElem?_toArray, List.getElem?_cons_succ, List.getElem?_cons_zero]; first | done | rfl) (by rfl) hHeld ?_; clear hHeld; intro hHeld; (try simp only [Act.put, List.setIfInBounds_toArray, List.set_cons_zero, List.set_cons_succ])))
  refine seq_end ?_
  clear HMR HSW HBW
  obtain ⟨⟨k0, k1, k2⟩, y0, y1, y2⟩ := hHeld.2.1.cellsK hkl
  obtain ⟨q0, q1, q2, q3, q4, q5, q6⟩ := (hHeld.1.get x.heap.size (ddC d) (by simp)).seven
  obtain ⟨r0, r1⟩ := (hHeld.1.get (x.heap.size + 1) (rpA 0 noP) (by simp)).two
  have zg := (World.ownsRow.lt hHeld.2.1.1 g rfl).2
  have zd := (hHeld.1.get x.heap.size (ddC d) (by simp)).1
  have zr := (hHeld.1.get (x.heap.size + 1) (rpA 0 noP) (by simp)).1
  have hck := hHeld.2.1.2.1 rs[k] (List.getElem_mem hkl)
  have hHD := hHeld
  clear hHeld
  go_upto_region 17 with (fail)
  go_cut [13, 14] (fun s13 s14 wx => WkBox wd (wk1, b) s13 s14 wx)
  case first =>
    refine wp_region_tq (fun w' => Below wd.heap.size wd w') (.read 0 (.read 1 (.read 2 (.read 3 (.read 4 (.read 5 (.read 6 (.read 7 (.read 8 (.two 9 13 (.read 10 (.read 11 (.read 12 (.one 13 (.one 14 (.read 15 .done)))))) (.one 9 (.read 10 (.read 11 (.read 12 (.one 14 (.read 15 .done)))))))))))))))) (by kernel_rfl) (by kernel_rfl) (fun _ _ _ _ _ h => h) (by kernel_rfl) (by decide) (Below.refl _ _).drew ?_
    intro hHeld
    generalize wd.drew = we at hHeld ⊢
    repeat (first
      | (refine tq_reads (by simp only [List.getElem?_toArray, List.getElem?_cons_succ, List.getElem?_cons_zero]; first | done | rfl) (by rfl) ?_; apply Exists.intro; apply And.intro; (focus (intro w hSw; obtain ⟨hcS, -⟩ := bcell hSw; go_simp; (try with_reducible rfl); done)); (try simp only [Act.put, List.setIfInBounds_toArray, List.set_cons_zero, List.set_cons_succ]))
      | (refine tq_two ?_ ?_)
      | (refine tq_three ?_ ?_ ?_)
      | (refine tq_one (by simp only [List.getElem?_toArray, List.getElem?_cons_succ, List.getElem?_cons_zero]; first | done | rfl) (by rfl) (fun K hK => ?_); go_simp; go_at_call 68; refine (HV.out _ (hck.below hHeld)).mono ?_; rintro r w1 ⟨⟨A', c', rfl, ho⟩, b1⟩; (try have hne := ho.ne_low hx.1); replace ho := ho.mono hHeld.size; go_simp; refine hK.out _ _ _ (fun _ h => h) (next hHeld b1) ?_; clear hK hHeld; intro hHeld; (try (replace fx := fx.below hx.1 b1; replace hx := hx.below b1)); (try simp only [Act.put, List.setIfInBounds_toArray, List.set_cons_zero, List.set_cons_succ]))
      | (refine tq_one (by simp only [List.getElem?_toArray, List.getElem?_cons_succ, List.getElem?_cons_zero]; first | done | rfl) (by rfl) (fun K hK => ?_); go_simp; refine hK.out _ _ _ (fun _ h => h) (hHeld.alloc hHeld.size _) ?_; clear hK; intro hS; refine tq_alloc ?_ hS; clear hS; intro wA bA hx fx hS; have hge := hHeld.size; clear hHeld; have hHeld := hS; (try (have hne := ho.ne_new; replace ho := ho.below bA)); clear hS bA; (try simp only [Act.put, List.setIfInBounds_toArray, List.set_cons_zero, List.set_cons_succ]))
      | (refine tq_one (by simp only [List.getElem?_toArray, List.getElem?_cons_succ, List.getElem?_cons_zero]; first | done | rfl) (by rfl) (fun K hK => ?_); obtain ⟨x0, x1, x2⟩ := hx.at3; obtain ⟨y0, y1, y2⟩ := fx.fz3; go_simp; refine hK.out _ _ _ (fun _ h => h) (far_3 hHeld hge _ _ _ ) ?_; clear hK hHeld; intro hHeld; (try simp only [Act.put, List.setIfInBounds_toArray, List.set_cons_zero, List.set_cons_succ]))
      | (refine tq_end ?_; go_wp2; go_meet; exact ⟨_, _, _, rfl, rfl, hge, hHeld, hx.wr3 _ _ _, ((ho.apart hne _).apart hne _).apart hne _, hne⟩))
  case rest =>
  obtain ⟨G, Ax, cx, rfl, rfl, hG, bx, hx, ox, hgne⟩ := hcut
  have hmx := hHD.1.below bx
  have hsx := hHD.2.1.below bx
  have hzw := hHD.2.2.size
  clear k0 k1 k2 y0 y1 y2 q0 q1 q2 q3 q4 q5 q6 r0 r1 hHD hck HV bx hgne
  rcases b with _ | _
  · clear hsx ox hx
    obtain ⟨r0, r1⟩ := (hmx.get (x.heap.size + 1) (rpA 0 noP) (by simp)).two
    have z0 := hmx.loose (x.heap.size + 1) (by simp) 0
    have z1 := hmx.loose (x.heap.size + 1) (by simp) 1
    have HH := Lib.hid hmx
    clear hmx
    go_wp2
    refine bodyPost_ret (results_sl5Do (.slice (some ⟨g, 0, none⟩) rs.length c) 1 noP (x.heap.size + 1) _ _ rfl rfl ?_) rfl (by rw [HE.out]; exact DoIn.same HS.out HB.out ((HH.out.1.setCell (by show x.heap.size ≤ x.heap.size + 1; omega) _).setCell (by show x.heap.size ≤ x.heap.size + 1; omega) _) rfl)
    simpa using (((HH.out.get (x.heap.size + 1) (rpA 0 noP) (by simp)).putM 0 (.int .i64 1)).putM 1 (.string noP))
  · replace HE : Hid (M.sDo (rs.map Wr.wk) d = ((rs.map Wr.wk).set k wk1, ((0 : Int), M.nilB))) := Lib.hid HE.out
    have hgl := (World.ownsRow.lt hsx.1 g rfl)
    have hgx := (World.ownsRow.lt HS.out.1 g rfl).2
    obtain ⟨⟨k0, k1, k2⟩, y0, y1, y2⟩ := hsx.cellsK hkl
    obtain ⟨u0, u1, u2⟩ := hx.at3
    obtain ⟨r0, r1⟩ := (hmx.get (x.heap.size + 1) (rpA 0 noP) (by simp)).two
    have z0 := hmx.loose (x.heap.size + 1) (by simp) 0
    have z1 := hmx.loose (x.heap.size + 1) (by simp) 1
    have zG := hx.1
    have HH := Lib.hid hmx
    have HSX := Lib.hid hsx
    have HOX := Lib.hid ox
    clear hmx hsx ox hx
    go_wp2
    have hvb : (Value.slice (some ⟨g, 0, none⟩) rs.length c).ownBlock ≠ some (x.heap.size + 1) := fun e => by have e2 : g = x.heap.size + 1 := Option.some.inj e; omega
    have hnew : ∀ z, (Value.slice Ax wk1.copies.length cx).ownBlock = some z → wd.heap.size ≤ z := fun z hz => (HOX.out.lt z hz).1
    have hrb : ∀ r ∈ rs.set k ⟨wk1.name, wk1.owner, Ax, cx, wk1.copies⟩, r.sl.ownBlock ≠ some (x.heap.size + 1) := fun r hr e => by
      rcases List.mem_or_eq_of_mem_set hr with hr | rfl
      · have := ((HS.out.2.1 r hr).lt _ e).2
        omega
      · have := hnew _ e
        omega
    have hBB := HB.out
    have hset := HSX.out.setK hkl ⟨wk1.name, wk1.owner, Ax, cx, wk1.copies⟩ (HOX.out.mono (by omega)) (fun e => by have := hnew _ e; omega) (fun i hi _ => apart_sym (own_differ (B := wd.heap.size) (fun z hz => Nat.lt_of_lt_of_le (((HS.out.2.1 _ (List.getElem_mem hi)).lt z hz).2) (by omega)) hnew))
    refine bodyPost_ret (results_sl5Do (.slice (some ⟨g, 0, none⟩) rs.length c) 0 noP (x.heap.size + 1) _ _ rfl rfl ?_) rfl ⟨.slice (some ⟨g, 0, none⟩) rs.length c, rs.set k ⟨wk1.name, wk1.owner, Ax, cx, wk1.copies⟩, by rw [HE.out]; rfl, ((hset.far hvb hrb 0 _).far hvb hrb 1 _), by rw [HE.out, List.map_set]; rfl, (((((HH.out.1.mono hBB).setCell hgl.1 _).setCell hgl.1 _).setCell hgl.1 _).setCell (by show B ≤ x.heap.size + 1; omega) _).setCell (by show B ≤ x.heap.size + 1; omega) _⟩
    have hh4 := (((HH.out.get (x.heap.size + 1) (rpA 0 noP) (by simp)).otherM (g := g) (j := k * 3) (v := .string wk1.name) (by omega)).otherM (g := g) (j := k * 3 + 1) (v := .int .i64 wk1.owner) (by omega)).otherM (g := g) (j := k * 3 + 2) (v := .slice Ax wk1.copies.length cx) (by omega)
    simpa using ((hh4.putM 0 (.int .i64 0)).putM 1 (.string noP))
end Go.Proofs.YtdcdalbbjfjadaaGreatDoor
