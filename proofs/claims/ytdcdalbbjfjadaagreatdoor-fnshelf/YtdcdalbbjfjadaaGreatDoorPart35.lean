/- Proved, in parts: Proved: a further way of the model's l5Do: a copy is put. Condition: texts and lists of at most a million. Proved: the model's l5Do does what the plain Lean function tells, on a right shelf that is its own and with a right deed. -/
import Derived.Test.YtdcdalbbjfjadaaGreatDoorPart30
import Derived.Test.YtdcdalbbjfjadaaGreatDoorPart34
import Derived.Test.YtdcdalbbjfjadaaGreatDoorPart32
import Derived.Test.YtdcdalbbjfjadaaGreatDoorPart33
namespace Go.Proofs.YtdcdalbbjfjadaaGreatDoor
open Go.RowKit
set_option maxRecDepth 20000

set_option maxHeartbeats 4000000 in
theorem l5Do_put (B g : Nat) (c : Nat) (rs : List Wr) (x : World) (d : M.Dd) (h : SfOwn B x (.slice (some ⟨g, 0, none⟩) rs.length c) rs) (hB : B ≤ x.heap.size) (hp : rs.length ≤ 1048576) (hw : WrsIn 1048576 rs) (hk : d.kind = 2) (hpg : d.page.size ≤ 1048576) (k : Nat) (hkl : k < rs.length) (hf : M.sfFind (rs.map Wr.wk) d.name = k) (ho : rs[k].owner = d.who) :
    Calls Tryz.prog 32 #[.slice (some ⟨g, 0, none⟩) rs.length c, ddV d] x (DoIn B x (M.sDo (rs.map Wr.wk) d)) := by
  obtain ⟨wk1, b, hv⟩ : ∃ wk1 b, M.printed ⟨rs[k].name, rs[k].owner, rs[k].cps⟩ d.ed d.page = (wk1, b) := ⟨_, _, rfl⟩
  have hsd : M.sDo (rs.map Wr.wk) d = if b then ((rs.map Wr.wk).set k wk1, ((0 : Int), M.nilB)) else if M.findEd rs[k].cps d.ed < rs[k].cps.length then (rs.map Wr.wk, ((2 : Int), M.nilB)) else (rs.map Wr.wk, ((4 : Int), M.nilB)) := by
    unfold M.sDo
    rw [if_neg (by omega), hf, List.getElem?_eq_getElem (by simpa using hkl)]
    simp only [List.getElem_map]
    unfold M.sAt
    have hv' : M.printed rs[k].wk d.ed d.page = (wk1, b) := hv
    rw [if_neg (by omega), if_pos (show rs[k].wk.owner = d.who from ho), if_pos hk, hv']
    rfl
  have hwk := hw rs[k] (List.getElem_mem hkl)
  have HV : Hid (∀ y : World, CpOwn B y rs[k].sl rs[k].cps → Calls Tryz.prog 66 #[wkV rs[k].name rs[k].owner rs[k].ad rs[k].cps.length rs[k].cap, edV d.ed, .string d.page] y fun r w' => WkRet y.heap.size (wk1, b) r w' ∧ Below y.heap.size y w') := Lib.hid (fun y hy => by
    have := specPrinted rs[k].name rs[k].owner rs[k].ad rs[k].cps rs[k].cap d.ed d.page y hy.cps.1 hy.nilc (own_cap hy) hwk.1 hwk.2.1 hwk.2.2 hpg
    rw [hv] at this
    exact this)
  have HLK := Lib.hid hwk.2.1
  have HE := Lib.hid hsd
  clear hsd hv hwk hpg
  have hk1 : (d.kind == 1) = false := by rw [hk]; rfl
  have hk5 : (d.kind == 5) = false := by rw [hk]; rfl
  have hk2 : (d.kind == 2) = true := by rw [hk]; rfl
  clear hk
  have hpos : M.sfFindInt (rs.map Wr.wk) d.name = (k : Int) := by rw [M.sfFindInt_pos (by rw [hf]; simpa using hkl), hf]
  have HPOS := Lib.hid hpos
  have ho' : (rs[k].owner != d.who) = false := by simp [ho]
  clear hpos hf ho
  have hm := ((Mem.start x).new (ddC d) 28).new (rpA 0 noP) 32
  simp only [World.size_alloc] at hm
  have hmr := hm.re (hs' := [(x.heap.size + 1, rpA 0 noP), (x.heap.size, ddC d)]) (ls' := [x.heap.size + 1]) (by simp) (by simp)
  have HSW := Lib.hid (h.below hmr.1)
  have HBW := Lib.hid hmr.1
  have HMR := Lib.hid hmr
  have HGET := Lib.hid (fun (y : World) (h : Mem x [(x.heap.size + 1, rpA 0 noP), (x.heap.size, ddC d)] [x.heap.size + 1] y ∧ SfOwn B y (.slice (some ⟨g, 0, none⟩) rs.length c) rs ∧ Below x.heap.size x y) => (And.intro (h.1.get x.heap.size (ddC d) (by simp)).seven (h.2.1.cellsK hkl).1))
  have HW := Lib.hid HSW.out.wks.1
  have HS := Lib.hid h
  have HB := Lib.hid hB
  have HP := Lib.hid hp
  clear h hB hp hw hm hmr
  go_enter Tryz.func32, Tryz.ntmps32
  go_wp2_with fail
  have hcall := l5Find_any (some ⟨g, 0, none⟩) rs c d.name _ HW.out HP.out
  rw [HPOS.out] at hcall
  refine hcall.mono ?_
  rintro e x1 ⟨rfl, rfl⟩
  clear hcall HW
  go_wp2_with fail
  refine wp_region_seq (fun y => Mem x [(x.heap.size + 1, rpA 0 noP), (x.heap.size, ddC d)] [x.heap.size + 1] y ∧ SfOwn B y (.slice (some ⟨g, 0, none⟩) rs.length c) rs ∧ Below x.heap.size x y) [(0, true), (1, true), (2, true), (3, true), (4, true), (5, true), (6, true), (7, true)] (by kernel_rfl) (by kernel_rfl) (fun _ _ _ _ _ h => h) (by kernel_rfl) (by decide) ⟨HMR.out.drew, HSW.out, HBW.out.drew⟩ ?_
  intro hHeld
  generalize World.drew _ = wd at hHeld ⊢
  repeat (first
    | (refine seq_skip (by simp only [List.getElem?_toArray, List.getElem?_cons_succ, List.getElem?_cons_zero]; first | done | rfl) (by rfl) ?_; (try simp only [Act.put, List.setIfInBounds_toArray, List.set_cons_zero, List.set_cons_succ]))
    | (refine seq_reads (by simp only [List.getElem?_toArray, List.getElem?_cons_succ, List.getElem?_cons_zero]; first | done | rfl) (by rfl) ?_; apply Exists.intro; apply And.intro; (focus (intro w hSw; (try (obtain ⟨⟨q0, q1, q2, q3, q4, q5, q6⟩, k0, k1, k2⟩ := HGET.out _ hSw)); go_simp; (try with_reducible rfl); done)); (try simp only [Act.put, List.setIfInBounds_toArray, List.set_cons_zero, List.set_cons_succ]))
    | (refine seq_pass (by simp only [List.getElem?_toArray, List.getElem?_cons_succ, List.getElem?_cons_zero]; first | done | rfl) (by rfl) hHeld ?_; clear hHeld; intro hHeld; (try simp only [Act.put, List.setIfInBounds_toArray, List.set_cons_zero, List.set_cons_succ])))
  refine seq_end ?_
  clear HMR HSW HBW
  obtain ⟨⟨k0, k1, k2⟩, y0, y1, y2⟩ := hHeld.2.1.cellsK hkl
  obtain ⟨q0, q1, q2, q3, q4, q5, q6⟩ := (hHeld.1.get x.heap.size (ddC d) (by simp)).seven
  obtain ⟨r0, r1⟩ := (hHeld.1.get (x.heap.size + 1) (rpA 0 noP) (by simp)).two
  have zg := (World.ownsRow.lt hHeld.2.1.1 g rfl).2
  have zd := (hHeld.1.get x.heap.size (ddC d) (by simp)).1
  have zr := (hHeld.1.get (x.heap.size + 1) (rpA 0 noP) (by simp)).1
  have hck := hHeld.2.1.2.1 rs[k] (List.getElem_mem hkl)
  have hHD := hHeld
  clear hHeld
  go_upto_region 22 with (fail)
  go_cut [11, 12] (fun s11 s12 wx => WkBox wd (wk1, b) s11 s12 wx)
  case first =>
    refine wp_region_tq (fun w' => Below wd.heap.size wd w') (.read 0 (.read 1 (.read 2 (.read 3 (.read 4 (.read 5 (.read 6 (.read 7 (.two 8 12 (.read 9 (.read 10 (.read 11 (.one 12 (.one 13 (.read 14 .done)))))) (.one 8 (.read 9 (.read 10 (.read 11 (.one 13 (.read 14 .done))))))))))))))) (by kernel_rfl) (by kernel_rfl) (fun _ _ _ _ _ h => h) (by kernel_rfl) (by decide) (Below.refl _ _).drew ?_
    intro hHeld
    generalize wd.drew = we at hHeld ⊢
    repeat (first
      | (refine tq_reads (by simp only [List.getElem?_toArray, List.getElem?_cons_succ, List.getElem?_cons_zero]; first | done | rfl) (by rfl) ?_; apply Exists.intro; apply And.intro; (focus (intro w hSw; obtain ⟨hcS, -⟩ := bcell hSw; go_simp; (try with_reducible rfl); done)); (try simp only [Act.put, List.setIfInBounds_toArray, List.set_cons_zero, List.set_cons_succ]))
      | (refine tq_two ?_ ?_)
      | (refine tq_three ?_ ?_ ?_)
      | (refine tq_one (by simp only [List.getElem?_toArray, List.getElem?_cons_succ, List.getElem?_cons_zero]; first | done | rfl) (by rfl) (fun K hK => ?_); go_simp; go_at_call 66; refine (HV.out _ (hck.below hHeld)).mono ?_; rintro r w1 ⟨⟨A', c', rfl, ho⟩, b1⟩; (try have hne := ho.ne_low hx.1); replace ho := ho.mono hHeld.size; go_simp; refine hK.out _ _ _ (fun _ h => h) (next hHeld b1) ?_; clear hK hHeld; intro hHeld; (try (replace fx := fx.below hx.1 b1; replace hx := hx.below b1)); (try simp only [Act.put, List.setIfInBounds_toArray, List.set_cons_zero, List.set_cons_succ]))
      | (refine tq_one (by simp only [List.getElem?_toArray, List.getElem?_cons_succ, List.getElem?_cons_zero]; first | done | rfl) (by rfl) (fun K hK => ?_); go_simp; refine hK.out _ _ _ (fun _ h => h) (hHeld.alloc hHeld.size _) ?_; clear hK; intro hS; refine tq_alloc ?_ hS; clear hS; intro wA bA hx fx hS; have hge := hHeld.size; clear hHeld; have hHeld := hS; (try (have hne := ho.ne_new; replace ho := ho.below bA)); clear hS bA; (try simp only [Act.put, List.setIfInBounds_toArray, List.set_cons_zero, List.set_cons_succ]))
      | (refine tq_one (by simp only [List.getElem?_toArray, List.getElem?_cons_succ, List.getElem?_cons_zero]; first | done | rfl) (by rfl) (fun K hK => ?_); obtain ⟨x0, x1, x2⟩ := hx.at3; obtain ⟨y0, y1, y2⟩ := fx.fz3; go_simp; refine hK.out _ _ _ (fun _ h => h) (far_3 hHeld hge _ _ _ ) ?_; clear hK hHeld; intro hHeld; (try simp only [Act.put, List.setIfInBounds_toArray, List.set_cons_zero, List.set_cons_succ]))
      | (refine tq_end ?_; go_wp2; go_meet; exact ⟨_, _, _, rfl, rfl, hge, hHeld, hx.wr3 _ _ _, ((ho.apart hne _).apart hne _).apart hne _, hne⟩))
  case rest =>
  obtain ⟨G, Ax, cx, rfl, rfl, hG, bx, hx, ox, hgne⟩ := hcut
  have hmx := hHD.1.below bx
  have hsx := hHD.2.1.below bx
  have hzw := hHD.2.2.size
  clear k0 k1 k2 y0 y1 y2 q0 q1 q2 q3 q4 q5 q6 r0 r1 hHD hck HV bx hgne
  have HGE2 := Lib.hid (fun (y : World) (h : Mem x [(x.heap.size + 1, rpA 0 noP), (x.heap.size, ddC d)] [x.heap.size + 1] y ∧ SfOwn B y (.slice (some ⟨g, 0, none⟩) rs.length c) rs ∧ Below wc.heap.size wc y) => (And.intro (h.1.get x.heap.size (ddC d) (by simp)).seven (h.2.1.cellsK hkl).1))
  rcases b with _ | _
  · clear ox hx
    by_cases hfe : M.findEd rs[k].cps d.ed < rs[k].cps.length
    · replace HE : Hid (M.sDo (rs.map Wr.wk) d = (rs.map Wr.wk, ((2 : Int), M.nilB))) := Lib.hid (by rw [HE.out]; simp [hfe])
      obtain ⟨ff, hff⟩ : ∃ ff : Nat, M.findEd rs[k].cps d.ed = ff := ⟨_, rfl⟩
      have HFI := Lib.hid (show M.findInt rs[k].cps d.ed = (ff : Int) by rw [M.findInt_pos hfe, hff])
      clear hfe hff
      go_wp2_with fail
      refine wp_region_seq (fun y => Mem x [(x.heap.size + 1, rpA 0 noP), (x.heap.size, ddC d)] [x.heap.size + 1] y ∧ SfOwn B y (.slice (some ⟨g, 0, none⟩) rs.length c) rs ∧ Below wc.heap.size wc y) [(0, true), (1, true), (2, true), (3, true), (4, true), (5, true), (6, true), (7, true), (8, true), (9, false), (10, true), (11, true)] (by kernel_rfl) (by kernel_rfl) (fun _ _ _ _ _ h => h) (by kernel_rfl) (by decide) ⟨hmx.drew, hsx, (Below.refl _ _).drew⟩ ?_
      intro hHeld
      generalize World.drew _ = we at hHeld ⊢
      repeat (first
        | (refine seq_skip (by simp only [List.getElem?_toArray, List.getElem?_cons_succ, List.getElem?_cons_zero]; first | done | rfl) (by rfl) ?_; (try simp only [Act.put, List.setIfInBounds_toArray, List.set_cons_zero, List.set_cons_succ]))
        | (refine seq_reads (by simp only [List.getElem?_toArray, List.getElem?_cons_succ, List.getElem?_cons_zero]; first | done | rfl) (by rfl) ?_; apply Exists.intro; apply And.intro; (focus (intro w hSw; (try (obtain ⟨⟨q0, q1, q2, q3, q4, q5, q6⟩, k0, k1, k2⟩ := HGE2.out _ hSw)); go_simp; (try with_reducible rfl); done)); (try simp only [Act.put, List.setIfInBounds_toArray, List.set_cons_zero, List.set_cons_succ]))
        | (refine seq_pass (by simp only [List.getElem?_toArray, List.getElem?_cons_succ, List.getElem?_cons_zero]; first | done | rfl) (by rfl) hHeld ?_; clear hHeld; intro hHeld; (try simp only [Act.put, List.setIfInBounds_toArray, List.set_cons_zero, List.set_cons_succ]))
        | (refine seq_call (by simp only [List.getElem?_toArray, List.getElem?_cons_succ, List.getElem?_cons_zero]; first | done | rfl) (by rfl) (fun K hK => ?_); go_simp; go_at_call 67; have hcall := (l4Find_any rs[k].name rs[k].owner rs[k].ad rs[k].cps rs[k].cap d.ed _ (hHeld.2.1.2.1 rs[k] (List.getElem_mem hkl)).cps.1 HLK.out); rw [HFI.out] at hcall; refine hcall.mono ?_; clear hcall; rintro r w1 ⟨rfl, b1⟩; go_simp; refine hK.out _ _ ⟨hHeld.1.below b1, hHeld.2.1.below b1, next hHeld.2.2 b1⟩ ?_; clear hK hHeld; intro hHeld; (try simp only [Act.put, List.setIfInBounds_toArray, List.set_cons_zero, List.set_cons_succ])))
      refine seq_end ?_
      have hmx := hHeld.1
      clear hHeld
      obtain ⟨r0, r1⟩ := (hmx.get (x.heap.size + 1) (rpA 0 noP) (by simp)).two
      have z0 := hmx.loose (x.heap.size + 1) (by simp) 0
      have z1 := hmx.loose (x.heap.size + 1) (by simp) 1
      have HH := Lib.hid hmx
      clear hmx
      go_wp2
      refine bodyPost_ret (results_sl5Do (.slice (some ⟨g, 0, none⟩) rs.length c) 2 noP (x.heap.size + 1) _ _ rfl rfl ?_) rfl (by rw [HE.out]; exact DoIn.same HS.out HB.out ((HH.out.1.setCell (by show x.heap.size ≤ x.heap.size + 1; omega) _).setCell (by show x.heap.size ≤ x.heap.size + 1; omega) _) rfl)
      simpa using (((HH.out.get (x.heap.size + 1) (rpA 0 noP) (by simp)).putM 0 (.int .i64 2)).putM 1 (.string noP))
    · replace HE : Hid (M.sDo (rs.map Wr.wk) d = (rs.map Wr.wk, ((4 : Int), M.nilB))) := Lib.hid (by rw [HE.out]; simp [hfe])
      have HFI := Lib.hid (show M.findInt rs[k].cps d.ed = -1 by unfold M.findInt; rw [if_neg hfe])
      clear hfe
      go_wp2_with fail
      refine wp_region_seq (fun y => Mem x [(x.heap.size + 1, rpA 0 noP), (x.heap.size, ddC d)] [x.heap.size + 1] y ∧ SfOwn B y (.slice (some ⟨g, 0, none⟩) rs.length c) rs ∧ Below wc.heap.size wc y) [(0, true), (1, true), (2, true), (3, true), (4, true), (5, true), (6, true), (7, true), (8, true), (9, false), (10, true), (11, true)] (by kernel_rfl) (by kernel_rfl) (fun _ _ _ _ _ h => h) (by kernel_rfl) (by decide) ⟨hmx.drew, hsx, (Below.refl _ _).drew⟩ ?_
      intro hHeld
      generalize World.drew _ = we at hHeld ⊢
      repeat (first
        | (refine seq_skip (by simp only [List.getElem?_toArray, List.getElem?_cons_succ, List.getElem?_cons_zero]; first | done | rfl) (by rfl) ?_; (try simp only [Act.put, List.setIfInBounds_toArray, List.set_cons_zero, List.set_cons_succ]))
        | (refine seq_reads (by simp only [List.getElem?_toArray, List.getElem?_cons_succ, List.getElem?_cons_zero]; first | done | rfl) (by rfl) ?_; apply Exists.intro; apply And.intro; (focus (intro w hSw; (try (obtain ⟨⟨q0, q1, q2, q3, q4, q5, q6⟩, k0, k1, k2⟩ := HGE2.out _ hSw)); go_simp; (try with_reducible rfl); done)); (try simp only [Act.put, List.setIfInBounds_toArray, List.set_cons_zero, List.set_cons_succ]))
        | (refine seq_pass (by simp only [List.getElem?_toArray, List.getElem?_cons_succ, List.getElem?_cons_zero]; first | done | rfl) (by rfl) hHeld ?_; clear hHeld; intro hHeld; (try simp only [Act.put, List.setIfInBounds_toArray, List.set_cons_zero, List.set_cons_succ]))
        | (refine seq_call (by simp only [List.getElem?_toArray, List.getElem?_cons_succ, List.getElem?_cons_zero]; first | done | rfl) (by rfl) (fun K hK => ?_); go_simp; go_at_call 67; have hcall := (l4Find_any rs[k].name rs[k].owner rs[k].ad rs[k].cps rs[k].cap d.ed _ (hHeld.2.1.2.1 rs[k] (List.getElem_mem hkl)).cps.1 HLK.out); rw [HFI.out] at hcall; refine hcall.mono ?_; clear hcall; rintro r w1 ⟨rfl, b1⟩; go_simp; refine hK.out _ _ ⟨hHeld.1.below b1, hHeld.2.1.below b1, next hHeld.2.2 b1⟩ ?_; clear hK hHeld; intro hHeld; (try simp only [Act.put, List.setIfInBounds_toArray, List.set_cons_zero, List.set_cons_succ])))
      refine seq_end ?_
      have hmx := hHeld.1
      clear hHeld
      obtain ⟨r0, r1⟩ := (hmx.get (x.heap.size + 1) (rpA 0 noP) (by simp)).two
      have z0 := hmx.loose (x.heap.size + 1) (by simp) 0
      have z1 := hmx.loose (x.heap.size + 1) (by simp) 1
      have HH := Lib.hid hmx
      clear hmx
      go_wp2
      refine bodyPost_ret (results_sl5Do (.slice (some ⟨g, 0, none⟩) rs.length c) 4 noP (x.heap.size + 1) _ _ rfl rfl ?_) rfl (by rw [HE.out]; exact DoIn.same HS.out HB.out ((HH.out.1.setCell (by show x.heap.size ≤ x.heap.size + 1; omega) _).setCell (by show x.heap.size ≤ x.heap.size + 1; omega) _) rfl)
      simpa using (((HH.out.get (x.heap.size + 1) (rpA 0 noP) (by simp)).putM 0 (.int .i64 4)).putM 1 (.string noP))
  · replace HE : Hid (M.sDo (rs.map Wr.wk) d = ((rs.map Wr.wk).set k wk1, ((0 : Int), M.nilB))) := Lib.hid HE.out
    go_wp2_with fail
    refine wp_region_seq (fun y => Mem x [(x.heap.size + 1, rpA 0 noP), (x.heap.size, ddC d)] [x.heap.size + 1] y ∧ SfOwn B y (.slice (some ⟨g, 0, none⟩) rs.length c) rs ∧ Below wc.heap.size wc y) [(0, true), (1, true), (2, true), (3, true), (4, true), (5, true), (6, true), (7, true), (8, true), (9, false), (10, true), (11, true)] (by kernel_rfl) (by kernel_rfl) (fun _ _ _ _ _ h => h) (by kernel_rfl) (by decide) ⟨hmx.drew, hsx, (Below.refl _ _).drew⟩ ?_
    intro hHeld
    generalize World.drew _ = we at hHeld ⊢
    repeat (first
      | (refine seq_skip (by simp only [List.getElem?_toArray, List.getElem?_cons_succ, List.getElem?_cons_zero]; first | done | rfl) (by rfl) ?_; (try simp only [Act.put, List.setIfInBounds_toArray, List.set_cons_zero, List.set_cons_succ]))
      | (refine seq_reads (by simp only [List.getElem?_toArray, List.getElem?_cons_succ, List.getElem?_cons_zero]; first | done | rfl) (by rfl) ?_; apply Exists.intro; apply And.intro; (focus (intro w hSw; (try (obtain ⟨⟨q0, q1, q2, q3, q4, q5, q6⟩, k0, k1, k2⟩ := HGE2.out _ hSw)); go_simp; (try with_reducible rfl); done)); (try simp only [Act.put, List.setIfInBounds_toArray, List.set_cons_zero, List.set_cons_succ]))
      | (refine seq_pass (by simp only [List.getElem?_toArray, List.getElem?_cons_succ, List.getElem?_cons_zero]; first | done | rfl) (by rfl) hHeld ?_; clear hHeld; intro hHeld; (try simp only [Act.put, List.setIfInBounds_toArray, List.set_cons_zero, List.set_cons_succ])))
    refine seq_end ?_
    replace hx := hx.below hHeld.2.2
    replace ox := ox.below hHeld.2.2
    clear hmx hsx
    have hmx := hHeld.1
    have hsx := hHeld.2.1
    clear hHeld
    have hgl := (World.ownsRow.lt hsx.1 g rfl)
    have hgx := (World.ownsRow.lt HS.out.1 g rfl).2
    obtain ⟨⟨k0, k1, k2⟩, y0, y1, y2⟩ := hsx.cellsK hkl
    obtain ⟨u0, u1, u2⟩ := hx.at3
    obtain ⟨r0, r1⟩ := (hmx.get (x.heap.size + 1) (rpA 0 noP) (by simp)).two
    have z0 := hmx.loose (x.heap.size + 1) (by simp) 0
    have z1 := hmx.loose (x.heap.size + 1) (by simp) 1
    have zG := hx.1
    have HH := Lib.hid hmx
    have HSX := Lib.hid hsx
    have HOX := Lib.hid ox
    clear hmx hsx ox hx
    go_wp2
    have hvb : (Value.slice (some ⟨g, 0, none⟩) rs.length c).ownBlock ≠ some (x.heap.size + 1) := fun e => by have e2 : g = x.heap.size + 1 := Option.some.inj e; omega
    have hnew : ∀ z, (Value.slice Ax wk1.copies.length cx).ownBlock = some z → wd.heap.size ≤ z := fun z hz => (HOX.out.lt z hz).1
    have hrb : ∀ r ∈ rs.set k ⟨wk1.name, wk1.owner, Ax, cx, wk1.copies⟩, r.sl.ownBlock ≠ some (x.heap.size + 1) := fun r hr e => by
      rcases List.mem_or_eq_of_mem_set hr with hr | rfl
      · have := ((HS.out.2.1 r hr).lt _ e).2
        omega
      · have := hnew _ e
        omega
    have hBB := HB.out
    have hset := HSX.out.setK hkl ⟨wk1.name, wk1.owner, Ax, cx, wk1.copies⟩ (HOX.out.mono (by omega)) (fun e => by have := hnew _ e; omega) (fun i hi _ => apart_sym (own_differ (B := wd.heap.size) (fun z hz => Nat.lt_of_lt_of_le (((HS.out.2.1 _ (List.getElem_mem hi)).lt z hz).2) (by omega)) hnew))
    refine bodyPost_ret (results_sl5Do (.slice (some ⟨g, 0, none⟩) rs.length c) 0 noP (x.heap.size + 1) _ _ rfl rfl ?_) rfl ⟨.slice (some ⟨g, 0, none⟩) rs.length c, rs.set k ⟨wk1.name, wk1.owner, Ax, cx, wk1.copies⟩, by rw [HE.out]; rfl, ((hset.far hvb hrb 0 _).far hvb hrb 1 _), by rw [HE.out, List.map_set]; rfl, (((((HH.out.1.mono hBB).setCell hgl.1 _).setCell hgl.1 _).setCell hgl.1 _).setCell (by show B ≤ x.heap.size + 1; omega) _).setCell (by show B ≤ x.heap.size + 1; omega) _⟩
    have hh4 := (((HH.out.get (x.heap.size + 1) (rpA 0 noP) (by simp)).otherM (g := g) (j := k * 3) (v := .string wk1.name) (by omega)).otherM (g := g) (j := k * 3 + 1) (v := .int .i64 wk1.owner) (by omega)).otherM (g := g) (j := k * 3 + 2) (v := .slice Ax wk1.copies.length cx) (by omega)
    simpa using ((hh4.putM 0 (.int .i64 0)).putM 1 (.string noP))
end Go.Proofs.YtdcdalbbjfjadaaGreatDoor
namespace Go.Proofs.YtdcdalbbjfjadaaGreatDoor
open Go.RowKit
set_option maxRecDepth 20000

set_option maxHeartbeats 4000000 in
theorem l5Do_claim (B : Nat) (A : Option Addr) (c : Nat) (rs : List Wr) (x : World) (d : M.Dd) (h : SfOwn B x (.slice A rs.length c) rs) (hB : B ≤ x.heap.size) (hok : M.sfOk (rs.map Wr.wk) = true) (hk : d.kind = 1) :
    Calls Tryz.prog 32 #[.slice A rs.length c, ddV d] x (DoIn B x (M.sDo (rs.map Wr.wk) d)) := by
  have HE : Hid (M.sDo (rs.map Wr.wk) d = ((M.sClaim (rs.map Wr.wk) d).1, ((M.sClaim (rs.map Wr.wk) d).2, M.nilB))) := Lib.hid (by unfold M.sDo; rw [if_pos hk])
  have hk1 : (d.kind == 1) = true := by rw [hk]; rfl
  clear hk
  have hm := ((Mem.start x).new (ddC d) 28).new (rpA 0 noP) 32
  simp only [World.size_alloc] at hm
  have HCL := Lib.hid (l5Claim_any B A c rs _ d (h.below hm.1) (Nat.le_trans hB hm.1.size) hok)
  have HB := Lib.hid hB
  have HOLD := Lib.hid (fun z (hz : blocksS (.slice A rs.length c) rs z) => (h.ge hz).2)
  clear h hB hok
  go_enter Tryz.func32, Tryz.ntmps32
  go_wp2_with fail
  refine HCL.out.mono ?_
  rintro e x1 ⟨v, l', rfl, hs, hl, hb, hbk⟩
  replace hm := hm.below hb
  obtain ⟨r0, r1⟩ := (hm.get (x.heap.size + 1) (rpA 0 noP) (by simp)).two
  have z0 := hm.loose (x.heap.size + 1) (by simp) 0
  have z1 := hm.loose (x.heap.size + 1) (by simp) 1
  have hold := HOLD.out
  have hne : ∀ z, blocksS v l' z → z ≠ x.heap.size + 1 := fun z hz e => by
    rcases hbk z hz with h1 | h1
    · have := hold z h1; omega
    · simp only [World.size_alloc] at h1; omega
  have HH := Lib.hid (show _ ∧ _ ∧ _ ∧ _ from ⟨hm, hs, hl, hne⟩)
  clear hm hs hl hb hbk hne hold
  go_wp2
  obtain ⟨hm, hs, hl, hne⟩ := HH.out
  have hBB := HB.out
  refine bodyPost_ret (results_sl5Do v (M.sClaim (rs.map Wr.wk) d).2 noP (x.heap.size + 1) _ _ rfl rfl ?_) rfl ⟨v, l', by rw [HE.out]; rfl, (hs.far (fun e => hne _ (.inl e) rfl) (fun r hr e => hne _ (.inr ⟨r, hr, e⟩) rfl) 0 _).far (fun e => hne _ (.inl e) rfl) (fun r hr e => hne _ (.inr ⟨r, hr, e⟩) rfl) 1 _, by rw [HE.out]; exact hl, ((hm.1.mono hBB).setCell (by show B ≤ x.heap.size + 1; omega) _).setCell (by show B ≤ x.heap.size + 1; omega) _⟩
  simpa using (((hm.get (x.heap.size + 1) (rpA 0 noP) (by simp)).putM 0 (.int .i64 (M.sClaim (rs.map Wr.wk) d).2)).putM 1 (.string noP))

theorem deedOk_page {d : M.Dd} (h : M.deedOk d = true) : d.page.size ≤ 1048576 := by
  unfold M.deedOk at h
  simp only [Bool.and_eq_true] at h
  have h1 := h.1.1.1.2
  unfold M.pageOk at h1
  simp only [Bool.and_eq_true, decide_eq_true_eq] at h1
  have : d.page.data.toList.length = d.page.size := by simp
  omega
theorem l5Do_any (d : M.Dd) : L5Do d := by
  intro B A c rs x h hB hw hok hd hg
  have hl5 : rs.length ≤ 5 := by
    have h1 := hok
    unfold M.sfOk at h1
    simp only [Bool.and_eq_true, decide_eq_true_eq, List.length_map] at h1
    exact h1.1
  have hkind := deedOk_kind hd
  by_cases hk1 : d.kind = 1
  · exact l5Do_claim B A c rs x d h hB hok hk1
  · by_cases hf : M.sfFind (rs.map Wr.wk) d.name < (rs.map Wr.wk).length
    · obtain ⟨k, hk⟩ : ∃ k, M.sfFind (rs.map Wr.wk) d.name = k := ⟨_, rfl⟩
      rw [hk, List.length_map] at hf
      obtain ⟨g, c', hv, -, -⟩ := h.at (by omega)
      injection hv with hA _ hc
      subst hA hc
      by_cases hk5 : d.kind = 5
      · exact l5Do_fetch B g c rs x d h hB (by omega) hw hk5 k hf hk
      · by_cases ho : rs[k].owner = d.who
        · rcases hkind with e | e | e | e | e | e
          · exact absurd e hk1
          · exact l5Do_put B g c rs x d h hB (by omega) hw e (deedOk_page hd) k hf hk ho
          · exact l5Do_veil B g c rs x d h hB (by omega) hw (.inl e) k hf hk ho
          · exact l5Do_veil B g c rs x d h hB (by omega) hw (.inr e) k hf hk ho
          · exact absurd e hk5
          · exact l5Do_give B g c rs x d h hB (by omega) e k hf hk ho
        · exact l5Do_owner B g c rs x d h hB (by omega) hk1 hk5 k hf hk ho
    · have hf' : M.sfFind (rs.map Wr.wk) d.name = (rs.map Wr.wk).length := by
        have : M.sfFind (rs.map Wr.wk) d.name ≤ (rs.map Wr.wk).length := List.findIdx_le_length
        omega
      exact l5Do_none B A c rs x d h hB (by omega) hk1 hf'
end Go.Proofs.YtdcdalbbjfjadaaGreatDoor
