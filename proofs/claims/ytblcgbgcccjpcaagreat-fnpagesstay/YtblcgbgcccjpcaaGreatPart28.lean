/- Proved, in parts: Proved: some ways of the model's l5Do (no such work; another's work). Condition: texts and lists of at most a million. -/
import Derived.Test.YtblcgbgcccjpcaaGreatPart27
import Derived.Test.YtblcgbgcccjpcaaGreatPart23
namespace Go.Proofs.YtblcgbgcccjpcaaGreat
open Go.RowKit
set_option maxRecDepth 20000

theorem results_sl5Do (v : Value) (c : Int) (p : ByteArray) (R : Nat) (W : World) (tmps : Array Value) (h4 : tmps.getD 4 undef = v) (h2 : tmps.getD 5 undef = .pointer (some ⟨R, 0, none⟩)) (hW : Holds W R (rpA c p)) :
    (results Tryz.f168 tmps).run Tryz.prog W = .ok (.tuple #[v, rpV c p]) W := by
  obtain ⟨q0, q1⟩ := hW.two
  simp at h2 h4
  simp [results, Tryz.results168, go_sem, h2, h4, q0, q1]
theorem DoIn.same {B : Nat} {x y : World} {v : Value} {rs : List Wr} {q : List M.Wk × M.Rp} (h : SfOwn B x v rs) (hB : B ≤ x.heap.size) (hb : Below x.heap.size x y) (hq : rs.map Wr.wk = q.1) : DoIn B x q (.returned (.tuple #[v, rpV q.2.1 q.2.2])) y :=
  ⟨v, rs, rfl, h.below hb, hq, hb.mono hB⟩

set_option maxHeartbeats 4000000 in
theorem l5Do_none (B : Nat) (A : Option Addr) (c : Nat) (rs : List Wr) (x : World) (d : M.Dd) (h : SfOwn B x (.slice A rs.length c) rs) (hB : B ≤ x.heap.size) (hp : rs.length ≤ 1048576) (hk : ¬ d.kind = 1) (hf : M.sfFind (rs.map Wr.wk) d.name = (rs.map Wr.wk).length) :
    Calls Tryz.prog 168 #[.slice A rs.length c, ddV d] x (DoIn B x (M.sDo (rs.map Wr.wk) d)) := by
  have HE : Hid (M.sDo (rs.map Wr.wk) d = (rs.map Wr.wk, ((1 : Int), M.nilB))) := Lib.hid (by unfold M.sDo; rw [if_neg hk, hf, List.getElem?_eq_none (Nat.le_refl _)])
  have hneg : M.sfFindInt (rs.map Wr.wk) d.name = -1 := M.sfFindInt_neg hf
  have HNEG := Lib.hid hneg
  clear hneg hf
  have hm := ((Mem.start x).new (ddC d) 39).new (rpA 0 noP) 33
  have b0 := hm.1
  simp only [World.size_alloc] at hm
  obtain ⟨hw, -⟩ := h.wks
  have HW := Lib.hid (hw.below b0)
  have HS := Lib.hid h
  have HB := Lib.hid hB
  have HP := Lib.hid hp
  clear h hw hB hp b0
  have HQ : Hid (DoIn B x (M.sDo (rs.map Wr.wk) d) (.returned (.tuple #[.slice A rs.length c, rpV 1 noP])) ((((x.alloc (.cells (ddC d) 39)).alloc (.cells (rpA 1 noP) 33)))) ∧ Holds (((x.alloc (.cells (ddC d) 39)).alloc (.cells (rpA 1 noP) 33))) (x.heap.size + 1) (rpA 1 noP)) := Lib.hid (by
    have hm' := ((Mem.start x).new (ddC d) 39).new (rpA 1 noP) 33
    have hb' := hm'.1
    simp only [World.size_alloc] at hm'
    rw [HE.out]
    exact ⟨DoIn.same HS.out HB.out hb' rfl, hm'.get (x.heap.size + 1) (rpA 1 noP) (by simp)⟩)
  go_enter Tryz.func168, Tryz.ntmps168
  go_wp2_with fail
  have hcall := l5Find_any A rs c d.name _ HW.out HP.out
  rw [HNEG.out] at hcall
  refine hcall.mono ?_
  rintro e x1 ⟨rfl, rfl⟩
  clear hcall hm
  go_wp2
  exact bodyPost_ret (results_sl5Do (.slice A rs.length c) 1 noP (x.heap.size + 1) _ _ rfl rfl HQ.out.2) rfl HQ.out.1

set_option maxHeartbeats 4000000 in
theorem l5Do_owner (B g : Nat) (c : Nat) (rs : List Wr) (x : World) (d : M.Dd) (h : SfOwn B x (.slice (some ⟨g, 0, none⟩) rs.length c) rs) (hB : B ≤ x.heap.size) (hp : rs.length ≤ 1048576) (hk : ¬ d.kind = 1) (hk5 : ¬ d.kind = 5) (k : Nat) (hkl : k < rs.length) (hf : M.sfFind (rs.map Wr.wk) d.name = k) (ho : ¬ rs[k].owner = d.who) :
    Calls Tryz.prog 168 #[.slice (some ⟨g, 0, none⟩) rs.length c, ddV d] x (DoIn B x (M.sDo (rs.map Wr.wk) d)) := by
  have HE : Hid (M.sDo (rs.map Wr.wk) d = (rs.map Wr.wk, ((3 : Int), M.nilB))) := Lib.hid (by
    unfold M.sDo
    rw [if_neg hk, hf, List.getElem?_eq_getElem (by simpa using hkl)]
    simp only [List.getElem_map]
    unfold M.sAt
    rw [if_neg hk5, if_neg (show ¬ rs[k].wk.owner = d.who from ho)])
  have hpos : M.sfFindInt (rs.map Wr.wk) d.name = (k : Int) := by rw [M.sfFindInt_pos (by rw [hf]; simpa using hkl), hf]
  have HPOS := Lib.hid hpos
  have ho' : (rs[k].owner != d.who) = true := by simp [ho]
  clear hpos hf ho
  have hm := ((Mem.start x).new (ddC d) 39).new (rpA 0 noP) 33
  have b0 := hm.1
  simp only [World.size_alloc] at hm
  obtain ⟨hw, -⟩ := h.wks
  have HW := Lib.hid (hw.below b0)
  have HS := Lib.hid h
  have HB := Lib.hid hB
  have HP := Lib.hid hp
  clear h hw hB hp b0
  have hmr := hm.re (hs' := [(x.heap.size + 1, rpA 0 noP), (x.heap.size, ddC d)]) (ls' := [x.heap.size + 1]) (by simp) (by simp)
  have HSW := Lib.hid (HS.out.below hmr.1)
  have HBW := Lib.hid hmr.1
  have HMR := Lib.hid hmr
  have HGET := Lib.hid (fun (y : World) (h : Mem x [(x.heap.size + 1, rpA 0 noP), (x.heap.size, ddC d)] [x.heap.size + 1] y ∧ SfOwn B y (.slice (some ⟨g, 0, none⟩) rs.length c) rs ∧ Below x.heap.size x y) => (And.intro (h.1.get x.heap.size (ddC d) (by simp)).seven (h.2.1.cellsK hkl).1))
  clear hm hmr
  go_enter Tryz.func168, Tryz.ntmps168
  go_wp2_with fail
  have hcall := l5Find_any (some ⟨g, 0, none⟩) rs c d.name _ HW.out HP.out
  rw [HPOS.out] at hcall
  refine hcall.mono ?_
  rintro e x1 ⟨rfl, rfl⟩
  clear hcall
  go_wp2_with fail
  refine wp_region_seq (fun y => Mem x [(x.heap.size + 1, rpA 0 noP), (x.heap.size, ddC d)] [x.heap.size + 1] y ∧ SfOwn B y (.slice (some ⟨g, 0, none⟩) rs.length c) rs ∧ Below x.heap.size x y) [(0, true), (1, true), (2, true), (3, true), (4, true), (5, true), (6, true), (7, true)] (by kernel_rfl) (by kernel_rfl) (fun _ _ _ _ _ h => h) (by kernel_rfl) (by decide) ⟨HMR.out.drew, HSW.out, HBW.out.drew⟩ ?_
  intro hHeld
  generalize World.drew _ = wd at hHeld ⊢
  repeat (first
    | (refine seq_skip (by simp only [List.getElem?_toArray, List.getElem?_cons_succ, List.getElem?_cons_zero]; first | done | rfl) (by rfl) ?_; (try simp only [Act.put, List.setIfInBounds_toArray, List.set_cons_zero, List.set_cons_succ]))
    | (refine seq_reads (by simp only [List.getElem?_toArray, List.getElem?_cons_succ, List.getElem?_cons_zero]; first | done | rfl) (by rfl) ?_; apply Exists.intro; apply And.intro; (focus (intro w hSw; (try (obtain ⟨⟨q0, q1, q2, q3, q4, q5, q6⟩, k0, k1, k2⟩ := HGET.out _ hSw)); go_simp; (try with_reducible rfl); done)); (try simp only [Act.put, List.setIfInBounds_toArray, List.set_cons_zero, List.set_cons_succ]))
    | (refine seq_pass (by simp only [List.getElem?_toArray, List.getElem?_cons_succ, List.getElem?_cons_zero]; first | done | rfl) (by rfl) hHeld ?_; clear hHeld; intro hHeld; (try simp only [Act.put, List.setIfInBounds_toArray, List.set_cons_zero, List.set_cons_succ])))
  refine seq_end ?_
  obtain ⟨r0, r1⟩ := (hHeld.1.get (x.heap.size + 1) (rpA 0 noP) (by simp)).two
  have z0 := hHeld.1.loose (x.heap.size + 1) (by simp) 0
  have z1 := hHeld.1.loose (x.heap.size + 1) (by simp) 1
  have HH := Lib.hid hHeld
  clear hHeld
  go_wp2
  refine bodyPost_ret (results_sl5Do (.slice (some ⟨g, 0, none⟩) rs.length c) 3 noP (x.heap.size + 1) _ _ rfl rfl ?_) rfl (by rw [HE.out]; exact DoIn.same HS.out HB.out ((HH.out.2.2.setCell (by show x.heap.size ≤ x.heap.size + 1; omega) _).setCell (by show x.heap.size ≤ x.heap.size + 1; omega) _) rfl)
  simpa using (((HH.out.1.get (x.heap.size + 1) (rpA 0 noP) (by simp)).putM 0 (.int .i64 3)).putM 1 (.string noP))

set_option maxHeartbeats 4000000 in
theorem l5Do_give (B g : Nat) (c : Nat) (rs : List Wr) (x : World) (d : M.Dd) (h : SfOwn B x (.slice (some ⟨g, 0, none⟩) rs.length c) rs) (hB : B ≤ x.heap.size) (hp : rs.length ≤ 1048576) (hk6 : d.kind = 6) (k : Nat) (hkl : k < rs.length) (hf : M.sfFind (rs.map Wr.wk) d.name = k) (ho : rs[k].owner = d.who) :
    Calls Tryz.prog 168 #[.slice (some ⟨g, 0, none⟩) rs.length c, ddV d] x (DoIn B x (M.sDo (rs.map Wr.wk) d)) := by
  have HE : Hid (M.sDo (rs.map Wr.wk) d = ((rs.set k { rs[k] with owner := d.ed.ma }).map Wr.wk, ((0 : Int), M.nilB))) := Lib.hid (by
    have hk : ¬ d.kind = 1 := by omega
    have hk5 : ¬ d.kind = 5 := by omega
    have hk2 : ¬ d.kind = 2 := by omega
    unfold M.sDo
    rw [if_neg hk, hf, List.getElem?_eq_getElem (by simpa using hkl)]
    simp only [List.getElem_map]
    unfold M.sAt
    rw [if_neg hk5, if_pos (show rs[k].wk.owner = d.who from ho), if_neg hk2, if_pos hk6, List.map_set]
    rfl)
  have hpos : M.sfFindInt (rs.map Wr.wk) d.name = (k : Int) := by rw [M.sfFindInt_pos (by rw [hf]; simpa using hkl), hf]
  have HPOS := Lib.hid hpos
  have ho' : (rs[k].owner != d.who) = false := by simp [ho]
  have HKK := Lib.hid hk6
  clear hpos hf ho hk6
  have hm := ((Mem.start x).new (ddC d) 39).new (rpA 0 noP) 33
  have b0 := hm.1
  simp only [World.size_alloc] at hm
  obtain ⟨hw, -⟩ := h.wks
  have HW := Lib.hid (hw.below b0)
  have HS := Lib.hid h
  have HB := Lib.hid hB
  have HP := Lib.hid hp
  clear h hw hB hp b0
  have hmr := hm.re (hs' := [(x.heap.size + 1, rpA 0 noP), (x.heap.size, ddC d)]) (ls' := [x.heap.size + 1]) (by simp) (by simp)
  have HSW := Lib.hid (HS.out.below hmr.1)
  have HBW := Lib.hid hmr.1
  have HMR := Lib.hid hmr
  have HGET := Lib.hid (fun (y : World) (h : Mem x [(x.heap.size + 1, rpA 0 noP), (x.heap.size, ddC d)] [x.heap.size + 1] y ∧ SfOwn B y (.slice (some ⟨g, 0, none⟩) rs.length c) rs ∧ Below x.heap.size x y) => (And.intro (h.1.get x.heap.size (ddC d) (by simp)).seven (h.2.1.cellsK hkl).1))
  clear hm hmr
  have hk1 : (d.kind == 1) = false := by have := HKK.out; simp [this]
  have hk5 : (d.kind == 5) = false := by have := HKK.out; simp [this]
  have hk2 : (d.kind == 2) = false := by have := HKK.out; simp [this]
  have hk6 : (d.kind == 6) = true := by have := HKK.out; simp [this]
  go_enter Tryz.func168, Tryz.ntmps168
  go_wp2_with fail
  have hcall := l5Find_any (some ⟨g, 0, none⟩) rs c d.name _ HW.out HP.out
  rw [HPOS.out] at hcall
  refine hcall.mono ?_
  rintro e x1 ⟨rfl, rfl⟩
  clear hcall
  go_wp2_with fail
  refine wp_region_seq (fun y => Mem x [(x.heap.size + 1, rpA 0 noP), (x.heap.size, ddC d)] [x.heap.size + 1] y ∧ SfOwn B y (.slice (some ⟨g, 0, none⟩) rs.length c) rs ∧ Below x.heap.size x y) [(0, true), (1, true), (2, true), (3, true), (4, true), (5, true), (6, true), (7, true)] (by kernel_rfl) (by kernel_rfl) (fun _ _ _ _ _ h => h) (by kernel_rfl) (by decide) ⟨HMR.out.drew, HSW.out, HBW.out.drew⟩ ?_
  intro hHeld
  generalize World.drew _ = wd at hHeld ⊢
  repeat (first
    | (refine seq_skip (by simp only [List.getElem?_toArray, List.getElem?_cons_succ, List.getElem?_cons_zero]; first | done | rfl) (by rfl) ?_; (try simp only [Act.put, List.setIfInBounds_toArray, List.set_cons_zero, List.set_cons_succ]))
    | (refine seq_reads (by simp only [List.getElem?_toArray, List.getElem?_cons_succ, List.getElem?_cons_zero]; first | done | rfl) (by rfl) ?_; apply Exists.intro; apply And.intro; (focus (intro w hSw; (try (obtain ⟨⟨q0, q1, q2, q3, q4, q5, q6⟩, k0, k1, k2⟩ := HGET.out _ hSw)); go_simp; (try with_reducible rfl); done)); (try simp only [Act.put, List.setIfInBounds_toArray, List.set_cons_zero, List.set_cons_succ]))
    | (refine seq_pass (by simp only [List.getElem?_toArray, List.getElem?_cons_succ, List.getElem?_cons_zero]; first | done | rfl) (by rfl) hHeld ?_; clear hHeld; intro hHeld; (try simp only [Act.put, List.setIfInBounds_toArray, List.set_cons_zero, List.set_cons_succ])))
  refine seq_end ?_
  have hgl := (World.ownsRow.lt hHeld.2.1.1 g rfl)
  have hgx := (World.ownsRow.lt HS.out.1 g rfl).2
  obtain ⟨⟨q0, q1, q2, q3, q4, q5, q6⟩, k0, k1, k2⟩ := HGET.out _ hHeld
  have y1 := (hHeld.2.1.cellsK hkl).2.2.1
  obtain ⟨r0, r1⟩ := (hHeld.1.get (x.heap.size + 1) (rpA 0 noP) (by simp)).two
  have z0 := hHeld.1.loose (x.heap.size + 1) (by simp) 0
  have z1 := hHeld.1.loose (x.heap.size + 1) (by simp) 1
  have HH := Lib.hid hHeld
  clear hHeld
  go_wp2
  have hvb : (Value.slice (some ⟨g, 0, none⟩) rs.length c).ownBlock ≠ some (x.heap.size + 1) := fun e => by have e2 : g = x.heap.size + 1 := Option.some.inj e; omega
  have hrb : ∀ r ∈ rs.set k { rs[k] with owner := d.ed.ma }, r.sl.ownBlock ≠ some (x.heap.size + 1) := fun r hr e => by
    rcases List.mem_or_eq_of_mem_set hr with hr | rfl
    · have := ((HS.out.2.1 r hr).lt _ e).2
      omega
    · have := ((HS.out.2.1 rs[k] (List.getElem_mem hkl)).lt _ e).2
      omega
  have hBB := HB.out
  refine bodyPost_ret (results_sl5Do (.slice (some ⟨g, 0, none⟩) rs.length c) 0 noP (x.heap.size + 1) _ _ rfl rfl ?_) rfl ⟨.slice (some ⟨g, 0, none⟩) rs.length c, rs.set k { rs[k] with owner := d.ed.ma }, by rw [HE.out]; rfl, (((HH.out.2.1.setOwner hkl d.ed.ma).far hvb hrb 0 _).far hvb hrb 1 _), by rw [HE.out], (((HH.out.2.2.mono hBB).setCell hgl.1 _).setCell (by show B ≤ x.heap.size + 1; omega) _).setCell (by show B ≤ x.heap.size + 1; omega) _⟩
  have hh4 := (HH.out.1.get (x.heap.size + 1) (rpA 0 noP) (by simp)).otherM (g := g) (j := k * 3 + 1) (v := .int .i64 d.ed.ma) (by omega)
  simpa using ((hh4.putM 0 (.int .i64 0)).putM 1 (.string noP))
end Go.Proofs.YtblcgbgcccjpcaaGreat
