/- Proved, in parts: Proved: three stores into a row of works put another work at a place; the rest of the shelf is as it was. Condition: the new work's list lies in a block of its own. Proved: some ways of the model's l5Do (no such work; another's work). Condition: texts and lists of at most a million. Proved: the laws' helper that writes a number as a text, and those that write marks into a list of copies and look whether they are there; nothing but that list is written. Condition: at most a million copies. Proved: what the laws' marks leave as it was, for lists of one's own, nil among them; no condition. -/
import Derived.Test.YtdcdalbbjfjadaaGreatDoorPart07
import Derived.Test.YtdcdalbbjfjadaaGreatDoorPart18
import Derived.Test.YtdcdalbbjfjadaaGreatDoorPart29
import Derived.Test.YtdcdalbbjfjadaaGreatDoorPart13
import Derived.Test.YtdcdalbbjfjadaaGreatDoorPart02
import Derived.Test.YtdcdalbbjfjadaaGreatDoorPart03
namespace Go.Proofs.YtdcdalbbjfjadaaGreatDoor
open Go.RowKit

theorem cells_parts {l : List Wr} {k : Nat} (hk : k < l.length) : cellsOf wrL l = cellsOf wrL (l.take k) ++ (Value.string l[k].name :: .int .i64 l[k].owner :: l[k].sl :: cellsOf wrL (l.drop (k + 1))) := by
  have h : l = l.take k ++ (l[k] :: l.drop (k + 1)) := by
    rw [List.getElem_cons_drop, List.take_append_drop]
  have h2 : cellsOf wrL l = cellsOf wrL (l.take k ++ (l[k] :: l.drop (k + 1))) := by rw [← h]
  rw [h2, cellsOf_append]
  rfl
theorem cells_set {l : List Wr} {k : Nat} (hk : k < l.length) (r : Wr) : cellsOf wrL (l.set k r) = cellsOf wrL (l.take k) ++ (Value.string r.name :: .int .i64 r.owner :: r.sl :: cellsOf wrL (l.drop (k + 1))) := by
  rw [List.set_eq_take_append_cons_drop, if_pos hk, cellsOf_append]
  rfl
theorem apart_sym {a b : Value} (h : Apart a b) : Apart b a := by
  unfold Apart at h ⊢
  rcases hb : b.ownBlock with _ | k
  · exact .inl rfl
  · refine .inr fun e => ?_
    rcases h with h | h
    · rw [h] at e; cases e
    · exact h (by rw [hb, ← e])
/-- Where a shelf of one's own lies. -/
theorem SfOwn.at {B : Nat} {w : World} {v : Value} {l : List Wr} (h : SfOwn B w v l) (hne : 0 < l.length) : ∃ g c, v = .slice (some ⟨g, 0, none⟩) l.length c ∧ B ≤ g ∧ g < w.heap.size := by
  obtain ⟨g, cc, hv, hb, hg⟩ := World.ownsRow.form h.1 hne
  exact ⟨g, cc, hv, hb, hg⟩
theorem SfOwn.cellsK {B g c : Nat} {w : World} {l : List Wr} (h : SfOwn B w (.slice (some ⟨g, 0, none⟩) l.length c) l) {k : Nat} (hk : k < l.length) :
    (w.cell? ⟨g, k * 3, none⟩ = some (.string l[k].name) ∧ w.cell? ⟨g, k * 3 + 1, none⟩ = some (.int .i64 l[k].owner) ∧ w.cell? ⟨g, k * 3 + 2, none⟩ = some l[k].sl) ∧
    (w.frozen? ⟨g, k * 3, none⟩ = false ∧ w.frozen? ⟨g, k * 3 + 1, none⟩ = false ∧ w.frozen? ⟨g, k * 3 + 2, none⟩ = false) := by
  have h1 := h.1
  rw [cells_parts hk] at h1
  exact own_cells3 h1 (by rw [cellsOf_len wrL_len, List.length_take]; omega)
theorem SfOwn.setK {B g c : Nat} {w : World} {l : List Wr} (h : SfOwn B w (.slice (some ⟨g, 0, none⟩) l.length c) l) {k : Nat} (hk : k < l.length) (r : Wr) (ho : CpOwn B w r.sl r.cps) (hv : r.sl.ownBlock ≠ some g) (hap : ∀ i (hi : i < l.length), i ≠ k → Apart r.sl l[i].sl) :
    SfOwn B (((w.setCell ⟨g, k * 3, none⟩ (.string r.name)).setCell ⟨g, k * 3 + 1, none⟩ (.int .i64 r.owner)).setCell ⟨g, k * 3 + 2, none⟩ r.sl) (.slice (some ⟨g, 0, none⟩) l.length c) (l.set k r) := by
  have h1 := h.1
  rw [cells_parts hk] at h1
  have h2 := own_put3 (f0 := .string r.name) (f1 := .int .i64 r.owner) (f2 := r.sl) h1 (j := k * 3) (by rw [cellsOf_len wrL_len, List.length_take]; omega)
  rw [← cells_set hk] at h2
  have hb : (Value.slice (some ⟨g, 0, none⟩) l.length c).ownBlock = some g := rfl
  have hold : ∀ y ∈ l, y.sl.ownBlock ≠ some g := fun y hy e => by
    rcases h.2.2.1 y hy with h0 | h0
    · rw [h0] at e; cases e
    · exact h0 (e.trans hb.symm)
  have hne : ∀ y : Wr, y.sl.ownBlock ≠ some g → CpOwn B w y.sl y.cps → CpOwn B (((w.setCell ⟨g, k * 3, none⟩ (.string r.name)).setCell ⟨g, k * 3 + 1, none⟩ (.int .i64 r.owner)).setCell ⟨g, k * 3 + 2, none⟩ r.sl) y.sl y.cps := fun y hy ho => ((ho.apartN (a := ⟨g, k * 3, none⟩) hy _).apartN (a := ⟨g, k * 3 + 1, none⟩) hy _).apartN (a := ⟨g, k * 3 + 2, none⟩) hy _
  refine ⟨by rw [List.length_set]; exact h2, fun y hy => ?_, fun y hy => ?_, ?_⟩
  · rcases List.mem_or_eq_of_mem_set hy with hy | rfl
    · exact hne y (hold y hy) (h.2.1 y hy)
    · exact hne y hv ho
  · rcases List.mem_or_eq_of_mem_set hy with hy | rfl
    · exact h.2.2.1 y hy
    · exact .inr fun e => hv (e.trans hb)
  · rw [List.pairwise_iff_getElem]
    intro i j hi hj hij
    rw [List.length_set] at hi hj
    rw [List.getElem_set, List.getElem_set]
    by_cases e1 : k = i
    · rw [if_pos e1, if_neg (by omega)]
      exact hap j hj (by omega)
    · rw [if_neg e1]
      by_cases e2 : k = j
      · rw [if_pos e2]
        exact apart_sym (hap i hi (by omega))
      · rw [if_neg e2]
        exact (List.pairwise_iff_getElem.1 h.2.2.2) i j hi hj hij
theorem SfOwn.setOwner {B g c : Nat} {w : World} {l : List Wr} (h : SfOwn B w (.slice (some ⟨g, 0, none⟩) l.length c) l) {k : Nat} (hk : k < l.length) (o : Int) :
    SfOwn B (w.setCell ⟨g, k * 3 + 1, none⟩ (.int .i64 o)) (.slice (some ⟨g, 0, none⟩) l.length c) (l.set k { l[k] with owner := o }) := by
  have h1 := h.1
  rw [cells_parts hk] at h1
  have h2 := (h1.stored (k * 3 + 1) (.int .i64 o)).1
  have hlen : k * 3 = (cellsOf wrL (l.take k)).length := by rw [cellsOf_len wrL_len, List.length_take]; omega
  have hs : (cellsOf wrL (l.take k) ++ (Value.string l[k].name :: .int .i64 l[k].owner :: l[k].sl :: cellsOf wrL (l.drop (k + 1)))).set (k * 3 + 1) (.int .i64 o) = cellsOf wrL (l.set k { l[k] with owner := o }) := by
    rw [cells_set hk, hlen]
    simp
  rw [hs] at h2
  have hb : (Value.slice (some ⟨g, 0, none⟩) l.length c).ownBlock = some g := rfl
  have hold : ∀ y ∈ l, y.sl.ownBlock ≠ some g := fun y hy e => by
    rcases h.2.2.1 y hy with h0 | h0
    · rw [h0] at e; cases e
    · exact h0 (e.trans hb.symm)
  have hne : ∀ y ∈ l, CpOwn B (w.setCell ⟨g, k * 3 + 1, none⟩ (.int .i64 o)) y.sl y.cps := fun y hy => (h.2.1 y hy).apartN (a := ⟨g, k * 3 + 1, none⟩) (hold y hy) _
  have hkm : l[k] ∈ l := List.getElem_mem hk
  refine ⟨by rw [List.length_set]; exact h2, fun y hy => ?_, fun y hy => ?_, ?_⟩
  · rcases List.mem_or_eq_of_mem_set hy with hy | rfl
    · exact hne y hy
    · exact hne l[k] hkm
  · rcases List.mem_or_eq_of_mem_set hy with hy | rfl
    · exact h.2.2.1 y hy
    · exact h.2.2.1 l[k] hkm
  · rw [List.pairwise_iff_getElem]
    intro i j hi hj hij
    rw [List.length_set] at hi hj
    have hp := (List.pairwise_iff_getElem.1 h.2.2.2) i j hi hj hij
    rw [List.getElem_set, List.getElem_set]
    by_cases e1 : k = i
    · subst e1
      rw [if_pos rfl, if_neg (by omega)]
      exact hp
    · rw [if_neg e1]
      by_cases e2 : k = j
      · subst e2
        rw [if_pos rfl]
        exact hp
      · rw [if_neg e2]
        exact hp
theorem own_far {B g : Nat} {w : World} {t : TypeId} {kk n : Nat} {v : Value} {C : List Value} (h : w.ownsRow B t kk v n C) (hg : v.ownBlock ≠ some g) (i : Nat) (u : Value) : (w.setCell ⟨g, i, none⟩ u).ownsRow B t kk v n C := by
  obtain ⟨hl, h0 | ⟨k, cap, cur, rfl, hb, hh, hr⟩⟩ := h
  · exact ⟨hl, .inl h0⟩
  · exact ⟨hl, .inr ⟨k, cap, cur, rfl, hb, (Below.heap_setCell _ _ _ _ (fun e => hg (congrArg some (show k = g from e)))).trans hh, hr⟩⟩
theorem SfOwn.far {B g : Nat} {w : World} {v : Value} {l : List Wr} (h : SfOwn B w v l) (hv : v.ownBlock ≠ some g) (hr : ∀ r ∈ l, r.sl.ownBlock ≠ some g) (i : Nat) (u : Value) : SfOwn B (w.setCell ⟨g, i, none⟩ u) v l :=
  ⟨own_far h.1 hv i u, fun r hm => own_far (h.2.1 r hm) (hr r hm) i u, h.2.2⟩
end Go.Proofs.YtdcdalbbjfjadaaGreatDoor
namespace Go.Proofs.YtdcdalbbjfjadaaGreatDoor
open Go.RowKit
set_option maxRecDepth 20000

theorem results_sl5Do (v : Value) (c : Int) (p : ByteArray) (R : Nat) (W : World) (tmps : Array Value) (h4 : tmps.getD 4 undef = v) (h2 : tmps.getD 5 undef = .pointer (some ⟨R, 0, none⟩)) (hW : Holds W R (rpA c p)) :
    (results Tryz.f32 tmps).run Tryz.prog W = .ok (.tuple #[v, rpV c p]) W := by
  obtain ⟨q0, q1⟩ := hW.two
  simp at h2 h4
  simp [results, Tryz.results32, go_sem, h2, h4, q0, q1]
theorem DoIn.same {B : Nat} {x y : World} {v : Value} {rs : List Wr} {q : List M.Wk × M.Rp} (h : SfOwn B x v rs) (hB : B ≤ x.heap.size) (hb : Below x.heap.size x y) (hq : rs.map Wr.wk = q.1) : DoIn B x q (.returned (.tuple #[v, rpV q.2.1 q.2.2])) y :=
  ⟨v, rs, rfl, h.below hb, hq, hb.mono hB⟩

set_option maxHeartbeats 4000000 in
theorem l5Do_none (B : Nat) (A : Option Addr) (c : Nat) (rs : List Wr) (x : World) (d : M.Dd) (h : SfOwn B x (.slice A rs.length c) rs) (hB : B ≤ x.heap.size) (hp : rs.length ≤ 1048576) (hk : ¬ d.kind = 1) (hf : M.sfFind (rs.map Wr.wk) d.name = (rs.map Wr.wk).length) :
    Calls Tryz.prog 32 #[.slice A rs.length c, ddV d] x (DoIn B x (M.sDo (rs.map Wr.wk) d)) := by
  have HE : Hid (M.sDo (rs.map Wr.wk) d = (rs.map Wr.wk, ((1 : Int), M.nilB))) := Lib.hid (by unfold M.sDo; rw [if_neg hk, hf, List.getElem?_eq_none (Nat.le_refl _)])
  have hneg : M.sfFindInt (rs.map Wr.wk) d.name = -1 := M.sfFindInt_neg hf
  have HNEG := Lib.hid hneg
  clear hneg hf
  have hm := ((Mem.start x).new (ddC d) 28).new (rpA 0 noP) 32
  have b0 := hm.1
  simp only [World.size_alloc] at hm
  obtain ⟨hw, -⟩ := h.wks
  have HW := Lib.hid (hw.below b0)
  have HS := Lib.hid h
  have HB := Lib.hid hB
  have HP := Lib.hid hp
  clear h hw hB hp b0
  have HQ : Hid (DoIn B x (M.sDo (rs.map Wr.wk) d) (.returned (.tuple #[.slice A rs.length c, rpV 1 noP])) ((((x.alloc (.cells (ddC d) 28)).alloc (.cells (rpA 1 noP) 32)))) ∧ Holds (((x.alloc (.cells (ddC d) 28)).alloc (.cells (rpA 1 noP) 32))) (x.heap.size + 1) (rpA 1 noP)) := Lib.hid (by
    have hm' := ((Mem.start x).new (ddC d) 28).new (rpA 1 noP) 32
    have hb' := hm'.1
    simp only [World.size_alloc] at hm'
    rw [HE.out]
    exact ⟨DoIn.same HS.out HB.out hb' rfl, hm'.get (x.heap.size + 1) (rpA 1 noP) (by simp)⟩)
  go_enter Tryz.func32, Tryz.ntmps32
  go_wp2_with fail
  have hcall := l5Find_any A rs c d.name _ HW.out HP.out
  rw [HNEG.out] at hcall
  refine hcall.mono ?_
  rintro e x1 ⟨rfl, rfl⟩
  clear hcall hm
  go_wp2
  exact bodyPost_ret (results_sl5Do (.slice A rs.length c) 1 noP (x.heap.size + 1) _ _ rfl rfl HQ.out.2) rfl HQ.out.1

set_option maxHeartbeats 4000000 in
theorem l5Do_owner (B g : Nat) (c : Nat) (rs : List Wr) (x : World) (d : M.Dd) (h : SfOwn B x (.slice (some ⟨g, 0, none⟩) rs.length c) rs) (hB : B ≤ x.heap.size) (hp : rs.length ≤ 1048576) (hk : ¬ d.kind = 1) (hk5 : ¬ d.kind = 5) (k : Nat) (hkl : k < rs.length) (hf : M.sfFind (rs.map Wr.wk) d.name = k) (ho : ¬ rs[k].owner = d.who) :
    Calls Tryz.prog 32 #[.slice (some ⟨g, 0, none⟩) rs.length c, ddV d] x (DoIn B x (M.sDo (rs.map Wr.wk) d)) := by
  have HE : Hid (M.sDo (rs.map Wr.wk) d = (rs.map Wr.wk, ((3 : Int), M.nilB))) := Lib.hid (by
    unfold M.sDo
    rw [if_neg hk, hf, List.getElem?_eq_getElem (by simpa using hkl)]
    simp only [List.getElem_map]
    unfold M.sAt
    rw [if_neg hk5, if_neg (show ¬ rs[k].wk.owner = d.who from ho)])
  have hpos : M.sfFindInt (rs.map Wr.wk) d.name = (k : Int) := by rw [M.sfFindInt_pos (by rw [hf]; simpa using hkl), hf]
  have HPOS := Lib.hid hpos
  have ho' : (rs[k].owner != d.who) = true := by simp [ho]
  clear hpos hf ho
  have hm := ((Mem.start x).new (ddC d) 28).new (rpA 0 noP) 32
  have b0 := hm.1
  simp only [World.size_alloc] at hm
  obtain ⟨hw, -⟩ := h.wks
  have HW := Lib.hid (hw.below b0)
  have HS := Lib.hid h
  have HB := Lib.hid hB
  have HP := Lib.hid hp
  clear h hw hB hp b0
  have hmr := hm.re (hs' := [(x.heap.size + 1, rpA 0 noP), (x.heap.size, ddC d)]) (ls' := [x.heap.size + 1]) (by simp) (by simp)
  have HSW := Lib.hid (HS.out.below hmr.1)
  have HBW := Lib.hid hmr.1
  have HMR := Lib.hid hmr
  have HGET := Lib.hid (fun (y : World) (h : Mem x [(x.heap.size + 1, rpA 0 noP), (x.heap.size, ddC d)] [x.heap.size + 1] y ∧ SfOwn B y (.slice (some ⟨g, 0, none⟩) rs.length c) rs ∧ Below x.heap.size x y) => (And.intro (h.1.get x.heap.size (ddC d) (by simp)).seven (h.2.1.cellsK hkl).1))
  clear hm hmr
  go_enter Tryz.func32, Tryz.ntmps32
  go_wp2_with fail
  have hcall := l5Find_any (some ⟨g, 0, none⟩) rs c d.name _ HW.out HP.out
  rw [HPOS.out] at hcall
  refine hcall.mono ?_
  rintro e x1 ⟨rfl, rfl⟩
  clear hcall
  go_wp2_with fail
  refine wp_region_seq (fun y => Mem x [(x.heap.size + 1, rpA 0 noP), (x.heap.size, ddC d)] [x.heap.size + 1] y ∧ SfOwn B y (.slice (some ⟨g, 0, none⟩) rs.length c) rs ∧ Below x.heap.size x y) [(0, true), (1, true), (2, true), (3, true), (4, true), (5, true), (6, true), (7, true)] (by kernel_rfl) (by kernel_rfl) (fun _ _ _ _ _ h => h) (by kernel_rfl) (by decide) ⟨HMR.out.drew, HSW.out, HBW.out.drew⟩ ?_
  intro hHeld
  generalize World.drew _ = wd at hHeld ⊢
  repeat (first
    | (refine seq_skip (by simp only [List.getElem?_toArray, List.getElem?_cons_succ, List.getElem?_cons_zero]; first | done | rfl) (by rfl) ?_; (try simp only [Act.put, List.setIfInBounds_toArray, List.set_cons_zero, List.set_cons_succ]))
    | (refine seq_reads (by simp only [List.getElem?_toArray, List.getElem?_cons_succ, List.getElem?_cons_zero]; first | done | rfl) (by rfl) ?_; apply Exists.intro; apply And.intro; (focus (intro w hSw; (try (obtain ⟨⟨q0, q1, q2, q3, q4, q5, q6⟩, k0, k1, k2⟩ := HGET.out _ hSw)); go_simp; (try with_reducible rfl); done)); (try simp only [Act.put, List.setIfInBounds_toArray, List.set_cons_zero, List.set_cons_succ]))
    | (refine seq_pass (by simp only [List.getElem?_toArray, List.getElem?_cons_succ, List.getElem?_cons_zero]; first | done | rfl) (by rfl) hHeld ?_; clear hHeld; intro hHeld; (try simp only [Act.put, List.setIfInBounds_toArray, List.set_cons_zero, List.set_cons_succ])))
  refine seq_end ?_
  obtain ⟨r0, r1⟩ := (hHeld.1.get (x.heap.size + 1) (rpA 0 noP) (by simp)).two
  have z0 := hHeld.1.loose (x.heap.size + 1) (by simp) 0
  have z1 := hHeld.1.loose (x.heap.size + 1) (by simp) 1
  have HH := Lib.hid hHeld
  clear hHeld
  go_wp2
  refine bodyPost_ret (results_sl5Do (.slice (some ⟨g, 0, none⟩) rs.length c) 3 noP (x.heap.size + 1) _ _ rfl rfl ?_) rfl (by rw [HE.out]; exact DoIn.same HS.out HB.out ((HH.out.2.2.setCell (by show x.heap.size ≤ x.heap.size + 1; omega) _).setCell (by show x.heap.size ≤ x.heap.size + 1; omega) _) rfl)
  simpa using (((HH.out.1.get (x.heap.size + 1) (rpA 0 noP) (by simp)).putM 0 (.int .i64 3)).putM 1 (.string noP))

set_option maxHeartbeats 4000000 in
theorem l5Do_give (B g : Nat) (c : Nat) (rs : List Wr) (x : World) (d : M.Dd) (h : SfOwn B x (.slice (some ⟨g, 0, none⟩) rs.length c) rs) (hB : B ≤ x.heap.size) (hp : rs.length ≤ 1048576) (hk6 : d.kind = 6) (k : Nat) (hkl : k < rs.length) (hf : M.sfFind (rs.map Wr.wk) d.name = k) (ho : rs[k].owner = d.who) :
    Calls Tryz.prog 32 #[.slice (some ⟨g, 0, none⟩) rs.length c, ddV d] x (DoIn B x (M.sDo (rs.map Wr.wk) d)) := by
  have HE : Hid (M.sDo (rs.map Wr.wk) d = ((rs.set k { rs[k] with owner := d.ed.ma }).map Wr.wk, ((0 : Int), M.nilB))) := Lib.hid (by
    have hk : ¬ d.kind = 1 := by omega
    have hk5 : ¬ d.kind = 5 := by omega
    have hk2 : ¬ d.kind = 2 := by omega
    unfold M.sDo
    rw [if_neg hk, hf, List.getElem?_eq_getElem (by simpa using hkl)]
    simp only [List.getElem_map]
    unfold M.sAt
    rw [if_neg hk5, if_pos (show rs[k].wk.owner = d.who from ho), if_neg hk2, if_pos hk6, List.map_set]
    rfl)
  have hpos : M.sfFindInt (rs.map Wr.wk) d.name = (k : Int) := by rw [M.sfFindInt_pos (by rw [hf]; simpa using hkl), hf]
  have HPOS := Lib.hid hpos
  have ho' : (rs[k].owner != d.who) = false := by simp [ho]
  have HKK := Lib.hid hk6
  clear hpos hf ho hk6
  have hm := ((Mem.start x).new (ddC d) 28).new (rpA 0 noP) 32
  have b0 := hm.1
  simp only [World.size_alloc] at hm
  obtain ⟨hw, -⟩ := h.wks
  have HW := Lib.hid (hw.below b0)
  have HS := Lib.hid h
  have HB := Lib.hid hB
  have HP := Lib.hid hp
  clear h hw hB hp b0
  have hmr := hm.re (hs' := [(x.heap.size + 1, rpA 0 noP), (x.heap.size, ddC d)]) (ls' := [x.heap.size + 1]) (by simp) (by simp)
  have HSW := Lib.hid (HS.out.below hmr.1)
  have HBW := Lib.hid hmr.1
  have HMR := Lib.hid hmr
  have HGET := Lib.hid (fun (y : World) (h : Mem x [(x.heap.size + 1, rpA 0 noP), (x.heap.size, ddC d)] [x.heap.size + 1] y ∧ SfOwn B y (.slice (some ⟨g, 0, none⟩) rs.length c) rs ∧ Below x.heap.size x y) => (And.intro (h.1.get x.heap.size (ddC d) (by simp)).seven (h.2.1.cellsK hkl).1))
  clear hm hmr
  have hk1 : (d.kind == 1) = false := by have := HKK.out; simp [this]
  have hk5 : (d.kind == 5) = false := by have := HKK.out; simp [this]
  have hk2 : (d.kind == 2) = false := by have := HKK.out; simp [this]
  have hk6 : (d.kind == 6) = true := by have := HKK.out; simp [this]
  go_enter Tryz.func32, Tryz.ntmps32
  go_wp2_with fail
  have hcall := l5Find_any (some ⟨g, 0, none⟩) rs c d.name _ HW.out HP.out
  rw [HPOS.out] at hcall
  refine hcall.mono ?_
  rintro e x1 ⟨rfl, rfl⟩
  clear hcall
  go_wp2_with fail
  refine wp_region_seq (fun y => Mem x [(x.heap.size + 1, rpA 0 noP), (x.heap.size, ddC d)] [x.heap.size + 1] y ∧ SfOwn B y (.slice (some ⟨g, 0, none⟩) rs.length c) rs ∧ Below x.heap.size x y) [(0, true), (1, true), (2, true), (3, true), (4, true), (5, true), (6, true), (7, true)] (by kernel_rfl) (by kernel_rfl) (fun _ _ _ _ _ h => h) (by kernel_rfl) (by decide) ⟨HMR.out.drew, HSW.out, HBW.out.drew⟩ ?_
  intro hHeld
  generalize World.drew _ = wd at hHeld ⊢
  repeat (first
    | (refine seq_skip (by simp only [List.getElem?_toArray, List.getElem?_cons_succ, List.getElem?_cons_zero]; first | done | rfl) (by rfl) ?_; (try simp only [Act.put, List.setIfInBounds_toArray, List.set_cons_zero, List.set_cons_succ]))
    | (refine seq_reads (by simp only [List.getElem?_toArray, List.getElem?_cons_succ, List.getElem?_cons_zero]; first | done | rfl) (by rfl) ?_; apply Exists.intro; apply And.intro; (focus (intro w hSw; (try (obtain ⟨⟨q0, q1, q2, q3, q4, q5, q6⟩, k0, k1, k2⟩ := HGET.out _ hSw)); go_simp; (try with_reducible rfl); done)); (try simp only [Act.put, List.setIfInBounds_toArray, List.set_cons_zero, List.set_cons_succ]))
    | (refine seq_pass (by simp only [List.getElem?_toArray, List.getElem?_cons_succ, List.getElem?_cons_zero]; first | done | rfl) (by rfl) hHeld ?_; clear hHeld; intro hHeld; (try simp only [Act.put, List.setIfInBounds_toArray, List.set_cons_zero, List.set_cons_succ])))
  refine seq_end ?_
  have hgl := (World.ownsRow.lt hHeld.2.1.1 g rfl)
  have hgx := (World.ownsRow.lt HS.out.1 g rfl).2
  obtain ⟨⟨q0, q1, q2, q3, q4, q5, q6⟩, k0, k1, k2⟩ := HGET.out _ hHeld
  have y1 := (hHeld.2.1.cellsK hkl).2.2.1
  obtain ⟨r0, r1⟩ := (hHeld.1.get (x.heap.size + 1) (rpA 0 noP) (by simp)).two
  have z0 := hHeld.1.loose (x.heap.size + 1) (by simp) 0
  have z1 := hHeld.1.loose (x.heap.size + 1) (by simp) 1
  have HH := Lib.hid hHeld
  clear hHeld
  go_wp2
  have hvb : (Value.slice (some ⟨g, 0, none⟩) rs.length c).ownBlock ≠ some (x.heap.size + 1) := fun e => by have e2 : g = x.heap.size + 1 := Option.some.inj e; omega
  have hrb : ∀ r ∈ rs.set k { rs[k] with owner := d.ed.ma }, r.sl.ownBlock ≠ some (x.heap.size + 1) := fun r hr e => by
    rcases List.mem_or_eq_of_mem_set hr with hr | rfl
    · have := ((HS.out.2.1 r hr).lt _ e).2
      omega
    · have := ((HS.out.2.1 rs[k] (List.getElem_mem hkl)).lt _ e).2
      omega
  have hBB := HB.out
  refine bodyPost_ret (results_sl5Do (.slice (some ⟨g, 0, none⟩) rs.length c) 0 noP (x.heap.size + 1) _ _ rfl rfl ?_) rfl ⟨.slice (some ⟨g, 0, none⟩) rs.length c, rs.set k { rs[k] with owner := d.ed.ma }, by rw [HE.out]; rfl, (((HH.out.2.1.setOwner hkl d.ed.ma).far hvb hrb 0 _).far hvb hrb 1 _), by rw [HE.out], (((HH.out.2.2.mono hBB).setCell hgl.1 _).setCell (by show B ≤ x.heap.size + 1; omega) _).setCell (by show B ≤ x.heap.size + 1; omega) _⟩
  have hh4 := (HH.out.1.get (x.heap.size + 1) (rpA 0 noP) (by simp)).otherM (g := g) (j := k * 3 + 1) (v := .int .i64 d.ed.ma) (by omega)
  simpa using ((hh4.putM 0 (.int .i64 0)).putM 1 (.string noP))
end Go.Proofs.YtdcdalbbjfjadaaGreatDoor
namespace Go.Proofs.YtdcdalbbjfjadaaGreatDoor
open Go.RowKit
set_option maxRecDepth 20000

def markB (n : Nat) : ByteArray := ⟨(109 :: M.digs n).toArray⟩
/-- Block g alone, of all that was there, may have changed. -/
structure Touch (g : Nat) (w w' : World) : Prop where
  size : w.heap.size ≤ w'.heap.size
  low : ∀ B, B ≤ g → Below B w w'
  block : ∀ k, k < w.heap.size → k ≠ g → w'.heap[k]? = w.heap[k]?
theorem Touch.refl (g : Nat) (w : World) : Touch g w w := ⟨Nat.le_refl _, fun _ _ => Below.refl _ _, fun _ _ _ => rfl⟩
theorem Touch.below {g : Nat} {w w1 w2 : World} (h : Touch g w w1) (hg : g < w1.heap.size) (hb : Below w1.heap.size w1 w2) : Touch g w w2 :=
  ⟨Nat.le_trans h.size hb.size, fun B hB => (h.low B hB).trans (hb.mono (by omega)), fun k hk hne => (hb.block k (Nat.lt_of_lt_of_le hk h.size)).trans (h.block k hk hne)⟩
theorem Touch.set {g : Nat} {w w1 : World} (h : Touch g w w1) (j : Nat) (v : Value) : Touch g w (w1.setCell ⟨g, j, none⟩ v) :=
  ⟨by simpa using h.size, fun B hB => (h.low B hB).setCell hB v, fun k hk hne => (Below.heap_setCell _ _ _ _ hne).trans (h.block k hk hne)⟩
theorem Touch.holds {g k : Nat} {w w1 : World} {C : Array Value} (h : Touch g w w1) (hC : Holds w k C) (hk : k ≠ g) : Holds w1 k C :=
  ⟨Nat.lt_of_lt_of_le hC.1 h.size, fun j v hj => (World.cell?_of_block (a := ⟨k, j, none⟩) (h.block k hC.1 hk)).trans (hC.2 j v hj)⟩
theorem Touch.own {g B : Nat} {w w1 : World} {v : Value} {l : List M.Cp} (h : Touch g w w1) (ho : CpOwn B w v l) (hne : v.ownBlock ≠ some g) : CpOwn B w1 v l := by
  obtain ⟨hl, h0 | ⟨k, cap, cur, rfl, hb, hh, hr⟩⟩ := ho
  · exact ⟨hl, .inl h0⟩
  · have hk : k ≠ g := fun e => hne (by rw [e]; rfl)
    have hlt : k < w.heap.size := (Array.getElem?_eq_some_iff.1 hh).1
    exact ⟨hl, .inr ⟨k, cap, cur, rfl, hb, (h.block k hlt hk).trans hh, hr⟩⟩

theorem Touch.before {g : Nat} {w w1 w2 : World} (h : Touch g w1 w2) (hb : Below w.heap.size w w1) (hg : g < w.heap.size) : Touch g w w2 :=
  ⟨Nat.le_trans hb.size h.size, fun B hB => (hb.mono (by omega)).trans (h.low B hB), fun k hk hne => (h.block k (Nat.lt_of_lt_of_le hk hb.size) hne).trans (hb.block k hk)⟩

def markCp (k : Nat) : M.Cp := ⟨⟨k, (k : Int) + 1, (k : Int) + 1 + 1⟩, markB (k + 3), ((k : Int) + 1 + 1 + 1 + 1) % 3 == 0⟩
def marks (k : Nat) (j : Nat) : List M.Cp := (List.range j).map fun i => markCp (k + 5 * i)
end Go.Proofs.YtdcdalbbjfjadaaGreatDoor
namespace Go.Proofs.YtdcdalbbjfjadaaGreatDoor
open Go.RowKit
set_option maxRecDepth 20000

theorem CpOwn.apart {B : Nat} {w : World} {v : Value} {l : List M.Cp} (h : CpOwn B w v l) {a : Addr} (ha : v.ownBlock ≠ some a.block) (u : Value) : CpOwn B (w.setCell a u) v l := by
  obtain ⟨hl, h0 | ⟨k, cap, cur, rfl, hb, hh, hr⟩⟩ := h
  · exact ⟨hl, .inl h0⟩
  · exact ⟨hl, .inr ⟨k, cap, cur, rfl, hb, (Below.heap_setCell _ _ _ _ (fun e => ha (by rw [← e]; rfl))).trans hh, hr⟩⟩
theorem CpOwn.ne_low {B g : Nat} {w : World} {v : Value} {l : List M.Cp} (h : CpOwn B w v l) (hg : g < B) : v.ownBlock ≠ some g := fun e => by
  have := (h.lt g e).1; omega
theorem CpOwn.ne_new {B : Nat} {w : World} {v : Value} {l : List M.Cp} (h : CpOwn B w v l) : v.ownBlock ≠ some w.heap.size := fun e => by
  have := (h.lt _ e).2; omega

/-- The block row alone, of all that was there, may have changed. -/
structure TouchO (row : Option Nat) (w w' : World) : Prop where
  size : w.heap.size ≤ w'.heap.size
  low : ∀ B, B ≤ w.heap.size → (∀ g, row = some g → B ≤ g) → Below B w w'
  block : ∀ k, k < w.heap.size → some k ≠ row → w'.heap[k]? = w.heap[k]?
theorem TouchO.holds {row : Option Nat} {k : Nat} {w w1 : World} {C : Array Value} (h : TouchO row w w1) (hC : Holds w k C) (hk : some k ≠ row) : Holds w1 k C :=
  ⟨Nat.lt_of_lt_of_le hC.1 h.size, fun j v hj => (World.cell?_of_block (a := ⟨k, j, none⟩) (h.block k hC.1 hk)).trans (hC.2 j v hj)⟩
theorem TouchO.own {row : Option Nat} {B : Nat} {w w1 : World} {v : Value} {l : List M.Cp} (h : TouchO row w w1) (ho : CpOwn B w v l) (hne : v.ownBlock = none ∨ v.ownBlock ≠ row) : CpOwn B w1 v l := by
  obtain ⟨hl, h0 | ⟨k, cap, cur, rfl, hb, hh, hr⟩⟩ := ho
  · exact ⟨hl, .inl h0⟩
  · have hk : some k ≠ row := by
      rcases hne with hne | hne
      · simp [Value.ownBlock] at hne
      · exact hne
    have hlt : k < w.heap.size := (Array.getElem?_eq_some_iff.1 hh).1
    exact ⟨hl, .inr ⟨k, cap, cur, rfl, hb, (h.block k hlt hk).trans hh, hr⟩⟩

/-- s is a pointer to a new box that holds the work p tells, its copies in new memory of their own; sb is the flag. -/
def WkBox (W0 : World) (p : M.Wk × Bool) (s sb : Value) (wx : World) : Prop :=
  ∃ G A c, sb = .bool p.2 ∧ s = .pointer (some ⟨G, 0, none⟩) ∧ W0.heap.size ≤ G ∧ Below W0.heap.size W0 wx ∧ Holds wx G (wkL p.1.name p.1.owner A p.1.copies.length c) ∧ CpOwn W0.heap.size wx (.slice A p.1.copies.length c) p.1.copies ∧ (Value.slice A p.1.copies.length c).ownBlock ≠ some G
end Go.Proofs.YtdcdalbbjfjadaaGreatDoor
