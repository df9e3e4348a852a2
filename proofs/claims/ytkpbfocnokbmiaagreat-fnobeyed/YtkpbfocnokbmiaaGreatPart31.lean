/- Proved, in parts: Proved: what the model's l6Order does where the client has a last: the same order, an older one, a newer one. Condition: a right book of its own. -/
import Derived.Test.YtkpbfocnokbmiaaGreatPart30
namespace Go.Proofs.YtkpbfocnokbmiaaGreat
open Go.RowKit
set_option maxRecDepth 20000
/-- e answers the book and the reply of q, in memory from block B on. -/
def OrIn (B : Nat) (x : World) (q : M.Bk × M.Rp) (e : Ending) (x' : World) : Prop :=
  ∃ v1 v2 rs', e = .returned (.tuple #[.agg #[v1, v2], rpV q.2.1 q.2.2]) ∧ SfOwn B x' v1 rs' ∧ rs'.map Wr.wk = q.1.1 ∧ LasOwn B x' v2 q.1.2 ∧ (∀ g, v2.ownBlock = some g → ¬ blocksS v1 rs' g) ∧ Below B x x'
theorem Mem.off {w0 : World} {g j : Nat} {v : Value} {hs : List (Nat × Array Value)} {ls : List Nat} {x : World} (h : Mem w0 hs ls x) (hg : w0.heap.size ≤ g) (hn : ∀ p ∈ hs, p.1 ≠ g) : Mem w0 hs ls (x.setCell ⟨g, j, none⟩ v) :=
  ⟨farM h.1 hg j v, fun p hp => (h.2.1 p hp).otherM (hn p hp), fun k hk => ⟨by simpa using (h.2.2 k hk).1, fun i => by rw [World.frozen?_setCell]; exact (h.2.2 k hk).2 i⟩⟩
theorem results_sOrd (a b : Value) (c : Int) (p : ByteArray) (R T : Nat) (W : World) (tmps : Array Value) (h4 : tmps.getD 4 undef = .pointer (some ⟨R, 0, none⟩)) (h5 : tmps.getD 5 undef = .pointer (some ⟨T, 0, none⟩)) (hR : Holds W R #[a, b]) (hT : Holds W T (rpA c p)) :
    (results Tryz.f56 tmps).run Tryz.prog W = .ok (.tuple #[.agg #[a, b], rpV c p]) W := by
  obtain ⟨q0, q1⟩ := hR.two
  obtain ⟨r0, r1⟩ := hT.two
  simp at h4 h5
  simp [results, Tryz.results56, go_sem, h4, h5, q0, q1, r0, r1]
theorem SfOwn.offN {B g : Nat} {w : World} {v : Value} {l : List Wr} (h : SfOwn B w v l) (hne : ¬ blocksS v l g) (i : Nat) (u : Value) : SfOwn B (w.setCell ⟨g, i, none⟩ u) v l :=
  h.far (fun e => hne (.inl e)) (fun r hr e => hne (.inr ⟨r, hr, e⟩)) i u
theorem LasOwn.ne {B k : Nat} {w : World} {v : Value} {l : List M.La} (h : LasOwn B w v l) (hn : w.heap.size ≤ k) : v.ownBlock ≠ some k := fun e => by
  have := (World.ownsRow.lt h k e).2
  omega
set_option maxHeartbeats 4000000 in
theorem l6Order_old (B : Nat) (A : Option Addr) (c g c2 : Nat) (rs : List Wr) (ls : List M.La) (x : World) (o : M.Or) (hs : SfOwn B x (.slice A rs.length c) rs) (hla : LasOwn B x (.slice (some ⟨g, 0, none⟩) ls.length c2) ls) (hap : ¬ blocksS (.slice A rs.length c) rs g) (hB : B ≤ x.heap.size) (hml : ls.length ≤ 1048576) (k : Nat) (hk : k < ls.length) (hf : M.laFind ls o.client = k) (hq : o.seq < ls[k].seq) :
    Calls Tryz.prog 56 #[bkV A rs.length c (some ⟨g, 0, none⟩) ls.length c2, orV o] x (OrIn B x ((rs.map Wr.wk, ls), ((6 : Int), M.nilB))) := by
  have hpos : M.laFindInt ls o.client = (k : Int) := by rw [M.laFindInt_pos (by rw [hf]; exact hk), hf]
  have HPOS := Lib.hid hpos
  have hge : decide ((0 : Int) ≤ (k : Int)) = true := by simp
  clear hpos hf
  have hM := ((((Mem.start x).new (bkA A rs.length c (some ⟨g, 0, none⟩) ls.length c2) 27).new (orC o) 33).new (bkA none 0 0 none 0 0) 27).new (rpA 0 noP) 39
  simp only [World.size_alloc] at hM
  have hgx := World.ownsRow.lt hla g rfl
  have HS := Lib.hid hs
  have HLA := Lib.hid hla
  have HAP := Lib.hid hap
  have HB := Lib.hid hB
  clear hs hla hap hB
  have HGET := Lib.hid (fun (y : World) (h : Mem x [(x.heap.size + 1 + 1 + 1, rpA 0 noP), (x.heap.size + 1 + 1, bkA none 0 0 none 0 0), (x.heap.size + 1, orC o), (x.heap.size, bkA A rs.length c (some ⟨g, 0, none⟩) ls.length c2)] [x.heap.size + 1 + 1 + 1, x.heap.size + 1 + 1, x.heap.size + 1, x.heap.size] y) => And.intro (h.get x.heap.size (bkA A rs.length c (some ⟨g, 0, none⟩) ls.length c2) (by simp)).two (And.intro (h.get (x.heap.size + 1) (orC o) (by simp)).nine (la_cells (LasOwn.below HLA.out h.1) hk).1))
  go_enter Tryz.func56, Tryz.ntmps56
  go_wp2_with fail
  have hcall := l6Last_any A rs.length c (some ⟨g, 0, none⟩) ls c2 o.client _ (own_atLas (LasOwn.below HLA.out hM.1)) hml
  rw [HPOS.out] at hcall
  refine hcall.mono ?_
  rintro e x1 ⟨rfl, b1⟩
  have hM1 := hM.below b1
  clear hM hcall b1
  have HM1 := Lib.hid hM1
  clear hM1
  have hne : (o.seq == ls[k].seq) = false := by simp; omega
  have hlt : decide (o.seq < ls[k].seq) = true := by simp; omega
  go_upto_region 2 with (fail)
  refine wp_region_seq (fun y => Mem x [(x.heap.size + 1 + 1 + 1, rpA 0 noP), (x.heap.size + 1 + 1, bkA none 0 0 none 0 0), (x.heap.size + 1, orC o), (x.heap.size, bkA A rs.length c (some ⟨g, 0, none⟩) ls.length c2)] [x.heap.size + 1 + 1 + 1, x.heap.size + 1 + 1, x.heap.size + 1, x.heap.size] y) [(0, true), (1, true), (2, true), (3, true), (4, true), (5, true), (6, true), (7, true), (8, true), (9, true), (10, true), (11, true), (12, true)] (by kernel_rfl) (by kernel_rfl) (fun _ _ _ _ _ h => h) (by kernel_rfl) (by decide) HM1.out.drew ?_
  intro hHeld
  repeat (first
    | (refine seq_skip (by simp only [List.getElem?_toArray, List.getElem?_cons_succ, List.getElem?_cons_zero]; first | done | rfl) (by rfl) ?_; (try simp only [Act.put, List.setIfInBounds_toArray, List.set_cons_zero, List.set_cons_succ]))
    | (refine seq_reads (by simp only [List.getElem?_toArray, List.getElem?_cons_succ, List.getElem?_cons_zero]; first | done | rfl) (by rfl) ?_; apply Exists.intro; apply And.intro; (focus (intro w hSw; obtain ⟨⟨k0, k1⟩, ⟨q0, q1, q2, q3, q4, q5, q6, q7, q8⟩, d0, d1, d2, d3⟩ := HGET.out _ hSw; go_simp; (try with_reducible rfl); done)); (try simp only [Act.put, List.setIfInBounds_toArray, List.set_cons_zero, List.set_cons_succ]))
    | (refine seq_pass (by simp only [List.getElem?_toArray, List.getElem?_cons_succ, List.getElem?_cons_zero]; first | done | rfl) (by rfl) hHeld ?_; clear hHeld; intro hHeld; (try simp only [Act.put, List.setIfInBounds_toArray, List.set_cons_zero, List.set_cons_succ])))
  refine seq_end ?_
  replace HM1 := Lib.hid hHeld
  clear hHeld
  generalize World.drew _ = xx at HM1 ⊢
  go_upto_region 4 with (fail)
  refine wp_region_seq (fun y => Mem x [(x.heap.size + 1 + 1 + 1, rpA 0 noP), (x.heap.size + 1 + 1, bkA none 0 0 none 0 0), (x.heap.size + 1, orC o), (x.heap.size, bkA A rs.length c (some ⟨g, 0, none⟩) ls.length c2)] [x.heap.size + 1 + 1 + 1, x.heap.size + 1 + 1, x.heap.size + 1, x.heap.size] y) [(0, true), (1, true), (2, true), (3, true), (4, true), (5, true), (6, true), (7, true), (8, true), (9, true), (10, true), (11, true), (12, true)] (by kernel_rfl) (by kernel_rfl) (fun _ _ _ _ _ h => h) (by kernel_rfl) (by decide) HM1.out.drew ?_
  intro hHeld
  repeat (first
    | (refine seq_skip (by simp only [List.getElem?_toArray, List.getElem?_cons_succ, List.getElem?_cons_zero]; first | done | rfl) (by rfl) ?_; (try simp only [Act.put, List.setIfInBounds_toArray, List.set_cons_zero, List.set_cons_succ]))
    | (refine seq_reads (by simp only [List.getElem?_toArray, List.getElem?_cons_succ, List.getElem?_cons_zero]; first | done | rfl) (by rfl) ?_; apply Exists.intro; apply And.intro; (focus (intro w hSw; obtain ⟨⟨k0, k1⟩, ⟨q0, q1, q2, q3, q4, q5, q6, q7, q8⟩, d0, d1, d2, d3⟩ := HGET.out _ hSw; go_simp; (try with_reducible rfl); done)); (try simp only [Act.put, List.setIfInBounds_toArray, List.set_cons_zero, List.set_cons_succ]))
    | (refine seq_pass (by simp only [List.getElem?_toArray, List.getElem?_cons_succ, List.getElem?_cons_zero]; first | done | rfl) (by rfl) hHeld ?_; clear hHeld; intro hHeld; (try simp only [Act.put, List.setIfInBounds_toArray, List.set_cons_zero, List.set_cons_succ])))
  refine seq_end ?_
  replace HM1 := Lib.hid hHeld
  clear hHeld
  generalize World.drew _ = xx at HM1 ⊢
  obtain ⟨k0, k1⟩ := (HM1.out.get x.heap.size (bkA A rs.length c (some ⟨g, 0, none⟩) ls.length c2) (by simp)).two
  obtain ⟨s0, s1⟩ := (HM1.out.get (x.heap.size + 1 + 1) (bkA none 0 0 none 0 0) (by simp)).two
  obtain ⟨t0, t1⟩ := (HM1.out.get (x.heap.size + 1 + 1 + 1) (rpA 0 noP) (by simp)).two
  have y0 := HM1.out.loose (x.heap.size + 1 + 1) (by simp) 0
  have y1 := HM1.out.loose (x.heap.size + 1 + 1) (by simp) 1
  have z0 := HM1.out.loose (x.heap.size + 1 + 1 + 1) (by simp) 0
  have z1 := HM1.out.loose (x.heap.size + 1 + 1 + 1) (by simp) 1
  clear hlt hne
  go_wp2
  have hBB := HB.out
  have hxx := HM1.out.1
  refine bodyPost_ret (results_sOrd (.slice A rs.length c) (.slice (some ⟨g, 0, none⟩) ls.length c2) 6 noP (x.heap.size + 1 + 1) (x.heap.size + 1 + 1 + 1) _ _ rfl rfl ?_ ?_) rfl ⟨.slice A rs.length c, .slice (some ⟨g, 0, none⟩) ls.length c2, rs, rfl, ?_, rfl, ?_, fun z hz hb => ?_, ?_⟩
  · exact (((HM1.out.get (x.heap.size + 1 + 1) (bkA none 0 0 none 0 0) (by simp)).wr2 _ _).otherM (by omega)).otherM (by omega)
  · exact (((HM1.out.get (x.heap.size + 1 + 1 + 1) (rpA 0 noP) (by simp)).otherM (by omega)).otherM (by omega)).wr2 _ _
  · have hne : ∀ z, x.heap.size ≤ z → ¬ blocksS (.slice A rs.length c) rs z := fun z hz e => by have := (HS.out.ge e).2; omega
    exact ((((HS.out.below hxx).offN (hne _ (by omega)) 0 _).offN (hne _ (by omega)) 1 _).offN (hne _ (by omega)) 0 _).offN (hne _ (by omega)) 1 _
  · have hne : ∀ z, x.heap.size ≤ z → (Value.slice (some ⟨g, 0, none⟩) ls.length c2).ownBlock ≠ some z := fun z hz => LasOwn.ne HLA.out hz
    exact own_off (own_off (own_off (own_off (LasOwn.below HLA.out hxx) (hne _ (by omega)) 0 _) (hne _ (by omega)) 1 _) (hne _ (by omega)) 0 _) (hne _ (by omega)) 1 _
  · obtain rfl : g = z := Option.some.inj hz
    exact HAP.out hb
  · exact far_2 (far_2 (hxx.mono hBB) (by omega) _ _) (by omega) _ _
set_option maxHeartbeats 4000000 in
theorem l6Order_same (B : Nat) (A : Option Addr) (c g c2 : Nat) (rs : List Wr) (ls : List M.La) (x : World) (o : M.Or) (hs : SfOwn B x (.slice A rs.length c) rs) (hla : LasOwn B x (.slice (some ⟨g, 0, none⟩) ls.length c2) ls) (hap : ¬ blocksS (.slice A rs.length c) rs g) (hB : B ≤ x.heap.size) (hml : ls.length ≤ 1048576) (k : Nat) (hk : k < ls.length) (hf : M.laFind ls o.client = k) (hq : o.seq = ls[k].seq) :
    Calls Tryz.prog 56 #[bkV A rs.length c (some ⟨g, 0, none⟩) ls.length c2, orV o] x (OrIn B x ((rs.map Wr.wk, ls), (ls[k].code, ls[k].page))) := by
  have HQ := Lib.hid hq
  clear hq
  have hpos : M.laFindInt ls o.client = (k : Int) := by rw [M.laFindInt_pos (by rw [hf]; exact hk), hf]
  have HPOS := Lib.hid hpos
  have hge : decide ((0 : Int) ≤ (k : Int)) = true := by simp
  clear hpos hf
  have hM := ((((Mem.start x).new (bkA A rs.length c (some ⟨g, 0, none⟩) ls.length c2) 27).new (orC o) 33).new (bkA none 0 0 none 0 0) 27).new (rpA 0 noP) 39
  simp only [World.size_alloc] at hM
  have hgx := World.ownsRow.lt hla g rfl
  have HS := Lib.hid hs
  have HLA := Lib.hid hla
  have HAP := Lib.hid hap
  have HB := Lib.hid hB
  clear hs hla hap hB
  have HGET := Lib.hid (fun (y : World) (h : Mem x [(x.heap.size + 1 + 1 + 1, rpA 0 noP), (x.heap.size + 1 + 1, bkA none 0 0 none 0 0), (x.heap.size + 1, orC o), (x.heap.size, bkA A rs.length c (some ⟨g, 0, none⟩) ls.length c2)] [x.heap.size + 1 + 1 + 1, x.heap.size + 1 + 1, x.heap.size + 1, x.heap.size] y) => And.intro (h.get x.heap.size (bkA A rs.length c (some ⟨g, 0, none⟩) ls.length c2) (by simp)).two (And.intro (h.get (x.heap.size + 1) (orC o) (by simp)).nine (la_cells (LasOwn.below HLA.out h.1) hk).1))
  go_enter Tryz.func56, Tryz.ntmps56
  go_wp2_with fail
  have hcall := l6Last_any A rs.length c (some ⟨g, 0, none⟩) ls c2 o.client _ (own_atLas (LasOwn.below HLA.out hM.1)) hml
  rw [HPOS.out] at hcall
  refine hcall.mono ?_
  rintro e x1 ⟨rfl, b1⟩
  have hM1 := hM.below b1
  clear hM hcall b1
  have HM1 := Lib.hid hM1
  clear hM1
  have hne : (o.seq == ls[k].seq) = true := by simp [HQ.out]
  go_upto_region 2 with (fail)
  refine wp_region_seq (fun y => Mem x [(x.heap.size + 1 + 1 + 1, rpA 0 noP), (x.heap.size + 1 + 1, bkA none 0 0 none 0 0), (x.heap.size + 1, orC o), (x.heap.size, bkA A rs.length c (some ⟨g, 0, none⟩) ls.length c2)] [x.heap.size + 1 + 1 + 1, x.heap.size + 1 + 1, x.heap.size + 1, x.heap.size] y) [(0, true), (1, true), (2, true), (3, true), (4, true), (5, true), (6, true), (7, true), (8, true), (9, true), (10, true), (11, true), (12, true)] (by kernel_rfl) (by kernel_rfl) (fun _ _ _ _ _ h => h) (by kernel_rfl) (by decide) HM1.out.drew ?_
  intro hHeld
  repeat (first
    | (refine seq_skip (by simp only [List.getElem?_toArray, List.getElem?_cons_succ, List.getElem?_cons_zero]; first | done | rfl) (by rfl) ?_; (try simp only [Act.put, List.setIfInBounds_toArray, List.set_cons_zero, List.set_cons_succ]))
    | (refine seq_reads (by simp only [List.getElem?_toArray, List.getElem?_cons_succ, List.getElem?_cons_zero]; first | done | rfl) (by rfl) ?_; apply Exists.intro; apply And.intro; (focus (intro w hSw; obtain ⟨⟨k0, k1⟩, ⟨q0, q1, q2, q3, q4, q5, q6, q7, q8⟩, d0, d1, d2, d3⟩ := HGET.out _ hSw; go_simp; (try with_reducible rfl); done)); (try simp only [Act.put, List.setIfInBounds_toArray, List.set_cons_zero, List.set_cons_succ]))
    | (refine seq_pass (by simp only [List.getElem?_toArray, List.getElem?_cons_succ, List.getElem?_cons_zero]; first | done | rfl) (by rfl) hHeld ?_; clear hHeld; intro hHeld; (try simp only [Act.put, List.setIfInBounds_toArray, List.set_cons_zero, List.set_cons_succ])))
  refine seq_end ?_
  replace HM1 := Lib.hid hHeld
  clear hHeld
  generalize World.drew _ = xx at HM1 ⊢
  clear hne hge
  have HM2 := Lib.hid HM1.out.drew
  have HG2 := Lib.hid (fun (y : World) (h : Mem x [(x.heap.size, (bkA A rs.length c (some ⟨g, 0, none⟩) ls.length c2))] [] y) => And.intro (h.get x.heap.size (bkA A rs.length c (some ⟨g, 0, none⟩) ls.length c2) (by simp)).two (la_cells (LasOwn.below HLA.out h.1) hk).1)
  have HS2 := Lib.hid (HM1.out.drew.re (hs' := [(x.heap.size, (bkA A rs.length c (some ⟨g, 0, none⟩) ls.length c2))]) (ls' := []) (by simp) (by simp))
  go_upto_region 3 with (fail)
  refine wp_region_seq (fun y => Mem x [(x.heap.size, (bkA A rs.length c (some ⟨g, 0, none⟩) ls.length c2))] [] y) [(0, true), (1, true), (2, true), (3, true), (4, true), (5, true), (6, true), (7, false), (8, false)] (by kernel_rfl) (by kernel_rfl) (fun _ _ _ _ _ h => h) (by kernel_rfl) (by decide) HS2.out ?_
  intro hHeld
  generalize World.drew _ = wd at hHeld HM2 ⊢
  repeat (first
    | (refine seq_skip (by simp only [List.getElem?_toArray, List.getElem?_cons_succ, List.getElem?_cons_zero]; first | done | rfl) (by rfl) ?_; (try simp only [Act.put, List.setIfInBounds_toArray, List.set_cons_zero, List.set_cons_succ]))
    | (refine seq_reads (by simp only [List.getElem?_toArray, List.getElem?_cons_succ, List.getElem?_cons_zero]; first | done | rfl) (by rfl) ?_; apply Exists.intro; apply And.intro; (focus (intro w hSw; (try (obtain ⟨⟨k0, k1⟩, d0, d1, d2, d3⟩ := HG2.out _ hSw)); go_simp; (try with_reducible rfl); done)); (try simp only [Act.put, List.setIfInBounds_toArray, List.set_cons_zero, List.set_cons_succ]))
    | (refine seq_pass (by simp only [List.getElem?_toArray, List.getElem?_cons_succ, List.getElem?_cons_zero]; first | done | rfl) (by rfl) hHeld ?_; clear hHeld; intro hHeld; (try simp only [Act.put, List.setIfInBounds_toArray, List.set_cons_zero, List.set_cons_succ]))
    | (refine seq_call (by simp only [List.getElem?_toArray, List.getElem?_cons_succ, List.getElem?_cons_zero]; first | done | rfl) (by rfl) (fun K hK => ?_); (obtain ⟨s0, s1⟩ := (HM2.out.get (x.heap.size + 1 + 1) (bkA none 0 0 none 0 0) (by simp)).two); (obtain ⟨t0, t1⟩ := (HM2.out.get (x.heap.size + 1 + 1 + 1) (rpA 0 noP) (by simp)).two); (have y0 := HM2.out.loose (x.heap.size + 1 + 1) (by simp) 0); (have y1 := HM2.out.loose (x.heap.size + 1 + 1) (by simp) 1); (have z0 := HM2.out.loose (x.heap.size + 1 + 1 + 1) (by simp) 0); (have z1 := HM2.out.loose (x.heap.size + 1 + 1 + 1) (by simp) 1); (have zs := (HM2.out.get (x.heap.size + 1 + 1) (bkA none 0 0 none 0 0) (by simp)).1); (have zt := (HM2.out.get (x.heap.size + 1 + 1 + 1) (rpA 0 noP) (by simp)).1); go_simp; refine hK.out _ _ ((hHeld.off (by omega) (fun p hp => by obtain rfl := List.mem_singleton.1 hp; show x.heap.size ≠ _; omega)).off (by omega) (fun p hp => by obtain rfl := List.mem_singleton.1 hp; show x.heap.size ≠ _; omega)) ?_; clear hK hHeld; intro hHeld; clear s0 s1 t0 t1 y0 y1 z0 z1 zs zt; (try simp only [Act.put, List.setIfInBounds_toArray, List.set_cons_zero, List.set_cons_succ])))
  refine seq_end ?_
  go_wp2
  have hBB := HB.out
  have hxx := HM2.out.1
  refine bodyPost_ret (results_sOrd (.slice A rs.length c) (.slice (some ⟨g, 0, none⟩) ls.length c2) (ls[k].code) (ls[k].page) (x.heap.size + 1 + 1) (x.heap.size + 1 + 1 + 1) _ _ rfl rfl ?_ ?_) rfl ⟨.slice A rs.length c, .slice (some ⟨g, 0, none⟩) ls.length c2, rs, rfl, ?_, rfl, ?_, fun z hz hb => ?_, ?_⟩
  · exact (((HM2.out.get (x.heap.size + 1 + 1) (bkA none 0 0 none 0 0) (by simp)).wr2 _ _).otherM (by omega)).otherM (by omega)
  · exact (((HM2.out.get (x.heap.size + 1 + 1 + 1) (rpA 0 noP) (by simp)).otherM (by omega)).otherM (by omega)).wr2 _ _
  · have hne : ∀ z, x.heap.size ≤ z → ¬ blocksS (.slice A rs.length c) rs z := fun z hz e => by have := (HS.out.ge e).2; omega
    exact ((((HS.out.below hxx).offN (hne _ (by omega)) 0 _).offN (hne _ (by omega)) 1 _).offN (hne _ (by omega)) 0 _).offN (hne _ (by omega)) 1 _
  · have hne : ∀ z, x.heap.size ≤ z → (Value.slice (some ⟨g, 0, none⟩) ls.length c2).ownBlock ≠ some z := fun z hz => LasOwn.ne HLA.out hz
    exact own_off (own_off (own_off (own_off (LasOwn.below HLA.out hxx) (hne _ (by omega)) 0 _) (hne _ (by omega)) 1 _) (hne _ (by omega)) 0 _) (hne _ (by omega)) 1 _
  · obtain rfl : g = z := Option.some.inj hz
    exact HAP.out hb
  · exact far_2 (far_2 (hxx.mono hBB) (by omega) _ _) (by omega) _ _

end Go.Proofs.YtkpbfocnokbmiaaGreat
