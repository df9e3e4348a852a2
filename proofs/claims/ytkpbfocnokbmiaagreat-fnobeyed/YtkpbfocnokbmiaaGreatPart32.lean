/- Proved, in parts: Proved: what the model's l6Order does with a newer order of a client that has a last. Condition: a right book of its own, texts of at most a million. -/
import Derived.Test.YtkpbfocnokbmiaaGreatPart31
namespace Go.Proofs.YtkpbfocnokbmiaaGreat
open Go.RowKit
set_option maxRecDepth 20000
theorem las_of {w : World} {B m c : Nat} {A : Option Addr} {l : List M.La} (h : LasOwn B w (.slice A m c) l) : Las w A l := by
  obtain ⟨A', c', hv, hA, -⟩ := LasOwn.open h
  injection hv with e _ _
  subst e
  exact hA
/-- The cells of one last, all written anew. -/
theorem la_put4 {W : Nat} {w : World} {g cap k : Nat} {ls : List M.La} (h : LasOwn W w (.slice (some ⟨g, 0, none⟩) ls.length cap) ls) (hk : k < ls.length) (u : M.La) :
    LasOwn W ((((w.setCell ⟨g, k * 4, none⟩ (.int .i64 u.client)).setCell ⟨g, k * 4 + 1, none⟩ (.int .i64 u.seq)).setCell ⟨g, k * 4 + 2, none⟩ (.int .i64 u.code)).setCell ⟨g, k * 4 + 3, none⟩ (.string u.page)) (.slice (some ⟨g, 0, none⟩) ls.length cap) (ls.set k u) := by
  have hz : k * 4 = (cellsOf laL (ls.take k)).length := by rw [cellsOf_len laL_len, List.length_take, Nat.min_eq_left (by omega)]
  have e : ls = ls.take k ++ ls[k] :: ls.drop (k + 1) := by simp
  have e2 : ls.set k u = ls.take k ++ u :: ls.drop (k + 1) := by rw [List.set_eq_take_append_cons_drop, if_pos hk]
  have c1 : cellsOf laL ls = cellsOf laL (ls.take k) ++ (Value.int .i64 ls[k].client :: .int .i64 ls[k].seq :: .int .i64 ls[k].code :: .string ls[k].page :: cellsOf laL (ls.drop (k + 1))) := by
    conv => lhs; rw [e]
    rw [cellsOf_append]; rfl
  have c2 : cellsOf laL (ls.set k u) = cellsOf laL (ls.take k) ++ (Value.int .i64 u.client :: .int .i64 u.seq :: .int .i64 u.code :: .string u.page :: cellsOf laL (ls.drop (k + 1))) := by
    rw [e2, cellsOf_append]; rfl
  have h2 := h
  unfold LasOwn at h2
  rw [c1] at h2
  have h3 := own_putLas (f0 := .int .i64 u.client) (f1 := .int .i64 u.seq) (f2 := .int .i64 u.code) (f3 := .string u.page) h2 hz
  rw [← c2] at h3
  show World.ownsRow _ _ _ _ _ (ls.set k u).length _
  rw [List.length_set]
  exact h3
theorem Holds.w4 {w : World} {g k : Nat} {C : Array Value} (h : Holds w k C) (hk : k ≠ g) (j : Nat) (a b c d : Value) : Holds ((((w.setCell ⟨g, j, none⟩ a).setCell ⟨g, j + 1, none⟩ b).setCell ⟨g, j + 2, none⟩ c).setCell ⟨g, j + 3, none⟩ d) k C :=
  (((h.otherM hk).otherM hk).otherM hk).otherM hk
theorem Loose.w4 {w : World} {k : Nat} (h : Loose w k) (g j : Nat) (a b c d : Value) : Loose ((((w.setCell ⟨g, j, none⟩ a).setCell ⟨g, j + 1, none⟩ b).setCell ⟨g, j + 2, none⟩ c).setCell ⟨g, j + 3, none⟩ d) k := fun i => by
  rw [World.frozen?_setCell, World.frozen?_setCell, World.frozen?_setCell, World.frozen?_setCell]
  exact h i
theorem SfOwn.w4 {B g : Nat} {w : World} {v : Value} {l : List Wr} (h : SfOwn B w v l) (hg : g < B) (j : Nat) (a b c d : Value) : SfOwn B ((((w.setCell ⟨g, j, none⟩ a).setCell ⟨g, j + 1, none⟩ b).setCell ⟨g, j + 2, none⟩ c).setCell ⟨g, j + 3, none⟩ d) v l :=
  (((h.set hg _ _).set hg _ _).set hg _ _).set hg _ _
theorem below_w4 {B g : Nat} {w w1 : World} (h : Below B w w1) (hg : B ≤ g) (j : Nat) (a b c d : Value) : Below B w ((((w1.setCell ⟨g, j, none⟩ a).setCell ⟨g, j + 1, none⟩ b).setCell ⟨g, j + 2, none⟩ c).setCell ⟨g, j + 3, none⟩ d) :=
  farM (farM (farM (farM h hg _ _) hg _ _) hg _ _) hg _ _
set_option maxHeartbeats 8000000 in
theorem l6Order_set (B : Nat) (A : Option Addr) (c : Nat) (g c2 : Nat) (rs : List Wr) (ls : List M.La) (x : World) (o : M.Or) (hs : SfOwn B x (.slice A rs.length c) rs) (hla : LasOwn B x (.slice (some ⟨g, 0, none⟩) ls.length c2) ls) (hap : ∀ z, (Value.slice (some ⟨g, 0, none⟩) ls.length c2).ownBlock = some z → ¬ blocksS (.slice A rs.length c) rs z) (hB : B ≤ x.heap.size) (hml : ls.length ≤ 1048575) (hok : M.sfOk (rs.map Wr.wk) = true) (hn : o.deed.name.size ≤ 1048576) (hpg : o.deed.page.size ≤ 1048576) (k : Nat) (hk : k < ls.length) (hf : M.laFind ls o.client = k) (hq : ls[k].seq < o.seq) :
    Calls Tryz.prog 56 #[bkV A rs.length c (some ⟨g, 0, none⟩) ls.length c2, orV o] x (OrIn B x (((M.does (rs.map Wr.wk) o.deed).1, (ls.set k ⟨o.client, o.seq, (M.does (rs.map Wr.wk) o.deed).2.1, (M.does (rs.map Wr.wk) o.deed).2.2⟩)), (M.does (rs.map Wr.wk) o.deed).2)) := by
  have hpos : M.laFindInt ls o.client = (k : Int) := by rw [M.laFindInt_pos (by rw [hf]; exact hk), hf]
  have hge : decide ((0 : Int) ≤ (k : Int)) = true := by simp
  have HQ := Lib.hid hq
  clear hq
  have HPOS := Lib.hid hpos
  have HF := Lib.hid hf
  clear hpos hf
  have hM := ((((Mem.start x).new (bkA A rs.length c (some ⟨g, 0, none⟩) ls.length c2) 27).new (orC o) 33).new (bkA none 0 0 none 0 0) 27).new (rpA 0 noP) 39
  simp only [World.size_alloc] at hM
  have HGX := Lib.hid (fun z (hz : (Value.slice (some ⟨g, 0, none⟩) ls.length c2).ownBlock = some z) => World.ownsRow.lt hla z hz)
  have HS := Lib.hid hs
  have HLA := Lib.hid hla
  have HAP := Lib.hid hap
  have HB := Lib.hid hB
  have HOK := Lib.hid hok
  have hrl : rs.length ≤ 5 := (wrs_ok hok).1
  have HWI := Lib.hid (wrs_ok hok).2
  clear hs hla hap hB hok
  have HGET := Lib.hid (fun (y : World) (h : Mem x [((x.heap.size + 1 + 1 + 1), rpA 0 noP), ((x.heap.size + 1 + 1), bkA none 0 0 none 0 0), ((x.heap.size + 1), orC o), (x.heap.size, (bkA A rs.length c (some ⟨g, 0, none⟩) ls.length c2))] [(x.heap.size + 1 + 1 + 1), (x.heap.size + 1 + 1), (x.heap.size + 1), x.heap.size] y) => And.intro (h.get x.heap.size (bkA A rs.length c (some ⟨g, 0, none⟩) ls.length c2) (by simp)).two (And.intro (h.get (x.heap.size + 1) (orC o) (by simp)).nine (la_cells (LasOwn.below HLA.out h.1) hk).1))
  go_enter Tryz.func56, Tryz.ntmps56
  go_wp2_with fail
  have hcall := l6Last_any A rs.length c (some ⟨g, 0, none⟩) ls c2 o.client _ (own_atLas (LasOwn.below HLA.out hM.1)) (by omega)
  rw [HPOS.out] at hcall
  refine hcall.mono ?_
  rintro e x1 ⟨rfl, b1⟩
  have hM1 := hM.below b1
  clear hM hcall b1
  have HM1 := Lib.hid hM1
  clear hM1
  have hne : (o.seq == ls[k].seq) = false := by have := HQ.out; simp; omega
  have hlt : decide (o.seq < ls[k].seq) = false := by have := HQ.out; simp; omega
  go_upto_region 2 with (fail)
  refine wp_region_seq (fun y => Mem x [((x.heap.size + 1 + 1 + 1), rpA 0 noP), ((x.heap.size + 1 + 1), bkA none 0 0 none 0 0), ((x.heap.size + 1), orC o), (x.heap.size, (bkA A rs.length c (some ⟨g, 0, none⟩) ls.length c2))] [(x.heap.size + 1 + 1 + 1), (x.heap.size + 1 + 1), (x.heap.size + 1), x.heap.size] y) [(0, true), (1, true), (2, true), (3, true), (4, true), (5, true), (6, true), (7, true), (8, true), (9, true), (10, true), (11, true), (12, true)] (by kernel_rfl) (by kernel_rfl) (fun _ _ _ _ _ h => h) (by kernel_rfl) (by decide) HM1.out.drew ?_
  intro hHeld
  repeat (first
    | (refine seq_skip (by simp only [List.getElem?_toArray, List.getElem?_cons_succ, List.getElem?_cons_zero]; first | done | rfl) (by rfl) ?_; (try simp only [Act.put, List.setIfInBounds_toArray, List.set_cons_zero, List.set_cons_succ]))
    | (refine seq_reads (by simp only [List.getElem?_toArray, List.getElem?_cons_succ, List.getElem?_cons_zero]; first | done | rfl) (by rfl) ?_; apply Exists.intro; apply And.intro; (focus (intro w hSw; obtain ⟨⟨k0, k1⟩, ⟨q0, q1, q2, q3, q4, q5, q6, q7, q8⟩, d0, d1, d2, d3⟩ := HGET.out _ hSw; go_simp; (try with_reducible rfl); done)); (try simp only [Act.put, List.setIfInBounds_toArray, List.set_cons_zero, List.set_cons_succ]))
    | (refine seq_pass (by simp only [List.getElem?_toArray, List.getElem?_cons_succ, List.getElem?_cons_zero]; first | done | rfl) (by rfl) hHeld ?_; clear hHeld; intro hHeld; (try simp only [Act.put, List.setIfInBounds_toArray, List.set_cons_zero, List.set_cons_succ])))
  refine seq_end ?_
  replace HM1 := Lib.hid hHeld
  clear hHeld
  generalize World.drew _ = xx at HM1 ⊢
  go_upto_region 4 with (fail)
  refine wp_region_seq (fun y => Mem x [((x.heap.size + 1 + 1 + 1), rpA 0 noP), ((x.heap.size + 1 + 1), bkA none 0 0 none 0 0), ((x.heap.size + 1), orC o), (x.heap.size, (bkA A rs.length c (some ⟨g, 0, none⟩) ls.length c2))] [(x.heap.size + 1 + 1 + 1), (x.heap.size + 1 + 1), (x.heap.size + 1), x.heap.size] y) [(0, true), (1, true), (2, true), (3, true), (4, true), (5, true), (6, true), (7, true), (8, true), (9, true), (10, true), (11, true), (12, true)] (by kernel_rfl) (by kernel_rfl) (fun _ _ _ _ _ h => h) (by kernel_rfl) (by decide) HM1.out.drew ?_
  intro hHeld
  repeat (first
    | (refine seq_skip (by simp only [List.getElem?_toArray, List.getElem?_cons_succ, List.getElem?_cons_zero]; first | done | rfl) (by rfl) ?_; (try simp only [Act.put, List.setIfInBounds_toArray, List.set_cons_zero, List.set_cons_succ]))
    | (refine seq_reads (by simp only [List.getElem?_toArray, List.getElem?_cons_succ, List.getElem?_cons_zero]; first | done | rfl) (by rfl) ?_; apply Exists.intro; apply And.intro; (focus (intro w hSw; obtain ⟨⟨k0, k1⟩, ⟨q0, q1, q2, q3, q4, q5, q6, q7, q8⟩, d0, d1, d2, d3⟩ := HGET.out _ hSw; go_simp; (try with_reducible rfl); done)); (try simp only [Act.put, List.setIfInBounds_toArray, List.set_cons_zero, List.set_cons_succ]))
    | (refine seq_pass (by simp only [List.getElem?_toArray, List.getElem?_cons_succ, List.getElem?_cons_zero]; first | done | rfl) (by rfl) hHeld ?_; clear hHeld; intro hHeld; (try simp only [Act.put, List.setIfInBounds_toArray, List.set_cons_zero, List.set_cons_succ])))
  refine seq_end ?_
  replace HM1 := Lib.hid hHeld
  clear hHeld
  generalize World.drew _ = xx at HM1 ⊢
  clear hne hlt
  obtain ⟨k0, k1⟩ := (HM1.out.get x.heap.size (bkA A rs.length c (some ⟨g, 0, none⟩) ls.length c2) (by simp)).two
  obtain ⟨q0, q1, q2, q3, q4, q5, q6, q7, q8⟩ := (HM1.out.get (x.heap.size + 1) (orC o) (by simp)).nine
  have hxs : (x.heap.size + 1 + 1 + 1) < xx.heap.size := (HM1.out.get (x.heap.size + 1 + 1 + 1) (rpA 0 noP) (by simp)).1
  go_wp2_with fail
  refine (specDoes_of A rs c o.deed _ (l5Do_any _) (HS.out.below HM1.out.1).wks.1 (fun r hr h => (HS.out.2.1 r hr).nilc h) (by omega) (HWI.out.mono (by omega)) hn hpg).mono ?_
  rintro e x2 ⟨v5, rs5, rfl, o5, m5, b2⟩
  obtain ⟨A5, c5, rfl, -, -⟩ := o5.open
  have hM2 := (HM1.out.below b2).new (rpA (M.does (rs.map Wr.wk) o.deed).2.1 (M.does (rs.map Wr.wk) o.deed).2.2) 39
  have ba := (Below.refl x2.heap.size x2).alloc (Nat.le_refl _) (.cells (rpA (M.does (rs.map Wr.wk) o.deed).2.1 (M.does (rs.map Wr.wk) o.deed).2.2) 39)
  have o6 := o5.below ba
  have hx2 : xx.heap.size ≤ x2.heap.size := b2.size
  have HM2 := Lib.hid hM2
  have HO6 := Lib.hid o6
  have HM5 := Lib.hid m5
  have HR5 := Lib.hid (wrs_ok (show M.sfOk (rs5.map Wr.wk) = true by rw [m5]; exact (M.does_kept HOK.out).symm ▸ M.keptD_ok HOK.out))
  clear k0 k1 q0 q1 q2 q3 q4 q5 q6 q7 q8 hM2 b2 ba o5 o6 m5
  go_upto_region 7 with (fail)
  generalize x2.alloc (.cells (rpA (M.does (rs.map Wr.wk) o.deed).2.1 (M.does (rs.map Wr.wk) o.deed).2.2) 39) = x3 at HM2 HO6 ⊢
  obtain ⟨k0, k1⟩ := (HM2.out.get x.heap.size (bkA A rs.length c (some ⟨g, 0, none⟩) ls.length c2) (by simp)).two
  have y0 := HM2.out.loose x.heap.size (by simp) 0
  have z0 := (HM2.out.get x.heap.size (bkA A rs.length c (some ⟨g, 0, none⟩) ls.length c2) (by simp)).1
  have hxp : xx.heap.size ≤ x2.heap.size := hx2
  go_upto_region 8 with (fail)
  have hM4 := (HM2.out.re (hs' := (x.heap.size, (bkA A rs.length c (some ⟨g, 0, none⟩) ls.length c2)) :: [(x2.heap.size, rpA (M.does (rs.map Wr.wk) o.deed).2.1 (M.does (rs.map Wr.wk) o.deed).2.2), ((x.heap.size + 1 + 1 + 1), rpA 0 noP), ((x.heap.size + 1 + 1), bkA none 0 0 none 0 0), ((x.heap.size + 1), orC o)]) (ls' := [(x.heap.size + 1 + 1 + 1), (x.heap.size + 1 + 1), x.heap.size]) (by simp) (by simp)).put (by omega) (by simp; omega) 0 (.slice A5 rs5.length c5)
  simp only [List.setIfInBounds_toArray, List.set_cons_zero] at hM4
  have HM4 := Lib.hid hM4
  replace HO6 := Lib.hid (HO6.out.set (g := x.heap.size) (by omega) 0 (.slice A5 rs5.length c5))
  clear hM4 k0 k1 y0 z0 HM2
  generalize World.setCell x3 _ _ = x4 at HM4 HO6 ⊢
  obtain ⟨q0, q1, q2, q3, q4, q5, q6, q7, q8⟩ := (HM4.out.get (x.heap.size + 1) (orC o) (by simp)).nine
  obtain ⟨r0, r1⟩ := (HM4.out.get x2.heap.size (rpA (M.does (rs.map Wr.wk) o.deed).2.1 (M.does (rs.map Wr.wk) o.deed).2.2) (by simp)).two
  have hM5 := HM4.out.new (laA ⟨o.client, o.seq, (M.does (rs.map Wr.wk) o.deed).2.1, (M.does (rs.map Wr.wk) o.deed).2.2⟩) 71
  have HX4 := Lib.hid (HM4.out.get x2.heap.size (rpA (M.does (rs.map Wr.wk) o.deed).2.1 (M.does (rs.map Wr.wk) o.deed).2.2) (by simp)).1
  have ba := (Below.refl x4.heap.size x4).alloc (Nat.le_refl _) (.cells (laA ⟨o.client, o.seq, (M.does (rs.map Wr.wk) o.deed).2.1, (M.does (rs.map Wr.wk) o.deed).2.2⟩) 71)
  replace HO6 := Lib.hid (HO6.out.below ba)
  have HM5' := Lib.hid hM5
  clear hM5 ba
  go_upto_region 9 with (fail)
  clear q0 q1 q2 q3 q4 q5 q6 q7 q8 r0 r1
  generalize x4.alloc (.cells (laA ⟨o.client, o.seq, (M.does (rs.map Wr.wk) o.deed).2.1, (M.does (rs.map Wr.wk) o.deed).2.2⟩) 71) = x5 at HM5' HO6 ⊢
  have hx4 := HX4.out
  clear HM4 HM1 HX4
  have hgx := HGX.out g rfl
  obtain ⟨k0, k1⟩ := (HM5'.out.get x.heap.size #[.slice A5 rs5.length c5, (.slice (some ⟨g, 0, none⟩) ls.length c2)] (by simp)).two
  obtain ⟨j0, j1, j2, j3⟩ := (HM5'.out.get x4.heap.size (laA ⟨o.client, o.seq, (M.does (rs.map Wr.wk) o.deed).2.1, (M.does (rs.map Wr.wk) o.deed).2.2⟩) (by simp)).four
  have HL5 := Lib.hid (LasOwn.below HLA.out HM5'.out.1)
  obtain ⟨⟨d0, d1, d2, d3⟩, hfz⟩ := la_cells HL5.out hk
  have f0 := hfz (k * 4)
  have f1 := hfz (k * 4 + 1)
  have f2 := hfz (k * 4 + 2)
  have f3 := hfz (k * 4 + 3)
  clear hfz
  go_upto_region 11 with (fail)
  clear k0 k1 j0 j1 j2 j3 d0 d1 d2 d3 f0 f1 f2 f3
  have hne : ∀ z, x.heap.size ≤ z → z ≠ g := fun z hz => by omega
  have HT0 := Lib.hid (show _ ∧ _ ∧ _ ∧ _ from ⟨(HM5'.out.get (x.heap.size + 1 + 1) (bkA none 0 0 none 0 0) (by simp)).w4 (hne _ (by omega)) (k * 4) (.int .i64 o.client) (.int .i64 o.seq) (.int .i64 (M.does (rs.map Wr.wk) o.deed).2.1) (.string (M.does (rs.map Wr.wk) o.deed).2.2), (HM5'.out.get (x.heap.size + 1 + 1 + 1) (rpA 0 noP) (by simp)).w4 (hne _ (by omega)) (k * 4) (.int .i64 o.client) (.int .i64 o.seq) (.int .i64 (M.does (rs.map Wr.wk) o.deed).2.1) (.string (M.does (rs.map Wr.wk) o.deed).2.2), (HM5'.out.loose (x.heap.size + 1 + 1) (by simp)).w4 g (k * 4) (.int .i64 o.client) (.int .i64 o.seq) (.int .i64 (M.does (rs.map Wr.wk) o.deed).2.1) (.string (M.does (rs.map Wr.wk) o.deed).2.2), (HM5'.out.loose (x.heap.size + 1 + 1 + 1) (by simp)).w4 g (k * 4) (.int .i64 o.client) (.int .i64 o.seq) (.int .i64 (M.does (rs.map Wr.wk) o.deed).2.1) (.string (M.does (rs.map Wr.wk) o.deed).2.2)⟩)
  have HK0 := Lib.hid (show _ ∧ _ from ⟨(HM5'.out.get x.heap.size #[.slice A5 rs5.length c5, (.slice (some ⟨g, 0, none⟩) ls.length c2)] (by simp)).w4 (hne _ (by omega)) (k * 4) (.int .i64 o.client) (.int .i64 o.seq) (.int .i64 (M.does (rs.map Wr.wk) o.deed).2.1) (.string (M.does (rs.map Wr.wk) o.deed).2.2), (HM5'.out.get x2.heap.size (rpA (M.does (rs.map Wr.wk) o.deed).2.1 (M.does (rs.map Wr.wk) o.deed).2.2) (by simp)).w4 (hne _ (by omega)) (k * 4) (.int .i64 o.client) (.int .i64 o.seq) (.int .i64 (M.does (rs.map Wr.wk) o.deed).2.1) (.string (M.does (rs.map Wr.wk) o.deed).2.2)⟩)
  have HF0 := Lib.hid (show _ ∧ _ ∧ _ from ⟨HO6.out.w4 (g := g) (by omega) (k * 4) (.int .i64 o.client) (.int .i64 o.seq) (.int .i64 (M.does (rs.map Wr.wk) o.deed).2.1) (.string (M.does (rs.map Wr.wk) o.deed).2.2), la_put4 HL5.out hk ⟨o.client, o.seq, (M.does (rs.map Wr.wk) o.deed).2.1, (M.does (rs.map Wr.wk) o.deed).2.2⟩, below_w4 (HM5'.out.1.mono HB.out) hgx.1 (k * 4) (.int .i64 o.client) (.int .i64 o.seq) (.int .i64 (M.does (rs.map Wr.wk) o.deed).2.1) (.string (M.does (rs.map Wr.wk) o.deed).2.2)⟩)
  clear HO6 HL5 HM5' HGET
  generalize World.setCell _ _ _ = x6 at HT0 HK0 HF0 ⊢
  have HT : Hid (Holds x6.drew (x.heap.size + 1 + 1) (bkA none 0 0 none 0 0) ∧ Holds x6.drew (x.heap.size + 1 + 1 + 1) (rpA 0 noP) ∧ Loose x6.drew (x.heap.size + 1 + 1) ∧ Loose x6.drew (x.heap.size + 1 + 1 + 1)) := Lib.hid HT0.out
  have HK : Hid (Holds x6.drew x.heap.size #[.slice A5 rs5.length c5, (.slice (some ⟨g, 0, none⟩) ls.length c2)] ∧ Holds x6.drew x2.heap.size (rpA (M.does (rs.map Wr.wk) o.deed).2.1 (M.does (rs.map Wr.wk) o.deed).2.2)) := Lib.hid HK0.out
  have HF1 : Hid (SfOwn xx.heap.size x6.drew (.slice A5 rs5.length c5) rs5 ∧ LasOwn B x6.drew (.slice (some ⟨g, 0, none⟩) ls.length c2) (ls.set k ⟨o.client, o.seq, (M.does (rs.map Wr.wk) o.deed).2.1, (M.does (rs.map Wr.wk) o.deed).2.2⟩) ∧ (∀ z, (Value.slice (some ⟨g, 0, none⟩) ls.length c2).ownBlock = some z → ¬ blocksS (.slice A5 rs5.length c5) rs5 z) ∧ Below B x x6.drew ∧ ∀ z, z = (x.heap.size + 1 + 1) ∨ z = (x.heap.size + 1 + 1 + 1) → (Value.slice (some ⟨g, 0, none⟩) ls.length c2).ownBlock ≠ some z) := Lib.hid ⟨HF0.out.1, HF0.out.2.1, fun z hz e => by
    obtain rfl : g = z := Option.some.inj hz
    have := (HF0.out.1.ge e).1
    omega, HF0.out.2.2.drew, fun z hz e => by
    obtain rfl : g = z := Option.some.inj e
    omega⟩
  clear HT0 HK0 HF0 hne
  refine wp_region_seq (fun y => Holds y x.heap.size #[.slice A5 rs5.length c5, (.slice (some ⟨g, 0, none⟩) ls.length c2)] ∧ Holds y x2.heap.size (rpA (M.does (rs.map Wr.wk) o.deed).2.1 (M.does (rs.map Wr.wk) o.deed).2.2)) [(0, true), (1, true), (2, false), (3, false)] (by kernel_rfl) (by kernel_rfl) (fun _ _ _ _ _ h => h) (by kernel_rfl) (by decide) HK.out ?_
  intro hHeld
  generalize World.drew _ = wd at hHeld HT HF1 ⊢
  repeat (first
    | (refine seq_skip (by simp only [List.getElem?_toArray, List.getElem?_cons_succ, List.getElem?_cons_zero]; first | done | rfl) (by rfl) ?_; (try simp only [Act.put, List.setIfInBounds_toArray, List.set_cons_zero, List.set_cons_succ]))
    | (refine seq_reads (by simp only [List.getElem?_toArray, List.getElem?_cons_succ, List.getElem?_cons_zero]; first | done | rfl) (by rfl) ?_; apply Exists.intro; apply And.intro; (focus (intro w hSw; (try (obtain ⟨k0, k1⟩ := hSw.1.two)); (try (obtain ⟨r0, r1⟩ := hSw.2.two)); go_simp; (try with_reducible rfl); done)); (try simp only [Act.put, List.setIfInBounds_toArray, List.set_cons_zero, List.set_cons_succ]))
    | (refine seq_pass (by simp only [List.getElem?_toArray, List.getElem?_cons_succ, List.getElem?_cons_zero]; first | done | rfl) (by rfl) hHeld ?_; clear hHeld; intro hHeld; (try simp only [Act.put, List.setIfInBounds_toArray, List.set_cons_zero, List.set_cons_succ]))
    | (refine seq_call (by simp only [List.getElem?_toArray, List.getElem?_cons_succ, List.getElem?_cons_zero]; first | done | rfl) (by rfl) (fun K hK => ?_); (obtain ⟨s0, s1⟩ := HT.out.1.two); (obtain ⟨t0, t1⟩ := HT.out.2.1.two); (have y0 := HT.out.2.2.1 0); (have y1 := HT.out.2.2.1 1); (have z0 := HT.out.2.2.2 0); (have z1 := HT.out.2.2.2 1); (have zs := HT.out.1.1); (have zt := HT.out.2.1.1); go_simp; refine hK.out _ _ ⟨(hHeld.1.otherM (by omega)).otherM (by omega), (hHeld.2.otherM (by omega)).otherM (by omega)⟩ ?_; clear hK hHeld; intro hHeld; clear s0 s1 t0 t1 y0 y1 z0 z1 zs zt; (try simp only [Act.put, List.setIfInBounds_toArray, List.set_cons_zero, List.set_cons_succ])))
  refine seq_end ?_
  go_wp2
  refine bodyPost_ret (results_sOrd (.slice A5 rs5.length c5) (.slice (some ⟨g, 0, none⟩) ls.length c2) (M.does (rs.map Wr.wk) o.deed).2.1 (M.does (rs.map Wr.wk) o.deed).2.2 (x.heap.size + 1 + 1) (x.heap.size + 1 + 1 + 1) _ _ rfl rfl ?_ ?_) rfl ⟨.slice A5 rs5.length c5, (.slice (some ⟨g, 0, none⟩) ls.length c2), rs5, rfl, ?_, HM5.out, ?_, HF1.out.2.2.1, ?_⟩
  · exact ((HT.out.1.wr2 _ _).otherM (by omega)).otherM (by omega)
  · exact ((HT.out.2.1.otherM (by omega)).otherM (by omega)).wr2 _ _
  · have hBB := HB.out
    exact ((((HF1.out.1.set (by omega) 0 _).set (by omega) 1 _).set (by omega) 0 _).set (by omega) 1 _).mono (by omega)
  · have hne := HF1.out.2.2.2.2
    exact own_off (own_off (own_off (own_off HF1.out.2.1 (hne _ (.inl rfl)) 0 _) (hne _ (.inl rfl)) 1 _) (hne _ (.inr rfl)) 0 _) (hne _ (.inr rfl)) 1 _
  · have hBB := HB.out
    exact far_2 (far_2 HF1.out.2.2.2.1 (by omega) _ _) (by omega) _ _
end Go.Proofs.YtkpbfocnokbmiaaGreat
