/- Proved, in parts: Proved: what the model's l6Order does with an order of a client that has no last. Condition: a right book of its own, texts of at most a million. -/
import Derived.Test.YtkpbfocnokbmiaaGreatPart32
namespace Go.Proofs.YtkpbfocnokbmiaaGreat
open Go.RowKit
set_option maxRecDepth 20000
theorem own_flatLa {w : World} {B t m c : Nat} {A : Option Addr} {l : List M.La} (h : w.ownsRow B t 4 (.slice A m c) l.length (cellsOf laL l)) : Las w A l := by
  obtain ⟨A', c', hv, _, hf⟩ := own_flat laL_len h
  have hA : A = A' := by injection hv
  rw [hA]; exact hf
theorem hold_flatLa {w : World} {g : Nat} {u : M.La} (h : Holds w g (laA u)) : Las w (some ⟨g, 0, none⟩) [u] := by
  refine .inr ⟨g, 0, rfl, h.1, fun i t x u hi hu => ?_⟩
  rcases i with _ | i
  · simp at hi
    subst hi
    have := h.2 t u (by simpa [laL] using hu)
    simpa using this
  · simp at hi
theorem Las_cell {w : World} {b o : Nat} {l : List M.La} {i : Nat} (h : Las w (some ⟨b, o, none⟩) l) (hi : i < l.length) : b < w.heap.size ∧ w.cell? ⟨b, o + i * 4, none⟩ = some (.int .i64 l[i].client) ∧ w.cell? ⟨b, o + i * 4 + 1, none⟩ = some (.int .i64 l[i].seq) ∧ w.cell? ⟨b, o + i * 4 + 2, none⟩ = some (.int .i64 l[i].code) ∧ w.cell? ⟨b, o + i * 4 + 3, none⟩ = some (.string l[i].page) := by
  obtain ⟨b', o', e, hb, hc⟩ := Las_at h hi
  cases e
  exact ⟨hb, hc⟩
theorem Loose.set1 {w : World} {k : Nat} (h : Loose w k) (g j : Nat) (u : Value) : Loose (w.setCell ⟨g, j, none⟩ u) k := fun i => by
  rw [World.frozen?_setCell]
  exact h i
theorem own_putL {w : World} {B k : Nat} {v : Value} {l : List M.La} {u : M.La} (h : w.ownsRow B 71 4 v (k + 1 + (l.length - k)) (cellsOf laL (l.take k ++ u :: l.drop k))) (hk : k ≤ l.length) : LasOwn B w v (M.putLa l k u) := by
  unfold LasOwn
  rw [M.putLa_len _ _ _ hk, show l.length + 1 = k + 1 + (l.length - k) by omega]
  exact h
def RestL (W0 : World) (l : List M.La) (k : Nat) (s : Value) (wx : World) : Prop :=
  ∃ Ar cr, s = .slice Ar (l.length - k) cr ∧ wx.ownsRow W0.heap.size 71 4 (.slice Ar (l.length - k) cr) (l.drop k).length (cellsOf laL (l.drop k)) ∧ Below W0.heap.size W0 wx
namespace M
theorem laPlace_is {l : List La} {c : Int} {j : Nat} (hj : j ≤ l.length) (h1 : ∀ i (_ : i < j) (h' : i < l.length), decide (l[i].client < c) = true) (h2 : ∀ h : j < l.length, decide (l[j].client < c) = false) : laPlace l c = j := by
  unfold laPlace
  by_cases hl : j < l.length
  · refine (List.findIdx_eq hl).2 ⟨?_, fun i hi => ?_⟩
    · have := h2 hl
      simp only [isGe, decide_eq_true_eq, decide_eq_false_iff_not] at this ⊢
      omega
    · have := h1 i hi (by omega)
      simp only [isGe, decide_eq_true_eq, decide_eq_false_iff_not] at this ⊢
      omega
  · have e : j = l.length := by omega
    subst e
    refine List.findIdx_eq_length.2 fun x hx => ?_
    obtain ⟨i, hi, rfl⟩ := List.mem_iff_getElem.1 hx
    have := h1 i hi hi
    simp only [isGe, decide_eq_true_eq, decide_eq_false_iff_not] at this ⊢
    omega
end M
set_option maxHeartbeats 8000000 in
theorem l6Order_new (B : Nat) (A : Option Addr) (c : Nat) (A2 : Option Addr) (c2 : Nat) (rs : List Wr) (ls : List M.La) (x : World) (o : M.Or) (hs : SfOwn B x (.slice A rs.length c) rs) (hla : LasOwn B x (.slice A2 ls.length c2) ls) (hap : ∀ z, (Value.slice A2 ls.length c2).ownBlock = some z → ¬ blocksS (.slice A rs.length c) rs z) (hB : B ≤ x.heap.size) (hml : ls.length ≤ 1048575) (hok : M.sfOk (rs.map Wr.wk) = true) (hn : o.deed.name.size ≤ 1048576) (hpg : o.deed.page.size ≤ 1048576) (hf : M.laFind ls o.client = ls.length) :
    Calls Tryz.prog 56 #[bkV A rs.length c A2 ls.length c2, orV o] x (OrIn B x (((M.does (rs.map Wr.wk) o.deed).1, M.putLa ls (M.laPlace ls o.client) (⟨o.client, o.seq, (M.does (rs.map Wr.wk) o.deed).2.1, (M.does (rs.map Wr.wk) o.deed).2.2⟩ : M.La)), (M.does (rs.map Wr.wk) o.deed).2)) := by
  have hpos : M.laFindInt ls o.client = -1 := M.laFindInt_neg hf
  have HPOS := Lib.hid hpos
  have HF := Lib.hid hf
  clear hpos hf
  have hM := ((((Mem.start x).new (bkA A rs.length c A2 ls.length c2) 27).new (orC o) 33).new (bkA none 0 0 none 0 0) 27).new (rpA 0 noP) 39
  simp only [World.size_alloc] at hM
  have HGX := Lib.hid (fun z (hz : (Value.slice A2 ls.length c2).ownBlock = some z) => World.ownsRow.lt hla z hz)
  have HS := Lib.hid hs
  have HLA := Lib.hid hla
  have HAP := Lib.hid hap
  have HB := Lib.hid hB
  have HOK := Lib.hid hok
  have hrl : rs.length ≤ 5 := (wrs_ok hok).1
  have HWI := Lib.hid (wrs_ok hok).2
  clear hs hla hap hB hok
  have HGET := Lib.hid (fun (y : World) (h : Mem x [((x.heap.size + 1 + 1 + 1), rpA 0 noP), ((x.heap.size + 1 + 1), bkA none 0 0 none 0 0), ((x.heap.size + 1), orC o), (x.heap.size, (bkA A rs.length c A2 ls.length c2))] [(x.heap.size + 1 + 1 + 1), (x.heap.size + 1 + 1), (x.heap.size + 1), x.heap.size] y) => And.intro (h.get x.heap.size (bkA A rs.length c A2 ls.length c2) (by simp)).two (h.get (x.heap.size + 1) (orC o) (by simp)).nine)
  go_enter Tryz.func56, Tryz.ntmps56
  go_wp2_with fail
  have hcall := l6Last_any A rs.length c A2 ls c2 o.client _ (las_of (LasOwn.below HLA.out hM.1)) (by omega)
  rw [HPOS.out] at hcall
  refine hcall.mono ?_
  rintro e x1 ⟨rfl, b1⟩
  have hM1 := hM.below b1
  clear hM hcall b1
  have HM1 := Lib.hid hM1
  clear hM1
  go_upto_region 2 with (fail)
  refine wp_region_seq (fun y => Mem x [((x.heap.size + 1 + 1 + 1), rpA 0 noP), ((x.heap.size + 1 + 1), bkA none 0 0 none 0 0), ((x.heap.size + 1), orC o), (x.heap.size, (bkA A rs.length c A2 ls.length c2))] [(x.heap.size + 1 + 1 + 1), (x.heap.size + 1 + 1), (x.heap.size + 1), x.heap.size] y) [(0, true), (1, true), (2, true), (3, true), (4, true), (5, true), (6, true), (7, true), (8, true), (9, true), (10, true), (11, true), (12, true)] (by kernel_rfl) (by kernel_rfl) (fun _ _ _ _ _ h => h) (by kernel_rfl) (by decide) HM1.out.drew ?_
  intro hHeld
  repeat (first
    | (refine seq_skip (by simp only [List.getElem?_toArray, List.getElem?_cons_succ, List.getElem?_cons_zero]; first | done | rfl) (by rfl) ?_; (try simp only [Act.put, List.setIfInBounds_toArray, List.set_cons_zero, List.set_cons_succ]))
    | (refine seq_reads (by simp only [List.getElem?_toArray, List.getElem?_cons_succ, List.getElem?_cons_zero]; first | done | rfl) (by rfl) ?_; apply Exists.intro; apply And.intro; (focus (intro w hSw; obtain ⟨⟨k0, k1⟩, ⟨q0, q1, q2, q3, q4, q5, q6, q7, q8⟩⟩ := HGET.out _ hSw; go_simp; (try with_reducible rfl); done)); (try simp only [Act.put, List.setIfInBounds_toArray, List.set_cons_zero, List.set_cons_succ]))
    | (refine seq_pass (by simp only [List.getElem?_toArray, List.getElem?_cons_succ, List.getElem?_cons_zero]; first | done | rfl) (by rfl) hHeld ?_; clear hHeld; intro hHeld; (try simp only [Act.put, List.setIfInBounds_toArray, List.set_cons_zero, List.set_cons_succ])))
  refine seq_end ?_
  replace HM1 := Lib.hid hHeld
  clear hHeld
  generalize World.drew _ = xx at HM1 ⊢
  go_upto_region 4 with (fail)
  refine wp_region_seq (fun y => Mem x [((x.heap.size + 1 + 1 + 1), rpA 0 noP), ((x.heap.size + 1 + 1), bkA none 0 0 none 0 0), ((x.heap.size + 1), orC o), (x.heap.size, (bkA A rs.length c A2 ls.length c2))] [(x.heap.size + 1 + 1 + 1), (x.heap.size + 1 + 1), (x.heap.size + 1), x.heap.size] y) [(0, true), (1, true), (2, true), (3, true), (4, true), (5, true), (6, true), (7, true), (8, true), (9, true), (10, true), (11, true), (12, true)] (by kernel_rfl) (by kernel_rfl) (fun _ _ _ _ _ h => h) (by kernel_rfl) (by decide) HM1.out.drew ?_
  intro hHeld
  repeat (first
    | (refine seq_skip (by simp only [List.getElem?_toArray, List.getElem?_cons_succ, List.getElem?_cons_zero]; first | done | rfl) (by rfl) ?_; (try simp only [Act.put, List.setIfInBounds_toArray, List.set_cons_zero, List.set_cons_succ]))
    | (refine seq_reads (by simp only [List.getElem?_toArray, List.getElem?_cons_succ, List.getElem?_cons_zero]; first | done | rfl) (by rfl) ?_; apply Exists.intro; apply And.intro; (focus (intro w hSw; obtain ⟨⟨k0, k1⟩, ⟨q0, q1, q2, q3, q4, q5, q6, q7, q8⟩⟩ := HGET.out _ hSw; go_simp; (try with_reducible rfl); done)); (try simp only [Act.put, List.setIfInBounds_toArray, List.set_cons_zero, List.set_cons_succ]))
    | (refine seq_pass (by simp only [List.getElem?_toArray, List.getElem?_cons_succ, List.getElem?_cons_zero]; first | done | rfl) (by rfl) hHeld ?_; clear hHeld; intro hHeld; (try simp only [Act.put, List.setIfInBounds_toArray, List.set_cons_zero, List.set_cons_succ])))
  refine seq_end ?_
  replace HM1 := Lib.hid hHeld
  clear hHeld
  generalize World.drew _ = xx at HM1 ⊢
  obtain ⟨k0, k1⟩ := (HM1.out.get x.heap.size (bkA A rs.length c A2 ls.length c2) (by simp)).two
  obtain ⟨q0, q1, q2, q3, q4, q5, q6, q7, q8⟩ := (HM1.out.get (x.heap.size + 1) (orC o) (by simp)).nine
  have hxs : (x.heap.size + 1 + 1 + 1) < xx.heap.size := (HM1.out.get (x.heap.size + 1 + 1 + 1) (rpA 0 noP) (by simp)).1
  go_wp2_with fail
  refine (specDoes_of A rs c o.deed _ (l5Do_any _) (HS.out.below HM1.out.1).wks.1 (fun r hr h => (HS.out.2.1 r hr).nilc h) (by omega) (HWI.out.mono (by omega)) hn hpg).mono ?_
  rintro e x2 ⟨v5, rs5, rfl, o5, m5, b2⟩
  obtain ⟨A5, c5, rfl, -, -⟩ := o5.open
  have hM2 := (HM1.out.below b2).new (rpA (M.does (rs.map Wr.wk) o.deed).2.1 (M.does (rs.map Wr.wk) o.deed).2.2) 39
  have ba := (Below.refl x2.heap.size x2).alloc (Nat.le_refl _) (.cells (rpA (M.does (rs.map Wr.wk) o.deed).2.1 (M.does (rs.map Wr.wk) o.deed).2.2) 39)
  have o6 := o5.below ba
  have hx2 : xx.heap.size ≤ x2.heap.size := b2.size
  have HM2 := Lib.hid hM2
  have HO6 := Lib.hid o6
  have HM5 := Lib.hid m5
  have HR5 := Lib.hid (wrs_ok (show M.sfOk (rs5.map Wr.wk) = true by rw [m5]; exact (M.does_kept HOK.out).symm ▸ M.keptD_ok HOK.out))
  clear k0 k1 q0 q1 q2 q3 q4 q5 q6 q7 q8 hM2 b2 ba o5 o6 m5
  go_upto_region 7 with (fail)
  generalize x2.alloc (.cells (rpA (M.does (rs.map Wr.wk) o.deed).2.1 (M.does (rs.map Wr.wk) o.deed).2.2) 39) = x3 at HM2 HO6 ⊢
  obtain ⟨k0, k1⟩ := (HM2.out.get x.heap.size (bkA A rs.length c A2 ls.length c2) (by simp)).two
  have y0 := HM2.out.loose x.heap.size (by simp) 0
  have z0 := (HM2.out.get x.heap.size (bkA A rs.length c A2 ls.length c2) (by simp)).1
  have hxp : xx.heap.size ≤ x2.heap.size := hx2
  go_upto_region 8 with (fail)
  have hM4 := (HM2.out.re (hs' := (x.heap.size, (bkA A rs.length c A2 ls.length c2)) :: [(x2.heap.size, rpA (M.does (rs.map Wr.wk) o.deed).2.1 (M.does (rs.map Wr.wk) o.deed).2.2), ((x.heap.size + 1 + 1 + 1), rpA 0 noP), ((x.heap.size + 1 + 1), bkA none 0 0 none 0 0), ((x.heap.size + 1), orC o)]) (ls' := [(x.heap.size + 1 + 1 + 1), (x.heap.size + 1 + 1), x.heap.size]) (by simp) (by simp)).put (by omega) (by simp; omega) 0 (.slice A5 rs5.length c5)
  simp only [List.setIfInBounds_toArray, List.set_cons_zero] at hM4
  have HM4 := Lib.hid hM4
  replace HO6 := Lib.hid (HO6.out.set (g := x.heap.size) (by omega) 0 (.slice A5 rs5.length c5))
  clear hM4 k0 k1 y0 z0 HM2
  generalize World.setCell x3 _ _ = x4 at HM4 HO6 ⊢
  obtain ⟨q0, q1, q2, q3, q4, q5, q6, q7, q8⟩ := (HM4.out.get (x.heap.size + 1) (orC o) (by simp)).nine
  obtain ⟨r0, r1⟩ := (HM4.out.get x2.heap.size (rpA (M.does (rs.map Wr.wk) o.deed).2.1 (M.does (rs.map Wr.wk) o.deed).2.2) (by simp)).two
  have hM5 := HM4.out.new (laA ⟨o.client, o.seq, (M.does (rs.map Wr.wk) o.deed).2.1, (M.does (rs.map Wr.wk) o.deed).2.2⟩) 71
  have HX4 := Lib.hid (HM4.out.get x2.heap.size (rpA (M.does (rs.map Wr.wk) o.deed).2.1 (M.does (rs.map Wr.wk) o.deed).2.2) (by simp)).1
  have ba := (Below.refl x4.heap.size x4).alloc (Nat.le_refl _) (.cells (laA ⟨o.client, o.seq, (M.does (rs.map Wr.wk) o.deed).2.1, (M.does (rs.map Wr.wk) o.deed).2.2⟩) 71)
  replace HO6 := Lib.hid (HO6.out.below ba)
  have HM5' := Lib.hid hM5
  clear hM5 ba
  go_upto_region 9 with (fail)
  clear q0 q1 q2 q3 q4 q5 q6 q7 q8 r0 r1
  generalize x4.alloc (.cells (laA ⟨o.client, o.seq, (M.does (rs.map Wr.wk) o.deed).2.1, (M.does (rs.map Wr.wk) o.deed).2.2⟩) 71) = x5 at HM5' HO6 ⊢
  have hx4 := HX4.out
  clear HM4 HM1 HX4
  obtain ⟨kp, hkp⟩ : ∃ kp, (M.laPlace ls o.client) = kp := ⟨_, rfl⟩
  rw [hkp]
  have hkl : kp ≤ ls.length := hkp ▸ M.laPlace_le ls o.client
  have HPL := Lib.hid (fun j hj h1 h2 => hkp.symm.trans (M.laPlace_is (l := ls) (c := o.client) (j := j) hj h1 h2))
  have HKP := Lib.hid hkp
  clear hkp
  have HL5 := Lib.hid (LasOwn.below HLA.out HM5'.out.1)
  have HA5 := Lib.hid (las_of HL5.out)
  have HG5 := Lib.hid (fun (y : World) (h : Below x5.heap.size x5 y) => And.intro ((HM5'.out.get x.heap.size #[.slice A5 rs5.length c5, (.slice A2 ls.length c2)] (by simp)).below h).two ((HM5'.out.get (x.heap.size + 1) (orC o) (by simp)).below h).nine)
  go_upto_block 0 with (fail)
  go_cut [6] from 75 to 92 (fun s6 wx => s6 = .int .i64 kp ∧ Below x5.heap.size x5 wx)
  case first =>
    go_wp2_with fail
    go_loopw [6] (fun i wr => ∃ j : Nat, i = .int .i64 j ∧ j ≤ ls.length ∧ (∀ i (hi : i < j) (h' : i < ls.length), decide (ls[i].client < o.client) = true) ∧ Below x5.heap.size x5 wr) (fun i _ => ls.length - (intOf i).toNat)
    case atStart => exact ⟨0, rfl, Nat.zero_le _, fun i hi => absurd hi (by omega), Below.refl _ _⟩
    case round =>
      obtain ⟨j, rfl, hj, hall, hbl⟩ := hrel
      have HALL := Lib.hid hall
      clear hall
      by_cases hlt : j < ls.length
      · obtain ⟨bb, oo, rfl, -⟩ := Las_at (HA5.out.below hbl) hlt
        rcases hq : decide (ls[j].client < o.client) with _ | _
        · have HKK := Lib.hid (HPL.out j hj HALL.out (fun _ => hq))
          go_wp2_with fail
          refine wp_region_seq (fun y => Below x5.heap.size x5 y) [(0, true), (1, true), (2, true), (3, true), (4, true), (5, true), (6, true), (7, true), (8, true), (9, true), (10, true), (11, true), (12, true), (13, true), (14, true), (15, true)] (by kernel_rfl) (by kernel_rfl) (fun _ _ _ _ _ h => h) (by kernel_rfl) (by decide) hbl.drew ?_
          intro hHeld
          repeat (first
            | (refine seq_skip (by simp only [List.getElem?_toArray, List.getElem?_cons_succ, List.getElem?_cons_zero]; first | done | rfl) (by rfl) ?_; (try simp only [Act.put, List.setIfInBounds_toArray, List.set_cons_zero, List.set_cons_succ]))
            | (refine seq_reads (by simp only [List.getElem?_toArray, List.getElem?_cons_succ, List.getElem?_cons_zero]; first | done | rfl) (by rfl) ?_; apply Exists.intro; apply And.intro; (focus (intro w hSw; (try (obtain ⟨⟨k0, k1⟩, ⟨q0, q1, q2, q3, q4, q5, q6, q7, q8⟩⟩ := HG5.out _ hSw)); (try (obtain ⟨zb, d0, d1, d2, d3⟩ := Las_cell (HA5.out.below hSw) hlt)); go_simp; (try with_reducible rfl); done)); (try simp only [Act.put, List.setIfInBounds_toArray, List.set_cons_zero, List.set_cons_succ]))
            | (refine seq_pass (by simp only [List.getElem?_toArray, List.getElem?_cons_succ, List.getElem?_cons_zero]; first | done | rfl) (by rfl) hHeld ?_; clear hHeld; intro hHeld; (try simp only [Act.put, List.setIfInBounds_toArray, List.set_cons_zero, List.set_cons_succ])))
          refine seq_end ?_
          go_wp2
          go_meet
          exact ⟨by rw [HKK.out], hHeld⟩
        · have HX : Hid (∀ i (hi : i < j + 1) (h' : i < ls.length), decide (ls[i].client < o.client) = true) := Lib.hid (fun i hi h' => by
            by_cases e : i = j
            · subst e; exact hq
            · exact HALL.out i (by omega) h')
          go_wp2_with fail
          refine wp_region_seq (fun y => Below x5.heap.size x5 y) [(0, true), (1, true), (2, true), (3, true), (4, true), (5, true), (6, true), (7, true), (8, true), (9, true), (10, true), (11, true), (12, true), (13, true), (14, true), (15, true)] (by kernel_rfl) (by kernel_rfl) (fun _ _ _ _ _ h => h) (by kernel_rfl) (by decide) hbl.drew ?_
          intro hHeld
          repeat (first
            | (refine seq_skip (by simp only [List.getElem?_toArray, List.getElem?_cons_succ, List.getElem?_cons_zero]; first | done | rfl) (by rfl) ?_; (try simp only [Act.put, List.setIfInBounds_toArray, List.set_cons_zero, List.set_cons_succ]))
            | (refine seq_reads (by simp only [List.getElem?_toArray, List.getElem?_cons_succ, List.getElem?_cons_zero]; first | done | rfl) (by rfl) ?_; apply Exists.intro; apply And.intro; (focus (intro w hSw; (try (obtain ⟨⟨k0, k1⟩, ⟨q0, q1, q2, q3, q4, q5, q6, q7, q8⟩⟩ := HG5.out _ hSw)); (try (obtain ⟨zb, d0, d1, d2, d3⟩ := Las_cell (HA5.out.below hSw) hlt)); go_simp; (try with_reducible rfl); done)); (try simp only [Act.put, List.setIfInBounds_toArray, List.set_cons_zero, List.set_cons_succ]))
            | (refine seq_pass (by simp only [List.getElem?_toArray, List.getElem?_cons_succ, List.getElem?_cons_zero]; first | done | rfl) (by rfl) hHeld ?_; clear hHeld; intro hHeld; (try simp only [Act.put, List.setIfInBounds_toArray, List.set_cons_zero, List.set_cons_succ])))
          refine seq_end ?_
          go_wp2
          go_roundw
          case rel => exact ⟨j + 1, by go_num, by omega, HX.out, hHeld⟩
          case measure => simp [intOf]; omega
      · have hj' : j = ls.length := by omega
        have HKK := Lib.hid (HPL.out j hj HALL.out (fun h => absurd h hlt))
        go_wp2_with fail
        refine wp_region_seq (fun y => Below x5.heap.size x5 y) [(0, true), (1, true), (2, true), (3, true), (4, true), (5, true), (6, true), (7, true), (8, true), (9, true), (10, true), (11, true), (12, true), (13, true), (14, true), (15, true)] (by kernel_rfl) (by kernel_rfl) (fun _ _ _ _ _ h => h) (by kernel_rfl) (by decide) hbl.drew ?_
        intro hHeld
        repeat (first
          | (refine seq_skip (by simp only [List.getElem?_toArray, List.getElem?_cons_succ, List.getElem?_cons_zero]; first | done | rfl) (by rfl) ?_; (try simp only [Act.put, List.setIfInBounds_toArray, List.set_cons_zero, List.set_cons_succ]))
          | (refine seq_reads (by simp only [List.getElem?_toArray, List.getElem?_cons_succ, List.getElem?_cons_zero]; first | done | rfl) (by rfl) ?_; apply Exists.intro; apply And.intro; (focus (intro w hSw; (try (obtain ⟨⟨k0, k1⟩, ⟨q0, q1, q2, q3, q4, q5, q6, q7, q8⟩⟩ := HG5.out _ hSw)); skip; go_simp; (try with_reducible rfl); done)); (try simp only [Act.put, List.setIfInBounds_toArray, List.set_cons_zero, List.set_cons_succ]))
          | (refine seq_pass (by simp only [List.getElem?_toArray, List.getElem?_cons_succ, List.getElem?_cons_zero]; first | done | rfl) (by rfl) hHeld ?_; clear hHeld; intro hHeld; (try simp only [Act.put, List.setIfInBounds_toArray, List.set_cons_zero, List.set_cons_succ])))
        refine seq_end ?_
        go_wp2
        go_meet
        exact ⟨by rw [HKK.out], hHeld⟩
  case rest =>
  obtain ⟨rfl, bq⟩ := hcut
  have HMC := Lib.hid (HM5'.out.below bq)
  have HOC := Lib.hid (HO6.out.below bq)
  have HAC := Lib.hid (HA5.out.below bq)
  have HCAP := Lib.hid (la_cap HLA.out)
  have HNC := Lib.hid (row_nilc HLA.out)
  have hx5 : x4.heap.size < wc.heap.size := (HMC.out.get x4.heap.size (laA ⟨o.client, o.seq, (M.does (rs.map Wr.wk) o.deed).2.1, (M.does (rs.map Wr.wk) o.deed).2.2⟩) (by simp)).1
  clear bq HG5 HM5' HO6 HL5 HA5
  obtain ⟨i0, hi, hz0, hz1, hz2⟩ := info_parts infoLas
  obtain ⟨k0, k1⟩ := (HMC.out.get x.heap.size #[.slice A5 rs5.length c5, (.slice A2 ls.length c2)] (by simp)).two
  have zk := (HMC.out.get x.heap.size #[.slice A5 rs5.length c5, (.slice A2 ls.length c2)] (by simp)).1
  have hcap := HCAP.out
  go_upto_region 15 with (fail)
  go_cut [10] (fun s10 wx => RestL wc ls kp s10 wx)
  case first =>
    by_cases hck : c2 = kp
    · subst hck
      go_wp2_with (at_builtin; refine stop_mk ?_)
      refine stop_un ?_
      refine wpList_append_flat (k := 4) (enc := laL) (l := ls.drop c2) rfl _ _ 25 rfl wc.heap.size 71 i0 _ 40 Tryz.underlying25 hi hz0 hz1 hz2 rfl (by decide) (.slice (some ⟨wc.heap.size, 0, none⟩) 0 0) 0 [] rfl (World.ownsRow_made (size := 4) (e := 71) wc #[] 0 (Nat.le_refl _) (Nat.zero_le _) rfl) (A2) (0) (by rw [List.length_drop, show ls.length - c2 = 0 by omega]; rfl) (fun _ => rfl) (.inl (List.drop_eq_nil_of_le (by omega))) laL_len (la_one _) (by rw [List.length_drop]; unfold maxLen; omega) (by rw [List.length_drop]; omega) (by simp) ?_
      intro v5 w5 hown hgrow
      rw [Nat.zero_add, List.nil_append] at hown
      have b5 := ((Below.refl wc.heap.size wc).alloc (Nat.le_refl _) (.cells #[] 71)).grown hgrow (by simp) (fun g hg => by simp [Value.ownBlock] at hg; omega)
      clear hgrow
      obtain ⟨Ar, cr, rfl⟩ := row_form hown
      have HO5 := Lib.hid hown
      clear hown
      rw [List.length_drop]
      go_wp2
      go_meet
      exact ⟨Ar, cr, by rw [show ls.length - c2 = 0 by omega], by have := HO5.out; rw [List.length_drop] at this ⊢; exact this, b5⟩
    · have hcd := Flat.cutDrop (cap := c2) (HAC.out.alloc (.cells #[] 71)) kp hcap
      unfold cutAt at hcd
      rw [if_neg hck] at hcd
      have HQ := Lib.hid hcd
      clear hcd
      go_wp2_with (at_builtin; refine stop_mk ?_)
      refine stop_un ?_
      refine wpList_append_flat (k := 4) (enc := laL) (l := ls.drop kp) rfl _ _ 25 rfl wc.heap.size 71 i0 _ 40 Tryz.underlying25 hi hz0 hz1 hz2 rfl (by decide) (.slice (some ⟨wc.heap.size, 0, none⟩) 0 0) 0 [] rfl (World.ownsRow_made (size := 4) (e := 71) wc #[] 0 (Nat.le_refl _) (Nat.zero_le _) rfl) (A2.map (·.add (kp * 4))) (c2 - kp) (by rw [List.length_drop]; rfl) (fun h => by have := HNC.out (by simpa using h); omega) HQ.out laL_len (la_one _) (by rw [List.length_drop]; unfold maxLen; omega) (by rw [List.length_drop]; omega) (by simp) ?_
      intro v5 w5 hown hgrow
      rw [Nat.zero_add, List.nil_append] at hown
      have b5 := ((Below.refl wc.heap.size wc).alloc (Nat.le_refl _) (.cells #[] 71)).grown hgrow (by simp) (fun g hg => by simp [Value.ownBlock] at hg; omega)
      clear hgrow
      obtain ⟨Ar, cr, rfl⟩ := row_form hown
      have HO5 := Lib.hid hown
      clear hown
      rw [List.length_drop]
      go_wp2
      go_meet
      exact ⟨Ar, cr, rfl, by have := HO5.out; rw [List.length_drop] at this ⊢; exact this, b5⟩
  case rest =>
  obtain ⟨Ar, cr, rfl, hrest, b5⟩ := hcut
  have HM6 := Lib.hid (HMC.out.below b5)
  have HO6 := Lib.hid (HOC.out.below b5)
  have HWQ := Lib.hid (HAC.out.below b5)
  replace hrest := World.ownsRow.mono hrest (Nat.zero_le _)
  have HRL := Lib.hid (fun z (hz : (Value.slice Ar (ls.length - kp) cr).ownBlock = some z) => (World.ownsRow.lt hrest z hz).2)
  have HKL := Lib.hid (show (ls.take kp).length = kp by rw [List.length_take, Nat.min_eq_left hkl])
  have HK6 := Lib.hid (show _ ∧ _ from ⟨HM6.out.get x.heap.size #[.slice A5 rs5.length c5, (.slice A2 ls.length c2)] (by simp), HM6.out.loose x.heap.size (by simp)⟩)
  have hx6 : x4.heap.size < wc.heap.size := Nat.lt_of_lt_of_le hx5 b5.size
  have HZ := Lib.hid (fun z (hz : wc.heap.size ≤ z) => show ¬ blocksS (.slice A5 rs5.length c5) rs5 z ∧ (x.heap.size + 1 + 1 + 1) < z from ⟨fun e => by have := (HO6.out.ge e).2; omega, by omega⟩)
  have HBW := Lib.hid (show B ≤ wc.heap.size by have := HB.out; omega)
  have HLO := Lib.hid (fun (y : World) (h : Below wc.heap.size wc y) => show Loose y (x.heap.size + 1 + 1) ∧ Loose y (x.heap.size + 1 + 1 + 1) from ⟨(HM6.out.loose (x.heap.size + 1 + 1) (by simp)).below (HM6.out.get (x.heap.size + 1 + 1) (bkA none 0 0 none 0 0) (by simp)).1 h, (HM6.out.loose (x.heap.size + 1 + 1 + 1) (by simp)).below (HM6.out.get (x.heap.size + 1 + 1 + 1) (rpA 0 noP) (by simp)).1 h⟩)
  have HSO := Lib.hid (fun (y : World) (h : Below wc.heap.size wc y) => show Below x.heap.size x y ∧ Holds y x4.heap.size (laA (⟨o.client, o.seq, (M.does (rs.map Wr.wk) o.deed).2.1, (M.does (rs.map Wr.wk) o.deed).2.2⟩ : M.La)) from ⟨HM6.out.1.trans (h.mono HM6.out.1.size), (HM6.out.get x4.heap.size (laA (⟨o.client, o.seq, (M.does (rs.map Wr.wk) o.deed).2.1, (M.does (rs.map Wr.wk) o.deed).2.2⟩ : M.La)) (by simp)).below h⟩)
  have hkc : kp ≤ c2 := by omega
  clear b5 HMC HOC HAC k0 k1 zk
  go_upto_region 16 with (fail)
  go_cut [110] (fun s110 wx => s110 = .pointer (some ⟨x.heap.size, 1, none⟩) ∧ ∃ A13 c13, Holds wx x.heap.size #[.slice A5 rs5.length c5, (.slice A13 (kp + 1 + (ls.length - kp)) c13)] ∧ Holds wx x2.heap.size (rpA (M.does (rs.map Wr.wk) o.deed).2.1 (M.does (rs.map Wr.wk) o.deed).2.2) ∧ Holds wx (x.heap.size + 1 + 1) (bkA none 0 0 none 0 0) ∧ Holds wx (x.heap.size + 1 + 1 + 1) (rpA 0 noP) ∧ (Loose wx (x.heap.size + 1 + 1) ∧ Loose wx (x.heap.size + 1 + 1 + 1)) ∧ SfOwn xx.heap.size wx (.slice A5 rs5.length c5) rs5 ∧ LasOwn B wx (.slice A13 (kp + 1 + (ls.length - kp)) c13) (M.putLa ls kp (⟨o.client, o.seq, (M.does (rs.map Wr.wk) o.deed).2.1, (M.does (rs.map Wr.wk) o.deed).2.2⟩ : M.La)) ∧ (∀ z, (Value.slice A13 (kp + 1 + (ls.length - kp)) c13).ownBlock = some z → ¬ blocksS (.slice A5 rs5.length c5) rs5 z ∧ (x.heap.size + 1 + 1 + 1) < z) ∧ Below x.heap.size x wx)
  case first =>
    refine wp_region_tq (fun y => Below x.heap.size x y ∧ Holds y x4.heap.size (laA (⟨o.client, o.seq, (M.does (rs.map Wr.wk) o.deed).2.1, (M.does (rs.map Wr.wk) o.deed).2.2⟩ : M.La))) (.read 1 (.read 3 (.read 6 (.read 9 (.three 0 2 7 (.two 2 7 (.read 4 (.two 5 7 (.one 7 (.one 8 (.one 10 (.read 11 (.one 12 .done))))) (.one 5 (.one 8 (.one 10 (.read 11 (.one 12 .done))))))) (.one 2 (.read 4 (.one 5 (.one 8 (.one 10 (.read 11 (.one 12 .done)))))))) (.read 4 (.two 0 7 (.two 5 7 (.one 7 (.one 8 (.one 10 (.read 11 (.one 12 .done))))) (.one 5 (.one 8 (.one 10 (.read 11 (.one 12 .done)))))) (.one 0 (.one 5 (.one 8 (.one 10 (.read 11 (.one 12 .done)))))))) (.two 0 2 (.one 2 (.read 4 (.one 5 (.one 8 (.one 10 (.read 11 (.one 12 .done))))))) (.read 4 (.one 0 (.one 5 (.one 8 (.one 10 (.read 11 (.one 12 .done))))))))))))) (by kernel_rfl) (by kernel_rfl) (fun _ _ _ _ _ h => h) (by kernel_rfl) (by decide) (HSO.out _ (Below.refl _ _).drew) ?_
    intro hHeld
    have hbw := (Below.refl wc.heap.size wc).drew
    have hrest2 : World.ownsRow wc.drew _ _ _ _ _ _ := hrest
    clear hrest
    have hrest := hrest2
    clear hrest2
    generalize hwdd : wc.drew = wd at hHeld hbw hrest ⊢
    clear hwdd
    repeat (first
      | (refine tq_reads (by simp only [List.getElem?_toArray, List.getElem?_cons_succ, List.getElem?_cons_zero]; first | done | rfl) (by rfl) ?_; apply Exists.intro; apply And.intro; (focus (intro w hSw; (try (obtain ⟨l0, l1, l2, l3⟩ := hSw.2.four)); go_simp; (try with_reducible rfl); done)); (try simp only [Act.put, List.setIfInBounds_toArray, List.set_cons_zero, List.set_cons_succ]))
      | (refine tq_two ?_ ?_)
      | (refine tq_three ?_ ?_ ?_)
      | (refine tq_one (by simp only [List.getElem?_toArray, List.getElem?_cons_succ, List.getElem?_cons_zero]; first | done | rfl) (by rfl) (fun K hK => ?_); obtain ⟨k0, k1⟩ := (HK6.out.1.below hbw).two; (have zz := (HK6.out.1.below hbw).1); go_simp; refine hK.out _ _ _ (fun _ h => h) hHeld ?_; clear hK k0 k1 zz; intro hHeld; (try simp only [Act.put, List.setIfInBounds_toArray, List.set_cons_zero, List.set_cons_succ]))
      | (refine tq_one (by simp only [List.getElem?_toArray, List.getElem?_cons_succ, List.getElem?_cons_zero]; first | done | rfl) (by rfl) (fun K hK => ?_); go_simp; refine hK.out _ _ _ (fun _ h => h) (HSO.out _ (hbw.alloc hbw.size _)) ?_; clear hK; intro hS; refine tq_madeL hbw.size ?_ hS; clear hS; intro wA bA e0 hS; (have hbw2 := next hbw bA); (try (have nx := new_ne hx.1; replace hx := hx.below bA)); clear hHeld hbw; have hHeld := hS; have hbw := hbw2; replace hrest := Own.below hrest bA; clear hS bA hbw2; (try simp only [Act.put, List.setIfInBounds_toArray, List.set_cons_zero, List.set_cons_succ]))
      | (refine tq_one (by simp only [List.getElem?_toArray, List.getElem?_cons_succ, List.getElem?_cons_zero]; first | done | rfl) (by rfl) (fun K hK => ?_); go_simp; refine hK.out _ _ _ (fun _ h => h) (HSO.out _ (hbw.alloc hbw.size _)) ?_; clear hK; intro hS; refine tq_alloc ?_ hS; clear hS; intro wA bA hx fx hS; (have hbw2 := next hbw bA); (try (have nx := old_ne e0; replace e0 := Own.below e0 bA)); (try (have nx := old_ne e4; replace e4 := Own.below e4 bA)); clear hHeld fx hbw; have hHeld := hS; have hbw := hbw2; replace hrest := Own.below hrest bA; clear hS bA hbw2; (try simp only [Act.put, List.setIfInBounds_toArray, List.set_cons_zero, List.set_cons_succ]))
      | (refine tq_one (by simp only [List.getElem?_toArray, List.getElem?_cons_succ, List.getElem?_cons_zero]; first | done | rfl) (by rfl) (fun K hK => ?_); refine wp_append_flat_at (k := 4) (enc := laL) (l := ls.take kp) _ _ 25 rfl wc.heap.size 71 i0 _ 40 Tryz.underlying25 hi hz0 hz1 hz2 rfl (by decide) _ _ _ rfl e0 A2 c2 (by rw [HKL.out]; rfl) HNC.out (Flat.cutTake (HWQ.out.below hbw) kp) laL_len (la_one _) (by simp only [List.length_take]; unfold maxLen; omega) (by simp only [List.length_take]; omega) hbw.size ?_; intro v9 w9 own9 grow9 at9; (have bg := hbw.grown grow9 hbw.size (fun z hz => (World.ownsRow.lt e0 z hz).1)); (try (have nx9 := grown_ne nx hx.1 at9; replace hx := grown_holds hx grow9 (fun h => nx _ h.symm rfl); clear nx; have nx := nx9; clear nx9)); (replace hrest := World.ownsRow.kept hrest grow9 (own_two (fun z hz h => by have := (World.ownsRow.lt e0 z h).1; have := HRL.out z hz; omega))); rw [HKL.out, Nat.zero_add, List.nil_append] at own9; (have e4 := own9); clear own9 e0 grow9 at9; obtain ⟨A4, c4, rfl⟩ := row_form e4; refine hK.out _ _ _ (fun _ h => h) (HSO.out _ bg) ?_; clear hK hHeld hbw; intro hHeld; have hbw := bg; clear bg; (try simp only [Act.put, List.setIfInBounds_toArray, List.set_cons_zero, List.set_cons_succ]))
      | (refine tq_one (by simp only [List.getElem?_toArray, List.getElem?_cons_succ, List.getElem?_cons_zero]; first | done | rfl) (by rfl) (fun K hK => ?_); refine wp_append_flat_at (k := 4) (enc := laL) (l := [(⟨o.client, o.seq, (M.does (rs.map Wr.wk) o.deed).2.1, (M.does (rs.map Wr.wk) o.deed).2.2⟩ : M.La)]) _ _ 25 rfl wc.heap.size 71 i0 _ 40 Tryz.underlying25 hi hz0 hz1 hz2 rfl (by decide) (.slice A4 kp c4) kp (cellsOf laL (ls.take kp)) rfl e4 (some ⟨_, 0, none⟩) 1 rfl (fun h => by cases h) (hold_flatLa hx) laL_len (la_one _) (by simp only [List.length_singleton]; unfold maxLen; omega) (by simp only [List.length_singleton]; omega) hbw.size ?_; intro v9 w9 own9 grow9 at9; (have bg := hbw.grown grow9 hbw.size (fun z hz => (World.ownsRow.lt e4 z hz).1)); (replace hrest := World.ownsRow.kept hrest grow9 (own_two (fun z hz h => by have := (World.ownsRow.lt e4 z h).1; have := HRL.out z hz; omega))); rw [← cellsOf_append] at own9; (have e11 := own9); clear own9 e4 grow9 at9 hx nx; obtain ⟨A11, c11, rfl⟩ := row_form e11; refine hK.out _ _ _ (fun _ h => h) (HSO.out _ bg) ?_; clear hK hHeld hbw; intro hHeld; have hbw := bg; clear bg; (try simp only [Act.put, List.setIfInBounds_toArray, List.set_cons_zero, List.set_cons_succ]))
      | (refine tq_one (by simp only [List.getElem?_toArray, List.getElem?_cons_succ, List.getElem?_cons_zero]; first | done | rfl) (by rfl) (fun K hK => ?_); refine wp_append_flat_at (k := 4) (enc := laL) (l := ls.drop kp) _ _ 25 rfl wc.heap.size 71 i0 _ 40 Tryz.underlying25 hi hz0 hz1 hz2 rfl (by decide) (.slice A11 (kp + 1) c11) (kp + 1) (cellsOf laL (ls.take kp ++ [(⟨o.client, o.seq, (M.does (rs.map Wr.wk) o.deed).2.1, (M.does (rs.map Wr.wk) o.deed).2.2⟩ : M.La)])) rfl e11 Ar cr (by rw [List.length_drop]; rfl) (row_nilc hrest) (own_flatLa hrest) laL_len (la_one _) (by simp only [List.length_drop]; unfold maxLen; omega) (by simp only [List.length_drop]; omega) hbw.size ?_; intro v9 w9 own9 grow9 at9; (have bg := hbw.grown grow9 hbw.size (fun z hz => (World.ownsRow.lt e11 z hz).1)); rw [← cellsOf_append, List.append_assoc, List.singleton_append, List.length_drop] at own9; (have e13 := own9); clear own9 e11 grow9 at9 hrest; obtain ⟨A13, c13, rfl⟩ := row_form e13; refine hK.out _ _ _ (fun _ h => h) (HSO.out _ bg) ?_; clear hK hHeld hbw; intro hHeld; have hbw := bg; clear bg; (try simp only [Act.put, List.setIfInBounds_toArray, List.set_cons_zero, List.set_cons_succ]))
      | (refine tq_one (by simp only [List.getElem?_toArray, List.getElem?_cons_succ, List.getElem?_cons_zero]; first | done | rfl) (by rfl) (fun K hK => ?_); obtain ⟨k0, k1⟩ := (HK6.out.1.below hbw).two; (have y1 := HK6.out.2.below HK6.out.1.1 hbw 1); (have zz := (HK6.out.1.below hbw).1); go_simp; refine hK.out _ _ _ (fun _ h => h) ⟨farM hHeld.1 (Nat.le_refl _) _ _, hHeld.2.otherM (by omega)⟩ ?_; clear hK k0 k1 y1 zz hHeld; intro hHeld; (try simp only [Act.put, List.setIfInBounds_toArray, List.set_cons_zero, List.set_cons_succ]))
      | (refine tq_end ?_; go_wp2; go_meet; exact ⟨rfl, A13, c13, (by have h := (HK6.out.1.below hbw).putM 1 (.slice A13 (kp + 1 + (ls.length - kp)) c13); simp only [List.setIfInBounds_toArray, List.set_cons_zero, List.set_cons_succ] at h; exact h), ((HM6.out.get x2.heap.size (rpA (M.does (rs.map Wr.wk) o.deed).2.1 (M.does (rs.map Wr.wk) o.deed).2.2) (by simp)).below hbw).otherM (by omega), ((HM6.out.get (x.heap.size + 1 + 1) (bkA none 0 0 none 0 0) (by simp)).below hbw).otherM (by omega), ((HM6.out.get (x.heap.size + 1 + 1 + 1) (rpA 0 noP) (by simp)).below hbw).otherM (by omega), ⟨(HLO.out _ hbw).1.set1 _ _ _, (HLO.out _ hbw).2.set1 _ _ _⟩, (HO6.out.below hbw).set (by omega) _ _, own_putL ((own_set e13 (by omega) _ _).mono HBW.out) hkl, (fun z hz => HZ.out z (World.ownsRow.lt e13 z hz).1), hHeld.1⟩))
  case rest =>
  obtain ⟨rfl, A13, c13, g0, g4, g2, g3, gl, go, gw, gz, gb⟩ := hcut
  have HT : Hid (Holds wc.drew (x.heap.size + 1 + 1) (bkA none 0 0 none 0 0) ∧ Holds wc.drew (x.heap.size + 1 + 1 + 1) (rpA 0 noP) ∧ Loose wc.drew (x.heap.size + 1 + 1) ∧ Loose wc.drew (x.heap.size + 1 + 1 + 1)) := Lib.hid ⟨g2, g3, gl.1, gl.2⟩
  have HK : Hid (Holds wc.drew x.heap.size #[.slice A5 rs5.length c5, (.slice A13 (kp + 1 + (ls.length - kp)) c13)] ∧ Holds wc.drew x2.heap.size (rpA (M.does (rs.map Wr.wk) o.deed).2.1 (M.does (rs.map Wr.wk) o.deed).2.2)) := Lib.hid ⟨g0, g4⟩
  have HF1 : Hid (SfOwn xx.heap.size wc.drew (.slice A5 rs5.length c5) rs5 ∧ LasOwn B wc.drew (.slice A13 (kp + 1 + (ls.length - kp)) c13) (M.putLa ls kp (⟨o.client, o.seq, (M.does (rs.map Wr.wk) o.deed).2.1, (M.does (rs.map Wr.wk) o.deed).2.2⟩ : M.La)) ∧ (∀ z, (Value.slice A13 (kp + 1 + (ls.length - kp)) c13).ownBlock = some z → ¬ blocksS (.slice A5 rs5.length c5) rs5 z) ∧ Below B x wc.drew ∧ ∀ z, z = (x.heap.size + 1 + 1) ∨ z = (x.heap.size + 1 + 1 + 1) → (Value.slice A13 (kp + 1 + (ls.length - kp)) c13).ownBlock ≠ some z) := Lib.hid ⟨go, gw, fun z hz => (gz z hz).1, (gb.mono HB.out).drew, fun z hz e => by have := (gz z e).2; omega⟩
  clear g0 g4 g2 g3 gl go gw gz gb HM6 HO6 HK6 hrest
  go_upto_region 17 with (fail)
  refine wp_region_seq (fun y => Holds y x.heap.size #[.slice A5 rs5.length c5, (.slice A13 (kp + 1 + (ls.length - kp)) c13)] ∧ Holds y x2.heap.size (rpA (M.does (rs.map Wr.wk) o.deed).2.1 (M.does (rs.map Wr.wk) o.deed).2.2)) [(0, true), (1, true), (2, false), (3, false)] (by kernel_rfl) (by kernel_rfl) (fun _ _ _ _ _ h => h) (by kernel_rfl) (by decide) HK.out ?_
  intro hHeld
  generalize World.drew _ = wd at hHeld HT HF1 ⊢
  repeat (first
    | (refine seq_skip (by simp only [List.getElem?_toArray, List.getElem?_cons_succ, List.getElem?_cons_zero]; first | done | rfl) (by rfl) ?_; (try simp only [Act.put, List.setIfInBounds_toArray, List.set_cons_zero, List.set_cons_succ]))
    | (refine seq_reads (by simp only [List.getElem?_toArray, List.getElem?_cons_succ, List.getElem?_cons_zero]; first | done | rfl) (by rfl) ?_; apply Exists.intro; apply And.intro; (focus (intro w hSw; (try (obtain ⟨k0, k1⟩ := hSw.1.two)); (try (obtain ⟨r0, r1⟩ := hSw.2.two)); go_simp; (try with_reducible rfl); done)); (try simp only [Act.put, List.setIfInBounds_toArray, List.set_cons_zero, List.set_cons_succ]))
    | (refine seq_pass (by simp only [List.getElem?_toArray, List.getElem?_cons_succ, List.getElem?_cons_zero]; first | done | rfl) (by rfl) hHeld ?_; clear hHeld; intro hHeld; (try simp only [Act.put, List.setIfInBounds_toArray, List.set_cons_zero, List.set_cons_succ]))
    | (refine seq_call (by simp only [List.getElem?_toArray, List.getElem?_cons_succ, List.getElem?_cons_zero]; first | done | rfl) (by rfl) (fun K hK => ?_); (obtain ⟨s0, s1⟩ := HT.out.1.two); (obtain ⟨t0, t1⟩ := HT.out.2.1.two); (have y0 := HT.out.2.2.1 0); (have y1 := HT.out.2.2.1 1); (have z0 := HT.out.2.2.2 0); (have z1 := HT.out.2.2.2 1); (have zs := HT.out.1.1); (have zt := HT.out.2.1.1); go_simp; refine hK.out _ _ ⟨(hHeld.1.otherM (by omega)).otherM (by omega), (hHeld.2.otherM (by omega)).otherM (by omega)⟩ ?_; clear hK hHeld; intro hHeld; clear s0 s1 t0 t1 y0 y1 z0 z1 zs zt; (try simp only [Act.put, List.setIfInBounds_toArray, List.set_cons_zero, List.set_cons_succ])))
  refine seq_end ?_
  go_wp2
  refine bodyPost_ret (results_sOrd (.slice A5 rs5.length c5) (.slice A13 (kp + 1 + (ls.length - kp)) c13) (M.does (rs.map Wr.wk) o.deed).2.1 (M.does (rs.map Wr.wk) o.deed).2.2 (x.heap.size + 1 + 1) (x.heap.size + 1 + 1 + 1) _ _ rfl rfl ?_ ?_) rfl ⟨.slice A5 rs5.length c5, (.slice A13 (kp + 1 + (ls.length - kp)) c13), rs5, rfl, ?_, HM5.out, ?_, HF1.out.2.2.1, ?_⟩
  · exact ((HT.out.1.wr2 _ _).otherM (by omega)).otherM (by omega)
  · exact ((HT.out.2.1.otherM (by omega)).otherM (by omega)).wr2 _ _
  · have hBB := HB.out
    exact ((((HF1.out.1.set (by omega) 0 _).set (by omega) 1 _).set (by omega) 0 _).set (by omega) 1 _).mono (by omega)
  · have hne := HF1.out.2.2.2.2
    show LasOwn B _ _ (M.putLa ls (M.laPlace ls o.client) _)
    rw [HKP.out]
    exact own_off (own_off (own_off (own_off HF1.out.2.1 (hne _ (.inl rfl)) 0 _) (hne _ (.inl rfl)) 1 _) (hne _ (.inr rfl)) 0 _) (hne _ (.inr rfl)) 1 _
  · have hBB := HB.out
    exact far_2 (far_2 HF1.out.2.2.2.1 (by omega) _ _) (by omega) _ _
end Go.Proofs.YtkpbfocnokbmiaaGreat
