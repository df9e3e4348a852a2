/- Proved, in parts: Proved: what the model draws for the laws on entries: a small book in new memory, entries with short texts; nothing that was there is written. No condition. -/
import Derived.Test.YtkpbfocnokbmiaaGreatPart42
import Derived.Test.YtkpbfocnokbmiaaGreatPart46
namespace Go.Proofs.YtkpbfocnokbmiaaGreat
open Go.RowKit
set_option maxRecDepth 20000
set_option linter.unusedVariables false
theorem results_DrawObeyed (a b : Value) (e : M.En) (R T : Nat) (W : World) (tmps : Array Value) (h2 : tmps.getD 2 undef = .pointer (some ⟨R, 0, none⟩)) (h3 : tmps.getD 3 undef = .pointer (some ⟨T, 0, none⟩)) (hR : Holds W R #[a, b]) (hT : Holds W T (enC e)) :
    (results Tryz.f5 tmps).run Tryz.prog W = .ok (.tuple #[.agg #[a, b], enV e]) W := by
  obtain ⟨q0, q1⟩ := hR.two
  obtain ⟨r0, r1, r2, r3, r4, r5, r6, r7, r8, r9⟩ := hT.ten
  simp at h2 h3
  simp [results, Tryz.results5, go_sem, h2, h3, q0, q1, r0, r1, r2, r3, r4, r5, r6, r7, r8, r9]
set_option maxHeartbeats 4000000 in
theorem DrawObeyed_any (w : World) (a : Option Addr) (len cap : Nat) (hl : len ≤ 4096) (hc : CodeOk w.heap.size w a len) :
    Calls Tryz.prog 5 #[.slice a len cap] w fun r w' => ∃ (bv : Value) (e : M.En), r = .returned (.tuple #[bv, enV e]) ∧ BkTop w w' bv ∧ enIn 64 e ∧ Below w.heap.size w w' := by
  have hm0 := ((Mem.start w).new (bkA none 0 0 none 0 0) 27).new z10 35
  go_enter Tryz.func5, Tryz.ntmps5
  go_wp2_with fail
  refine (l1New_any w.heap.size _ a len cap (by simp <;> omega) hl ((hc.alloc (Nat.le_refl _) _).alloc (by simp <;> omega) _)).mono ?_
  rintro r x1 ⟨rfl, hc1, hg1⟩
  have hm := DrT.start hm0 (by simp) hg1 hc1
  simp only [World.size_alloc] at hm
  have hsz : w.heap.size + 1 + 1 < x1.heap.size := by have := hc1.2.1; simpa using this
  clear hm0 hc1 hg1 hc
  go_wp2_with fail
  refine (l6DrawBookAny_any _ _ _ hm.cur).mono ?_
  rintro r x2 ⟨A1, c1, A2, c2, rs, ls, rfl, hs, hla, -, hz, hlz, -, hc2, hg2⟩
  have hsz2 : x1.heap.size ≤ x2.heap.size := hg2.size
  have HLT : Hid ((∀ k, blocksS (.slice A1 rs.length c1) rs k → k < x2.heap.size) ∧ ∀ k, (Value.slice A2 ls.length c2).ownBlock = some k → k < x2.heap.size) := Lib.hid ⟨fun k hk => (hs.ge hk).2, fun k hk => (World.ownsRow.lt hla k hk).2⟩
  have bq := (Below.refl x2.heap.size x2).alloc (Nat.le_refl _) (.cells (bkA A1 rs.length c1 A2 ls.length c2) 27)
  replace hm := (hm.by hg2 hc2).new (bkA A1 rs.length c1 A2 ls.length c2) 27
  have HS := Lib.hid (hs.below bq)
  have HL := Lib.hid (LasOwn.below hla bq)
  have HZ := Lib.hid (show _ ∧ _ from ⟨hz, hlz⟩)
  clear hc2 hg2 hs hla hz hlz bq
  have HSS := Lib.hid (DrT.sub (bx' := [(x2.heap.size, (bkA A1 rs.length c1 A2 ls.length c2))]) hm.drew (by simp))
  have HR := Lib.hid (DrT.sub (bx' := [(w.heap.size, (bkA none 0 0 none 0 0)), ((w.heap.size + 1), z10), (x2.heap.size, (bkA A1 rs.length c1 A2 ls.length c2))]) hm.drew (by simp))
  have HN : Hid (∀ p ∈ [((w.heap.size + 1), z10), (x2.heap.size, (bkA A1 rs.length c1 A2 ls.length c2))], p.1 ≠ w.heap.size) := Lib.hid (by simp; omega)
  have HN2 : Hid (∀ p ∈ [(w.heap.size, (bkA A1 rs.length c1 A2 ls.length c2)), (x2.heap.size, (bkA A1 rs.length c1 A2 ls.length c2))], p.1 ≠ (w.heap.size + 1)) := Lib.hid (by simp; omega)
  replace HS := Lib.hid (show SfOwn x1.heap.size (x2.alloc (.cells (bkA A1 rs.length c1 A2 ls.length c2) 27)).drew (.slice A1 rs.length c1) rs from HS.out)
  replace HL := Lib.hid (show LasOwn x1.heap.size (x2.alloc (.cells (bkA A1 rs.length c1 A2 ls.length c2) 27)).drew (.slice A2 ls.length c2) ls from HL.out)
  clear hm
  go_upto_region 3 with (fail)
  refine wp_region_seq (fun x => DrT w (w.heap.size + 1 + 1) [(x2.heap.size, (bkA A1 rs.length c1 A2 ls.length c2))] x) [(0, true), (1, true), (2, false), (3, false), (4, false)] (by kernel_rfl) (by kernel_rfl) (fun _ _ _ _ _ h => h) (by kernel_rfl) (by decide) HSS.out ?_
  intro hHeld
  generalize World.drew _ = wd at hHeld HR HS HL ⊢
  repeat (first
    | (refine seq_skip (by simp only [List.getElem?_toArray, List.getElem?_cons_succ, List.getElem?_cons_zero]; first | done | rfl) (by rfl) ?_; (try simp only [Act.put, List.setIfInBounds_toArray, List.set_cons_zero, List.set_cons_succ]))
    | (refine seq_reads (by simp only [List.getElem?_toArray, List.getElem?_cons_succ, List.getElem?_cons_zero]; first | done | rfl) (by rfl) ?_; apply Exists.intro; apply And.intro; (focus (intro w hSw; (try (obtain ⟨k0, k1⟩ := (hSw.get (R := x2.heap.size) (C := (bkA A1 rs.length c1 A2 ls.length c2)) (by simp)).1.two)); go_simp; (try with_reducible rfl); done)); (try simp only [Act.put, List.setIfInBounds_toArray, List.set_cons_zero, List.set_cons_succ]))
    | (refine seq_pass (by simp only [List.getElem?_toArray, List.getElem?_cons_succ, List.getElem?_cons_zero]; first | done | rfl) (by rfl) hHeld ?_; clear hHeld; intro hHeld; (try simp only [Act.put, List.setIfInBounds_toArray, List.set_cons_zero, List.set_cons_succ]))
    | (refine seq_call (by simp only [List.getElem?_toArray, List.getElem?_cons_succ, List.getElem?_cons_zero]; first | done | rfl) (by rfl) (fun K hK => ?_); go_simp; go_at_call 21; refine (l7DrawAny_any _ _ _ hHeld.cur).mono ?_; rintro r w1 ⟨e, he, rfl, hc3, hg3⟩; go_simp; refine hK.out _ _ (hHeld.by hg3 hc3) ?_; clear hK hHeld; intro hHeld; (replace HR := Lib.hid (HR.out.by hg3 hc3)); (replace HS := Lib.hid (HS.out.by hg3 (by omega))); (replace HL := Lib.hid (own_by HL.out hg3 (by omega))); clear hc3 hg3; (try simp only [Act.put, List.setIfInBounds_toArray, List.set_cons_zero, List.set_cons_succ]))
    | (refine seq_call (by simp only [List.getElem?_toArray, List.getElem?_cons_succ, List.getElem?_cons_zero]; first | done | rfl) (by rfl) (fun K hK => ?_); (have hzz := HR2.out); clear hzz; (obtain ⟨s0, s1, s2, s3, s4, s5, s6, s7, s8, s9⟩ := (HR2.out.get (R := (w.heap.size + 1)) (C := z10) (by simp)).1.ten); (have y0 := (HR2.out.get (R := (w.heap.size + 1)) (C := z10) (by simp)).2 0); (have y1 := (HR2.out.get (R := (w.heap.size + 1)) (C := z10) (by simp)).2 1); (have y2 := (HR2.out.get (R := (w.heap.size + 1)) (C := z10) (by simp)).2 2); (have y3 := (HR2.out.get (R := (w.heap.size + 1)) (C := z10) (by simp)).2 3); (have y4 := (HR2.out.get (R := (w.heap.size + 1)) (C := z10) (by simp)).2 4); (have y5 := (HR2.out.get (R := (w.heap.size + 1)) (C := z10) (by simp)).2 5); (have y6 := (HR2.out.get (R := (w.heap.size + 1)) (C := z10) (by simp)).2 6); (have y7 := (HR2.out.get (R := (w.heap.size + 1)) (C := z10) (by simp)).2 7); (have y8 := (HR2.out.get (R := (w.heap.size + 1)) (C := z10) (by simp)).2 8); (have y9 := (HR2.out.get (R := (w.heap.size + 1)) (C := z10) (by simp)).2 9); (have yl := (HR2.out.get (R := (w.heap.size + 1)) (C := z10) (by simp)).1.1); go_simp; refine hK.out _ _ (DrT.sub (HR2.out.put10 HN2.out (.int .i64 e.reign) (.int .i64 e.order.client) (.int .i64 e.order.seq) (.int .i64 e.order.deed.kind) (.string e.order.deed.name) (.int .i64 e.order.deed.ed.ma) (.int .i64 e.order.deed.ed.mi) (.int .i64 e.order.deed.ed.pa) (.string e.order.deed.page) (.int .i64 e.order.deed.who)) (by simp)) ?_; clear hK hHeld; intro hHeld; clear s0 s1 s2 s3 s4 s5 s6 s7 s8 s9 y0 y1 y2 y3 y4 y5 y6 y7 y8 y9 yl; (have HR3 := Lib.hid (HR2.out.put10 HN2.out (.int .i64 e.reign) (.int .i64 e.order.client) (.int .i64 e.order.seq) (.int .i64 e.order.deed.kind) (.string e.order.deed.name) (.int .i64 e.order.deed.ed.ma) (.int .i64 e.order.deed.ed.mi) (.int .i64 e.order.deed.ed.pa) (.string e.order.deed.page) (.int .i64 e.order.deed.who))); (try simp only [Act.put, List.setIfInBounds_toArray, List.set_cons_zero, List.set_cons_succ]))
    | (refine seq_call (by simp only [List.getElem?_toArray, List.getElem?_cons_succ, List.getElem?_cons_zero]; first | done | rfl) (by rfl) (fun K hK => ?_); (obtain ⟨s0, s1⟩ := (HR.out.get (R := w.heap.size) (C := (bkA none 0 0 none 0 0)) (by simp)).1.two); (have y0 := (HR.out.get (R := w.heap.size) (C := (bkA none 0 0 none 0 0)) (by simp)).2 0); (have y1 := (HR.out.get (R := w.heap.size) (C := (bkA none 0 0 none 0 0)) (by simp)).2 1); (have yl := (HR.out.get (R := w.heap.size) (C := (bkA none 0 0 none 0 0)) (by simp)).1.1); go_simp; refine hK.out _ _ (DrT.sub (HR.out.put2 HN.out (.slice A1 rs.length c1) (.slice A2 ls.length c2)) (by simp)) ?_; clear hK hHeld; intro hHeld; clear s0 s1 y0 y1 yl; (have HR2 := Lib.hid (DrT.sub (bx' := [((w.heap.size + 1), z10), (w.heap.size, (bkA A1 rs.length c1 A2 ls.length c2)), (x2.heap.size, (bkA A1 rs.length c1 A2 ls.length c2))]) (HR.out.put2 HN.out (.slice A1 rs.length c1) (.slice A2 ls.length c2)) (by simp))); (try simp only [Act.put, List.setIfInBounds_toArray, List.set_cons_zero, List.set_cons_succ])))
  refine seq_end ?_
  go_wp2
  exact bodyPost_ret (results_DrawObeyed _ _ e w.heap.size (w.heap.size + 1) _ _ rfl rfl (HR3.out.get (R := w.heap.size) (C := (bkA A1 rs.length c1 A2 ls.length c2)) (by simp)).1 (HR3.out.get (R := (w.heap.size + 1)) (C := enC e) (by simp)).1) rfl ⟨_, e, rfl, ⟨A1, c1, A2, c2, rs, ls, rfl, ((((((((((((HS.out.set (by omega) 0 _).set (by omega) 1 _).set (by omega) 0 _).set (by omega) 1 _).set (by omega) 2 _).set (by omega) 3 _).set (by omega) 4 _).set (by omega) 5 _).set (by omega) 6 _).set (by omega) 7 _).set (by omega) 8 _).set (by omega) 9 _).mono (by omega), LasOwn.mono (own_set (own_set (own_set (own_set (own_set (own_set (own_set (own_set (own_set (own_set (own_set (own_set HL.out (by omega) 0 _) (by omega) 1 _) (by omega) 0 _) (by omega) 1 _) (by omega) 2 _) (by omega) 3 _) (by omega) 4 _) (by omega) 5 _) (by omega) 6 _) (by omega) 7 _) (by omega) 8 _) (by omega) 9 _) (by omega), HZ.out.1, HZ.out.2⟩, he, HR3.out.below⟩
theorem results_DrawSameEntry (a b : M.En) (R T : Nat) (W : World) (tmps : Array Value) (h2 : tmps.getD 2 undef = .pointer (some ⟨R, 0, none⟩)) (h3 : tmps.getD 3 undef = .pointer (some ⟨T, 0, none⟩)) (hR : Holds W R (enC a)) (hT : Holds W T (enC b)) :
    (results Tryz.f9 tmps).run Tryz.prog W = .ok (.tuple #[enV a, enV b]) W := by
  obtain ⟨q0, q1, q2, q3, q4, q5, q6, q7, q8, q9⟩ := hR.ten
  obtain ⟨t0, t1, t2, t3, t4, t5, t6, t7, t8, t9⟩ := hT.ten
  simp at h2 h3
  simp [results, Tryz.results9, go_sem, h2, h3, q0, q1, q2, q3, q4, q5, q6, q7, q8, q9, t0, t1, t2, t3, t4, t5, t6, t7, t8, t9]
set_option maxHeartbeats 8000000 in
theorem DrawSameEntry_any (w : World) (a : Option Addr) (len cap : Nat) (hl : len ≤ 4096) (hc : CodeOk w.heap.size w a len) :
    Calls Tryz.prog 9 #[.slice a len cap] w fun r w' => ∃ (e e' : M.En), r = .returned (.tuple #[enV e, enV e']) ∧ enIn 64 e ∧ enIn 64 e' ∧ Below w.heap.size w w' := by
  have hm0 := ((Mem.start w).new z10 35).new z10 35
  go_enter Tryz.func9, Tryz.ntmps9
  go_wp2_with fail
  refine (l1New_any w.heap.size _ a len cap (by simp <;> omega) hl ((hc.alloc (Nat.le_refl _) _).alloc (by simp <;> omega) _)).mono ?_
  rintro r x1 ⟨rfl, hc1, hg1⟩
  have hm := DrT.start hm0 (by simp) hg1 hc1
  simp only [World.size_alloc] at hm
  have hsz : w.heap.size + 1 + 1 < x1.heap.size := by have := hc1.2.1; simpa using this
  clear hm0 hc1 hg1 hc
  go_wp2_with fail
  refine (l7DrawAny_any _ _ _ hm.cur).mono ?_
  rintro r x2 ⟨e, he, rfl, hc2, hg2⟩
  have hsz2 : x1.heap.size ≤ x2.heap.size := hg2.size
  replace hm := (hm.by hg2 hc2).new (enC e) 35
  clear hc2 hg2
  go_wp2_with fail
  refine (l1Once_any _ _ _ hm.cur 2 (by omega) (by omega)).mono ?_
  rintro r x3 ⟨b, rfl, hc3, hg3⟩
  replace hm := hm.by hg3 hc3
  clear hc3 hg3
  have HSS := Lib.hid (DrT.sub (bx' := [(x2.heap.size, enC e)]) hm.drew (by simp))
  have HR := Lib.hid (DrT.sub (bx' := [(w.heap.size, z10), ((w.heap.size + 1), z10), (x2.heap.size, enC e)]) hm.drew (by simp))
  have HN : Hid (∀ p ∈ [((w.heap.size + 1), z10), (x2.heap.size, enC e)], p.1 ≠ w.heap.size) := Lib.hid (by simp; omega)
  have HN2 : Hid (∀ p ∈ [(w.heap.size, enC e), (x2.heap.size, enC e)], p.1 ≠ (w.heap.size + 1)) := Lib.hid (by simp; omega)
  clear hm
  cases b
  · go_upto_region 5 with (fail)
    refine wp_region_seq (fun x => DrT w (w.heap.size + 1 + 1) [(x2.heap.size, enC e)] x) [(0, true), (1, true), (2, false), (3, false), (4, false)] (by kernel_rfl) (by kernel_rfl) (fun _ _ _ _ _ h => h) (by kernel_rfl) (by decide) HSS.out ?_
    intro hHeld
    generalize World.drew _ = wd at hHeld HR ⊢
    repeat (first
      | (refine seq_skip (by simp only [List.getElem?_toArray, List.getElem?_cons_succ, List.getElem?_cons_zero]; first | done | rfl) (by rfl) ?_; (try simp only [Act.put, List.setIfInBounds_toArray, List.set_cons_zero, List.set_cons_succ]))
      | (refine seq_reads (by simp only [List.getElem?_toArray, List.getElem?_cons_succ, List.getElem?_cons_zero]; first | done | rfl) (by rfl) ?_; apply Exists.intro; apply And.intro; (focus (intro w hSw; (try (obtain ⟨k0, k1, k2, k3, k4, k5, k6, k7, k8, k9⟩ := (hSw.get (R := x2.heap.size) (C := enC e) (by simp)).1.ten)); go_simp; (try with_reducible rfl); done)); (try simp only [Act.put, List.setIfInBounds_toArray, List.set_cons_zero, List.set_cons_succ]))
      | (refine seq_pass (by simp only [List.getElem?_toArray, List.getElem?_cons_succ, List.getElem?_cons_zero]; first | done | rfl) (by rfl) hHeld ?_; clear hHeld; intro hHeld; (try simp only [Act.put, List.setIfInBounds_toArray, List.set_cons_zero, List.set_cons_succ]))
      | (refine seq_call (by simp only [List.getElem?_toArray, List.getElem?_cons_succ, List.getElem?_cons_zero]; first | done | rfl) (by rfl) (fun K hK => ?_); go_simp; go_at_call 21; refine (l7DrawAny_any _ _ _ hHeld.cur).mono ?_; rintro r w1 ⟨e', he', rfl, hc3, hg3⟩; go_simp; refine hK.out _ _ (hHeld.by hg3 hc3) ?_; clear hK hHeld; intro hHeld; (replace HR := Lib.hid (HR.out.by hg3 hc3)); clear hc3 hg3; (try simp only [Act.put, List.setIfInBounds_toArray, List.set_cons_zero, List.set_cons_succ]))
      | (refine seq_call (by simp only [List.getElem?_toArray, List.getElem?_cons_succ, List.getElem?_cons_zero]; first | done | rfl) (by rfl) (fun K hK => ?_); (have hzz := HR2.out); clear hzz; (obtain ⟨s0, s1, s2, s3, s4, s5, s6, s7, s8, s9⟩ := (HR2.out.get (R := (w.heap.size + 1)) (C := z10) (by simp)).1.ten); (have y0 := (HR2.out.get (R := (w.heap.size + 1)) (C := z10) (by simp)).2 0); (have y1 := (HR2.out.get (R := (w.heap.size + 1)) (C := z10) (by simp)).2 1); (have y2 := (HR2.out.get (R := (w.heap.size + 1)) (C := z10) (by simp)).2 2); (have y3 := (HR2.out.get (R := (w.heap.size + 1)) (C := z10) (by simp)).2 3); (have y4 := (HR2.out.get (R := (w.heap.size + 1)) (C := z10) (by simp)).2 4); (have y5 := (HR2.out.get (R := (w.heap.size + 1)) (C := z10) (by simp)).2 5); (have y6 := (HR2.out.get (R := (w.heap.size + 1)) (C := z10) (by simp)).2 6); (have y7 := (HR2.out.get (R := (w.heap.size + 1)) (C := z10) (by simp)).2 7); (have y8 := (HR2.out.get (R := (w.heap.size + 1)) (C := z10) (by simp)).2 8); (have y9 := (HR2.out.get (R := (w.heap.size + 1)) (C := z10) (by simp)).2 9); (have yl := (HR2.out.get (R := (w.heap.size + 1)) (C := z10) (by simp)).1.1); go_simp; refine hK.out _ _ (DrT.sub (HR2.out.put10 HN2.out (.int .i64 e'.reign) (.int .i64 e'.order.client) (.int .i64 e'.order.seq) (.int .i64 e'.order.deed.kind) (.string e'.order.deed.name) (.int .i64 e'.order.deed.ed.ma) (.int .i64 e'.order.deed.ed.mi) (.int .i64 e'.order.deed.ed.pa) (.string e'.order.deed.page) (.int .i64 e'.order.deed.who)) (by simp)) ?_; clear hK hHeld; intro hHeld; clear s0 s1 s2 s3 s4 s5 s6 s7 s8 s9 y0 y1 y2 y3 y4 y5 y6 y7 y8 y9 yl; (have HR3 := Lib.hid (HR2.out.put10 HN2.out (.int .i64 e'.reign) (.int .i64 e'.order.client) (.int .i64 e'.order.seq) (.int .i64 e'.order.deed.kind) (.string e'.order.deed.name) (.int .i64 e'.order.deed.ed.ma) (.int .i64 e'.order.deed.ed.mi) (.int .i64 e'.order.deed.ed.pa) (.string e'.order.deed.page) (.int .i64 e'.order.deed.who))); (try simp only [Act.put, List.setIfInBounds_toArray, List.set_cons_zero, List.set_cons_succ]))
      | (refine seq_call (by simp only [List.getElem?_toArray, List.getElem?_cons_succ, List.getElem?_cons_zero]; first | done | rfl) (by rfl) (fun K hK => ?_); (obtain ⟨s0, s1, s2, s3, s4, s5, s6, s7, s8, s9⟩ := (HR.out.get (R := w.heap.size) (C := z10) (by simp)).1.ten); (have y0 := (HR.out.get (R := w.heap.size) (C := z10) (by simp)).2 0); (have y1 := (HR.out.get (R := w.heap.size) (C := z10) (by simp)).2 1); (have y2 := (HR.out.get (R := w.heap.size) (C := z10) (by simp)).2 2); (have y3 := (HR.out.get (R := w.heap.size) (C := z10) (by simp)).2 3); (have y4 := (HR.out.get (R := w.heap.size) (C := z10) (by simp)).2 4); (have y5 := (HR.out.get (R := w.heap.size) (C := z10) (by simp)).2 5); (have y6 := (HR.out.get (R := w.heap.size) (C := z10) (by simp)).2 6); (have y7 := (HR.out.get (R := w.heap.size) (C := z10) (by simp)).2 7); (have y8 := (HR.out.get (R := w.heap.size) (C := z10) (by simp)).2 8); (have y9 := (HR.out.get (R := w.heap.size) (C := z10) (by simp)).2 9); (have yl := (HR.out.get (R := w.heap.size) (C := z10) (by simp)).1.1); go_simp; refine hK.out _ _ (DrT.sub (HR.out.put10 HN.out (.int .i64 e.reign) (.int .i64 e.order.client) (.int .i64 e.order.seq) (.int .i64 e.order.deed.kind) (.string e.order.deed.name) (.int .i64 e.order.deed.ed.ma) (.int .i64 e.order.deed.ed.mi) (.int .i64 e.order.deed.ed.pa) (.string e.order.deed.page) (.int .i64 e.order.deed.who)) (by simp)) ?_; clear hK hHeld; intro hHeld; clear s0 s1 s2 s3 s4 s5 s6 s7 s8 s9 y0 y1 y2 y3 y4 y5 y6 y7 y8 y9 yl; (have HR2 := Lib.hid (DrT.sub (bx' := [((w.heap.size + 1), z10), (w.heap.size, enC e), (x2.heap.size, enC e)]) (HR.out.put10 HN.out (.int .i64 e.reign) (.int .i64 e.order.client) (.int .i64 e.order.seq) (.int .i64 e.order.deed.kind) (.string e.order.deed.name) (.int .i64 e.order.deed.ed.ma) (.int .i64 e.order.deed.ed.mi) (.int .i64 e.order.deed.ed.pa) (.string e.order.deed.page) (.int .i64 e.order.deed.who)) (by simp))); (clear HR); (generalize World.setCell _ _ _ = wd2 at hHeld HR2 ⊢); (try simp only [Act.put, List.setIfInBounds_toArray, List.set_cons_zero, List.set_cons_succ])))
    refine seq_end ?_
    go_wp2
    exact bodyPost_ret (results_DrawSameEntry e e' w.heap.size (w.heap.size + 1) _ _ rfl rfl (HR3.out.get (R := w.heap.size) (C := enC e) (by simp)).1 (HR3.out.get (R := (w.heap.size + 1)) (C := enC e') (by simp)).1) rfl ⟨e, e', rfl, he, he', HR3.out.below⟩
  · go_upto_region 4 with (fail)
    refine wp_region_seq (fun x => DrT w (w.heap.size + 1 + 1) [(x2.heap.size, enC e)] x) [(0, true), (1, true), (2, false), (3, false)] (by kernel_rfl) (by kernel_rfl) (fun _ _ _ _ _ h => h) (by kernel_rfl) (by decide) HSS.out ?_
    intro hHeld
    generalize World.drew _ = wd at hHeld HR ⊢
    repeat (first
      | (refine seq_skip (by simp only [List.getElem?_toArray, List.getElem?_cons_succ, List.getElem?_cons_zero]; first | done | rfl) (by rfl) ?_; (try simp only [Act.put, List.setIfInBounds_toArray, List.set_cons_zero, List.set_cons_succ]))
      | (refine seq_reads (by simp only [List.getElem?_toArray, List.getElem?_cons_succ, List.getElem?_cons_zero]; first | done | rfl) (by rfl) ?_; apply Exists.intro; apply And.intro; (focus (intro w hSw; (try (obtain ⟨k0, k1, k2, k3, k4, k5, k6, k7, k8, k9⟩ := (hSw.get (R := x2.heap.size) (C := enC e) (by simp)).1.ten)); go_simp; (try with_reducible rfl); done)); (try simp only [Act.put, List.setIfInBounds_toArray, List.set_cons_zero, List.set_cons_succ]))
      | (refine seq_pass (by simp only [List.getElem?_toArray, List.getElem?_cons_succ, List.getElem?_cons_zero]; first | done | rfl) (by rfl) hHeld ?_; clear hHeld; intro hHeld; (try simp only [Act.put, List.setIfInBounds_toArray, List.set_cons_zero, List.set_cons_succ]))
      | (refine seq_call (by simp only [List.getElem?_toArray, List.getElem?_cons_succ, List.getElem?_cons_zero]; first | done | rfl) (by rfl) (fun K hK => ?_); (have hzz := HR2.out); clear hzz; (obtain ⟨s0, s1, s2, s3, s4, s5, s6, s7, s8, s9⟩ := (HR2.out.get (R := (w.heap.size + 1)) (C := z10) (by simp)).1.ten); (have y0 := (HR2.out.get (R := (w.heap.size + 1)) (C := z10) (by simp)).2 0); (have y1 := (HR2.out.get (R := (w.heap.size + 1)) (C := z10) (by simp)).2 1); (have y2 := (HR2.out.get (R := (w.heap.size + 1)) (C := z10) (by simp)).2 2); (have y3 := (HR2.out.get (R := (w.heap.size + 1)) (C := z10) (by simp)).2 3); (have y4 := (HR2.out.get (R := (w.heap.size + 1)) (C := z10) (by simp)).2 4); (have y5 := (HR2.out.get (R := (w.heap.size + 1)) (C := z10) (by simp)).2 5); (have y6 := (HR2.out.get (R := (w.heap.size + 1)) (C := z10) (by simp)).2 6); (have y7 := (HR2.out.get (R := (w.heap.size + 1)) (C := z10) (by simp)).2 7); (have y8 := (HR2.out.get (R := (w.heap.size + 1)) (C := z10) (by simp)).2 8); (have y9 := (HR2.out.get (R := (w.heap.size + 1)) (C := z10) (by simp)).2 9); (have yl := (HR2.out.get (R := (w.heap.size + 1)) (C := z10) (by simp)).1.1); go_simp; refine hK.out _ _ (DrT.sub (HR2.out.put10 HN2.out (.int .i64 e.reign) (.int .i64 e.order.client) (.int .i64 e.order.seq) (.int .i64 e.order.deed.kind) (.string e.order.deed.name) (.int .i64 e.order.deed.ed.ma) (.int .i64 e.order.deed.ed.mi) (.int .i64 e.order.deed.ed.pa) (.string e.order.deed.page) (.int .i64 e.order.deed.who)) (by simp)) ?_; clear hK hHeld; intro hHeld; clear s0 s1 s2 s3 s4 s5 s6 s7 s8 s9 y0 y1 y2 y3 y4 y5 y6 y7 y8 y9 yl; (have HR3 := Lib.hid (HR2.out.put10 HN2.out (.int .i64 e.reign) (.int .i64 e.order.client) (.int .i64 e.order.seq) (.int .i64 e.order.deed.kind) (.string e.order.deed.name) (.int .i64 e.order.deed.ed.ma) (.int .i64 e.order.deed.ed.mi) (.int .i64 e.order.deed.ed.pa) (.string e.order.deed.page) (.int .i64 e.order.deed.who))); (try simp only [Act.put, List.setIfInBounds_toArray, List.set_cons_zero, List.set_cons_succ]))
      | (refine seq_call (by simp only [List.getElem?_toArray, List.getElem?_cons_succ, List.getElem?_cons_zero]; first | done | rfl) (by rfl) (fun K hK => ?_); (obtain ⟨s0, s1, s2, s3, s4, s5, s6, s7, s8, s9⟩ := (HR.out.get (R := w.heap.size) (C := z10) (by simp)).1.ten); (have y0 := (HR.out.get (R := w.heap.size) (C := z10) (by simp)).2 0); (have y1 := (HR.out.get (R := w.heap.size) (C := z10) (by simp)).2 1); (have y2 := (HR.out.get (R := w.heap.size) (C := z10) (by simp)).2 2); (have y3 := (HR.out.get (R := w.heap.size) (C := z10) (by simp)).2 3); (have y4 := (HR.out.get (R := w.heap.size) (C := z10) (by simp)).2 4); (have y5 := (HR.out.get (R := w.heap.size) (C := z10) (by simp)).2 5); (have y6 := (HR.out.get (R := w.heap.size) (C := z10) (by simp)).2 6); (have y7 := (HR.out.get (R := w.heap.size) (C := z10) (by simp)).2 7); (have y8 := (HR.out.get (R := w.heap.size) (C := z10) (by simp)).2 8); (have y9 := (HR.out.get (R := w.heap.size) (C := z10) (by simp)).2 9); (have yl := (HR.out.get (R := w.heap.size) (C := z10) (by simp)).1.1); go_simp; refine hK.out _ _ (DrT.sub (HR.out.put10 HN.out (.int .i64 e.reign) (.int .i64 e.order.client) (.int .i64 e.order.seq) (.int .i64 e.order.deed.kind) (.string e.order.deed.name) (.int .i64 e.order.deed.ed.ma) (.int .i64 e.order.deed.ed.mi) (.int .i64 e.order.deed.ed.pa) (.string e.order.deed.page) (.int .i64 e.order.deed.who)) (by simp)) ?_; clear hK hHeld; intro hHeld; clear s0 s1 s2 s3 s4 s5 s6 s7 s8 s9 y0 y1 y2 y3 y4 y5 y6 y7 y8 y9 yl; (have HR2 := Lib.hid (DrT.sub (bx' := [((w.heap.size + 1), z10), (w.heap.size, enC e), (x2.heap.size, enC e)]) (HR.out.put10 HN.out (.int .i64 e.reign) (.int .i64 e.order.client) (.int .i64 e.order.seq) (.int .i64 e.order.deed.kind) (.string e.order.deed.name) (.int .i64 e.order.deed.ed.ma) (.int .i64 e.order.deed.ed.mi) (.int .i64 e.order.deed.ed.pa) (.string e.order.deed.page) (.int .i64 e.order.deed.who)) (by simp))); (clear HR); (generalize World.setCell _ _ _ = wd2 at hHeld HR2 ⊢); (try simp only [Act.put, List.setIfInBounds_toArray, List.set_cons_zero, List.set_cons_succ])))
    refine seq_end ?_
    go_wp2
    exact bodyPost_ret (results_DrawSameEntry e e w.heap.size (w.heap.size + 1) _ _ rfl rfl (HR3.out.get (R := w.heap.size) (C := enC e) (by simp)).1 (HR3.out.get (R := (w.heap.size + 1)) (C := enC e) (by simp)).1) rfl ⟨e, e, rfl, he, he, HR3.out.below⟩
theorem results_DrawObeyedAll (a b v : Value) (R : Nat) (W : World) (tmps : Array Value) (h2 : tmps.getD 2 undef = .pointer (some ⟨R, 0, none⟩)) (h3 : tmps.getD 3 undef = v) (hR : Holds W R #[a, b]) :
    (results Tryz.f7 tmps).run Tryz.prog W = .ok (.tuple #[.agg #[a, b], v]) W := by
  obtain ⟨q0, q1⟩ := hR.two
  simp at h2 h3
  simp [results, Tryz.results7, go_sem, h2, h3, q0, q1]
theorem en_one (l : List M.En) : ∀ u ∈ cellsOf enL l, u.oneCell' = true := by
  intro u hu
  obtain ⟨c, _, hc⟩ := List.mem_flatMap.1 hu
  simp at hc
  rcases hc with rfl | rfl | rfl | rfl | rfl | rfl | rfl | rfl | rfl | rfl <;> rfl
theorem one_flatEn (w : World) (c : M.En) (t : TypeId) : Ens (w.alloc (.cells (enC c) t)) (some ⟨w.heap.size, 0, none⟩) [c] := by
  refine .inr ⟨w.heap.size, 0, rfl, by simp, fun i t' x u hi hu => ?_⟩
  have h := (holds_new w (enC c) t).2
  rcases i with _ | i
  · simp at hi
    subst hi
    rw [Nat.zero_mul, Nat.add_zero, Nat.zero_add]
    exact h t' u (by simpa using hu)
  · simp at hi
/-- What is known while the list is drawn. -/
structure DrawObeyedAllNow (w : World) (g b0 b1 : Nat) (A1 : Option Addr) (c1 : Nat) (A2 : Option Addr) (c2 : Nat) (rs : List Wr) (ls : List M.La) (v : Value) (l : List M.En) (x : World) : Prop where
  mem : DrT w g [(b1, (bkA A1 rs.length c1 A2 ls.length c2)), (w.heap.size, (bkA none 0 0 none 0 0))] x
  sf : SfOwn b0 x (.slice A1 rs.length c1) rs
  la : LasOwn b0 x (.slice A2 ls.length c2) ls
  own : EnsOwn (b1 + 1) x v l
  ok : ∀ y ∈ l, enIn 64 y
theorem DrawObeyedAll_rows {w : World} {B m c : Nat} {A : Option Addr} {l : List M.En} (h : EnsOwn B w (.slice A m c) l) : Ens w A l ∧ l.length ≤ c := by
  obtain ⟨A', c', hv, hle, hf⟩ := own_flat enL_len h
  have hA : A = A' := by injection hv
  have hC : c = c' := by injection hv
  rw [hA, hC]; exact ⟨hf, hle⟩
set_option maxHeartbeats 8000000 in
theorem DrawObeyedAll_any (w : World) (a : Option Addr) (len cap : Nat) (hl : len ≤ 4096) (hc : CodeOk w.heap.size w a len) :
    Calls Tryz.prog 7 #[.slice a len cap] w fun r w' => ∃ (bv : Value) (A : Option Addr) (l : List M.En) (c : Nat), r = .returned (.tuple #[bv, .slice A l.length c]) ∧ BkTop w w' bv ∧ (Ens w' A l ∧ l.length ≤ c) ∧ l.length ≤ 401 ∧ (∀ y ∈ l, enIn 64 y) ∧ Below w.heap.size w w' := by
  obtain ⟨i0, hi, hz0, hz1, hz2⟩ := info_parts infoEns
  have hm0 := (Mem.start w).new (bkA none 0 0 none 0 0) 27
  go_enter Tryz.func7, Tryz.ntmps7
  go_wp2_with fail
  refine (l1New_any w.heap.size _ a len cap (by simp <;> omega) hl (hc.alloc (Nat.le_refl _) _)).mono ?_
  rintro r x1 ⟨rfl, hc1, hg1⟩
  have hm := DrT.start hm0 (by simp) hg1 hc1
  simp only [World.size_alloc] at hm
  have hsz : w.heap.size + 1 < x1.heap.size := by have := hc1.2.1; simpa using this
  clear hm0 hc1 hg1 hc
  go_wp2_with fail
  refine (l6DrawBookAny_any _ _ _ hm.cur).mono ?_
  rintro r x2 ⟨A1, c1, A2, c2, rs, ls, rfl, hs, hla, -, hz, hlz, -, hc2, hg2⟩
  have hsz2 : x1.heap.size ≤ x2.heap.size := hg2.size
  have HLT : Hid ((∀ k, blocksS (.slice A1 rs.length c1) rs k → k < x2.heap.size) ∧ ∀ k, (Value.slice A2 ls.length c2).ownBlock = some k → k < x2.heap.size) := Lib.hid ⟨fun k hk => (hs.ge hk).2, fun k hk => (World.ownsRow.lt hla k hk).2⟩
  have bq := (Below.refl x2.heap.size x2).alloc (Nat.le_refl _) (.cells (bkA A1 rs.length c1 A2 ls.length c2) 27)
  replace hm := (hm.by hg2 hc2).new (bkA A1 rs.length c1 A2 ls.length c2) 27
  have HS := Lib.hid (hs.below bq)
  have HL := Lib.hid (LasOwn.below hla bq)
  have HZ := Lib.hid (show _ ∧ _ from ⟨hz, hlz⟩)
  clear hc2 hg2 hs hla hz hlz bq
  have bs := (Below.refl (x2.alloc (.cells (bkA A1 rs.length c1 A2 ls.length c2) 27)).heap.size (x2.alloc (.cells (bkA A1 rs.length c1 A2 ls.length c2) 27))).alloc (Nat.le_refl _) (.cells #[] 35)
  have ho0 := World.ownsRow_made (size := 10) (e := 35) (x2.alloc (.cells (bkA A1 rs.length c1 A2 ls.length c2) 27)) #[] 0 (base := x2.heap.size + 1) (by simp) (Nat.zero_le _) rfl
  have HST : Hid (DrawObeyedAllNow w (w.heap.size + 1) x1.heap.size x2.heap.size A1 c1 A2 c2 rs ls (.slice (some ⟨(x2.alloc (.cells (bkA A1 rs.length c1 A2 ls.length c2) 27)).heap.size, 0, none⟩) 0 0) [] ((x2.alloc (.cells (bkA A1 rs.length c1 A2 ls.length c2) 27)).alloc (.cells #[] 35))) := Lib.hid ⟨hm.belowB bs, HS.out.below bs, LasOwn.below HL.out bs, ho0, by simp⟩
  simp only [World.size_alloc] at HST
  clear hm HS HL ho0 bs
  go_wp2_with fail
  refine (l1Below_any _ _ _ HST.out.mem.cur 6 (by omega) (by omega)).mono ?_
  rintro r x3 ⟨n0, hn0, hn1, rfl, hc3, hg3⟩
  replace HST : Hid (DrawObeyedAllNow w (w.heap.size + 1) x1.heap.size x2.heap.size A1 c1 A2 c2 rs ls (.slice (some ⟨x2.heap.size + 1, 0, none⟩) 0 0) [] x3) := Lib.hid ⟨HST.out.mem.by hg3 hc3, HST.out.sf.by hg3 (by omega), own_by HST.out.la hg3 (by omega), own_by HST.out.own hg3 (by omega), by simp⟩
  clear hc3 hg3
  go_wp2_with fail
  go_loopw [6, 7] (fun s6 s7 wr => ∃ (A6 : Option Addr) (c6 : Nat) (l : List M.En) (n : Int), s6 = .slice A6 l.length c6 ∧ s7 = .int .i64 n ∧ 0 ≤ n ∧ l.length + n ≤ 5 ∧ DrawObeyedAllNow w (w.heap.size + 1) x1.heap.size x2.heap.size A1 c1 A2 c2 rs ls (.slice A6 l.length c6) l wr) (fun _ n _ => (intOf n).toNat)
  case atStart => exact ⟨_, _, [], n0, rfl, rfl, hn0, by simp only [List.length_nil]; omega, HST.out⟩
  case round =>
    clear HST
    obtain ⟨A6, c6, l, n, rfl, rfl, hn2, hn3, hnow⟩ := hrel
    have HN := Lib.hid hnow
    clear hnow
    by_cases hlt : 0 < n
    · go_wp2_with fail
      refine (l7DrawAny_any _ _ _ HN.out.mem.cur).mono ?_
      rintro r x4 ⟨e, ho, rfl, hc4, hg4⟩
      have HN4 : Hid (DrawObeyedAllNow w (w.heap.size + 1) x1.heap.size x2.heap.size A1 c1 A2 c2 rs ls (.slice A6 l.length c6) l x4) := Lib.hid ⟨HN.out.mem.by hg4 hc4, HN.out.sf.by hg4 (by omega), own_by HN.out.la hg4 (by omega), own_by HN.out.own hg4 (by omega), HN.out.ok⟩
      have hx4 : x2.heap.size < x4.heap.size := (HN4.out.mem.get (List.mem_cons_self)).1.1
      clear hc4 hg4 HN
      go_wp2_with (at_builtin; refine wpList_append_flat_at (k := 10) (enc := enL) (l := [e]) rfl _ _ 42 rfl (x2.heap.size + 1) 35 i0 _ 96 Tryz.underlying42 hi hz0 hz1 hz2 rfl (by decide) _ l.length (cellsOf enL l) rfl (World.ownsRow.alloc HN4.out.own _) (some ⟨x4.heap.size, 0, none⟩) 1 rfl (fun h => by cases h) (one_flatEn x4 e _) enL_len (en_one _) (by simp only [List.length_singleton]; unfold maxLen; omega) (by simp only [List.length_singleton]; omega) (by simp; omega) ?_; intro v9 w9 own9 grow9 at9)
      obtain ⟨A9, c9, rfl⟩ := row_form own9
      have hkb := fun k (hk : (Value.slice A6 l.length c6).ownBlock = some k) => (World.ownsRow.lt HN4.out.own k hk).1
      have bq := (Below.refl x4.heap.size x4).alloc (Nat.le_refl _) (.cells (enC e) 35)
      have HN9 : Hid (DrawObeyedAllNow w (w.heap.size + 1) x1.heap.size x2.heap.size A1 c1 A2 c2 rs ls (.slice A9 (l.length + 1) c9) (l ++ [e]) w9) := Lib.hid ⟨(HN4.out.mem.belowB bq).byRow grow9 (fun k hk => ⟨by have := hkb k hk; omega, by have := hkb k hk; omega, fun p hp e => by have := hkb k hk; simp at hp; rcases hp with rfl | rfl <;> simp at e <;> omega⟩), (HN4.out.sf.below bq).kept grow9 (fun k hk hb => by have := hkb k hk; have := HLT.out.1 k hb; omega), World.ownsRow.kept (LasOwn.below HN4.out.la bq) grow9 (own_two (fun k hk e => by have := hkb k e; have := HLT.out.2 k hk; omega)), by (show World.ownsRow _ _ _ _ _ _ _); rw [List.length_append, cellsOf_append]; exact own9, fun y hy => by rcases List.mem_append.1 hy with hy | hy; exact HN4.out.ok y hy; obtain rfl := List.mem_singleton.1 hy; exact ho⟩
      clear own9 grow9 at9 hkb bq HN4
      go_roundw
      case rel =>
        refine ⟨A9, c9, l ++ [e], n - 1, by rw [List.length_append] <;> rfl, by go_num, by omega, by rw [List.length_append]; simp only [List.length_singleton]; omega, ?_⟩
        rw [List.length_append]
        exact HN9.out
      case measure => simp [intOf]; omega
    · go_wp2_with fail
      refine (l1Once_any _ _ _ HN.out.mem.cur 60 (by omega) (by omega)).mono ?_
      rintro r x4 ⟨b, rfl, hc4, hg4⟩
      have HN4 : Hid (DrawObeyedAllNow w (w.heap.size + 1) x1.heap.size x2.heap.size A1 c1 A2 c2 rs ls (.slice A6 l.length c6) l x4) := Lib.hid ⟨HN.out.mem.by hg4 hc4, HN.out.sf.by hg4 (by omega), own_by HN.out.la hg4 (by omega), own_by HN.out.own hg4 (by omega), HN.out.ok⟩
      clear hc4 hg4 HN
      cases b
      · have HM := Lib.hid HN4.out.mem
        obtain ⟨p0, p1⟩ := (HM.out.get (R := x2.heap.size) (C := (bkA A1 rs.length c1 A2 ls.length c2)) (by simp)).1.two
        have z0 := (HM.out.get (R := x2.heap.size) (C := (bkA A1 rs.length c1 A2 ls.length c2)) (by simp)).2 0
        have z1 := (HM.out.get (R := x2.heap.size) (C := (bkA A1 rs.length c1 A2 ls.length c2)) (by simp)).2 1
        have zl := (HM.out.get (R := x2.heap.size) (C := (bkA A1 rs.length c1 A2 ls.length c2)) (by simp)).1.1
        obtain ⟨q0, q1⟩ := (HM.out.get (R := w.heap.size) (C := (bkA none 0 0 none 0 0)) (by simp)).1.two
        have y0 := (HM.out.get (R := w.heap.size) (C := (bkA none 0 0 none 0 0)) (by simp)).2 0
        have y1 := (HM.out.get (R := w.heap.size) (C := (bkA none 0 0 none 0 0)) (by simp)).2 1
        have yl := (HM.out.get (R := w.heap.size) (C := (bkA none 0 0 none 0 0)) (by simp)).1.1
        go_wp2
        have hF := (DrT.sub (bx' := [(w.heap.size, (bkA none 0 0 none 0 0))]) HM.out (by simp)).put2 (by simp) (.slice A1 rs.length c1) (.slice A2 ls.length c2)
        exact bodyPost_ret (results_DrawObeyedAll _ _ (.slice A6 l.length c6) w.heap.size _ _ rfl rfl (hF.get (List.mem_cons_self)).1) rfl ⟨_, A6, l, c6, rfl, ⟨A1, c1, A2, c2, rs, ls, rfl, ((HN4.out.sf.set (by omega) 0 _).set (by omega) 1 _).mono (by omega), LasOwn.mono (own_set (own_set HN4.out.la (by omega) 0 _) (by omega) 1 _) (by omega), HZ.out.1, HZ.out.2⟩, DrawObeyedAll_rows (own_set (own_set HN4.out.own (by omega) 0 _) (by omega) 1 _), by omega, HN4.out.ok, hF.below⟩
      · go_wp2_with fail
        refine (l1Below_any _ _ _ HN4.out.mem.cur 2 (by omega) (by omega)).mono ?_
        rintro r x5 ⟨u, hu0, hu1, rfl, hc5, hg5⟩
        have HM5 := Lib.hid (HN4.out.mem.by hg5 hc5)
        have HS5 := Lib.hid (HN4.out.sf.by hg5 (by omega))
        have HL5 := Lib.hid (own_by HN4.out.la hg5 (by omega))
        have hx5 : x2.heap.size < x5.heap.size := (HM5.out.get (List.mem_cons_self)).1.1
        clear hc5 hg5 HN4
        obtain ⟨k, hk⟩ : ∃ k : Nat, u = (k : Int) := ⟨u.toNat, by omega⟩
        subst hk
        go_wp2_with (at_make; refine wpList_make_full _ rfl _ _ 42 rfl (x2.heap.size + 1) 35 i0 _ 10 Tryz.underlying42 hi hz0 hz1 .i64 .i64 _ _ (400 + k) rfl rfl (by omega) (by omega) (by rw [hz2]; omega) (by unfold maxLen; omega) (by omega) ?_; intro w9 own9 grow9; refine stop_mk ?_)
        refine stop_un ?_
        have hr9 : EnsOwn (x2.heap.size + 1) w9 (.slice (some ⟨x5.heap.size, 0, none⟩) (400 + k) (400 + k)) (List.replicate (400 + k) (⟨0, ⟨0, 0, ⟨0, ⟨#[]⟩, ⟨0, 0, 0⟩, ⟨#[]⟩, 0⟩⟩⟩ : M.En)) := by
          show World.ownsRow _ _ _ _ _ _ _
          rw [List.length_replicate, ← made_flat enL (⟨0, ⟨0, 0, ⟨0, ⟨#[]⟩, ⟨0, 0, 0⟩, ⟨#[]⟩, 0⟩⟩⟩ : M.En) 10 rfl (400 + k)]
          exact own9
        have bq : Below x5.heap.size x5 w9 := (Below.refl _ _).grown grow9 (Nat.le_refl _) (fun k hk => by cases hk)
        have HM := Lib.hid (HM5.out.belowB bq)
        have HS := Lib.hid (HS5.out.below bq)
        have HL := Lib.hid (LasOwn.below HL5.out bq)
        have HR := Lib.hid hr9
        clear own9 grow9 hr9 bq HM5 HS5 HL5
        obtain ⟨p0, p1⟩ := (HM.out.get (R := x2.heap.size) (C := (bkA A1 rs.length c1 A2 ls.length c2)) (by simp)).1.two
        have z0 := (HM.out.get (R := x2.heap.size) (C := (bkA A1 rs.length c1 A2 ls.length c2)) (by simp)).2 0
        have z1 := (HM.out.get (R := x2.heap.size) (C := (bkA A1 rs.length c1 A2 ls.length c2)) (by simp)).2 1
        have zl := (HM.out.get (R := x2.heap.size) (C := (bkA A1 rs.length c1 A2 ls.length c2)) (by simp)).1.1
        obtain ⟨q0, q1⟩ := (HM.out.get (R := w.heap.size) (C := (bkA none 0 0 none 0 0)) (by simp)).1.two
        have y0 := (HM.out.get (R := w.heap.size) (C := (bkA none 0 0 none 0 0)) (by simp)).2 0
        have y1 := (HM.out.get (R := w.heap.size) (C := (bkA none 0 0 none 0 0)) (by simp)).2 1
        have yl := (HM.out.get (R := w.heap.size) (C := (bkA none 0 0 none 0 0)) (by simp)).1.1
        go_wp2
        have hF := (DrT.sub (bx' := [(w.heap.size, (bkA none 0 0 none 0 0))]) HM.out (by simp)).put2 (by simp) (.slice A1 rs.length c1) (.slice A2 ls.length c2)
        exact bodyPost_ret (results_DrawObeyedAll _ _ (.slice (some ⟨x5.heap.size, 0, none⟩) (400 + k) (400 + k)) w.heap.size _ _ rfl rfl (hF.get (List.mem_cons_self)).1) rfl ⟨_, some ⟨x5.heap.size, 0, none⟩, List.replicate (400 + k) (⟨0, ⟨0, 0, ⟨0, ⟨#[]⟩, ⟨0, 0, 0⟩, ⟨#[]⟩, 0⟩⟩⟩ : M.En), 400 + k, by rw [List.length_replicate], ⟨A1, c1, A2, c2, rs, ls, rfl, ((HS.out.set (by omega) 0 _).set (by omega) 1 _).mono (by omega), LasOwn.mono (own_set (own_set HL.out (by omega) 0 _) (by omega) 1 _) (by omega), HZ.out.1, HZ.out.2⟩, DrawObeyedAll_rows (own_set (own_set HR.out (by omega) 0 _) (by omega) 1 _), by rw [List.length_replicate]; omega, fun y hy => by rw [(List.mem_replicate.1 hy).2]; exact ⟨Nat.zero_le _, Nat.zero_le _⟩, hF.below⟩
end Go.Proofs.YtkpbfocnokbmiaaGreat
