/- Proved, in parts: Proved: what the model draws for the laws on orders: a small book in new memory, orders with short texts; nothing that was there is written. No condition. Proved: what the law on an order that is given twice asks of the plain function; a drawn book can be read; no program is named here; no condition. Proved: the language's own test tells a copy like itself; no condition. Proved: the laws' own test tells a work like itself; what a law knows of its boxes and lists stays behind calls; nothing that was there is written. Proved: the laws' own test tells a reply like itself; it writes nothing that was there. No condition. Proved: the laws' helpers on lists of records of the type Reply (their size, their copy, their likeness) answer plain Lean functions; they write nothing that was there. Condition: lists of at most a million. -/
import Derived.Test.YtblcgbgcccjpcaaGreatPart45
import Derived.Test.YtblcgbgcccjpcaaGreatPart49
import Derived.Test.YtblcgbgcccjpcaaGreatPart30
import Derived.Test.YtblcgbgcccjpcaaGreatPart43
import Derived.Test.YtblcgbgcccjpcaaGreatPart03
import Derived.Calls
import Derived.KernelRfl
import Derived.Test.YtblcgbgcccjpcaaGreatPart44
import Derived.Test.YtblcgbgcccjpcaaGreatPart22
import Derived.Test.YtblcgbgcccjpcaaGreatPart17
namespace Go.Proofs.YtblcgbgcccjpcaaGreat
open Go.RowKit
set_option maxRecDepth 20000
set_option linter.unusedVariables false
/-- A drawn book, right or not. -/
def BkTop (w w' : World) (v : Value) : Prop :=
  ∃ (A1 : Option Addr) (c1 : Nat) (A2 : Option Addr) (c2 : Nat) (rs : List Wr) (ls : List M.La), v = bkV A1 rs.length c1 A2 ls.length c2 ∧ SfOwn w.heap.size w' (.slice A1 rs.length c1) rs ∧ LasOwn w.heap.size w' (.slice A2 ls.length c2) ls ∧ (rs.length ≤ 6 ∧ WrsIn 64 rs) ∧ (ls.length ≤ 7 ∧ ∀ x ∈ ls, laIn 64 x)
theorem DrT.byRow {w0 : World} {g : Nat} {bx : List (Nat × Array Value)} {x y : World} {row : Option Nat} (h : DrT w0 g bx x) (hg : x.grownBy y row) (hr : ∀ k, row = some k → w0.heap.size ≤ k ∧ k ≠ g ∧ ∀ p ∈ bx, p.1 ≠ k) : DrT w0 g bx y := by
  refine ⟨h.low, h.below.grown hg h.below.size (fun k e => (hr k e).1), h.cur.kept hg (fun k e => ⟨fun e' => (hr k e).2.1 e'.symm, (hr k e).1⟩), fun p hp => ?_⟩
  obtain ⟨h1, h0, h2, h3⟩ := h.box p hp
  have hb : y.heap[p.1]? = x.heap[p.1]? := hg.block p.1 h2.1 (fun e => (hr p.1 e.symm).2.2 p hp rfl)
  exact ⟨h1, h0, ⟨Nat.lt_of_lt_of_le h2.1 hg.size, fun j v hj => (World.cell?_of_block (a := ⟨p.1, j, none⟩) hb).trans (h2.2 j v hj)⟩, fun j => (World.frozen?_of_block (a := ⟨p.1, j, none⟩) hb).trans (h3 j)⟩
theorem results_DrawOrdered (a b : Value) (o : M.Or) (R T : Nat) (W : World) (tmps : Array Value) (h2 : tmps.getD 2 undef = .pointer (some ⟨R, 0, none⟩)) (h3 : tmps.getD 3 undef = .pointer (some ⟨T, 0, none⟩)) (hR : Holds W R #[a, b]) (hT : Holds W T (orC o)) :
    (results Tryz.f16 tmps).run Tryz.prog W = .ok (.tuple #[.agg #[a, b], orV o]) W := by
  obtain ⟨q0, q1⟩ := hR.two
  obtain ⟨r0, r1, r2, r3, r4, r5, r6, r7, r8⟩ := hT.nine
  simp at h2 h3
  simp [results, Tryz.results16, go_sem, h2, h3, q0, q1, r0, r1, r2, r3, r4, r5, r6, r7, r8]
set_option maxHeartbeats 4000000 in
theorem DrawOrdered_any (w : World) (a : Option Addr) (len cap : Nat) (hl : len ≤ 4096) (hc : CodeOk w.heap.size w a len) :
    Calls Tryz.prog 16 #[.slice a len cap] w fun r w' => ∃ (bv : Value) (o : M.Or), r = .returned (.tuple #[bv, orV o]) ∧ BkTop w w' bv ∧ orIn 64 o ∧ Below w.heap.size w w' := by
  have hm0 := ((Mem.start w).new (bkA none 0 0 none 0 0) 27).new z9 41
  go_enter Tryz.func16, Tryz.ntmps16
  go_wp2_with fail
  refine (l1New_any w.heap.size _ a len cap (by simp <;> omega) hl ((hc.alloc (Nat.le_refl _) _).alloc (by simp <;> omega) _)).mono ?_
  rintro r x1 ⟨rfl, hc1, hg1⟩
  have hm := DrT.start hm0 (by simp) hg1 hc1
  simp only [World.size_alloc] at hm
  have hsz : w.heap.size + 1 + 1 < x1.heap.size := by have := hc1.2.1; simpa using this
  clear hm0 hc1 hg1 hc
  go_wp2_with fail
  refine (l6DrawBookAny_any _ _ _ hm.cur).mono ?_
  rintro r x2 ⟨A1, c1, A2, c2, rs, ls, rfl, hs, hla, -, hz, hlz, -, hc2, hg2⟩
  have hsz2 : x1.heap.size ≤ x2.heap.size := hg2.size
  have HLT : Hid ((∀ k, blocksS (.slice A1 rs.length c1) rs k → k < x2.heap.size) ∧ ∀ k, (Value.slice A2 ls.length c2).ownBlock = some k → k < x2.heap.size) := Lib.hid ⟨fun k hk => (hs.ge hk).2, fun k hk => (World.ownsRow.lt hla k hk).2⟩
  have bq := (Below.refl x2.heap.size x2).alloc (Nat.le_refl _) (.cells (bkA A1 rs.length c1 A2 ls.length c2) 27)
  replace hm := (hm.by hg2 hc2).new (bkA A1 rs.length c1 A2 ls.length c2) 27
  have HS := Lib.hid (hs.below bq)
  have HL := Lib.hid (LasOwn.below hla bq)
  have HZ := Lib.hid (show _ ∧ _ from ⟨hz, hlz⟩)
  clear hc2 hg2 hs hla hz hlz bq
  go_wp2_with fail
  refine (l6DrawAny_any _ _ _ hm.cur).mono ?_
  rintro r x3 ⟨o, ho, rfl, hc3, hg3⟩
  have hsz3 : x2.heap.size < x3.heap.size := by have := hg3.size; simp at this; omega
  have bq := (Below.refl x3.heap.size x3).alloc (Nat.le_refl _) (.cells (orC o) 41)
  replace hm := (hm.by hg3 hc3).new (orC o) 41
  replace HS := Lib.hid ((HS.out.by hg3 (by omega)).below bq)
  replace HL := Lib.hid (LasOwn.below (own_by HL.out hg3 (by omega)) bq)
  clear hc3 hg3 bq
  go_wp2_with fail
  refine (l1Once_any _ _ _ hm.cur 3 (by omega) (by omega)).mono ?_
  rintro r x4 ⟨b, rfl, hc4, hg4⟩
  replace hm := hm.by hg4 hc4
  replace HS := Lib.hid (HS.out.by hg4 (by omega))
  replace HL := Lib.hid (own_by HL.out hg4 (by omega))
  clear hc4 hg4
  go_upto_if 14 with (fail)
  go_cut [14] (fun _ wx => ∃ o, orIn 64 o ∧ DrT w (w.heap.size + 1 + 1) [(x3.heap.size, orC o), (x2.heap.size, (bkA A1 rs.length c1 A2 ls.length c2)), ((w.heap.size + 1), z9), (w.heap.size, (bkA none 0 0 none 0 0))] wx ∧ SfOwn x1.heap.size wx (.slice A1 rs.length c1) rs ∧ LasOwn x1.heap.size wx (.slice A2 ls.length c2) ls)
  case first =>
    cases b
    · have HM := Lib.hid hm
      clear hm
      go_wp2
      go_meet
      exact ⟨o, ho, HM.out, HS.out, HL.out⟩
    · have HM := Lib.hid hm
      obtain ⟨p0, p1, p2, p3, p4, p5, p6, p7, p8⟩ := (hm.get (R := x3.heap.size) (C := orC o) (by simp)).1.nine
      have z0 := (hm.get (R := x3.heap.size) (C := orC o) (by simp)).2 0
      have z1 := (hm.get (R := x3.heap.size) (C := orC o) (by simp)).2 1
      have z2 := (hm.get (R := x3.heap.size) (C := orC o) (by simp)).2 2
      have z3 := (hm.get (R := x3.heap.size) (C := orC o) (by simp)).2 3
      have z4 := (hm.get (R := x3.heap.size) (C := orC o) (by simp)).2 4
      have z5 := (hm.get (R := x3.heap.size) (C := orC o) (by simp)).2 5
      have z6 := (hm.get (R := x3.heap.size) (C := orC o) (by simp)).2 6
      have z7 := (hm.get (R := x3.heap.size) (C := orC o) (by simp)).2 7
      have z8 := (hm.get (R := x3.heap.size) (C := orC o) (by simp)).2 8
      have zl := (hm.get (R := x3.heap.size) (C := orC o) (by simp)).1.1
      clear hm
      go_wp2
      go_meet
      exact ⟨⟨o.client, 9, o.deed⟩, ho, HM.out.put (by simp; omega) 1 (.int .i64 9), HS.out.offN (fun h => by have := HLT.out.1 _ h; omega) 1 _, own_off HL.out (fun h => by have := HLT.out.2 _ h; omega) 1 _⟩
  case rest =>
    clear hm ho HS HL
    obtain ⟨o', ho, hm, hs, hl2⟩ := hcut
    have HS := Lib.hid (show SfOwn x1.heap.size wc.drew (.slice A1 rs.length c1) rs from hs)
    have HL := Lib.hid (show LasOwn x1.heap.size wc.drew (.slice A2 ls.length c2) ls from hl2)
    have HSS := Lib.hid (DrT.sub (bx' := [(x3.heap.size, orC o'), (x2.heap.size, (bkA A1 rs.length c1 A2 ls.length c2))]) hm.drew (by simp))
    have HR := Lib.hid (DrT.sub (bx' := [(w.heap.size, (bkA none 0 0 none 0 0)), ((w.heap.size + 1), z9), (x3.heap.size, orC o'), (x2.heap.size, (bkA A1 rs.length c1 A2 ls.length c2))]) hm.drew (by simp))
    have HN : Hid (∀ p ∈ [((w.heap.size + 1), z9), (x3.heap.size, orC o'), (x2.heap.size, (bkA A1 rs.length c1 A2 ls.length c2))], p.1 ≠ w.heap.size) := Lib.hid (by simp; omega)
    have HN2 : Hid (∀ p ∈ [(w.heap.size, (bkA A1 rs.length c1 A2 ls.length c2)), (x3.heap.size, orC o'), (x2.heap.size, (bkA A1 rs.length c1 A2 ls.length c2))], p.1 ≠ (w.heap.size + 1)) := Lib.hid (by simp; omega)
    clear hm hs hl2
    go_upto_region 6 with (fail)
    refine wp_region_seq (fun x => DrT w (w.heap.size + 1 + 1) [(x3.heap.size, orC o'), (x2.heap.size, (bkA A1 rs.length c1 A2 ls.length c2))] x) [(0, true), (1, true), (2, false), (3, false)] (by kernel_rfl) (by kernel_rfl) (fun _ _ _ _ _ h => h) (by kernel_rfl) (by decide) HSS.out ?_
    intro hHeld
    generalize World.drew _ = wd at hHeld HR HS HL ⊢
    repeat (first
      | (refine seq_skip (by simp only [List.getElem?_toArray, List.getElem?_cons_succ, List.getElem?_cons_zero]; first | done | rfl) (by rfl) ?_; (try simp only [Act.put, List.setIfInBounds_toArray, List.set_cons_zero, List.set_cons_succ]))
      | (refine seq_reads (by simp only [List.getElem?_toArray, List.getElem?_cons_succ, List.getElem?_cons_zero]; first | done | rfl) (by rfl) ?_; apply Exists.intro; apply And.intro; (focus (intro w hSw; (try (obtain ⟨k0, k1⟩ := (hSw.get (R := x2.heap.size) (C := (bkA A1 rs.length c1 A2 ls.length c2)) (by simp)).1.two)); (try (obtain ⟨m0, m1, m2, m3, m4, m5, m6, m7, m8⟩ := (hSw.get (R := x3.heap.size) (C := orC o') (by simp)).1.nine)); go_simp; (try with_reducible rfl); done)); (try simp only [Act.put, List.setIfInBounds_toArray, List.set_cons_zero, List.set_cons_succ]))
      | (refine seq_pass (by simp only [List.getElem?_toArray, List.getElem?_cons_succ, List.getElem?_cons_zero]; first | done | rfl) (by rfl) hHeld ?_; clear hHeld; intro hHeld; (try simp only [Act.put, List.setIfInBounds_toArray, List.set_cons_zero, List.set_cons_succ]))
      | (refine seq_call (by simp only [List.getElem?_toArray, List.getElem?_cons_succ, List.getElem?_cons_zero]; first | done | rfl) (by rfl) (fun K hK => ?_); (obtain ⟨s0, s1⟩ := (HR.out.get (R := w.heap.size) (C := (bkA none 0 0 none 0 0)) (by simp)).1.two); (have y0 := (HR.out.get (R := w.heap.size) (C := (bkA none 0 0 none 0 0)) (by simp)).2 0); (have y1 := (HR.out.get (R := w.heap.size) (C := (bkA none 0 0 none 0 0)) (by simp)).2 1); (have yl := (HR.out.get (R := w.heap.size) (C := (bkA none 0 0 none 0 0)) (by simp)).1.1); go_simp; refine hK.out _ _ (DrT.sub (HR.out.put2 HN.out (.slice A1 rs.length c1) (.slice A2 ls.length c2)) (by simp)) ?_; clear hK hHeld; intro hHeld; clear s0 s1 y0 y1 yl; (have HR2 := Lib.hid (DrT.sub (bx' := [((w.heap.size + 1), z9), (w.heap.size, (bkA A1 rs.length c1 A2 ls.length c2)), (x3.heap.size, orC o'), (x2.heap.size, (bkA A1 rs.length c1 A2 ls.length c2))]) (HR.out.put2 HN.out (.slice A1 rs.length c1) (.slice A2 ls.length c2)) (by simp))); (try simp only [Act.put, List.setIfInBounds_toArray, List.set_cons_zero, List.set_cons_succ]))
      | (refine seq_call (by simp only [List.getElem?_toArray, List.getElem?_cons_succ, List.getElem?_cons_zero]; first | done | rfl) (by rfl) (fun K hK => ?_); (obtain ⟨s0, s1, s2, s3, s4, s5, s6, s7, s8⟩ := (HR2.out.get (R := (w.heap.size + 1)) (C := z9) (by simp)).1.nine); (have y0 := (HR2.out.get (R := (w.heap.size + 1)) (C := z9) (by simp)).2 0); (have y1 := (HR2.out.get (R := (w.heap.size + 1)) (C := z9) (by simp)).2 1); (have y2 := (HR2.out.get (R := (w.heap.size + 1)) (C := z9) (by simp)).2 2); (have y3 := (HR2.out.get (R := (w.heap.size + 1)) (C := z9) (by simp)).2 3); (have y4 := (HR2.out.get (R := (w.heap.size + 1)) (C := z9) (by simp)).2 4); (have y5 := (HR2.out.get (R := (w.heap.size + 1)) (C := z9) (by simp)).2 5); (have y6 := (HR2.out.get (R := (w.heap.size + 1)) (C := z9) (by simp)).2 6); (have y7 := (HR2.out.get (R := (w.heap.size + 1)) (C := z9) (by simp)).2 7); (have y8 := (HR2.out.get (R := (w.heap.size + 1)) (C := z9) (by simp)).2 8); (have yl := (HR2.out.get (R := (w.heap.size + 1)) (C := z9) (by simp)).1.1); go_simp; refine hK.out _ _ (DrT.sub (HR2.out.put9 HN2.out (.int .i64 o'.client) (.int .i64 o'.seq) (.int .i64 o'.deed.kind) (.string o'.deed.name) (.int .i64 o'.deed.ed.ma) (.int .i64 o'.deed.ed.mi) (.int .i64 o'.deed.ed.pa) (.string o'.deed.page) (.int .i64 o'.deed.who)) (by simp)) ?_; clear hK hHeld; intro hHeld; clear s0 s1 s2 s3 s4 s5 s6 s7 s8 y0 y1 y2 y3 y4 y5 y6 y7 y8 yl; (have HR3 := Lib.hid (HR2.out.put9 HN2.out (.int .i64 o'.client) (.int .i64 o'.seq) (.int .i64 o'.deed.kind) (.string o'.deed.name) (.int .i64 o'.deed.ed.ma) (.int .i64 o'.deed.ed.mi) (.int .i64 o'.deed.ed.pa) (.string o'.deed.page) (.int .i64 o'.deed.who))); (try simp only [Act.put, List.setIfInBounds_toArray, List.set_cons_zero, List.set_cons_succ])))
    refine seq_end ?_
    go_wp2
    exact bodyPost_ret (results_DrawOrdered _ _ o' w.heap.size (w.heap.size + 1) _ _ rfl rfl (HR3.out.get (R := w.heap.size) (C := (bkA A1 rs.length c1 A2 ls.length c2)) (by simp)).1 (HR3.out.get (R := (w.heap.size + 1)) (C := orC o') (by simp)).1) rfl ⟨_, o', rfl, ⟨A1, c1, A2, c2, rs, ls, rfl, (((((((((((HS.out.set (by omega) 0 _).set (by omega) 1 _).set (by omega) 0 _).set (by omega) 1 _).set (by omega) 2 _).set (by omega) 3 _).set (by omega) 4 _).set (by omega) 5 _).set (by omega) 6 _).set (by omega) 7 _).set (by omega) 8 _).mono (by omega), LasOwn.mono (own_set (own_set (own_set (own_set (own_set (own_set (own_set (own_set (own_set (own_set (own_set HL.out (by omega) 0 _) (by omega) 1 _) (by omega) 0 _) (by omega) 1 _) (by omega) 2 _) (by omega) 3 _) (by omega) 4 _) (by omega) 5 _) (by omega) 6 _) (by omega) 7 _) (by omega) 8 _) (by omega), HZ.out.1, HZ.out.2⟩, ho, HR3.out.below⟩
theorem results_DrawLastOf (a b v : Value) (R : Nat) (W : World) (tmps : Array Value) (h2 : tmps.getD 2 undef = .pointer (some ⟨R, 0, none⟩)) (h3 : tmps.getD 3 undef = v) (hR : Holds W R #[a, b]) :
    (results Tryz.f18 tmps).run Tryz.prog W = .ok (.tuple #[.agg #[a, b], v]) W := by
  obtain ⟨q0, q1⟩ := hR.two
  simp at h2 h3
  simp [results, Tryz.results18, go_sem, h2, h3, q0, q1]
set_option maxHeartbeats 4000000 in
theorem DrawLastOf_any (w : World) (a : Option Addr) (len cap : Nat) (hl : len ≤ 4096) (hc : CodeOk w.heap.size w a len) :
    Calls Tryz.prog 18 #[.slice a len cap] w fun r w' => ∃ (bv : Value) (n : Int), r = .returned (.tuple #[bv, .int .i64 n]) ∧ BkTop w w' bv ∧ Below w.heap.size w w' := by
  have hm0 := (Mem.start w).new (bkA none 0 0 none 0 0) 27
  go_enter Tryz.func18, Tryz.ntmps18
  go_wp2_with fail
  refine (l1New_any w.heap.size _ a len cap (by simp <;> omega) hl (hc.alloc (Nat.le_refl _) _)).mono ?_
  rintro r x1 ⟨rfl, hc1, hg1⟩
  have hm := DrT.start hm0 (by simp) hg1 hc1
  simp only [World.size_alloc] at hm
  have hsz : w.heap.size + 1 < x1.heap.size := by have := hc1.2.1; simpa using this
  clear hm0 hc1 hg1 hc
  go_wp2_with fail
  refine (l6DrawBookAny_any _ _ _ hm.cur).mono ?_
  rintro r x2 ⟨A1, c1, A2, c2, rs, ls, rfl, hs, hla, -, hz, hlz, -, hc2, hg2⟩
  have hsz2 : x1.heap.size ≤ x2.heap.size := hg2.size
  have HLT : Hid ((∀ k, blocksS (.slice A1 rs.length c1) rs k → k < x2.heap.size) ∧ ∀ k, (Value.slice A2 ls.length c2).ownBlock = some k → k < x2.heap.size) := Lib.hid ⟨fun k hk => (hs.ge hk).2, fun k hk => (World.ownsRow.lt hla k hk).2⟩
  have bq := (Below.refl x2.heap.size x2).alloc (Nat.le_refl _) (.cells (bkA A1 rs.length c1 A2 ls.length c2) 27)
  replace hm := (hm.by hg2 hc2).new (bkA A1 rs.length c1 A2 ls.length c2) 27
  have HS := Lib.hid (hs.below bq)
  have HL := Lib.hid (LasOwn.below hla bq)
  have HZ := Lib.hid (show _ ∧ _ from ⟨hz, hlz⟩)
  clear hc2 hg2 hs hla hz hlz bq
  have HSS := Lib.hid (DrT.sub (bx' := [(x2.heap.size, (bkA A1 rs.length c1 A2 ls.length c2))]) hm.drew (by simp))
  have HR := Lib.hid (DrT.sub (bx' := [(w.heap.size, (bkA none 0 0 none 0 0)), (x2.heap.size, (bkA A1 rs.length c1 A2 ls.length c2))]) hm.drew (by simp))
  have HN : Hid (∀ p ∈ [(x2.heap.size, (bkA A1 rs.length c1 A2 ls.length c2))], p.1 ≠ w.heap.size) := Lib.hid (by simp; omega)
  replace HS := Lib.hid (show SfOwn x1.heap.size (x2.alloc (.cells (bkA A1 rs.length c1 A2 ls.length c2) 27)).drew (.slice A1 rs.length c1) rs from HS.out)
  replace HL := Lib.hid (show LasOwn x1.heap.size (x2.alloc (.cells (bkA A1 rs.length c1 A2 ls.length c2) 27)).drew (.slice A2 ls.length c2) ls from HL.out)
  clear hm
  go_upto_region 3 with (fail)
  refine wp_region_seq (fun x => DrT w (w.heap.size + 1) [(x2.heap.size, (bkA A1 rs.length c1 A2 ls.length c2))] x) [(0, true), (1, true), (2, false), (3, false), (4, true)] (by kernel_rfl) (by kernel_rfl) (fun _ _ _ _ _ h => h) (by kernel_rfl) (by decide) HSS.out ?_
  intro hHeld
  generalize World.drew _ = wd at hHeld HR HS HL ⊢
  repeat (first
    | (refine seq_skip (by simp only [List.getElem?_toArray, List.getElem?_cons_succ, List.getElem?_cons_zero]; first | done | rfl) (by rfl) ?_; (try simp only [Act.put, List.setIfInBounds_toArray, List.set_cons_zero, List.set_cons_succ]))
    | (refine seq_reads (by simp only [List.getElem?_toArray, List.getElem?_cons_succ, List.getElem?_cons_zero]; first | done | rfl) (by rfl) ?_; apply Exists.intro; apply And.intro; (focus (intro w hSw; (try (obtain ⟨k0, k1⟩ := (hSw.get (R := x2.heap.size) (C := (bkA A1 rs.length c1 A2 ls.length c2)) (by simp)).1.two)); go_simp; (try with_reducible rfl); done)); (try simp only [Act.put, List.setIfInBounds_toArray, List.set_cons_zero, List.set_cons_succ]))
    | (refine seq_pass (by simp only [List.getElem?_toArray, List.getElem?_cons_succ, List.getElem?_cons_zero]; first | done | rfl) (by rfl) hHeld ?_; clear hHeld; intro hHeld; (try simp only [Act.put, List.setIfInBounds_toArray, List.set_cons_zero, List.set_cons_succ]))
    | (refine seq_call (by simp only [List.getElem?_toArray, List.getElem?_cons_succ, List.getElem?_cons_zero]; first | done | rfl) (by rfl) (fun K hK => ?_); go_simp; go_at_call 72; refine (l1From_any _ _ _ hHeld.cur (-1) 4 (by omega) (by omega) (by omega)).mono ?_; rintro r w1 ⟨n, -, -, rfl, hc3, hg3⟩; go_simp; refine hK.out _ _ (hHeld.by hg3 hc3) ?_; clear hK hHeld; intro hHeld; (replace HR := Lib.hid (HR.out.by hg3 hc3)); (replace HS := Lib.hid (HS.out.by hg3 (by omega))); (replace HL := Lib.hid (own_by HL.out hg3 (by omega))); clear hc3 hg3; (try simp only [Act.put, List.setIfInBounds_toArray, List.set_cons_zero, List.set_cons_succ]))
    | (refine seq_call (by simp only [List.getElem?_toArray, List.getElem?_cons_succ, List.getElem?_cons_zero]; first | done | rfl) (by rfl) (fun K hK => ?_); (obtain ⟨s0, s1⟩ := (HR.out.get (R := w.heap.size) (C := (bkA none 0 0 none 0 0)) (by simp)).1.two); (have y0 := (HR.out.get (R := w.heap.size) (C := (bkA none 0 0 none 0 0)) (by simp)).2 0); (have y1 := (HR.out.get (R := w.heap.size) (C := (bkA none 0 0 none 0 0)) (by simp)).2 1); (have yl := (HR.out.get (R := w.heap.size) (C := (bkA none 0 0 none 0 0)) (by simp)).1.1); go_simp; refine hK.out _ _ (DrT.sub (HR.out.put2 HN.out (.slice A1 rs.length c1) (.slice A2 ls.length c2)) (by simp)) ?_; clear hK hHeld; intro hHeld; clear s0 s1 y0 y1 yl; (have HR2 := Lib.hid (HR.out.put2 HN.out (.slice A1 rs.length c1) (.slice A2 ls.length c2))); (try simp only [Act.put, List.setIfInBounds_toArray, List.set_cons_zero, List.set_cons_succ])))
  refine seq_end ?_
  go_wp2
  exact bodyPost_ret (results_DrawLastOf _ _ (.int .i64 n) w.heap.size _ _ rfl rfl (HR2.out.get (R := w.heap.size) (C := (bkA A1 rs.length c1 A2 ls.length c2)) (by simp)).1) rfl ⟨_, n, rfl, ⟨A1, c1, A2, c2, rs, ls, rfl, ((HS.out.set (by omega) 0 _).set (by omega) 1 _).mono (by omega), LasOwn.mono (own_set (own_set HL.out (by omega) 0 _) (by omega) 1 _) (by omega), HZ.out.1, HZ.out.2⟩, HR2.out.below⟩
/-- What is known while the list is drawn. -/
structure DrawAllOrderedNow (w : World) (g b0 b1 : Nat) (A1 : Option Addr) (c1 : Nat) (A2 : Option Addr) (c2 : Nat) (rs : List Wr) (ls : List M.La) (v : Value) (l : List M.Or) (x : World) : Prop where
  mem : DrT w g [(b1, (bkA A1 rs.length c1 A2 ls.length c2)), (w.heap.size, (bkA none 0 0 none 0 0))] x
  sf : SfOwn b0 x (.slice A1 rs.length c1) rs
  la : LasOwn b0 x (.slice A2 ls.length c2) ls
  own : OrsOwn (b1 + 1) x v l
  ok : ∀ y ∈ l, orIn 64 y
end Go.Proofs.YtblcgbgcccjpcaaGreat
namespace Go.Proofs.YtblcgbgcccjpcaaGreat
open Go.RowKit
set_option maxRecDepth 20000
namespace M
theorem lastOf_get {l : List La} {c : Int} {x : La} (h : laGet l c = some x) : lastOf l c = (x, true) := by
  unfold lastOf
  rw [laGet_idx, h]
theorem lastOf_none {l : List La} {c : Int} (h : laGet l c = none) : lastOf l c = (zLa, false) := by
  unfold lastOf
  rw [laGet_idx, h]
theorem ordered_bad {b : Bk} {o : Or} (h : bkOk b.1 b.2 = false ∨ orderOk o = false) : (ordered b o).2.1 = 7 := by
  unfold ordered
  split
  · rename_i hb
    rcases h with h | h
    · rw [h] at hb; cases hb
    · unfold ordI
      rw [if_neg (by simp [h])]
  · rfl
theorem ordered_old {b : Bk} {o : Or} {x : La} (hb : bkOk b.1 b.2 = true) (ho : orderOk o = true) (hx : laGet b.2 o.client = some x) (hs : o.seq < x.seq) : ordered b o = (b, (6, nilB)) := by
  unfold ordered
  rw [if_pos hb, ← ordS_eq hb ho]
  unfold ordS
  rw [laGet_idx, hx]
  simp only
  rw [if_neg (by omega), if_pos hs]
theorem ordered_new {b : Bk} {o : Or} (hb : bkOk b.1 b.2 = true) (ho : orderOk o = true) (hold : ∀ x, laGet b.2 o.client = some x → ¬ o.seq < x.seq) : bkOk (ordered b o).1.1 (ordered b o).1.2 = true ∧ ordered (ordered b o).1 o = ordered b o ∧ ∃ x, lastOf (ordered b o).1.2 o.client = (x, true) ∧ x.seq = o.seq ∧ x.code = (ordered b o).2.1 ∧ x.page = (ordered b o).2.2 := by
  have e : ordered b o = ordI b o := if_pos hb
  have h2 := ordI_ok (o := o) hb
  rw [e]
  obtain ⟨x, h3, h4, h5, h6⟩ := once hb ho hold
  refine ⟨h2, ?_, x, lastOf_get h3, h4, congrArg Prod.fst h5, congrArg Prod.snd h5⟩
  unfold ordered
  rw [if_pos h2, h6]
theorem ordered_eqQ {l : List Wk} {q : Bk × Rp} {o : Or} (h : l = q.1.1) (h2 : ordered q.1 o = q) : ordered (l, q.1.2) o = q := by rw [h]; exact h2
theorem ordered_in {rs : List Wr} {ls : List La} {o : Or} {n : Nat} (hp : WrsIn n rs) (hl : ∀ x ∈ ls, laIn n x) : ∀ x ∈ (ordered (rs.map Wr.wk, ls) o).1.2, laIn n x := by
  unfold ordered
  split
  · exact ordI_in hp hl
  · simp
end M
/-- A book that can be read. -/
def BkR (x : World) (A1 : Option Addr) (rs : List Wr) (A2 : Option Addr) (ls : List M.La) : Prop := Wks x A1 rs ∧ Las x A2 ls
theorem BkR.below {x y : World} {A1 A2 : Option Addr} {rs : List Wr} {ls : List M.La} (h : BkR x A1 rs A2 ls) (hb : Below x.heap.size x y) : BkR y A1 rs A2 ls := ⟨h.1.below hb, h.2.below hb⟩
theorem BkR.alloc {x : World} {A1 A2 : Option Addr} {rs : List Wr} {ls : List M.La} (h : BkR x A1 rs A2 ls) (o : Obj) : BkR (x.alloc o) A1 rs A2 ls := h.below ((Below.refl _ _).alloc (Nat.le_refl _) o)
theorem BkTop.open {w x : World} {v : Value} (h : BkTop w x v) : ∃ A1 c1 A2 c2 rs ls, v = bkV A1 rs.length c1 A2 ls.length c2 ∧ BkR x A1 rs A2 ls ∧ (∀ r ∈ rs, r.ad = none → r.cap = 0) ∧ (A2 = none → c2 = 0) ∧ (rs.length ≤ 6 ∧ WrsIn 64 rs) ∧ (ls.length ≤ 7 ∧ ∀ y ∈ ls, laIn 64 y) := by
  obtain ⟨A1, c1, A2, c2, rs, ls, e, h1, h2, h3, h4⟩ := h
  exact ⟨A1, c1, A2, c2, rs, ls, e, ⟨h1.wks.1, las_of h2⟩, fun r hr k => (h1.2.1 r hr).nilc k, row_nilc h2, h3, h4⟩
/-- OrRet, to be read. -/
theorem OrRet.read {w y : World} {q : M.Bk × M.Rp} {e : Ending} (h : OrRet w q e y) : ∃ A1 c1 A2 c2 rs, e = .returned (.tuple #[bkV A1 rs.length c1 A2 q.1.2.length c2, rpV q.2.1 q.2.2]) ∧ BkR y A1 rs A2 q.1.2 ∧ rs.map Wr.wk = q.1.1 ∧ (∀ r ∈ rs, r.ad = none → r.cap = 0) ∧ (A2 = none → c2 = 0) ∧ Below w.heap.size w y := by
  obtain ⟨v1, v2, rs, e', h1, h2, h3, -, h5⟩ := h
  obtain ⟨A1, c1, rfl, -, -⟩ := h1.open
  obtain ⟨A2, c2, rfl, -, -⟩ := LasOwn.open h3
  exact ⟨A1, c1, A2, c2, rs, e', ⟨h1.wks.1, las_of h3⟩, h2, fun r hr k => (h1.2.1 r hr).nilc k, row_nilc h3, h5⟩
end Go.Proofs.YtblcgbgcccjpcaaGreat
namespace Go.Proofs.YtblcgbgcccjpcaaGreat
open Go.RowKit
set_option maxRecDepth 20000

theorem cp_neq (c : M.Cp) (w : World) : (binOp .neq 48 (cpV c) (cpV c)).run Tryz.prog w = .ok (.bool false) w := by
  simp [go_sem, Tryz.underlying48, Tryz.underlying37, Tryz.underlying2, Tryz.underlying9, Tryz.underlying4]
theorem cpneq_read {A : Act} {o : Oper} {x y : Operand} {c : M.Cp} (ho : o.op = .binOp .neq 48 x y 48) (hx : A.eval x = cpV c) (hy : A.eval y = cpV c) (w : World) :
    (execOp A.eval o).run Tryz.prog w = .ok (.value (.bool false)) w := by
  unfold execOp
  rw [ho]
  have hg := fun (op : BinOp) (x y : Operand) (xs ys : Array Value) (w : World) => run_eqGuard_agg (P := Tryz.prog) w op 48 x y xs ys (by kernel_rfl)
  have he := fun w => cp_neq c w
  simp only [cpV] at he hx hy
  simp only [hx, hy, Sem.run_bind, hg, he, Result.andThen_ok, Sem.run_pure]
end Go.Proofs.YtblcgbgcccjpcaaGreat
namespace Go.Proofs.YtblcgbgcccjpcaaGreat
open Go.RowKit
set_option maxRecDepth 20000

/-- Lists of copies that can be read: where, how much room, which. -/
def Rws (x : World) (rs : List (Option Addr × Nat × List M.Cp)) : Prop := ∀ r ∈ rs, Cps x r.1 r.2.2 ∧ (r.1 = none → r.2.1 = 0) ∧ r.2.2.length ≤ r.2.1
/-- A law's memory: nothing that was there in w has changed; the boxes bx hold their cells; the lists rs can be read. -/
def Lw (w : World) (bx : List (Nat × Array Value)) (rs : List (Option Addr × Nat × List M.Cp)) (x : World) : Prop := Mem w bx [] x ∧ Rws x rs
section
variable {w x y : World} {bx : List (Nat × Array Value)} {rs : List (Option Addr × Nat × List M.Cp)}
theorem Lw.start (w : World) : Lw w [] [] w := ⟨Mem.start w, fun _ h => by cases h⟩
theorem Lw.below (h : Lw w bx rs x) (hb : Below x.heap.size x y) : Lw w bx rs y := ⟨h.1.below hb, fun r hr => ⟨(h.2 r hr).1.below hb, (h.2 r hr).2⟩⟩
theorem Lw.alloc (h : Lw w bx rs x) (o : Obj) : Lw w bx rs (x.alloc o) := h.below ((Below.refl _ _).alloc (Nat.le_refl _) o)
theorem Lw.new (h : Lw w bx rs x) (C : Array Value) (t : TypeId) : Lw w ((x.heap.size, C) :: bx) rs (x.alloc (.cells C t)) := ⟨(h.alloc (.cells C t)).1.add (holds_new x C t), (h.alloc (.cells C t)).2⟩
theorem Lw.row (h : Lw w bx rs x) {B n c : Nat} {A : Option Addr} {l : List M.Cp} (ho : CpOwn B x (.slice A n c) l) : Lw w bx ((A, c, l) :: rs) x :=
  ⟨h.1, fun r hr => by
    rcases List.mem_cons.1 hr with rfl | hr
    · exact ⟨ho.cps.1, ho.nilc, own_cap ho⟩
    · exact h.2 r hr⟩
theorem Lw.cells (h : Lw w bx rs x) (R : Nat) (C : Array Value) (hp : (R, C) ∈ bx) : Holds x R C := h.1.get R C hp
theorem Lw.list (h : Lw w bx rs x) (A : Option Addr) (c : Nat) (l : List M.Cp) (hp : (A, c, l) ∈ rs) : Cps x A l ∧ (A = none → c = 0) ∧ l.length ≤ c := h.2 (A, c, l) hp
theorem Lw.sub {bx' : List (Nat × Array Value)} {rs' : List (Option Addr × Nat × List M.Cp)} (h : Lw w bx rs x) (hb : ∀ p ∈ bx', p ∈ bx) (hr : ∀ r ∈ rs', r ∈ rs) : Lw w bx' rs' x := ⟨h.1.sub hb, fun r hr' => h.2 r (hr r hr')⟩
end

set_option maxHeartbeats 2000000 in
theorem likeWork_same (wk : M.Wk) (A B : Option Addr) (ca cb : Nat) (w : World) (ha : Cps w A wk.copies) (hb : Cps w B wk.copies) (hlen : wk.copies.length ≤ 1048576) :
    Calls Tryz.prog 87 #[wkV wk.name wk.owner A wk.copies.length ca, wkV wk.name wk.owner B wk.copies.length cb] w fun r w' => r = .returned (.bool true) ∧ Below w.heap.size w w' := by
  have h1 : (wk.name.toList != wk.name.toList) = false := by simp
  have h2 : (wk.owner != wk.owner) = false := by simp
  have h3 : ((wk.copies.length : Int) != (wk.copies.length : Int)) = false := by simp
  have hm := ((Mem.start w).new (wkL wk.name wk.owner A wk.copies.length ca) 44).new (wkL wk.name wk.owner B wk.copies.length cb) 44
  have HA := Lib.hid ((ha.alloc (.cells (wkL wk.name wk.owner A wk.copies.length ca) 44)).alloc (.cells (wkL wk.name wk.owner B wk.copies.length cb) 44))
  have HB := Lib.hid ((hb.alloc (.cells (wkL wk.name wk.owner A wk.copies.length ca) 44)).alloc (.cells (wkL wk.name wk.owner B wk.copies.length cb) 44))
  simp only [World.size_alloc] at hm
  have HM := Lib.hid hm
  clear ha hb hm
  go_enter Tryz.func87, Tryz.ntmps87
  go_wp2
  go_loopw [5] (fun i wr => ∃ j : Nat, i = .int .i64 j ∧ j ≤ wk.copies.length ∧ Mem w [(w.heap.size + 1, wkL wk.name wk.owner B wk.copies.length cb), (w.heap.size, wkL wk.name wk.owner A wk.copies.length ca)] [w.heap.size + 1, w.heap.size] wr ∧ Cps wr A wk.copies ∧ Cps wr B wk.copies) (fun i _ => wk.copies.length - (intOf i).toNat)
  case atStart => exact ⟨0, rfl, Nat.zero_le _, HM.out, HA.out, HB.out⟩
  case round =>
    clear HM HA HB
    obtain ⟨j, rfl, hj, hm, ha, hb⟩ := hrel
    have hH := hm.get w.heap.size (wkL wk.name wk.owner A wk.copies.length ca) (by simp)
    have hK := hm.get (w.heap.size + 1) (wkL wk.name wk.owner B wk.copies.length cb) (by simp)
    have l0 := hH.1
    have l1 := hK.1
    obtain ⟨p0, p1, p2⟩ := hH.three
    obtain ⟨q0, q1, q2⟩ := hK.three
    have HM := Lib.hid hm
    have HA := Lib.hid ha
    have HB := Lib.hid hb
    clear hm ha hb hH hK
    by_cases hlt : j < wk.copies.length
    · obtain ⟨b, o, hA, lb, c0, c1, c2, c3, c4⟩ := Cps_at HA.out hlt
      obtain ⟨b', o', hB, lb', d0, d1, d2, d3, d4⟩ := Cps_at HB.out hlt
      subst hA hB
      go_wp2_with fail
      refine wp_region_seq (fun w' => Below wr.heap.size wr w') [(0, true), (1, true), (2, true), (3, true), (4, true), (5, true), (6, true), (7, true), (8, true), (9, true), (10, true)] (by kernel_rfl) (by kernel_rfl) (fun _ _ _ _ _ h => h) (by kernel_rfl) (by decide) (Below.refl _ _).drew ?_
      intro hHeld
      repeat (first
        | (refine seq_read (by simp only [List.getElem?_toArray, List.getElem?_cons_succ, List.getElem?_cons_zero]; first | done | rfl) (by rfl) (fun w _ => cpneq_read rfl rfl rfl w) ?_; (try simp only [Act.put, List.setIfInBounds_toArray, List.set_cons_zero, List.set_cons_succ]))
        | (refine seq_skip (by simp only [List.getElem?_toArray, List.getElem?_cons_succ, List.getElem?_cons_zero]; first | done | rfl) (by rfl) ?_; (try simp only [Act.put, List.setIfInBounds_toArray, List.set_cons_zero, List.set_cons_succ]))
        | (refine seq_reads (by simp only [List.getElem?_toArray, List.getElem?_cons_succ, List.getElem?_cons_zero]; first | done | rfl) (by rfl) ?_; apply Exists.intro; apply And.intro; (focus (intro w hSw; obtain ⟨hcS, -⟩ := bcell hSw; go_simp; (try with_reducible rfl); done)); (try simp only [Act.put, List.setIfInBounds_toArray, List.set_cons_zero, List.set_cons_succ]))
        | (refine seq_pass (by simp only [List.getElem?_toArray, List.getElem?_cons_succ, List.getElem?_cons_zero]; first | done | rfl) (by rfl) hHeld ?_; clear hHeld; intro hHeld; (try simp only [Act.put, List.setIfInBounds_toArray, List.set_cons_zero, List.set_cons_succ])))
      refine seq_end ?_
      go_wp2
      go_roundw
      case rel => exact ⟨j + 1, by go_num, by omega, HM.out.below hHeld, HA.out.below hHeld, HB.out.below hHeld⟩
      case measure => simp [intOf]; omega
    · have hj' : j = wk.copies.length := by omega
      subst hj'
      go_wp2
      go_ret
      exact ⟨rfl, HM.out.1⟩
end Go.Proofs.YtblcgbgcccjpcaaGreat
namespace Go.Proofs.YtblcgbgcccjpcaaGreat
open Go.RowKit
set_option maxRecDepth 20000
end Go.Proofs.YtblcgbgcccjpcaaGreat
namespace Go.Proofs.YtblcgbgcccjpcaaGreat
open Go.RowKit
set_option maxRecDepth 20000
end Go.Proofs.YtblcgbgcccjpcaaGreat
