/- Proved, in parts: Proved: what the model draws of books, right or not: a small book, in new memory; the cursor stands, and its block alone is written. No condition. Proved: the laws' helpers on lists of records of the type Order (their size, their copy, their likeness) answer plain Lean functions; they write nothing that was there. Condition: lists of at most a million. Proved: the cells of a made list are those of a list of zero records; no program is named here; no condition. -/
import Derived.Test.YtblcgbgcccjpcaaGreatPart43
import Derived.Test.YtblcgbgcccjpcaaGreatPart42
import Derived.Test.YtblcgbgcccjpcaaGreatPart22
import Derived.Test.YtblcgbgcccjpcaaGreatPart01
import Derived.Laws.MakeOwn
namespace Go.Proofs.YtblcgbgcccjpcaaGreat
open Go.RowKit
set_option maxRecDepth 20000
set_option linter.unusedVariables false
theorem results_l6DrawBookAny (a b : Value) (R : Nat) (W : World) (tmps : Array Value) (h2 : tmps.getD 2 undef = .pointer (some ⟨R, 0, none⟩)) (hW : Holds W R (#[a, b])) :
    (results Tryz.f55 tmps).run Tryz.prog W = .ok (.agg #[a, b]) W := by
  obtain ⟨q0, q1⟩ := hW.two
  simp at h2
  simp [results, Tryz.results55, go_sem, h2, q0, q1]
theorem BkOut.small {B g : Nat} {w w' : World} {r : Ending} {p q : Prop} (h : BkOut B g p w r w') (hq : q → p) : BkOut B g q w r w' := by
  obtain ⟨A1, c1, A2, c2, rs, ls, h1, h2, h3, h4, h5, h6, h7, h8⟩ := h
  exact ⟨A1, c1, A2, c2, rs, ls, h1, h2, h3, h4, h5, h6, fun k => h7 (hq k), h8⟩
/-- A book in box R2, any small one. -/
def BkAny (w : World) (B g R2 : Nat) (x : World) : Prop :=
  ∃ (A1 : Option Addr) (c1 : Nat) (A2 : Option Addr) (c2 : Nat) (rs : List Wr) (ls : List M.La), DrM w B g [(R2, (bkA A1 rs.length c1 A2 ls.length c2)), (w.heap.size, (bkA none 0 0 none 0 0))] x ∧ SfOwn (w.heap.size + 1) x (.slice A1 rs.length c1) rs ∧ LasOwn (w.heap.size + 1) x (.slice A2 ls.length c2) ls ∧ ((∀ k, (Value.slice A2 ls.length c2).ownBlock = some k → ¬ blocksS (.slice A1 rs.length c1) rs k) ∧ ¬ blocksS (.slice A1 rs.length c1) rs R2 ∧ (Value.slice A2 ls.length c2).ownBlock ≠ some R2) ∧ (rs.length ≤ 6 ∧ WrsIn 64 rs) ∧ (ls.length ≤ 7 ∧ ∀ x ∈ ls, laIn 64 x)
set_option maxHeartbeats 8000000 in
theorem l6DrawBookAny_any (B g : Nat) (w : World) (hc : Cur B w g) :
    Calls Tryz.prog 55 #[.pointer (some ⟨g, 0, none⟩)] w (BkOut B g False w) := by
  obtain ⟨i0, hi, hz0, hz1, hz2⟩ := info_parts infoLas
  have hlow := hc.2.1
  have hm := (DrM.start hc).new (bkA none 0 0 none 0 0) 27
  clear hc
  go_enter Tryz.func55, Tryz.ntmps55
  go_wp2_with fail
  refine (l6DrawBook_any B g _ hm.cur).mono ?_
  rintro r wq ⟨A1, c1, A2, c2, rs, ls, rfl, hs, hla, hap, hsz, hlz0, hok0, hc1, hg1⟩
  have hlz : ls.length ≤ 6 ∧ ∀ x ∈ ls, laIn 64 x := ⟨by have h := hok0 trivial; simp only [M.bkOk, Bool.and_eq_true] at h; have := M.lasOk_len h.2; omega, hlz0.2⟩
  clear hlz0 hok0
  replace hm := hm.by hg1 hc1
  have h01 : w.heap.size < wq.heap.size := (hm.get (List.mem_cons_self)).1.1
  simp only [World.size_alloc] at hs hla
  have bq := (Below.refl wq.heap.size wq).alloc (Nat.le_refl _) (.cells (bkA A1 rs.length c1 A2 ls.length c2) 27)
  have HM := Lib.hid (hm.new (bkA A1 rs.length c1 A2 ls.length c2) 27)
  have HS := Lib.hid (hs.below bq)
  have HL := Lib.hid (LasOwn.below hla bq)
  have HX : Hid ((∀ k, (Value.slice A2 ls.length c2).ownBlock = some k → ¬ blocksS (.slice A1 rs.length c1) rs k) ∧ ¬ blocksS (.slice A1 rs.length c1) rs wq.heap.size ∧ (Value.slice A2 ls.length c2).ownBlock ≠ some wq.heap.size) := Lib.hid ⟨hap, fun h => by have := (hs.ge h).2; omega, fun h => by have := (World.ownsRow.lt hla _ h).2; omega⟩
  have HSZ := Lib.hid hsz
  have HLL := Lib.hid hlz
  clear hc1 hg1 hm hs hla hap hsz hlz bq
  go_wp2_with fail
  refine (l1Once_any B g _ HM.out.cur 10 (by omega) (by omega)).mono ?_
  rintro r w2 ⟨b, rfl, hc2, hg2⟩
  have hm := HM.out.by hg2 hc2
  replace HS := Lib.hid (HS.out.by hg2 (by omega))
  replace HL := Lib.hid (own_by HL.out hg2 (by omega))
  clear hc2 hg2 HM
  go_upto_if 7 with (fail)
  go_cut [7] (fun _ wx => BkAny w B g wq.heap.size wx)
  case first =>
    cases b
    · have HM := Lib.hid hm
      clear hm
      go_wp2
      go_meet
      exact ⟨A1, c1, A2, c2, rs, ls, HM.out, HS.out, HL.out, HX.out, HSZ.out, by have := HLL.out.1; omega, HLL.out.2⟩
    · go_wp2_with fail
      refine (l1Below_any B g _ hm.cur 2 (by omega) (by omega)).mono ?_
      rintro r x2 ⟨u, hu0, hu1, rfl, hc3, hg3⟩
      replace hm := hm.by hg3 hc3
      replace HS := Lib.hid (HS.out.by hg3 (by omega))
      replace HL := Lib.hid (own_by HL.out hg3 (by omega))
      clear hc3 hg3
      have hu : u = 0 ∨ u = 1 := by omega
      rcases hu with hu | hu
      · have hk0 : (u == 0) = true := by simp; omega
        go_wp2_with fail
        refine (l5DrawAny_any B g _ hm.cur).mono ?_
        rintro r x3 ⟨A3, c3, rs3, rfl, ho3, hs3, hc3, hg3⟩
        have hxs := (hm.get (List.mem_cons_self)).1.1
        have hll := fun k hk => (World.ownsRow.lt HL.out k hk).2
        replace hm := hm.by hg3 hc3
        replace HL := Lib.hid (own_by HL.out hg3 (by omega))
        have HS3 := Lib.hid ho3
        have HZ3 := Lib.hid hs3
        have HX3 : Hid ((∀ k, (Value.slice A2 ls.length c2).ownBlock = some k → ¬ blocksS (.slice A3 rs3.length c3) rs3 k) ∧ ¬ blocksS (.slice A3 rs3.length c3) rs3 wq.heap.size ∧ (Value.slice A2 ls.length c2).ownBlock ≠ some wq.heap.size) := Lib.hid ⟨fun k hk hb => by have := hll k hk; have := (ho3.ge hb).1; omega, fun hb => by have := (ho3.ge hb).1; omega, HX.out.2.2⟩
        have HXS := Lib.hid hxs
        clear hc3 hg3 hxs hll ho3 hs3
        obtain ⟨p0, p1⟩ := (hm.get (R := wq.heap.size) (C := (bkA A1 rs.length c1 A2 ls.length c2)) (by simp)).1.two
        have z0 := (hm.get (R := wq.heap.size) (C := (bkA A1 rs.length c1 A2 ls.length c2)) (by simp)).2 0
        have z1 := (hm.get (R := wq.heap.size) (C := (bkA A1 rs.length c1 A2 ls.length c2)) (by simp)).2 1
        have zl := (hm.get (R := wq.heap.size) (C := (bkA A1 rs.length c1 A2 ls.length c2)) (by simp)).1.1
        have HM := Lib.hid hm
        clear hm
        go_wp2
        go_meet
        exact ⟨A3, c3, A2, c2, rs3, ls, HM.out.put (by simp; omega) 0 (.slice A3 rs3.length c3), (HS3.out.offN HX3.out.2.1 0 _).mono (by have := HXS.out; omega), own_off HL.out HX.out.2.2 0 _, HX3.out, HZ3.out, by have := HLL.out.1; omega, HLL.out.2⟩
      · have hk0 : (u == 0) = false := by simp; omega
        have hk1 : (u == 1) = true := by simp; omega
        replace HS : Hid (SfOwn (w.heap.size + 1) x2.drew (.slice A1 rs.length c1) rs) := Lib.hid HS.out
        replace HL : Hid (LasOwn (w.heap.size + 1) x2.drew (.slice A2 ls.length c2) ls) := Lib.hid HL.out
        go_upto_region 7 with (fail)
        refine wp_region_fin 10 (fun x => DrM w B g [(wq.heap.size, (bkA A1 rs.length c1 A2 ls.length c2)), (w.heap.size, (bkA none 0 0 none 0 0))] x) [(0, true), (1, true), (2, true), (4, true), (3, false), (5, false), (6, true), (7, false), (8, false), (9, true), (10, false)] (by kernel_rfl) (by kernel_rfl) (fun _ _ _ _ _ h => h) (by kernel_rfl) (by decide) hm.drew ?_
        intro hHeld
        repeat (first
          | (refine seqF_reads (by simp only [List.getElem?_toArray, List.getElem?_cons_succ, List.getElem?_cons_zero]; first | done | rfl) (by rfl) ?_; apply Exists.intro; apply And.intro; (focus (intro w hSw; (try (replace hSw := hSw (by decide +kernel))); (try (have hD := hSw; obtain ⟨k0, k1⟩ := (hD.get (List.mem_cons_self)).1.two)); go_simp; (try with_reducible rfl); done)); (try simp only [Act.put, List.setIfInBounds_toArray, List.set_cons_zero, List.set_cons_succ]))
          | (refine seqF_call (by simp only [List.getElem?_toArray, List.getElem?_cons_succ, List.getElem?_cons_zero]; first | done | rfl) (by rfl) (fun K hK => ?_) (by decide); go_simp; go_at_call 72; refine (l1From_any B g _ hHeld.cur (-1) 4 (by omega) (by omega) (by omega)).mono ?_; rintro r w1 ⟨u1, -, -, rfl, hc3, hg3⟩; go_simp; refine hK.out _ _ _ (fun _ h => h) (hHeld.by hg3 hc3) ?_; clear hK hHeld; intro hHeld; replace HS := Lib.hid (HS.out.by hg3 (by omega)); replace HL := Lib.hid (own_by HL.out hg3 (by omega)); clear hc3 hg3; (try simp only [Act.put, List.setIfInBounds_toArray, List.set_cons_zero, List.set_cons_succ]))
          | (refine seqF_call (by simp only [List.getElem?_toArray, List.getElem?_cons_succ, List.getElem?_cons_zero]; first | done | rfl) (by rfl) (fun K hK => ?_) (by decide); go_simp; go_at_call 56; refine (l1Below_any B g _ hHeld.cur 3 (by omega) (by omega)).mono ?_; rintro r w1 ⟨u2, -, -, rfl, hc3, hg3⟩; go_simp; refine hK.out _ _ _ (fun _ h => h) (hHeld.by hg3 hc3) ?_; clear hK hHeld; intro hHeld; replace HS := Lib.hid (HS.out.by hg3 (by omega)); replace HL := Lib.hid (own_by HL.out hg3 (by omega)); clear hc3 hg3; (try simp only [Act.put, List.setIfInBounds_toArray, List.set_cons_zero, List.set_cons_succ]))
          | (refine seqF_call (by simp only [List.getElem?_toArray, List.getElem?_cons_succ, List.getElem?_cons_zero]; first | done | rfl) (by rfl) (fun K hK => ?_) (by decide); refine wp_append_flat_at (k := 4) (enc := laL) (l := [(⟨u1, u2, 0, ⟨#[]⟩⟩ : M.La)]) _ _ 25 rfl (w.heap.size + 1) 59 i0 _ 40 Tryz.underlying25 hi hz0 hz1 hz2 rfl (by decide) (.slice A2 ls.length c2) ls.length (cellsOf laL ls) rfl HL.out (some ⟨w1.heap.size, 0, none⟩) 1 rfl (fun h => by cases h) (one_flatLa w1 (⟨u1, u2, 0, ⟨#[]⟩⟩ : M.La) _) laL_len (la_one _) (by have := HLL.out.1; simp only [List.length_singleton]; unfold maxLen; omega) (by have := HLL.out.1; simp only [List.length_singleton]; omega) (by have := HLT.out; rw [World.size_alloc]; omega) ?_; intro v6 w6 hown6 hgrow6 hat6; (have hO6 : LasOwn (w.heap.size + 1) w6 v6 (ls ++ [(⟨u1, u2, 0, ⟨#[]⟩⟩ : M.La)]) := (by show World.ownsRow _ _ _ _ _ _ _; rw [List.length_append, cellsOf_append]; exact hown6)); (have hS6 := HS.out.kept hgrow6 (fun k hk => HX.out.1 k hk)); (have hA6 : ∀ k, v6.ownBlock = some k → ¬ blocksS (.slice A1 rs.length c1) rs k ∧ k ≠ wq.heap.size := fun k hk => by rcases hat6 with h' | h'; exact ⟨HX.out.1 k (h' ▸ hk), fun e => HX.out.2.2 (e ▸ (h' ▸ hk))⟩; have h2 := Option.some.inj (hk.symm.trans h'); rw [World.size_alloc] at h2; have h1 := HLT.out; exact ⟨fun hb => by have := (HS.out.ge hb).2; rw [World.size_alloc] at this; omega, by omega⟩); refine hK.out _ _ _ (fun _ h => h) (hHeld.byRow hgrow6 (fun k hk => ⟨by have := (World.ownsRow.lt HL.out k hk).1; omega, fun p hp => by rcases List.mem_cons.1 hp with rfl | hp; exact fun e => HX.out.2.2 (by rw [hk, ← e]); obtain rfl := List.mem_singleton.1 hp; have := (World.ownsRow.lt HL.out k hk).1; simp only; omega⟩)) ?_; clear hK hHeld hown6 hgrow6 hat6; intro hHeld; obtain ⟨A6, c6, rfl, -, -⟩ := LasOwn.open hO6; (have HO6 := Lib.hid (show _ ∧ _ ∧ _ from ⟨hS6, hO6, hA6⟩)); clear hO6 hS6 hA6; (try simp only [Act.put, List.setIfInBounds_toArray, List.set_cons_zero, List.set_cons_succ]))
          | (refine seqF_call (by simp only [List.getElem?_toArray, List.getElem?_cons_succ, List.getElem?_cons_zero]; first | done | rfl) (by rfl) (fun K hK => ?_) (by decide); go_simp; refine hK.out _ _ _ (fun _ h => h) (hHeld.alloc _) ?_; (have HLT := Lib.hid (hHeld.ne (List.mem_cons_self)).2.2); replace HS := Lib.hid (HS.out.below ((Below.refl w1.heap.size w1).alloc (Nat.le_refl _) (.cells (laA (⟨u1, u2, 0, ⟨#[]⟩⟩ : M.La)) 59))); replace HL := Lib.hid (World.ownsRow.alloc HL.out (.cells (laA (⟨u1, u2, 0, ⟨#[]⟩⟩ : M.La)) 59)); clear hK hHeld; intro hHeld; (try simp only [Act.put, List.setIfInBounds_toArray, List.set_cons_zero, List.set_cons_succ]))
          | (refine seqF_last (by simp only [List.getElem?_toArray, List.getElem?_cons_succ, List.getElem?_cons_zero]; first | done | rfl) (by rfl) (fun K hK => ?_); have hD := hHeld; obtain ⟨k0, k1⟩ := (hD.get (List.mem_cons_self)).1.two; (have z0 := (hD.get (List.mem_cons_self)).2 0); (have z1 := (hD.get (List.mem_cons_self)).2 1); (have zl := (hD.get (List.mem_cons_self)).1.1); go_simp; refine hK.out _ _ ?_; clear hK; clear hD k0 k1 z0 z1 zl; (have HH := Lib.hid hHeld); clear hHeld; (try simp only [Act.put, List.setIfInBounds_toArray, List.set_cons_zero, List.set_cons_succ])))
        refine seqF_end ?_
        obtain ⟨HS6, HL6, HA6⟩ := HO6.out
        have HM9 := Lib.hid (DrM.put HH.out (by simp; omega) 1 (.slice A6 (ls ++ [(⟨u1, u2, 0, ⟨#[]⟩⟩ : M.La)]).length c6))
        clear HH
        have HX6 := HX.out
        go_wp2
        go_meet
        rw [show ls.length + 1 = (ls ++ [(⟨u1, u2, 0, ⟨#[]⟩⟩ : M.La)]).length by simp]
        refine ⟨A1, c1, A6, c6, rs, ls ++ [(⟨u1, u2, 0, ⟨#[]⟩⟩ : M.La)], HM9.out, HS6.offN HX6.2.1 1 _, own_off HL6 (fun e => (HA6 _ e).2 rfl) 1 _, ⟨fun k hk => (HA6 k hk).1, HX6.2.1, fun e => (HA6 _ e).2 rfl⟩, HSZ.out, ⟨?_, fun x hx => ?_⟩⟩
        · have := HLL.out.1
          simp only [List.length_append, List.length_singleton]
          omega
        · rcases List.mem_append.1 hx with hx | hx
          · exact HLL.out.2 x hx
          · obtain rfl := List.mem_singleton.1 hx
            exact Nat.zero_le _
  case rest =>
    clear hm
    obtain ⟨A1', c1', A2', c2', rs', ls', hm, hs, hl, hx, hsz, hlz⟩ := hcut
    have HS' := Lib.hid hs
    have HL' := Lib.hid hl
    have HX' := Lib.hid hx
    have HSZ' := Lib.hid hsz
    have HLZ' := Lib.hid hlz
    clear hs hl hx hsz hlz HS HL HX HSZ HLL
    obtain ⟨p0, p1⟩ := (hm.get (R := wq.heap.size) (C := bkA A1' rs'.length c1' A2' ls'.length c2') (by simp)).1.two
    have z0 := (hm.get (R := wq.heap.size) (C := bkA A1' rs'.length c1' A2' ls'.length c2') (by simp)).2 0
    have z1 := (hm.get (R := wq.heap.size) (C := bkA A1' rs'.length c1' A2' ls'.length c2') (by simp)).2 1
    have zl := (hm.get (R := wq.heap.size) (C := bkA A1' rs'.length c1' A2' ls'.length c2') (by simp)).1.1
    obtain ⟨q0, q1⟩ := (hm.get (R := w.heap.size) (C := (bkA none 0 0 none 0 0)) (by simp)).1.two
    have y0 := (hm.get (R := w.heap.size) (C := (bkA none 0 0 none 0 0)) (by simp)).2 0
    have y1 := (hm.get (R := w.heap.size) (C := (bkA none 0 0 none 0 0)) (by simp)).2 1
    have yl := (hm.get (R := w.heap.size) (C := (bkA none 0 0 none 0 0)) (by simp)).1.1
    have HM := Lib.hid (DrM.sub (bx' := [(w.heap.size, (bkA none 0 0 none 0 0))]) hm (by simp))
    clear hm
    go_wp2
    have hF := HM.out.put2 (by simp) (.slice A1' rs'.length c1') (.slice A2' ls'.length c2')
    exact bodyPost_ret (results_l6DrawBookAny _ _ w.heap.size _ _ rfl (hF.get (List.mem_cons_self)).1) rfl ⟨A1', c1', A2', c2', rs', ls', rfl, ((HS'.out.set (by omega) 0 _).set (by omega) 1 _).mono (by omega), LasOwn.mono (own_set (own_set HL'.out (by omega) 0 _) (by omega) 1 _) (by omega), HX'.out.1, HSZ'.out, HLZ'.out, fun h => h.elim, hF.cur, hF.grown⟩
end Go.Proofs.YtblcgbgcccjpcaaGreat
namespace Go.Proofs.YtblcgbgcccjpcaaGreat
open Go.RowKit
set_option maxRecDepth 20000
abbrev Ors (w : World) (A : Option Addr) (l : List M.Or) : Prop := Flat orL 9 w A l
theorem Ors_at {w : World} {A : Option Addr} {l : List M.Or} {i : Nat} (h : Ors w A l) (hi : i < l.length) : ∃ b o, A = some ⟨b, o, none⟩ ∧ b < w.heap.size ∧
    w.cell? ⟨b, o + i * 9, none⟩ = some (.int .i64 l[i].client) ∧ w.cell? ⟨b, o + i * 9 + 1, none⟩ = some (.int .i64 l[i].seq) ∧ w.cell? ⟨b, o + i * 9 + 2, none⟩ = some (.int .i64 l[i].deed.kind) ∧ w.cell? ⟨b, o + i * 9 + 3, none⟩ = some (.string l[i].deed.name) ∧ w.cell? ⟨b, o + i * 9 + 4, none⟩ = some (.int .i64 l[i].deed.ed.ma) ∧ w.cell? ⟨b, o + i * 9 + 5, none⟩ = some (.int .i64 l[i].deed.ed.mi) ∧ w.cell? ⟨b, o + i * 9 + 6, none⟩ = some (.int .i64 l[i].deed.ed.pa) ∧ w.cell? ⟨b, o + i * 9 + 7, none⟩ = some (.string l[i].deed.page) ∧ w.cell? ⟨b, o + i * 9 + 8, none⟩ = some (.int .i64 l[i].deed.who) := by
  obtain ⟨b, o, rfl, hb, h⟩ := h.at hi
  exact ⟨b, o, rfl, hb, h 0 _ rfl, h 1 _ rfl, h 2 _ rfl, h 3 _ rfl, h 4 _ rfl, h 5 _ rfl, h 6 _ rfl, h 7 _ rfl, h 8 _ rfl⟩
theorem infoOrs : (Tryz.prog.info? 41).map (fun i => (i.zero, i.size, i.bytes)) = some (some (.agg #[.int .i64 0, .int .i64 0, .int .i64 0, .string ⟨#[]⟩, .int .i64 0, .int .i64 0, .int .i64 0, .string ⟨#[]⟩, .int .i64 0]), 9, 88) := by kernel_rfl
/-- v is a list of these in memory of one's own from block B on. -/
abbrev OrsOwn (B : Nat) (w : World) (v : Value) (l : List M.Or) : Prop := w.ownsRow B 41 9 v l.length (cellsOf orL l)
end Go.Proofs.YtblcgbgcccjpcaaGreat
namespace Go.Proofs.YtblcgbgcccjpcaaGreat
open Go Go.RowKit
theorem made_flat {α : Type} (enc : α → List Value) (x : α) (k : Nat) (hk : (enc x).length = k) (n : Nat) : (madeCells (enc x).toArray (n * k)).toList = cellsOf enc (List.replicate n x) := by
  have key : ∀ n, (List.range (n * k)).map (fun i => (enc x).toArray[i % (enc x).toArray.size]!) = cellsOf enc (List.replicate n x) := by
    intro n
    induction n with
    | zero => simp [cellsOf]
    | succ n ih =>
      rw [show (n + 1) * k = k + n * k by rw [Nat.succ_mul, Nat.add_comm], List.range_add, List.map_append, List.map_map, List.replicate_succ]
      show _ = enc x ++ cellsOf enc (List.replicate n x)
      congr 1
      · refine List.ext_getElem (by simp [hk]) fun i h1 h2 => ?_
        have hi : i < (enc x).length := h2
        rw [List.getElem_map, List.getElem_range]
        simp only [List.size_toArray]
        rw [Nat.mod_eq_of_lt hi, getElem!_pos _ i (by simpa using hi)]
        simp
      · rw [← ih]
        refine List.map_congr_left fun i _ => ?_
        simp [hk]
  have := key n
  simpa [madeCells] using this
end Go.Proofs.YtblcgbgcccjpcaaGreat
