/- Proved, in parts: Proved: what the model draws of works, right or not: some small work, in new memory; the cursor stands, and its block alone is written. -/
import Derived.Test.YtdcdalbbjfjadaaGreatDoorPart42
namespace Go.Proofs.YtdcdalbbjfjadaaGreatDoor
open Go.RowKit
set_option maxRecDepth 20000

theorem DrM.byRow {w0 : World} {B g : Nat} {bx : List (Nat × Array Value)} {x y : World} {row : Option Nat} (h : DrM w0 B g bx x) (hg : x.grownBy y row) (hr : ∀ k, row = some k → w0.heap.size ≤ k ∧ ∀ p ∈ bx, p.1 ≠ k) : DrM w0 B g bx y := by
  have hB := h.cur.1
  have hlow := h.low
  refine ⟨h.low, ⟨hg.os.trans h.grown.os, hg.tape.trans h.grown.tape, hg.output.trans h.grown.output, Nat.le_trans h.grown.size hg.size, fun k hk hne => (hg.block k (Nat.lt_of_lt_of_le hk h.grown.size) (fun e => by have := (hr k e.symm).1; omega)).trans (h.grown.block k hk hne)⟩, h.cur.kept hg (fun k hk => ⟨by have := (hr k hk).1; omega, by have := (hr k hk).1; omega⟩), fun p hp => ?_⟩
  obtain ⟨h1, h2, h3⟩ := h.box p hp
  have hb : y.heap[p.1]? = x.heap[p.1]? := hg.block p.1 h2.1 (fun e => (hr p.1 e.symm).2 p hp rfl)
  exact ⟨h1, ⟨Nat.lt_of_lt_of_le h2.1 hg.size, fun j v hj => (World.cell?_of_block (a := ⟨p.1, j, none⟩) hb).trans (h2.2 j v hj)⟩, fun j => (World.frozen?_of_block (a := ⟨p.1, j, none⟩) hb).trans (h3 j)⟩
/-- A list of one's own behind block b, not in block R. -/
def OwnX (b R : Nat) (x : World) (v : Value) (l : List M.Cp) : Prop := CpOwn b x v l ∧ v.ownBlock ≠ some R
theorem OwnX.by {b R g : Nat} {x y : World} {v : Value} {l : List M.Cp} (h : OwnX (b + 1) R x v l) (hg : x.grownBy y (some g)) (hb : g < b) : OwnX (b + 1) R y v l := ⟨own_byC h.1 hg (by omega), h.2⟩
theorem OwnX.below {b R : Nat} {x y : World} {v : Value} {l : List M.Cp} (h : OwnX b R x v l) (hg : Below x.heap.size x y) : OwnX b R y v l := ⟨h.1.below hg, h.2⟩
theorem OwnX.set {b R : Nat} {x : World} {v : Value} {l : List M.Cp} (h : OwnX b R x v l) (j : Nat) (u : Value) : OwnX b R (x.setCell ⟨R, j, none⟩ u) v l := ⟨h.1.apartN (by simpa using h.2) u, h.2⟩
theorem OwnX.of {b b' R : Nat} {x : World} {v : Value} {l : List M.Cp} (h : CpOwn b x v l) (hb : b' ≤ b) (hR : R < b) : OwnX b' R x v l := ⟨h.mono hb, fun e => by have := (World.ownsRow.lt h R e).1; omega⟩
theorem OwnX.set3 {b R : Nat} {x : World} {v : Value} {l : List M.Cp} (h : OwnX b R x v l) (p q r : Value) : OwnX b R (((x.setCell ⟨R, 0, none⟩ p).setCell ⟨R, 1, none⟩ q).setCell ⟨R, 2, none⟩ r) v l := ((h.set 0 p).set 1 q).set 2 r
abbrev oakB : ByteArray := ⟨#[111, 97, 107]⟩
/-- What the drawing of a work knows of it. -/
def WkNow (n : Nat) (w : World) (B g R : Nat) (x : World) : Prop :=
  ∃ (wk : M.Wk) (A : Option Addr) (c : Nat), M.smallWk n wk ∧ BX w B g R w.heap.size wk A c x ∧ OwnX (w.heap.size + 1) R x (.slice A wk.copies.length c) wk.copies

set_option maxHeartbeats 4000000 in
theorem l4DrawAny_any (B g : Nat) (w : World) (hc : Cur B w g) :
    Calls Tryz.prog 47 #[.pointer (some ⟨g, 0, none⟩)] w (WkOut 10 B g w) := by
  obtain ⟨i0, hi, hz0, hz1, hz2⟩ := info_parts infoCp
  have m0 := (DrM.start hc).new zA 39
  have hlow := hc.2.1
  clear hc
  go_enter Tryz.func47, Tryz.ntmps47
  go_wp2_with fail
  refine (l1DrawName_any B g _ m0.cur).mono ?_
  rintro r w1 ⟨nm, hnm, rfl, hc1, hg1⟩
  replace m0 := m0.by hg1 hc1
  have h01 : w.heap.size < w1.heap.size := by have := hg1.size; simp at this; omega
  clear hc1 hg1
  go_wp2_with fail
  refine (l4Draw_any B g _ m0.cur nm hnm).mono ?_
  rintro r w2 ⟨wk0, A0, c0, rfl, hs0, ho0, hc2, hg2⟩
  replace m0 := m0.by hg2 hc2
  have h12 : w1.heap.size ≤ w2.heap.size := hg2.size
  clear hc2 hg2
  have HR : Hid (w.heap.size ≠ w2.heap.size) := Lib.hid (by omega)
  have hnow : WkNow 9 w B g w2.heap.size (w2.alloc (.cells (vA wk0 A0 c0) 39)) := by
    refine ⟨wk0, A0, c0, hs0, m0.new (vA wk0 A0 c0) 39, ?_, fun e => ?_⟩
    · exact (ho0.mono (by omega)).below ((Below.refl _ _).alloc (Nat.le_refl _) _)
    · have := (World.ownsRow.lt ho0 _ e).2
      omega
  clear m0 hs0 ho0
  obtain ⟨wk, A, c, hs, hm, ho⟩ := hnow
  go_wp2_with fail
  refine (l1Once_any B g _ hm.cur 8 (by omega) (by omega)).mono ?_
  rintro r x1 ⟨b, rfl, hc3, hg3⟩
  have hnow : WkNow 9 w B g w2.heap.size x1 := ⟨wk, A, c, hs, hm.by hg3 hc3, ho.by hg3 hlow⟩
  clear hc3 hg3 hs hm ho
  clear wk A c
  go_upto_if 10 with (fail)
  go_cut [11] (fun _ wx => WkNow 10 w B g w2.heap.size wx)
  case first =>
    obtain ⟨wk, A, c, hs, hm, ho⟩ := hnow
    have HS := Lib.hid hs
    have HO := Lib.hid ho
    clear hs ho
    cases b
    · go_wp2
      go_meet
      exact ⟨wk, A, c, HS.out.mono (by omega), hm, HO.out⟩
    · go_wp2_with fail
      refine (l1Below_any B g _ hm.cur 3 (by omega) (by omega)).mono ?_
      rintro r x2 ⟨u, hu0, hu1, rfl, hc3, hg3⟩
      replace hm := hm.by hg3 hc3
      replace HO := Lib.hid (HO.out.by hg3 hlow)
      clear hc3 hg3
      have hu : u = 0 ∨ u = 1 ∨ u = 2 := by omega
      rcases hu with hu | hu | hu
      · have hk0 : (u == 0) = true := by simp; omega
        go_wp2_with fail
        refine (l1DrawAny_any B g _ hm.cur).mono ?_
        rintro r x3 ⟨s, hs, rfl, hc3, hg3⟩
        replace hm := hm.by hg3 hc3
        replace HO := Lib.hid (HO.out.by hg3 hlow)
        clear hc3 hg3
        obtain ⟨p0, p1, p2⟩ := (hm.get (List.mem_cons_self)).1.three
        have z0 := (hm.get (List.mem_cons_self)).2 0
        have z1 := (hm.get (List.mem_cons_self)).2 1
        have z2 := (hm.get (List.mem_cons_self)).2 2
        have HM := Lib.hid hm
        clear hm
        go_wp2
        go_meet
        exact ⟨⟨s, wk.owner, wk.copies⟩, A, c, ⟨hs, (HS.out.mono (show 9 ≤ 10 by omega)).2⟩, HM.out.put (by simpa using HR.out) 0 (.string s), HO.out.set 0 _⟩
      · have hk0 : (u == 0) = false := by simp; omega
        have hk1 : (u == 1) = true := by simp; omega
        go_wp2_with fail
        refine (l1Below_any B g _ (hm.alloc _).cur 2 (by omega) (by omega)).mono ?_
        rintro r x3 ⟨y, hy0, hy1, rfl, hc3, hg3⟩
        obtain ⟨n, hn⟩ := lit_int hg3 hm.cur.2.1 y hy0 (by show y < 2; omega) (by kernel_rfl)
        replace hm := (hm.alloc _).by hg3 hc3
        replace HO := Lib.hid ((HO.out.below ((Below.refl _ _).alloc (Nat.le_refl _) _)).by hg3 hlow)
        clear hc3 hg3
        obtain ⟨p0, p1, p2⟩ := (hm.get (List.mem_cons_self)).1.three
        have z0 := (hm.get (List.mem_cons_self)).2 0
        have z1 := (hm.get (List.mem_cons_self)).2 1
        have z2 := (hm.get (List.mem_cons_self)).2 2
        have HM := Lib.hid hm
        clear hm
        go_wp2
        go_meet
        exact ⟨⟨wk.name, n, wk.copies⟩, A, c, HS.out.mono (by omega), HM.out.put (by simpa using HR.out) 1 (.int .i64 n), HO.out.set 1 _⟩
      · have hk0 : (u == 0) = false := by simp; omega
        have hk1 : (u == 1) = false := by simp; omega
        have hk2 : (u == 2) = true := by simp; omega
        replace HO : Hid (OwnX (w.heap.size + 1) w2.heap.size x2.drew (.slice A wk.copies.length c) wk.copies) := Lib.hid HO.out
        go_wp2_with fail
        refine wp_region_fin 10 (fun x => BX w B g w2.heap.size w.heap.size wk A c x) [(0, true), (1, true), (2, true), (4, true), (3, false), (5, false), (6, true), (7, false), (8, false), (9, true), (10, false)] (by kernel_rfl) (by kernel_rfl) (fun _ _ _ _ _ h => h) (by kernel_rfl) (by decide) hm.drew ?_
        intro hHeld
        repeat (first
          | (refine seqF_reads (by simp only [List.getElem?_toArray, List.getElem?_cons_succ, List.getElem?_cons_zero]; first | done | rfl) (by rfl) ?_; apply Exists.intro; apply And.intro; (focus (intro w hSw; (try (replace hSw := hSw (by decide +kernel))); (try (have hD := hSw; obtain ⟨p0, p1, p2⟩ := (hD.get (List.mem_cons_self)).1.three)); go_simp; (try with_reducible rfl); done)); (try simp only [Act.put, List.setIfInBounds_toArray, List.set_cons_zero, List.set_cons_succ]))
          | (refine seqF_call (by simp only [List.getElem?_toArray, List.getElem?_cons_succ, List.getElem?_cons_zero]; first | done | rfl) (by rfl) (fun K hK => ?_) (by decide); go_simp; go_at_call 52; refine (l2DrawAny_any B g _ hHeld.cur).mono ?_; rintro r w1 ⟨e, -, rfl, hc3, hg3⟩; go_simp; refine hK.out _ _ _ (fun _ h => h) (hHeld.by hg3 hc3) ?_; clear hK hHeld; intro hHeld; replace HO := Lib.hid (HO.out.by hg3 hlow); clear hc3 hg3; (try simp only [Act.put, List.setIfInBounds_toArray, List.set_cons_zero, List.set_cons_succ]))
          | (refine seqF_call (by simp only [List.getElem?_toArray, List.getElem?_cons_succ, List.getElem?_cons_zero]; first | done | rfl) (by rfl) (fun K hK => ?_) (by decide); go_simp; go_at_call 81; refine (l1DrawPage_any B g _ hHeld.cur).mono ?_; rintro r w1 ⟨s, hs, rfl, hc4, hg4⟩; go_simp; refine hK.out _ _ _ (fun _ h => h) (hHeld.by hg4 hc4) ?_; clear hK hHeld; intro hHeld; replace HO := Lib.hid (HO.out.by hg4 hlow); clear hc4 hg4; (try simp only [Act.put, List.setIfInBounds_toArray, List.set_cons_zero, List.set_cons_succ]))
          | (refine seqF_call (by simp only [List.getElem?_toArray, List.getElem?_cons_succ, List.getElem?_cons_zero]; first | done | rfl) (by rfl) (fun K hK => ?_) (by decide); refine wp_append_flat_at (k := 5) (enc := cpL) (l := [⟨e, s, false⟩]) _ _ 37 rfl (w.heap.size + 1) 71 i0 _ 48 Tryz.underlying37 hi hz0 hz1 hz2 rfl (by decide) (.slice A wk.copies.length c) wk.copies.length (cellsOf cpL wk.copies) rfl HO.out.1 (some ⟨w1.heap.size, 0, none⟩) 1 rfl (fun h => by cases h) (one_flat w1 ⟨e, s, false⟩ _) cpL_len (cp_one _) (by have := HS.out.2.1; simp only [List.length_singleton]; unfold maxLen; omega) (by have := HS.out.2.1; simp only [List.length_singleton]; omega) (by have := HLT.out; rw [World.size_alloc]; omega) ?_; intro v6 w6 hown6 hgrow6 hat6; (have hO6 : CpOwn (w.heap.size + 1) w6 v6 (wk.copies ++ [⟨e, s, false⟩]) := k_own (k := wk.copies.length + 1) (by simp) (by rw [cellsOf_append]; exact hown6)); (have hN6 : v6.ownBlock ≠ some w2.heap.size := fun h => by rcases hat6 with h' | h' <;> rw [h'] at h; exact HO.out.2 h; have h1 := HLT.out; have h2 := Option.some.inj h; rw [World.size_alloc] at h2; omega); refine hK.out _ _ _ (fun _ h => h) (hHeld.byRow hgrow6 (fun k hk => ⟨by have := (HO.out.1.lt k hk).1; omega, fun p hp => by rcases List.mem_cons.1 hp with rfl | hp; exact fun e => HO.out.2 (by rw [hk, ← e]); obtain rfl := List.mem_singleton.1 hp; have := (HO.out.1.lt k hk).1; simp only; omega⟩)) ?_; clear hK hHeld hown6 hgrow6 hat6; intro hHeld; obtain ⟨A6, c6, rfl, -, -⟩ := hO6.open; (have HO6 := Lib.hid (And.intro hO6 hN6)); clear hO6 hN6; (try simp only [Act.put, List.setIfInBounds_toArray, List.set_cons_zero, List.set_cons_succ]))
          | (refine seqF_call (by simp only [List.getElem?_toArray, List.getElem?_cons_succ, List.getElem?_cons_zero]; first | done | rfl) (by rfl) (fun K hK => ?_) (by decide); go_simp; refine hK.out _ _ _ (fun _ h => h) (hHeld.alloc _) ?_; (have HLT := Lib.hid (hHeld.ne (List.mem_cons_self)).2.2); replace HO := Lib.hid (HO.out.below ((Below.refl w1.heap.size w1).alloc (Nat.le_refl _) (.cells #[.int .i64 e.ma, .int .i64 e.mi, .int .i64 e.pa, .string s, .bool false] 71))); clear hK hHeld; intro hHeld; (try simp only [Act.put, List.setIfInBounds_toArray, List.set_cons_zero, List.set_cons_succ]))
          | (refine seqF_last (by simp only [List.getElem?_toArray, List.getElem?_cons_succ, List.getElem?_cons_zero]; first | done | rfl) (by rfl) (fun K hK => ?_); have hD := hHeld; obtain ⟨p0, p1, p2⟩ := (hD.get (List.mem_cons_self)).1.three; obtain ⟨z0, z1, z2⟩ : _ ∧ _ ∧ _ := ⟨(hD.get (List.mem_cons_self)).2 0, (hD.get (List.mem_cons_self)).2 1, (hD.get (List.mem_cons_self)).2 2⟩; go_simp; refine hK.out _ _ ?_; clear hK; clear hD p0 p1 p2 z0 z1 z2; (have HD := Lib.hid hHeld); clear hHeld; (try simp only [Act.put, List.setIfInBounds_toArray, List.set_cons_zero, List.set_cons_succ])))
        refine seqF_end ?_
        obtain ⟨HC6, HN6⟩ := HO6.out
        have HM9 : Hid (BX w B g w2.heap.size w.heap.size ⟨wk.name, wk.owner, wk.copies ++ [(⟨e, s, false⟩ : M.Cp)]⟩ A6 c6 _) := Lib.hid (DrM.put HD.out (by simpa using HR.out) 2 (.slice A6 (wk.copies ++ [(⟨e, s, false⟩ : M.Cp)]).length c6))
        go_wp2
        go_meet
        rw [show wk.copies.length + 1 = (wk.copies ++ [(⟨e, s, false⟩ : M.Cp)]).length by simp]
        refine ⟨⟨wk.name, wk.owner, wk.copies ++ [(⟨e, s, false⟩ : M.Cp)]⟩, A6, c6, ⟨HS.out.1, ?_, ?_⟩, HM9.out, HC6.apartN (by simpa using HN6) _, HN6⟩
        · have := HS.out.2.1
          simp only [List.length_append, List.length_singleton]
          omega
        · intro x hx
          rcases List.mem_append.1 hx with hx | hx
          · exact HS.out.2.2 x hx
          · obtain rfl := List.mem_singleton.1 hx
            exact hs
  case rest =>
    clear hnow wk0 A0 c0
    obtain ⟨wk, A, c, hs, hm, ho⟩ := hcut
    go_wp2_with fail
    refine (l1Once_any B g _ hm.cur 20 (by omega) (by omega)).mono ?_
    rintro r x3 ⟨b', rfl, hc3, hg3⟩
    replace hm := hm.by hg3 hc3
    replace ho := ho.by hg3 hlow
    clear hc3 hg3
    cases b'
    · have HS := Lib.hid hs
      have HO := Lib.hid ho
      clear hs ho
      obtain ⟨p0, p1, p2⟩ := (hm.get (List.mem_cons_self)).1.three
      obtain ⟨q0, q1, q2⟩ := (hm.get (R := w.heap.size) (C := zA) (by simp)).1.three
      have z0 := (hm.get (R := w.heap.size) (C := zA) (by simp)).2 0
      have z1 := (hm.get (R := w.heap.size) (C := zA) (by simp)).2 1
      have z2 := (hm.get (R := w.heap.size) (C := zA) (by simp)).2 2
      have HG := Lib.hid (BX.give hm HR.out)
      clear hm
      go_wp2
      refine bodyPost_ret (v := .agg (vA wk A c)) (results_l4DrawAny _ _ _ _ _ _ rfl (HG.out.get (List.mem_cons_self)).1) rfl ⟨wk, A, c, rfl, HS.out, ?_, HG.out.cur, HG.out.grown⟩
      exact (own_off3 HO.out.1 (by omega) _ _ _).mono (by omega)
    · go_wp2
      go_loopw [4] (fun i wr => ∃ (k : Nat) (wk : M.Wk) (A : Option Addr) (c : Nat), i = .int .i64 k ∧ k ≤ 8 ∧ (wk.copies.length < 8 → k + (8 - wk.copies.length) + M.fives wk.copies k ≤ 8) ∧ M.smallWk 10 wk ∧ BX w B g w2.heap.size w.heap.size wk A c wr ∧ OwnX (w.heap.size + 1) w2.heap.size wr (.slice A wk.copies.length c) wk.copies) (fun i _ => 9 - (intOf i).toNat)
      case atStart => exact ⟨0, wk, A, c, rfl, by omega, fun h => by have := M.fives_le wk.copies 0; omega, hs, hm, ho⟩
      case round =>
        clear hs hm ho wk A c
        obtain ⟨k, wk, A, c, rfl, hk, hin, hs, hm, ho⟩ := hrel
        have HS := Lib.hid hs
        have HO := Lib.hid ho
        have HI := Lib.hid hin
        clear hs ho hin
        by_cases h8 : wk.copies.length < 8
        · have hi := HI.out h8
          obtain ⟨p0, p1, p2⟩ := (hm.get (List.mem_cons_self)).1.three
          go_wp2_with fail
          refine (specPrinted oakB 0 A wk.copies c ⟨5, k, 0⟩ M.x1B _ HO.out.1.cps.1 HO.out.1.nilc (own_cap HO.out.1) (by decide) (by omega) (fun x hx => by have := HS.out.2.2 x hx; omega) (by decide)).mono ?_
          rintro r x5 ⟨⟨A', c', rfl, ho'⟩, b5⟩
          have hlt := (hm.ne (List.mem_cons_self)).2.2
          have hox := OwnX.of (b' := w.heap.size + 1) (R := w2.heap.size) ho' (by omega) (by omega)
          have hsm : M.smallWk 10 (M.printed ⟨oakB, 0, wk.copies⟩ ⟨5, k, 0⟩ M.x1B).1 := M.small_printed (n := 10) ⟨(by decide : oakB.size ≤ 64), HS.out.2⟩ (by omega) (by decide)
          have hst : M.wkOk (M.printed ⟨oakB, 0, wk.copies⟩ ⟨5, k, 0⟩ M.x1B).1 = true → M.wkOk ⟨oakB, 0, wk.copies⟩ = true := fun h => by
            rcases hk' : M.wkOk ⟨oakB, 0, wk.copies⟩ with _ | _
            · rw [M.printed_bad _ _ hk'] at h; exact absurd h (by decide)
            · rfl
          have hfs := fun h => M.fill_step (w := ⟨oakB, 0, wk.copies⟩) (i := k) (hst h) h8 (by omega)
          replace hm := hm.below b5
          have z0 := (hm.get (List.mem_cons_self)).2 0
          have z1 := (hm.get (List.mem_cons_self)).2 1
          have z2 := (hm.get (List.mem_cons_self)).2 2
          obtain ⟨p0, p1, p2⟩ := (hm.get (List.mem_cons_self)).1.three
          generalize M.printed ⟨oakB, 0, wk.copies⟩ ⟨5, k, 0⟩ M.x1B = P at ho' hox hsm hst hfs ⊢
          have hm' : BX w B g w2.heap.size w.heap.size P.1 A' c' _ := BX.put hm HR.out
          have hox' := hox.set3 (.string P.1.name) (.int .i64 P.1.owner) (.slice A' P.1.copies.length c')
          have HM := Lib.hid hm'
          have HX := Lib.hid hox'
          have HF := Lib.hid hfs
          have HSM := Lib.hid hsm
          clear hm hox hst b5 hlt hfs hsm hm' hox' ho'
          rcases hP : M.wkOk ⟨P.1.name, P.1.owner, P.1.copies⟩ with _ | _
          · have HP := Lib.hid hP
            clear hP hi
            go_wp2_with fail
            refine (specWorkOk P.1.name P.1.owner A' P.1.copies c' _ HX.out.1.cps.1 (by have := HSM.out.1; unfold maxLen; omega) (by have := HSM.out.2.1; omega) (fun x hx => by have := HSM.out.2.2 x hx; unfold maxLen; omega)).mono ?_
            rintro r x6 ⟨rfl, b6⟩
            have hm6 := HM.out.below b6
            replace HX := Lib.hid (HX.out.below b6)
            rw [HP.out]
            clear b6 HM HP p0 p1 p2 z0 z1 z2
            obtain ⟨p0, p1, p2⟩ := (hm6.get (List.mem_cons_self)).1.three
            obtain ⟨q0, q1, q2⟩ := (hm6.get (R := w.heap.size) (C := zA) (by simp)).1.three
            have z0 := (hm6.get (R := w.heap.size) (C := zA) (by simp)).2 0
            have z1 := (hm6.get (R := w.heap.size) (C := zA) (by simp)).2 1
            have z2 := (hm6.get (R := w.heap.size) (C := zA) (by simp)).2 2
            have HG := Lib.hid (BX.give hm6 HR.out)
            clear hm6
            go_wp2
            refine bodyPost_ret (v := .agg (vA P.1 A' c')) (results_l4DrawAny _ _ _ _ _ _ rfl (HG.out.get (List.mem_cons_self)).1) rfl ⟨P.1, A', c', rfl, HSM.out, ?_, HG.out.cur, HG.out.grown⟩
            exact (own_off3 HX.out.1 (by omega) _ _ _).mono (by omega)
          · have HP := Lib.hid hP
            clear hP
            go_wp2_with fail
            refine (specWorkOk P.1.name P.1.owner A' P.1.copies c' _ HX.out.1.cps.1 (by have := HSM.out.1; unfold maxLen; omega) (by have := HSM.out.2.1; omega) (fun x hx => by have := HSM.out.2.2 x hx; unfold maxLen; omega)).mono ?_
            rintro r x6 ⟨rfl, b6⟩
            have HM6 := Lib.hid (HM.out.below b6)
            replace HX := Lib.hid (HX.out.below b6)
            rw [HP.out]
            clear b6 HM p0 p1 p2 z0 z1 z2
            go_wp2
            go_roundw
            case rel =>
              obtain ⟨hf1, hf2⟩ := HF.out HP.out
              exact ⟨k + 1, P.1, A', c', by go_num, by omega, fun h => by omega, HSM.out, HM6.out, HX.out⟩
            case measure => simp [intOf]; omega
        · clear HI
          obtain ⟨p0, p1, p2⟩ := (hm.get (List.mem_cons_self)).1.three
          obtain ⟨q0, q1, q2⟩ := (hm.get (R := w.heap.size) (C := zA) (by simp)).1.three
          have z0 := (hm.get (R := w.heap.size) (C := zA) (by simp)).2 0
          have z1 := (hm.get (R := w.heap.size) (C := zA) (by simp)).2 1
          have z2 := (hm.get (R := w.heap.size) (C := zA) (by simp)).2 2
          have HG := Lib.hid (BX.give hm HR.out)
          clear hm
          go_wp2
          refine bodyPost_ret (v := .agg (vA wk A c)) (results_l4DrawAny _ _ _ _ _ _ rfl (HG.out.get (List.mem_cons_self)).1) rfl ⟨wk, A, c, rfl, HS.out, ?_, HG.out.cur, HG.out.grown⟩
          exact (own_off3 HO.out.1 (by omega) _ _ _).mono (by omega)
end Go.Proofs.YtdcdalbbjfjadaaGreatDoor
