/- Proved, in parts: Proved: what the model draws of rolls, right or not: some roll of at most 101 entries whose texts are short, its list in memory of its own; the cursor stands, and its block and new ones alone are written. No condition. -/
import Derived.Test.YtkpbfocnokbmiaaPart13
import Derived.Test.YtkpbfocnokbmiaaPart20
import Derived.Test.YtkpbfocnokbmiaaPart21
namespace Go.Proofs.Ytkpbfocnokbmiaa
open Go.RowKit
set_option maxRecDepth 20000
set_option linter.unusedVariables false
theorem one_flatEn (w : World) (c : M.En) (t : TypeId) : Ens (w.alloc (.cells (enC c) t)) (some ⟨w.heap.size, 0, none⟩) [c] := by
  refine .inr ⟨w.heap.size, 0, rfl, by simp, fun i t' x u hi hu => ?_⟩
  have h := (holds_new w (enC c) t).2
  rcases i with _ | i
  · simp at hi
    subst hi
    rw [Nat.zero_mul, Nat.add_zero, Nat.zero_add]
    exact h t' u (by simpa using hu)
  · simp at hi
/-- Some roll, its list in new memory; the cursor stands, and its block alone is written. -/
def RoOut (B g lim : Nat) (w : World) (e : Ending) (w' : World) : Prop :=
  ∃ (b r : Int) (A : Option Addr) (l : List M.En) (c : Nat), e = .returned (roV b r A l.length c) ∧ EnsOwn w.heap.size w' (.slice A l.length c) l ∧ (l.length ≤ lim ∧ ∀ x ∈ l, enIn 64 x) ∧ Cur B w' g ∧ w.grownBy w' (some g)
/-- While a roll is drawn: its box, its list. -/
structure RoNow (w : World) (B g p lim : Nat) (b r : Int) (A : Option Addr) (l : List M.En) (c : Nat) (x : World) : Prop where
  mem : DrM w B g [(p, roA b r A l.length c), (w.heap.size, (roA 0 0 none 0 0))] x
  own : EnsOwn (w.heap.size + 1) x (.slice A l.length c) l
  off : (Value.slice A l.length c).ownBlock ≠ some p
  len : l.length ≤ lim
  txt : ∀ y ∈ l, enIn 64 y
theorem row_off {B g : Nat} {w : World} {t : TypeId} {kk n : Nat} {v : Value} {C : List Value} (h : w.ownsRow B t kk v n C) (hne : v.ownBlock ≠ some g) (i : Nat) (u : Value) : (w.setCell ⟨g, i, none⟩ u).ownsRow B t kk v n C := by
  obtain ⟨hl, h0 | ⟨k, cap, cur, rfl, hb, hh, hr⟩⟩ := h
  · exact ⟨hl, .inl h0⟩
  · exact ⟨hl, .inr ⟨k, cap, cur, rfl, hb, (Below.heap_setCell _ _ _ _ (fun e => hne (by rw [show k = g from e]; rfl))).trans hh, hr⟩⟩
theorem RoNow.by {w : World} {B g p lim : Nat} {b r : Int} {A : Option Addr} {l : List M.En} {c : Nat} {x y : World} (h : RoNow w B g p lim b r A l c x) (hg : x.grownBy y (some g)) (hc : Cur B y g) (hlow : g < w.heap.size) : RoNow w B g p lim b r A l c y :=
  ⟨h.mem.by hg hc, own_by h.own hg (by omega), h.off, h.len, h.txt⟩
theorem RoNow.mono {w : World} {B g p lim lim' : Nat} {b r : Int} {A : Option Addr} {l : List M.En} {c : Nat} {x : World} (h : RoNow w B g p lim b r A l c x) (hl : lim ≤ lim') : RoNow w B g p lim' b r A l c x :=
  ⟨h.mem, h.own, h.off, Nat.le_trans h.len hl, h.txt⟩
/-- The base is written. -/
theorem RoNow.put0 {w : World} {B g p lim : Nat} {b r : Int} {A : Option Addr} {l : List M.En} {c : Nat} {x : World} (h : RoNow w B g p lim b r A l c x) (hp : w.heap.size ≠ p) (b' : Int) : RoNow w B g p lim b' r A l c (x.setCell ⟨p, 0, none⟩ (.int .i64 b')) :=
  ⟨h.mem.put (by simpa using hp) 0 (.int .i64 b'), row_off h.own h.off 0 _, h.off, h.len, h.txt⟩
theorem RoNow.put1 {w : World} {B g p lim : Nat} {b r : Int} {A : Option Addr} {l : List M.En} {c : Nat} {x : World} (h : RoNow w B g p lim b r A l c x) (hp : w.heap.size ≠ p) (r' : Int) : RoNow w B g p lim b r' A l c (x.setCell ⟨p, 1, none⟩ (.int .i64 r')) :=
  ⟨h.mem.put (by simpa using hp) 1 (.int .i64 r'), row_off h.own h.off 1 _, h.off, h.len, h.txt⟩
/-- One entry more: the row behind the append, then the box's third cell. -/
theorem ro_more {w : World} {B g p lim : Nat} {b r : Int} {A A6 : Option Addr} {l : List M.En} {c c6 : Nat} {e : M.En} {x : World} (hm : DrM w B g [(p, roA b r A l.length c), (w.heap.size, (roA 0 0 none 0 0))] x) (hp : w.heap.size ≠ p) (ho : EnsOwn (w.heap.size + 1) x (.slice A6 (l ++ [e]).length c6) (l ++ [e])) (ha : ∀ k, (Value.slice A6 (l ++ [e]).length c6).ownBlock = some k → k ≠ p) (hl : l.length + 1 ≤ lim) (ht : ∀ y ∈ l, enIn 64 y) (he : enIn 64 e) : RoNow w B g p lim b r A6 (l ++ [e]) c6 (x.setCell ⟨p, 2, none⟩ (.slice A6 (l ++ [e]).length c6)) :=
  ⟨hm.put (by simpa using hp) 2 _, row_off ho (fun h => ha _ h rfl) 2 _, fun h => ha _ h rfl, by simpa using hl, fun y hy => by
    rcases List.mem_append.1 hy with hy | hy
    · exact ht y hy
    · obtain rfl := List.mem_singleton.1 hy; exact he⟩
theorem results_l8Draw (b r : Int) (A : Option Addr) (n c : Nat) (R : Nat) (W : World) (tmps : Array Value) (h2 : tmps.getD 2 undef = .pointer (some ⟨R, 0, none⟩)) (hW : Holds W R (roA b r A n c)) :
    (results Try.f75 tmps).run Try.prog W = .ok (roV b r A n c) W := by
  obtain ⟨q0, q1, q2⟩ := hW.three
  simp at h2
  simp [results, Try.results75, go_sem, h2, q0, q1, q2]
theorem results_l8DrawAny (b r : Int) (A : Option Addr) (n c : Nat) (R : Nat) (W : World) (tmps : Array Value) (h2 : tmps.getD 2 undef = .pointer (some ⟨R, 0, none⟩)) (hW : Holds W R (roA b r A n c)) :
    (results Try.f46 tmps).run Try.prog W = .ok (roV b r A n c) W := by
  obtain ⟨q0, q1, q2⟩ := hW.three
  simp at h2
  simp [results, Try.results46, go_sem, h2, q0, q1, q2]
set_option maxHeartbeats 8000000 in
theorem l8Draw_any (B g : Nat) (w : World) (hc : Cur B w g) :
    Calls Try.prog 75 #[.pointer (some ⟨g, 0, none⟩)] w (RoOut B g 6 w) := by
  obtain ⟨i0, hi, hz0, hz1, hz2⟩ := info_parts infoEns
  have hlow := hc.2.1
  have hm := ((DrM.start hc).new (roA 0 0 none 0 0) 26).new (roA 0 0 none 0 0) 26
  simp only [World.size_alloc] at hm
  clear hc
  have hn0 : RoNow w B g (w.heap.size + 1) 0 0 0 none [] 0 ((w.alloc (.cells (roA 0 0 none 0 0) 26)).alloc (.cells (roA 0 0 none 0 0) 26)) := ⟨hm, ens_nil _ _, fun h => (by cases h), Nat.le_refl _, by simp⟩
  have HN0 := Lib.hid hn0
  clear hn0
  go_enter Try.func75, Try.ntmps75
  go_wp2_with fail
  refine (l1Once_any B g _ hm.cur 2 (by omega) (by omega)).mono ?_
  rintro e0 w1 ⟨bb, rfl, hc1, hg1⟩
  replace HN0 := Lib.hid (HN0.out.by hg1 hc1 hlow)
  clear hm hc1 hg1
  go_upto_if 8 with (fail)
  go_cut [8] (fun _ wx => ∃ b r : Int, RoNow w B g (w.heap.size + 1) 0 b r none [] 0 wx)
  case first =>
    cases bb
    · go_wp2
      go_meet
      exact ⟨0, 0, HN0.out⟩
    · go_wp2_with fail
      refine (l1Below_any B g _ HN0.out.mem.cur 4 (by omega) (by omega)).mono ?_
      rintro e1 w2 ⟨u, hu0, hu1, rfl, hc2, hg2⟩
      replace HN0 := Lib.hid (HN0.out.by hg2 hc2 hlow)
      clear hc2 hg2
      have hm := HN0.out.mem
      obtain ⟨p0, p1, p2⟩ := (hm.get (R := (w.heap.size + 1)) (C := roA 0 0 none 0 0) (by simp)).1.three
      have z0 := (hm.get (R := (w.heap.size + 1)) (C := roA 0 0 none 0 0) (by simp)).2 0
      have z1 := (hm.get (R := (w.heap.size + 1)) (C := roA 0 0 none 0 0) (by simp)).2 1
      have z2 := (hm.get (R := (w.heap.size + 1)) (C := roA 0 0 none 0 0) (by simp)).2 2
      have zl := (hm.get (R := (w.heap.size + 1)) (C := roA 0 0 none 0 0) (by simp)).1.1
      clear hm
      go_wp2
      go_meet
      exact ⟨1 + u, 1, (HN0.out.put0 (by omega) (1 + u)).put1 (by omega) 1⟩
  case rest =>
    clear HN0
    obtain ⟨b, r, hcut⟩ := hcut
    have HN := Lib.hid hcut
    clear hcut
    go_wp2_with fail
    refine (l1Below_any B g _ HN.out.mem.cur 7 (by omega) (by omega)).mono ?_
    rintro e1 w2 ⟨n0, hn0, hn1, rfl, hc2, hg2⟩
    replace HN := Lib.hid (HN.out.by hg2 hc2 hlow)
    clear hc2 hg2
    go_wp2_with fail
    go_loopw [4, 5] (fun s4 s5 wr => ∃ (k n : Int) (A : Option Addr) (l : List M.En) (c : Nat), s4 = .int .i64 k ∧ s5 = .int .i64 n ∧ 0 ≤ n ∧ l.length + n ≤ 6 ∧ -1000 ≤ k ∧ k + n ≤ 1000 ∧ RoNow w B g (w.heap.size + 1) 6 b r A l c wr) (fun _ n _ => (intOf n).toNat)
    case atStart => exact ⟨1, n0, none, [], 0, rfl, rfl, hn0, by simp only [List.length_nil]; omega, by omega, by omega, HN.out.mono (by omega)⟩
    case round =>
      clear HN
      obtain ⟨k, n, A, l, c, rfl, rfl, hn2, hn3, hk0, hk1, hnow⟩ := hrel
      have HN := Lib.hid hnow
      clear hnow
      by_cases hlt : 0 < n
      · go_wp2_with fail
        refine (l1Once_any B g _ HN.out.mem.cur 3 (by omega) (by omega)).mono ?_
        rintro e2 w3 ⟨b3, rfl, hc3, hg3⟩
        replace HN := Lib.hid (HN.out.by hg3 hc3 hlow)
        clear hc3 hg3
        cases b3
        · have HL := Lib.hid (show EnsOwn (w.heap.size + 1) w3.drew (.slice A l.length c) l from HN.out.own)
          have HX := Lib.hid HN.out.off
          have HLL := Lib.hid (show _ ∧ _ from ⟨HN.out.len, HN.out.txt⟩)
          go_upto_region 11 with (fail)
          refine wp_region_fin 8 (fun x => DrM w B g [((w.heap.size + 1), roA b r A l.length c), (w.heap.size, (roA 0 0 none 0 0))] x) [(0, true), (1, true), (2, true), (3, true), (4, false), (5, false), (6, false), (7, true), (8, false)] (by kernel_rfl) (by kernel_rfl) (fun _ _ _ _ _ h => h) (by kernel_rfl) (by decide) HN.out.mem.drew ?_
          intro hHeld
          repeat (first
            | (refine seqF_reads (by simp only [List.getElem?_toArray, List.getElem?_cons_succ, List.getElem?_cons_zero]; first | done | rfl) (by rfl) ?_; apply Exists.intro; apply And.intro; (focus (intro w hSw; (try (replace hSw := hSw (by decide +kernel))); (try (have hD := hSw; obtain ⟨k0, k1, k2⟩ := (hD.get (List.mem_cons_self)).1.three)); go_simp; (try with_reducible rfl); done)); (try simp only [Act.put, List.setIfInBounds_toArray, List.set_cons_zero, List.set_cons_succ]))
            | (refine seqF_call (by simp only [List.getElem?_toArray, List.getElem?_cons_succ, List.getElem?_cons_zero]; first | done | rfl) (by rfl) (fun K hK => ?_) (by decide); go_simp; go_at_call 66; refine (l7Draw_any B g _ hHeld.cur k).mono ?_; rintro r9 w1 ⟨e, he, rfl, hc3, hg3⟩; go_simp; refine hK.out _ _ _ (fun _ h => h) (hHeld.by hg3 hc3) ?_; clear hK hHeld; intro hHeld; (replace HL := Lib.hid (own_by HL.out hg3 (by omega))); clear hc3 hg3; (try simp only [Act.put, List.setIfInBounds_toArray, List.set_cons_zero, List.set_cons_succ]))
            | (refine seqF_call (by simp only [List.getElem?_toArray, List.getElem?_cons_succ, List.getElem?_cons_zero]; first | done | rfl) (by rfl) (fun K hK => ?_) (by decide); refine wp_append_flat_at (k := 10) (enc := enL) (l := [e]) _ _ 24 rfl (w.heap.size + 1) 37 i0 _ 96 Try.underlying24 hi hz0 hz1 hz2 rfl (by decide) (.slice A l.length c) l.length (cellsOf enL l) rfl HL.out (some ⟨w1.heap.size, 0, none⟩) 1 rfl (fun h => by cases h) (one_flatEn w1 e _) enL_len (en_one _) (by have := HLL.out.1; simp only [List.length_singleton]; unfold maxLen; omega) (by have := HLL.out.1; simp only [List.length_singleton]; omega) (by have := HLT.out; rw [World.size_alloc]; omega) ?_; intro v6 w6 hown6 hgrow6 hat6; (have hO6 : EnsOwn (w.heap.size + 1) w6 v6 (l ++ [e]) := (by show World.ownsRow _ _ _ _ _ _ _; rw [List.length_append, cellsOf_append]; exact hown6)); (have hA6 : ∀ k, v6.ownBlock = some k → k ≠ (w.heap.size + 1) := fun k hk => by rcases hat6 with h' | h'; exact (fun e => HX.out (e ▸ (h' ▸ hk))); have h2 := Option.some.inj (hk.symm.trans h'); rw [World.size_alloc] at h2; have h1 := HLT.out; omega); refine hK.out _ _ _ (fun _ h => h) (hHeld.byRow hgrow6 (fun k hk => ⟨by have := (World.ownsRow.lt HL.out k hk).1; omega, fun p hp => by rcases List.mem_cons.1 hp with rfl | hp; exact fun e => HX.out (by rw [hk, ← e]); obtain rfl := List.mem_singleton.1 hp; have := (World.ownsRow.lt HL.out k hk).1; simp only; omega⟩)) ?_; clear hK hHeld hown6 hgrow6 hat6; intro hHeld; obtain ⟨A6, c6, rfl, -, -⟩ := own_flat enL_len hO6; (have HO6 := Lib.hid (show _ ∧ _ from ⟨hO6, hA6⟩)); clear hO6 hA6; (try simp only [Act.put, List.setIfInBounds_toArray, List.set_cons_zero, List.set_cons_succ]))
            | (refine seqF_call (by simp only [List.getElem?_toArray, List.getElem?_cons_succ, List.getElem?_cons_zero]; first | done | rfl) (by rfl) (fun K hK => ?_) (by decide); go_simp; refine hK.out _ _ _ (fun _ h => h) (hHeld.alloc _) ?_; (have HLT := Lib.hid (hHeld.ne (List.mem_cons_self)).2.2); (replace HL := Lib.hid (World.ownsRow.alloc HL.out (.cells (enC e) 37))); clear hK hHeld; intro hHeld; (try simp only [Act.put, List.setIfInBounds_toArray, List.set_cons_zero, List.set_cons_succ]))
            | (refine seqF_last (by simp only [List.getElem?_toArray, List.getElem?_cons_succ, List.getElem?_cons_zero]; first | done | rfl) (by rfl) (fun K hK => ?_); have hD := hHeld; obtain ⟨k0, k1, k2⟩ := (hD.get (List.mem_cons_self)).1.three; (have z2 := (hD.get (List.mem_cons_self)).2 2); (have zl := (hD.get (List.mem_cons_self)).1.1); go_simp; refine hK.out _ _ ?_; clear hK; clear hD k0 k1 k2 z2 zl; (have HH := Lib.hid hHeld); clear hHeld; (try simp only [Act.put, List.setIfInBounds_toArray, List.set_cons_zero, List.set_cons_succ])))
          refine seqF_end ?_
          have HEND := Lib.hid (ro_more (lim := 6) HH.out (by omega) HO6.out.1 HO6.out.2 (by omega) HLL.out.2 he)
          clear HH
          go_wp2
          go_roundw
          case rel => exact ⟨k, n - 1, A6, l ++ [e], c6, rfl, by go_num, by omega, by rw [List.length_append]; simp only [List.length_singleton]; omega, by omega, by omega, by first | exact HEND.out | (simpa using HEND.out)⟩
          case measure => simp [intOf]; omega
        · have HL := Lib.hid (show EnsOwn (w.heap.size + 1) w3.drew (.slice A l.length c) l from HN.out.own)
          have HX := Lib.hid HN.out.off
          have HLL := Lib.hid (show _ ∧ _ from ⟨HN.out.len, HN.out.txt⟩)
          go_upto_region 11 with (fail)
          refine wp_region_fin 8 (fun x => DrM w B g [((w.heap.size + 1), roA b r A l.length c), (w.heap.size, (roA 0 0 none 0 0))] x) [(0, true), (1, true), (2, true), (3, true), (4, false), (5, false), (6, false), (7, true), (8, false)] (by kernel_rfl) (by kernel_rfl) (fun _ _ _ _ _ h => h) (by kernel_rfl) (by decide) HN.out.mem.drew ?_
          intro hHeld
          repeat (first
            | (refine seqF_reads (by simp only [List.getElem?_toArray, List.getElem?_cons_succ, List.getElem?_cons_zero]; first | done | rfl) (by rfl) ?_; apply Exists.intro; apply And.intro; (focus (intro w hSw; (try (replace hSw := hSw (by decide +kernel))); (try (have hD := hSw; obtain ⟨k0, k1, k2⟩ := (hD.get (List.mem_cons_self)).1.three)); go_simp; (try with_reducible rfl); done)); (try simp only [Act.put, List.setIfInBounds_toArray, List.set_cons_zero, List.set_cons_succ]))
            | (refine seqF_call (by simp only [List.getElem?_toArray, List.getElem?_cons_succ, List.getElem?_cons_zero]; first | done | rfl) (by rfl) (fun K hK => ?_) (by decide); go_simp; go_at_call 66; refine (l7Draw_any B g _ hHeld.cur (k + 1)).mono ?_; rintro r9 w1 ⟨e, he, rfl, hc3, hg3⟩; go_simp; refine hK.out _ _ _ (fun _ h => h) (hHeld.by hg3 hc3) ?_; clear hK hHeld; intro hHeld; (replace HL := Lib.hid (own_by HL.out hg3 (by omega))); clear hc3 hg3; (try simp only [Act.put, List.setIfInBounds_toArray, List.set_cons_zero, List.set_cons_succ]))
            | (refine seqF_call (by simp only [List.getElem?_toArray, List.getElem?_cons_succ, List.getElem?_cons_zero]; first | done | rfl) (by rfl) (fun K hK => ?_) (by decide); refine wp_append_flat_at (k := 10) (enc := enL) (l := [e]) _ _ 24 rfl (w.heap.size + 1) 37 i0 _ 96 Try.underlying24 hi hz0 hz1 hz2 rfl (by decide) (.slice A l.length c) l.length (cellsOf enL l) rfl HL.out (some ⟨w1.heap.size, 0, none⟩) 1 rfl (fun h => by cases h) (one_flatEn w1 e _) enL_len (en_one _) (by have := HLL.out.1; simp only [List.length_singleton]; unfold maxLen; omega) (by have := HLL.out.1; simp only [List.length_singleton]; omega) (by have := HLT.out; rw [World.size_alloc]; omega) ?_; intro v6 w6 hown6 hgrow6 hat6; (have hO6 : EnsOwn (w.heap.size + 1) w6 v6 (l ++ [e]) := (by show World.ownsRow _ _ _ _ _ _ _; rw [List.length_append, cellsOf_append]; exact hown6)); (have hA6 : ∀ k, v6.ownBlock = some k → k ≠ (w.heap.size + 1) := fun k hk => by rcases hat6 with h' | h'; exact (fun e => HX.out (e ▸ (h' ▸ hk))); have h2 := Option.some.inj (hk.symm.trans h'); rw [World.size_alloc] at h2; have h1 := HLT.out; omega); refine hK.out _ _ _ (fun _ h => h) (hHeld.byRow hgrow6 (fun k hk => ⟨by have := (World.ownsRow.lt HL.out k hk).1; omega, fun p hp => by rcases List.mem_cons.1 hp with rfl | hp; exact fun e => HX.out (by rw [hk, ← e]); obtain rfl := List.mem_singleton.1 hp; have := (World.ownsRow.lt HL.out k hk).1; simp only; omega⟩)) ?_; clear hK hHeld hown6 hgrow6 hat6; intro hHeld; obtain ⟨A6, c6, rfl, -, -⟩ := own_flat enL_len hO6; (have HO6 := Lib.hid (show _ ∧ _ from ⟨hO6, hA6⟩)); clear hO6 hA6; (try simp only [Act.put, List.setIfInBounds_toArray, List.set_cons_zero, List.set_cons_succ]))
            | (refine seqF_call (by simp only [List.getElem?_toArray, List.getElem?_cons_succ, List.getElem?_cons_zero]; first | done | rfl) (by rfl) (fun K hK => ?_) (by decide); go_simp; refine hK.out _ _ _ (fun _ h => h) (hHeld.alloc _) ?_; (have HLT := Lib.hid (hHeld.ne (List.mem_cons_self)).2.2); (replace HL := Lib.hid (World.ownsRow.alloc HL.out (.cells (enC e) 37))); clear hK hHeld; intro hHeld; (try simp only [Act.put, List.setIfInBounds_toArray, List.set_cons_zero, List.set_cons_succ]))
            | (refine seqF_last (by simp only [List.getElem?_toArray, List.getElem?_cons_succ, List.getElem?_cons_zero]; first | done | rfl) (by rfl) (fun K hK => ?_); have hD := hHeld; obtain ⟨k0, k1, k2⟩ := (hD.get (List.mem_cons_self)).1.three; (have z2 := (hD.get (List.mem_cons_self)).2 2); (have zl := (hD.get (List.mem_cons_self)).1.1); go_simp; refine hK.out _ _ ?_; clear hK; clear hD k0 k1 k2 z2 zl; (have HH := Lib.hid hHeld); clear hHeld; (try simp only [Act.put, List.setIfInBounds_toArray, List.set_cons_zero, List.set_cons_succ])))
          refine seqF_end ?_
          have HEND := Lib.hid (ro_more (lim := 6) HH.out (by omega) HO6.out.1 HO6.out.2 (by omega) HLL.out.2 he)
          clear HH
          go_wp2
          go_roundw
          case rel => exact ⟨k + 1, n - 1, A6, l ++ [e], c6, by go_num, by go_num, by omega, by rw [List.length_append]; simp only [List.length_singleton]; omega, by omega, by omega, by first | exact HEND.out | (simpa using HEND.out)⟩
          case measure => simp [intOf]; omega
      ·
        have hm := HN.out.mem
        obtain ⟨p0, p1, p2⟩ := (hm.get (R := (w.heap.size + 1)) (C := roA b r A l.length c) (by simp)).1.three
        have z0 := (hm.get (R := (w.heap.size + 1)) (C := roA b r A l.length c) (by simp)).2 0
        have z1 := (hm.get (R := (w.heap.size + 1)) (C := roA b r A l.length c) (by simp)).2 1
        have z2 := (hm.get (R := (w.heap.size + 1)) (C := roA b r A l.length c) (by simp)).2 2
        have zl := (hm.get (R := (w.heap.size + 1)) (C := roA b r A l.length c) (by simp)).1.1
        obtain ⟨q0, q1, q2⟩ := (hm.get (R := w.heap.size) (C := (roA 0 0 none 0 0)) (by simp)).1.three
        have y0 := (hm.get (R := w.heap.size) (C := (roA 0 0 none 0 0)) (by simp)).2 0
        have y1 := (hm.get (R := w.heap.size) (C := (roA 0 0 none 0 0)) (by simp)).2 1
        have y2 := (hm.get (R := w.heap.size) (C := (roA 0 0 none 0 0)) (by simp)).2 2
        have yl := (hm.get (R := w.heap.size) (C := (roA 0 0 none 0 0)) (by simp)).1.1
        have HM := Lib.hid (DrM.sub (bx' := [(w.heap.size, (roA 0 0 none 0 0))]) hm (by simp))
        clear hm
        go_wp2
        have hF := HM.out.put3 (by simp) (.int .i64 b) (.int .i64 r) (.slice A l.length c)
        exact bodyPost_ret (results_l8Draw b r A l.length c w.heap.size _ _ rfl (hF.get (List.mem_cons_self)).1) rfl ⟨b, r, A, l, c, rfl, World.ownsRow.mono (row_set3 HN.out.own (by omega) _ _ _) (by omega), ⟨HN.out.len, HN.out.txt⟩, hF.cur, hF.grown⟩
set_option maxHeartbeats 8000000 in
theorem l8DrawAny_any (B g : Nat) (w : World) (hc : Cur B w g) :
    Calls Try.prog 46 #[.pointer (some ⟨g, 0, none⟩)] w (RoOut B g 101 w) := by
  obtain ⟨i0, hi, hz0, hz1, hz2⟩ := info_parts infoEns
  have hlow := hc.2.1
  have hm0 := (DrM.start hc).new (roA 0 0 none 0 0) 26
  clear hc
  go_enter Try.func46, Try.ntmps46
  go_wp2_with fail
  refine (l8Draw_any B g _ hm0.cur).mono ?_
  rintro e0 wq ⟨b, r, A, l, c, rfl, ho, ⟨hl6, htx⟩, hc1, hg1⟩
  have hm1 := hm0.by hg1 hc1
  have h01 : w.heap.size < wq.heap.size := (hm1.get (List.mem_cons_self)).1.1
  simp only [World.size_alloc] at ho
  have hnb := fun k (hk : (Value.slice A l.length c).ownBlock = some k) => (World.ownsRow.lt ho k hk).2
  have bq := (Below.refl wq.heap.size wq).alloc (Nat.le_refl _) (.cells (roA b r A l.length c) 26)
  have HN : Hid (RoNow w B g wq.heap.size 6 b r A l c (wq.alloc (.cells (roA b r A l.length c) 26))) := Lib.hid ⟨hm1.new (roA b r A l.length c) 26, Own.below ho bq, fun h => by have := hnb _ h; omega, hl6, htx⟩
  clear hm0 hc1 hg1 hm1 ho hnb bq hl6 htx
  go_wp2_with fail
  refine (l1Once_any B g _ HN.out.mem.cur 8 (by omega) (by omega)).mono ?_
  rintro e1 w2 ⟨bb, rfl, hc2, hg2⟩
  replace HN := Lib.hid (HN.out.by hg2 hc2 hlow)
  clear hc2 hg2
  go_upto_if 7 with (fail)
  go_cut [7] (fun _ wx => ∃ (b r : Int) (A : Option Addr) (l : List M.En) (c : Nat), RoNow w B g wq.heap.size 101 b r A l c wx)
  case first =>
    cases bb
    · go_wp2
      go_meet
      exact ⟨b, r, A, l, c, HN.out.mono (by omega)⟩
    · go_wp2_with fail
      refine (l1Below_any B g _ HN.out.mem.cur 4 (by omega) (by omega)).mono ?_
      rintro e2 x2 ⟨u, hu0, hu1, rfl, hc3, hg3⟩
      replace HN := Lib.hid (HN.out.by hg3 hc3 hlow)
      clear hc3 hg3
      have hu : u = 0 ∨ u = 1 ∨ u = 2 ∨ u = 3 := by omega
      rcases hu with hu | hu | hu | hu
      · have hk0 : (u == 0) = true := by simp; omega
        go_wp2_with fail
        refine (l1Below_any B g _ (HN.out.mem.alloc _).cur 5 (by omega) (by omega)).mono ?_
        rintro e3 x3 ⟨y, hy0, hy1, rfl, hc4, hg4⟩
        obtain ⟨n, hn⟩ := lit_int hg4 HN.out.mem.cur.2.1 y hy0 (by show y < 5; omega) (by kernel_rfl)
        replace HN : Hid (RoNow w B g wq.heap.size 6 b r A l c x3) := Lib.hid (RoNow.by ⟨HN.out.mem.alloc _, World.ownsRow.alloc HN.out.own _, HN.out.off, HN.out.len, HN.out.txt⟩ hg4 hc4 hlow)
        clear hc4 hg4
        have hm := HN.out.mem
        obtain ⟨p0, p1, p2⟩ := (hm.get (R := wq.heap.size) (C := roA b r A l.length c) (by simp)).1.three
        have z0 := (hm.get (R := wq.heap.size) (C := roA b r A l.length c) (by simp)).2 0
        have z1 := (hm.get (R := wq.heap.size) (C := roA b r A l.length c) (by simp)).2 1
        have z2 := (hm.get (R := wq.heap.size) (C := roA b r A l.length c) (by simp)).2 2
        have zl := (hm.get (R := wq.heap.size) (C := roA b r A l.length c) (by simp)).1.1
        clear hm
        go_wp2
        go_meet
        exact ⟨n, r, A, l, c, (HN.out.mono (by omega)).put0 (by omega) n⟩
      · have hk0 : (u == 0) = false := by simp; omega
        have hk1 : (u == 1) = true := by simp; omega
        go_wp2_with fail
        refine (l1From_any B g _ HN.out.mem.cur (-1) 4 (by omega) (by omega) (by omega)).mono ?_
        rintro e3 x3 ⟨n, -, -, rfl, hc4, hg4⟩
        replace HN := Lib.hid (HN.out.by hg4 hc4 hlow)
        clear hc4 hg4
        have hm := HN.out.mem
        obtain ⟨p0, p1, p2⟩ := (hm.get (R := wq.heap.size) (C := roA b r A l.length c) (by simp)).1.three
        have z0 := (hm.get (R := wq.heap.size) (C := roA b r A l.length c) (by simp)).2 0
        have z1 := (hm.get (R := wq.heap.size) (C := roA b r A l.length c) (by simp)).2 1
        have z2 := (hm.get (R := wq.heap.size) (C := roA b r A l.length c) (by simp)).2 2
        have zl := (hm.get (R := wq.heap.size) (C := roA b r A l.length c) (by simp)).1.1
        clear hm
        go_wp2
        go_meet
        exact ⟨b, n, A, l, c, (HN.out.mono (by omega)).put1 (by omega) n⟩
      · have hk0 : (u == 0) = false := by simp; omega
        have hk1 : (u == 1) = false := by simp; omega
        have hk2 : (u == 2) = true := by simp; omega
        have HL := Lib.hid (show EnsOwn (w.heap.size + 1) x2.drew (.slice A l.length c) l from HN.out.own)
        have HX := Lib.hid HN.out.off
        have HLL := Lib.hid (show _ ∧ _ from ⟨HN.out.len, HN.out.txt⟩)
        go_upto_region 9 with (fail)
        refine wp_region_fin 7 (fun x => DrM w B g [(wq.heap.size, roA b r A l.length c), (w.heap.size, (roA 0 0 none 0 0))] x) [(0, true), (1, true), (2, true), (3, false), (4, false), (5, false), (6, true), (7, false)] (by kernel_rfl) (by kernel_rfl) (fun _ _ _ _ _ h => h) (by kernel_rfl) (by decide) HN.out.mem.drew ?_
        intro hHeld
        repeat (first
          | (refine seqF_reads (by simp only [List.getElem?_toArray, List.getElem?_cons_succ, List.getElem?_cons_zero]; first | done | rfl) (by rfl) ?_; apply Exists.intro; apply And.intro; (focus (intro w hSw; (try (replace hSw := hSw (by decide +kernel))); (try (have hD := hSw; obtain ⟨k0, k1, k2⟩ := (hD.get (List.mem_cons_self)).1.three)); go_simp; (try with_reducible rfl); done)); (try simp only [Act.put, List.setIfInBounds_toArray, List.set_cons_zero, List.set_cons_succ]))
          | (refine seqF_call (by simp only [List.getElem?_toArray, List.getElem?_cons_succ, List.getElem?_cons_zero]; first | done | rfl) (by rfl) (fun K hK => ?_) (by decide); go_simp; go_at_call 76; refine (l7DrawAny_any B g _ hHeld.cur).mono ?_; rintro r9 w1 ⟨e, he, rfl, hc3, hg3⟩; go_simp; refine hK.out _ _ _ (fun _ h => h) (hHeld.by hg3 hc3) ?_; clear hK hHeld; intro hHeld; (replace HL := Lib.hid (own_by HL.out hg3 (by omega))); clear hc3 hg3; (try simp only [Act.put, List.setIfInBounds_toArray, List.set_cons_zero, List.set_cons_succ]))
          | (refine seqF_call (by simp only [List.getElem?_toArray, List.getElem?_cons_succ, List.getElem?_cons_zero]; first | done | rfl) (by rfl) (fun K hK => ?_) (by decide); refine wp_append_flat_at (k := 10) (enc := enL) (l := [e]) _ _ 24 rfl (w.heap.size + 1) 37 i0 _ 96 Try.underlying24 hi hz0 hz1 hz2 rfl (by decide) (.slice A l.length c) l.length (cellsOf enL l) rfl HL.out (some ⟨w1.heap.size, 0, none⟩) 1 rfl (fun h => by cases h) (one_flatEn w1 e _) enL_len (en_one _) (by have := HLL.out.1; simp only [List.length_singleton]; unfold maxLen; omega) (by have := HLL.out.1; simp only [List.length_singleton]; omega) (by have := HLT.out; rw [World.size_alloc]; omega) ?_; intro v6 w6 hown6 hgrow6 hat6; (have hO6 : EnsOwn (w.heap.size + 1) w6 v6 (l ++ [e]) := (by show World.ownsRow _ _ _ _ _ _ _; rw [List.length_append, cellsOf_append]; exact hown6)); (have hA6 : ∀ k, v6.ownBlock = some k → k ≠ wq.heap.size := fun k hk => by rcases hat6 with h' | h'; exact (fun e => HX.out (e ▸ (h' ▸ hk))); have h2 := Option.some.inj (hk.symm.trans h'); rw [World.size_alloc] at h2; have h1 := HLT.out; omega); refine hK.out _ _ _ (fun _ h => h) (hHeld.byRow hgrow6 (fun k hk => ⟨by have := (World.ownsRow.lt HL.out k hk).1; omega, fun p hp => by rcases List.mem_cons.1 hp with rfl | hp; exact fun e => HX.out (by rw [hk, ← e]); obtain rfl := List.mem_singleton.1 hp; have := (World.ownsRow.lt HL.out k hk).1; simp only; omega⟩)) ?_; clear hK hHeld hown6 hgrow6 hat6; intro hHeld; obtain ⟨A6, c6, rfl, -, -⟩ := own_flat enL_len hO6; (have HO6 := Lib.hid (show _ ∧ _ from ⟨hO6, hA6⟩)); clear hO6 hA6; (try simp only [Act.put, List.setIfInBounds_toArray, List.set_cons_zero, List.set_cons_succ]))
          | (refine seqF_call (by simp only [List.getElem?_toArray, List.getElem?_cons_succ, List.getElem?_cons_zero]; first | done | rfl) (by rfl) (fun K hK => ?_) (by decide); go_simp; refine hK.out _ _ _ (fun _ h => h) (hHeld.alloc _) ?_; (have HLT := Lib.hid (hHeld.ne (List.mem_cons_self)).2.2); (replace HL := Lib.hid (World.ownsRow.alloc HL.out (.cells (enC e) 37))); clear hK hHeld; intro hHeld; (try simp only [Act.put, List.setIfInBounds_toArray, List.set_cons_zero, List.set_cons_succ]))
          | (refine seqF_last (by simp only [List.getElem?_toArray, List.getElem?_cons_succ, List.getElem?_cons_zero]; first | done | rfl) (by rfl) (fun K hK => ?_); have hD := hHeld; obtain ⟨k0, k1, k2⟩ := (hD.get (List.mem_cons_self)).1.three; (have z2 := (hD.get (List.mem_cons_self)).2 2); (have zl := (hD.get (List.mem_cons_self)).1.1); go_simp; refine hK.out _ _ ?_; clear hK; clear hD k0 k1 k2 z2 zl; (have HH := Lib.hid hHeld); clear hHeld; (try simp only [Act.put, List.setIfInBounds_toArray, List.set_cons_zero, List.set_cons_succ])))
        refine seqF_end ?_
        have HEND := Lib.hid (ro_more (lim := 101) HH.out (by omega) HO6.out.1 HO6.out.2 (by have := HLL.out.1; omega) HLL.out.2 he)
        clear HH
        go_wp2
        go_meet
        exact ⟨b, r, A6, l ++ [e], c6, by first | exact HEND.out | (simpa using HEND.out)⟩
      · have hk0 : (u == 0) = false := by simp; omega
        have hk1 : (u == 1) = false := by simp; omega
        have hk2 : (u == 2) = false := by simp; omega
        have hk3 : (u == 3) = true := by simp; omega
        go_wp2_with fail
        go_loopw [40] (fun _ wr => ∃ (l : List M.En) (A : Option Addr) (c : Nat), RoNow w B g wq.heap.size 101 b r A l c wr) (fun _ wr => match wr.cell? ⟨wq.heap.size, 2, none⟩ with | some (.slice _ n _) => 102 - n | _ => 0)
        case atStart => exact ⟨l, A, c, HN.out.mono (by omega)⟩
        case round =>
          clear HN
          obtain ⟨l, A, c, hnow⟩ := hrel
          have HN := Lib.hid hnow
          clear hnow
          go_upto_region 11 with (fail)
          refine wp_region_seq (fun x => DrM w B g [(wq.heap.size, roA b r A l.length c), (w.heap.size, (roA 0 0 none 0 0))] x ∧ EnsOwn (w.heap.size + 1) x (.slice A l.length c) l) [(0, true), (1, true), (2, true), (3, true), (4, false), (5, true), (6, true)] (by kernel_rfl) (by kernel_rfl) (fun _ _ _ _ _ h => h) (by kernel_rfl) (by decide) ⟨HN.out.mem.drew, HN.out.own⟩ ?_
          intro hHeld
          repeat (first
            | (refine seq_skip (by simp only [List.getElem?_toArray, List.getElem?_cons_succ, List.getElem?_cons_zero]; first | done | rfl) (by rfl) ?_; (try simp only [Act.put, List.setIfInBounds_toArray, List.set_cons_zero, List.set_cons_succ]))
            | (refine seq_reads (by simp only [List.getElem?_toArray, List.getElem?_cons_succ, List.getElem?_cons_zero]; first | done | rfl) (by rfl) ?_; apply Exists.intro; apply And.intro; (focus (intro w hSw; obtain ⟨k0, k1, k2⟩ := (hSw.1.get (List.mem_cons_self)).1.three; go_simp; (try with_reducible rfl); done)); (try simp only [Act.put, List.setIfInBounds_toArray, List.set_cons_zero, List.set_cons_succ]))
            | (refine seq_pass (by simp only [List.getElem?_toArray, List.getElem?_cons_succ, List.getElem?_cons_zero]; first | done | rfl) (by rfl) hHeld ?_; clear hHeld; intro hHeld; (try simp only [Act.put, List.setIfInBounds_toArray, List.set_cons_zero, List.set_cons_succ]))
            | (refine seq_call (by simp only [List.getElem?_toArray, List.getElem?_cons_succ, List.getElem?_cons_zero]; first | done | rfl) (by rfl) (fun K hK => ?_); go_simp; go_at_call 54; refine (l1Below_any B g _ hHeld.1.cur 2 (by omega) (by omega)).mono ?_; rintro r w1 ⟨v, hv0, hv1, rfl, hc4, hg4⟩; go_simp; refine hK.out _ _ ⟨hHeld.1.by hg4 hc4, own_by hHeld.2 hg4 (by omega)⟩ ?_; clear hK hHeld; intro hHeld; clear hc4 hg4; (try simp only [Act.put, List.setIfInBounds_toArray, List.set_cons_zero, List.set_cons_succ])))
          refine seq_end ?_
          have HN2 : Hid (RoNow w B g wq.heap.size 101 b r A l c w1) := Lib.hid ⟨hHeld.1, hHeld.2, HN.out.off, HN.out.len, HN.out.txt⟩
          have hwv : IntKind.i64.wrap (100 + v) = 100 + v := IntWalk.i64_in _ (by omega)
          clear hHeld
          by_cases hlv : (l.length : Int) < 100 + v
          · have HMA : Hid (wr.cell? ⟨wq.heap.size, 2, none⟩ = some (.slice A l.length c)) := Lib.hid (HN.out.mem.get (List.mem_cons_self)).1.three.2.2
            have hm := HN2.out.mem
            have HZL := Lib.hid (hm.get (List.mem_cons_self)).1.1
            obtain ⟨p0, p1, p2⟩ := (hm.get (R := wq.heap.size) (C := roA b r A l.length c) (by simp)).1.three
            have z0 := (hm.get (R := wq.heap.size) (C := roA b r A l.length c) (by simp)).2 0
            have z1 := (hm.get (R := wq.heap.size) (C := roA b r A l.length c) (by simp)).2 1
            have z2 := (hm.get (R := wq.heap.size) (C := roA b r A l.length c) (by simp)).2 2
            have zl := (hm.get (R := wq.heap.size) (C := roA b r A l.length c) (by simp)).1.1
            clear hm HN
            go_wp2_with (at_builtin; refine stop_mk ?_)
            refine stop_un ?_
            refine wpList_append_flat_at (k := 10) (enc := enL) (l := [(⟨9, M.or0⟩ : M.En)]) rfl _ _ 24 rfl (w.heap.size + 1) 37 i0 _ 96 Try.underlying24 hi hz0 hz1 hz2 rfl (by decide) _ l.length (cellsOf enL l) rfl (World.ownsRow.alloc HN2.out.own _) (some ⟨w1.heap.size, 0, none⟩) 1 rfl (fun h => by cases h) (one_flatEn w1 (⟨9, M.or0⟩ : M.En) _) enL_len (en_one _) (by have := HN2.out.len; simp only [List.length_singleton]; unfold maxLen; omega) (by have := HN2.out.len; simp only [List.length_singleton]; omega) (by rw [World.size_alloc]; omega) ?_
            intro v6 w6 hown6 hgrow6 hat6
            have hgrow7 : (w1.alloc (.cells (enC (⟨9, M.or0⟩ : M.En)) 37)).grownBy w6 (Value.slice A l.length c).ownBlock := hgrow6
            have hat7 : v6.ownBlock = (Value.slice A l.length c).ownBlock ∨ v6.ownBlock = some (w1.alloc (.cells (enC (⟨9, M.or0⟩ : M.En)) 37)).heap.size := hat6
            clear hgrow6 hat6
            have hO6 : EnsOwn (w.heap.size + 1) w6 v6 (l ++ [(⟨9, M.or0⟩ : M.En)]) := by show World.ownsRow _ _ _ _ _ _ _; rw [List.length_append, cellsOf_append]; exact hown6
            have hA6 : ∀ k, v6.ownBlock = some k → k ≠ wq.heap.size := fun k hk => by
              rcases hat7 with h' | h'
              · exact (fun e => HN2.out.off (e ▸ (h' ▸ hk)))
              · have h2 := Option.some.inj (hk.symm.trans h')
                rw [World.size_alloc] at h2
                have := HZL.out
                omega
            have hD6 := (HN2.out.mem.alloc (.cells (enC (⟨9, M.or0⟩ : M.En)) 37)).byRow hgrow7 (fun k hk => ⟨by have := (World.ownsRow.lt HN2.out.own k hk).1; omega, fun p hp => by
              rcases List.mem_cons.1 hp with rfl | hp
              · exact fun e => HN2.out.off (by rw [hk, ← e])
              · obtain rfl := List.mem_singleton.1 hp
                have := (World.ownsRow.lt HN2.out.own k hk).1
                simp only
                omega⟩)
            obtain ⟨A6, c6, rfl, -, -⟩ := own_flat enL_len hO6
            have HEND := Lib.hid (ro_more (lim := 101) hD6 (by omega) hO6 hA6 (by omega) HN2.out.txt (⟨by decide, by decide⟩ : enIn 64 (⟨9, M.or0⟩ : M.En)))
            clear p0 p1 p2 z0 z1 z2 zl hown6 hgrow7 hat7 hO6 hA6
            have hm := Lib.hid hD6
            obtain ⟨p0, p1, p2⟩ := (hD6.get (List.mem_cons_self)).1.three
            have z2 := (hD6.get (List.mem_cons_self)).2 2
            have zl := (hD6.get (List.mem_cons_self)).1.1
            have HMB : Hid ((w6.setCell ⟨wq.heap.size, 2, none⟩ (.slice A6 (l ++ [(⟨9, M.or0⟩ : M.En)]).length c6)).cell? ⟨wq.heap.size, 2, none⟩ = some (.slice A6 (l ++ [(⟨9, M.or0⟩ : M.En)]).length c6)) := Lib.hid (HEND.out.mem.get (List.mem_cons_self)).1.three.2.2
            clear hD6 hm
            go_wp2
            go_roundw
            case rel => exact ⟨l ++ [(⟨9, M.or0⟩ : M.En)], A6, c6, by first | exact HEND.out | (simpa using HEND.out)⟩
            case measure =>
              have h1 := HMA.out
              have h2 := HMB.out
              simp only [List.length_append, List.length_singleton] at h2
              simp only [h1, h2]
              omega
          · go_wp2
            go_meet
            exact ⟨b, r, A, l, c, HN2.out⟩
  case rest =>
    clear HN
    obtain ⟨b, r, A, l, c, hcut⟩ := hcut
    have HN := Lib.hid hcut
    clear hcut
    have hm := HN.out.mem
    obtain ⟨p0, p1, p2⟩ := (hm.get (R := wq.heap.size) (C := roA b r A l.length c) (by simp)).1.three
    have z0 := (hm.get (R := wq.heap.size) (C := roA b r A l.length c) (by simp)).2 0
    have z1 := (hm.get (R := wq.heap.size) (C := roA b r A l.length c) (by simp)).2 1
    have z2 := (hm.get (R := wq.heap.size) (C := roA b r A l.length c) (by simp)).2 2
    have zl := (hm.get (R := wq.heap.size) (C := roA b r A l.length c) (by simp)).1.1
    obtain ⟨q0, q1, q2⟩ := (hm.get (R := w.heap.size) (C := (roA 0 0 none 0 0)) (by simp)).1.three
    have y0 := (hm.get (R := w.heap.size) (C := (roA 0 0 none 0 0)) (by simp)).2 0
    have y1 := (hm.get (R := w.heap.size) (C := (roA 0 0 none 0 0)) (by simp)).2 1
    have y2 := (hm.get (R := w.heap.size) (C := (roA 0 0 none 0 0)) (by simp)).2 2
    have yl := (hm.get (R := w.heap.size) (C := (roA 0 0 none 0 0)) (by simp)).1.1
    have HM := Lib.hid (DrM.sub (bx' := [(w.heap.size, (roA 0 0 none 0 0))]) hm (by simp))
    clear hm
    go_wp2
    have hF := HM.out.put3 (by simp) (.int .i64 b) (.int .i64 r) (.slice A l.length c)
    exact bodyPost_ret (results_l8DrawAny b r A l.length c w.heap.size _ _ rfl (hF.get (List.mem_cons_self)).1) rfl ⟨b, r, A, l, c, rfl, World.ownsRow.mono (row_set3 HN.out.own (by omega) _ _ _) (by omega), ⟨HN.out.len, HN.out.txt⟩, hF.cur, hF.grown⟩
theorem results_DrawReignAt (b r : Int) (A : Option Addr) (n c : Nat) (i : Int) (R : Nat) (W : World) (tmps : Array Value) (h2 : tmps.getD 2 undef = .pointer (some ⟨R, 0, none⟩)) (h3 : tmps.getD 3 undef = .int .i64 i) (hW : Holds W R (roA b r A n c)) :
    (results Try.f14 tmps).run Try.prog W = .ok (.tuple #[roV b r A n c, .int .i64 i]) W := by
  obtain ⟨q0, q1, q2⟩ := hW.three
  simp at h2 h3
  simp [results, Try.results14, go_sem, h2, h3, q0, q1, q2]
/-- Some roll and a number, the roll's list in new memory. -/
def RoTop (w : World) (e : Ending) (w' : World) : Prop :=
  ∃ (b r : Int) (A : Option Addr) (l : List M.En) (c : Nat) (i : Int), e = .returned (.tuple #[roV b r A l.length c, .int .i64 i]) ∧ EnsOwn w.heap.size w' (.slice A l.length c) l ∧ (l.length ≤ 101 ∧ ∀ x ∈ l, enIn 64 x) ∧ Below w.heap.size w w'
set_option maxHeartbeats 4000000 in
theorem DrawReignAt_any (w : World) (a : Option Addr) (len cap : Nat) (hl : len ≤ 4096) (hc : CodeOk w.heap.size w a len) :
    Calls Try.prog 14 #[.slice a len cap] w (RoTop w) := by
  have hm0 := (Mem.start w).new (roA 0 0 none 0 0) 26
  go_enter Try.func14, Try.ntmps14
  go_wp2_with fail
  refine (l1New_any w.heap.size _ a len cap (by simp <;> omega) hl (hc.alloc (Nat.le_refl _) _)).mono ?_
  rintro e0 x1 ⟨rfl, hc1, hg1⟩
  have hm := DrT.start hm0 (by simp) hg1 hc1
  simp only [World.size_alloc] at hm
  have hsz : w.heap.size + 1 < x1.heap.size := by have := hc1.2.1; simpa using this
  clear hm0 hc1 hg1 hc
  go_wp2_with fail
  refine (l8DrawAny_any _ _ _ hm.cur).mono ?_
  rintro e1 x2 ⟨b, r, A, l, c, rfl, ho, hlt, hc2, hg2⟩
  have hsz2 : x1.heap.size ≤ x2.heap.size := hg2.size
  have bq := (Below.refl x2.heap.size x2).alloc (Nat.le_refl _) (.cells (roA b r A l.length c) 26)
  replace hm := (hm.by hg2 hc2).new (roA b r A l.length c) 26
  have HO : Hid (EnsOwn (w.heap.size + 2) (x2.alloc (.cells (roA b r A l.length c) 26)) (.slice A l.length c) l) := Lib.hid (World.ownsRow.mono (Own.below ho bq) (by omega))
  have HLT := Lib.hid hlt
  clear hc2 hg2 ho hlt bq
  go_upto_region 3 with (fail)
  generalize hx3 : x2.alloc (.cells (roA b r A l.length c) 26) = x3 at hm HO ⊢
  clear hx3
  replace hm := hm.sub (bx' := [(w.heap.size, (roA 0 0 none 0 0)), (x2.heap.size, roA b r A l.length c)]) (by simp)
  refine wp_region_seq (fun x => ∃ a0 a1 a2, DrT w (w.heap.size + 1) [(w.heap.size, #[a0, a1, a2]), (x2.heap.size, roA b r A l.length c)] x ∧ EnsOwn (w.heap.size + 2) x (.slice A l.length c) l) [(0, true), (1, true), (2, false), (3, false), (4, true)] (by kernel_rfl) (by kernel_rfl) (fun _ _ _ _ _ h => h) (by kernel_rfl) (by decide) ⟨_, _, _, hm.drew, HO.out⟩ ?_
  intro hHeld
  repeat (first
    | (refine seq_skip (by simp only [List.getElem?_toArray, List.getElem?_cons_succ, List.getElem?_cons_zero]; first | done | rfl) (by rfl) ?_; (try simp only [Act.put, List.setIfInBounds_toArray, List.set_cons_zero, List.set_cons_succ]))
    | (refine seq_reads (by simp only [List.getElem?_toArray, List.getElem?_cons_succ, List.getElem?_cons_zero]; first | done | rfl) (by rfl) ?_; apply Exists.intro; apply And.intro; (focus (intro w hSw; obtain ⟨a0, a1, a2, hD, hR⟩ := hSw; obtain ⟨k0, k1, k2⟩ := (hD.get (R := x2.heap.size) (C := roA b r A l.length c) (by simp)).1.three; go_simp; (try with_reducible rfl); done)); (try simp only [Act.put, List.setIfInBounds_toArray, List.set_cons_zero, List.set_cons_succ]))
    | (refine seq_pass (by simp only [List.getElem?_toArray, List.getElem?_cons_succ, List.getElem?_cons_zero]; first | done | rfl) (by rfl) hHeld ?_; clear hHeld; intro hHeld; (try simp only [Act.put, List.setIfInBounds_toArray, List.set_cons_zero, List.set_cons_succ]))
    | (refine seq_call (by simp only [List.getElem?_toArray, List.getElem?_cons_succ, List.getElem?_cons_zero]; first | done | rfl) (by rfl) (fun K hK => ?_); obtain ⟨a0, a1, a2, hD, hR⟩ := hHeld; go_simp; go_at_call 47; refine (l1From_any _ _ _ hD.cur (-1) 12 (by omega) (by omega) (by omega)).mono ?_; rintro r9 w9 ⟨i, -, -, rfl, hc4, hg4⟩; go_simp; refine hK.out _ _ ⟨a0, a1, a2, hD.by hg4 hc4, own_by hR hg4 (by omega)⟩ ?_; clear hK hD hR hc4 hg4; intro hHeld; (try simp only [Act.put, List.setIfInBounds_toArray, List.set_cons_zero, List.set_cons_succ]))
    | (refine seq_call (by simp only [List.getElem?_toArray, List.getElem?_cons_succ, List.getElem?_cons_zero]; first | done | rfl) (by rfl) (fun K hK => ?_); obtain ⟨a0, a1, a2, hD, hR⟩ := hHeld; obtain ⟨q0, q1, q2⟩ := (hD.get (List.mem_cons_self)).1.three; (have z0 := (hD.get (List.mem_cons_self)).2 0); (have z1 := (hD.get (List.mem_cons_self)).2 1); (have z2 := (hD.get (List.mem_cons_self)).2 2); (have zl := (hD.get (List.mem_cons_self)).1.1); (have HQ := Lib.hid (show _ ∧ _ from ⟨hD, hR⟩)); clear hD hR; go_simp; refine hK.out _ _ ⟨_, _, _, HQ.out.1.put3 (by simp; omega) _ _ _, row_set3 HQ.out.2 (by omega) _ _ _⟩ ?_; clear hK q0 q1 q2 z0 z1 z2 zl; intro hHeld; (try simp only [Act.put, List.setIfInBounds_toArray, List.set_cons_zero, List.set_cons_succ])))
  refine seq_end ?_
  have hF := HQ.out.1.put3 (by simp; omega) (.int .i64 b) (.int .i64 r) (.slice A l.length c)
  have HF := Lib.hid hF
  clear hHeld hF
  go_wp2
  exact bodyPost_ret (results_DrawReignAt b r A l.length c i w.heap.size _ _ rfl rfl (HF.out.get (List.mem_cons_self)).1) rfl ⟨b, r, A, l, c, i, rfl, World.ownsRow.mono (row_set3 HQ.out.2 (by omega) _ _ _) (by omega), HLT.out, HF.out.below⟩
theorem results_DrawNewer (a b c d : Int) (W : World) (tmps : Array Value) (h2 : tmps.getD 2 undef = .int .i64 a) (h3 : tmps.getD 3 undef = .int .i64 b) (h4 : tmps.getD 4 undef = .int .i64 c) (h5 : tmps.getD 5 undef = .int .i64 d) :
    (results Try.f19 tmps).run Try.prog W = .ok (.tuple #[.int .i64 a, .int .i64 b, .int .i64 c, .int .i64 d]) W := by
  simp at h2 h3 h4 h5
  simp [results, Try.results19, go_sem, h2, h3, h4, h5]
set_option maxHeartbeats 2000000 in
theorem DrawNewer_any (w : World) (a : Option Addr) (len cap : Nat) (hl : len ≤ 4096) (hc : CodeOk w.heap.size w a len) :
    Calls Try.prog 19 #[.slice a len cap] w fun e w' => ∃ p q u v : Int, e = .returned (.tuple #[.int .i64 p, .int .i64 q, .int .i64 u, .int .i64 v]) ∧ Below w.heap.size w w' := by
  have hm0 := Mem.start w
  go_enter Try.func19, Try.ntmps19
  go_wp2_with fail
  refine (l1New_any w.heap.size _ a len cap (Nat.le_refl _) hl hc).mono ?_
  rintro e0 x1 ⟨rfl, hc1, hg1⟩
  have hm := DrT.start hm0 (by simp) hg1 hc1
  clear hm0 hc1 hg1 hc
  go_wp2_with fail
  refine (l1Below_any _ _ _ hm.cur 4 (by omega) (by omega)).mono ?_
  rintro e1 x2 ⟨p, -, -, rfl, hc2, hg2⟩
  replace hm := hm.by hg2 hc2
  clear hc2 hg2
  go_wp2_with fail
  refine (l1Below_any _ _ _ hm.cur 4 (by omega) (by omega)).mono ?_
  rintro e1 x3 ⟨q, -, -, rfl, hc2, hg2⟩
  replace hm := hm.by hg2 hc2
  clear hc2 hg2
  go_wp2_with fail
  refine (l1Below_any _ _ _ hm.cur 4 (by omega) (by omega)).mono ?_
  rintro e1 x4 ⟨u, -, -, rfl, hc2, hg2⟩
  replace hm := hm.by hg2 hc2
  clear hc2 hg2
  go_wp2_with fail
  refine (l1Below_any _ _ _ hm.cur 4 (by omega) (by omega)).mono ?_
  rintro e1 x5 ⟨v, -, -, rfl, hc2, hg2⟩
  have HM := Lib.hid (hm.by hg2 hc2)
  clear hc2 hg2 hm
  go_wp2
  exact bodyPost_ret (results_DrawNewer p q u v _ _ rfl rfl rfl rfl) rfl ⟨p, q, u, v, rfl, HM.out.below⟩
end Go.Proofs.Ytkpbfocnokbmiaa
