/- Proved, in parts: Proved: facts on a memory in which a draw's cursor and boxes of one's own stand; no program's function is named here; no condition. Proved: what the model draws of works: some small work, in new memory; the cursor stands, and its block alone is written. -/
import Derived.Test.YtblcgbgcccjpcaaGreatPart38
import Derived.Test.YtblcgbgcccjpcaaGreatPart01
import Derived.Test.YtblcgbgcccjpcaaGreatPart15
import Derived.Test.YtblcgbgcccjpcaaGreatPart22
import Derived.Test.YtblcgbgcccjpcaaGreatPart31
import Derived.Test.YtblcgbgcccjpcaaGreatPart24
namespace Go.Proofs.YtblcgbgcccjpcaaGreat
open Go.RowKit
set_option maxRecDepth 20000

theorem grown_of_below {x y : World} (h : Below x.heap.size x y) (row : Option Nat) : x.grownBy y row := ⟨h.os, h.tape, h.output, h.size, fun k hk _ => h.block k hk⟩
theorem own_byC {b g : Nat} {x y : World} {v : Value} {l : List M.Cp} (h : CpOwn b x v l) (hg : x.grownBy y (some g)) (hb : g < b) : CpOwn b y v l := by
  obtain ⟨hl, h0 | ⟨k, cap, cur, rfl, hk, hh, hr⟩⟩ := h
  · exact ⟨hl, .inl h0⟩
  · refine ⟨hl, .inr ⟨k, cap, cur, rfl, hk, (hg.block k (Array.getElem?_eq_some_iff.1 hh).1 ?_).trans hh, hr⟩⟩
    intro e
    injection e with e
    omega

/-- Of all that was there in w0 the cursor's block alone may have changed; the cursor stands; each box of bx is newer, holds its cells and may be written. -/
structure DrM (w0 : World) (B g : Nat) (bx : List (Nat × Array Value)) (x : World) : Prop where
  low : g < w0.heap.size
  grown : w0.grownBy x (some g)
  cur : Cur B x g
  box : ∀ p ∈ bx, w0.heap.size ≤ p.1 ∧ Holds x p.1 p.2 ∧ Loose x p.1
theorem DrM.start {w : World} {B g : Nat} (h : Cur B w g) : DrM w B g [] w := ⟨h.2.1, World.grownBy.refl _ _, h, by simp⟩
theorem DrM.by {w0 : World} {B g : Nat} {bx : List (Nat × Array Value)} {x y : World} (h : DrM w0 B g bx x) (hg : x.grownBy y (some g)) (hc : Cur B y g) : DrM w0 B g bx y := by
  refine ⟨h.low, grownBy_trans h.grown hg, hc, fun p hp => ?_⟩
  obtain ⟨h1, h2, h3⟩ := h.box p hp
  have hb : y.heap[p.1]? = x.heap[p.1]? := hg.block p.1 h2.1 (by
    intro e
    injection e with e
    have := h.low
    omega)
  exact ⟨h1, ⟨Nat.lt_of_lt_of_le h2.1 hg.size, fun j v hj => (World.cell?_of_block (a := ⟨p.1, j, none⟩) hb).trans (h2.2 j v hj)⟩, fun j => (World.frozen?_of_block (a := ⟨p.1, j, none⟩) hb).trans (h3 j)⟩
theorem DrM.below {w0 : World} {B g : Nat} {bx : List (Nat × Array Value)} {x y : World} (h : DrM w0 B g bx x) (hb : Below x.heap.size x y) : DrM w0 B g bx y :=
  h.by (grown_of_below hb _) (h.cur.kept (grown_of_below hb none) (by simp))
theorem DrM.drew {w0 : World} {B g : Nat} {bx : List (Nat × Array Value)} {x : World} (h : DrM w0 B g bx x) : DrM w0 B g bx x.drew := ⟨h.low, ⟨h.grown.os, h.grown.tape, h.grown.output, h.grown.size, h.grown.block⟩, h.cur, h.box⟩
theorem DrM.alloc {w0 : World} {B g : Nat} {bx : List (Nat × Array Value)} {x : World} (h : DrM w0 B g bx x) (o : Obj) : DrM w0 B g bx (x.alloc o) := h.below ((Below.refl _ _).alloc (Nat.le_refl _) o)
theorem DrM.sub {w0 : World} {B g : Nat} {bx bx' : List (Nat × Array Value)} {x : World} (h : DrM w0 B g bx x) (hs : ∀ p ∈ bx', p ∈ bx) : DrM w0 B g bx' x := ⟨h.low, h.grown, h.cur, fun p hp => h.box p (hs p hp)⟩
theorem DrM.new {w0 : World} {B g : Nat} {bx : List (Nat × Array Value)} {x : World} (h : DrM w0 B g bx x) (C : Array Value) (t : TypeId) : DrM w0 B g ((x.heap.size, C) :: bx) (x.alloc (.cells C t)) := by
  have h' := h.alloc (.cells C t)
  refine ⟨h'.low, h'.grown, h'.cur, fun p hp => ?_⟩
  rcases List.mem_cons.1 hp with rfl | hp
  · exact ⟨h.grown.size, holds_new x C t, loose_new x C t⟩
  · exact h'.box p hp
theorem DrM.put {w0 : World} {B g R : Nat} {C : Array Value} {bx : List (Nat × Array Value)} {x : World} (h : DrM w0 B g ((R, C) :: bx) x) (hn : ∀ p ∈ bx, p.1 ≠ R) (j : Nat) (v : Value) : DrM w0 B g ((R, C.setIfInBounds j v) :: bx) (x.setCell ⟨R, j, none⟩ v) := by
  obtain ⟨hR, hH, hL⟩ := h.box (R, C) (by simp)
  have hlow := h.low
  have hB := h.cur.1
  refine ⟨hlow, ⟨h.grown.os, h.grown.tape, h.grown.output, by simpa using h.grown.size, fun k hk hne => (Below.heap_setCell _ _ _ _ (by show k ≠ R; simp only at hR; omega)).trans (h.grown.block k hk hne)⟩, h.cur.kept (grownBy_set x R j v) (by intro k e; cases e; simp only at hR; omega), fun p hp => ?_⟩
  rcases List.mem_cons.1 hp with rfl | hp
  · exact ⟨hR, hH.putM j v, fun i => by rw [World.frozen?_setCell]; exact hL i⟩
  · obtain ⟨h1, h2, h3⟩ := h.box p (List.mem_cons_of_mem _ hp)
    exact ⟨h1, h2.otherM (hn p hp), fun i => by rw [World.frozen?_setCell]; exact h3 i⟩
theorem DrM.get {w0 : World} {B g : Nat} {bx : List (Nat × Array Value)} {x : World} (h : DrM w0 B g bx x) {R : Nat} {C : Array Value} (hp : (R, C) ∈ bx) : Holds x R C ∧ Loose x R := (h.box (R, C) hp).2
theorem DrM.ne {w0 : World} {B g : Nat} {bx : List (Nat × Array Value)} {x : World} (h : DrM w0 B g bx x) {R : Nat} {C : Array Value} (hp : (R, C) ∈ bx) : R ≠ g ∧ w0.heap.size ≤ R ∧ R < x.heap.size := by
  obtain ⟨h1, h2, _⟩ := h.box (R, C) hp
  have := h.low
  exact ⟨by simp only at h1; omega, h1, h2.1⟩
/-- Three writes into the box that is told first. -/
theorem DrM.put3 {w0 : World} {B g R : Nat} {a b c : Value} {bx : List (Nat × Array Value)} {x : World} (h : DrM w0 B g ((R, #[a, b, c]) :: bx) x) (hn : ∀ p ∈ bx, p.1 ≠ R) (a' b' c' : Value) :
    DrM w0 B g ((R, #[a', b', c']) :: bx) (((x.setCell ⟨R, 0, none⟩ a').setCell ⟨R, 1, none⟩ b').setCell ⟨R, 2, none⟩ c') := by
  have := ((h.put hn 0 a').put hn 1 b').put hn 2 c'
  simpa using this

theorem Mem.sub {w0 : World} {hs hs' : List (Nat × Array Value)} {ls : List Nat} {x : World} (h : Mem w0 hs ls x) (hsub : ∀ p ∈ hs', p ∈ hs) : Mem w0 hs' [] x := ⟨h.1, fun p hp => h.2.1 p (hsub p hp), by simp⟩

/-- Some small work, in new memory; the cursor stands, and its block alone is written. -/
def WkOut (n B g : Nat) (w : World) (r : Ending) (w' : World) : Prop :=
  ∃ (wk : M.Wk) (A : Option Addr) (c : Nat), r = .returned (wkV wk.name wk.owner A wk.copies.length c) ∧ M.smallWk n wk ∧ CpOwn w.heap.size w' (.slice A wk.copies.length c) wk.copies ∧ Cur B w' g ∧ w.grownBy w' (some g)
end Go.Proofs.YtblcgbgcccjpcaaGreat
namespace Go.Proofs.YtblcgbgcccjpcaaGreat
open Go.RowKit
set_option maxRecDepth 20000

theorem own_ed_at {B : Nat} {w : World} {g n c j : Nat} {l : List M.Cp} (h : CpOwn B w (.slice (some ⟨g, 0, none⟩) n c) l) (hj : j < l.length) :
    w.cell? ⟨g, j * 5, none⟩ = some (.int .i64 l[j].ed.ma) ∧ w.cell? ⟨g, j * 5 + 1, none⟩ = some (.int .i64 l[j].ed.mi) ∧ w.cell? ⟨g, j * 5 + 2, none⟩ = some (.int .i64 l[j].ed.pa) := by
  obtain ⟨b, o, hbo, -, c0, c1, c2, -, -⟩ := Cps_at h.cps.1 hj
  obtain ⟨rfl, rfl⟩ : g = b ∧ 0 = o := by simpa using hbo
  simp only [Nat.zero_add] at c0 c1 c2
  exact ⟨c0, c1, c2⟩
theorem results_l4Draw (name : ByteArray) (owner : Int) (v : Value) (R : Nat) (W : World) (tmps : Array Value) (h2 : tmps.getD 4 undef = .pointer (some ⟨R, 0, none⟩)) (hW : Holds W R (wkA name owner v)) :
    (results Tryz.f178 tmps).run Tryz.prog W = .ok (.agg (wkA name owner v)) W := by
  obtain ⟨q0, q1, q2⟩ := hW.at3
  simp at h2
  simp [results, Tryz.results178, go_sem, h2, q0, q1, q2]
theorem results_l4DrawAny (name : ByteArray) (owner : Int) (v : Value) (R : Nat) (W : World) (tmps : Array Value) (h2 : tmps.getD 2 undef = .pointer (some ⟨R, 0, none⟩)) (hW : Holds W R (wkA name owner v)) :
    (results Tryz.f148 tmps).run Tryz.prog W = .ok (.agg (wkA name owner v)) W := by
  obtain ⟨q0, q1, q2⟩ := hW.at3
  simp at h2
  simp [results, Tryz.results148, go_sem, h2, q0, q1, q2]
abbrev zA : Array Value := wkA ⟨#[]⟩ 0 (.slice none 0 0)
abbrev vA (wk : M.Wk) (A : Option Addr) (c : Nat) : Array Value := wkA wk.name wk.owner (.slice A wk.copies.length c)
/-- A box that holds a work, and the result's box. -/
abbrev BX (w0 : World) (B g R R0 : Nat) (wk : M.Wk) (A : Option Addr) (c : Nat) (x : World) : Prop :=
  DrM w0 B g [(R, vA wk A c), (R0, zA)] x
theorem BX.put {w0 : World} {B g R R0 : Nat} {wk wk' : M.Wk} {A A' : Option Addr} {c c' : Nat} {x : World} (h : BX w0 B g R R0 wk A c x) (hR : R0 ≠ R) :
    BX w0 B g R R0 wk' A' c' (((x.setCell ⟨R, 0, none⟩ (.string wk'.name)).setCell ⟨R, 1, none⟩ (.int .i64 wk'.owner)).setCell ⟨R, 2, none⟩ (.slice A' wk'.copies.length c')) :=
  h.put3 (by simpa using hR) _ _ _
/-- The work goes into the result's box. -/
theorem BX.give {w0 : World} {B g R R0 : Nat} {wk : M.Wk} {A : Option Addr} {c : Nat} {x : World} (h : BX w0 B g R R0 wk A c x) (hR : R0 ≠ R) :
    DrM w0 B g [(R0, vA wk A c)] (((x.setCell ⟨R0, 0, none⟩ (.string wk.name)).setCell ⟨R0, 1, none⟩ (.int .i64 wk.owner)).setCell ⟨R0, 2, none⟩ (.slice A wk.copies.length c)) :=
  ((h.sub (bx' := [(R0, zA), (R, vA wk A c)]) (by simp)).put3 (by simpa using hR.symm) _ _ _).sub (by simp)
theorem own_off3 {b R : Nat} {x : World} {v : Value} {l : List M.Cp} (h : CpOwn b x v l) (hR : R < b) (p q r : Value) : CpOwn b (((x.setCell ⟨R, 0, none⟩ p).setCell ⟨R, 1, none⟩ q).setCell ⟨R, 2, none⟩ r) v l :=
  ((h.off (by simpa using hR) p).off (by simpa using hR) q).off (by simpa using hR) r

set_option maxHeartbeats 4000000 in
theorem l4Draw_any (B g : Nat) (w : World) (hc : Cur B w g) (name : ByteArray) (hn : name.size ≤ 64) :
    Calls Tryz.prog 178 #[.pointer (some ⟨g, 0, none⟩), .string name] w (WkOut 9 B g w) := by
  have m0 := (DrM.start hc).new zA 44
  have hlow := hc.2.1
  go_enter Tryz.func178, Tryz.ntmps178
  go_wp2_with fail
  refine (l1Below_any B g _ m0.cur 5 (by omega) (by omega)).mono ?_
  rintro r w1 ⟨x, hx0, hx1, rfl, hc1, hg1⟩
  replace m0 := m0.by hg1 hc1
  have h01 : w.heap.size < w1.heap.size := by have := hg1.size; simp at this; omega
  clear hc1 hg1 hc
  go_wp2_with fail
  have m1 := m0.new (vA ⟨name, x / 4, []⟩ none 0) 44
  clear m0
  refine (l1Below_any B g _ m1.cur 6 (by omega) (by omega)).mono ?_
  rintro r w2 ⟨n, hn0, hn1, rfl, hc2, hg2⟩
  replace m1 := m1.by hg2 hc2
  clear hc2 hg2
  obtain ⟨n, rfl⟩ := Int.eq_ofNat_of_zero_le hn0
  have HGR : Hid (g < w1.heap.size + 1) := Lib.hid (by omega)
  have HR : Hid (w.heap.size ≠ w1.heap.size) := Lib.hid (by omega)
  go_wp2
  go_loopw [6] (fun i wr => ∃ (k : Nat) (wk : M.Wk) (A : Option Addr) (c : Nat), i = .int .i64 k ∧ k ≤ n ∧ M.smallWk 9 wk ∧ BX w B g w1.heap.size w.heap.size wk A c wr ∧ CpOwn (w1.heap.size + 1) wr (.slice A wk.copies.length c) wk.copies) (fun i _ => (intOf i).toNat)
  case atStart => exact ⟨n, ⟨name, x / 4, []⟩, none, 0, rfl, Nat.le_refl _, ⟨hn, by simp, by simp⟩, m1, CpOwn.nil _ _⟩
  case round =>
    clear m1
    obtain ⟨k, wk, A, c, rfl, hk, hs, hm, ho⟩ := hrel
    have HS := Lib.hid hs
    have HO : Hid (CpOwn (w1.heap.size + 1) wr.drew (.slice A wk.copies.length c) wk.copies) := Lib.hid ho
    clear hs ho
    by_cases h0 : 0 < k
    · go_wp2_with fail
      refine wp_region_fin 9 (fun x => BX w B g w1.heap.size w.heap.size wk A c x) [(0, true), (1, true), (3, true), (2, false), (4, false), (5, false), (6, true), (7, true), (8, true), (9, false)] (by kernel_rfl) (by kernel_rfl) (fun _ _ _ _ _ h => h) (by kernel_rfl) (by decide) hm.drew ?_
      intro hHeld
      repeat (first
        | (refine seqF_reads (by simp only [List.getElem?_toArray, List.getElem?_cons_succ, List.getElem?_cons_zero]; first | done | rfl) (by rfl) ?_; apply Exists.intro; apply And.intro; (focus (intro w hSw; (try (replace hSw := hSw (by decide +kernel))); (try (have hD := hSw; obtain ⟨p0, p1, p2⟩ := (hD.get (List.mem_cons_self)).1.three)); go_simp; (try with_reducible rfl); done)); (try simp only [Act.put, List.setIfInBounds_toArray, List.set_cons_zero, List.set_cons_succ]))
        | (refine seqF_call (by simp only [List.getElem?_toArray, List.getElem?_cons_succ, List.getElem?_cons_zero]; first | done | rfl) (by rfl) (fun K hK => ?_) (by decide); go_simp; go_at_call 182; refine (l2Draw_any B g _ hHeld.cur).mono ?_; rintro r w1 ⟨e, he, rfl, hc3, hg3⟩; go_simp; refine hK.out _ _ _ (fun _ h => h) (hHeld.by hg3 hc3) ?_; clear hK hHeld; intro hHeld; replace HO := Lib.hid (own_byC HO.out hg3 HGR.out); clear hc3 hg3 he; (try simp only [Act.put, List.setIfInBounds_toArray, List.set_cons_zero, List.set_cons_succ]))
        | (refine seqF_call (by simp only [List.getElem?_toArray, List.getElem?_cons_succ, List.getElem?_cons_zero]; first | done | rfl) (by rfl) (fun K hK => ?_) (by decide); go_simp; go_at_call 180; refine (l1DrawPage_any B g _ hHeld.cur).mono ?_; rintro r w1 ⟨s, hs, rfl, hc4, hg4⟩; go_simp; refine hK.out _ _ _ (fun _ h => h) (hHeld.by hg4 hc4) ?_; clear hK hHeld; intro hHeld; replace HO := Lib.hid (own_byC HO.out hg4 HGR.out); clear hc4 hg4; (try simp only [Act.put, List.setIfInBounds_toArray, List.set_cons_zero, List.set_cons_succ]))
        | (refine seqF_call (by simp only [List.getElem?_toArray, List.getElem?_cons_succ, List.getElem?_cons_zero]; first | done | rfl) (by rfl) (fun K hK => ?_) (by decide); go_simp; go_at_call 181; refine (specPrinted wk.name wk.owner A wk.copies c e s _ HO.out.cps.1 HO.out.nilc (own_cap HO.out) (by have := HS.out.1; omega) (by have := HS.out.2.1; omega) (fun x hx => by have := HS.out.2.2 x hx; omega) (by omega)).mono ?_; rintro r w1 ⟨⟨A', c', rfl, ho'⟩, b5⟩; (have HLT := Lib.hid (hHeld.ne (List.mem_cons_self)).2.2); go_simp; refine hK.out _ _ _ (fun _ h => h) (hHeld.below b5) ?_; clear hK hHeld; intro hHeld; (have HO' := Lib.hid ho'); (have HS' := Lib.hid (M.small_printed (e := e) (p := s) HS.out (Nat.le_refl _) hs)); clear ho' b5; (try simp only [Act.put, List.setIfInBounds_toArray, List.set_cons_zero, List.set_cons_succ]))
        | (refine seqF_last (by simp only [List.getElem?_toArray, List.getElem?_cons_succ, List.getElem?_cons_zero]; first | done | rfl) (by rfl) (fun K hK => ?_); have hD := hHeld; obtain ⟨p0, p1, p2⟩ := (hD.get (List.mem_cons_self)).1.three; obtain ⟨z0, z1, z2⟩ : _ ∧ _ ∧ _ := ⟨(hD.get (List.mem_cons_self)).2 0, (hD.get (List.mem_cons_self)).2 1, (hD.get (List.mem_cons_self)).2 2⟩; go_simp; refine hK.out _ _ ?_; clear hK; clear hD p0 p1 p2 z0 z1 z2; (have HD := Lib.hid hHeld); clear hHeld; (try simp only [Act.put, List.setIfInBounds_toArray, List.set_cons_zero, List.set_cons_succ])))
      refine seqF_end ?_
      go_wp2
      go_roundw
      case rel =>
        refine ⟨k - 1, _, A', c', by go_num, by omega, HS'.out, HD.out.put HR.out, ?_⟩
        exact own_off3 (HO'.out.mono HLT.out) (by omega) _ _ _
      case measure => simp [intOf]; omega
    · by_cases hl0 : 0 < wk.copies.length
      · obtain ⟨p0, p1, p2⟩ := (hm.get (List.mem_cons_self)).1.three
        go_wp2_with fail
        refine (l1Once_any B g _ hm.cur 2 (by omega) (by omega)).mono ?_
        rintro r w3 ⟨b, rfl, hc3, hg3⟩
        replace hm := hm.by hg3 hc3
        have h3 := own_byC (show CpOwn _ wr _ _ from HO.out) hg3 HGR.out
        replace HO : Hid (CpOwn (w1.heap.size + 1) w3.drew (.slice A wk.copies.length c) wk.copies) := Lib.hid h3
        clear h3
        clear p0 p1 p2 hc3 hg3
        cases b
        · obtain ⟨p0, p1, p2⟩ := (hm.get (List.mem_cons_self)).1.three
          obtain ⟨q0, q1, q2⟩ := (hm.get (R := w.heap.size) (C := zA) (by simp)).1.three
          have z0 := (hm.get (R := w.heap.size) (C := zA) (by simp)).2 0
          have z1 := (hm.get (R := w.heap.size) (C := zA) (by simp)).2 1
          have z2 := (hm.get (R := w.heap.size) (C := zA) (by simp)).2 2
          have HG := Lib.hid (BX.give hm HR.out)
          clear hm
          go_wp2
          refine bodyPost_ret (v := .agg (vA wk A c)) (results_l4Draw _ _ _ _ _ _ rfl (HG.out.get (List.mem_cons_self)).1) rfl ⟨wk, A, c, rfl, HS.out, ?_, HG.out.cur, HG.out.grown⟩
          exact (own_off3 HO.out (by omega) _ _ _).mono (by omega)
        · obtain ⟨ga, cc, hA, hge, -⟩ := own_form HO.out hl0
          obtain ⟨rfl, rfl⟩ : A = some ⟨ga, 0, none⟩ ∧ c = cc := by
            injection hA with h1 _ h2
            exact ⟨h1, h2⟩
          clear hA
          go_wp2_with fail
          refine wp_region_fin 15 (fun x => BX w B g w1.heap.size w.heap.size wk (some ⟨ga, 0, none⟩) c x ∧ CpOwn (w1.heap.size + 1) x (.slice (some ⟨ga, 0, none⟩) wk.copies.length c) wk.copies) [(0, true), (1, true), (2, true), (3, true), (4, true), (5, true), (6, true), (7, false), (8, true), (9, true), (10, true), (11, false), (12, true), (13, true), (14, true), (15, false)] (by kernel_rfl) (by kernel_rfl) (fun _ _ _ _ _ h => h) (by kernel_rfl) (by decide) ⟨hm.drew, HO.out⟩ ?_
          intro hHeld
          repeat (first
            | (refine seqF_reads (by simp only [List.getElem?_toArray, List.getElem?_cons_succ, List.getElem?_cons_zero]; first | done | rfl) (by rfl) ?_; apply Exists.intro; apply And.intro; (focus (intro w hSw; (try (replace hSw := hSw (by decide +kernel))); (try (obtain ⟨hD, hOw⟩ := hSw; obtain ⟨p0, p1, p2⟩ := (hD.get (List.mem_cons_self)).1.three; (try (have hE := own_ed_at hOw hj; obtain ⟨e0, e1, e2⟩ := hE)))); go_simp; (try with_reducible rfl); done)); (try simp only [Act.put, List.setIfInBounds_toArray, List.set_cons_zero, List.set_cons_succ]))
            | (refine seqF_call (by simp only [List.getElem?_toArray, List.getElem?_cons_succ, List.getElem?_cons_zero]; first | done | rfl) (by rfl) (fun K hK => ?_) (by decide); go_simp; go_at_call 56; refine (l1Below_any B g _ hHeld.1.cur (wk.copies.length : Int) (by omega) (by have := HS.out.2.1; omega)).mono ?_; rintro r w1 ⟨n, hn0, hn1, rfl, hc3, hg3⟩; obtain ⟨j, rfl⟩ := Int.eq_ofNat_of_zero_le hn0; go_simp; refine hK.out _ _ _ (fun _ h => h) ⟨hHeld.1.by hg3 hc3, own_byC hHeld.2 hg3 HGR.out⟩ ?_; clear hK hHeld; intro hHeld; clear hc3 hg3; (have hj : j < wk.copies.length := by omega); clear hn0 hn1; (try simp only [Act.put, List.setIfInBounds_toArray, List.set_cons_zero, List.set_cons_succ]))
            | (refine seqF_call (by simp only [List.getElem?_toArray, List.getElem?_cons_succ, List.getElem?_cons_zero]; first | done | rfl) (by rfl) (fun K hK => ?_) (by decide); go_simp; go_at_call 199; refine (specVeiled wk.name wk.owner (some ⟨ga, 0, none⟩) wk.copies c wk.copies[j].ed true _ hHeld.2.cps.1 hHeld.2.nilc (by have := HS.out.1; unfold maxLen; omega) (by have := HS.out.2.1; omega) (fun x hx => by have := HS.out.2.2 x hx; unfold maxLen; omega)).mono ?_; rintro r w1 ⟨⟨A', c', rfl, ho'⟩, b5⟩; (have HLT := Lib.hid (hHeld.1.ne (List.mem_cons_self)).2.2); go_simp; refine hK.out _ _ _ (fun _ h => h) ⟨hHeld.1.below b5, hHeld.2.below b5⟩ ?_; clear hK hHeld; intro hHeld; (have HO' := Lib.hid ho'); (have HS' := Lib.hid (M.small_veiled (e := wk.copies[j].ed) (h := true) HS.out)); clear ho' b5; (try simp only [Act.put, List.setIfInBounds_toArray, List.set_cons_zero, List.set_cons_succ]))
            | (refine seqF_last (by simp only [List.getElem?_toArray, List.getElem?_cons_succ, List.getElem?_cons_zero]; first | done | rfl) (by rfl) (fun K hK => ?_); have hD := hHeld.1; obtain ⟨p0, p1, p2⟩ := (hD.get (List.mem_cons_self)).1.three; obtain ⟨z0, z1, z2⟩ : _ ∧ _ ∧ _ := ⟨(hD.get (List.mem_cons_self)).2 0, (hD.get (List.mem_cons_self)).2 1, (hD.get (List.mem_cons_self)).2 2⟩; go_simp; refine hK.out _ _ ?_; clear hK; clear hD p0 p1 p2 z0 z1 z2; (have HD := Lib.hid hHeld.1); clear hHeld; (try simp only [Act.put, List.setIfInBounds_toArray, List.set_cons_zero, List.set_cons_succ])))
          refine seqF_end ?_
          replace HO' := Lib.hid (own_off3 (HO'.out.mono HLT.out) (Nat.lt_succ_self _) (.string (M.veiled wk wk.copies[j].ed true).1.name) (.int .i64 (M.veiled wk wk.copies[j].ed true).1.owner) (.slice A' (M.veiled wk wk.copies[j].ed true).1.copies.length c'))
          have hm7 : BX w B g _ _ _ A' c' _ := HD.out.put (wk' := (M.veiled wk wk.copies[j].ed true).1) HR.out
          clear HD
          obtain ⟨p0, p1, p2⟩ := (hm7.get (List.mem_cons_self)).1.three
          obtain ⟨q0, q1, q2⟩ := (hm7.get (R := w.heap.size) (C := zA) (by simp)).1.three
          have z0 := (hm7.get (R := w.heap.size) (C := zA) (by simp)).2 0
          have z1 := (hm7.get (R := w.heap.size) (C := zA) (by simp)).2 1
          have z2 := (hm7.get (R := w.heap.size) (C := zA) (by simp)).2 2
          have HG := Lib.hid (BX.give hm7 HR.out)
          clear hm7
          go_wp2
          refine bodyPost_ret (v := .agg (vA (M.veiled wk wk.copies[j].ed true).1 A' c')) (results_l4Draw _ _ _ _ _ _ rfl (HG.out.get (List.mem_cons_self)).1) rfl ⟨(M.veiled wk wk.copies[j].ed true).1, A', c', rfl, HS'.out, ?_, HG.out.cur, HG.out.grown⟩
          exact (own_off3 HO'.out (by omega) _ _ _).mono (by omega)
      · obtain ⟨p0, p1, p2⟩ := (hm.get (List.mem_cons_self)).1.three
        obtain ⟨q0, q1, q2⟩ := (hm.get (R := w.heap.size) (C := zA) (by simp)).1.three
        have z0 := (hm.get (R := w.heap.size) (C := zA) (by simp)).2 0
        have z1 := (hm.get (R := w.heap.size) (C := zA) (by simp)).2 1
        have z2 := (hm.get (R := w.heap.size) (C := zA) (by simp)).2 2
        have HG := Lib.hid (BX.give hm HR.out)
        clear hm
        go_wp2
        refine bodyPost_ret (v := .agg (vA wk A c)) (results_l4Draw _ _ _ _ _ _ rfl (HG.out.get (List.mem_cons_self)).1) rfl ⟨wk, A, c, rfl, HS.out, ?_, HG.out.cur, HG.out.grown⟩
        exact (own_off3 HO.out (by omega) _ _ _).mono (by omega)
end Go.Proofs.YtblcgbgcccjpcaaGreat
