/- Proved: what the model draws for the laws on works: some small work in new memory, some edition, some short text; nothing that was there is written. -/
import Derived.Test.YtbdcehmcdoocgaaDrawWkAny
namespace Go.Proofs.Ytbdcehmcdoocgaa
open Go.RowKit
set_option maxRecDepth 20000

/-- Nothing that was there in w0 has changed; the cursor, a newer block, stands; each box of bx is newer, another block, holds its cells and may be written. -/
structure DrT (w0 : World) (g : Nat) (bx : List (Nat × Array Value)) (x : World) : Prop where
  low : w0.heap.size ≤ g
  below : Below w0.heap.size w0 x
  cur : Cur w0.heap.size x g
  box : ∀ p ∈ bx, w0.heap.size ≤ p.1 ∧ p.1 ≠ g ∧ Holds x p.1 p.2 ∧ Loose x p.1
theorem DrT.start {w0 x0 x1 : World} {bx : List (Nat × Array Value)} {ls : List Nat} (hm : Mem w0 bx ls x0) (hl : ∀ p ∈ bx, w0.heap.size ≤ p.1 ∧ p.1 ∈ ls) (hg : x0.grownBy x1 none) (hc : Cur w0.heap.size x1 x0.heap.size) : DrT w0 x0.heap.size bx x1 := by
  have hb := below_of hg
  refine ⟨hm.1.size, hm.1.trans (hb.mono hm.1.size), hc, fun p hp => ?_⟩
  have hH := hm.2.1 p hp
  have hL := hm.2.2 p.1 (hl p hp).2
  exact ⟨(hl p hp).1, Nat.ne_of_lt hH.1, hH.below hb, hL.2.below hL.1 hb⟩
theorem DrT.by {w0 : World} {g : Nat} {bx : List (Nat × Array Value)} {x y : World} (h : DrT w0 g bx x) (hg : x.grownBy y (some g)) (hc : Cur w0.heap.size y g) : DrT w0 g bx y := by
  refine ⟨h.low, h.below.grown hg h.below.size (fun k e => by cases e; exact h.low), hc, fun p hp => ?_⟩
  obtain ⟨h1, h0, h2, h3⟩ := h.box p hp
  have hb : y.heap[p.1]? = x.heap[p.1]? := hg.block p.1 h2.1 (by
    intro e
    injection e with e
    exact h0 e)
  exact ⟨h1, h0, ⟨Nat.lt_of_lt_of_le h2.1 hg.size, fun j v hj => (World.cell?_of_block (a := ⟨p.1, j, none⟩) hb).trans (h2.2 j v hj)⟩, fun j => (World.frozen?_of_block (a := ⟨p.1, j, none⟩) hb).trans (h3 j)⟩
theorem DrT.drew {w0 : World} {g : Nat} {bx : List (Nat × Array Value)} {x : World} (h : DrT w0 g bx x) : DrT w0 g bx x.drew := ⟨h.low, h.below.drew, h.cur, h.box⟩
theorem DrT.sub {w0 : World} {g : Nat} {bx bx' : List (Nat × Array Value)} {x : World} (h : DrT w0 g bx x) (hs : ∀ p ∈ bx', p ∈ bx) : DrT w0 g bx' x := ⟨h.low, h.below, h.cur, fun p hp => h.box p (hs p hp)⟩
theorem DrT.new {w0 : World} {g : Nat} {bx : List (Nat × Array Value)} {x : World} (h : DrT w0 g bx x) (C : Array Value) (t : TypeId) : DrT w0 g ((x.heap.size, C) :: bx) (x.alloc (.cells C t)) := by
  have hb : Below x.heap.size x (x.alloc (.cells C t)) := (Below.refl _ _).alloc (Nat.le_refl _) _
  have h' := h.by (grown_of_below hb _) (h.cur.kept (grown_of_below hb none) (by simp))
  refine ⟨h'.low, h'.below, h'.cur, fun p hp => ?_⟩
  rcases List.mem_cons.1 hp with rfl | hp
  · have := h.cur.2.1
    exact ⟨h.below.size, by simp only; omega, holds_new x C t, loose_new x C t⟩
  · exact h'.box p hp
theorem DrT.put {w0 : World} {g R : Nat} {C : Array Value} {bx : List (Nat × Array Value)} {x : World} (h : DrT w0 g ((R, C) :: bx) x) (hn : ∀ p ∈ bx, p.1 ≠ R) (j : Nat) (v : Value) : DrT w0 g ((R, C.setIfInBounds j v) :: bx) (x.setCell ⟨R, j, none⟩ v) := by
  obtain ⟨hR, h0, hH, hL⟩ := h.box (R, C) (by simp)
  refine ⟨h.low, h.below.setCell hR v, h.cur.kept (grownBy_set x R j v) (by intro k e; cases e; exact ⟨Ne.symm h0, hR⟩), fun p hp => ?_⟩
  rcases List.mem_cons.1 hp with rfl | hp
  · exact ⟨hR, h0, hH.putM j v, fun i => by rw [World.frozen?_setCell]; exact hL i⟩
  · obtain ⟨h1, h4, h2, h3⟩ := h.box p (List.mem_cons_of_mem _ hp)
    exact ⟨h1, h4, h2.otherM (hn p hp), fun i => by rw [World.frozen?_setCell]; exact h3 i⟩
theorem DrT.put3 {w0 : World} {g R : Nat} {a b c : Value} {bx : List (Nat × Array Value)} {x : World} (h : DrT w0 g ((R, #[a, b, c]) :: bx) x) (hn : ∀ p ∈ bx, p.1 ≠ R) (a' b' c' : Value) :
    DrT w0 g ((R, #[a', b', c']) :: bx) (((x.setCell ⟨R, 0, none⟩ a').setCell ⟨R, 1, none⟩ b').setCell ⟨R, 2, none⟩ c') := by
  have := ((h.put hn 0 a').put hn 1 b').put hn 2 c'
  simpa using this
theorem DrT.get {w0 : World} {g : Nat} {bx : List (Nat × Array Value)} {x : World} (h : DrT w0 g bx x) {R : Nat} {C : Array Value} (hp : (R, C) ∈ bx) : Holds x R C ∧ Loose x R := (h.box (R, C) hp).2.2
abbrev eA (e : M.Ed) : Array Value := #[.int .i64 e.ma, .int .i64 e.mi, .int .i64 e.pa]
/-- Two boxes of three cells, both to be written: the first one first. -/
theorem DrT.both {w0 : World} {g R Q : Nat} {a b c d e f : Value} {bx : List (Nat × Array Value)} {x : World} (h : DrT w0 g ((R, #[a, b, c]) :: (Q, #[d, e, f]) :: bx) x) (hn : ∀ p ∈ bx, p.1 ≠ R ∧ p.1 ≠ Q) (hRQ : Q ≠ R) (a' b' c' d' e' f' : Value) :
    DrT w0 g ((Q, #[d', e', f']) :: (R, #[a', b', c']) :: bx) ((((((x.setCell ⟨R, 0, none⟩ a').setCell ⟨R, 1, none⟩ b').setCell ⟨R, 2, none⟩ c').setCell ⟨Q, 0, none⟩ d').setCell ⟨Q, 1, none⟩ e').setCell ⟨Q, 2, none⟩ f') := by
  have h1 := h.put3 (fun p hp => by rcases List.mem_cons.1 hp with rfl | hp; exact hRQ; exact (hn p hp).1) a' b' c'
  have h2 : DrT w0 g ((Q, #[d, e, f]) :: (R, #[a', b', c']) :: bx) _ := h1.sub (fun p hp => by
    simp only [List.mem_cons] at hp ⊢
    rcases hp with h | h | h
    · exact .inr (.inl h)
    · exact .inl h
    · exact .inr (.inr h))
  exact h2.put3 (fun p hp => by rcases List.mem_cons.1 hp with rfl | hp; exact Ne.symm hRQ; exact (hn p hp).2) d' e' f'
theorem own_off6 {b R Q : Nat} {x : World} {v : Value} {l : List M.Cp} (h : CpOwn b x v l) (hR : R < b) (hQ : Q < b) (p q r s t u : Value) : CpOwn b ((((((x.setCell ⟨R, 0, none⟩ p).setCell ⟨R, 1, none⟩ q).setCell ⟨R, 2, none⟩ r).setCell ⟨Q, 0, none⟩ s).setCell ⟨Q, 1, none⟩ t).setCell ⟨Q, 2, none⟩ u) v l :=
  own_off3 (own_off3 h hR p q r) hQ s t u

theorem own_drew {b : Nat} {x : World} {v : Value} {l : List M.Cp} (h : CpOwn b x v l) : CpOwn b x.drew v l := h
theorem two_put {w0 x : World} {R Q : Nat} {a b c d e f : Value} (hb : Below w0.heap.size w0 x) (hR : w0.heap.size ≤ R) (hQ : w0.heap.size ≤ Q) (hRQ : Q ≠ R) (h1 : Holds x R #[a, b, c]) (h2 : Holds x Q #[d, e, f]) (a' b' c' d' e' f' : Value) :
    Holds ((((((x.setCell ⟨R, 0, none⟩ a').setCell ⟨R, 1, none⟩ b').setCell ⟨R, 2, none⟩ c').setCell ⟨Q, 0, none⟩ d').setCell ⟨Q, 1, none⟩ e').setCell ⟨Q, 2, none⟩ f') R #[a', b', c'] ∧
    Holds ((((((x.setCell ⟨R, 0, none⟩ a').setCell ⟨R, 1, none⟩ b').setCell ⟨R, 2, none⟩ c').setCell ⟨Q, 0, none⟩ d').setCell ⟨Q, 1, none⟩ e').setCell ⟨Q, 2, none⟩ f') Q #[d', e', f'] ∧
    Below w0.heap.size w0 ((((((x.setCell ⟨R, 0, none⟩ a').setCell ⟨R, 1, none⟩ b').setCell ⟨R, 2, none⟩ c').setCell ⟨Q, 0, none⟩ d').setCell ⟨Q, 1, none⟩ e').setCell ⟨Q, 2, none⟩ f') := by
  have k1 : Holds (((x.setCell ⟨R, 0, none⟩ a').setCell ⟨R, 1, none⟩ b').setCell ⟨R, 2, none⟩ c') R #[a', b', c'] := by simpa using ((h1.putM 0 a').putM 1 b').putM 2 c'
  have k2 := ((h2.otherM (g := R) (j := 0) (v := a') hRQ).otherM (g := R) (j := 1) (v := b') hRQ).otherM (g := R) (j := 2) (v := c') hRQ
  refine ⟨((k1.otherM hRQ.symm).otherM hRQ.symm).otherM hRQ.symm, ?_, (((((hb.setCell hR _).setCell hR _).setCell hR _).setCell hQ _).setCell hQ _).setCell hQ _⟩
  simpa using ((k2.putM 0 d').putM 1 e').putM 2 f'
/-- Some small work in new memory, some edition; nothing that was there is written. -/
def TopWE (w : World) (r : Ending) (w' : World) : Prop :=
  ∃ (wk : M.Wk) (A : Option Addr) (c : Nat) (e : M.Ed), r = .returned (.tuple #[wkV wk.name wk.owner A wk.copies.length c, edV e]) ∧ M.smallWk 10 wk ∧ CpOwn w.heap.size w' (.slice A wk.copies.length c) wk.copies ∧ Below w.heap.size w w'
def TopWES (w : World) (r : Ending) (w' : World) : Prop :=
  ∃ (wk : M.Wk) (A : Option Addr) (c : Nat) (e : M.Ed) (s : ByteArray), r = .returned (.tuple #[wkV wk.name wk.owner A wk.copies.length c, edV e, .string s]) ∧ M.smallWk 10 wk ∧ s.size ≤ 64 ∧ CpOwn w.heap.size w' (.slice A wk.copies.length c) wk.copies ∧ Below w.heap.size w w'
def TopWEB (w : World) (r : Ending) (w' : World) : Prop :=
  ∃ (wk : M.Wk) (A : Option Addr) (c : Nat) (e : M.Ed) (b : Bool), r = .returned (.tuple #[wkV wk.name wk.owner A wk.copies.length c, edV e, .bool b]) ∧ M.smallWk 10 wk ∧ CpOwn w.heap.size w' (.slice A wk.copies.length c) wk.copies ∧ Below w.heap.size w w'

theorem results_DrawCopyIn (wk : M.Wk) (A : Option Addr) (c : Nat) (e : M.Ed) (R Q : Nat) (W : World) (tmps : Array Value) (h2 : tmps.getD 2 undef = .pointer (some ⟨R, 0, none⟩)) (h3 : tmps.getD 3 undef = .pointer (some ⟨Q, 0, none⟩)) (hW : Holds W R (vA wk A c)) (hE : Holds W Q (eA e)) :
    (results Try.f10 tmps).run Try.prog W = .ok (.tuple #[wkV wk.name wk.owner A wk.copies.length c, edV e]) W := by
  obtain ⟨q0, q1, q2⟩ := hW.three
  obtain ⟨p0, p1, p2⟩ := hE.three
  simp at h2 h3
  simp [results, Try.results10, go_sem, h2, h3, q0, q1, q2, p0, p1, p2]

theorem results_DrawNewest (wk : M.Wk) (A : Option Addr) (c : Nat) (e : M.Ed) (R Q : Nat) (W : World) (tmps : Array Value) (h2 : tmps.getD 2 undef = .pointer (some ⟨R, 0, none⟩)) (h3 : tmps.getD 3 undef = .pointer (some ⟨Q, 0, none⟩)) (hW : Holds W R (vA wk A c)) (hE : Holds W Q (eA e)) :
    (results Try.f18 tmps).run Try.prog W = .ok (.tuple #[wkV wk.name wk.owner A wk.copies.length c, edV e]) W := by
  obtain ⟨q0, q1, q2⟩ := hW.three
  obtain ⟨p0, p1, p2⟩ := hE.three
  simp at h2 h3
  simp [results, Try.results18, go_sem, h2, h3, q0, q1, q2, p0, p1, p2]

theorem results_DrawPrinted (wk : M.Wk) (A : Option Addr) (c : Nat) (e : M.Ed) (s : ByteArray) (R Q : Nat) (W : World) (tmps : Array Value) (h2 : tmps.getD 2 undef = .pointer (some ⟨R, 0, none⟩)) (h3 : tmps.getD 3 undef = .pointer (some ⟨Q, 0, none⟩)) (h4 : tmps.getD 4 undef = .string s) (hW : Holds W R (vA wk A c)) (hE : Holds W Q (eA e)) :
    (results Try.f6 tmps).run Try.prog W = .ok (.tuple #[wkV wk.name wk.owner A wk.copies.length c, edV e, .string s]) W := by
  obtain ⟨q0, q1, q2⟩ := hW.three
  obtain ⟨p0, p1, p2⟩ := hE.three
  simp at h2 h3 h4
  simp [results, Try.results6, go_sem, h2, h3, h4, q0, q1, q2, p0, p1, p2]

theorem results_DrawVeiled (wk : M.Wk) (A : Option Addr) (c : Nat) (e : M.Ed) (b : Bool) (R Q : Nat) (W : World) (tmps : Array Value) (h2 : tmps.getD 2 undef = .pointer (some ⟨R, 0, none⟩)) (h3 : tmps.getD 3 undef = .pointer (some ⟨Q, 0, none⟩)) (h4 : tmps.getD 4 undef = .bool b) (hW : Holds W R (vA wk A c)) (hE : Holds W Q (eA e)) :
    (results Try.f8 tmps).run Try.prog W = .ok (.tuple #[wkV wk.name wk.owner A wk.copies.length c, edV e, .bool b]) W := by
  obtain ⟨q0, q1, q2⟩ := hW.three
  obtain ⟨p0, p1, p2⟩ := hE.three
  simp at h2 h3 h4
  simp [results, Try.results8, go_sem, h2, h3, h4, q0, q1, q2, p0, p1, p2]

set_option maxHeartbeats 2000000 in
theorem DrawCopyIn_any (w : World) (a : Option Addr) (len cap : Nat) (hl : len ≤ 4096) (hc : CodeOk w.heap.size w a len) :
    Calls Try.prog 10 #[.slice a len cap] w (TopWE w) := by
  have hm0 := ((Mem.start w).new zA 26).new (eA ⟨0, 0, 0⟩) 28
  go_enter Try.func10, Try.ntmps10
  go_wp2_with fail
  refine (l1New_any w.heap.size _ a len cap (by simp; omega) hl ((hc.alloc (Nat.le_refl _) _).alloc (by simp) _)).mono ?_
  rintro r w1 ⟨rfl, hc1, hg1⟩
  have hm := DrT.start hm0 (by simp) hg1 hc1
  simp only [World.size_alloc] at hm
  have hsz : w.heap.size + 1 + 1 < w1.heap.size := by have := hc1.2.1; simpa using this
  clear hm0 hc1 hg1 hc
  go_wp2_with fail
  refine (l4DrawAny_any _ _ _ hm.cur).mono ?_
  rintro r w2 ⟨wk, A, c, rfl, hs, ho, hc2, hg2⟩
  replace hm := (hm.by hg2 hc2).new (vA wk A c) 26
  have ho2 := ho.below ((Below.refl w2.heap.size w2).alloc (Nat.le_refl _) (.cells (vA wk A c) 26))
  have hsz2 := hg2.size
  clear hc2 hg2 ho
  have HN1 : Hid (∀ p ∈ [(w.heap.size + 1, eA ⟨0, 0, 0⟩), (w2.heap.size, vA wk A c)], p.1 ≠ w.heap.size) := Lib.hid (by simp; omega)
  have HN2 : Hid (∀ p ∈ [(w.heap.size, vA wk A c), (w2.heap.size, vA wk A c)], p.1 ≠ w.heap.size + 1) := Lib.hid (by simp; omega)
  have HRL : Hid (w.heap.size < w1.heap.size) := Lib.hid (by omega)
  have HRL2 : Hid (w.heap.size + 1 < w1.heap.size) := Lib.hid (by omega)
  have HS := Lib.hid hs
  have HGL : Hid (w.heap.size + 1 + 1 < w1.heap.size) := Lib.hid hsz
  have HT := Lib.hid (DrT.drew (hm.sub (bx' := [(w.heap.size, zA), (w.heap.size + 1, eA ⟨0, 0, 0⟩), (w2.heap.size, vA wk A c)]) (by simp)))
  have HO : Hid (CpOwn w1.heap.size (World.drew _) (.slice A wk.copies.length c) wk.copies) := Lib.hid (own_drew ho2)
  clear hm ho2 hs
  go_wp2_with fail
  refine wp_region_seq (fun x => Holds x w2.heap.size (vA wk A c)) [(0, true), (1, true), (2, false), (3, false), (4, false)] (by kernel_rfl) (by kernel_rfl) (fun _ _ _ _ _ h => h) (by kernel_rfl) (by decide) (HT.out.get (by simp)).1 ?_
  intro hHeld
  repeat (first
    | (refine seq_skip (by simp only [List.getElem?_toArray, List.getElem?_cons_succ, List.getElem?_cons_zero]; first | done | rfl) (by rfl) ?_; (try simp only [Act.put, List.setIfInBounds_toArray, List.set_cons_zero, List.set_cons_succ]))
    | (refine seq_reads (by simp only [List.getElem?_toArray, List.getElem?_cons_succ, List.getElem?_cons_zero]; first | done | rfl) (by rfl) ?_; apply Exists.intro; apply And.intro; (focus (intro w hSw; (have hA := hSw; obtain ⟨p0, p1, p2⟩ := hA.three); go_simp; (try with_reducible rfl); done)); (try simp only [Act.put, List.setIfInBounds_toArray, List.set_cons_zero, List.set_cons_succ]))
    | (refine seq_pass (by simp only [List.getElem?_toArray, List.getElem?_cons_succ, List.getElem?_cons_zero]; first | done | rfl) (by rfl) hHeld ?_; clear hHeld; intro hHeld; (try simp only [Act.put, List.setIfInBounds_toArray, List.set_cons_zero, List.set_cons_succ]))
    | (refine seq_call (by simp only [List.getElem?_toArray, List.getElem?_cons_succ, List.getElem?_cons_zero]; first | done | rfl) (by rfl) (fun K hK => ?_); go_simp; go_at_call 25; refine (l2DrawAny_any _ _ _ HT.out.cur).mono ?_; rintro r w1 ⟨e, -, rfl, hc4, hg4⟩; go_simp; refine hK.out _ _ ((HT.out.by hg4 hc4).get (by simp)).1 ?_; clear hK hHeld; intro hHeld; replace HO := Lib.hid (own_by HO.out hg4 HGL.out); replace HT := Lib.hid (HT.out.by hg4 hc4); clear hc4 hg4; (try simp only [Act.put, List.setIfInBounds_toArray, List.set_cons_zero, List.set_cons_succ]))
    | (refine seq_call (by simp only [List.getElem?_toArray, List.getElem?_cons_succ, List.getElem?_cons_zero]; first | done | rfl) (by rfl) (fun K hK => ?_); (have hD := HT.out); obtain ⟨r0, r1, r2⟩ := (hD.get (R := w.heap.size) (C := zA) (by simp)).1.three; (have z0 := (hD.get (R := w.heap.size) (C := zA) (by simp)).2 0); (have z1 := (hD.get (R := w.heap.size) (C := zA) (by simp)).2 1); (have z2 := (hD.get (R := w.heap.size) (C := zA) (by simp)).2 2); go_simp; (have hD1 := hD.put3 HN1.out (.string wk.name) (.int .i64 wk.owner) (.slice A wk.copies.length c)); (have hO1 := own_off3 HO.out HRL.out (.string wk.name) (.int .i64 wk.owner) (.slice A wk.copies.length c)); refine hK.out _ _ (hD1.get (by simp)).1 ?_; clear hK hHeld r0 r1 r2 z0 z1 z2 hD HT HO; (have HT := Lib.hid hD1); (have HO := Lib.hid hO1); clear hD1 hO1; intro hHeld; (try simp only [Act.put, List.setIfInBounds_toArray, List.set_cons_zero, List.set_cons_succ]))
    | (refine seq_call (by simp only [List.getElem?_toArray, List.getElem?_cons_succ, List.getElem?_cons_zero]; first | done | rfl) (by rfl) (fun K hK => ?_); (have hD := HT.out.sub (bx' := [(w.heap.size + 1, eA ⟨0, 0, 0⟩), (w.heap.size, vA wk A c), (w2.heap.size, vA wk A c)]) (by simp)); obtain ⟨r0, r1, r2⟩ := (hD.get (R := w.heap.size + 1) (C := eA ⟨0, 0, 0⟩) (by simp)).1.three; (have z0 := (hD.get (R := w.heap.size + 1) (C := eA ⟨0, 0, 0⟩) (by simp)).2 0); (have z1 := (hD.get (R := w.heap.size + 1) (C := eA ⟨0, 0, 0⟩) (by simp)).2 1); (have z2 := (hD.get (R := w.heap.size + 1) (C := eA ⟨0, 0, 0⟩) (by simp)).2 2); go_simp; (have hD1 := hD.put3 HN2.out (.int .i64 e.ma) (.int .i64 e.mi) (.int .i64 e.pa)); (have hO1 := own_off3 HO.out HRL2.out (.int .i64 e.ma) (.int .i64 e.mi) (.int .i64 e.pa)); refine hK.out _ _ (hD1.get (by simp)).1 ?_; clear hK hHeld r0 r1 r2 z0 z1 z2 hD HT HO; (have HT := Lib.hid hD1); (have HO := Lib.hid hO1); clear hD1 hO1; intro hHeld; (try simp only [Act.put, List.setIfInBounds_toArray, List.set_cons_zero, List.set_cons_succ])))
  refine seq_end ?_
  go_wp2
  exact bodyPost_ret (results_DrawCopyIn wk A c e w.heap.size (w.heap.size + 1) _ _ rfl rfl (HT.out.get (by simp)).1 (HT.out.get (by simp)).1) rfl ⟨wk, A, c, e, rfl, HS.out, HO.out.mono (by omega), HT.out.below⟩

set_option maxHeartbeats 2000000 in
theorem DrawNewest_any (w : World) (a : Option Addr) (len cap : Nat) (hl : len ≤ 4096) (hc : CodeOk w.heap.size w a len) :
    Calls Try.prog 18 #[.slice a len cap] w (TopWE w) := by
  have hm0 := ((Mem.start w).new zA 26).new (eA ⟨0, 0, 0⟩) 28
  go_enter Try.func18, Try.ntmps18
  go_wp2_with fail
  refine (DrawCopyIn_any _ a len cap hl (((hc.alloc (Nat.le_refl _) _).alloc (by simp) _).later' (by simp; omega))).mono ?_
  rintro r w1 ⟨wk, A, c, e, rfl, hs, ho, b1⟩
  replace hm0 := hm0.below b1
  simp only [World.size_alloc] at ho hm0
  have hH := hm0.get w.heap.size zA (by simp)
  have hE := hm0.get (w.heap.size + 1) (eA ⟨0, 0, 0⟩) (by simp)
  obtain ⟨q0, q1, q2⟩ := hH.three
  obtain ⟨p0, p1, p2⟩ := hE.three
  have z0 := hm0.loose w.heap.size (by simp) 0
  have z1 := hm0.loose w.heap.size (by simp) 1
  have z2 := hm0.loose w.heap.size (by simp) 2
  have y0 := hm0.loose (w.heap.size + 1) (by simp) 0
  have y1 := hm0.loose (w.heap.size + 1) (by simp) 1
  have y2 := hm0.loose (w.heap.size + 1) (by simp) 2
  have HM := Lib.hid (two_put (R := w.heap.size) (Q := w.heap.size + 1) hm0.1 (Nat.le_refl _) (Nat.le_succ _) (by omega) hH hE (.string wk.name) (.int .i64 wk.owner) (.slice A wk.copies.length c) (.int .i64 e.ma) (.int .i64 e.mi) (.int .i64 e.pa))
  have HO := Lib.hid (own_off6 ho (R := w.heap.size) (Q := w.heap.size + 1) (by omega) (by omega) (.string wk.name) (.int .i64 wk.owner) (.slice A wk.copies.length c) (.int .i64 e.ma) (.int .i64 e.mi) (.int .i64 e.pa))
  clear hm0 hH hE ho b1
  go_wp2
  exact bodyPost_ret (results_DrawNewest wk A c e w.heap.size (w.heap.size + 1) _ _ rfl rfl HM.out.1 HM.out.2.1) rfl ⟨wk, A, c, e, rfl, hs, HO.out.mono (by omega), HM.out.2.2⟩

set_option maxHeartbeats 2000000 in
theorem DrawVeiled_any (w : World) (a : Option Addr) (len cap : Nat) (hl : len ≤ 4096) (hc : CodeOk w.heap.size w a len) :
    Calls Try.prog 8 #[.slice a len cap] w (TopWEB w) := by
  have hm0 := ((Mem.start w).new zA 26).new (eA ⟨0, 0, 0⟩) 28
  go_enter Try.func8, Try.ntmps8
  go_wp2_with fail
  refine (l1New_any w.heap.size _ a len cap (by simp; omega) hl ((hc.alloc (Nat.le_refl _) _).alloc (by simp) _)).mono ?_
  rintro r w1 ⟨rfl, hc1, hg1⟩
  have hm := DrT.start hm0 (by simp) hg1 hc1
  simp only [World.size_alloc] at hm
  have hsz : w.heap.size + 1 + 1 < w1.heap.size := by have := hc1.2.1; simpa using this
  clear hm0 hc1 hg1 hc
  go_wp2_with fail
  refine (l4DrawAny_any _ _ _ hm.cur).mono ?_
  rintro r w2 ⟨wk, A, c, rfl, hs, ho, hc2, hg2⟩
  replace hm := (hm.by hg2 hc2).new (vA wk A c) 26
  have ho2 := ho.below ((Below.refl w2.heap.size w2).alloc (Nat.le_refl _) (.cells (vA wk A c) 26))
  have hsz2 := hg2.size
  clear hc2 hg2 ho
  go_wp2_with fail
  refine (l2DrawAny_any _ _ _ hm.cur).mono ?_
  rintro r w3 ⟨e, -, rfl, hc3, hg3⟩
  replace hm := (hm.by hg3 hc3).new (eA e) 28
  replace ho2 := (own_by ho2 hg3 hsz).below ((Below.refl w3.heap.size w3).alloc (Nat.le_refl _) (.cells (eA e) 28))
  have hsz3 : w2.heap.size < w3.heap.size := by have := hg3.size; simp at this; omega
  clear hc3 hg3
  have HN1 : Hid (∀ p ∈ [(w.heap.size + 1, eA ⟨0, 0, 0⟩), (w2.heap.size, vA wk A c), (w3.heap.size, eA e)], p.1 ≠ w.heap.size) := Lib.hid (by simp; omega)
  have HN2 : Hid (∀ p ∈ [(w.heap.size, vA wk A c), (w2.heap.size, vA wk A c), (w3.heap.size, eA e)], p.1 ≠ w.heap.size + 1) := Lib.hid (by simp; omega)
  have HRL : Hid (w.heap.size < w1.heap.size) := Lib.hid (by omega)
  have HRL2 : Hid (w.heap.size + 1 < w1.heap.size) := Lib.hid (by omega)
  have HS := Lib.hid hs
  have HGL : Hid (w.heap.size + 1 + 1 < w1.heap.size) := Lib.hid hsz
  have HT := Lib.hid (DrT.drew (hm.sub (bx' := [(w.heap.size, zA), (w.heap.size + 1, eA ⟨0, 0, 0⟩), (w2.heap.size, vA wk A c), (w3.heap.size, eA e)]) (by simp)))
  have HO : Hid (CpOwn w1.heap.size (World.drew _) (.slice A wk.copies.length c) wk.copies) := Lib.hid (own_drew ho2)
  clear hm ho2 hs
  go_wp2_with fail
  refine wp_region_seq (fun x => Holds x w2.heap.size (vA wk A c) ∧ Holds x w3.heap.size (eA e)) [(0, true), (1, true), (2, true), (3, false), (4, false), (5, false), (6, true)] (by kernel_rfl) (by kernel_rfl) (fun _ _ _ _ _ h => h) (by kernel_rfl) (by decide) (And.intro (HT.out.get (by simp)).1 (HT.out.get (by simp)).1) ?_
  intro hHeld
  repeat (first
    | (refine seq_skip (by simp only [List.getElem?_toArray, List.getElem?_cons_succ, List.getElem?_cons_zero]; first | done | rfl) (by rfl) ?_; (try simp only [Act.put, List.setIfInBounds_toArray, List.set_cons_zero, List.set_cons_succ]))
    | (refine seq_reads (by simp only [List.getElem?_toArray, List.getElem?_cons_succ, List.getElem?_cons_zero]; first | done | rfl) (by rfl) ?_; apply Exists.intro; apply And.intro; (focus (intro w hSw; (have hA := hSw.1; obtain ⟨p0, p1, p2⟩ := hA.three; have hB := hSw.2; obtain ⟨s0, s1, s2⟩ := hB.three); go_simp; (try with_reducible rfl); done)); (try simp only [Act.put, List.setIfInBounds_toArray, List.set_cons_zero, List.set_cons_succ]))
    | (refine seq_pass (by simp only [List.getElem?_toArray, List.getElem?_cons_succ, List.getElem?_cons_zero]; first | done | rfl) (by rfl) hHeld ?_; clear hHeld; intro hHeld; (try simp only [Act.put, List.setIfInBounds_toArray, List.set_cons_zero, List.set_cons_succ]))
    | (refine seq_call (by simp only [List.getElem?_toArray, List.getElem?_cons_succ, List.getElem?_cons_zero]; first | done | rfl) (by rfl) (fun K hK => ?_); go_simp; go_at_call 26; refine (l1Once_any _ _ _ HT.out.cur 2 (by omega) (by omega)).mono ?_; rintro r w1 ⟨b, rfl, hc4, hg4⟩; go_simp; refine hK.out _ _ ⟨((HT.out.by hg4 hc4).get (by simp)).1, ((HT.out.by hg4 hc4).get (by simp)).1⟩ ?_; clear hK hHeld; intro hHeld; replace HO := Lib.hid (own_by HO.out hg4 HGL.out); replace HT := Lib.hid (HT.out.by hg4 hc4); clear hc4 hg4; (try simp only [Act.put, List.setIfInBounds_toArray, List.set_cons_zero, List.set_cons_succ]))
    | (refine seq_call (by simp only [List.getElem?_toArray, List.getElem?_cons_succ, List.getElem?_cons_zero]; first | done | rfl) (by rfl) (fun K hK => ?_); (have hD := HT.out); obtain ⟨r0, r1, r2⟩ := (hD.get (R := w.heap.size) (C := zA) (by simp)).1.three; (have z0 := (hD.get (R := w.heap.size) (C := zA) (by simp)).2 0); (have z1 := (hD.get (R := w.heap.size) (C := zA) (by simp)).2 1); (have z2 := (hD.get (R := w.heap.size) (C := zA) (by simp)).2 2); go_simp; (have hD1 := hD.put3 HN1.out (.string wk.name) (.int .i64 wk.owner) (.slice A wk.copies.length c)); (have hO1 := own_off3 HO.out HRL.out (.string wk.name) (.int .i64 wk.owner) (.slice A wk.copies.length c)); refine hK.out _ _ ⟨(hD1.get (by simp)).1, (hD1.get (by simp)).1⟩ ?_; clear hK hHeld r0 r1 r2 z0 z1 z2 hD HT HO; (have HT := Lib.hid hD1); (have HO := Lib.hid hO1); clear hD1 hO1; intro hHeld; (try simp only [Act.put, List.setIfInBounds_toArray, List.set_cons_zero, List.set_cons_succ]))
    | (refine seq_call (by simp only [List.getElem?_toArray, List.getElem?_cons_succ, List.getElem?_cons_zero]; first | done | rfl) (by rfl) (fun K hK => ?_); (have hD := HT.out.sub (bx' := [(w.heap.size + 1, eA ⟨0, 0, 0⟩), (w.heap.size, vA wk A c), (w2.heap.size, vA wk A c), (w3.heap.size, eA e)]) (by simp)); obtain ⟨r0, r1, r2⟩ := (hD.get (R := w.heap.size + 1) (C := eA ⟨0, 0, 0⟩) (by simp)).1.three; (have z0 := (hD.get (R := w.heap.size + 1) (C := eA ⟨0, 0, 0⟩) (by simp)).2 0); (have z1 := (hD.get (R := w.heap.size + 1) (C := eA ⟨0, 0, 0⟩) (by simp)).2 1); (have z2 := (hD.get (R := w.heap.size + 1) (C := eA ⟨0, 0, 0⟩) (by simp)).2 2); go_simp; (have hD1 := hD.put3 HN2.out (.int .i64 e.ma) (.int .i64 e.mi) (.int .i64 e.pa)); (have hO1 := own_off3 HO.out HRL2.out (.int .i64 e.ma) (.int .i64 e.mi) (.int .i64 e.pa)); refine hK.out _ _ ⟨(hD1.get (by simp)).1, (hD1.get (by simp)).1⟩ ?_; clear hK hHeld r0 r1 r2 z0 z1 z2 hD HT HO; (have HT := Lib.hid hD1); (have HO := Lib.hid hO1); clear hD1 hO1; intro hHeld; (try simp only [Act.put, List.setIfInBounds_toArray, List.set_cons_zero, List.set_cons_succ])))
  refine seq_end ?_
  go_wp2
  exact bodyPost_ret (results_DrawVeiled wk A c e b w.heap.size (w.heap.size + 1) _ _ rfl rfl rfl (HT.out.get (by simp)).1 (HT.out.get (by simp)).1) rfl ⟨wk, A, c, e, b, rfl, HS.out, HO.out.mono (by omega), HT.out.below⟩

set_option maxHeartbeats 2000000 in
theorem DrawPrinted_any (w : World) (a : Option Addr) (len cap : Nat) (hl : len ≤ 4096) (hc : CodeOk w.heap.size w a len) :
    Calls Try.prog 6 #[.slice a len cap] w (TopWES w) := by
  have hm0 := ((Mem.start w).new zA 26).new (eA ⟨0, 0, 0⟩) 28
  go_enter Try.func6, Try.ntmps6
  go_wp2_with fail
  refine (l1New_any w.heap.size _ a len cap (by simp; omega) hl ((hc.alloc (Nat.le_refl _) _).alloc (by simp) _)).mono ?_
  rintro r w1 ⟨rfl, hc1, hg1⟩
  have hm := DrT.start hm0 (by simp) hg1 hc1
  simp only [World.size_alloc] at hm
  have hsz : w.heap.size + 1 + 1 < w1.heap.size := by have := hc1.2.1; simpa using this
  clear hm0 hc1 hg1 hc
  go_wp2_with fail
  refine (l4DrawAny_any _ _ _ hm.cur).mono ?_
  rintro r w2 ⟨wk, A, c, rfl, hs, ho, hc2, hg2⟩
  replace hm := (hm.by hg2 hc2).new (vA wk A c) 26
  have ho2 := ho.below ((Below.refl w2.heap.size w2).alloc (Nat.le_refl _) (.cells (vA wk A c) 26))
  have hsz2 := hg2.size
  clear hc2 hg2 ho
  go_wp2_with fail
  refine (l2DrawAny_any _ _ _ hm.cur).mono ?_
  rintro r w3 ⟨e, -, rfl, hc3, hg3⟩
  replace hm := (hm.by hg3 hc3).new (eA e) 28
  replace ho2 := (own_by ho2 hg3 hsz).below ((Below.refl w3.heap.size w3).alloc (Nat.le_refl _) (.cells (eA e) 28))
  have hsz3 : w2.heap.size < w3.heap.size := by have := hg3.size; simp at this; omega
  clear hc3 hg3
  have HN1 : Hid (∀ p ∈ [(w.heap.size + 1, eA ⟨0, 0, 0⟩), (w2.heap.size, vA wk A c), (w3.heap.size, eA e)], p.1 ≠ w.heap.size) := Lib.hid (by simp; omega)
  have HN2 : Hid (∀ p ∈ [(w.heap.size, vA wk A c), (w2.heap.size, vA wk A c), (w3.heap.size, eA e)], p.1 ≠ w.heap.size + 1) := Lib.hid (by simp; omega)
  have HRL : Hid (w.heap.size < w1.heap.size) := Lib.hid (by omega)
  have HRL2 : Hid (w.heap.size + 1 < w1.heap.size) := Lib.hid (by omega)
  have HS := Lib.hid hs
  have HGL : Hid (w.heap.size + 1 + 1 < w1.heap.size) := Lib.hid hsz
  go_wp2_with fail
  refine (l1Once_any _ _ _ hm.cur 10 (by omega) (by omega)).mono ?_
  rintro r w4 ⟨b, rfl, hc4, hg4⟩
  replace hm := hm.by hg4 hc4
  replace ho2 := own_by ho2 hg4 hsz
  clear hc4 hg4
  have HT := Lib.hid (DrT.drew (hm.sub (bx' := [(w.heap.size, zA), (w.heap.size + 1, eA ⟨0, 0, 0⟩), (w2.heap.size, vA wk A c), (w3.heap.size, eA e)]) (by simp)))
  have HO : Hid (CpOwn w1.heap.size w4.drew (.slice A wk.copies.length c) wk.copies) := Lib.hid ho2
  clear hm ho2 hs
  cases b
  · go_wp2_with fail
    refine wp_region_seq (fun x => Holds x w2.heap.size (vA wk A c) ∧ Holds x w3.heap.size (eA e)) [(0, true), (1, true), (2, true), (3, false), (4, false), (5, false), (6, true)] (by kernel_rfl) (by kernel_rfl) (fun _ _ _ _ _ h => h) (by kernel_rfl) (by decide) (And.intro (HT.out.get (by simp)).1 (HT.out.get (by simp)).1) ?_
    intro hHeld
    repeat (first
      | (refine seq_skip (by simp only [List.getElem?_toArray, List.getElem?_cons_succ, List.getElem?_cons_zero]; first | done | rfl) (by rfl) ?_; (try simp only [Act.put, List.setIfInBounds_toArray, List.set_cons_zero, List.set_cons_succ]))
      | (refine seq_reads (by simp only [List.getElem?_toArray, List.getElem?_cons_succ, List.getElem?_cons_zero]; first | done | rfl) (by rfl) ?_; apply Exists.intro; apply And.intro; (focus (intro w hSw; (have hA := hSw.1; obtain ⟨p0, p1, p2⟩ := hA.three; have hB := hSw.2; obtain ⟨s0, s1, s2⟩ := hB.three); go_simp; (try with_reducible rfl); done)); (try simp only [Act.put, List.setIfInBounds_toArray, List.set_cons_zero, List.set_cons_succ]))
      | (refine seq_pass (by simp only [List.getElem?_toArray, List.getElem?_cons_succ, List.getElem?_cons_zero]; first | done | rfl) (by rfl) hHeld ?_; clear hHeld; intro hHeld; (try simp only [Act.put, List.setIfInBounds_toArray, List.set_cons_zero, List.set_cons_succ]))
      | (refine seq_call (by simp only [List.getElem?_toArray, List.getElem?_cons_succ, List.getElem?_cons_zero]; first | done | rfl) (by rfl) (fun K hK => ?_); go_simp; go_at_call 27; refine (l1DrawPage_any _ _ _ HT.out.cur).mono ?_; rintro r w1 ⟨s, hs4, rfl, hc4, hg4⟩; go_simp; refine hK.out _ _ ⟨((HT.out.by hg4 hc4).get (by simp)).1, ((HT.out.by hg4 hc4).get (by simp)).1⟩ ?_; clear hK hHeld; intro hHeld; replace HO := Lib.hid (own_by HO.out hg4 HGL.out); replace HT := Lib.hid (HT.out.by hg4 hc4); clear hc4 hg4; (try simp only [Act.put, List.setIfInBounds_toArray, List.set_cons_zero, List.set_cons_succ]))
      | (refine seq_call (by simp only [List.getElem?_toArray, List.getElem?_cons_succ, List.getElem?_cons_zero]; first | done | rfl) (by rfl) (fun K hK => ?_); (have hD := HT.out); obtain ⟨r0, r1, r2⟩ := (hD.get (R := w.heap.size) (C := zA) (by simp)).1.three; (have z0 := (hD.get (R := w.heap.size) (C := zA) (by simp)).2 0); (have z1 := (hD.get (R := w.heap.size) (C := zA) (by simp)).2 1); (have z2 := (hD.get (R := w.heap.size) (C := zA) (by simp)).2 2); go_simp; (have hD1 := hD.put3 HN1.out (.string wk.name) (.int .i64 wk.owner) (.slice A wk.copies.length c)); (have hO1 := own_off3 HO.out HRL.out (.string wk.name) (.int .i64 wk.owner) (.slice A wk.copies.length c)); refine hK.out _ _ ⟨(hD1.get (by simp)).1, (hD1.get (by simp)).1⟩ ?_; clear hK hHeld r0 r1 r2 z0 z1 z2 hD HT HO; (have HT := Lib.hid hD1); (have HO := Lib.hid hO1); clear hD1 hO1; intro hHeld; (try simp only [Act.put, List.setIfInBounds_toArray, List.set_cons_zero, List.set_cons_succ]))
      | (refine seq_call (by simp only [List.getElem?_toArray, List.getElem?_cons_succ, List.getElem?_cons_zero]; first | done | rfl) (by rfl) (fun K hK => ?_); (have hD := HT.out.sub (bx' := [(w.heap.size + 1, eA ⟨0, 0, 0⟩), (w.heap.size, vA wk A c), (w2.heap.size, vA wk A c), (w3.heap.size, eA e)]) (by simp)); obtain ⟨r0, r1, r2⟩ := (hD.get (R := w.heap.size + 1) (C := eA ⟨0, 0, 0⟩) (by simp)).1.three; (have z0 := (hD.get (R := w.heap.size + 1) (C := eA ⟨0, 0, 0⟩) (by simp)).2 0); (have z1 := (hD.get (R := w.heap.size + 1) (C := eA ⟨0, 0, 0⟩) (by simp)).2 1); (have z2 := (hD.get (R := w.heap.size + 1) (C := eA ⟨0, 0, 0⟩) (by simp)).2 2); go_simp; (have hD1 := hD.put3 HN2.out (.int .i64 e.ma) (.int .i64 e.mi) (.int .i64 e.pa)); (have hO1 := own_off3 HO.out HRL2.out (.int .i64 e.ma) (.int .i64 e.mi) (.int .i64 e.pa)); refine hK.out _ _ ⟨(hD1.get (by simp)).1, (hD1.get (by simp)).1⟩ ?_; clear hK hHeld r0 r1 r2 z0 z1 z2 hD HT HO; (have HT := Lib.hid hD1); (have HO := Lib.hid hO1); clear hD1 hO1; intro hHeld; (try simp only [Act.put, List.setIfInBounds_toArray, List.set_cons_zero, List.set_cons_succ])))
    refine seq_end ?_
    go_wp2
    exact bodyPost_ret (results_DrawPrinted wk A c e s w.heap.size (w.heap.size + 1) _ _ rfl rfl rfl (HT.out.get (by simp)).1 (HT.out.get (by simp)).1) rfl ⟨wk, A, c, e, s, rfl, HS.out, hs4, HO.out.mono (by omega), HT.out.below⟩
  · have hs4 : (⟨#[65]⟩ : ByteArray).size ≤ 64 := by decide
    go_wp2_with fail
    refine wp_region_seq (fun x => Holds x w2.heap.size (vA wk A c) ∧ Holds x w3.heap.size (eA e)) [(0, true), (1, true), (2, false), (3, false), (4, true)] (by kernel_rfl) (by kernel_rfl) (fun _ _ _ _ _ h => h) (by kernel_rfl) (by decide) (And.intro (HT.out.get (by simp)).1 (HT.out.get (by simp)).1) ?_
    intro hHeld
    generalize w4.drew = wd at hHeld HT HO ⊢
    repeat (first
      | (refine seq_skip (by simp only [List.getElem?_toArray, List.getElem?_cons_succ, List.getElem?_cons_zero]; first | done | rfl) (by rfl) ?_; (try simp only [Act.put, List.setIfInBounds_toArray, List.set_cons_zero, List.set_cons_succ]))
      | (refine seq_reads (by simp only [List.getElem?_toArray, List.getElem?_cons_succ, List.getElem?_cons_zero]; first | done | rfl) (by rfl) ?_; apply Exists.intro; apply And.intro; (focus (intro w hSw; (have hA := hSw.1; obtain ⟨p0, p1, p2⟩ := hA.three; have hB := hSw.2; obtain ⟨s0, s1, s2⟩ := hB.three); go_simp; (try with_reducible rfl); done)); (try simp only [Act.put, List.setIfInBounds_toArray, List.set_cons_zero, List.set_cons_succ]))
      | (refine seq_pass (by simp only [List.getElem?_toArray, List.getElem?_cons_succ, List.getElem?_cons_zero]; first | done | rfl) (by rfl) hHeld ?_; clear hHeld; intro hHeld; (try simp only [Act.put, List.setIfInBounds_toArray, List.set_cons_zero, List.set_cons_succ]))
      | (refine seq_call (by simp only [List.getElem?_toArray, List.getElem?_cons_succ, List.getElem?_cons_zero]; first | done | rfl) (by rfl) (fun K hK => ?_); (have hD := HT.out); obtain ⟨r0, r1, r2⟩ := (hD.get (R := w.heap.size) (C := zA) (by simp)).1.three; (have z0 := (hD.get (R := w.heap.size) (C := zA) (by simp)).2 0); (have z1 := (hD.get (R := w.heap.size) (C := zA) (by simp)).2 1); (have z2 := (hD.get (R := w.heap.size) (C := zA) (by simp)).2 2); go_simp; (have hD1 := hD.put3 HN1.out (.string wk.name) (.int .i64 wk.owner) (.slice A wk.copies.length c)); (have hO1 := own_off3 HO.out HRL.out (.string wk.name) (.int .i64 wk.owner) (.slice A wk.copies.length c)); refine hK.out _ _ ⟨(hD1.get (by simp)).1, (hD1.get (by simp)).1⟩ ?_; clear hK hHeld r0 r1 r2 z0 z1 z2 hD HT HO; (have HT := Lib.hid hD1); (have HO := Lib.hid hO1); clear hD1 hO1; intro hHeld; (try simp only [Act.put, List.setIfInBounds_toArray, List.set_cons_zero, List.set_cons_succ]))
      | (refine seq_call (by simp only [List.getElem?_toArray, List.getElem?_cons_succ, List.getElem?_cons_zero]; first | done | rfl) (by rfl) (fun K hK => ?_); (have hD := HT.out.sub (bx' := [(w.heap.size + 1, eA ⟨0, 0, 0⟩), (w.heap.size, vA wk A c), (w2.heap.size, vA wk A c), (w3.heap.size, eA e)]) (by simp)); obtain ⟨r0, r1, r2⟩ := (hD.get (R := w.heap.size + 1) (C := eA ⟨0, 0, 0⟩) (by simp)).1.three; (have z0 := (hD.get (R := w.heap.size + 1) (C := eA ⟨0, 0, 0⟩) (by simp)).2 0); (have z1 := (hD.get (R := w.heap.size + 1) (C := eA ⟨0, 0, 0⟩) (by simp)).2 1); (have z2 := (hD.get (R := w.heap.size + 1) (C := eA ⟨0, 0, 0⟩) (by simp)).2 2); go_simp; (have hD1 := hD.put3 HN2.out (.int .i64 e.ma) (.int .i64 e.mi) (.int .i64 e.pa)); (have hO1 := own_off3 HO.out HRL2.out (.int .i64 e.ma) (.int .i64 e.mi) (.int .i64 e.pa)); refine hK.out _ _ ⟨(hD1.get (by simp)).1, (hD1.get (by simp)).1⟩ ?_; clear hK hHeld r0 r1 r2 z0 z1 z2 hD HT HO; (have HT := Lib.hid hD1); (have HO := Lib.hid hO1); clear hD1 hO1; intro hHeld; (try simp only [Act.put, List.setIfInBounds_toArray, List.set_cons_zero, List.set_cons_succ])))
    refine seq_end ?_
    go_wp2
    exact bodyPost_ret (results_DrawPrinted wk A c e ⟨#[65]⟩ w.heap.size (w.heap.size + 1) _ _ rfl rfl rfl (HT.out.get (by simp)).1 (HT.out.get (by simp)).1) rfl ⟨wk, A, c, e, ⟨#[65]⟩, rfl, HS.out, hs4, HO.out.mono (by omega), HT.out.below⟩
end Go.Proofs.Ytbdcehmcdoocgaa
