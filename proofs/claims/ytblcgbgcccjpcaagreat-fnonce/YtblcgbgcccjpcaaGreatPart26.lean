/- Proved, in parts: Proved: the laws' helper that writes marks into a list of works writes nothing but that list, and leaves the marks there. Condition: at most a million works and copies. Proved: the program's does on the map of works leaves what a plain Lean function tells, all as it was where the deed is refused; it writes the map's block alone. Condition: texts of at most a million bytes. Proved: how a book of the program's own stands in memory, and what writes leave of it. No program's function is named here; no condition. -/
import Derived.Test.YtblcgbgcccjpcaaGreatPart25
import Derived.Test.YtblcgbgcccjpcaaGreatPart21
namespace Go.Proofs.YtblcgbgcccjpcaaGreat
open Go.RowKit
set_option maxRecDepth 20000

/-- The blocks of S alone, of all that was there, may have changed. -/
structure TouchS (S : Nat → Prop) (w w' : World) : Prop where
  size : w.heap.size ≤ w'.heap.size
  low : ∀ B, B ≤ w.heap.size → (∀ g, S g → B ≤ g) → Below B w w'
  block : ∀ k, k < w.heap.size → ¬ S k → w'.heap[k]? = w.heap[k]?
theorem TouchS.refl (S : Nat → Prop) (w : World) : TouchS S w w := ⟨Nat.le_refl _, fun _ _ _ => Below.refl _ _, fun _ _ _ => rfl⟩
theorem TouchS.below {S : Nat → Prop} {w w1 w2 : World} (h : TouchS S w w1) (hb : Below w1.heap.size w1 w2) : TouchS S w w2 :=
  ⟨Nat.le_trans h.size hb.size, fun B hB hS => (h.low B hB hS).trans (hb.mono (Nat.le_trans hB h.size)), fun k hk hne => (hb.block k (Nat.lt_of_lt_of_le hk h.size)).trans (h.block k hk hne)⟩
theorem TouchS.set {S : Nat → Prop} {w w1 : World} {g : Nat} (h : TouchS S w w1) (hg : S g) (j : Nat) (v : Value) : TouchS S w (w1.setCell ⟨g, j, none⟩ v) :=
  ⟨by simpa using h.size, fun B hB hS => (h.low B hB hS).setCell (hS g hg) v, fun k hk hne => (Below.heap_setCell _ _ _ _ (fun e => hne (by rw [show k = g from e]; exact hg))).trans (h.block k hk hne)⟩
theorem TouchS.then {S : Nat → Prop} {w w1 w2 : World} {row : Option Nat} (h : TouchS S w w1) (ht : TouchO row w1 w2) (hr : ∀ g, row = some g → S g) : TouchS S w w2 :=
  ⟨Nat.le_trans h.size ht.size, fun B hB hS => (h.low B hB hS).trans (ht.low B (Nat.le_trans hB h.size) (fun g hg => hS g (hr g hg))), fun k hk hne => (ht.block k (Nat.lt_of_lt_of_le hk h.size) (fun e => hne (hr k e.symm))).trans (h.block k hk hne)⟩
theorem TouchS.holds {S : Nat → Prop} {k : Nat} {w w1 : World} {C : Array Value} (h : TouchS S w w1) (hC : Holds w k C) (hk : ¬ S k) : Holds w1 k C :=
  ⟨Nat.lt_of_lt_of_le hC.1 h.size, fun j v hj => (World.cell?_of_block (a := ⟨k, j, none⟩) (h.block k hC.1 hk)).trans (hC.2 j v hj)⟩
theorem TouchS.row {S : Nat → Prop} {B : Nat} {w w1 : World} {t : TypeId} {kk n : Nat} {v : Value} {C : List Value} (h : TouchS S w w1) (ho : w.ownsRow B t kk v n C) (hne : ∀ g, v.ownBlock = some g → ¬ S g) : w1.ownsRow B t kk v n C := by
  obtain ⟨hl, h0 | ⟨k, cap, cur, rfl, hb, hh, hr⟩⟩ := ho
  · exact ⟨hl, .inl h0⟩
  · have hk := hne k rfl
    have hlt : k < w.heap.size := (Array.getElem?_eq_some_iff.1 hh).1
    exact ⟨hl, .inr ⟨k, cap, cur, rfl, hb, (h.block k hlt hk).trans hh, hr⟩⟩
theorem TouchS.own {S : Nat → Prop} {B : Nat} {w w1 : World} {v : Value} {l : List M.Cp} (h : TouchS S w w1) (ho : CpOwn B w v l) (hne : ∀ g, v.ownBlock = some g → ¬ S g) : CpOwn B w1 v l := h.row ho hne
/-- The blocks of a list of works. -/
def blocksS (v : Value) (l : List Wr) (g : Nat) : Prop := v.ownBlock = some g ∨ ∃ r ∈ l, r.sl.ownBlock = some g
theorem TouchS.sf {S : Nat → Prop} {B : Nat} {w w1 : World} {v : Value} {l : List Wr} (h : TouchS S w w1) (ho : SfOwn B w v l) (hne : ∀ g, blocksS v l g → ¬ S g) : SfOwn B w1 v l :=
  ⟨h.row ho.1 (fun g hg => hne g (.inl hg)), fun r hr => h.own (ho.2.1 r hr) (fun g hg => hne g (.inr ⟨r, hr, hg⟩)), ho.2.2⟩
theorem SfOwn.ge {B : Nat} {w : World} {v : Value} {l : List Wr} (h : SfOwn B w v l) {g : Nat} (hg : blocksS v l g) : B ≤ g ∧ g < w.heap.size := by
  rcases hg with hg | ⟨r, hr, hg⟩
  · exact World.ownsRow.lt h.1 g hg
  · exact (h.2.1 r hr).lt g hg

def mrow (k : Nat) (r : Wr) : Wr := { r with name := markB k, owner := (k : Int) + 1, cps := marks (k + 2) r.cps.length }
def mlen : List Wr → Nat
  | [] => 0
  | r :: l => 2 + 5 * r.cps.length + mlen l
def mrows (k : Nat) (l : List Wr) : List Wr := l.mapIdx fun i r => mrow (k + mlen (l.take i)) r
theorem mrows_len (k : Nat) (l : List Wr) : (mrows k l).length = l.length := by simp [mrows]
theorem mrows_at (k : Nat) (l : List Wr) (i : Nat) (h : i < l.length) : (mrows k l)[i]'(by rw [mrows_len]; exact h) = mrow (k + mlen (l.take i)) l[i] := by simp [mrows]
/-- The first j of them are marked. -/
def MarkTo (k : Nat) (l : List Wr) (j : Nat) (q : List Wr) : Prop := q.length = l.length ∧ ∀ (i : Nat) (h : i < l.length) (h' : i < q.length), q[i] = if i < j then mrow (k + mlen (l.take i)) l[i] else l[i]
theorem MarkTo.zero (k : Nat) (l : List Wr) : MarkTo k l 0 l := ⟨rfl, fun i h h' => by simp⟩
theorem MarkTo.next {k j : Nat} {l q : List Wr} (h : MarkTo k l j q) (hj : j < l.length) : MarkTo k l (j + 1) (q.set j (mrow (k + mlen (l.take j)) l[j])) := by
  refine ⟨by rw [List.length_set]; exact h.1, fun i hi h' => ?_⟩
  rw [List.getElem_set]
  by_cases e : j = i
  · subst e; rw [if_pos rfl, if_pos (by omega)]
  · rw [if_neg e, h.2 i hi (by rw [h.1]; exact hi)]
    by_cases hij : i < j
    · rw [if_pos hij, if_pos (by omega)]
    · rw [if_neg hij, if_neg (by omega)]
theorem MarkTo.all {k : Nat} {l q : List Wr} (h : MarkTo k l l.length q) : q = mrows k l := by
  refine List.ext_getElem (by rw [h.1, mrows_len]) (fun i h1 h2 => ?_)
  rw [h.1] at h1
  rw [h.2 i h1 (by rw [h.1]; exact h1), if_pos h1, mrows_at k l i h1]

end Go.Proofs.YtblcgbgcccjpcaaGreat
namespace Go.Proofs.YtblcgbgcccjpcaaGreat
open Go.RowKit
set_option maxRecDepth 20000

/-- What does leaves. -/
def DoOut (w : World) (B b : Nat) (rs : List Wr) (q : List M.Wk × M.Rp) (e : Ending) (w' : World) : Prop :=
  e = .returned (rpV q.2.1 q.2.2) ∧ w.grownBy w' (some b) ∧ ∃ n' rs', ShM w' b n' rs' ∧ RiseW rs' ∧ RsOwn B w' rs' ∧ rs'.map Wr.wk = q.1 ∧ ∀ r ∈ rs', ∀ k, r.sl.ownBlock = some k → w.heap.size ≤ k ∨ ∃ x ∈ rs, x.sl.ownBlock = some k

theorem results_sdoes (c : Int) (p : ByteArray) (R : Nat) (W : World) (tmps : Array Value) (h2 : tmps.getD 4 undef = .pointer (some ⟨R, 0, none⟩)) (hW : Holds W R (rpA c p)) :
    (results Tryz.f63 tmps).run Tryz.prog W = .ok (rpV c p) W := by
  obtain ⟨q0, q1⟩ := hW.two
  simp at h2
  simp [results, Tryz.results63, go_sem, h2, q0, q1]

set_option maxHeartbeats 4000000 in
theorem does_any (B b n : Nat) (rs : List Wr) (d : M.Dd) (w : World) (h : St w B b n rs) (hl5 : rs.length ≤ 5) (hn : d.name.size ≤ 1048576) (hpg : d.page.size ≤ 1048576) :
    Calls Tryz.prog 63 #[.map (some b), ddV d] w (DoOut w B b rs (M.keptD (rs.map Wr.wk) d)) := by
  have HP := Lib.hid h.size
  have HRI := Lib.hid h.rise
  obtain ⟨p, hpp⟩ : ∃ p, M.doAll (rs.map Wr.wk) d = p := ⟨_, rfl⟩
  have HPP := Lib.hid hpp
  have HDO : Hid (M.keptD (rs.map Wr.wk) d = (if p.2.1 = 0 then p.1 else rs.map Wr.wk, p.2)) := Lib.hid (by rw [← hpp]; rfl)
  clear hpp
  have hm := ((Mem.start w).new (ddC d) 39).new (rpA 0 noP) 33
  have hst := h.below (((Below.refl w.heap.size w).alloc (Nat.le_refl _) (.cells (ddC d) 39)).alloc (by simp) (.cells (rpA 0 noP) 33))
  simp only [World.size_alloc] at hm
  have hbB : b < B := h.low
  have hBw : B ≤ w.heap.size := h.top
  have HLOW : Hid (∀ r ∈ rs, ∀ k, r.sl.ownBlock = some k → k < w.heap.size) := Lib.hid (fun r hr k e => ((h.own.1 r hr).lt k e).2)
  clear h
  go_enter Tryz.func63, Tryz.ntmps63
  go_wp2_with fail
  refine (inOrder_any b n B rs _ hst.map HRI.out hst.own hst.top (by omega) (fun r hr => (HP.out r hr).1)).mono ?_
  rintro e x1 ⟨v, rfl, hs, b1⟩
  have hm1 := hm.below b1
  have hst1 := hst.below b1
  have hs1 := b1.size
  simp only [World.size_alloc] at hs1
  obtain ⟨A, cap, rfl, hcap, -⟩ := hs.open
  have HS := Lib.hid hs
  have HST := Lib.hid hst1
  clear hm hst b1 hs hst1 hcap
  obtain ⟨q0, q1, q2, q3, q4, q5, q6⟩ := (hm1.get w.heap.size (ddC d) (by simp)).seven
  go_wp2_with fail
  have hcall := tries_any B b n rs d x1 HST.out hn hpg
  rw [HPP.out] at hcall
  refine hcall.mono ?_
  rintro e x3 ho
  obtain rfl := ho.1
  have hR := holds_by (hm1.get (w.heap.size + 1) (rpA 0 noP) (by simp)) ho.2.1 (by omega)
  have lR := loose_by (hm1.loose (w.heap.size + 1) (by simp)) (hm1.get (w.heap.size + 1) (rpA 0 noP) (by simp)).1 ho.2.1 (by omega)
  have bA := (Below.refl x3.heap.size x3).alloc (Nat.le_refl _) (.cells (rpA p.2.1 p.2.2) 33)
  have HL := Lib.hid (lR.below hR.1 bA)
  have HR := Lib.hid (hR.below bA)
  have HX := Lib.hid (holds_new x3 (rpA p.2.1 p.2.2) 33)
  have hg3 := ho.2.1.size
  have HS3 := Lib.hid ((HS.out.by ho.2.1 hbB).below ((Below.refl _ _).alloc (Nat.le_refl _) (.cells (rpA p.2.1 p.2.2) 33)))
  have HG : Hid (w.grownBy (x3.alloc (.cells (rpA p.2.1 p.2.2) 33)) (some b)) := Lib.hid (grown_tr (grown_tr (grown_lw hm1.1 _) ho.2.1) (World.grownBy_alloc x3 _ _))
  have HOM := Lib.hid ho.2.2.1
  have HOZ := Lib.hid ho.2.2.2
  clear hcall ho hm1 hR lR bA q0 q1 q2 q3 q4 q5 q6
  by_cases hz : p.2.1 = 0
  · have HE : Hid (M.keptD (rs.map Wr.wk) d = (p.1, p.2)) := Lib.hid (by rw [HDO.out, if_pos hz])
    obtain ⟨n', rs', h1, h2, h3, h4, h5⟩ := HOZ.out hz
    have HMP := Lib.hid (h1.alloc (.cells (rpA p.2.1 p.2.2) 33))
    have HRO := Lib.hid (h3.below ((Below.refl _ _).alloc (Nat.le_refl _) (.cells (rpA p.2.1 p.2.2) 33)))
    have H4 := Lib.hid h4
    have H5 : Hid (∀ r ∈ rs', ∀ k, r.sl.ownBlock = some k → w.heap.size + 2 ≤ k ∨ ∃ x ∈ rs, x.sl.ownBlock = some k) := Lib.hid (fun r hr k e => by
      rcases h5 r hr k e with h | h
      · exact .inl (by omega)
      · exact .inr h)
    have hz' : (p.2.1 != 0) = false := by simp [hz]
    have HZ := Lib.hid hz
    obtain ⟨r0, r1⟩ := HR.out.two
    obtain ⟨s0, s1⟩ := HX.out.two
    have z0 := HL.out 0
    have z1 := HL.out 1
    clear h1 h3 h4 h5 hz
    go_wp2
    have hne : ∀ r ∈ rs', r.sl.ownBlock ≠ some (w.heap.size + 1) := fun r hr e => by
      rcases H5.out r hr _ e with h | ⟨x, hx, e'⟩
      · omega
      · have := HLOW.out x hx _ e'; omega
    refine bodyPost_ret (results_sdoes p.2.1 p.2.2 (w.heap.size + 1) _ _ rfl ?_) rfl ?_
    · simpa using ((HR.out.putM 0 (.int .i64 p.2.1)).putM 1 (.string p.2.2))
    · refine ⟨by rw [HE.out], grown_new (grown_new HG.out (Nat.le_succ _) _ _) (Nat.le_succ _) _ _, n', rs', ShM.set (ShM.set HMP.out (by omega)) (by omega), h2, (HRO.out.set hne 0 _).set hne 1 _, by rw [HE.out]; exact H4.out, fun r hr k e => ?_⟩
      rcases H5.out r hr k e with h | h
      · exact .inl (by omega)
      · exact .inr h
  · have HE : Hid (M.keptD (rs.map Wr.wk) d = (rs.map Wr.wk, p.2)) := Lib.hid (by rw [HDO.out, if_neg hz])
    obtain ⟨n', D, hom⟩ := HOM.out
    have hom' := hom.alloc (.cells (rpA p.2.1 p.2.2) 33)
    have hz' : (p.2.1 != 0) = true := by simp [hz]
    have HZ := Lib.hid hz
    obtain ⟨s0, s1⟩ := HX.out.two
    clear hz hom
    go_wp2_with fail
    refine (fill_any b n' D A rs cap _ hom' (fun x hg => (HS3.out.by hg hbB).wks.1) HRI.out (by omega) HP.out).mono ?_
    rintro e x4 ⟨rfl, rs', h4, h1, h3, hg4⟩
    have hR4 := holds_by HR.out hg4 (by omega)
    have lR4 := loose_by HL.out HR.out.1 hg4 (by omega)
    have hX4 := holds_by HX.out hg4 (by omega)
    rw [World.size_alloc] at h3
    have HG4 := Lib.hid (grown_tr HG.out hg4)
    have HMP := Lib.hid h1
    have HRO := Lib.hid h3
    have H4 := Lib.hid h4
    have HR4 := Lib.hid hR4
    obtain ⟨r0, r1⟩ := hR4.two
    obtain ⟨s0', s1'⟩ := hX4.two
    have z0 := lR4 0
    have z1 := lR4 1
    clear h1 h3 h4 hg4 hom' hR4 lR4 hX4 s0 s1
    go_wp2
    have hne : ∀ r ∈ rs', r.sl.ownBlock ≠ some (w.heap.size + 1) := fun r hr e => by
      have := ((HRO.out.1 r hr).lt _ e).1
      omega
    refine bodyPost_ret (results_sdoes p.2.1 p.2.2 (w.heap.size + 1) _ _ rfl ?_) rfl ?_
    · simpa using ((HR4.out.putM 0 (.int .i64 p.2.1)).putM 1 (.string p.2.2))
    · refine ⟨by rw [HE.out], grown_new (grown_new HG4.out (Nat.le_succ _) _ _) (Nat.le_succ _) _ _, rs.length, rs', ShM.set (ShM.set HMP.out (by omega)) (by omega), rise_same H4.out HRI.out, ((HRO.out.mono (by omega)).set hne 0 _).set hne 1 _, by rw [HE.out]; exact H4.out, fun r hr k e => ?_⟩
      have := ((HRO.out.1 r hr).lt _ e).1
      exact .inl (by omega)
end Go.Proofs.YtblcgbgcccjpcaaGreat
namespace Go.Proofs.YtblcgbgcccjpcaaGreat
open Go.RowKit
set_option maxRecDepth 20000
theorem own_keep {b g : Nat} {x y : World} {t : TypeId} {kk n : Nat} {v : Value} {C : List Value} (h : x.ownsRow b t kk v n C) (hg : x.grownBy y (some g)) (hne : v.ownBlock ≠ some g) : y.ownsRow b t kk v n C := by
  obtain ⟨hl, h0 | ⟨k, cap, cur, rfl, hk, hh, hr⟩⟩ := h
  · exact ⟨hl, .inl h0⟩
  · refine ⟨hl, .inr ⟨k, cap, cur, rfl, hk, (hg.block k (Array.getElem?_eq_some_iff.1 hh).1 ?_).trans hh, hr⟩⟩
    intro e
    injection e with e
    exact hne (by rw [e]; rfl)
theorem own_off {B g : Nat} {w : World} {t : TypeId} {kk n : Nat} {v : Value} {C : List Value} (h : w.ownsRow B t kk v n C) (hne : v.ownBlock ≠ some g) (i : Nat) (u : Value) : (w.setCell ⟨g, i, none⟩ u).ownsRow B t kk v n C := by
  obtain ⟨hl, h0 | ⟨k, cap, cur, rfl, hb, hh, hr⟩⟩ := h
  · exact ⟨hl, .inl h0⟩
  · exact ⟨hl, .inr ⟨k, cap, cur, rfl, hb, (Below.heap_setCell _ _ _ _ (fun e => hne (by rw [show k = g from e]; rfl))).trans hh, hr⟩⟩
theorem TouchS.grown {S : Nat → Prop} {w w1 w2 : World} {g : Nat} (h : TouchS S w w1) (hg : w1.grownBy w2 (some g)) (hS : S g) : TouchS S w w2 :=
  ⟨Nat.le_trans h.size hg.size, fun B hB hSB => (h.low B hB hSB).grown hg (Nat.le_trans hB h.size) (fun k e => by cases e; exact hSB g hS), fun k hk hne => (hg.block k (Nat.lt_of_lt_of_le hk h.size) (fun e => hne (by injection e with e; rw [e]; exact hS))).trans (h.block k hk hne)⟩
theorem TouchS.setNew {S : Nat → Prop} {w w1 : World} {g : Nat} (h : TouchS S w w1) (hg : w.heap.size ≤ g) (j : Nat) (v : Value) : TouchS S w (w1.setCell ⟨g, j, none⟩ v) :=
  ⟨by simpa using h.size, fun B hB hS => (h.low B hB hS).setCell (Nat.le_trans hB hg) v, fun k hk hne => (Below.heap_setCell _ _ _ _ (by show k ≠ g; omega)).trans (h.block k hk hne)⟩
theorem TouchS.loose {S : Nat → Prop} {k : Nat} {w w1 : World} (h : TouchS S w w1) (hC : Loose w k) (hlt : k < w.heap.size) (hk : ¬ S k) : Loose w1 k := fun j => by
  have := hC j
  unfold World.frozen? at this ⊢
  rw [h.block k hlt hk]
  exact this
/-- A book in the program's own form: a box with its map of works and its list of lasts. -/
structure BkSt (w : World) (W B b : Nat) (rs : List Wr) (G : Nat) (v : Value) (ls : List M.La) : Prop where
  map : ShM w b rs.length rs
  own : RsOwn B w rs
  ok : M.sfOk (rs.map Wr.wk) = true
  low : b < B
  top : B ≤ w.heap.size
  box : Holds w G #[.map (some b), v]
  loose : Loose w G
  las : LasOwn W w v ls
  lasIn : ∀ x ∈ ls, laIn 1048576 x
  gb : G ≠ b
  gr : ∀ r ∈ rs, r.sl.ownBlock ≠ some G
  vb : v.ownBlock ≠ some b
  vg : v.ownBlock ≠ some G
  vr : ∀ r ∈ rs, ∀ k, r.sl.ownBlock = some k → v.ownBlock ≠ some k
  wB : W ≤ b ∧ W ≤ G
theorem BkSt.rise {w : World} {W B b : Nat} {rs : List Wr} {G : Nat} {v : Value} {ls : List M.La} (h : BkSt w W B b rs G v ls) : RiseW rs := (sfOk_rise h.ok).1
theorem BkSt.st {w : World} {W B b : Nat} {rs : List Wr} {G : Nat} {v : Value} {ls : List M.La} (h : BkSt w W B b rs G v ls) : St w B b rs.length rs :=
  ⟨h.map, h.rise, h.own, h.low, h.top, by have := (wrs_ok h.ok).1; omega, (wrs_ok h.ok).2.mono (by omega)⟩
theorem BkSt.below {w w' : World} {W B b : Nat} {rs : List Wr} {G : Nat} {v : Value} {ls : List M.La} (h : BkSt w W B b rs G v ls) (hb : Below w.heap.size w w') : BkSt w' W B b rs G v ls :=
  { h with map := h.map.kept (grown_lw hb none) (by simp), own := h.own.below hb, top := Nat.le_trans h.top hb.size, box := h.box.below hb, loose := h.loose.below h.box.1 hb, las := Own.below h.las hb }
theorem BkSt.set {w : World} {W B b g : Nat} {rs : List Wr} {G : Nat} {v : Value} {ls : List M.La} (h : BkSt w W B b rs G v ls) (hb : g ≠ b) (hG : g ≠ G) (hr : ∀ r ∈ rs, r.sl.ownBlock ≠ some g) (hv : v.ownBlock ≠ some g) (i : Nat) (u : Value) : BkSt (w.setCell ⟨g, i, none⟩ u) W B b rs G v ls :=
  { h with map := ShM.set h.map (fun e => hb e.symm), own := h.own.set hr i u, top := by simpa using h.top, box := h.box.otherM (fun e => hG e.symm), loose := fun j => by rw [World.frozen?_setCell]; exact h.loose j, las := own_off h.las hv i u }
namespace M
theorem keptD_page {l : List Wr} {n : Nat} (d : Dd) (hp : WrsIn n l) : (keptD (l.map Wr.wk) d).2.2.size ≤ n := by
  show (doAll (l.map Wr.wk) d).2.2.size ≤ n
  have hz : nilB.size ≤ n := Nat.zero_le _
  unfold doAll
  split
  · split
    · unfold doClaim
      split
      · exact hz
      · split <;> exact hz
    · split
      · unfold doPut
        split
        · exact hz
        · split
          · split
            · exact hz
            · split <;> exact hz
          · exact hz
      · split
        · unfold doVeil
          split
          · exact hz
          · split
            · split <;> exact hz
            · exact hz
        · split
          · unfold doVeil
            split
            · exact hz
            · split
              · split <;> exact hz
              · exact hz
          · split
            · unfold doFetch
              split
              · exact hz
              · rename_i w hw
                split
                · rename_i hc
                  split
                  · exact hz
                  · show (copyIn w d.ed).1.page.size ≤ n
                    obtain ⟨r, hr, rfl⟩ := List.mem_map.1 (getN_mem hw)
                    unfold copyIn at hc ⊢
                    split at hc
                    · rename_i hk
                      rw [if_pos hk]
                      split at hc
                      · rename_i c hcc
                        exact (hp r hr).2.2 c (List.mem_of_getElem? hcc)
                      · cases hc
                    · cases hc
                · exact hz
            · unfold doGive
              split
              · split
                · exact hz
                · split <;> exact hz
              · exact hz
  · exact hz
theorem keptD_ok {l : List Wk} {d : Dd} (h : sfOk l = true) : sfOk (keptD l d).1 = true := by
  show sfOk (if (doAll l d).2.1 = 0 then (doAll l d).1 else l) = true
  split
  · exact keep_doAll h
  · exact h
end M
/-- What the shelf's does leaves of a book. -/
theorem BkSt.did {w w' : World} {W B b : Nat} {rs : List Wr} {G : Nat} {v : Value} {ls : List M.La} {d : M.Dd} {e : Ending} (h : BkSt w W B b rs G v ls) (ho : DoOut w B b rs (M.keptD (rs.map Wr.wk) d) e w') :
    e = .returned (rpV (M.keptD (rs.map Wr.wk) d).2.1 (M.keptD (rs.map Wr.wk) d).2.2) ∧ w.grownBy w' (some b) ∧ ∃ rs', rs'.map Wr.wk = (M.keptD (rs.map Wr.wk) d).1 ∧ (∀ r ∈ rs', ∀ k, r.sl.ownBlock = some k → w.heap.size ≤ k ∨ ∃ x ∈ rs, x.sl.ownBlock = some k) ∧ BkSt w' W B b rs' G v ls := by
  obtain ⟨he, hg, n', rs', h1, h2, h3, h4, h5⟩ := ho
  refine ⟨he, hg, rs', h4, h5, ⟨h1.tight, h3, h4 ▸ M.keptD_ok h.ok, h.low, Nat.le_trans h.top hg.size, holds_by h.box hg h.gb, loose_by h.loose h.box.1 hg h.gb, own_keep h.las hg h.vb, h.lasIn, h.gb, fun r hr e => ?_, h.vb, h.vg, fun r hr k e ev => ?_, h.wB⟩⟩
  · rcases h5 r hr G e with hk | ⟨x, hx, e'⟩
    · have := h.box.1; omega
    · exact h.gr x hx e'
  · rcases h5 r hr k e with hk | ⟨x, hx, e'⟩
    · have := (World.ownsRow.lt h.las k ev).2; omega
    · exact h.vr x hx k e' ev
theorem does_bk {w : World} {W B b : Nat} {rs : List Wr} {G : Nat} {v : Value} {ls : List M.La} (d : M.Dd) (h : BkSt w W B b rs G v ls) (hn : d.name.size ≤ 1048576) (hpg : d.page.size ≤ 1048576) :
    Calls Tryz.prog 63 #[.map (some b), ddV d] w fun e w' => e = .returned (rpV (M.keptD (rs.map Wr.wk) d).2.1 (M.keptD (rs.map Wr.wk) d).2.2) ∧ w.grownBy w' (some b) ∧ ∃ rs', rs'.map Wr.wk = (M.keptD (rs.map Wr.wk) d).1 ∧ (∀ r ∈ rs', ∀ k, r.sl.ownBlock = some k → w.heap.size ≤ k ∨ ∃ x ∈ rs, x.sl.ownBlock = some k) ∧ BkSt w' W B b rs' G v ls :=
  (does_any B b rs.length rs d w h.st (wrs_ok h.ok).1 hn hpg).mono fun _ _ ho => h.did ho
/-- The cells of one last, written anew. -/
theorem cells_setLa {ls : List M.La} {k : Nat} (hk : k < ls.length) (s c : Int) (p : ByteArray) :
    ((((cellsOf laL ls).set (k * 4 + 1) (.int .i64 s)).set (k * 4 + 2) (.int .i64 c)).set (k * 4 + 2 + 1) (.string p)) = cellsOf laL (ls.set k (M.laSet ls[k] s (c, p))) := by
  have e : ls = ls.take k ++ ls[k] :: ls.drop (k + 1) := by simp
  have e2 : ls.set k (M.laSet ls[k] s (c, p)) = ls.take k ++ M.laSet ls[k] s (c, p) :: ls.drop (k + 1) := by
    rw [List.set_eq_take_append_cons_drop, if_pos hk]
  have hl : (cellsOf laL (ls.take k)).length = k * 4 := by rw [cellsOf_len laL_len, List.length_take, Nat.min_eq_left (by omega)]
  have c1 : cellsOf laL ls = cellsOf laL (ls.take k) ++ (laL ls[k] ++ cellsOf laL (ls.drop (k + 1))) := by
    conv => lhs; rw [e]
    rw [cellsOf_append]; rfl
  have c2 : cellsOf laL (ls.set k (M.laSet ls[k] s (c, p))) = cellsOf laL (ls.take k) ++ (laL (M.laSet ls[k] s (c, p)) ++ cellsOf laL (ls.drop (k + 1))) := by
    rw [e2, cellsOf_append]; rfl
  rw [c1, c2, ← hl]
  simp [M.laSet, Nat.add_assoc]
theorem la_write {W : Nat} {w : World} {g cap k : Nat} {ls : List M.La} (h : LasOwn W w (.slice (some ⟨g, 0, none⟩) ls.length cap) ls) (hk : k < ls.length) (s c : Int) (p : ByteArray) :
    LasOwn W (((w.setCell ⟨g, k * 4 + 1, none⟩ (.int .i64 s)).setCell ⟨g, k * 4 + 2, none⟩ (.int .i64 c)).setCell ⟨g, k * 4 + 2 + 1, none⟩ (.string p)) (.slice (some ⟨g, 0, none⟩) ls.length cap) (ls.set k (M.laSet ls[k] s (c, p))) := by
  have h1 := ((h.stored (k * 4 + 1) (.int .i64 s)).1.stored (k * 4 + 2) (.int .i64 c)).1.stored (k * 4 + 2 + 1) (.string p)
  have h2 := h1.1
  rw [cells_setLa hk s c p] at h2
  show World.ownsRow _ _ _ _ _ (ls.set k (M.laSet ls[k] s (c, p))).length _
  rw [List.length_set]
  exact h2
/-- A book whose last at a place was written anew. -/
theorem BkSt.wrote {y : World} {W B b : Nat} {rs : List Wr} {G g cap k : Nat} {ls : List M.La} (h : BkSt y W B b rs G (.slice (some ⟨g, 0, none⟩) ls.length cap) ls) (hk : k < ls.length) (s c : Int) (p : ByteArray) (hp : p.size ≤ 1048576) :
    BkSt (((y.setCell ⟨g, k * 4 + 1, none⟩ (.int .i64 s)).setCell ⟨g, k * 4 + 2, none⟩ (.int .i64 c)).setCell ⟨g, k * 4 + 2 + 1, none⟩ (.string p)) W B b rs G (.slice (some ⟨g, 0, none⟩) ls.length cap) (ls.set k (M.laSet ls[k] s (c, p))) := by
  have hgb : g ≠ b := fun e => h.vb (by rw [e]; rfl)
  have hgG : g ≠ G := fun e => h.vg (by rw [e]; rfl)
  have hgr : ∀ r ∈ rs, r.sl.ownBlock ≠ some g := fun r hr e => h.vr r hr g e rfl
  refine { h with map := ShM.set (ShM.set (ShM.set h.map (fun e => hgb e.symm)) (fun e => hgb e.symm)) (fun e => hgb e.symm), own := ((h.own.set hgr _ _).set hgr _ _).set hgr _ _, top := by simpa using h.top, box := ((h.box.otherM (fun e => hgG e.symm)).otherM (fun e => hgG e.symm)).otherM (fun e => hgG e.symm), loose := fun j => by rw [World.frozen?_setCell, World.frozen?_setCell, World.frozen?_setCell]; exact h.loose j, las := la_write h.las hk s c p, lasIn := fun x hx => ?_ }
  rcases List.mem_or_eq_of_mem_set hx with hx | rfl
  · exact h.lasIn x hx
  · exact hp
theorem la_cells {W : Nat} {w : World} {g cap k : Nat} {ls : List M.La} (h : LasOwn W w (.slice (some ⟨g, 0, none⟩) ls.length cap) ls) (hk : k < ls.length) :
    (w.cell? ⟨g, k * 4, none⟩ = some (.int .i64 ls[k].client) ∧ w.cell? ⟨g, k * 4 + 1, none⟩ = some (.int .i64 ls[k].seq) ∧ w.cell? ⟨g, k * 4 + 2, none⟩ = some (.int .i64 ls[k].code) ∧ w.cell? ⟨g, k * 4 + 3, none⟩ = some (.string ls[k].page)) ∧ ∀ j, w.frozen? ⟨g, j, none⟩ = false := by
  obtain ⟨b, o, hA, _, c0, c1, c2, c3⟩ := Las_at (own_atLas h) hk
  injection hA with hA
  injection hA with hb ho
  subst hb ho
  simp only [Nat.zero_add] at c0 c1 c2 c3
  exact ⟨⟨c0, c1, c2, c3⟩, fun j => h.frozenAt j⟩
theorem la_cellsN {W : Nat} {w : World} {g n cap k : Nat} {ls : List M.La} (h : LasOwn W w (.slice (some ⟨g, 0, none⟩) n cap) ls) (hn : ls.length = n) (hk : k < ls.length) :
    (w.cell? ⟨g, k * 4, none⟩ = some (.int .i64 ls[k].client) ∧ w.cell? ⟨g, k * 4 + 1, none⟩ = some (.int .i64 ls[k].seq) ∧ w.cell? ⟨g, k * 4 + 2, none⟩ = some (.int .i64 ls[k].code) ∧ w.cell? ⟨g, k * 4 + 3, none⟩ = some (.string ls[k].page)) ∧ ∀ j, w.frozen? ⟨g, j, none⟩ = false := by
  subst hn
  exact la_cells h hk
theorem TouchS.setOr {S : Nat → Prop} {w w1 : World} {g : Nat} (h : TouchS S w w1) (hg : S g ∨ w.heap.size ≤ g) (j : Nat) (v : Value) : TouchS S w (w1.setCell ⟨g, j, none⟩ v) := by
  rcases hg with hg | hg
  · exact h.set hg j v
  · exact h.setNew hg j v
theorem la_cap {W : Nat} {w : World} {A : Option Addr} {n c : Nat} {l : List M.La} (h : LasOwn W w (.slice A n c) l) : l.length ≤ c := by
  obtain ⟨_, ⟨h0, hn⟩ | ⟨g, cap, cur, hv, _, _, hnc, _⟩⟩ := h
  · omega
  · injection hv with _ _ hc
    omega
theorem la_form {W : Nat} {w : World} {v : Value} {ls : List M.La} (h : LasOwn W w v ls) (hn : 0 < ls.length) : ∃ g cap, v = .slice (some ⟨g, 0, none⟩) ls.length cap ∧ W ≤ g ∧ g < w.heap.size := by
  obtain ⟨hl, ⟨h0, hz⟩ | ⟨g, cap, cur, hv, hb, hh, hr⟩⟩ := h
  · omega
  · exact ⟨g, cap, hv, hb, (Array.getElem?_eq_some_iff.1 hh).1⟩
end Go.Proofs.YtblcgbgcccjpcaaGreat
