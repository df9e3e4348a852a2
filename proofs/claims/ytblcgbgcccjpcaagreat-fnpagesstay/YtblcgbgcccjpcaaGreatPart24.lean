/- Proved, in parts: Proved: the laws' helper that writes marks into a list of works writes nothing but that list, and leaves the marks there. Condition: at most a million works and copies. Proved: the program's does on the map of works leaves what a plain Lean function tells, all as it was where the deed is refused; it writes the map's block alone. Condition: texts of at most a million bytes. Proved: how a book of the program's own stands in memory, and what writes leave of it. No program's function is named here; no condition. Proved: a statement that leaves its order open is gone through in one order, where its last operation may write what the others read; no program is named here. Condition: what is taken first reads the same in every memory that is as told, and the last one waits for it. -/
import Derived.Test.YtblcgbgcccjpcaaGreatPart23
import Derived.Test.YtblcgbgcccjpcaaGreatPart21
import Derived.Test.YtblcgbgcccjpcaaGreatPart15
namespace Go.Proofs.YtblcgbgcccjpcaaGreat
open Go.RowKit
set_option maxRecDepth 20000

/-- The blocks of S alone, of all that was there, may have changed. -/
structure TouchS (S : Nat → Prop) (w w' : World) : Prop where
  size : w.heap.size ≤ w'.heap.size
  low : ∀ B, B ≤ w.heap.size → (∀ g, S g → B ≤ g) → Below B w w'
  block : ∀ k, k < w.heap.size → ¬ S k → w'.heap[k]? = w.heap[k]?
theorem TouchS.refl (S : Nat → Prop) (w : World) : TouchS S w w := ⟨Nat.le_refl _, fun _ _ _ => Below.refl _ _, fun _ _ _ => rfl⟩
theorem TouchS.below {S : Nat → Prop} {w w1 w2 : World} (h : TouchS S w w1) (hb : Below w1.heap.size w1 w2) : TouchS S w w2 :=
  ⟨Nat.le_trans h.size hb.size, fun B hB hS => (h.low B hB hS).trans (hb.mono (Nat.le_trans hB h.size)), fun k hk hne => (hb.block k (Nat.lt_of_lt_of_le hk h.size)).trans (h.block k hk hne)⟩
theorem TouchS.set {S : Nat → Prop} {w w1 : World} {g : Nat} (h : TouchS S w w1) (hg : S g) (j : Nat) (v : Value) : TouchS S w (w1.setCell ⟨g, j, none⟩ v) :=
  ⟨by simpa using h.size, fun B hB hS => (h.low B hB hS).setCell (hS g hg) v, fun k hk hne => (Below.heap_setCell _ _ _ _ (fun e => hne (by rw [show k = g from e]; exact hg))).trans (h.block k hk hne)⟩
theorem TouchS.then {S : Nat → Prop} {w w1 w2 : World} {row : Option Nat} (h : TouchS S w w1) (ht : TouchO row w1 w2) (hr : ∀ g, row = some g → S g) : TouchS S w w2 :=
  ⟨Nat.le_trans h.size ht.size, fun B hB hS => (h.low B hB hS).trans (ht.low B (Nat.le_trans hB h.size) (fun g hg => hS g (hr g hg))), fun k hk hne => (ht.block k (Nat.lt_of_lt_of_le hk h.size) (fun e => hne (hr k e.symm))).trans (h.block k hk hne)⟩
theorem TouchS.holds {S : Nat → Prop} {k : Nat} {w w1 : World} {C : Array Value} (h : TouchS S w w1) (hC : Holds w k C) (hk : ¬ S k) : Holds w1 k C :=
  ⟨Nat.lt_of_lt_of_le hC.1 h.size, fun j v hj => (World.cell?_of_block (a := ⟨k, j, none⟩) (h.block k hC.1 hk)).trans (hC.2 j v hj)⟩
theorem TouchS.row {S : Nat → Prop} {B : Nat} {w w1 : World} {t : TypeId} {kk n : Nat} {v : Value} {C : List Value} (h : TouchS S w w1) (ho : w.ownsRow B t kk v n C) (hne : ∀ g, v.ownBlock = some g → ¬ S g) : w1.ownsRow B t kk v n C := by
  obtain ⟨hl, h0 | ⟨k, cap, cur, rfl, hb, hh, hr⟩⟩ := ho
  · exact ⟨hl, .inl h0⟩
  · have hk := hne k rfl
    have hlt : k < w.heap.size := (Array.getElem?_eq_some_iff.1 hh).1
    exact ⟨hl, .inr ⟨k, cap, cur, rfl, hb, (h.block k hlt hk).trans hh, hr⟩⟩
theorem TouchS.own {S : Nat → Prop} {B : Nat} {w w1 : World} {v : Value} {l : List M.Cp} (h : TouchS S w w1) (ho : CpOwn B w v l) (hne : ∀ g, v.ownBlock = some g → ¬ S g) : CpOwn B w1 v l := h.row ho hne
/-- The blocks of a list of works. -/
def blocksS (v : Value) (l : List Wr) (g : Nat) : Prop := v.ownBlock = some g ∨ ∃ r ∈ l, r.sl.ownBlock = some g
theorem TouchS.sf {S : Nat → Prop} {B : Nat} {w w1 : World} {v : Value} {l : List Wr} (h : TouchS S w w1) (ho : SfOwn B w v l) (hne : ∀ g, blocksS v l g → ¬ S g) : SfOwn B w1 v l :=
  ⟨h.row ho.1 (fun g hg => hne g (.inl hg)), fun r hr => h.own (ho.2.1 r hr) (fun g hg => hne g (.inr ⟨r, hr, hg⟩)), ho.2.2⟩
theorem SfOwn.ge {B : Nat} {w : World} {v : Value} {l : List Wr} (h : SfOwn B w v l) {g : Nat} (hg : blocksS v l g) : B ≤ g ∧ g < w.heap.size := by
  rcases hg with hg | ⟨r, hr, hg⟩
  · exact World.ownsRow.lt h.1 g hg
  · exact (h.2.1 r hr).lt g hg

def mrow (k : Nat) (r : Wr) : Wr := { r with name := markB k, owner := (k : Int) + 1, cps := marks (k + 2) r.cps.length }
def mlen : List Wr → Nat
  | [] => 0
  | r :: l => 2 + 5 * r.cps.length + mlen l
def mrows (k : Nat) (l : List Wr) : List Wr := l.mapIdx fun i r => mrow (k + mlen (l.take i)) r
theorem mrows_len (k : Nat) (l : List Wr) : (mrows k l).length = l.length := by simp [mrows]
theorem mrows_at (k : Nat) (l : List Wr) (i : Nat) (h : i < l.length) : (mrows k l)[i]'(by rw [mrows_len]; exact h) = mrow (k + mlen (l.take i)) l[i] := by simp [mrows]
/-- The first j of them are marked. -/
def MarkTo (k : Nat) (l : List Wr) (j : Nat) (q : List Wr) : Prop := q.length = l.length ∧ ∀ (i : Nat) (h : i < l.length) (h' : i < q.length), q[i] = if i < j then mrow (k + mlen (l.take i)) l[i] else l[i]
theorem MarkTo.zero (k : Nat) (l : List Wr) : MarkTo k l 0 l := ⟨rfl, fun i h h' => by simp⟩
theorem MarkTo.next {k j : Nat} {l q : List Wr} (h : MarkTo k l j q) (hj : j < l.length) : MarkTo k l (j + 1) (q.set j (mrow (k + mlen (l.take j)) l[j])) := by
  refine ⟨by rw [List.length_set]; exact h.1, fun i hi h' => ?_⟩
  rw [List.getElem_set]
  by_cases e : j = i
  · subst e; rw [if_pos rfl, if_pos (by omega)]
  · rw [if_neg e, h.2 i hi (by rw [h.1]; exact hi)]
    by_cases hij : i < j
    · rw [if_pos hij, if_pos (by omega)]
    · rw [if_neg hij, if_neg (by omega)]
theorem MarkTo.all {k : Nat} {l q : List Wr} (h : MarkTo k l l.length q) : q = mrows k l := by
  refine List.ext_getElem (by rw [h.1, mrows_len]) (fun i h1 h2 => ?_)
  rw [h.1] at h1
  rw [h.2 i h1 (by rw [h.1]; exact h1), if_pos h1, mrows_at k l i h1]

end Go.Proofs.YtblcgbgcccjpcaaGreat
namespace Go.Proofs.YtblcgbgcccjpcaaGreat
open Go.RowKit
set_option maxRecDepth 20000

/-- What does leaves. -/
def DoOut (w : World) (B b : Nat) (rs : List Wr) (q : List M.Wk × M.Rp) (e : Ending) (w' : World) : Prop :=
  e = .returned (rpV q.2.1 q.2.2) ∧ w.grownBy w' (some b) ∧ ∃ n' rs', ShM w' b n' rs' ∧ RiseW rs' ∧ RsOwn B w' rs' ∧ rs'.map Wr.wk = q.1 ∧ ∀ r ∈ rs', ∀ k, r.sl.ownBlock = some k → w.heap.size ≤ k ∨ ∃ x ∈ rs, x.sl.ownBlock = some k

theorem results_sdoes (c : Int) (p : ByteArray) (R : Nat) (W : World) (tmps : Array Value) (h2 : tmps.getD 4 undef = .pointer (some ⟨R, 0, none⟩)) (hW : Holds W R (rpA c p)) :
    (results Tryz.f63 tmps).run Tryz.prog W = .ok (rpV c p) W := by
  obtain ⟨q0, q1⟩ := hW.two
  simp at h2
  simp [results, Tryz.results63, go_sem, h2, q0, q1]

set_option maxHeartbeats 4000000 in
theorem does_any (B b n : Nat) (rs : List Wr) (d : M.Dd) (w : World) (h : St w B b n rs) (hl5 : rs.length ≤ 5) (hn : d.name.size ≤ 1048576) (hpg : d.page.size ≤ 1048576) :
    Calls Tryz.prog 63 #[.map (some b), ddV d] w (DoOut w B b rs (M.keptD (rs.map Wr.wk) d)) := by
  have HP := Lib.hid h.size
  have HRI := Lib.hid h.rise
  obtain ⟨p, hpp⟩ : ∃ p, M.doAll (rs.map Wr.wk) d = p := ⟨_, rfl⟩
  have HPP := Lib.hid hpp
  have HDO : Hid (M.keptD (rs.map Wr.wk) d = (if p.2.1 = 0 then p.1 else rs.map Wr.wk, p.2)) := Lib.hid (by rw [← hpp]; rfl)
  clear hpp
  have hm := ((Mem.start w).new (ddC d) 39).new (rpA 0 noP) 33
  have hst := h.below (((Below.refl w.heap.size w).alloc (Nat.le_refl _) (.cells (ddC d) 39)).alloc (by simp) (.cells (rpA 0 noP) 33))
  simp only [World.size_alloc] at hm
  have hbB : b < B := h.low
  have hBw : B ≤ w.heap.size := h.top
  have HLOW : Hid (∀ r ∈ rs, ∀ k, r.sl.ownBlock = some k → k < w.heap.size) := Lib.hid (fun r hr k e => ((h.own.1 r hr).lt k e).2)
  clear h
  go_enter Tryz.func63, Tryz.ntmps63
  go_wp2_with fail
  refine (inOrder_any b n B rs _ hst.map HRI.out hst.own hst.top (by omega) (fun r hr => (HP.out r hr).1)).mono ?_
  rintro e x1 ⟨v, rfl, hs, b1⟩
  have hm1 := hm.below b1
  have hst1 := hst.below b1
  have hs1 := b1.size
  simp only [World.size_alloc] at hs1
  obtain ⟨A, cap, rfl, hcap, -⟩ := hs.open
  have HS := Lib.hid hs
  have HST := Lib.hid hst1
  clear hm hst b1 hs hst1 hcap
  obtain ⟨q0, q1, q2, q3, q4, q5, q6⟩ := (hm1.get w.heap.size (ddC d) (by simp)).seven
  go_wp2_with fail
  have hcall := tries_any B b n rs d x1 HST.out hn hpg
  rw [HPP.out] at hcall
  refine hcall.mono ?_
  rintro e x3 ho
  obtain rfl := ho.1
  have hR := holds_by (hm1.get (w.heap.size + 1) (rpA 0 noP) (by simp)) ho.2.1 (by omega)
  have lR := loose_by (hm1.loose (w.heap.size + 1) (by simp)) (hm1.get (w.heap.size + 1) (rpA 0 noP) (by simp)).1 ho.2.1 (by omega)
  have bA := (Below.refl x3.heap.size x3).alloc (Nat.le_refl _) (.cells (rpA p.2.1 p.2.2) 33)
  have HL := Lib.hid (lR.below hR.1 bA)
  have HR := Lib.hid (hR.below bA)
  have HX := Lib.hid (holds_new x3 (rpA p.2.1 p.2.2) 33)
  have hg3 := ho.2.1.size
  have HS3 := Lib.hid ((HS.out.by ho.2.1 hbB).below ((Below.refl _ _).alloc (Nat.le_refl _) (.cells (rpA p.2.1 p.2.2) 33)))
  have HG : Hid (w.grownBy (x3.alloc (.cells (rpA p.2.1 p.2.2) 33)) (some b)) := Lib.hid (grown_tr (grown_tr (grown_lw hm1.1 _) ho.2.1) (World.grownBy_alloc x3 _ _))
  have HOM := Lib.hid ho.2.2.1
  have HOZ := Lib.hid ho.2.2.2
  clear hcall ho hm1 hR lR bA q0 q1 q2 q3 q4 q5 q6
  by_cases hz : p.2.1 = 0
  · have HE : Hid (M.keptD (rs.map Wr.wk) d = (p.1, p.2)) := Lib.hid (by rw [HDO.out, if_pos hz])
    obtain ⟨n', rs', h1, h2, h3, h4, h5⟩ := HOZ.out hz
    have HMP := Lib.hid (h1.alloc (.cells (rpA p.2.1 p.2.2) 33))
    have HRO := Lib.hid (h3.below ((Below.refl _ _).alloc (Nat.le_refl _) (.cells (rpA p.2.1 p.2.2) 33)))
    have H4 := Lib.hid h4
    have H5 : Hid (∀ r ∈ rs', ∀ k, r.sl.ownBlock = some k → w.heap.size + 2 ≤ k ∨ ∃ x ∈ rs, x.sl.ownBlock = some k) := Lib.hid (fun r hr k e => by
      rcases h5 r hr k e with h | h
      · exact .inl (by omega)
      · exact .inr h)
    have hz' : (p.2.1 != 0) = false := by simp [hz]
    have HZ := Lib.hid hz
    obtain ⟨r0, r1⟩ := HR.out.two
    obtain ⟨s0, s1⟩ := HX.out.two
    have z0 := HL.out 0
    have z1 := HL.out 1
    clear h1 h3 h4 h5 hz
    go_wp2
    have hne : ∀ r ∈ rs', r.sl.ownBlock ≠ some (w.heap.size + 1) := fun r hr e => by
      rcases H5.out r hr _ e with h | ⟨x, hx, e'⟩
      · omega
      · have := HLOW.out x hx _ e'; omega
    refine bodyPost_ret (results_sdoes p.2.1 p.2.2 (w.heap.size + 1) _ _ rfl ?_) rfl ?_
    · simpa using ((HR.out.putM 0 (.int .i64 p.2.1)).putM 1 (.string p.2.2))
    · refine ⟨by rw [HE.out], grown_new (grown_new HG.out (Nat.le_succ _) _ _) (Nat.le_succ _) _ _, n', rs', ShM.set (ShM.set HMP.out (by omega)) (by omega), h2, (HRO.out.set hne 0 _).set hne 1 _, by rw [HE.out]; exact H4.out, fun r hr k e => ?_⟩
      rcases H5.out r hr k e with h | h
      · exact .inl (by omega)
      · exact .inr h
  · have HE : Hid (M.keptD (rs.map Wr.wk) d = (rs.map Wr.wk, p.2)) := Lib.hid (by rw [HDO.out, if_neg hz])
    obtain ⟨n', D, hom⟩ := HOM.out
    have hom' := hom.alloc (.cells (rpA p.2.1 p.2.2) 33)
    have hz' : (p.2.1 != 0) = true := by simp [hz]
    have HZ := Lib.hid hz
    obtain ⟨s0, s1⟩ := HX.out.two
    clear hz hom
    go_wp2_with fail
    refine (fill_any b n' D A rs cap _ hom' (fun x hg => (HS3.out.by hg hbB).wks.1) HRI.out (by omega) HP.out).mono ?_
    rintro e x4 ⟨rfl, rs', h4, h1, h3, hg4⟩
    have hR4 := holds_by HR.out hg4 (by omega)
    have lR4 := loose_by HL.out HR.out.1 hg4 (by omega)
    have hX4 := holds_by HX.out hg4 (by omega)
    rw [World.size_alloc] at h3
    have HG4 := Lib.hid (grown_tr HG.out hg4)
    have HMP := Lib.hid h1
    have HRO := Lib.hid h3
    have H4 := Lib.hid h4
    have HR4 := Lib.hid hR4
    obtain ⟨r0, r1⟩ := hR4.two
    obtain ⟨s0', s1'⟩ := hX4.two
    have z0 := lR4 0
    have z1 := lR4 1
    clear h1 h3 h4 hg4 hom' hR4 lR4 hX4 s0 s1
    go_wp2
    have hne : ∀ r ∈ rs', r.sl.ownBlock ≠ some (w.heap.size + 1) := fun r hr e => by
      have := ((HRO.out.1 r hr).lt _ e).1
      omega
    refine bodyPost_ret (results_sdoes p.2.1 p.2.2 (w.heap.size + 1) _ _ rfl ?_) rfl ?_
    · simpa using ((HR4.out.putM 0 (.int .i64 p.2.1)).putM 1 (.string p.2.2))
    · refine ⟨by rw [HE.out], grown_new (grown_new HG4.out (Nat.le_succ _) _ _) (Nat.le_succ _) _ _, rs.length, rs', ShM.set (ShM.set HMP.out (by omega)) (by omega), rise_same H4.out HRI.out, ((HRO.out.mono (by omega)).set hne 0 _).set hne 1 _, by rw [HE.out]; exact H4.out, fun r hr k e => ?_⟩
      have := ((HRO.out.1 r hr).lt _ e).1
      exact .inl (by omega)
end Go.Proofs.YtblcgbgcccjpcaaGreat
namespace Go.Proofs.YtblcgbgcccjpcaaGreat
open Go.RowKit
set_option maxRecDepth 20000
theorem own_off {B g : Nat} {w : World} {t : TypeId} {kk n : Nat} {v : Value} {C : List Value} (h : w.ownsRow B t kk v n C) (hne : v.ownBlock ≠ some g) (i : Nat) (u : Value) : (w.setCell ⟨g, i, none⟩ u).ownsRow B t kk v n C := by
  obtain ⟨hl, h0 | ⟨k, cap, cur, rfl, hb, hh, hr⟩⟩ := h
  · exact ⟨hl, .inl h0⟩
  · exact ⟨hl, .inr ⟨k, cap, cur, rfl, hb, (Below.heap_setCell _ _ _ _ (fun e => hne (by rw [show k = g from e]; rfl))).trans hh, hr⟩⟩
theorem TouchS.grown {S : Nat → Prop} {w w1 w2 : World} {g : Nat} (h : TouchS S w w1) (hg : w1.grownBy w2 (some g)) (hS : S g) : TouchS S w w2 :=
  ⟨Nat.le_trans h.size hg.size, fun B hB hSB => (h.low B hB hSB).grown hg (Nat.le_trans hB h.size) (fun k e => by cases e; exact hSB g hS), fun k hk hne => (hg.block k (Nat.lt_of_lt_of_le hk h.size) (fun e => hne (by injection e with e; rw [e]; exact hS))).trans (h.block k hk hne)⟩
theorem TouchS.setNew {S : Nat → Prop} {w w1 : World} {g : Nat} (h : TouchS S w w1) (hg : w.heap.size ≤ g) (j : Nat) (v : Value) : TouchS S w (w1.setCell ⟨g, j, none⟩ v) :=
  ⟨by simpa using h.size, fun B hB hS => (h.low B hB hS).setCell (Nat.le_trans hB hg) v, fun k hk hne => (Below.heap_setCell _ _ _ _ (by show k ≠ g; omega)).trans (h.block k hk hne)⟩
theorem TouchS.loose {S : Nat → Prop} {k : Nat} {w w1 : World} (h : TouchS S w w1) (hC : Loose w k) (hlt : k < w.heap.size) (hk : ¬ S k) : Loose w1 k := fun j => by
  have := hC j
  unfold World.frozen? at this ⊢
  rw [h.block k hlt hk]
  exact this
/-- A book in the program's own form: a box with its map of works and its list of lasts. -/
structure BkSt (w : World) (W B b : Nat) (rs : List Wr) (G : Nat) (v : Value) (ls : List M.La) : Prop where
  map : ShM w b rs.length rs
  own : RsOwn B w rs
  ok : M.sfOk (rs.map Wr.wk) = true
  low : b < B
  top : B ≤ w.heap.size
  box : Holds w G #[.map (some b), v]
  loose : Loose w G
  las : LasOwn W w v ls
  lasIn : ∀ x ∈ ls, laIn 1048576 x
  gb : G ≠ b
  gr : ∀ r ∈ rs, r.sl.ownBlock ≠ some G
  vb : v.ownBlock ≠ some b
  vg : v.ownBlock ≠ some G
  vr : ∀ r ∈ rs, ∀ k, r.sl.ownBlock = some k → v.ownBlock ≠ some k
  wB : W ≤ b ∧ W ≤ G
theorem BkSt.rise {w : World} {W B b : Nat} {rs : List Wr} {G : Nat} {v : Value} {ls : List M.La} (h : BkSt w W B b rs G v ls) : RiseW rs := (sfOk_rise h.ok).1
theorem BkSt.st {w : World} {W B b : Nat} {rs : List Wr} {G : Nat} {v : Value} {ls : List M.La} (h : BkSt w W B b rs G v ls) : St w B b rs.length rs :=
  ⟨h.map, h.rise, h.own, h.low, h.top, by have := (wrs_ok h.ok).1; omega, (wrs_ok h.ok).2.mono (by omega)⟩
theorem BkSt.below {w w' : World} {W B b : Nat} {rs : List Wr} {G : Nat} {v : Value} {ls : List M.La} (h : BkSt w W B b rs G v ls) (hb : Below w.heap.size w w') : BkSt w' W B b rs G v ls :=
  { h with map := h.map.kept (grown_lw hb none) (by simp), own := h.own.below hb, top := Nat.le_trans h.top hb.size, box := h.box.below hb, loose := h.loose.below h.box.1 hb, las := Own.below h.las hb }
theorem BkSt.set {w : World} {W B b g : Nat} {rs : List Wr} {G : Nat} {v : Value} {ls : List M.La} (h : BkSt w W B b rs G v ls) (hb : g ≠ b) (hG : g ≠ G) (hr : ∀ r ∈ rs, r.sl.ownBlock ≠ some g) (hv : v.ownBlock ≠ some g) (i : Nat) (u : Value) : BkSt (w.setCell ⟨g, i, none⟩ u) W B b rs G v ls :=
  { h with map := ShM.set h.map (fun e => hb e.symm), own := h.own.set hr i u, top := by simpa using h.top, box := h.box.otherM (fun e => hG e.symm), loose := fun j => by rw [World.frozen?_setCell]; exact h.loose j, las := own_off h.las hv i u }
namespace M
theorem keptD_page {l : List Wr} {n : Nat} (d : Dd) (hp : WrsIn n l) : (keptD (l.map Wr.wk) d).2.2.size ≤ n := by
  show (doAll (l.map Wr.wk) d).2.2.size ≤ n
  have hz : nilB.size ≤ n := Nat.zero_le _
  unfold doAll
  split
  · split
    · unfold doClaim
      split
      · exact hz
      · split <;> exact hz
    · split
      · unfold doPut
        split
        · exact hz
        · split
          · split
            · exact hz
            · split <;> exact hz
          · exact hz
      · split
        · unfold doVeil
          split
          · exact hz
          · split
            · split <;> exact hz
            · exact hz
        · split
          · unfold doVeil
            split
            · exact hz
            · split
              · split <;> exact hz
              · exact hz
          · split
            · unfold doFetch
              split
              · exact hz
              · rename_i w hw
                split
                · rename_i hc
                  split
                  · exact hz
                  · show (copyIn w d.ed).1.page.size ≤ n
                    obtain ⟨r, hr, rfl⟩ := List.mem_map.1 (getN_mem hw)
                    unfold copyIn at hc ⊢
                    split at hc
                    · rename_i hk
                      rw [if_pos hk]
                      split at hc
                      · rename_i c hcc
                        exact (hp r hr).2.2 c (List.mem_of_getElem? hcc)
                      · cases hc
                    · cases hc
                · exact hz
            · unfold doGive
              split
              · split
                · exact hz
                · split <;> exact hz
              · exact hz
  · exact hz
theorem keptD_ok {l : List Wk} {d : Dd} (h : sfOk l = true) : sfOk (keptD l d).1 = true := by
  show sfOk (if (doAll l d).2.1 = 0 then (doAll l d).1 else l) = true
  split
  · exact keep_doAll h
  · exact h
end M
theorem la_cells {W : Nat} {w : World} {g cap k : Nat} {ls : List M.La} (h : LasOwn W w (.slice (some ⟨g, 0, none⟩) ls.length cap) ls) (hk : k < ls.length) :
    (w.cell? ⟨g, k * 4, none⟩ = some (.int .i64 ls[k].client) ∧ w.cell? ⟨g, k * 4 + 1, none⟩ = some (.int .i64 ls[k].seq) ∧ w.cell? ⟨g, k * 4 + 2, none⟩ = some (.int .i64 ls[k].code) ∧ w.cell? ⟨g, k * 4 + 3, none⟩ = some (.string ls[k].page)) ∧ ∀ j, w.frozen? ⟨g, j, none⟩ = false := by
  obtain ⟨b, o, hA, _, c0, c1, c2, c3⟩ := Las_at (own_atLas h) hk
  injection hA with hA
  injection hA with hb ho
  subst hb ho
  simp only [Nat.zero_add] at c0 c1 c2 c3
  exact ⟨⟨c0, c1, c2, c3⟩, fun j => h.frozenAt j⟩
theorem la_cap {W : Nat} {w : World} {A : Option Addr} {n c : Nat} {l : List M.La} (h : LasOwn W w (.slice A n c) l) : l.length ≤ c := by
  obtain ⟨_, ⟨h0, hn⟩ | ⟨g, cap, cur, hv, _, _, hnc, _⟩⟩ := h
  · omega
  · injection hv with _ _ hc
    omega
theorem la_form {W : Nat} {w : World} {v : Value} {ls : List M.La} (h : LasOwn W w v ls) (hn : 0 < ls.length) : ∃ g cap, v = .slice (some ⟨g, 0, none⟩) ls.length cap ∧ W ≤ g ∧ g < w.heap.size := by
  obtain ⟨hl, ⟨h0, hz⟩ | ⟨g, cap, cur, hv, hb, hh, hr⟩⟩ := h
  · omega
  · exact ⟨g, cap, hv, hb, (Array.getElem?_eq_some_iff.1 hh).1⟩
end Go.Proofs.YtblcgbgcccjpcaaGreat
namespace Go.Proofs.YtblcgbgcccjpcaaGreat
open Go

/-- Does number n wait for number i? -/
def waits (ops : Array Oper) (n i : Nat) : Bool := match ops[n]? with
  | some o => o.after.any fun e => Region.binds .any e && e.on == i
  | none => false

/-- Whatever order is picked from here on; S holds behind every operation as long as number n has not come up. -/
def wpAnyF (P : Program) (ops : Array Oper) (Q : Exit → Act → World → Prop) (n : Nat) (S : World → Prop) : Nat → Array Bool → Act → World → Prop
  | 0, listed, a, w => Region.ready .any ops listed = [] ∧ Q .normal a w
  | fuel + 1, listed, a, w =>
    (Region.ready .any ops listed = [] → Q .normal a w) ∧
    ∀ i ∈ Region.ready .any ops listed, wpOp P ops Q i (fun a' w' => ((listed.setIfInBounds i true).getD n true = false → S w') ∧ wpAnyF P ops Q n S fuel (listed.setIfInBounds i true) a' w') a w

theorem wpAny_of_F {P : Program} {ops : Array Oper} {Q : Exit → Act → World → Prop} {n : Nat} {S : World → Prop} : ∀ (fuel : Nat) (listed : Array Bool) (a : Act) (w : World), wpAnyF P ops Q n S fuel listed a w → wpAny P .any ops Q fuel listed a w
  | 0, _, _, _, h => h
  | fuel + 1, _, _, _, h => ⟨h.1, fun i hi => wpOp_mono (fun a' w' h' => wpAny_of_F fuel _ a' w' h'.2) (h.2 i hi)⟩

theorem wpAnyF_first {P : Program} {ops : Array Oper} {Q : Exit → Act → World → Prop} {n : Nat} {S : World → Prop} {i : Nat} {oi : Oper} {v : Value} (hi : ops[i]? = some oi) (hin : i ≠ n) (hsel : ∀ (j : Nat) (o : Oper) cs b, ops[j]? = some o → o.op ≠ .select cs b)
    (hQ : ∀ c a w, Q (.panic c) (a.put oi.dst v) w → Q (.panic c) a w) :
    ∀ (fuel : Nat) (listed : Array Bool) (a : Act) (w : World),
      (∀ j oj, ops[j]? = some oj → j ≠ i → listed.getD j true = false → (∀ e ∈ oj.after, Region.binds .any e = true → e.on ≠ i) → oi.apart ops oj = true) →
      i ∈ Region.ready .any ops listed → YieldsIf P ops (fun x => waits ops n i = true → S x) oi v a → (waits ops n i = true → listed.getD n true = false) → (listed.getD n true = false → S w) →
      wpAnyF P ops Q n S fuel (listed.setIfInBounds i true) (a.put oi.dst v) w → wpAnyF P ops Q n S (fuel + 1) listed a w := by
  intro fuel
  induction fuel with
  | zero =>
    intro listed a w _ hr hy hn hS H
    refine ⟨fun h => (by rw [h] at hr; cases hr), fun j hj => ?_⟩
    by_cases hji : j = i
    · subst hji
      exact hy.wpOp hi (fun h => hS (hn h)) ⟨fun h => hS (by rwa [getD_set_ne true hin] at h), H⟩
    · have := ready_mono hj hji
      rw [H.1] at this
      cases this
  | succ fuel ih =>
    intro listed a w hfree hr hy hn hS H
    refine ⟨fun h => (by rw [h] at hr; cases hr), fun j hj => ?_⟩
    by_cases hji : j = i
    · subst hji
      exact hy.wpOp hi (fun h => hS (hn h)) ⟨fun h => hS (by rwa [getD_set_ne true hin] at h), H⟩
    · have h1 := H.2 j (ready_mono hj hji)
      obtain ⟨hjun, oj, hoj, hall⟩ := mem_ready.1 hj
      have hnot : ∀ e ∈ oj.after, Region.binds .any e = true → e.on ≠ i := fun e he hb heq => by
        have h1 := hall e he hb
        have h0 := (mem_ready.1 hr).1
        rw [heq] at h1
        rcases Nat.lt_or_ge i listed.size with h' | h'
        · simp [h'] at h0 h1; rw [h0] at h1; cases h1
        · simp [Array.getElem?_eq_none h'] at h1
      have hjn : waits ops n i = true → j ≠ n := fun hw e => by
        subst e
        unfold waits at hw
        rw [hoj] at hw
        simp only [Array.any_eq_true] at hw
        obtain ⟨k, hk, hb⟩ := hw
        simp only [Bool.and_eq_true, beq_iff_eq] at hb
        exact hnot _ (Array.getElem_mem hk) hb.1 hb.2
      have h2 := wpOp_putIf hoj (hfree j oj hoj hji hjun hnot) (fun cs b => hsel i oi cs b hi) (fun cs b => hsel j oj cs b hoj) hQ hy h1
      have hfree' : ∀ k ok, ops[k]? = some ok → k ≠ i → (listed.setIfInBounds j true).getD k true = false →
          (∀ e ∈ ok.after, Region.binds .any e = true → e.on ≠ i) → oi.apart ops ok = true := fun k ok hk hki hun hno => by
        refine hfree k ok hk hki ?_ hno
        by_cases hjk : j = k
        · subst hjk; exact hjun
        · rw [getD_set_ne true hjk] at hun; exact hun
      refine wpOp_mono (fun a' w' h3 => ?_) h2
      have hS' : (listed.setIfInBounds j true).getD n true = false → S w' := fun h => h3.2.1 (by
        rw [Array.setIfInBounds_comm _ _ (Ne.symm hji), getD_set_ne true hin]; exact h)
      refine ⟨hS', ih (listed.setIfInBounds j true) a' w' hfree' (ready_mono hr (Ne.symm hji)) h3.1 (fun hw => ?_) hS' ?_⟩
      · rw [getD_set_ne true (hjn hw)]; exact hn hw
      · rw [Array.setIfInBounds_comm _ _ hji]
        exact h3.2.2

theorem anyF_weaken {P : Program} {ops : Array Oper} {Q : Exit → Act → World → Prop} {n : Nat} {S S' : World → Prop} (h : ∀ w, S' w → S w) :
    ∀ (fuel : Nat) (listed : Array Bool) (a : Act) (w : World), wpAnyF P ops Q n S' fuel listed a w → wpAnyF P ops Q n S fuel listed a w
  | 0, _, _, _, k => k
  | fuel + 1, _, _, _, k => ⟨k.1, fun i hi => wpOp_mono (fun a' w' h' => ⟨fun hl => h w' (h'.1 hl), anyF_weaken h fuel _ a' w' h'.2⟩) (k.2 i hi)⟩

def okSeqF (ops : Array Oper) (n : Nat) : Array Bool → List (Nat × Bool) → Bool
  | listed, [] => (Region.ready .any ops listed).isEmpty
  | listed, (i, true) :: σ => Region.free .any ops listed i && (Region.ready .any ops listed).contains i && (i != n && !(listed.getD n true)) && okSeqF ops n (listed.setIfInBounds i true) σ
  | listed, (i, false) :: σ => (Region.ready .any ops listed == [i]) && !(listed.getD n true) && okSeqF ops n (listed.setIfInBounds i true) σ

def SeqF (P : Program) (ops : Array Oper) (Q : Exit → Act → World → Prop) (n : Nat) : List (Nat × Bool) → (World → Prop) → Act → World → Prop
  | [], _, a, w => Q .normal a w
  | (i, true) :: σ, S, a, w => ∃ o v, ops[i]? = some o ∧ YieldsIf P ops (fun x => waits ops n i = true → S x) o v a ∧ SeqF P ops Q n σ S (a.put o.dst v) w
  | (i, false) :: σ, S, a, w => ∃ o, ops[i]? = some o ∧ ∀ K : Act → World → Prop, Shut (∀ (S' : World → Prop) a' w', (∀ x, S' x → S x) → (i ≠ n → S' w') → ((i ≠ n → S' w') → SeqF P ops Q n σ S' a' w') → K a' w') →
      if Region.wanted o (yielded ops a.tmps) = true then Oper.wp P o a w K Q else K (a.put o.dst undef) w

theorem seqF_any {P : Program} {ops : Array Oper} {Q : Exit → Act → World → Prop} {n : Nat} (hns : Region.noSelect ops = true)
    (hQ : ∀ c a d v w, Q (.panic c) (Act.put a (some d) v) w → Q (.panic c) a w) :
    ∀ (σ : List (Nat × Bool)) (S : World → Prop) (listed : Array Bool) (a : Act) (w : World) (fuel : Nat), okSeqF ops n listed σ = true → σ.length ≤ fuel → (listed.getD n true = false → S w) → SeqF P ops Q n σ S a w → wpAnyF P ops Q n S fuel listed a w
  | [], S, listed, a, w, fuel, hok, _, _, h => by
    have hr : Region.ready .any ops listed = [] := by simpa [okSeqF] using hok
    cases fuel with
    | zero => exact ⟨hr, h⟩
    | succ f => exact ⟨fun _ => h, by rw [hr]; simp⟩
  | (i, true) :: σ, S, listed, a, w, 0, _, hl, _, _ => by simp at hl
  | (i, true) :: σ, S, listed, a, w, fuel + 1, hok, hl, hS, ⟨o, v, ho, hy, h⟩ => by
    simp only [okSeqF, Bool.and_eq_true, bne_iff_ne, Bool.not_eq_true'] at hok
    obtain ⟨⟨⟨h1, h2⟩, h3, h4⟩, h5⟩ := hok
    refine wpAnyF_first ho h3 (Region.noSelect_spec hns) (fun c a w hq => by
      cases hd : o.dst with
      | none => rw [hd] at hq; exact hq
      | some d => rw [hd] at hq; exact hQ c a d v w hq) fuel listed a w (Region.free_spec ho h1) (by simpa using h2) hy (fun _ => h4) hS ?_
    exact seqF_any hns hQ σ S _ _ w fuel h5 (by simpa using hl) (fun hl' => hS h4) h
  | (i, false) :: σ, S, listed, a, w, 0, _, hl, _, _ => by simp at hl
  | (i, false) :: σ, S, listed, a, w, fuel + 1, hok, hl, hS, ⟨o, ho, h⟩ => by
    simp only [okSeqF, Bool.and_eq_true, beq_iff_eq, Bool.not_eq_true'] at hok
    obtain ⟨⟨h1, h4⟩, h5⟩ := hok
    refine ⟨fun h0 => (by rw [h1] at h0; cases h0), fun j hj => ?_⟩
    rw [h1] at hj
    obtain rfl : j = i := by simpa using hj
    have hset : ∀ x : Bool, (listed.setIfInBounds j true).getD n x = false → j ≠ n := fun x hx e => by
      subst e
      rcases Nat.lt_or_ge j listed.size with h' | h'
      · simp [Array.getD, h'] at hx
      · simp [Array.getD, Nat.not_lt.2 h'] at h4
    have := h (fun a' w' => ((listed.setIfInBounds j true).getD n true = false → S w') ∧ wpAnyF P ops Q n S fuel (listed.setIfInBounds j true) a' w') (fun S' a' w' hle hS' hw =>
      ⟨fun hx => hle _ (hS' (hset _ hx)), anyF_weaken hle _ _ _ _ (seqF_any hns hQ σ S' _ a' w' fuel h5 (by simpa using hl) (fun hx => hS' (hset _ hx)) (hw hS'))⟩)
    unfold wpOp
    simp only [ho]
    split
    · rename_i hw
      rw [if_pos hw] at this
      exact .inl this
    · rename_i hw
      rw [if_neg hw] at this
      exact this

/-- THE LAW: a statement that draws its order, gone through in one order; number n comes last and may write what was read. -/
theorem wp_region_fin {P : Program} {id : Nat} {ops : Array Oper} {Q : Exit → Act → World → Prop} {a : Act} {w : World} (n : Nat) (S : World → Prop) (σ : List (Nat × Bool))
    (hm : P.follows .mixedOrders = true) (hns : Region.noSelect ops = true) (hQ : ∀ c a d v w, Q (.panic c) (Act.put a (some d) v) w → Q (.panic c) a w)
    (hok : okSeqF ops n (Array.replicate ops.size false) σ = true) (hlen : σ.length ≤ ops.size) (hS : S w.drew) (h : S w.drew → SeqF P ops Q n σ S a w.drew) : (Code.region id ops true).wp P Q a w :=
  wp_region_any hm (wpAny_of_F _ _ _ _ (seqF_any hns hQ σ S _ a _ _ hok hlen (fun _ => hS) (h hS)))

theorem seqF_end {P : Program} {ops : Array Oper} {Q : Exit → Act → World → Prop} {n : Nat} {S : World → Prop} {a : Act} {w : World} (h : Q .normal a w) : SeqF P ops Q n [] S a w := h
theorem seqF_reads {P : Program} {ops : Array Oper} {Q : Exit → Act → World → Prop} {n : Nat} {S : World → Prop} {i : Nat} {o : Oper} {σ : List (Nat × Bool)} {a : Act} {w : World} (ho : ops[i]? = some o)
    (hw : Region.wanted o (yielded ops a.tmps) = true) (h : ∃ v, (∀ w, (waits ops n i = true → S w) → (execOp a.eval o).run P w = .ok (.value v) w) ∧ SeqF P ops Q n σ S (a.put o.dst v) w) : SeqF P ops Q n ((i, true) :: σ) S a w :=
  h.elim fun v h => ⟨o, v, ho, .inl ⟨hw, h.1⟩, h.2⟩
theorem seqF_call {P : Program} {ops : Array Oper} {Q : Exit → Act → World → Prop} {n : Nat} {S : World → Prop} {i : Nat} {o : Oper} {σ : List (Nat × Bool)} {a : Act} {w : World} (ho : ops[i]? = some o)
    (hw : Region.wanted o (yielded ops a.tmps) = true) (h : ∀ K : Act → World → Prop, Shut (∀ (S' : World → Prop) a' w', (∀ x, S' x → S x) → S' w' → (S' w' → SeqF P ops Q n σ S' a' w') → K a' w') → Oper.wp P o a w K Q) (hin : i ≠ n) : SeqF P ops Q n ((i, false) :: σ) S a w :=
  ⟨o, ho, fun K hK => by rw [if_pos hw]; exact h K (fun S' a' w' h1 h2 h3 => hK.out S' a' w' h1 (fun _ => h2) (fun h => h3 (h hin)))⟩
/-- The last one: it may write what was read. -/
theorem seqF_last {P : Program} {ops : Array Oper} {Q : Exit → Act → World → Prop} {n : Nat} {S : World → Prop} {o : Oper} {σ : List (Nat × Bool)} {a : Act} {w : World} (ho : ops[n]? = some o)
    (hw : Region.wanted o (yielded ops a.tmps) = true) (h : ∀ K : Act → World → Prop, Shut (∀ a' w', SeqF P ops Q n σ S a' w' → K a' w') → Oper.wp P o a w K Q) : SeqF P ops Q n ((n, false) :: σ) S a w :=
  ⟨o, ho, fun K hK => by rw [if_pos hw]; exact h K (fun a' w' h1 => hK.out S a' w' (fun _ h => h) (fun h => absurd rfl h) (fun _ => h1))⟩
end Go.Proofs.YtblcgbgcccjpcaaGreat
