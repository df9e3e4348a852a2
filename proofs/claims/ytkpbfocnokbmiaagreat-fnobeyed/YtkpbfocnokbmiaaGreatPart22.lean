/- Proved, in parts: Proved: how a book of the program's own stands in memory, and what writes leave of it. No program's function is named here; no condition. Proved: a statement that leaves its order open is gone through in one order, where its last operation may write what the others read; no program is named here. Condition: what is taken first reads the same in every memory that is as told, and the last one waits for it. -/
import Derived.Test.YtkpbfocnokbmiaaGreatPart21
import Derived.Test.YtkpbfocnokbmiaaGreatPart11
namespace Go.Proofs.YtkpbfocnokbmiaaGreat
open Go.RowKit
set_option maxRecDepth 20000
theorem own_keep {b g : Nat} {x y : World} {t : TypeId} {kk n : Nat} {v : Value} {C : List Value} (h : x.ownsRow b t kk v n C) (hg : x.grownBy y (some g)) (hne : v.ownBlock ≠ some g) : y.ownsRow b t kk v n C := by
  obtain ⟨hl, h0 | ⟨k, cap, cur, rfl, hk, hh, hr⟩⟩ := h
  · exact ⟨hl, .inl h0⟩
  · refine ⟨hl, .inr ⟨k, cap, cur, rfl, hk, (hg.block k (Array.getElem?_eq_some_iff.1 hh).1 ?_).trans hh, hr⟩⟩
    intro e
    injection e with e
    exact hne (by rw [e]; rfl)
theorem own_off {B g : Nat} {w : World} {t : TypeId} {kk n : Nat} {v : Value} {C : List Value} (h : w.ownsRow B t kk v n C) (hne : v.ownBlock ≠ some g) (i : Nat) (u : Value) : (w.setCell ⟨g, i, none⟩ u).ownsRow B t kk v n C := by
  obtain ⟨hl, h0 | ⟨k, cap, cur, rfl, hb, hh, hr⟩⟩ := h
  · exact ⟨hl, .inl h0⟩
  · exact ⟨hl, .inr ⟨k, cap, cur, rfl, hb, (Below.heap_setCell _ _ _ _ (fun e => hne (by rw [show k = g from e]; rfl))).trans hh, hr⟩⟩
theorem TouchS.grown {S : Nat → Prop} {w w1 w2 : World} {g : Nat} (h : TouchS S w w1) (hg : w1.grownBy w2 (some g)) (hS : S g) : TouchS S w w2 :=
  ⟨Nat.le_trans h.size hg.size, fun B hB hSB => (h.low B hB hSB).grown hg (Nat.le_trans hB h.size) (fun k e => by cases e; exact hSB g hS), fun k hk hne => (hg.block k (Nat.lt_of_lt_of_le hk h.size) (fun e => hne (by injection e with e; rw [e]; exact hS))).trans (h.block k hk hne)⟩
theorem TouchS.setNew {S : Nat → Prop} {w w1 : World} {g : Nat} (h : TouchS S w w1) (hg : w.heap.size ≤ g) (j : Nat) (v : Value) : TouchS S w (w1.setCell ⟨g, j, none⟩ v) :=
  ⟨by simpa using h.size, fun B hB hS => (h.low B hB hS).setCell (Nat.le_trans hB hg) v, fun k hk hne => (Below.heap_setCell _ _ _ _ (by show k ≠ g; omega)).trans (h.block k hk hne)⟩
theorem TouchS.loose {S : Nat → Prop} {k : Nat} {w w1 : World} (h : TouchS S w w1) (hC : Loose w k) (hlt : k < w.heap.size) (hk : ¬ S k) : Loose w1 k := fun j => by
  have := hC j
  unfold World.frozen? at this ⊢
  rw [h.block k hlt hk]
  exact this
/-- A book in the program's own form: a box with its map of works and its list of lasts. -/
structure BkSt (w : World) (W B b : Nat) (rs : List Wr) (G : Nat) (v : Value) (ls : List M.La) : Prop where
  map : ShM w b rs.length rs
  own : RsOwn B w rs
  ok : M.sfOk (rs.map Wr.wk) = true
  low : b < B
  top : B ≤ w.heap.size
  box : Holds w G #[.map (some b), v]
  loose : Loose w G
  las : LasOwn W w v ls
  lasIn : ∀ x ∈ ls, laIn 1048576 x
  gb : G ≠ b
  gr : ∀ r ∈ rs, r.sl.ownBlock ≠ some G
  vb : v.ownBlock ≠ some b
  vg : v.ownBlock ≠ some G
  vr : ∀ r ∈ rs, ∀ k, r.sl.ownBlock = some k → v.ownBlock ≠ some k
  wB : W ≤ b ∧ W ≤ G
theorem BkSt.rise {w : World} {W B b : Nat} {rs : List Wr} {G : Nat} {v : Value} {ls : List M.La} (h : BkSt w W B b rs G v ls) : RiseW rs := (sfOk_rise h.ok).1
theorem BkSt.st {w : World} {W B b : Nat} {rs : List Wr} {G : Nat} {v : Value} {ls : List M.La} (h : BkSt w W B b rs G v ls) : St w B b rs.length rs :=
  ⟨h.map, h.rise, h.own, h.low, h.top, by have := (wrs_ok h.ok).1; omega, (wrs_ok h.ok).2.mono (by omega)⟩
theorem BkSt.below {w w' : World} {W B b : Nat} {rs : List Wr} {G : Nat} {v : Value} {ls : List M.La} (h : BkSt w W B b rs G v ls) (hb : Below w.heap.size w w') : BkSt w' W B b rs G v ls :=
  { h with map := h.map.kept (grown_lw hb none) (by simp), own := h.own.below hb, top := Nat.le_trans h.top hb.size, box := h.box.below hb, loose := h.loose.below h.box.1 hb, las := Own.below h.las hb }
theorem BkSt.set {w : World} {W B b g : Nat} {rs : List Wr} {G : Nat} {v : Value} {ls : List M.La} (h : BkSt w W B b rs G v ls) (hb : g ≠ b) (hG : g ≠ G) (hr : ∀ r ∈ rs, r.sl.ownBlock ≠ some g) (hv : v.ownBlock ≠ some g) (i : Nat) (u : Value) : BkSt (w.setCell ⟨g, i, none⟩ u) W B b rs G v ls :=
  { h with map := ShM.set h.map (fun e => hb e.symm), own := h.own.set hr i u, top := by simpa using h.top, box := h.box.otherM (fun e => hG e.symm), loose := fun j => by rw [World.frozen?_setCell]; exact h.loose j, las := own_off h.las hv i u }
namespace M
theorem keptD_page {l : List Wr} {n : Nat} (d : Dd) (hp : WrsIn n l) : (keptD (l.map Wr.wk) d).2.2.size ≤ n := by
  show (doAll (l.map Wr.wk) d).2.2.size ≤ n
  have hz : nilB.size ≤ n := Nat.zero_le _
  unfold doAll
  split
  · split
    · unfold doClaim
      split
      · exact hz
      · split <;> exact hz
    · split
      · unfold doPut
        split
        · exact hz
        · split
          · split
            · exact hz
            · split <;> exact hz
          · exact hz
      · split
        · unfold doVeil
          split
          · exact hz
          · split
            · split <;> exact hz
            · exact hz
        · split
          · unfold doVeil
            split
            · exact hz
            · split
              · split <;> exact hz
              · exact hz
          · split
            · unfold doFetch
              split
              · exact hz
              · rename_i w hw
                split
                · rename_i hc
                  split
                  · exact hz
                  · show (copyIn w d.ed).1.page.size ≤ n
                    obtain ⟨r, hr, rfl⟩ := List.mem_map.1 (getN_mem hw)
                    unfold copyIn at hc ⊢
                    split at hc
                    · rename_i hk
                      rw [if_pos hk]
                      split at hc
                      · rename_i c hcc
                        exact (hp r hr).2.2 c (List.mem_of_getElem? hcc)
                      · cases hc
                    · cases hc
                · exact hz
            · unfold doGive
              split
              · split
                · exact hz
                · split <;> exact hz
              · exact hz
  · exact hz
theorem keptD_ok {l : List Wk} {d : Dd} (h : sfOk l = true) : sfOk (keptD l d).1 = true := by
  show sfOk (if (doAll l d).2.1 = 0 then (doAll l d).1 else l) = true
  split
  · exact keep_doAll h
  · exact h
end M
/-- What the shelf's does leaves of a book. -/
theorem BkSt.did {w w' : World} {W B b : Nat} {rs : List Wr} {G : Nat} {v : Value} {ls : List M.La} {d : M.Dd} {e : Ending} (h : BkSt w W B b rs G v ls) (ho : DoOut w B b rs (M.keptD (rs.map Wr.wk) d) e w') :
    e = .returned (rpV (M.keptD (rs.map Wr.wk) d).2.1 (M.keptD (rs.map Wr.wk) d).2.2) ∧ w.grownBy w' (some b) ∧ ∃ rs', rs'.map Wr.wk = (M.keptD (rs.map Wr.wk) d).1 ∧ (∀ r ∈ rs', ∀ k, r.sl.ownBlock = some k → w.heap.size ≤ k ∨ ∃ x ∈ rs, x.sl.ownBlock = some k) ∧ BkSt w' W B b rs' G v ls := by
  obtain ⟨he, hg, n', rs', h1, h2, h3, h4, h5⟩ := ho
  refine ⟨he, hg, rs', h4, h5, ⟨h1.tight, h3, h4 ▸ M.keptD_ok h.ok, h.low, Nat.le_trans h.top hg.size, holds_by h.box hg h.gb, loose_by h.loose h.box.1 hg h.gb, own_keep h.las hg h.vb, h.lasIn, h.gb, fun r hr e => ?_, h.vb, h.vg, fun r hr k e ev => ?_, h.wB⟩⟩
  · rcases h5 r hr G e with hk | ⟨x, hx, e'⟩
    · have := h.box.1; omega
    · exact h.gr x hx e'
  · rcases h5 r hr k e with hk | ⟨x, hx, e'⟩
    · have := (World.ownsRow.lt h.las k ev).2; omega
    · exact h.vr x hx k e' ev
theorem does_bk {w : World} {W B b : Nat} {rs : List Wr} {G : Nat} {v : Value} {ls : List M.La} (d : M.Dd) (h : BkSt w W B b rs G v ls) (hn : d.name.size ≤ 1048576) (hpg : d.page.size ≤ 1048576) :
    Calls Tryz.prog 77 #[.map (some b), ddV d] w fun e w' => e = .returned (rpV (M.keptD (rs.map Wr.wk) d).2.1 (M.keptD (rs.map Wr.wk) d).2.2) ∧ w.grownBy w' (some b) ∧ ∃ rs', rs'.map Wr.wk = (M.keptD (rs.map Wr.wk) d).1 ∧ (∀ r ∈ rs', ∀ k, r.sl.ownBlock = some k → w.heap.size ≤ k ∨ ∃ x ∈ rs, x.sl.ownBlock = some k) ∧ BkSt w' W B b rs' G v ls :=
  (does_any B b rs.length rs d w h.st (wrs_ok h.ok).1 hn hpg).mono fun _ _ ho => h.did ho
/-- The cells of one last, written anew. -/
theorem cells_setLa {ls : List M.La} {k : Nat} (hk : k < ls.length) (s c : Int) (p : ByteArray) :
    ((((cellsOf laL ls).set (k * 4 + 1) (.int .i64 s)).set (k * 4 + 2) (.int .i64 c)).set (k * 4 + 2 + 1) (.string p)) = cellsOf laL (ls.set k (M.laSet ls[k] s (c, p))) := by
  have e : ls = ls.take k ++ ls[k] :: ls.drop (k + 1) := by simp
  have e2 : ls.set k (M.laSet ls[k] s (c, p)) = ls.take k ++ M.laSet ls[k] s (c, p) :: ls.drop (k + 1) := by
    rw [List.set_eq_take_append_cons_drop, if_pos hk]
  have hl : (cellsOf laL (ls.take k)).length = k * 4 := by rw [cellsOf_len laL_len, List.length_take, Nat.min_eq_left (by omega)]
  have c1 : cellsOf laL ls = cellsOf laL (ls.take k) ++ (laL ls[k] ++ cellsOf laL (ls.drop (k + 1))) := by
    conv => lhs; rw [e]
    rw [cellsOf_append]; rfl
  have c2 : cellsOf laL (ls.set k (M.laSet ls[k] s (c, p))) = cellsOf laL (ls.take k) ++ (laL (M.laSet ls[k] s (c, p)) ++ cellsOf laL (ls.drop (k + 1))) := by
    rw [e2, cellsOf_append]; rfl
  rw [c1, c2, ← hl]
  simp [M.laSet, Nat.add_assoc]
theorem la_write {W : Nat} {w : World} {g cap k : Nat} {ls : List M.La} (h : LasOwn W w (.slice (some ⟨g, 0, none⟩) ls.length cap) ls) (hk : k < ls.length) (s c : Int) (p : ByteArray) :
    LasOwn W (((w.setCell ⟨g, k * 4 + 1, none⟩ (.int .i64 s)).setCell ⟨g, k * 4 + 2, none⟩ (.int .i64 c)).setCell ⟨g, k * 4 + 2 + 1, none⟩ (.string p)) (.slice (some ⟨g, 0, none⟩) ls.length cap) (ls.set k (M.laSet ls[k] s (c, p))) := by
  have h1 := ((h.stored (k * 4 + 1) (.int .i64 s)).1.stored (k * 4 + 2) (.int .i64 c)).1.stored (k * 4 + 2 + 1) (.string p)
  have h2 := h1.1
  rw [cells_setLa hk s c p] at h2
  show World.ownsRow _ _ _ _ _ (ls.set k (M.laSet ls[k] s (c, p))).length _
  rw [List.length_set]
  exact h2
/-- A book whose last at a place was written anew. -/
theorem BkSt.wrote {y : World} {W B b : Nat} {rs : List Wr} {G g cap k : Nat} {ls : List M.La} (h : BkSt y W B b rs G (.slice (some ⟨g, 0, none⟩) ls.length cap) ls) (hk : k < ls.length) (s c : Int) (p : ByteArray) (hp : p.size ≤ 1048576) :
    BkSt (((y.setCell ⟨g, k * 4 + 1, none⟩ (.int .i64 s)).setCell ⟨g, k * 4 + 2, none⟩ (.int .i64 c)).setCell ⟨g, k * 4 + 2 + 1, none⟩ (.string p)) W B b rs G (.slice (some ⟨g, 0, none⟩) ls.length cap) (ls.set k (M.laSet ls[k] s (c, p))) := by
  have hgb : g ≠ b := fun e => h.vb (by rw [e]; rfl)
  have hgG : g ≠ G := fun e => h.vg (by rw [e]; rfl)
  have hgr : ∀ r ∈ rs, r.sl.ownBlock ≠ some g := fun r hr e => h.vr r hr g e rfl
  refine { h with map := ShM.set (ShM.set (ShM.set h.map (fun e => hgb e.symm)) (fun e => hgb e.symm)) (fun e => hgb e.symm), own := ((h.own.set hgr _ _).set hgr _ _).set hgr _ _, top := by simpa using h.top, box := ((h.box.otherM (fun e => hgG e.symm)).otherM (fun e => hgG e.symm)).otherM (fun e => hgG e.symm), loose := fun j => by rw [World.frozen?_setCell, World.frozen?_setCell, World.frozen?_setCell]; exact h.loose j, las := la_write h.las hk s c p, lasIn := fun x hx => ?_ }
  rcases List.mem_or_eq_of_mem_set hx with hx | rfl
  · exact h.lasIn x hx
  · exact hp
theorem la_cells {W : Nat} {w : World} {g cap k : Nat} {ls : List M.La} (h : LasOwn W w (.slice (some ⟨g, 0, none⟩) ls.length cap) ls) (hk : k < ls.length) :
    (w.cell? ⟨g, k * 4, none⟩ = some (.int .i64 ls[k].client) ∧ w.cell? ⟨g, k * 4 + 1, none⟩ = some (.int .i64 ls[k].seq) ∧ w.cell? ⟨g, k * 4 + 2, none⟩ = some (.int .i64 ls[k].code) ∧ w.cell? ⟨g, k * 4 + 3, none⟩ = some (.string ls[k].page)) ∧ ∀ j, w.frozen? ⟨g, j, none⟩ = false := by
  obtain ⟨b, o, hA, _, c0, c1, c2, c3⟩ := Las_at (own_atLas h) hk
  injection hA with hA
  injection hA with hb ho
  subst hb ho
  simp only [Nat.zero_add] at c0 c1 c2 c3
  exact ⟨⟨c0, c1, c2, c3⟩, fun j => h.frozenAt j⟩
theorem la_cellsN {W : Nat} {w : World} {g n cap k : Nat} {ls : List M.La} (h : LasOwn W w (.slice (some ⟨g, 0, none⟩) n cap) ls) (hn : ls.length = n) (hk : k < ls.length) :
    (w.cell? ⟨g, k * 4, none⟩ = some (.int .i64 ls[k].client) ∧ w.cell? ⟨g, k * 4 + 1, none⟩ = some (.int .i64 ls[k].seq) ∧ w.cell? ⟨g, k * 4 + 2, none⟩ = some (.int .i64 ls[k].code) ∧ w.cell? ⟨g, k * 4 + 3, none⟩ = some (.string ls[k].page)) ∧ ∀ j, w.frozen? ⟨g, j, none⟩ = false := by
  subst hn
  exact la_cells h hk
theorem TouchS.setOr {S : Nat → Prop} {w w1 : World} {g : Nat} (h : TouchS S w w1) (hg : S g ∨ w.heap.size ≤ g) (j : Nat) (v : Value) : TouchS S w (w1.setCell ⟨g, j, none⟩ v) := by
  rcases hg with hg | hg
  · exact h.set hg j v
  · exact h.setNew hg j v
theorem la_cap {W : Nat} {w : World} {A : Option Addr} {n c : Nat} {l : List M.La} (h : LasOwn W w (.slice A n c) l) : l.length ≤ c := by
  obtain ⟨_, ⟨h0, hn⟩ | ⟨g, cap, cur, hv, _, _, hnc, _⟩⟩ := h
  · omega
  · injection hv with _ _ hc
    omega
theorem la_form {W : Nat} {w : World} {v : Value} {ls : List M.La} (h : LasOwn W w v ls) (hn : 0 < ls.length) : ∃ g cap, v = .slice (some ⟨g, 0, none⟩) ls.length cap ∧ W ≤ g ∧ g < w.heap.size := by
  obtain ⟨hl, ⟨h0, hz⟩ | ⟨g, cap, cur, hv, hb, hh, hr⟩⟩ := h
  · omega
  · exact ⟨g, cap, hv, hb, (Array.getElem?_eq_some_iff.1 hh).1⟩
end Go.Proofs.YtkpbfocnokbmiaaGreat
namespace Go.Proofs.YtkpbfocnokbmiaaGreat
open Go

/-- Does number n wait for number i? -/
def waits (ops : Array Oper) (n i : Nat) : Bool := match ops[n]? with
  | some o => o.after.any fun e => Region.binds .any e && e.on == i
  | none => false

/-- Whatever order is picked from here on; S holds behind every operation as long as number n has not come up. -/
def wpAnyF (P : Program) (ops : Array Oper) (Q : Exit → Act → World → Prop) (n : Nat) (S : World → Prop) : Nat → Array Bool → Act → World → Prop
  | 0, listed, a, w => Region.ready .any ops listed = [] ∧ Q .normal a w
  | fuel + 1, listed, a, w =>
    (Region.ready .any ops listed = [] → Q .normal a w) ∧
    ∀ i ∈ Region.ready .any ops listed, wpOp P ops Q i (fun a' w' => ((listed.setIfInBounds i true).getD n true = false → S w') ∧ wpAnyF P ops Q n S fuel (listed.setIfInBounds i true) a' w') a w

theorem wpAny_of_F {P : Program} {ops : Array Oper} {Q : Exit → Act → World → Prop} {n : Nat} {S : World → Prop} : ∀ (fuel : Nat) (listed : Array Bool) (a : Act) (w : World), wpAnyF P ops Q n S fuel listed a w → wpAny P .any ops Q fuel listed a w
  | 0, _, _, _, h => h
  | fuel + 1, _, _, _, h => ⟨h.1, fun i hi => wpOp_mono (fun a' w' h' => wpAny_of_F fuel _ a' w' h'.2) (h.2 i hi)⟩

theorem wpAnyF_first {P : Program} {ops : Array Oper} {Q : Exit → Act → World → Prop} {n : Nat} {S : World → Prop} {i : Nat} {oi : Oper} {v : Value} (hi : ops[i]? = some oi) (hin : i ≠ n) (hsel : ∀ (j : Nat) (o : Oper) cs b, ops[j]? = some o → o.op ≠ .select cs b)
    (hQ : ∀ c a w, Q (.panic c) (a.put oi.dst v) w → Q (.panic c) a w) :
    ∀ (fuel : Nat) (listed : Array Bool) (a : Act) (w : World),
      (∀ j oj, ops[j]? = some oj → j ≠ i → listed.getD j true = false → (∀ e ∈ oj.after, Region.binds .any e = true → e.on ≠ i) → oi.apart ops oj = true) →
      i ∈ Region.ready .any ops listed → YieldsIf P ops (fun x => waits ops n i = true → S x) oi v a → (waits ops n i = true → listed.getD n true = false) → (listed.getD n true = false → S w) →
      wpAnyF P ops Q n S fuel (listed.setIfInBounds i true) (a.put oi.dst v) w → wpAnyF P ops Q n S (fuel + 1) listed a w := by
  intro fuel
  induction fuel with
  | zero =>
    intro listed a w _ hr hy hn hS H
    refine ⟨fun h => (by rw [h] at hr; cases hr), fun j hj => ?_⟩
    by_cases hji : j = i
    · subst hji
      exact hy.wpOp hi (fun h => hS (hn h)) ⟨fun h => hS (by rwa [getD_set_ne true hin] at h), H⟩
    · have := ready_mono hj hji
      rw [H.1] at this
      cases this
  | succ fuel ih =>
    intro listed a w hfree hr hy hn hS H
    refine ⟨fun h => (by rw [h] at hr; cases hr), fun j hj => ?_⟩
    by_cases hji : j = i
    · subst hji
      exact hy.wpOp hi (fun h => hS (hn h)) ⟨fun h => hS (by rwa [getD_set_ne true hin] at h), H⟩
    · have h1 := H.2 j (ready_mono hj hji)
      obtain ⟨hjun, oj, hoj, hall⟩ := mem_ready.1 hj
      have hnot : ∀ e ∈ oj.after, Region.binds .any e = true → e.on ≠ i := fun e he hb heq => by
        have h1 := hall e he hb
        have h0 := (mem_ready.1 hr).1
        rw [heq] at h1
        rcases Nat.lt_or_ge i listed.size with h' | h'
        · simp [h'] at h0 h1; rw [h0] at h1; cases h1
        · simp [Array.getElem?_eq_none h'] at h1
      have hjn : waits ops n i = true → j ≠ n := fun hw e => by
        subst e
        unfold waits at hw
        rw [hoj] at hw
        simp only [Array.any_eq_true] at hw
        obtain ⟨k, hk, hb⟩ := hw
        simp only [Bool.and_eq_true, beq_iff_eq] at hb
        exact hnot _ (Array.getElem_mem hk) hb.1 hb.2
      have h2 := wpOp_putIf hoj (hfree j oj hoj hji hjun hnot) (fun cs b => hsel i oi cs b hi) (fun cs b => hsel j oj cs b hoj) hQ hy h1
      have hfree' : ∀ k ok, ops[k]? = some ok → k ≠ i → (listed.setIfInBounds j true).getD k true = false →
          (∀ e ∈ ok.after, Region.binds .any e = true → e.on ≠ i) → oi.apart ops ok = true := fun k ok hk hki hun hno => by
        refine hfree k ok hk hki ?_ hno
        by_cases hjk : j = k
        · subst hjk; exact hjun
        · rw [getD_set_ne true hjk] at hun; exact hun
      refine wpOp_mono (fun a' w' h3 => ?_) h2
      have hS' : (listed.setIfInBounds j true).getD n true = false → S w' := fun h => h3.2.1 (by
        rw [Array.setIfInBounds_comm _ _ (Ne.symm hji), getD_set_ne true hin]; exact h)
      refine ⟨hS', ih (listed.setIfInBounds j true) a' w' hfree' (ready_mono hr (Ne.symm hji)) h3.1 (fun hw => ?_) hS' ?_⟩
      · rw [getD_set_ne true (hjn hw)]; exact hn hw
      · rw [Array.setIfInBounds_comm _ _ hji]
        exact h3.2.2

theorem anyF_weaken {P : Program} {ops : Array Oper} {Q : Exit → Act → World → Prop} {n : Nat} {S S' : World → Prop} (h : ∀ w, S' w → S w) :
    ∀ (fuel : Nat) (listed : Array Bool) (a : Act) (w : World), wpAnyF P ops Q n S' fuel listed a w → wpAnyF P ops Q n S fuel listed a w
  | 0, _, _, _, k => k
  | fuel + 1, _, _, _, k => ⟨k.1, fun i hi => wpOp_mono (fun a' w' h' => ⟨fun hl => h w' (h'.1 hl), anyF_weaken h fuel _ a' w' h'.2⟩) (k.2 i hi)⟩

def okSeqF (ops : Array Oper) (n : Nat) : Array Bool → List (Nat × Bool) → Bool
  | listed, [] => (Region.ready .any ops listed).isEmpty
  | listed, (i, true) :: σ => Region.free .any ops listed i && (Region.ready .any ops listed).contains i && (i != n && !(listed.getD n true)) && okSeqF ops n (listed.setIfInBounds i true) σ
  | listed, (i, false) :: σ => (Region.ready .any ops listed == [i]) && !(listed.getD n true) && okSeqF ops n (listed.setIfInBounds i true) σ

def SeqF (P : Program) (ops : Array Oper) (Q : Exit → Act → World → Prop) (n : Nat) : List (Nat × Bool) → (World → Prop) → Act → World → Prop
  | [], _, a, w => Q .normal a w
  | (i, true) :: σ, S, a, w => ∃ o v, ops[i]? = some o ∧ YieldsIf P ops (fun x => waits ops n i = true → S x) o v a ∧ SeqF P ops Q n σ S (a.put o.dst v) w
  | (i, false) :: σ, S, a, w => ∃ o, ops[i]? = some o ∧ ∀ K : Act → World → Prop, Shut (∀ (S' : World → Prop) a' w', (∀ x, S' x → S x) → (i ≠ n → S' w') → ((i ≠ n → S' w') → SeqF P ops Q n σ S' a' w') → K a' w') →
      if Region.wanted o (yielded ops a.tmps) = true then Oper.wp P o a w K Q else K (a.put o.dst undef) w

theorem seqF_any {P : Program} {ops : Array Oper} {Q : Exit → Act → World → Prop} {n : Nat} (hns : Region.noSelect ops = true)
    (hQ : ∀ c a d v w, Q (.panic c) (Act.put a (some d) v) w → Q (.panic c) a w) :
    ∀ (σ : List (Nat × Bool)) (S : World → Prop) (listed : Array Bool) (a : Act) (w : World) (fuel : Nat), okSeqF ops n listed σ = true → σ.length ≤ fuel → (listed.getD n true = false → S w) → SeqF P ops Q n σ S a w → wpAnyF P ops Q n S fuel listed a w
  | [], S, listed, a, w, fuel, hok, _, _, h => by
    have hr : Region.ready .any ops listed = [] := by simpa [okSeqF] using hok
    cases fuel with
    | zero => exact ⟨hr, h⟩
    | succ f => exact ⟨fun _ => h, by rw [hr]; simp⟩
  | (i, true) :: σ, S, listed, a, w, 0, _, hl, _, _ => by simp at hl
  | (i, true) :: σ, S, listed, a, w, fuel + 1, hok, hl, hS, ⟨o, v, ho, hy, h⟩ => by
    simp only [okSeqF, Bool.and_eq_true, bne_iff_ne, Bool.not_eq_true'] at hok
    obtain ⟨⟨⟨h1, h2⟩, h3, h4⟩, h5⟩ := hok
    refine wpAnyF_first ho h3 (Region.noSelect_spec hns) (fun c a w hq => by
      cases hd : o.dst with
      | none => rw [hd] at hq; exact hq
      | some d => rw [hd] at hq; exact hQ c a d v w hq) fuel listed a w (Region.free_spec ho h1) (by simpa using h2) hy (fun _ => h4) hS ?_
    exact seqF_any hns hQ σ S _ _ w fuel h5 (by simpa using hl) (fun hl' => hS h4) h
  | (i, false) :: σ, S, listed, a, w, 0, _, hl, _, _ => by simp at hl
  | (i, false) :: σ, S, listed, a, w, fuel + 1, hok, hl, hS, ⟨o, ho, h⟩ => by
    simp only [okSeqF, Bool.and_eq_true, beq_iff_eq, Bool.not_eq_true'] at hok
    obtain ⟨⟨h1, h4⟩, h5⟩ := hok
    refine ⟨fun h0 => (by rw [h1] at h0; cases h0), fun j hj => ?_⟩
    rw [h1] at hj
    obtain rfl : j = i := by simpa using hj
    have hset : ∀ x : Bool, (listed.setIfInBounds j true).getD n x = false → j ≠ n := fun x hx e => by
      subst e
      rcases Nat.lt_or_ge j listed.size with h' | h'
      · simp [Array.getD, h'] at hx
      · simp [Array.getD, Nat.not_lt.2 h'] at h4
    have := h (fun a' w' => ((listed.setIfInBounds j true).getD n true = false → S w') ∧ wpAnyF P ops Q n S fuel (listed.setIfInBounds j true) a' w') (fun S' a' w' hle hS' hw =>
      ⟨fun hx => hle _ (hS' (hset _ hx)), anyF_weaken hle _ _ _ _ (seqF_any hns hQ σ S' _ a' w' fuel h5 (by simpa using hl) (fun hx => hS' (hset _ hx)) (hw hS'))⟩)
    unfold wpOp
    simp only [ho]
    split
    · rename_i hw
      rw [if_pos hw] at this
      exact .inl this
    · rename_i hw
      rw [if_neg hw] at this
      exact this

/-- THE LAW: a statement that draws its order, gone through in one order; number n comes last and may write what was read. -/
theorem wp_region_fin {P : Program} {id : Nat} {ops : Array Oper} {Q : Exit → Act → World → Prop} {a : Act} {w : World} (n : Nat) (S : World → Prop) (σ : List (Nat × Bool))
    (hm : P.follows .mixedOrders = true) (hns : Region.noSelect ops = true) (hQ : ∀ c a d v w, Q (.panic c) (Act.put a (some d) v) w → Q (.panic c) a w)
    (hok : okSeqF ops n (Array.replicate ops.size false) σ = true) (hlen : σ.length ≤ ops.size) (hS : S w.drew) (h : S w.drew → SeqF P ops Q n σ S a w.drew) : (Code.region id ops true).wp P Q a w :=
  wp_region_any hm (wpAny_of_F _ _ _ _ (seqF_any hns hQ σ S _ a _ _ hok hlen (fun _ => hS) (h hS)))

theorem seqF_end {P : Program} {ops : Array Oper} {Q : Exit → Act → World → Prop} {n : Nat} {S : World → Prop} {a : Act} {w : World} (h : Q .normal a w) : SeqF P ops Q n [] S a w := h
theorem seqF_reads {P : Program} {ops : Array Oper} {Q : Exit → Act → World → Prop} {n : Nat} {S : World → Prop} {i : Nat} {o : Oper} {σ : List (Nat × Bool)} {a : Act} {w : World} (ho : ops[i]? = some o)
    (hw : Region.wanted o (yielded ops a.tmps) = true) (h : ∃ v, (∀ w, (waits ops n i = true → S w) → (execOp a.eval o).run P w = .ok (.value v) w) ∧ SeqF P ops Q n σ S (a.put o.dst v) w) : SeqF P ops Q n ((i, true) :: σ) S a w :=
  h.elim fun v h => ⟨o, v, ho, .inl ⟨hw, h.1⟩, h.2⟩
theorem seqF_call {P : Program} {ops : Array Oper} {Q : Exit → Act → World → Prop} {n : Nat} {S : World → Prop} {i : Nat} {o : Oper} {σ : List (Nat × Bool)} {a : Act} {w : World} (ho : ops[i]? = some o)
    (hw : Region.wanted o (yielded ops a.tmps) = true) (h : ∀ K : Act → World → Prop, Shut (∀ (S' : World → Prop) a' w', (∀ x, S' x → S x) → S' w' → (S' w' → SeqF P ops Q n σ S' a' w') → K a' w') → Oper.wp P o a w K Q) (hin : i ≠ n) : SeqF P ops Q n ((i, false) :: σ) S a w :=
  ⟨o, ho, fun K hK => by rw [if_pos hw]; exact h K (fun S' a' w' h1 h2 h3 => hK.out S' a' w' h1 (fun _ => h2) (fun h => h3 (h hin)))⟩
/-- The last one: it may write what was read. -/
theorem seqF_last {P : Program} {ops : Array Oper} {Q : Exit → Act → World → Prop} {n : Nat} {S : World → Prop} {o : Oper} {σ : List (Nat × Bool)} {a : Act} {w : World} (ho : ops[n]? = some o)
    (hw : Region.wanted o (yielded ops a.tmps) = true) (h : ∀ K : Act → World → Prop, Shut (∀ a' w', SeqF P ops Q n σ S a' w' → K a' w') → Oper.wp P o a w K Q) : SeqF P ops Q n ((n, false) :: σ) S a w :=
  ⟨o, ho, fun K hK => by rw [if_pos hw]; exact h K (fun a' w' h1 => hK.out S a' w' (fun _ h => h) (fun h => absurd rfl h) (fun _ => h1))⟩
end Go.Proofs.YtkpbfocnokbmiaaGreat
