/- Proved, in parts: Proved: an argument that is a letter is its numbers, its flag and its lists; no program is named here; no condition. Proved: facts that a law on letters needs: what its measure tells of its lists, and what a copy reads as. No program's function is named here; no condition. Proved: each of the program's parts of a letter tells its one field once more, in the letter that it is given the place of; nothing else is written. Condition: that place may be written. -/
import Derived.Test.YtdoeiphnalbinaaGreatPart18
import Derived.Test.YtdoeiphnalbinaaGreatPart20
import Derived.Test.YtdoeiphnalbinaaGreatPart19
import Derived.Test.YtdoeiphnalbinaaGreatPart17
import Derived.Test.YtdoeiphnalbinaaGreatPart03
import Derived.Test.YtdoeiphnalbinaaGreatPart01
namespace Go.Proofs.YtdoeiphnalbinaaGreat
open Go.ChangeShapes Go.WideShapes Go.ChangeAt Go.RowKit Go.Joins Go.Deep
set_option linter.unusedVariables false
section
variable {H : Type} {enc : TypeId × Value → H} {P : Program} {w : World} {base : Nat} {spare : Nat → Bool} {held : Bool}
abbrev enCells (s : Sl M.En) : List Value := [s.v]
def EnQ (w : World) (s : Sl M.En) : Prop := Ens w s.ad s.l ∧ s.l.length ≤ maxLen ∧ ∀ e ∈ s.l, enIn maxLen e
theorem opens_ens {ts te : TypeId} {e0 e1 h0 h1 h2 f0 f1 f2 f3 f4 g0 g1 g2 : Field}
    (hts : P.underlying ts = some (.slice te)) (hs : P.underlying te = some (.struct #[e0, e1])) (hC : P.cellsOf te = 10)
    (so : [e0.offset, e1.offset] = [0, 1]) (sk : [P.cellsOf e0.type, P.cellsOf e1.type] = [1, 9])
    (y0 : P.underlying e0.type = some (.int .i64)) (T : OrTy P e1.type h0 h1 h2 f0 f1 f2 f3 f4 g0 g1 g2) : Opens enc P w base spare held ts enCells (EnQ w) := fun n cs x h => by
  haveI : Inhabited M.En := ⟨⟨0, ⟨0, 0, ⟨0, ⟨#[]⟩, ⟨0, 0, 0⟩, ⟨#[]⟩, 0⟩⟩⟩⟩
  obtain ⟨A, l, c, he, h1, hlc, hcm, h3⟩ := open_rows (en := enL) (Q := fun e => enIn maxLen e) hts hC (by omega) enL_len (fun n cs x hx => cells_en hs hC so sk y0 T hx) h
  have h2 : l.length ≤ maxLen := by omega
  exact ⟨⟨A, c, l⟩, he, h1, h2, h3⟩
theorem cells_lt {t te tb : TypeId} {f0 f1 f2 f3 f4 f5 f6 f7 f8 f9 : Field} {n : Nat} {cs : List Value} {x : DataW H × List MemPlace} (hs : P.underlying t = some (.struct #[f0, f1, f2, f3, f4, f5, f6, f7, f8, f9])) (hC : P.cellsOf t = 11)
    (so : [f0.offset, f1.offset, f2.offset, f3.offset, f4.offset, f5.offset, f6.offset, f7.offset, f8.offset, f9.offset] = [0, 1, 2, 3, 4, 5, 6, 7, 8, 9]) (sk : [P.cellsOf f0.type, P.cellsOf f1.type, P.cellsOf f2.type, P.cellsOf f3.type, P.cellsOf f4.type, P.cellsOf f5.type, P.cellsOf f6.type, P.cellsOf f7.type, P.cellsOf f8.type, P.cellsOf f9.type] = [1, 1, 1, 1, 1, 1, 1, 1, 1, 2])
    (y0 : P.underlying f0.type = some (.int .i64)) (y1 : P.underlying f1.type = some (.int .i64)) (y2 : P.underlying f2.type = some (.int .i64)) (y3 : P.underlying f3.type = some (.int .i64)) (y4 : P.underlying f4.type = some (.int .i64)) (y5 : P.underlying f5.type = some (.int .i64)) (y7 : P.underlying f7.type = some (.int .i64)) (y8 : P.underlying f8.type = some .bool)
    (e6 : f6.type = te) (e9 : f9.type = tb)
    (Te : Opens enc P w base spare held te enCells (EnQ w)) (Tb : Opens enc P w base spare held tb bkCells (BkRd maxLen w))
    (h : DataW.trod enc P w base spare held n t cs = some x) : ∃ s : LLt, cs = (ltA s).toList ∧ LtRd maxLen w s := by
  obtain ⟨zs, m, _, _, hl, hlen', hfld'⟩ := DataW.trod_struct hs h
  simp only [List.cons.injEq, and_true] at so sk
  obtain ⟨o0, o1, o2, o3, o4, o5, o6, o7, o8, o9⟩ := so
  obtain ⟨k0, k1, k2, k3, k4, k5, k6, k7, k8, k9⟩ := sk
  match cs, hl.trans hC with
  | [c0, c1, c2, c3, c4, c5, c6, c7, c8, c9, c10], _ =>
    match zs, hlen' with
    | [z0, z1, z2, z3, z4, z5, z6, z7, z8, z9], _ =>
      have i0 := hfld' 0 f0 rfl
      simp only [o0, k0, List.drop_zero, List.take_succ_cons, List.take_zero, List.getElem?_cons_zero] at i0
      have i1 := hfld' 1 f1 rfl
      simp only [o1, k1, List.drop_zero, List.drop_succ_cons, List.take_succ_cons, List.take_zero, List.getElem?_cons_zero, List.getElem?_cons_succ] at i1
      have i2 := hfld' 2 f2 rfl
      simp only [o2, k2, List.drop_zero, List.drop_succ_cons, List.take_succ_cons, List.take_zero, List.getElem?_cons_zero, List.getElem?_cons_succ] at i2
      have i3 := hfld' 3 f3 rfl
      simp only [o3, k3, List.drop_zero, List.drop_succ_cons, List.take_succ_cons, List.take_zero, List.getElem?_cons_zero, List.getElem?_cons_succ] at i3
      have i4 := hfld' 4 f4 rfl
      simp only [o4, k4, List.drop_zero, List.drop_succ_cons, List.take_succ_cons, List.take_zero, List.getElem?_cons_zero, List.getElem?_cons_succ] at i4
      have i5 := hfld' 5 f5 rfl
      simp only [o5, k5, List.drop_zero, List.drop_succ_cons, List.take_succ_cons, List.take_zero, List.getElem?_cons_zero, List.getElem?_cons_succ] at i5
      have i6 := hfld' 6 f6 rfl
      simp only [o6, k6, List.drop_zero, List.drop_succ_cons, List.take_succ_cons, List.take_zero, List.getElem?_cons_zero, List.getElem?_cons_succ] at i6
      have i7 := hfld' 7 f7 rfl
      simp only [o7, k7, List.drop_zero, List.drop_succ_cons, List.take_succ_cons, List.take_zero, List.getElem?_cons_zero, List.getElem?_cons_succ] at i7
      have i8 := hfld' 8 f8 rfl
      simp only [o8, k8, List.drop_zero, List.drop_succ_cons, List.take_succ_cons, List.take_zero, List.getElem?_cons_zero, List.getElem?_cons_succ] at i8
      have i9 := hfld' 9 f9 rfl
      simp only [o9, k9, List.drop_zero, List.drop_succ_cons, List.take_succ_cons, List.take_zero, List.getElem?_cons_zero, List.getElem?_cons_succ] at i9
      obtain ⟨a0, q0, _⟩ := DataW.trod_int y0 i0
      obtain ⟨a1, q1, _⟩ := DataW.trod_int y1 i1
      obtain ⟨a2, q2, _⟩ := DataW.trod_int y2 i2
      obtain ⟨a3, q3, _⟩ := DataW.trod_int y3 i3
      obtain ⟨a4, q4, _⟩ := DataW.trod_int y4 i4
      obtain ⟨a5, q5, _⟩ := DataW.trod_int y5 i5
      obtain ⟨a7, q7, _⟩ := DataW.trod_int y7 i7
      obtain ⟨a8, q8, _⟩ := DataW.trod_bool y8 i8
      rw [e6] at i6
      obtain ⟨a6, q6, r6⟩ := Te _ _ _ i6
      rw [e9] at i9
      obtain ⟨a9, q9, r9⟩ := Tb _ _ _ i9
      simp only [enCells, bkCells, List.cons.injEq, and_true] at q0 q1 q2 q3 q4 q5 q6 q7 q8 q9
      obtain ⟨q9, q9'⟩ := q9
      subst q0 q1 q2 q3 q4 q5 q6 q7 q8 q9 q9'
      exact ⟨⟨a0, a1, a2, a3, a4, a5, a6, a7, a8, a9⟩, rfl, r6.1, r6.2.1, r6.2.2, r9⟩
theorem open_lt {r : Reach} {b0 : Nat} {t te tb : TypeId} {f0 f1 f2 f3 f4 f5 f6 f7 f8 f9 : Field} {v : Value} {d : DataW H} {p : List MemPlace} (hs : P.underlying t = some (.struct #[f0, f1, f2, f3, f4, f5, f6, f7, f8, f9])) (hC : P.cellsOf t = 11)
    (so : [f0.offset, f1.offset, f2.offset, f3.offset, f4.offset, f5.offset, f6.offset, f7.offset, f8.offset, f9.offset] = [0, 1, 2, 3, 4, 5, 6, 7, 8, 9]) (sk : [P.cellsOf f0.type, P.cellsOf f1.type, P.cellsOf f2.type, P.cellsOf f3.type, P.cellsOf f4.type, P.cellsOf f5.type, P.cellsOf f6.type, P.cellsOf f7.type, P.cellsOf f8.type, P.cellsOf f9.type] = [1, 1, 1, 1, 1, 1, 1, 1, 1, 2])
    (y0 : P.underlying f0.type = some (.int .i64)) (y1 : P.underlying f1.type = some (.int .i64)) (y2 : P.underlying f2.type = some (.int .i64)) (y3 : P.underlying f3.type = some (.int .i64)) (y4 : P.underlying f4.type = some (.int .i64)) (y5 : P.underlying f5.type = some (.int .i64)) (y7 : P.underlying f7.type = some (.int .i64)) (y8 : P.underlying f8.type = some .bool)
    (e6 : f6.type = te) (e9 : f9.type = tb)
    (Te : Opens enc P w base spare held te enCells (EnQ w)) (Tb : Opens enc P w base spare held tb bkCells (BkRd maxLen w))
    (hv : Value.okWide P w r b0 t v) (h : DataW.Trod enc P w base spare held t v d p) : ∃ s : LLt, v = ltV s ∧ LtRd maxLen w s := by
  obtain ⟨cs, rfl, hsz⟩ := okWide_struct hs hv
  obtain ⟨fuel, hf⟩ := h
  obtain ⟨s, he, h1⟩ := cells_lt hs hC so sk y0 y1 y2 y3 y4 y5 y7 y8 e6 e9 Te Tb hf
  refine ⟨s, ?_, h1⟩
  obtain ⟨q⟩ := cs
  simp only [Value.cells] at he
  rw [he]
end
end Go.Proofs.YtdoeiphnalbinaaGreat
namespace Go.Proofs.YtdoeiphnalbinaaGreat
open Go.RowKit
set_option maxRecDepth 20000

theorem BkRd.of_szL {n : Nat} {w : World} {b : LBk} (h : BkRd maxLen w b) (hs : b.sz ≤ n) : BkRd n w b := by
  unfold LBk.sz at hs
  exact ⟨h.sf, by omega, WrsIn.of_sz (by omega), h.la, by omega, fun c hc => by
    have := szLas_mem b.la.l c hc
    exact Nat.le_trans this (by omega)⟩
theorem LtRd.of_sz {n : Nat} {w : World} {s : LLt} (h : LtRd maxLen w s) (hs : s.sz ≤ n) : LtRd n w s := by
  unfold LLt.sz at hs
  exact ⟨h.en, by omega, fun e he => by
    have := szEns_mem s.en.l e he
    exact ⟨by omega, by omega⟩, h.bk.of_szL (by omega)⟩
theorem LtRd.small {n : Nat} {w : World} {s : LLt} (h : LtRd n w s) : LtSmall n s.d :=
  ⟨h.enl, h.ent, by show (s.bk.sf.l.map Wr.wk).length ≤ n; rw [List.length_map]; exact h.bk.sfl, wks_small h.bk.sft, h.bk.lal, h.bk.lat⟩
theorem LtIn.lk {w : World} {s : LLt} (h : LtIn 1048576 w s) : LtLk w s :=
  have hm : 1048576 ≤ maxLen := by decide
  ⟨h.en.en, Nat.le_trans h.en.len hm, ⟨h.bk.sf, Nat.le_trans h.bk.sfl hm, fun r hr => ⟨Nat.le_trans (h.bk.sft r hr).1 hm, Nat.le_trans (h.bk.sft r hr).2.1 hm, fun c hc => Nat.le_trans ((h.bk.sft r hr).2.2 c hc) hm⟩, h.bk.la, Nat.le_trans h.bk.lal hm⟩⟩
theorem ltsz_left {n : Int} {k : Nat} (h : n < k) : leftOf n k = -1 := by unfold leftOf; exact if_neg (by omega)
theorem ltsz_fits {n : Int} {k : Nat} (h : ¬ n < k) : leftOf n k = n - k := by unfold leftOf; exact if_pos (by omega)
end Go.Proofs.YtdoeiphnalbinaaGreat
namespace Go.Proofs.YtdoeiphnalbinaaGreat
open Go.RowKit
set_option maxRecDepth 20000
set_option maxHeartbeats 2000000 in
theorem partIndex_any (s o : LLt) (w0 w : World) (G : Nat) (hs : List (Nat × Array Value)) (ls : List Nat) (hm : Mem w0 ((G, ltA o) :: hs) ls w) (hl : G ∈ ls) (hG : w0.heap.size ≤ G) (hn : ∀ p ∈ hs, p.1 ≠ G) :
    Calls Tryz.prog 46 #[ltV s, .pointer (some ⟨G, 0, none⟩)] w fun e w' => e = .returned (.tuple #[]) ∧ Mem w0 ((G, ltA { o with index := s.index }) :: hs) ls w' := by
  have h0 := holds_new w (ltA s) 37
  have hm1 := hm.alloc (.cells (ltA s) 37)
  obtain ⟨k0, k1, k2, k3, k4, k5, k6, k7, k8, k9, k10⟩ := h0.at11
  obtain ⟨q0, q1, q2, q3, q4, q5, q6, q7, q8, q9, q10⟩ := (hm1.get G (ltA o) (by simp)).at11
  obtain ⟨z0, z1, z2, z3, z4, z5, z6, z7, z8, z9, z10⟩ := (hm1.loose G hl).fz11
  have hlt := (hm1.get G (ltA o) (by simp)).1
  have hlw := (hm.get G (ltA o) (by simp)).1
  obtain ⟨p0, p1, p2, p3, p4, p5, p6, p7, p8, p9, p10⟩ := (hm.get G (ltA o) (by simp)).at11
  obtain ⟨y0, y1, y2, y3, y4, y5, y6, y7, y8, y9, y10⟩ := (hm.loose G hl).fz11
  have HM := Lib.hid (show Mem w0 ((G, ltA { o with index := s.index }) :: hs) ls _ from by simpa using ((hm.put hG hn 4 (.int .i64 s.index))).alloc (.cells (ltA s) 37))
  clear hm hm1 hn h0
  go_enter Tryz.func46, Tryz.ntmps46
  go_wp2
  refine bodyPost_end (results_none rfl _ _ _) rfl ⟨rfl, HM.out⟩
set_option maxHeartbeats 2000000 in
theorem partMark_any (s o : LLt) (w0 w : World) (G : Nat) (hs : List (Nat × Array Value)) (ls : List Nat) (hm : Mem w0 ((G, ltA o) :: hs) ls w) (hl : G ∈ ls) (hG : w0.heap.size ≤ G) (hn : ∀ p ∈ hs, p.1 ≠ G) :
    Calls Tryz.prog 47 #[ltV s, .pointer (some ⟨G, 0, none⟩)] w fun e w' => e = .returned (.tuple #[]) ∧ Mem w0 ((G, ltA { o with mark := s.mark }) :: hs) ls w' := by
  have h0 := holds_new w (ltA s) 37
  have hm1 := hm.alloc (.cells (ltA s) 37)
  obtain ⟨k0, k1, k2, k3, k4, k5, k6, k7, k8, k9, k10⟩ := h0.at11
  obtain ⟨q0, q1, q2, q3, q4, q5, q6, q7, q8, q9, q10⟩ := (hm1.get G (ltA o) (by simp)).at11
  obtain ⟨z0, z1, z2, z3, z4, z5, z6, z7, z8, z9, z10⟩ := (hm1.loose G hl).fz11
  have hlt := (hm1.get G (ltA o) (by simp)).1
  have hlw := (hm.get G (ltA o) (by simp)).1
  obtain ⟨p0, p1, p2, p3, p4, p5, p6, p7, p8, p9, p10⟩ := (hm.get G (ltA o) (by simp)).at11
  obtain ⟨y0, y1, y2, y3, y4, y5, y6, y7, y8, y9, y10⟩ := (hm.loose G hl).fz11
  have HM := Lib.hid (show Mem w0 ((G, ltA { o with mark := s.mark }) :: hs) ls _ from by simpa using ((hm.put hG hn 5 (.int .i64 s.mark))).alloc (.cells (ltA s) 37))
  clear hm hm1 hn h0
  go_enter Tryz.func47, Tryz.ntmps47
  go_wp2
  refine bodyPost_end (results_none rfl _ _ _) rfl ⟨rfl, HM.out⟩
set_option maxHeartbeats 2000000 in
theorem partList_any (s o : LLt) (w0 w : World) (G : Nat) (hs : List (Nat × Array Value)) (ls : List Nat) (hm : Mem w0 ((G, ltA o) :: hs) ls w) (hl : G ∈ ls) (hG : w0.heap.size ≤ G) (hn : ∀ p ∈ hs, p.1 ≠ G) :
    Calls Tryz.prog 49 #[ltV s, .pointer (some ⟨G, 0, none⟩)] w fun e w' => e = .returned (.tuple #[]) ∧ Mem w0 ((G, ltA { o with en := s.en }) :: hs) ls w' := by
  have h0 := holds_new w (ltA s) 37
  have hm1 := hm.alloc (.cells (ltA s) 37)
  obtain ⟨k0, k1, k2, k3, k4, k5, k6, k7, k8, k9, k10⟩ := h0.at11
  obtain ⟨q0, q1, q2, q3, q4, q5, q6, q7, q8, q9, q10⟩ := (hm1.get G (ltA o) (by simp)).at11
  obtain ⟨z0, z1, z2, z3, z4, z5, z6, z7, z8, z9, z10⟩ := (hm1.loose G hl).fz11
  have hlt := (hm1.get G (ltA o) (by simp)).1
  have hlw := (hm.get G (ltA o) (by simp)).1
  obtain ⟨p0, p1, p2, p3, p4, p5, p6, p7, p8, p9, p10⟩ := (hm.get G (ltA o) (by simp)).at11
  obtain ⟨y0, y1, y2, y3, y4, y5, y6, y7, y8, y9, y10⟩ := (hm.loose G hl).fz11
  have HM := Lib.hid (show Mem w0 ((G, ltA { o with en := s.en }) :: hs) ls _ from by simpa using ((hm.put hG hn 6 s.en.v)).alloc (.cells (ltA s) 37))
  clear hm hm1 hn h0
  go_enter Tryz.func49, Tryz.ntmps49
  go_wp2
  refine bodyPost_end (results_none rfl _ _ _) rfl ⟨rfl, HM.out⟩
set_option maxHeartbeats 2000000 in
theorem partCommit_any (s o : LLt) (w0 w : World) (G : Nat) (hs : List (Nat × Array Value)) (ls : List Nat) (hm : Mem w0 ((G, ltA o) :: hs) ls w) (hl : G ∈ ls) (hG : w0.heap.size ≤ G) (hn : ∀ p ∈ hs, p.1 ≠ G) :
    Calls Tryz.prog 50 #[ltV s, .pointer (some ⟨G, 0, none⟩)] w fun e w' => e = .returned (.tuple #[]) ∧ Mem w0 ((G, ltA { o with commit := s.commit }) :: hs) ls w' := by
  have h0 := holds_new w (ltA s) 37
  have hm1 := hm.alloc (.cells (ltA s) 37)
  obtain ⟨k0, k1, k2, k3, k4, k5, k6, k7, k8, k9, k10⟩ := h0.at11
  obtain ⟨q0, q1, q2, q3, q4, q5, q6, q7, q8, q9, q10⟩ := (hm1.get G (ltA o) (by simp)).at11
  obtain ⟨z0, z1, z2, z3, z4, z5, z6, z7, z8, z9, z10⟩ := (hm1.loose G hl).fz11
  have hlt := (hm1.get G (ltA o) (by simp)).1
  have hlw := (hm.get G (ltA o) (by simp)).1
  obtain ⟨p0, p1, p2, p3, p4, p5, p6, p7, p8, p9, p10⟩ := (hm.get G (ltA o) (by simp)).at11
  obtain ⟨y0, y1, y2, y3, y4, y5, y6, y7, y8, y9, y10⟩ := (hm.loose G hl).fz11
  have HM := Lib.hid (show Mem w0 ((G, ltA { o with commit := s.commit }) :: hs) ls _ from by simpa using ((hm.put hG hn 7 (.int .i64 s.commit))).alloc (.cells (ltA s) 37))
  clear hm hm1 hn h0
  go_enter Tryz.func50, Tryz.ntmps50
  go_wp2
  refine bodyPost_end (results_none rfl _ _ _) rfl ⟨rfl, HM.out⟩
set_option maxHeartbeats 2000000 in
theorem partYes_any (s o : LLt) (w0 w : World) (G : Nat) (hs : List (Nat × Array Value)) (ls : List Nat) (hm : Mem w0 ((G, ltA o) :: hs) ls w) (hl : G ∈ ls) (hG : w0.heap.size ≤ G) (hn : ∀ p ∈ hs, p.1 ≠ G) :
    Calls Tryz.prog 48 #[ltV s, .pointer (some ⟨G, 0, none⟩)] w fun e w' => e = .returned (.tuple #[]) ∧ Mem w0 ((G, ltA { o with yes := s.yes }) :: hs) ls w' := by
  have h0 := holds_new w (ltA s) 37
  have hm1 := hm.alloc (.cells (ltA s) 37)
  obtain ⟨k0, k1, k2, k3, k4, k5, k6, k7, k8, k9, k10⟩ := h0.at11
  obtain ⟨q0, q1, q2, q3, q4, q5, q6, q7, q8, q9, q10⟩ := (hm1.get G (ltA o) (by simp)).at11
  obtain ⟨z0, z1, z2, z3, z4, z5, z6, z7, z8, z9, z10⟩ := (hm1.loose G hl).fz11
  have hlt := (hm1.get G (ltA o) (by simp)).1
  have hlw := (hm.get G (ltA o) (by simp)).1
  obtain ⟨p0, p1, p2, p3, p4, p5, p6, p7, p8, p9, p10⟩ := (hm.get G (ltA o) (by simp)).at11
  obtain ⟨y0, y1, y2, y3, y4, y5, y6, y7, y8, y9, y10⟩ := (hm.loose G hl).fz11
  have HM := Lib.hid (show Mem w0 ((G, ltA { o with yes := s.yes }) :: hs) ls _ from by simpa using ((hm.put hG hn 8 (.bool s.yes))).alloc (.cells (ltA s) 37))
  clear hm hm1 hn h0
  go_enter Tryz.func48, Tryz.ntmps48
  go_wp2
  refine bodyPost_end (results_none rfl _ _ _) rfl ⟨rfl, HM.out⟩
set_option maxHeartbeats 2000000 in
theorem partBook_any (s o : LLt) (w0 w : World) (G : Nat) (hs : List (Nat × Array Value)) (ls : List Nat) (hm : Mem w0 ((G, ltA o) :: hs) ls w) (hl : G ∈ ls) (hG : w0.heap.size ≤ G) (hn : ∀ p ∈ hs, p.1 ≠ G) :
    Calls Tryz.prog 51 #[ltV s, .pointer (some ⟨G, 0, none⟩)] w fun e w' => e = .returned (.tuple #[]) ∧ Mem w0 ((G, ltA { o with bk := s.bk }) :: hs) ls w' := by
  have h0 := holds_new w (ltA s) 37
  have hm1 := hm.alloc (.cells (ltA s) 37)
  obtain ⟨k0, k1, k2, k3, k4, k5, k6, k7, k8, k9, k10⟩ := h0.at11
  obtain ⟨q0, q1, q2, q3, q4, q5, q6, q7, q8, q9, q10⟩ := (hm1.get G (ltA o) (by simp)).at11
  obtain ⟨z0, z1, z2, z3, z4, z5, z6, z7, z8, z9, z10⟩ := (hm1.loose G hl).fz11
  have hlt := (hm1.get G (ltA o) (by simp)).1
  have hlw := (hm.get G (ltA o) (by simp)).1
  obtain ⟨p0, p1, p2, p3, p4, p5, p6, p7, p8, p9, p10⟩ := (hm.get G (ltA o) (by simp)).at11
  obtain ⟨y0, y1, y2, y3, y4, y5, y6, y7, y8, y9, y10⟩ := (hm.loose G hl).fz11
  have HM := Lib.hid (show Mem w0 ((G, ltA { o with bk := s.bk }) :: hs) ls _ from by simpa using (((hm.put hG hn 9 s.bk.sf.v).put hG hn 10 s.bk.la.v)).alloc (.cells (ltA s) 37))
  clear hm hm1 hn h0
  go_enter Tryz.func51, Tryz.ntmps51
  go_wp2
  refine bodyPost_end (results_none rfl _ _ _) rfl ⟨rfl, HM.out⟩
end Go.Proofs.YtdoeiphnalbinaaGreat
