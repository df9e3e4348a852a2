/- Proved, in parts: Proved: the laws' own copy of a letter is the same letter in memory of its own, no two lists in one block; nothing that was there is written. Condition: texts and lists of at most a million. -/
import Derived.Test.YtdoeiphnalbinaaGreatPart18
namespace Go.Proofs.YtdoeiphnalbinaaGreat
open Go.RowKit
set_option maxRecDepth 20000

theorem toEnsL (s : Sl M.En) (w : World) (hl : Ens w s.ad s.l) (hlen : s.l.length ≤ 1048576) : Calls Tryz.prog 15 #[s.v] w fun e w' => ∃ t : Sl M.En, e = .returned t.v ∧ Has [enCmp w.heap.size t] w' ∧ t.l = s.l ∧ Below w.heap.size w w' :=
  (entoS_any s.ad s.l s.cap w hl hlen).mono fun _ _ ⟨a, b, c⟩ => ⟨⟨some ⟨w.heap.size, 0, none⟩, s.l.length, s.l⟩, a, Has.one (c := enCmp w.heap.size ⟨some ⟨w.heap.size, 0, none⟩, s.l.length, s.l⟩) b, rfl, c⟩
theorem results_toLetter (s : LLt) (R : Nat) (W : World) (tmps : Array Value) (h2 : tmps.getD 2 undef = .pointer (some ⟨R, 0, none⟩)) (hW : Holds W R (ltA s)) :
    (results Tryz.f6 tmps).run Tryz.prog W = .ok (ltV s) W := by
  obtain ⟨k0, k1, k2, k3, k4, k5, k6, k7, k8, k9, k10⟩ := hW.at11
  simp at h2
  simp [results, Tryz.results6, go_sem, h2, k0, k1, k2, k3, k4, k5, k6, k7, k8, k9, k10]
set_option maxHeartbeats 16000000 in
theorem toLetter_any (s : LLt) (w : World) (hs : LtRd 1048576 w s) :
    Calls Tryz.prog 6 #[ltV s] w (LtRet w s.d) := by
  have HS := Lib.hid hs
  clear hs
  have hm := mem_three w (ltA s) #[.int .i64 0, .int .i64 0, .int .i64 0, .int .i64 0, .int .i64 0, .int .i64 0, .slice none 0 0, .int .i64 0, .bool false, .slice none 0 0, .slice none 0 0] #[.int .i64 0, .int .i64 0, .int .i64 0, .int .i64 0, .int .i64 0, .int .i64 0, .slice none 0 0, .int .i64 0, .bool false, .slice none 0 0, .slice none 0 0] 28 37 37
  have hx0 : (((w.alloc (.cells (ltA s) 28)).alloc (.cells #[.int .i64 0, .int .i64 0, .int .i64 0, .int .i64 0, .int .i64 0, .int .i64 0, .slice none 0 0, .int .i64 0, .bool false, .slice none 0 0, .slice none 0 0] 37)).alloc (.cells #[.int .i64 0, .int .i64 0, .int .i64 0, .int .i64 0, .int .i64 0, .int .i64 0, .slice none 0 0, .int .i64 0, .bool false, .slice none 0 0, .slice none 0 0] 37)).heap.size = w.heap.size + 3 := by simp
  go_enter Tryz.func6, Tryz.ntmps6
  go_upto_region 2 with (fail)
  generalize (((w.alloc (.cells (ltA s) 28)).alloc (.cells #[.int .i64 0, .int .i64 0, .int .i64 0, .int .i64 0, .int .i64 0, .int .i64 0, .slice none 0 0, .int .i64 0, .bool false, .slice none 0 0, .slice none 0 0] 37)).alloc (.cells #[.int .i64 0, .int .i64 0, .int .i64 0, .int .i64 0, .int .i64 0, .int .i64 0, .slice none 0 0, .int .i64 0, .bool false, .slice none 0 0, .slice none 0 0] 37)) = x0 at hm hx0 ⊢
  obtain ⟨p0, p1, p2, p3, p4, p5, p6, p7, p8, p9, p10⟩ := (hm.get w.heap.size (ltA s) (by simp)).at11
  obtain ⟨k0, k1, k2, k3, k4, k5, k6, k7, k8, k9, k10⟩ := (hm.get (w.heap.size + 1 + 1) #[.int .i64 0, .int .i64 0, .int .i64 0, .int .i64 0, .int .i64 0, .int .i64 0, .slice none 0 0, .int .i64 0, .bool false, .slice none 0 0, .slice none 0 0] (by simp)).at11
  obtain ⟨z0, z1, z2, z3, z4, z5, z6, z7, z8, z9, z10⟩ := (hm.loose (w.heap.size + 1 + 1) (by simp)).fz11
  have hlt := (hm.get (w.heap.size + 1 + 1) #[.int .i64 0, .int .i64 0, .int .i64 0, .int .i64 0, .int .i64 0, .int .i64 0, .slice none 0 0, .int .i64 0, .bool false, .slice none 0 0, .slice none 0 0] (by simp)).1
  have HM := Lib.hid hm
  clear hm
  go_upto_region 3 with (fail)
  have hm : Mem w (((w.heap.size + 1 + 1), #[.int .i64 s.kind, .int .i64 0, .int .i64 0, .int .i64 0, .int .i64 0, .int .i64 0, .slice none 0 0, .int .i64 0, .bool false, .slice none 0 0, .slice none 0 0]) :: [(w.heap.size + 1, #[.int .i64 0, .int .i64 0, .int .i64 0, .int .i64 0, .int .i64 0, .int .i64 0, .slice none 0 0, .int .i64 0, .bool false, .slice none 0 0, .slice none 0 0]), (w.heap.size, ltA s)]) [w.heap.size + 1 + 1, w.heap.size + 1, w.heap.size] (x0.setCell ⟨(w.heap.size + 1 + 1), 0, none⟩ (.int .i64 s.kind)) := HM.out.put (by omega) (by simp <;> omega) 0 (.int .i64 s.kind)
  have hq0 : ((x0.setCell ⟨(w.heap.size + 1 + 1), 0, none⟩ (.int .i64 s.kind))).heap.size = x0.heap.size := by simp
  clear k0 k1 k2 k3 k4 k5 k6 k7 k8 k9 k10 z0 z1 z2 z3 z4 z5 z6 z7 z8 z9 z10 p0 p1 p2 p3 p4 p5 p6 p7 p8 p9 p10 hlt HM
  generalize (x0.setCell ⟨(w.heap.size + 1 + 1), 0, none⟩ (.int .i64 s.kind)) = x1 at hm hq0 ⊢
  obtain ⟨p0, p1, p2, p3, p4, p5, p6, p7, p8, p9, p10⟩ := (hm.get w.heap.size (ltA s) (by simp)).at11
  obtain ⟨k0, k1, k2, k3, k4, k5, k6, k7, k8, k9, k10⟩ := (hm.get (w.heap.size + 1 + 1) #[.int .i64 s.kind, .int .i64 0, .int .i64 0, .int .i64 0, .int .i64 0, .int .i64 0, .slice none 0 0, .int .i64 0, .bool false, .slice none 0 0, .slice none 0 0] (by simp)).at11
  obtain ⟨z0, z1, z2, z3, z4, z5, z6, z7, z8, z9, z10⟩ := (hm.loose (w.heap.size + 1 + 1) (by simp)).fz11
  have hlt := (hm.get (w.heap.size + 1 + 1) #[.int .i64 s.kind, .int .i64 0, .int .i64 0, .int .i64 0, .int .i64 0, .int .i64 0, .slice none 0 0, .int .i64 0, .bool false, .slice none 0 0, .slice none 0 0] (by simp)).1
  have HM := Lib.hid hm
  clear hm
  go_upto_region 4 with (fail)
  have hm : Mem w (((w.heap.size + 1 + 1), #[.int .i64 s.kind, .int .i64 s.frm, .int .i64 0, .int .i64 0, .int .i64 0, .int .i64 0, .slice none 0 0, .int .i64 0, .bool false, .slice none 0 0, .slice none 0 0]) :: [(w.heap.size + 1, #[.int .i64 0, .int .i64 0, .int .i64 0, .int .i64 0, .int .i64 0, .int .i64 0, .slice none 0 0, .int .i64 0, .bool false, .slice none 0 0, .slice none 0 0]), (w.heap.size, ltA s)]) [w.heap.size + 1 + 1, w.heap.size + 1, w.heap.size] (x1.setCell ⟨(w.heap.size + 1 + 1), 1, none⟩ (.int .i64 s.frm)) := HM.out.put (by omega) (by simp <;> omega) 1 (.int .i64 s.frm)
  have hq1 : ((x1.setCell ⟨(w.heap.size + 1 + 1), 1, none⟩ (.int .i64 s.frm))).heap.size = x1.heap.size := by simp
  clear k0 k1 k2 k3 k4 k5 k6 k7 k8 k9 k10 z0 z1 z2 z3 z4 z5 z6 z7 z8 z9 z10 p0 p1 p2 p3 p4 p5 p6 p7 p8 p9 p10 hlt HM
  generalize (x1.setCell ⟨(w.heap.size + 1 + 1), 1, none⟩ (.int .i64 s.frm)) = x2 at hm hq1 ⊢
  obtain ⟨p0, p1, p2, p3, p4, p5, p6, p7, p8, p9, p10⟩ := (hm.get w.heap.size (ltA s) (by simp)).at11
  obtain ⟨k0, k1, k2, k3, k4, k5, k6, k7, k8, k9, k10⟩ := (hm.get (w.heap.size + 1 + 1) #[.int .i64 s.kind, .int .i64 s.frm, .int .i64 0, .int .i64 0, .int .i64 0, .int .i64 0, .slice none 0 0, .int .i64 0, .bool false, .slice none 0 0, .slice none 0 0] (by simp)).at11
  obtain ⟨z0, z1, z2, z3, z4, z5, z6, z7, z8, z9, z10⟩ := (hm.loose (w.heap.size + 1 + 1) (by simp)).fz11
  have hlt := (hm.get (w.heap.size + 1 + 1) #[.int .i64 s.kind, .int .i64 s.frm, .int .i64 0, .int .i64 0, .int .i64 0, .int .i64 0, .slice none 0 0, .int .i64 0, .bool false, .slice none 0 0, .slice none 0 0] (by simp)).1
  have HM := Lib.hid hm
  clear hm
  go_upto_region 5 with (fail)
  have hm : Mem w (((w.heap.size + 1 + 1), #[.int .i64 s.kind, .int .i64 s.frm, .int .i64 s.dst, .int .i64 0, .int .i64 0, .int .i64 0, .slice none 0 0, .int .i64 0, .bool false, .slice none 0 0, .slice none 0 0]) :: [(w.heap.size + 1, #[.int .i64 0, .int .i64 0, .int .i64 0, .int .i64 0, .int .i64 0, .int .i64 0, .slice none 0 0, .int .i64 0, .bool false, .slice none 0 0, .slice none 0 0]), (w.heap.size, ltA s)]) [w.heap.size + 1 + 1, w.heap.size + 1, w.heap.size] (x2.setCell ⟨(w.heap.size + 1 + 1), 2, none⟩ (.int .i64 s.dst)) := HM.out.put (by omega) (by simp <;> omega) 2 (.int .i64 s.dst)
  have hq2 : ((x2.setCell ⟨(w.heap.size + 1 + 1), 2, none⟩ (.int .i64 s.dst))).heap.size = x2.heap.size := by simp
  clear k0 k1 k2 k3 k4 k5 k6 k7 k8 k9 k10 z0 z1 z2 z3 z4 z5 z6 z7 z8 z9 z10 p0 p1 p2 p3 p4 p5 p6 p7 p8 p9 p10 hlt HM
  generalize (x2.setCell ⟨(w.heap.size + 1 + 1), 2, none⟩ (.int .i64 s.dst)) = x3 at hm hq2 ⊢
  obtain ⟨p0, p1, p2, p3, p4, p5, p6, p7, p8, p9, p10⟩ := (hm.get w.heap.size (ltA s) (by simp)).at11
  obtain ⟨k0, k1, k2, k3, k4, k5, k6, k7, k8, k9, k10⟩ := (hm.get (w.heap.size + 1 + 1) #[.int .i64 s.kind, .int .i64 s.frm, .int .i64 s.dst, .int .i64 0, .int .i64 0, .int .i64 0, .slice none 0 0, .int .i64 0, .bool false, .slice none 0 0, .slice none 0 0] (by simp)).at11
  obtain ⟨z0, z1, z2, z3, z4, z5, z6, z7, z8, z9, z10⟩ := (hm.loose (w.heap.size + 1 + 1) (by simp)).fz11
  have hlt := (hm.get (w.heap.size + 1 + 1) #[.int .i64 s.kind, .int .i64 s.frm, .int .i64 s.dst, .int .i64 0, .int .i64 0, .int .i64 0, .slice none 0 0, .int .i64 0, .bool false, .slice none 0 0, .slice none 0 0] (by simp)).1
  have HM := Lib.hid hm
  clear hm
  go_upto_region 6 with (fail)
  have hm : Mem w (((w.heap.size + 1 + 1), #[.int .i64 s.kind, .int .i64 s.frm, .int .i64 s.dst, .int .i64 s.reign, .int .i64 0, .int .i64 0, .slice none 0 0, .int .i64 0, .bool false, .slice none 0 0, .slice none 0 0]) :: [(w.heap.size + 1, #[.int .i64 0, .int .i64 0, .int .i64 0, .int .i64 0, .int .i64 0, .int .i64 0, .slice none 0 0, .int .i64 0, .bool false, .slice none 0 0, .slice none 0 0]), (w.heap.size, ltA s)]) [w.heap.size + 1 + 1, w.heap.size + 1, w.heap.size] (x3.setCell ⟨(w.heap.size + 1 + 1), 3, none⟩ (.int .i64 s.reign)) := HM.out.put (by omega) (by simp <;> omega) 3 (.int .i64 s.reign)
  have hq3 : ((x3.setCell ⟨(w.heap.size + 1 + 1), 3, none⟩ (.int .i64 s.reign))).heap.size = x3.heap.size := by simp
  clear k0 k1 k2 k3 k4 k5 k6 k7 k8 k9 k10 z0 z1 z2 z3 z4 z5 z6 z7 z8 z9 z10 p0 p1 p2 p3 p4 p5 p6 p7 p8 p9 p10 hlt HM
  generalize (x3.setCell ⟨(w.heap.size + 1 + 1), 3, none⟩ (.int .i64 s.reign)) = x4 at hm hq3 ⊢
  obtain ⟨p0, p1, p2, p3, p4, p5, p6, p7, p8, p9, p10⟩ := (hm.get w.heap.size (ltA s) (by simp)).at11
  obtain ⟨k0, k1, k2, k3, k4, k5, k6, k7, k8, k9, k10⟩ := (hm.get (w.heap.size + 1 + 1) #[.int .i64 s.kind, .int .i64 s.frm, .int .i64 s.dst, .int .i64 s.reign, .int .i64 0, .int .i64 0, .slice none 0 0, .int .i64 0, .bool false, .slice none 0 0, .slice none 0 0] (by simp)).at11
  obtain ⟨z0, z1, z2, z3, z4, z5, z6, z7, z8, z9, z10⟩ := (hm.loose (w.heap.size + 1 + 1) (by simp)).fz11
  have hlt := (hm.get (w.heap.size + 1 + 1) #[.int .i64 s.kind, .int .i64 s.frm, .int .i64 s.dst, .int .i64 s.reign, .int .i64 0, .int .i64 0, .slice none 0 0, .int .i64 0, .bool false, .slice none 0 0, .slice none 0 0] (by simp)).1
  have HM := Lib.hid hm
  clear hm
  go_upto_region 7 with (fail)
  have hm : Mem w (((w.heap.size + 1 + 1), #[.int .i64 s.kind, .int .i64 s.frm, .int .i64 s.dst, .int .i64 s.reign, .int .i64 s.index, .int .i64 0, .slice none 0 0, .int .i64 0, .bool false, .slice none 0 0, .slice none 0 0]) :: [(w.heap.size + 1, #[.int .i64 0, .int .i64 0, .int .i64 0, .int .i64 0, .int .i64 0, .int .i64 0, .slice none 0 0, .int .i64 0, .bool false, .slice none 0 0, .slice none 0 0]), (w.heap.size, ltA s)]) [w.heap.size + 1 + 1, w.heap.size + 1, w.heap.size] (x4.setCell ⟨(w.heap.size + 1 + 1), 4, none⟩ (.int .i64 s.index)) := HM.out.put (by omega) (by simp <;> omega) 4 (.int .i64 s.index)
  have hq4 : ((x4.setCell ⟨(w.heap.size + 1 + 1), 4, none⟩ (.int .i64 s.index))).heap.size = x4.heap.size := by simp
  clear k0 k1 k2 k3 k4 k5 k6 k7 k8 k9 k10 z0 z1 z2 z3 z4 z5 z6 z7 z8 z9 z10 p0 p1 p2 p3 p4 p5 p6 p7 p8 p9 p10 hlt HM
  generalize (x4.setCell ⟨(w.heap.size + 1 + 1), 4, none⟩ (.int .i64 s.index)) = x5 at hm hq4 ⊢
  obtain ⟨p0, p1, p2, p3, p4, p5, p6, p7, p8, p9, p10⟩ := (hm.get w.heap.size (ltA s) (by simp)).at11
  obtain ⟨k0, k1, k2, k3, k4, k5, k6, k7, k8, k9, k10⟩ := (hm.get (w.heap.size + 1 + 1) #[.int .i64 s.kind, .int .i64 s.frm, .int .i64 s.dst, .int .i64 s.reign, .int .i64 s.index, .int .i64 0, .slice none 0 0, .int .i64 0, .bool false, .slice none 0 0, .slice none 0 0] (by simp)).at11
  obtain ⟨z0, z1, z2, z3, z4, z5, z6, z7, z8, z9, z10⟩ := (hm.loose (w.heap.size + 1 + 1) (by simp)).fz11
  have hlt := (hm.get (w.heap.size + 1 + 1) #[.int .i64 s.kind, .int .i64 s.frm, .int .i64 s.dst, .int .i64 s.reign, .int .i64 s.index, .int .i64 0, .slice none 0 0, .int .i64 0, .bool false, .slice none 0 0, .slice none 0 0] (by simp)).1
  have HM := Lib.hid hm
  clear hm
  go_upto_region 8 with (fail)
  have hm : Mem w (((w.heap.size + 1 + 1), #[.int .i64 s.kind, .int .i64 s.frm, .int .i64 s.dst, .int .i64 s.reign, .int .i64 s.index, .int .i64 s.mark, .slice none 0 0, .int .i64 0, .bool false, .slice none 0 0, .slice none 0 0]) :: [(w.heap.size + 1, #[.int .i64 0, .int .i64 0, .int .i64 0, .int .i64 0, .int .i64 0, .int .i64 0, .slice none 0 0, .int .i64 0, .bool false, .slice none 0 0, .slice none 0 0]), (w.heap.size, ltA s)]) [w.heap.size + 1 + 1, w.heap.size + 1, w.heap.size] (x5.setCell ⟨(w.heap.size + 1 + 1), 5, none⟩ (.int .i64 s.mark)) := HM.out.put (by omega) (by simp <;> omega) 5 (.int .i64 s.mark)
  have hq5 : ((x5.setCell ⟨(w.heap.size + 1 + 1), 5, none⟩ (.int .i64 s.mark))).heap.size = x5.heap.size := by simp
  clear k0 k1 k2 k3 k4 k5 k6 k7 k8 k9 k10 z0 z1 z2 z3 z4 z5 z6 z7 z8 z9 z10 p0 p1 p2 p3 p4 p5 p6 p7 p8 p9 p10 hlt HM
  generalize (x5.setCell ⟨(w.heap.size + 1 + 1), 5, none⟩ (.int .i64 s.mark)) = x6 at hm hq5 ⊢
  obtain ⟨p0, p1, p2, p3, p4, p5, p6, p7, p8, p9, p10⟩ := (hm.get w.heap.size (ltA s) (by simp)).at11
  have HM := Lib.hid hm
  clear hm
  go_wp2_with fail
  have hm := HM.out
  clear HM p0 p1 p2 p3 p4 p5 p6 p7 p8 p9 p10
  refine (toEnsL s.en _ (HS.out.en.below hm.1) HS.out.enl).mono ?_
  rintro r y6 ⟨en1, rfl, o1, d1, b1⟩
  have hs6 := b1.size
  replace hm := hm.below b1
  have HO := Lib.hid (Has.le (ds := [enCmp (w.heap.size + 3) en1]) o1 ⟨en_le (by omega) _, trivial⟩)
  have HD6 := Lib.hid d1
  clear o1 d1 b1
  obtain ⟨k0, k1, k2, k3, k4, k5, k6, k7, k8, k9, k10⟩ := (hm.get (w.heap.size + 1 + 1) #[.int .i64 s.kind, .int .i64 s.frm, .int .i64 s.dst, .int .i64 s.reign, .int .i64 s.index, .int .i64 s.mark, .slice none 0 0, .int .i64 0, .bool false, .slice none 0 0, .slice none 0 0] (by simp)).at11
  obtain ⟨z0, z1, z2, z3, z4, z5, z6, z7, z8, z9, z10⟩ := (hm.loose (w.heap.size + 1 + 1) (by simp)).fz11
  have hlt := (hm.get (w.heap.size + 1 + 1) #[.int .i64 s.kind, .int .i64 s.frm, .int .i64 s.dst, .int .i64 s.reign, .int .i64 s.index, .int .i64 s.mark, .slice none 0 0, .int .i64 0, .bool false, .slice none 0 0, .slice none 0 0] (by simp)).1
  have HM := Lib.hid hm
  clear hm
  go_upto_region 9 with (fail)
  have hm : Mem w (((w.heap.size + 1 + 1), #[.int .i64 s.kind, .int .i64 s.frm, .int .i64 s.dst, .int .i64 s.reign, .int .i64 s.index, .int .i64 s.mark, en1.v, .int .i64 0, .bool false, .slice none 0 0, .slice none 0 0]) :: [(w.heap.size + 1, #[.int .i64 0, .int .i64 0, .int .i64 0, .int .i64 0, .int .i64 0, .int .i64 0, .slice none 0 0, .int .i64 0, .bool false, .slice none 0 0, .slice none 0 0]), (w.heap.size, ltA s)]) [w.heap.size + 1 + 1, w.heap.size + 1, w.heap.size] (y6.setCell ⟨(w.heap.size + 1 + 1), 6, none⟩ (en1.v)) := (HM.out.put (by omega) (by simp <;> omega) 6 (en1.v))
  have HO2 := Lib.hid (HO.out.set1 (g := (w.heap.size + 1 + 1)) (B := (w.heap.size + 3)) (from_en (w.heap.size + 3) _) (by omega) 6 (en1.v))
  have hq6 : ((y6.setCell ⟨(w.heap.size + 1 + 1), 6, none⟩ (en1.v))).heap.size = y6.heap.size := by simp
  clear k0 k1 k2 k3 k4 k5 k6 k7 k8 k9 k10 z0 z1 z2 z3 z4 z5 z6 z7 z8 z9 z10 hlt HM HO
  have HO := HO2
  clear HO2
  generalize (y6.setCell ⟨(w.heap.size + 1 + 1), 6, none⟩ (en1.v)) = x7 at hm HO hq6 ⊢
  obtain ⟨p0, p1, p2, p3, p4, p5, p6, p7, p8, p9, p10⟩ := (hm.get w.heap.size (ltA s) (by simp)).at11
  obtain ⟨k0, k1, k2, k3, k4, k5, k6, k7, k8, k9, k10⟩ := (hm.get (w.heap.size + 1 + 1) #[.int .i64 s.kind, .int .i64 s.frm, .int .i64 s.dst, .int .i64 s.reign, .int .i64 s.index, .int .i64 s.mark, en1.v, .int .i64 0, .bool false, .slice none 0 0, .slice none 0 0] (by simp)).at11
  obtain ⟨z0, z1, z2, z3, z4, z5, z6, z7, z8, z9, z10⟩ := (hm.loose (w.heap.size + 1 + 1) (by simp)).fz11
  have hlt := (hm.get (w.heap.size + 1 + 1) #[.int .i64 s.kind, .int .i64 s.frm, .int .i64 s.dst, .int .i64 s.reign, .int .i64 s.index, .int .i64 s.mark, en1.v, .int .i64 0, .bool false, .slice none 0 0, .slice none 0 0] (by simp)).1
  have HM := Lib.hid hm
  clear hm
  go_upto_region 10 with (fail)
  have hm : Mem w (((w.heap.size + 1 + 1), #[.int .i64 s.kind, .int .i64 s.frm, .int .i64 s.dst, .int .i64 s.reign, .int .i64 s.index, .int .i64 s.mark, en1.v, .int .i64 s.commit, .bool false, .slice none 0 0, .slice none 0 0]) :: [(w.heap.size + 1, #[.int .i64 0, .int .i64 0, .int .i64 0, .int .i64 0, .int .i64 0, .int .i64 0, .slice none 0 0, .int .i64 0, .bool false, .slice none 0 0, .slice none 0 0]), (w.heap.size, ltA s)]) [w.heap.size + 1 + 1, w.heap.size + 1, w.heap.size] (x7.setCell ⟨(w.heap.size + 1 + 1), 7, none⟩ (.int .i64 s.commit)) := HM.out.put (by omega) (by simp <;> omega) 7 (.int .i64 s.commit)
  have HO2 := Lib.hid (HO.out.set1 (g := (w.heap.size + 1 + 1)) (B := (w.heap.size + 3)) (from_en (w.heap.size + 3) _) (by omega) 7 (.int .i64 s.commit))
  have hq7 : ((x7.setCell ⟨(w.heap.size + 1 + 1), 7, none⟩ (.int .i64 s.commit))).heap.size = x7.heap.size := by simp
  clear k0 k1 k2 k3 k4 k5 k6 k7 k8 k9 k10 z0 z1 z2 z3 z4 z5 z6 z7 z8 z9 z10 p0 p1 p2 p3 p4 p5 p6 p7 p8 p9 p10 hlt HM HO
  have HO := HO2
  clear HO2
  generalize (x7.setCell ⟨(w.heap.size + 1 + 1), 7, none⟩ (.int .i64 s.commit)) = x8 at hm HO hq7 ⊢
  obtain ⟨p0, p1, p2, p3, p4, p5, p6, p7, p8, p9, p10⟩ := (hm.get w.heap.size (ltA s) (by simp)).at11
  obtain ⟨k0, k1, k2, k3, k4, k5, k6, k7, k8, k9, k10⟩ := (hm.get (w.heap.size + 1 + 1) #[.int .i64 s.kind, .int .i64 s.frm, .int .i64 s.dst, .int .i64 s.reign, .int .i64 s.index, .int .i64 s.mark, en1.v, .int .i64 s.commit, .bool false, .slice none 0 0, .slice none 0 0] (by simp)).at11
  obtain ⟨z0, z1, z2, z3, z4, z5, z6, z7, z8, z9, z10⟩ := (hm.loose (w.heap.size + 1 + 1) (by simp)).fz11
  have hlt := (hm.get (w.heap.size + 1 + 1) #[.int .i64 s.kind, .int .i64 s.frm, .int .i64 s.dst, .int .i64 s.reign, .int .i64 s.index, .int .i64 s.mark, en1.v, .int .i64 s.commit, .bool false, .slice none 0 0, .slice none 0 0] (by simp)).1
  have HM := Lib.hid hm
  clear hm
  go_upto_region 11 with (fail)
  have hm : Mem w (((w.heap.size + 1 + 1), #[.int .i64 s.kind, .int .i64 s.frm, .int .i64 s.dst, .int .i64 s.reign, .int .i64 s.index, .int .i64 s.mark, en1.v, .int .i64 s.commit, .bool s.yes, .slice none 0 0, .slice none 0 0]) :: [(w.heap.size + 1, #[.int .i64 0, .int .i64 0, .int .i64 0, .int .i64 0, .int .i64 0, .int .i64 0, .slice none 0 0, .int .i64 0, .bool false, .slice none 0 0, .slice none 0 0]), (w.heap.size, ltA s)]) [w.heap.size + 1 + 1, w.heap.size + 1, w.heap.size] (x8.setCell ⟨(w.heap.size + 1 + 1), 8, none⟩ (.bool s.yes)) := HM.out.put (by omega) (by simp <;> omega) 8 (.bool s.yes)
  have HO2 := Lib.hid (HO.out.set1 (g := (w.heap.size + 1 + 1)) (B := (w.heap.size + 3)) (from_en (w.heap.size + 3) _) (by omega) 8 (.bool s.yes))
  have hq8 : ((x8.setCell ⟨(w.heap.size + 1 + 1), 8, none⟩ (.bool s.yes))).heap.size = x8.heap.size := by simp
  clear k0 k1 k2 k3 k4 k5 k6 k7 k8 k9 k10 z0 z1 z2 z3 z4 z5 z6 z7 z8 z9 z10 p0 p1 p2 p3 p4 p5 p6 p7 p8 p9 p10 hlt HM HO
  have HO := HO2
  clear HO2
  generalize (x8.setCell ⟨(w.heap.size + 1 + 1), 8, none⟩ (.bool s.yes)) = x9 at hm HO hq8 ⊢
  obtain ⟨p0, p1, p2, p3, p4, p5, p6, p7, p8, p9, p10⟩ := (hm.get w.heap.size (ltA s) (by simp)).at11
  have HM := Lib.hid hm
  clear hm
  go_wp2_with fail
  have hm := HM.out
  clear HM p0 p1 p2 p3 p4 p5 p6 p7 p8 p9 p10
  refine (toBookL s.bk _ (HS.out.bk.below hm.1)).mono ?_
  rintro r y9 ⟨bk1, rfl, o1, d1, b1⟩
  have hs9 := b1.size
  replace hm := hm.below b1
  replace HO := Lib.hid (HO.out.join b1 o1 ((from_bk x9.heap.size _)) (show Les _ (bkCs (w.heap.size + 3) bk1) from (bk_le (by omega) _)))
  have HD9 := Lib.hid d1
  clear o1 d1 b1
  obtain ⟨k0, k1, k2, k3, k4, k5, k6, k7, k8, k9, k10⟩ := (hm.get (w.heap.size + 1 + 1) #[.int .i64 s.kind, .int .i64 s.frm, .int .i64 s.dst, .int .i64 s.reign, .int .i64 s.index, .int .i64 s.mark, en1.v, .int .i64 s.commit, .bool s.yes, .slice none 0 0, .slice none 0 0] (by simp)).at11
  obtain ⟨z0, z1, z2, z3, z4, z5, z6, z7, z8, z9, z10⟩ := (hm.loose (w.heap.size + 1 + 1) (by simp)).fz11
  have hlt := (hm.get (w.heap.size + 1 + 1) #[.int .i64 s.kind, .int .i64 s.frm, .int .i64 s.dst, .int .i64 s.reign, .int .i64 s.index, .int .i64 s.mark, en1.v, .int .i64 s.commit, .bool s.yes, .slice none 0 0, .slice none 0 0] (by simp)).1
  have HM := Lib.hid hm
  clear hm
  go_upto_region 12 with (fail)
  have hm : Mem w (((w.heap.size + 1 + 1), #[.int .i64 s.kind, .int .i64 s.frm, .int .i64 s.dst, .int .i64 s.reign, .int .i64 s.index, .int .i64 s.mark, en1.v, .int .i64 s.commit, .bool s.yes, bk1.sf.v, bk1.la.v]) :: [(w.heap.size + 1, #[.int .i64 0, .int .i64 0, .int .i64 0, .int .i64 0, .int .i64 0, .int .i64 0, .slice none 0 0, .int .i64 0, .bool false, .slice none 0 0, .slice none 0 0]), (w.heap.size, ltA s)]) [w.heap.size + 1 + 1, w.heap.size + 1, w.heap.size] ((y9.setCell ⟨(w.heap.size + 1 + 1), 9, none⟩ (bk1.sf.v)).setCell ⟨(w.heap.size + 1 + 1), 10, none⟩ (bk1.la.v)) := ((HM.out.put (by omega) (by simp <;> omega) 9 (bk1.sf.v)).put (by omega) (by simp <;> omega) 10 (bk1.la.v))
  have HO2 := Lib.hid (HO.out.set2 (g := (w.heap.size + 1 + 1)) (B := (w.heap.size + 3)) (From.append (from_en (w.heap.size + 3) _) (from_bk (w.heap.size + 3) _)) (by omega) 9 10 (bk1.sf.v) (bk1.la.v))
  have hq9 : (((y9.setCell ⟨(w.heap.size + 1 + 1), 9, none⟩ (bk1.sf.v)).setCell ⟨(w.heap.size + 1 + 1), 10, none⟩ (bk1.la.v))).heap.size = y9.heap.size := by simp
  clear k0 k1 k2 k3 k4 k5 k6 k7 k8 k9 k10 z0 z1 z2 z3 z4 z5 z6 z7 z8 z9 z10 hlt HM HO
  have HO := HO2
  clear HO2
  generalize ((y9.setCell ⟨(w.heap.size + 1 + 1), 9, none⟩ (bk1.sf.v)).setCell ⟨(w.heap.size + 1 + 1), 10, none⟩ (bk1.la.v)) = x10 at hm HO hq9 ⊢
  obtain ⟨k0, k1, k2, k3, k4, k5, k6, k7, k8, k9, k10⟩ := (hm.get (w.heap.size + 1 + 1) #[.int .i64 s.kind, .int .i64 s.frm, .int .i64 s.dst, .int .i64 s.reign, .int .i64 s.index, .int .i64 s.mark, en1.v, .int .i64 s.commit, .bool s.yes, bk1.sf.v, bk1.la.v] (by simp)).at11
  obtain ⟨z0, z1, z2, z3, z4, z5, z6, z7, z8, z9, z10⟩ := (hm.loose (w.heap.size + 1 + 1) (by simp)).fz11
  have hlt := (hm.get (w.heap.size + 1 + 1) #[.int .i64 s.kind, .int .i64 s.frm, .int .i64 s.dst, .int .i64 s.reign, .int .i64 s.index, .int .i64 s.mark, en1.v, .int .i64 s.commit, .bool s.yes, bk1.sf.v, bk1.la.v] (by simp)).1
  obtain ⟨u0, u1, u2, u3, u4, u5, u6, u7, u8, u9, u10⟩ := (hm.get (w.heap.size + 1) #[.int .i64 0, .int .i64 0, .int .i64 0, .int .i64 0, .int .i64 0, .int .i64 0, .slice none 0 0, .int .i64 0, .bool false, .slice none 0 0, .slice none 0 0] (by simp)).at11
  obtain ⟨t0, t1, t2, t3, t4, t5, t6, t7, t8, t9, t10⟩ := (hm.loose (w.heap.size + 1) (by simp)).fz11
  have hlt1 := (hm.get (w.heap.size + 1) #[.int .i64 0, .int .i64 0, .int .i64 0, .int .i64 0, .int .i64 0, .int .i64 0, .slice none 0 0, .int .i64 0, .bool false, .slice none 0 0, .slice none 0 0] (by simp)).1
  have HM := Lib.hid (mem_swap hm)
  clear hm
  go_wp2
  clear k0 k1 k2 k3 k4 k5 k6 k7 k8 k9 k10 z0 z1 z2 z3 z4 z5 z6 z7 z8 z9 z10 u0 u1 u2 u3 u4 u5 u6 u7 u8 u9 u10 t0 t1 t2 t3 t4 t5 t6 t7 t8 t9 t10 hlt hlt1
  have hm : Mem w (((w.heap.size + 1), #[.int .i64 s.kind, .int .i64 s.frm, .int .i64 s.dst, .int .i64 s.reign, .int .i64 s.index, .int .i64 s.mark, en1.v, .int .i64 s.commit, .bool s.yes, bk1.sf.v, bk1.la.v]) :: [((w.heap.size + 1 + 1), #[.int .i64 s.kind, .int .i64 s.frm, .int .i64 s.dst, .int .i64 s.reign, .int .i64 s.index, .int .i64 s.mark, en1.v, .int .i64 s.commit, .bool s.yes, bk1.sf.v, bk1.la.v]), (w.heap.size, ltA s)]) [w.heap.size + 1 + 1, w.heap.size + 1, w.heap.size] (((((((((((x10.setCell ⟨(w.heap.size + 1), 0, none⟩ (.int .i64 s.kind)).setCell ⟨(w.heap.size + 1), 1, none⟩ (.int .i64 s.frm)).setCell ⟨(w.heap.size + 1), 2, none⟩ (.int .i64 s.dst)).setCell ⟨(w.heap.size + 1), 3, none⟩ (.int .i64 s.reign)).setCell ⟨(w.heap.size + 1), 4, none⟩ (.int .i64 s.index)).setCell ⟨(w.heap.size + 1), 5, none⟩ (.int .i64 s.mark)).setCell ⟨(w.heap.size + 1), 6, none⟩ (en1.v)).setCell ⟨(w.heap.size + 1), 7, none⟩ (.int .i64 s.commit)).setCell ⟨(w.heap.size + 1), 8, none⟩ (.bool s.yes)).setCell ⟨(w.heap.size + 1), 9, none⟩ (bk1.sf.v)).setCell ⟨(w.heap.size + 1), 10, none⟩ (bk1.la.v)) := HM.out.put11 (by omega) (by simp <;> omega) (.int .i64 s.kind) (.int .i64 s.frm) (.int .i64 s.dst) (.int .i64 s.reign) (.int .i64 s.index) (.int .i64 s.mark) (en1.v) (.int .i64 s.commit) (.bool s.yes) (bk1.sf.v) (bk1.la.v)
  have HOF := Lib.hid (HO.out.set11 (g := (w.heap.size + 1)) (B := (w.heap.size + 3)) (From.append (from_en (w.heap.size + 3) _) (from_bk (w.heap.size + 3) _)) (by omega) (.int .i64 s.kind) (.int .i64 s.frm) (.int .i64 s.dst) (.int .i64 s.reign) (.int .i64 s.index) (.int .i64 s.mark) (en1.v) (.int .i64 s.commit) (.bool s.yes) (bk1.sf.v) (bk1.la.v))
  have hBW := hm.1
  have hW := hm.get (w.heap.size + 1) #[.int .i64 s.kind, .int .i64 s.frm, .int .i64 s.dst, .int .i64 s.reign, .int .i64 s.index, .int .i64 s.mark, en1.v, .int .i64 s.commit, .bool s.yes, bk1.sf.v, bk1.la.v] (by simp)
  refine bodyPost_ret (results_toLetter ({ s with en := en1, bk := bk1 } : LLt) (w.heap.size + 1) _ _ (by rfl) hW) rfl ?_
  refine ⟨({ s with en := en1, bk := bk1 } : LLt), rfl, ?_, ?_, hBW⟩
  · refine LtOwn.mono (B := w.heap.size + 3) ?_ (by omega)
    exact HOF.out
  · show (⟨s.kind, s.frm, s.dst, s.reign, s.index, s.mark, en1.l, s.commit, s.yes, bk1.d⟩ : M.Lt) = _
    rw [HD6.out, HD9.out]
    rfl
end Go.Proofs.YtdoeiphnalbinaaGreat
