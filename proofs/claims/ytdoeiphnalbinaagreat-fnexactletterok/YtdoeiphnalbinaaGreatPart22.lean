/- Proved, in parts: Proved: the program tells a letter once more with the parts of its kind alone, and every other field zero; nothing that was there is written. No condition. -/
import Derived.Test.YtdoeiphnalbinaaGreatPart21
import Derived.Test.YtdoeiphnalbinaaGreatPart19
namespace Go.Proofs.YtdoeiphnalbinaaGreat
open Go.RowKit
set_option maxRecDepth 20000
/-- A letter's kind, ways and reign alone. -/
abbrev ltZero (s : LLt) : LLt := ⟨s.kind, s.frm, s.dst, s.reign, 0, 0, Sl.none, 0, false, ⟨Sl.none, Sl.none⟩⟩
theorem results_only (s : LLt) (R : Nat) (W : World) (tmps : Array Value) (h2 : tmps.getD 4 undef = .pointer (some ⟨R, 0, none⟩)) (hW : Holds W R (ltA s)) :
    (results Tryz.f77 tmps).run Tryz.prog W = .ok (ltV s) W := by
  obtain ⟨k0, k1, k2, k3, k4, k5, k6, k7, k8, k9, k10⟩ := hW.at11
  simp at h2
  simp [results, Tryz.results77, go_sem, h2, k0, k1, k2, k3, k4, k5, k6, k7, k8, k9, k10]
set_option maxHeartbeats 4000000 in
theorem onlyAsk (s : LLt) (g : Nat) (w : World) (c0 : w.cell? ⟨g, 0, none⟩ = some (.func (.func 46) #[] #[])) (c1 : w.cell? ⟨g, 1, none⟩ = some (.func (.func 47) #[] #[])) (hg : g < w.heap.size) :
    Calls Tryz.prog 77 #[ltV s, .slice (some ⟨g, 0, none⟩) 2 2] w fun e w' => e = .returned (ltV ({ (ltZero s) with index := s.index, mark := s.mark } : LLt)) ∧ Below w.heap.size w w' := by
  have hm := mem_three w (ltA s) #[.int .i64 0, .int .i64 0, .int .i64 0, .int .i64 0, .int .i64 0, .int .i64 0, .slice none 0 0, .int .i64 0, .bool false, .slice none 0 0, .slice none 0 0] (ltA (ltZero s)) 37 37 37
  have HM := Lib.hid hm
  clear hm
  go_enter Tryz.func77, Tryz.ntmps77
  go_upto_region 2 with (fail)
  go_wp2_with fail
  go_loopw [19] (fun i wr => (i = .int .i64 0 ∧ Mem w (((w.heap.size + 1 + 1), ltA (ltZero s)) :: [((w.heap.size + 1), #[.int .i64 0, .int .i64 0, .int .i64 0, .int .i64 0, .int .i64 0, .int .i64 0, .slice none 0 0, .int .i64 0, .bool false, .slice none 0 0, .slice none 0 0]), (w.heap.size, ltA s)]) [(w.heap.size + 1 + 1), (w.heap.size + 1), w.heap.size] wr) ∨ (i = .int .i64 1 ∧ Mem w (((w.heap.size + 1 + 1), ltA ({ (ltZero s) with index := s.index } : LLt)) :: [((w.heap.size + 1), #[.int .i64 0, .int .i64 0, .int .i64 0, .int .i64 0, .int .i64 0, .int .i64 0, .slice none 0 0, .int .i64 0, .bool false, .slice none 0 0, .slice none 0 0]), (w.heap.size, ltA s)]) [(w.heap.size + 1 + 1), (w.heap.size + 1), w.heap.size] wr) ∨ (i = .int .i64 2 ∧ Mem w (((w.heap.size + 1 + 1), ltA ({ (ltZero s) with index := s.index, mark := s.mark } : LLt)) :: [((w.heap.size + 1), #[.int .i64 0, .int .i64 0, .int .i64 0, .int .i64 0, .int .i64 0, .int .i64 0, .slice none 0 0, .int .i64 0, .bool false, .slice none 0 0, .slice none 0 0]), (w.heap.size, ltA s)]) [(w.heap.size + 1 + 1), (w.heap.size + 1), w.heap.size] wr)) (fun i _ => 2 - (intOf i).toNat)
  case atStart => exact .inl ⟨rfl, HM.out⟩
  case round =>
    clear HM
    rcases hrel with ⟨rfl, hm⟩ | ⟨rfl, hm⟩ | ⟨rfl, hm⟩
    · have HM := Lib.hid hm
      have b0 := hm.1
      have d0 := (b0.cell (p := ⟨g, 0, none⟩) hg).trans c0
      obtain ⟨k0, k1, k2, k3, k4, k5, k6, k7, k8, k9, k10⟩ := (hm.get w.heap.size (ltA s) (by simp)).at11
      have hlt := (hm.get w.heap.size (ltA s) (by simp)).1
      have hgx : g < wr.heap.size := Nat.lt_of_lt_of_le hg b0.size
      clear hm b0
      go_wp2_with fail
      refine (partIndex_any s (ltZero s) w _ (w.heap.size + 1 + 1) [((w.heap.size + 1), #[.int .i64 0, .int .i64 0, .int .i64 0, .int .i64 0, .int .i64 0, .int .i64 0, .slice none 0 0, .int .i64 0, .bool false, .slice none 0 0, .slice none 0 0]), (w.heap.size, ltA s)] [(w.heap.size + 1 + 1), (w.heap.size + 1), w.heap.size] HM.out (by simp) (by omega) (by simp <;> omega)).mono ?_
      rintro e w1 ⟨rfl, hM⟩
      go_wp2
      go_roundw
      case rel => exact Or.inr (Or.inl ⟨by go_num, hM⟩)
      case measure => simp [intOf]
    · have HM := Lib.hid hm
      have b0 := hm.1
      have d1 := (b0.cell (p := ⟨g, 1, none⟩) hg).trans c1
      obtain ⟨k0, k1, k2, k3, k4, k5, k6, k7, k8, k9, k10⟩ := (hm.get w.heap.size (ltA s) (by simp)).at11
      have hlt := (hm.get w.heap.size (ltA s) (by simp)).1
      have hgx : g < wr.heap.size := Nat.lt_of_lt_of_le hg b0.size
      clear hm b0
      go_wp2_with fail
      refine (partMark_any s ({ (ltZero s) with index := s.index } : LLt) w _ (w.heap.size + 1 + 1) [((w.heap.size + 1), #[.int .i64 0, .int .i64 0, .int .i64 0, .int .i64 0, .int .i64 0, .int .i64 0, .slice none 0 0, .int .i64 0, .bool false, .slice none 0 0, .slice none 0 0]), (w.heap.size, ltA s)] [(w.heap.size + 1 + 1), (w.heap.size + 1), w.heap.size] HM.out (by simp) (by omega) (by simp <;> omega)).mono ?_
      rintro e w1 ⟨rfl, hM⟩
      go_wp2
      go_roundw
      case rel => exact Or.inr (Or.inr (⟨by go_num, hM⟩))
      case measure => simp [intOf]
    · obtain ⟨q0, q1, q2, q3, q4, q5, q6, q7, q8, q9, q10⟩ := (hm.get (w.heap.size + 1 + 1) (ltA ({ (ltZero s) with index := s.index, mark := s.mark } : LLt)) (by simp)).at11
      have hlq := (hm.get (w.heap.size + 1 + 1) (ltA ({ (ltZero s) with index := s.index, mark := s.mark } : LLt)) (by simp)).1
      obtain ⟨u0, u1, u2, u3, u4, u5, u6, u7, u8, u9, u10⟩ := (hm.get (w.heap.size + 1) #[.int .i64 0, .int .i64 0, .int .i64 0, .int .i64 0, .int .i64 0, .int .i64 0, .slice none 0 0, .int .i64 0, .bool false, .slice none 0 0, .slice none 0 0] (by simp)).at11
      obtain ⟨t0, t1, t2, t3, t4, t5, t6, t7, t8, t9, t10⟩ := (hm.loose (w.heap.size + 1) (by simp)).fz11
      have hlt1 := (hm.get (w.heap.size + 1) #[.int .i64 0, .int .i64 0, .int .i64 0, .int .i64 0, .int .i64 0, .int .i64 0, .slice none 0 0, .int .i64 0, .bool false, .slice none 0 0, .slice none 0 0] (by simp)).1
      have HM := Lib.hid (mem_swap hm)
      clear hm
      go_wp2
      clear q0 q1 q2 q3 q4 q5 q6 q7 q8 q9 q10 u0 u1 u2 u3 u4 u5 u6 u7 u8 u9 u10 t0 t1 t2 t3 t4 t5 t6 t7 t8 t9 t10 hlq hlt1
      have hm : Mem w (((w.heap.size + 1), ltA ({ (ltZero s) with index := s.index, mark := s.mark } : LLt)) :: [((w.heap.size + 1 + 1), ltA ({ (ltZero s) with index := s.index, mark := s.mark } : LLt)), (w.heap.size, ltA s)]) [(w.heap.size + 1 + 1), (w.heap.size + 1), w.heap.size] _ := HM.out.put11 (by omega) (by simp <;> omega) ((ltA ({ (ltZero s) with index := s.index, mark := s.mark } : LLt)).getD 0 undef) ((ltA ({ (ltZero s) with index := s.index, mark := s.mark } : LLt)).getD 1 undef) ((ltA ({ (ltZero s) with index := s.index, mark := s.mark } : LLt)).getD 2 undef) ((ltA ({ (ltZero s) with index := s.index, mark := s.mark } : LLt)).getD 3 undef) ((ltA ({ (ltZero s) with index := s.index, mark := s.mark } : LLt)).getD 4 undef) ((ltA ({ (ltZero s) with index := s.index, mark := s.mark } : LLt)).getD 5 undef) ((ltA ({ (ltZero s) with index := s.index, mark := s.mark } : LLt)).getD 6 undef) ((ltA ({ (ltZero s) with index := s.index, mark := s.mark } : LLt)).getD 7 undef) ((ltA ({ (ltZero s) with index := s.index, mark := s.mark } : LLt)).getD 8 undef) ((ltA ({ (ltZero s) with index := s.index, mark := s.mark } : LLt)).getD 9 undef) ((ltA ({ (ltZero s) with index := s.index, mark := s.mark } : LLt)).getD 10 undef)
      have hBW := hm.1
      have hW := hm.get (w.heap.size + 1) (ltA ({ (ltZero s) with index := s.index, mark := s.mark } : LLt)) (by simp)
      refine bodyPost_ret (results_only ({ (ltZero s) with index := s.index, mark := s.mark } : LLt) (w.heap.size + 1) _ _ (by rfl) hW) rfl ?_
      exact ⟨rfl, hBW⟩
set_option maxHeartbeats 4000000 in
theorem onlyVote (s : LLt) (g : Nat) (w : World) (c0 : w.cell? ⟨g, 0, none⟩ = some (.func (.func 48) #[] #[])) (hg : g < w.heap.size) :
    Calls Tryz.prog 77 #[ltV s, .slice (some ⟨g, 0, none⟩) 1 1] w fun e w' => e = .returned (ltV ({ (ltZero s) with yes := s.yes } : LLt)) ∧ Below w.heap.size w w' := by
  have hm := mem_three w (ltA s) #[.int .i64 0, .int .i64 0, .int .i64 0, .int .i64 0, .int .i64 0, .int .i64 0, .slice none 0 0, .int .i64 0, .bool false, .slice none 0 0, .slice none 0 0] (ltA (ltZero s)) 37 37 37
  have HM := Lib.hid hm
  clear hm
  go_enter Tryz.func77, Tryz.ntmps77
  go_upto_region 2 with (fail)
  go_wp2_with fail
  go_loopw [19] (fun i wr => (i = .int .i64 0 ∧ Mem w (((w.heap.size + 1 + 1), ltA (ltZero s)) :: [((w.heap.size + 1), #[.int .i64 0, .int .i64 0, .int .i64 0, .int .i64 0, .int .i64 0, .int .i64 0, .slice none 0 0, .int .i64 0, .bool false, .slice none 0 0, .slice none 0 0]), (w.heap.size, ltA s)]) [(w.heap.size + 1 + 1), (w.heap.size + 1), w.heap.size] wr) ∨ (i = .int .i64 1 ∧ Mem w (((w.heap.size + 1 + 1), ltA ({ (ltZero s) with yes := s.yes } : LLt)) :: [((w.heap.size + 1), #[.int .i64 0, .int .i64 0, .int .i64 0, .int .i64 0, .int .i64 0, .int .i64 0, .slice none 0 0, .int .i64 0, .bool false, .slice none 0 0, .slice none 0 0]), (w.heap.size, ltA s)]) [(w.heap.size + 1 + 1), (w.heap.size + 1), w.heap.size] wr)) (fun i _ => 1 - (intOf i).toNat)
  case atStart => exact .inl ⟨rfl, HM.out⟩
  case round =>
    clear HM
    rcases hrel with ⟨rfl, hm⟩ | ⟨rfl, hm⟩
    · have HM := Lib.hid hm
      have b0 := hm.1
      have d0 := (b0.cell (p := ⟨g, 0, none⟩) hg).trans c0
      obtain ⟨k0, k1, k2, k3, k4, k5, k6, k7, k8, k9, k10⟩ := (hm.get w.heap.size (ltA s) (by simp)).at11
      have hlt := (hm.get w.heap.size (ltA s) (by simp)).1
      have hgx : g < wr.heap.size := Nat.lt_of_lt_of_le hg b0.size
      clear hm b0
      go_wp2_with fail
      refine (partYes_any s (ltZero s) w _ (w.heap.size + 1 + 1) [((w.heap.size + 1), #[.int .i64 0, .int .i64 0, .int .i64 0, .int .i64 0, .int .i64 0, .int .i64 0, .slice none 0 0, .int .i64 0, .bool false, .slice none 0 0, .slice none 0 0]), (w.heap.size, ltA s)] [(w.heap.size + 1 + 1), (w.heap.size + 1), w.heap.size] HM.out (by simp) (by omega) (by simp <;> omega)).mono ?_
      rintro e w1 ⟨rfl, hM⟩
      go_wp2
      go_roundw
      case rel => exact Or.inr (⟨by go_num, hM⟩)
      case measure => simp [intOf]
    · obtain ⟨q0, q1, q2, q3, q4, q5, q6, q7, q8, q9, q10⟩ := (hm.get (w.heap.size + 1 + 1) (ltA ({ (ltZero s) with yes := s.yes } : LLt)) (by simp)).at11
      have hlq := (hm.get (w.heap.size + 1 + 1) (ltA ({ (ltZero s) with yes := s.yes } : LLt)) (by simp)).1
      obtain ⟨u0, u1, u2, u3, u4, u5, u6, u7, u8, u9, u10⟩ := (hm.get (w.heap.size + 1) #[.int .i64 0, .int .i64 0, .int .i64 0, .int .i64 0, .int .i64 0, .int .i64 0, .slice none 0 0, .int .i64 0, .bool false, .slice none 0 0, .slice none 0 0] (by simp)).at11
      obtain ⟨t0, t1, t2, t3, t4, t5, t6, t7, t8, t9, t10⟩ := (hm.loose (w.heap.size + 1) (by simp)).fz11
      have hlt1 := (hm.get (w.heap.size + 1) #[.int .i64 0, .int .i64 0, .int .i64 0, .int .i64 0, .int .i64 0, .int .i64 0, .slice none 0 0, .int .i64 0, .bool false, .slice none 0 0, .slice none 0 0] (by simp)).1
      have HM := Lib.hid (mem_swap hm)
      clear hm
      go_wp2
      clear q0 q1 q2 q3 q4 q5 q6 q7 q8 q9 q10 u0 u1 u2 u3 u4 u5 u6 u7 u8 u9 u10 t0 t1 t2 t3 t4 t5 t6 t7 t8 t9 t10 hlq hlt1
      have hm : Mem w (((w.heap.size + 1), ltA ({ (ltZero s) with yes := s.yes } : LLt)) :: [((w.heap.size + 1 + 1), ltA ({ (ltZero s) with yes := s.yes } : LLt)), (w.heap.size, ltA s)]) [(w.heap.size + 1 + 1), (w.heap.size + 1), w.heap.size] _ := HM.out.put11 (by omega) (by simp <;> omega) ((ltA ({ (ltZero s) with yes := s.yes } : LLt)).getD 0 undef) ((ltA ({ (ltZero s) with yes := s.yes } : LLt)).getD 1 undef) ((ltA ({ (ltZero s) with yes := s.yes } : LLt)).getD 2 undef) ((ltA ({ (ltZero s) with yes := s.yes } : LLt)).getD 3 undef) ((ltA ({ (ltZero s) with yes := s.yes } : LLt)).getD 4 undef) ((ltA ({ (ltZero s) with yes := s.yes } : LLt)).getD 5 undef) ((ltA ({ (ltZero s) with yes := s.yes } : LLt)).getD 6 undef) ((ltA ({ (ltZero s) with yes := s.yes } : LLt)).getD 7 undef) ((ltA ({ (ltZero s) with yes := s.yes } : LLt)).getD 8 undef) ((ltA ({ (ltZero s) with yes := s.yes } : LLt)).getD 9 undef) ((ltA ({ (ltZero s) with yes := s.yes } : LLt)).getD 10 undef)
      have hBW := hm.1
      have hW := hm.get (w.heap.size + 1) (ltA ({ (ltZero s) with yes := s.yes } : LLt)) (by simp)
      refine bodyPost_ret (results_only ({ (ltZero s) with yes := s.yes } : LLt) (w.heap.size + 1) _ _ (by rfl) hW) rfl ?_
      exact ⟨rfl, hBW⟩
set_option maxHeartbeats 4000000 in
theorem onlyAdd (s : LLt) (g : Nat) (w : World) (c0 : w.cell? ⟨g, 0, none⟩ = some (.func (.func 46) #[] #[])) (c1 : w.cell? ⟨g, 1, none⟩ = some (.func (.func 47) #[] #[])) (c2 : w.cell? ⟨g, 2, none⟩ = some (.func (.func 49) #[] #[])) (c3 : w.cell? ⟨g, 3, none⟩ = some (.func (.func 50) #[] #[])) (hg : g < w.heap.size) :
    Calls Tryz.prog 77 #[ltV s, .slice (some ⟨g, 0, none⟩) 4 4] w fun e w' => e = .returned (ltV ({ (ltZero s) with index := s.index, mark := s.mark, en := s.en, commit := s.commit } : LLt)) ∧ Below w.heap.size w w' := by
  have hm := mem_three w (ltA s) #[.int .i64 0, .int .i64 0, .int .i64 0, .int .i64 0, .int .i64 0, .int .i64 0, .slice none 0 0, .int .i64 0, .bool false, .slice none 0 0, .slice none 0 0] (ltA (ltZero s)) 37 37 37
  have HM := Lib.hid hm
  clear hm
  go_enter Tryz.func77, Tryz.ntmps77
  go_upto_region 2 with (fail)
  go_wp2_with fail
  go_loopw [19] (fun i wr => (i = .int .i64 0 ∧ Mem w (((w.heap.size + 1 + 1), ltA (ltZero s)) :: [((w.heap.size + 1), #[.int .i64 0, .int .i64 0, .int .i64 0, .int .i64 0, .int .i64 0, .int .i64 0, .slice none 0 0, .int .i64 0, .bool false, .slice none 0 0, .slice none 0 0]), (w.heap.size, ltA s)]) [(w.heap.size + 1 + 1), (w.heap.size + 1), w.heap.size] wr) ∨ (i = .int .i64 1 ∧ Mem w (((w.heap.size + 1 + 1), ltA ({ (ltZero s) with index := s.index } : LLt)) :: [((w.heap.size + 1), #[.int .i64 0, .int .i64 0, .int .i64 0, .int .i64 0, .int .i64 0, .int .i64 0, .slice none 0 0, .int .i64 0, .bool false, .slice none 0 0, .slice none 0 0]), (w.heap.size, ltA s)]) [(w.heap.size + 1 + 1), (w.heap.size + 1), w.heap.size] wr) ∨ (i = .int .i64 2 ∧ Mem w (((w.heap.size + 1 + 1), ltA ({ (ltZero s) with index := s.index, mark := s.mark } : LLt)) :: [((w.heap.size + 1), #[.int .i64 0, .int .i64 0, .int .i64 0, .int .i64 0, .int .i64 0, .int .i64 0, .slice none 0 0, .int .i64 0, .bool false, .slice none 0 0, .slice none 0 0]), (w.heap.size, ltA s)]) [(w.heap.size + 1 + 1), (w.heap.size + 1), w.heap.size] wr) ∨ (i = .int .i64 3 ∧ Mem w (((w.heap.size + 1 + 1), ltA ({ (ltZero s) with index := s.index, mark := s.mark, en := s.en } : LLt)) :: [((w.heap.size + 1), #[.int .i64 0, .int .i64 0, .int .i64 0, .int .i64 0, .int .i64 0, .int .i64 0, .slice none 0 0, .int .i64 0, .bool false, .slice none 0 0, .slice none 0 0]), (w.heap.size, ltA s)]) [(w.heap.size + 1 + 1), (w.heap.size + 1), w.heap.size] wr) ∨ (i = .int .i64 4 ∧ Mem w (((w.heap.size + 1 + 1), ltA ({ (ltZero s) with index := s.index, mark := s.mark, en := s.en, commit := s.commit } : LLt)) :: [((w.heap.size + 1), #[.int .i64 0, .int .i64 0, .int .i64 0, .int .i64 0, .int .i64 0, .int .i64 0, .slice none 0 0, .int .i64 0, .bool false, .slice none 0 0, .slice none 0 0]), (w.heap.size, ltA s)]) [(w.heap.size + 1 + 1), (w.heap.size + 1), w.heap.size] wr)) (fun i _ => 4 - (intOf i).toNat)
  case atStart => exact .inl ⟨rfl, HM.out⟩
  case round =>
    clear HM
    rcases hrel with ⟨rfl, hm⟩ | ⟨rfl, hm⟩ | ⟨rfl, hm⟩ | ⟨rfl, hm⟩ | ⟨rfl, hm⟩
    · have HM := Lib.hid hm
      have b0 := hm.1
      have d0 := (b0.cell (p := ⟨g, 0, none⟩) hg).trans c0
      obtain ⟨k0, k1, k2, k3, k4, k5, k6, k7, k8, k9, k10⟩ := (hm.get w.heap.size (ltA s) (by simp)).at11
      have hlt := (hm.get w.heap.size (ltA s) (by simp)).1
      have hgx : g < wr.heap.size := Nat.lt_of_lt_of_le hg b0.size
      clear hm b0
      go_wp2_with fail
      refine (partIndex_any s (ltZero s) w _ (w.heap.size + 1 + 1) [((w.heap.size + 1), #[.int .i64 0, .int .i64 0, .int .i64 0, .int .i64 0, .int .i64 0, .int .i64 0, .slice none 0 0, .int .i64 0, .bool false, .slice none 0 0, .slice none 0 0]), (w.heap.size, ltA s)] [(w.heap.size + 1 + 1), (w.heap.size + 1), w.heap.size] HM.out (by simp) (by omega) (by simp <;> omega)).mono ?_
      rintro e w1 ⟨rfl, hM⟩
      go_wp2
      go_roundw
      case rel => exact Or.inr (Or.inl ⟨by go_num, hM⟩)
      case measure => simp [intOf]
    · have HM := Lib.hid hm
      have b0 := hm.1
      have d1 := (b0.cell (p := ⟨g, 1, none⟩) hg).trans c1
      obtain ⟨k0, k1, k2, k3, k4, k5, k6, k7, k8, k9, k10⟩ := (hm.get w.heap.size (ltA s) (by simp)).at11
      have hlt := (hm.get w.heap.size (ltA s) (by simp)).1
      have hgx : g < wr.heap.size := Nat.lt_of_lt_of_le hg b0.size
      clear hm b0
      go_wp2_with fail
      refine (partMark_any s ({ (ltZero s) with index := s.index } : LLt) w _ (w.heap.size + 1 + 1) [((w.heap.size + 1), #[.int .i64 0, .int .i64 0, .int .i64 0, .int .i64 0, .int .i64 0, .int .i64 0, .slice none 0 0, .int .i64 0, .bool false, .slice none 0 0, .slice none 0 0]), (w.heap.size, ltA s)] [(w.heap.size + 1 + 1), (w.heap.size + 1), w.heap.size] HM.out (by simp) (by omega) (by simp <;> omega)).mono ?_
      rintro e w1 ⟨rfl, hM⟩
      go_wp2
      go_roundw
      case rel => exact Or.inr (Or.inr (Or.inl ⟨by go_num, hM⟩))
      case measure => simp [intOf]
    · have HM := Lib.hid hm
      have b0 := hm.1
      have d2 := (b0.cell (p := ⟨g, 2, none⟩) hg).trans c2
      obtain ⟨k0, k1, k2, k3, k4, k5, k6, k7, k8, k9, k10⟩ := (hm.get w.heap.size (ltA s) (by simp)).at11
      have hlt := (hm.get w.heap.size (ltA s) (by simp)).1
      have hgx : g < wr.heap.size := Nat.lt_of_lt_of_le hg b0.size
      clear hm b0
      go_wp2_with fail
      refine (partList_any s ({ (ltZero s) with index := s.index, mark := s.mark } : LLt) w _ (w.heap.size + 1 + 1) [((w.heap.size + 1), #[.int .i64 0, .int .i64 0, .int .i64 0, .int .i64 0, .int .i64 0, .int .i64 0, .slice none 0 0, .int .i64 0, .bool false, .slice none 0 0, .slice none 0 0]), (w.heap.size, ltA s)] [(w.heap.size + 1 + 1), (w.heap.size + 1), w.heap.size] HM.out (by simp) (by omega) (by simp <;> omega)).mono ?_
      rintro e w1 ⟨rfl, hM⟩
      go_wp2
      go_roundw
      case rel => exact Or.inr (Or.inr (Or.inr (Or.inl ⟨by go_num, hM⟩)))
      case measure => simp [intOf]
    · have HM := Lib.hid hm
      have b0 := hm.1
      have d3 := (b0.cell (p := ⟨g, 3, none⟩) hg).trans c3
      obtain ⟨k0, k1, k2, k3, k4, k5, k6, k7, k8, k9, k10⟩ := (hm.get w.heap.size (ltA s) (by simp)).at11
      have hlt := (hm.get w.heap.size (ltA s) (by simp)).1
      have hgx : g < wr.heap.size := Nat.lt_of_lt_of_le hg b0.size
      clear hm b0
      go_wp2_with fail
      refine (partCommit_any s ({ (ltZero s) with index := s.index, mark := s.mark, en := s.en } : LLt) w _ (w.heap.size + 1 + 1) [((w.heap.size + 1), #[.int .i64 0, .int .i64 0, .int .i64 0, .int .i64 0, .int .i64 0, .int .i64 0, .slice none 0 0, .int .i64 0, .bool false, .slice none 0 0, .slice none 0 0]), (w.heap.size, ltA s)] [(w.heap.size + 1 + 1), (w.heap.size + 1), w.heap.size] HM.out (by simp) (by omega) (by simp <;> omega)).mono ?_
      rintro e w1 ⟨rfl, hM⟩
      go_wp2
      go_roundw
      case rel => exact Or.inr (Or.inr (Or.inr (Or.inr (⟨by go_num, hM⟩))))
      case measure => simp [intOf]
    · obtain ⟨q0, q1, q2, q3, q4, q5, q6, q7, q8, q9, q10⟩ := (hm.get (w.heap.size + 1 + 1) (ltA ({ (ltZero s) with index := s.index, mark := s.mark, en := s.en, commit := s.commit } : LLt)) (by simp)).at11
      have hlq := (hm.get (w.heap.size + 1 + 1) (ltA ({ (ltZero s) with index := s.index, mark := s.mark, en := s.en, commit := s.commit } : LLt)) (by simp)).1
      obtain ⟨u0, u1, u2, u3, u4, u5, u6, u7, u8, u9, u10⟩ := (hm.get (w.heap.size + 1) #[.int .i64 0, .int .i64 0, .int .i64 0, .int .i64 0, .int .i64 0, .int .i64 0, .slice none 0 0, .int .i64 0, .bool false, .slice none 0 0, .slice none 0 0] (by simp)).at11
      obtain ⟨t0, t1, t2, t3, t4, t5, t6, t7, t8, t9, t10⟩ := (hm.loose (w.heap.size + 1) (by simp)).fz11
      have hlt1 := (hm.get (w.heap.size + 1) #[.int .i64 0, .int .i64 0, .int .i64 0, .int .i64 0, .int .i64 0, .int .i64 0, .slice none 0 0, .int .i64 0, .bool false, .slice none 0 0, .slice none 0 0] (by simp)).1
      have HM := Lib.hid (mem_swap hm)
      clear hm
      go_wp2
      clear q0 q1 q2 q3 q4 q5 q6 q7 q8 q9 q10 u0 u1 u2 u3 u4 u5 u6 u7 u8 u9 u10 t0 t1 t2 t3 t4 t5 t6 t7 t8 t9 t10 hlq hlt1
      have hm : Mem w (((w.heap.size + 1), ltA ({ (ltZero s) with index := s.index, mark := s.mark, en := s.en, commit := s.commit } : LLt)) :: [((w.heap.size + 1 + 1), ltA ({ (ltZero s) with index := s.index, mark := s.mark, en := s.en, commit := s.commit } : LLt)), (w.heap.size, ltA s)]) [(w.heap.size + 1 + 1), (w.heap.size + 1), w.heap.size] _ := HM.out.put11 (by omega) (by simp <;> omega) ((ltA ({ (ltZero s) with index := s.index, mark := s.mark, en := s.en, commit := s.commit } : LLt)).getD 0 undef) ((ltA ({ (ltZero s) with index := s.index, mark := s.mark, en := s.en, commit := s.commit } : LLt)).getD 1 undef) ((ltA ({ (ltZero s) with index := s.index, mark := s.mark, en := s.en, commit := s.commit } : LLt)).getD 2 undef) ((ltA ({ (ltZero s) with index := s.index, mark := s.mark, en := s.en, commit := s.commit } : LLt)).getD 3 undef) ((ltA ({ (ltZero s) with index := s.index, mark := s.mark, en := s.en, commit := s.commit } : LLt)).getD 4 undef) ((ltA ({ (ltZero s) with index := s.index, mark := s.mark, en := s.en, commit := s.commit } : LLt)).getD 5 undef) ((ltA ({ (ltZero s) with index := s.index, mark := s.mark, en := s.en, commit := s.commit } : LLt)).getD 6 undef) ((ltA ({ (ltZero s) with index := s.index, mark := s.mark, en := s.en, commit := s.commit } : LLt)).getD 7 undef) ((ltA ({ (ltZero s) with index := s.index, mark := s.mark, en := s.en, commit := s.commit } : LLt)).getD 8 undef) ((ltA ({ (ltZero s) with index := s.index, mark := s.mark, en := s.en, commit := s.commit } : LLt)).getD 9 undef) ((ltA ({ (ltZero s) with index := s.index, mark := s.mark, en := s.en, commit := s.commit } : LLt)).getD 10 undef)
      have hBW := hm.1
      have hW := hm.get (w.heap.size + 1) (ltA ({ (ltZero s) with index := s.index, mark := s.mark, en := s.en, commit := s.commit } : LLt)) (by simp)
      refine bodyPost_ret (results_only ({ (ltZero s) with index := s.index, mark := s.mark, en := s.en, commit := s.commit } : LLt) (w.heap.size + 1) _ _ (by rfl) hW) rfl ?_
      exact ⟨rfl, hBW⟩
set_option maxHeartbeats 4000000 in
theorem onlyGot (s : LLt) (g : Nat) (w : World) (c0 : w.cell? ⟨g, 0, none⟩ = some (.func (.func 48) #[] #[])) (c1 : w.cell? ⟨g, 1, none⟩ = some (.func (.func 46) #[] #[])) (hg : g < w.heap.size) :
    Calls Tryz.prog 77 #[ltV s, .slice (some ⟨g, 0, none⟩) 2 2] w fun e w' => e = .returned (ltV ({ (ltZero s) with yes := s.yes, index := s.index } : LLt)) ∧ Below w.heap.size w w' := by
  have hm := mem_three w (ltA s) #[.int .i64 0, .int .i64 0, .int .i64 0, .int .i64 0, .int .i64 0, .int .i64 0, .slice none 0 0, .int .i64 0, .bool false, .slice none 0 0, .slice none 0 0] (ltA (ltZero s)) 37 37 37
  have HM := Lib.hid hm
  clear hm
  go_enter Tryz.func77, Tryz.ntmps77
  go_upto_region 2 with (fail)
  go_wp2_with fail
  go_loopw [19] (fun i wr => (i = .int .i64 0 ∧ Mem w (((w.heap.size + 1 + 1), ltA (ltZero s)) :: [((w.heap.size + 1), #[.int .i64 0, .int .i64 0, .int .i64 0, .int .i64 0, .int .i64 0, .int .i64 0, .slice none 0 0, .int .i64 0, .bool false, .slice none 0 0, .slice none 0 0]), (w.heap.size, ltA s)]) [(w.heap.size + 1 + 1), (w.heap.size + 1), w.heap.size] wr) ∨ (i = .int .i64 1 ∧ Mem w (((w.heap.size + 1 + 1), ltA ({ (ltZero s) with yes := s.yes } : LLt)) :: [((w.heap.size + 1), #[.int .i64 0, .int .i64 0, .int .i64 0, .int .i64 0, .int .i64 0, .int .i64 0, .slice none 0 0, .int .i64 0, .bool false, .slice none 0 0, .slice none 0 0]), (w.heap.size, ltA s)]) [(w.heap.size + 1 + 1), (w.heap.size + 1), w.heap.size] wr) ∨ (i = .int .i64 2 ∧ Mem w (((w.heap.size + 1 + 1), ltA ({ (ltZero s) with yes := s.yes, index := s.index } : LLt)) :: [((w.heap.size + 1), #[.int .i64 0, .int .i64 0, .int .i64 0, .int .i64 0, .int .i64 0, .int .i64 0, .slice none 0 0, .int .i64 0, .bool false, .slice none 0 0, .slice none 0 0]), (w.heap.size, ltA s)]) [(w.heap.size + 1 + 1), (w.heap.size + 1), w.heap.size] wr)) (fun i _ => 2 - (intOf i).toNat)
  case atStart => exact .inl ⟨rfl, HM.out⟩
  case round =>
    clear HM
    rcases hrel with ⟨rfl, hm⟩ | ⟨rfl, hm⟩ | ⟨rfl, hm⟩
    · have HM := Lib.hid hm
      have b0 := hm.1
      have d0 := (b0.cell (p := ⟨g, 0, none⟩) hg).trans c0
      obtain ⟨k0, k1, k2, k3, k4, k5, k6, k7, k8, k9, k10⟩ := (hm.get w.heap.size (ltA s) (by simp)).at11
      have hlt := (hm.get w.heap.size (ltA s) (by simp)).1
      have hgx : g < wr.heap.size := Nat.lt_of_lt_of_le hg b0.size
      clear hm b0
      go_wp2_with fail
      refine (partYes_any s (ltZero s) w _ (w.heap.size + 1 + 1) [((w.heap.size + 1), #[.int .i64 0, .int .i64 0, .int .i64 0, .int .i64 0, .int .i64 0, .int .i64 0, .slice none 0 0, .int .i64 0, .bool false, .slice none 0 0, .slice none 0 0]), (w.heap.size, ltA s)] [(w.heap.size + 1 + 1), (w.heap.size + 1), w.heap.size] HM.out (by simp) (by omega) (by simp <;> omega)).mono ?_
      rintro e w1 ⟨rfl, hM⟩
      go_wp2
      go_roundw
      case rel => exact Or.inr (Or.inl ⟨by go_num, hM⟩)
      case measure => simp [intOf]
    · have HM := Lib.hid hm
      have b0 := hm.1
      have d1 := (b0.cell (p := ⟨g, 1, none⟩) hg).trans c1
      obtain ⟨k0, k1, k2, k3, k4, k5, k6, k7, k8, k9, k10⟩ := (hm.get w.heap.size (ltA s) (by simp)).at11
      have hlt := (hm.get w.heap.size (ltA s) (by simp)).1
      have hgx : g < wr.heap.size := Nat.lt_of_lt_of_le hg b0.size
      clear hm b0
      go_wp2_with fail
      refine (partIndex_any s ({ (ltZero s) with yes := s.yes } : LLt) w _ (w.heap.size + 1 + 1) [((w.heap.size + 1), #[.int .i64 0, .int .i64 0, .int .i64 0, .int .i64 0, .int .i64 0, .int .i64 0, .slice none 0 0, .int .i64 0, .bool false, .slice none 0 0, .slice none 0 0]), (w.heap.size, ltA s)] [(w.heap.size + 1 + 1), (w.heap.size + 1), w.heap.size] HM.out (by simp) (by omega) (by simp <;> omega)).mono ?_
      rintro e w1 ⟨rfl, hM⟩
      go_wp2
      go_roundw
      case rel => exact Or.inr (Or.inr (⟨by go_num, hM⟩))
      case measure => simp [intOf]
    · obtain ⟨q0, q1, q2, q3, q4, q5, q6, q7, q8, q9, q10⟩ := (hm.get (w.heap.size + 1 + 1) (ltA ({ (ltZero s) with yes := s.yes, index := s.index } : LLt)) (by simp)).at11
      have hlq := (hm.get (w.heap.size + 1 + 1) (ltA ({ (ltZero s) with yes := s.yes, index := s.index } : LLt)) (by simp)).1
      obtain ⟨u0, u1, u2, u3, u4, u5, u6, u7, u8, u9, u10⟩ := (hm.get (w.heap.size + 1) #[.int .i64 0, .int .i64 0, .int .i64 0, .int .i64 0, .int .i64 0, .int .i64 0, .slice none 0 0, .int .i64 0, .bool false, .slice none 0 0, .slice none 0 0] (by simp)).at11
      obtain ⟨t0, t1, t2, t3, t4, t5, t6, t7, t8, t9, t10⟩ := (hm.loose (w.heap.size + 1) (by simp)).fz11
      have hlt1 := (hm.get (w.heap.size + 1) #[.int .i64 0, .int .i64 0, .int .i64 0, .int .i64 0, .int .i64 0, .int .i64 0, .slice none 0 0, .int .i64 0, .bool false, .slice none 0 0, .slice none 0 0] (by simp)).1
      have HM := Lib.hid (mem_swap hm)
      clear hm
      go_wp2
      clear q0 q1 q2 q3 q4 q5 q6 q7 q8 q9 q10 u0 u1 u2 u3 u4 u5 u6 u7 u8 u9 u10 t0 t1 t2 t3 t4 t5 t6 t7 t8 t9 t10 hlq hlt1
      have hm : Mem w (((w.heap.size + 1), ltA ({ (ltZero s) with yes := s.yes, index := s.index } : LLt)) :: [((w.heap.size + 1 + 1), ltA ({ (ltZero s) with yes := s.yes, index := s.index } : LLt)), (w.heap.size, ltA s)]) [(w.heap.size + 1 + 1), (w.heap.size + 1), w.heap.size] _ := HM.out.put11 (by omega) (by simp <;> omega) ((ltA ({ (ltZero s) with yes := s.yes, index := s.index } : LLt)).getD 0 undef) ((ltA ({ (ltZero s) with yes := s.yes, index := s.index } : LLt)).getD 1 undef) ((ltA ({ (ltZero s) with yes := s.yes, index := s.index } : LLt)).getD 2 undef) ((ltA ({ (ltZero s) with yes := s.yes, index := s.index } : LLt)).getD 3 undef) ((ltA ({ (ltZero s) with yes := s.yes, index := s.index } : LLt)).getD 4 undef) ((ltA ({ (ltZero s) with yes := s.yes, index := s.index } : LLt)).getD 5 undef) ((ltA ({ (ltZero s) with yes := s.yes, index := s.index } : LLt)).getD 6 undef) ((ltA ({ (ltZero s) with yes := s.yes, index := s.index } : LLt)).getD 7 undef) ((ltA ({ (ltZero s) with yes := s.yes, index := s.index } : LLt)).getD 8 undef) ((ltA ({ (ltZero s) with yes := s.yes, index := s.index } : LLt)).getD 9 undef) ((ltA ({ (ltZero s) with yes := s.yes, index := s.index } : LLt)).getD 10 undef)
      have hBW := hm.1
      have hW := hm.get (w.heap.size + 1) (ltA ({ (ltZero s) with yes := s.yes, index := s.index } : LLt)) (by simp)
      refine bodyPost_ret (results_only ({ (ltZero s) with yes := s.yes, index := s.index } : LLt) (w.heap.size + 1) _ _ (by rfl) hW) rfl ?_
      exact ⟨rfl, hBW⟩
set_option maxHeartbeats 4000000 in
theorem onlyGift (s : LLt) (g : Nat) (w : World) (c0 : w.cell? ⟨g, 0, none⟩ = some (.func (.func 46) #[] #[])) (c1 : w.cell? ⟨g, 1, none⟩ = some (.func (.func 47) #[] #[])) (c2 : w.cell? ⟨g, 2, none⟩ = some (.func (.func 51) #[] #[])) (hg : g < w.heap.size) :
    Calls Tryz.prog 77 #[ltV s, .slice (some ⟨g, 0, none⟩) 3 3] w fun e w' => e = .returned (ltV ({ (ltZero s) with index := s.index, mark := s.mark, bk := s.bk } : LLt)) ∧ Below w.heap.size w w' := by
  have hm := mem_three w (ltA s) #[.int .i64 0, .int .i64 0, .int .i64 0, .int .i64 0, .int .i64 0, .int .i64 0, .slice none 0 0, .int .i64 0, .bool false, .slice none 0 0, .slice none 0 0] (ltA (ltZero s)) 37 37 37
  have HM := Lib.hid hm
  clear hm
  go_enter Tryz.func77, Tryz.ntmps77
  go_upto_region 2 with (fail)
  go_wp2_with fail
  go_loopw [19] (fun i wr => (i = .int .i64 0 ∧ Mem w (((w.heap.size + 1 + 1), ltA (ltZero s)) :: [((w.heap.size + 1), #[.int .i64 0, .int .i64 0, .int .i64 0, .int .i64 0, .int .i64 0, .int .i64 0, .slice none 0 0, .int .i64 0, .bool false, .slice none 0 0, .slice none 0 0]), (w.heap.size, ltA s)]) [(w.heap.size + 1 + 1), (w.heap.size + 1), w.heap.size] wr) ∨ (i = .int .i64 1 ∧ Mem w (((w.heap.size + 1 + 1), ltA ({ (ltZero s) with index := s.index } : LLt)) :: [((w.heap.size + 1), #[.int .i64 0, .int .i64 0, .int .i64 0, .int .i64 0, .int .i64 0, .int .i64 0, .slice none 0 0, .int .i64 0, .bool false, .slice none 0 0, .slice none 0 0]), (w.heap.size, ltA s)]) [(w.heap.size + 1 + 1), (w.heap.size + 1), w.heap.size] wr) ∨ (i = .int .i64 2 ∧ Mem w (((w.heap.size + 1 + 1), ltA ({ (ltZero s) with index := s.index, mark := s.mark } : LLt)) :: [((w.heap.size + 1), #[.int .i64 0, .int .i64 0, .int .i64 0, .int .i64 0, .int .i64 0, .int .i64 0, .slice none 0 0, .int .i64 0, .bool false, .slice none 0 0, .slice none 0 0]), (w.heap.size, ltA s)]) [(w.heap.size + 1 + 1), (w.heap.size + 1), w.heap.size] wr) ∨ (i = .int .i64 3 ∧ Mem w (((w.heap.size + 1 + 1), ltA ({ (ltZero s) with index := s.index, mark := s.mark, bk := s.bk } : LLt)) :: [((w.heap.size + 1), #[.int .i64 0, .int .i64 0, .int .i64 0, .int .i64 0, .int .i64 0, .int .i64 0, .slice none 0 0, .int .i64 0, .bool false, .slice none 0 0, .slice none 0 0]), (w.heap.size, ltA s)]) [(w.heap.size + 1 + 1), (w.heap.size + 1), w.heap.size] wr)) (fun i _ => 3 - (intOf i).toNat)
  case atStart => exact .inl ⟨rfl, HM.out⟩
  case round =>
    clear HM
    rcases hrel with ⟨rfl, hm⟩ | ⟨rfl, hm⟩ | ⟨rfl, hm⟩ | ⟨rfl, hm⟩
    · have HM := Lib.hid hm
      have b0 := hm.1
      have d0 := (b0.cell (p := ⟨g, 0, none⟩) hg).trans c0
      obtain ⟨k0, k1, k2, k3, k4, k5, k6, k7, k8, k9, k10⟩ := (hm.get w.heap.size (ltA s) (by simp)).at11
      have hlt := (hm.get w.heap.size (ltA s) (by simp)).1
      have hgx : g < wr.heap.size := Nat.lt_of_lt_of_le hg b0.size
      clear hm b0
      go_wp2_with fail
      refine (partIndex_any s (ltZero s) w _ (w.heap.size + 1 + 1) [((w.heap.size + 1), #[.int .i64 0, .int .i64 0, .int .i64 0, .int .i64 0, .int .i64 0, .int .i64 0, .slice none 0 0, .int .i64 0, .bool false, .slice none 0 0, .slice none 0 0]), (w.heap.size, ltA s)] [(w.heap.size + 1 + 1), (w.heap.size + 1), w.heap.size] HM.out (by simp) (by omega) (by simp <;> omega)).mono ?_
      rintro e w1 ⟨rfl, hM⟩
      go_wp2
      go_roundw
      case rel => exact Or.inr (Or.inl ⟨by go_num, hM⟩)
      case measure => simp [intOf]
    · have HM := Lib.hid hm
      have b0 := hm.1
      have d1 := (b0.cell (p := ⟨g, 1, none⟩) hg).trans c1
      obtain ⟨k0, k1, k2, k3, k4, k5, k6, k7, k8, k9, k10⟩ := (hm.get w.heap.size (ltA s) (by simp)).at11
      have hlt := (hm.get w.heap.size (ltA s) (by simp)).1
      have hgx : g < wr.heap.size := Nat.lt_of_lt_of_le hg b0.size
      clear hm b0
      go_wp2_with fail
      refine (partMark_any s ({ (ltZero s) with index := s.index } : LLt) w _ (w.heap.size + 1 + 1) [((w.heap.size + 1), #[.int .i64 0, .int .i64 0, .int .i64 0, .int .i64 0, .int .i64 0, .int .i64 0, .slice none 0 0, .int .i64 0, .bool false, .slice none 0 0, .slice none 0 0]), (w.heap.size, ltA s)] [(w.heap.size + 1 + 1), (w.heap.size + 1), w.heap.size] HM.out (by simp) (by omega) (by simp <;> omega)).mono ?_
      rintro e w1 ⟨rfl, hM⟩
      go_wp2
      go_roundw
      case rel => exact Or.inr (Or.inr (Or.inl ⟨by go_num, hM⟩))
      case measure => simp [intOf]
    · have HM := Lib.hid hm
      have b0 := hm.1
      have d2 := (b0.cell (p := ⟨g, 2, none⟩) hg).trans c2
      obtain ⟨k0, k1, k2, k3, k4, k5, k6, k7, k8, k9, k10⟩ := (hm.get w.heap.size (ltA s) (by simp)).at11
      have hlt := (hm.get w.heap.size (ltA s) (by simp)).1
      have hgx : g < wr.heap.size := Nat.lt_of_lt_of_le hg b0.size
      clear hm b0
      go_wp2_with fail
      refine (partBook_any s ({ (ltZero s) with index := s.index, mark := s.mark } : LLt) w _ (w.heap.size + 1 + 1) [((w.heap.size + 1), #[.int .i64 0, .int .i64 0, .int .i64 0, .int .i64 0, .int .i64 0, .int .i64 0, .slice none 0 0, .int .i64 0, .bool false, .slice none 0 0, .slice none 0 0]), (w.heap.size, ltA s)] [(w.heap.size + 1 + 1), (w.heap.size + 1), w.heap.size] HM.out (by simp) (by omega) (by simp <;> omega)).mono ?_
      rintro e w1 ⟨rfl, hM⟩
      go_wp2
      go_roundw
      case rel => exact Or.inr (Or.inr (Or.inr (⟨by go_num, hM⟩)))
      case measure => simp [intOf]
    · obtain ⟨q0, q1, q2, q3, q4, q5, q6, q7, q8, q9, q10⟩ := (hm.get (w.heap.size + 1 + 1) (ltA ({ (ltZero s) with index := s.index, mark := s.mark, bk := s.bk } : LLt)) (by simp)).at11
      have hlq := (hm.get (w.heap.size + 1 + 1) (ltA ({ (ltZero s) with index := s.index, mark := s.mark, bk := s.bk } : LLt)) (by simp)).1
      obtain ⟨u0, u1, u2, u3, u4, u5, u6, u7, u8, u9, u10⟩ := (hm.get (w.heap.size + 1) #[.int .i64 0, .int .i64 0, .int .i64 0, .int .i64 0, .int .i64 0, .int .i64 0, .slice none 0 0, .int .i64 0, .bool false, .slice none 0 0, .slice none 0 0] (by simp)).at11
      obtain ⟨t0, t1, t2, t3, t4, t5, t6, t7, t8, t9, t10⟩ := (hm.loose (w.heap.size + 1) (by simp)).fz11
      have hlt1 := (hm.get (w.heap.size + 1) #[.int .i64 0, .int .i64 0, .int .i64 0, .int .i64 0, .int .i64 0, .int .i64 0, .slice none 0 0, .int .i64 0, .bool false, .slice none 0 0, .slice none 0 0] (by simp)).1
      have HM := Lib.hid (mem_swap hm)
      clear hm
      go_wp2
      clear q0 q1 q2 q3 q4 q5 q6 q7 q8 q9 q10 u0 u1 u2 u3 u4 u5 u6 u7 u8 u9 u10 t0 t1 t2 t3 t4 t5 t6 t7 t8 t9 t10 hlq hlt1
      have hm : Mem w (((w.heap.size + 1), ltA ({ (ltZero s) with index := s.index, mark := s.mark, bk := s.bk } : LLt)) :: [((w.heap.size + 1 + 1), ltA ({ (ltZero s) with index := s.index, mark := s.mark, bk := s.bk } : LLt)), (w.heap.size, ltA s)]) [(w.heap.size + 1 + 1), (w.heap.size + 1), w.heap.size] _ := HM.out.put11 (by omega) (by simp <;> omega) ((ltA ({ (ltZero s) with index := s.index, mark := s.mark, bk := s.bk } : LLt)).getD 0 undef) ((ltA ({ (ltZero s) with index := s.index, mark := s.mark, bk := s.bk } : LLt)).getD 1 undef) ((ltA ({ (ltZero s) with index := s.index, mark := s.mark, bk := s.bk } : LLt)).getD 2 undef) ((ltA ({ (ltZero s) with index := s.index, mark := s.mark, bk := s.bk } : LLt)).getD 3 undef) ((ltA ({ (ltZero s) with index := s.index, mark := s.mark, bk := s.bk } : LLt)).getD 4 undef) ((ltA ({ (ltZero s) with index := s.index, mark := s.mark, bk := s.bk } : LLt)).getD 5 undef) ((ltA ({ (ltZero s) with index := s.index, mark := s.mark, bk := s.bk } : LLt)).getD 6 undef) ((ltA ({ (ltZero s) with index := s.index, mark := s.mark, bk := s.bk } : LLt)).getD 7 undef) ((ltA ({ (ltZero s) with index := s.index, mark := s.mark, bk := s.bk } : LLt)).getD 8 undef) ((ltA ({ (ltZero s) with index := s.index, mark := s.mark, bk := s.bk } : LLt)).getD 9 undef) ((ltA ({ (ltZero s) with index := s.index, mark := s.mark, bk := s.bk } : LLt)).getD 10 undef)
      have hBW := hm.1
      have hW := hm.get (w.heap.size + 1) (ltA ({ (ltZero s) with index := s.index, mark := s.mark, bk := s.bk } : LLt)) (by simp)
      refine bodyPost_ret (results_only ({ (ltZero s) with index := s.index, mark := s.mark, bk := s.bk } : LLt) (w.heap.size + 1) _ _ (by rfl) hW) rfl ?_
      exact ⟨rfl, hBW⟩
end Go.Proofs.YtdoeiphnalbinaaGreat
