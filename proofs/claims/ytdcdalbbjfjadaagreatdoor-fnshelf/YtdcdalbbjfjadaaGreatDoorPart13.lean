/- Proved, in parts: Proved: the model's l4Own and the program's newWork answer the same work in new memory; they write nothing that was there. Condition: texts of at most a million bytes, at most a million copies. Proved: plain facts on works that are veiled or printed; no program is named here; no condition. -/
import Derived.Test.YtdcdalbbjfjadaaGreatDoorPart09
import Derived.Test.YtdcdalbbjfjadaaGreatDoorPart07
import Derived.Test.YtdcdalbbjfjadaaGreatDoorPart12
import Derived.Test.YtdcdalbbjfjadaaGreatDoorPart11
namespace Go.Proofs.YtdcdalbbjfjadaaGreatDoor
open Go.RowKit
set_option maxRecDepth 20000

abbrev wkA (name : ByteArray) (owner : Int) (v : Value) : Array Value := #[.string name, .int .i64 owner, v]

theorem results_l4Own (name : ByteArray) (owner : Int) (v : Value) (R : Nat) (W : World) (tmps : Array Value) (h2 : tmps.getD 2 undef = .pointer (some ⟨R, 0, none⟩)) (hW : Holds W R (wkA name owner v)) :
    (results Tryz.f44 tmps).run Tryz.prog W = .ok (.agg (wkA name owner v)) W := by
  obtain ⟨q0, q1, q2⟩ := hW.at3
  simp at h2
  simp [results, Tryz.results44, go_sem, h2, q0, q1, q2]
theorem results_newWork (name : ByteArray) (owner : Int) (v : Value) (R : Nat) (W : World) (tmps : Array Value) (h2 : tmps.getD 2 undef = .pointer (some ⟨R, 0, none⟩)) (hW : Holds W R (wkA name owner v)) :
    (results Tryz.f27 tmps).run Tryz.prog W = .ok (.agg (wkA name owner v)) W := by
  obtain ⟨q0, q1, q2⟩ := hW.at3
  simp at h2
  simp [results, Tryz.results27, go_sem, h2, q0, q1, q2]

set_option maxHeartbeats 1000000 in
theorem l4Own_any (name : ByteArray) (owner : Int) (A : Option Addr) (l : List M.Cp) (cap : Nat) (w : World) (hl : Cps w A l) (hA : A = none → cap = 0) (hlen : l.length ≤ 1048576) :
    Calls Tryz.prog 44 #[wkV name owner A l.length cap] w fun r w' => ∃ A' c', r = .returned (wkV name owner A' l.length c') ∧ CpOwn w.heap.size w' (.slice A' l.length c') l ∧ Below w.heap.size w w' := by
  obtain ⟨i0, hi, hz0, hz1, hz2⟩ := info_parts infoCp
  have b0 := ((Below.refl w.heap.size w).alloc (Nat.le_refl _) (.cells (wkL name owner A l.length cap) 39)).alloc (by simp) (.cells (wkL ⟨#[]⟩ 0 none 0 0) 39)
  have h0 := (holds_new w (wkL name owner A l.length cap) 39).alloc (.cells (wkL ⟨#[]⟩ 0 none 0 0) 39)
  have f0 := (loose_new w (wkL name owner A l.length cap) 39).alloc (by simp) (.cells (wkL ⟨#[]⟩ 0 none 0 0) 39)
  have h1 := holds_new (w.alloc (.cells (wkL name owner A l.length cap) 39)) (wkL ⟨#[]⟩ 0 none 0 0) 39
  have f1 := loose_new (w.alloc (.cells (wkL name owner A l.length cap) 39)) (wkL ⟨#[]⟩ 0 none 0 0) 39
  have hl2 := (hl.alloc (.cells (wkL name owner A l.length cap) 39)).alloc (.cells (wkL ⟨#[]⟩ 0 none 0 0) 39)
  simp only [World.size_alloc] at h1 f1
  have HA := Lib.hid hA
  have HL := Lib.hid hl
  clear hA hl
  have HQ := Lib.hid (show _ ∧ _ ∧ _ ∧ _ ∧ _ ∧ _ from ⟨b0, h0, f0, h1, f1, hl2⟩)
  clear b0 h0 f0 h1 f1 hl2
  go_enter Tryz.func44, Tryz.ntmps44
  go_wp2_with (at_builtin; refine stop_mk ?_)
  refine stop_un ?_
  obtain ⟨b0, h0, f0, h1, f1, hl2⟩ := HQ.out
  clear HQ
  refine wpList_append_flat (k := 5) (enc := cpL) (l := l) rfl _ _ 37 rfl (w.heap.size + 1 + 1) 71 i0 _ 48 Tryz.underlying37 hi hz0 hz1 hz2 rfl (by decide) (.slice (some ⟨w.heap.size + 1 + 1, 0, none⟩) 0 0) 0 [] rfl ?own A cap rfl HA.out (hl2.alloc _) cpL_len (cp_one l) (by unfold maxLen; omega) (by omega) ?base ?_
  case own =>
    have ho := World.ownsRow_made (size := 5) (e := 71) ((w.alloc (.cells (wkL name owner A l.length cap) 39)).alloc (.cells (wkL ⟨#[]⟩ 0 none 0 0) 39)) #[] 0 (base := w.heap.size + 1 + 1) (by simp) (Nat.zero_le _) rfl
    simp only [World.size_alloc] at ho
    exact ho
  case base => simp
  intro v' w1 hown hgrow
  change World.grownBy _ w1 (some (w.heap.size + 1 + 1)) at hgrow
  replace b0 := (b0.alloc b0.size (.cells #[] 71)).grown hgrow (Nat.le_trans b0.size (by simp)) (fun k hk => by cases hk; omega)
  replace f0 := grown_loose (f0.alloc h0.1 (.cells #[] 71)) (h0.alloc (.cells #[] 71)).1 hgrow (by simp; omega)
  replace f1 := grown_loose (f1.alloc h1.1 (.cells #[] 71)) (h1.alloc (.cells #[] 71)).1 hgrow (by simp)
  replace h0 := grown_holds (h0.alloc (.cells #[] 71)) hgrow (by simp; omega)
  replace h1 := grown_holds (h1.alloc (.cells #[] 71)) hgrow (by simp)
  rw [Nat.zero_add, List.nil_append] at hown
  have hO : CpOwn (w.heap.size + 1 + 1) w1 v' l := hown
  clear hown
  obtain ⟨A', c', rfl, -, -⟩ := hO.open
  have HO := Lib.hid hO
  have HZ := Lib.hid (show w.heap.size + 1 + 1 ≤ w1.heap.size from h1.1)
  have z1 := h1.1
  obtain ⟨p0, p1, p2⟩ := h0.at3
  obtain ⟨s0, s1, s2⟩ := f0.fz3
  obtain ⟨q0, q1, q2⟩ := h1.at3
  obtain ⟨t0, t1, t2⟩ := f1.fz3
  clear hgrow hO hl2
  go_wp2
  refine bodyPost_ret (results_l4Own name owner (.slice A' l.length c') (w.heap.size + 1) _ _ rfl ((h1.otherM (by omega)).wr3 _ _ _)) rfl ⟨A', c', rfl, ?_, far_3 (farM b0 (Nat.le_refl _) _ _) (by omega) _ _ _⟩
  exact ((((HO.out.off (by simp; omega) _).off (by simp) _).off (by simp) _).off (by simp) _).mono (by omega)

/-- One copy, in a new block, as a source. -/
theorem one_flat (w : World) (c : M.Cp) (t : TypeId) : Cps (w.alloc (.cells #[.int .i64 c.ed.ma, .int .i64 c.ed.mi, .int .i64 c.ed.pa, .string c.page, .bool c.hidden] t)) (some ⟨w.heap.size, 0, none⟩) [c] := by
  refine .inr ⟨w.heap.size, 0, rfl, by simp, fun i t' x u hi hu => ?_⟩
  have h := (holds_new w #[.int .i64 c.ed.ma, .int .i64 c.ed.mi, .int .i64 c.ed.pa, .string c.page, .bool c.hidden] t).2
  rcases i with _ | i
  · simp at hi
    subst hi
    rw [Nat.zero_mul, Nat.add_zero, Nat.zero_add]
    exact h t' u (by simpa using hu)
  · simp at hi

set_option maxHeartbeats 1000000 in
theorem each_new (A : Option Addr) (l : List M.Cp) (cap : Nat) (w : World) (hl : Cps w A l) (hlen : l.length ≤ 1048576) (hp : ∀ c ∈ l, c.page.size ≤ 1048576) :
    Calls Tryz.prog 58 #[.slice A l.length cap, .func (.func 59) #[] #[]] w fun r w' => ∃ A' c', r = .returned (.slice A' l.length c') ∧ CpOwn w.heap.size w' (.slice A' l.length c') l ∧ Below w.heap.size w w' := by
  obtain ⟨i0, hi, hz0, hz1, hz2⟩ := info_parts infoCp
  have HP := Lib.hid hp
  clear hp
  go_enter Tryz.func58, Tryz.ntmps58
  go_wp2
  go_loopw [5, 10] (fun x i wr => ∃ (j : Nat) (A' : Option Addr) (c' : Nat), i = .int .i64 j ∧ j ≤ l.length ∧ x = .slice A' j c' ∧ CpOwn w.heap.size wr (.slice A' j c') (l.take j) ∧ Below w.heap.size w wr) (fun _ i _ => l.length - (intOf i).toNat)
  case atStart => exact ⟨0, none, 0, rfl, Nat.zero_le _, rfl, CpOwn.nil _ _, Below.refl _ _⟩
  case round =>
    obtain ⟨j, A', c', rfl, hj, rfl, ho, hb⟩ := hrel
    by_cases hlt : j < l.length
    · obtain ⟨b, o, rfl, -, c0, c1, c2, c3, c4⟩ := Cps_at (hl.below hb) hlt
      have ba := hb.alloc hb.size (.cells (cpV l[j]).cells 71)
      have hoa := Own.below ho ((Below.refl _ _).alloc (Nat.le_refl _) (.cells (cpV l[j]).cells 71))
      have HL := Lib.hid hl
      have HO := Lib.hid hoa
      clear hl ho hoa
      go_wp2_with fail
      refine (newCopy_any l[j] _ (HP.out _ (List.getElem_mem hlt))).mono ?_
      rintro r w1 ⟨rfl, b1⟩
      have ho1 := Own.below HO.out b1
      have bb := next ba b1
      clear HO
      go_wp2_with (at_builtin; refine stop_mk ?_)
      refine stop_un ?_
      have hjl : (l.take j).length = j := by rw [List.length_take, Nat.min_eq_left hj]
      rw [hjl] at ho1
      refine wpList_append_flat (k := 5) (enc := cpL) (l := [l[j]]) rfl _ _ 88 rfl w.heap.size 71 i0 _ 48 Tryz.underlying88 hi hz0 hz1 hz2 rfl (by decide) (.slice A' j c') j (cellsOf cpL (l.take j)) rfl (ho1.alloc _) (some ⟨w1.heap.size, 0, none⟩) 1 rfl (fun h => by cases h) (one_flat w1 l[j] _) cpL_len (cp_one _) (by simp only [List.length_singleton]; unfold maxLen; omega) (by simp only [List.length_singleton]; omega) ?base ?_
      case base => exact Nat.le_trans bb.size (by simp)
      intro v' w2 hown hgrow
      have b2 := (bb.alloc bb.size (.cells (cpV l[j]).cells 71)).grown hgrow (Nat.le_trans bb.size (by simp)) (fun k hk => (ho1.lt k hk).1)
      rw [← cellsOf_append, ← List.take_succ_eq_append_getElem hlt] at hown
      have hjl' : (l.take (j + 1)).length = j + 1 := by rw [List.length_take, Nat.min_eq_left hlt]
      have hO : CpOwn w.heap.size w2 v' (l.take (j + 1)) := by unfold CpOwn; rw [hjl']; exact hown
      obtain ⟨A2, c2', rfl, -, -⟩ := hO.open
      rw [hjl'] at hO ⊢
      have HO := Lib.hid hO
      clear hown hgrow hO ho1 hjl hjl'
      go_wp2
      go_roundw
      case rel => exact ⟨j + 1, A2, c2', by go_num, by omega, rfl, HO.out, b2⟩
      case measure => simp [intOf]; omega
    · have hj' : j = l.length := by omega
      subst hj'
      rw [List.take_length] at ho
      have HO := Lib.hid ho
      clear ho
      go_wp2
      go_ret
      exact ⟨A', c', rfl, HO.out, hb⟩
end Go.Proofs.YtdcdalbbjfjadaaGreatDoor
namespace Go.Proofs.YtdcdalbbjfjadaaGreatDoor
namespace M

/-- The copies with one of them hidden so. -/
def veilAt (l : List Cp) (k : Nat) (h : Bool) : List Cp := l.modify k fun c => { c with hidden := h }
theorem veilAt_len (l : List Cp) (k : Nat) (h : Bool) : (veilAt l k h).length = l.length := by simp [veilAt]
def veiled (w : Wk) (e : Ed) (h : Bool) : Wk × Bool :=
  if wkOk w then (if findEd w.copies e < w.copies.length then ({ w with copies := veilAt w.copies (findEd w.copies e) h }, true) else (w, false)) else (zeroWk, false)
theorem veiled_bad {w : Wk} (e : Ed) (h : Bool) (hk : wkOk w = false) : veiled w e h = (zeroWk, false) := by simp [veiled, hk]
theorem veiled_none {w : Wk} {e : Ed} (h : Bool) (hk : wkOk w = true) (hf : findEd w.copies e = w.copies.length) : veiled w e h = (w, false) := by simp [veiled, hk, hf]
theorem veiled_some {w : Wk} {e : Ed} (h : Bool) (hk : wkOk w = true) (hf : findEd w.copies e < w.copies.length) : veiled w e h = ({ w with copies := veilAt w.copies (findEd w.copies e) h }, true) := by simp [veiled, hk, hf]
/-- The copies with one more where it belongs. -/
def putAt (l : List Cp) (k : Nat) (c : Cp) : List Cp := l.take k ++ c :: l.drop k
theorem putAt_len (l : List Cp) (k : Nat) (c : Cp) (hk : k ≤ l.length) : (putAt l k c).length = l.length + 1 := by
  simp [putAt]; omega
def printed (w : Wk) (e : Ed) (page : ByteArray) : Wk × Bool :=
  if wkOk w then
    (if findEd w.copies e < w.copies.length ∨ cpOk ⟨e, page, false⟩ = false ∨ w.copies.length = 8 then (w, false)
     else ({ w with copies := putAt w.copies (place w.copies e) ⟨e, page, false⟩ }, true))
  else (zeroWk, false)
theorem printed_bad {w : Wk} (e : Ed) (p : ByteArray) (hk : wkOk w = false) : printed w e p = (zeroWk, false) := by simp [printed, hk]
theorem printed_there {w : Wk} {e : Ed} (p : ByteArray) (hk : wkOk w = true) (h : findEd w.copies e < w.copies.length) : printed w e p = (w, false) := by
  unfold printed; rw [if_pos hk, if_pos (.inl h)]
theorem printed_wrong {w : Wk} {e : Ed} {p : ByteArray} (hk : wkOk w = true) (h : cpOk ⟨e, p, false⟩ = false) : printed w e p = (w, false) := by
  unfold printed; rw [if_pos hk, if_pos (.inr (.inl h))]
theorem printed_full {w : Wk} {e : Ed} (p : ByteArray) (hk : wkOk w = true) (h : w.copies.length = 8) : printed w e p = (w, false) := by
  unfold printed; rw [if_pos hk, if_pos (.inr (.inr h))]
theorem printed_put {w : Wk} {e : Ed} {p : ByteArray} (hk : wkOk w = true) (h1 : findEd w.copies e = w.copies.length) (h2 : cpOk ⟨e, p, false⟩ = true) (h3 : w.copies.length ≠ 8) :
    printed w e p = ({ w with copies := putAt w.copies (place w.copies e) ⟨e, p, false⟩ }, true) := by
  unfold printed; rw [if_pos hk, if_neg (by simp [h1, h2, h3])]
theorem place_le (l : List Cp) (e : Ed) : place l e ≤ l.length := List.findIdx_le_length
end M

theorem veil_cells (l : List M.Cp) (k : Nat) (h : Bool) (hk : k < l.length) : (cellsOf cpL l).set (k * 5 + 4) (.bool h) = cellsOf cpL (M.veilAt l k h) := by
  induction l generalizing k with
  | nil => simp at hk
  | cons c l ih =>
    cases k with
    | zero => simp [cellsOf, M.veilAt]
    | succ k =>
      have := ih k (by simpa using hk)
      simp only [cellsOf, M.veilAt, List.flatMap_cons, List.modify_succ_cons] at this ⊢
      rw [← this, show (k + 1) * 5 + 4 = (cpL c).length + (k * 5 + 4) by simp [Nat.succ_mul]; omega, List.set_append_right _ _ (by omega), Nat.add_sub_cancel_left]
end Go.Proofs.YtdcdalbbjfjadaaGreatDoor
