/- Proved: what the program's heap of numbers answers of how many there are, of which of two is greater, and what an exchange leaves; conditions: the places are there. -/
import Derived.Test.YtnelgadfgeakjaaHeapLaw
import Derived.Test.YtnelgadfgeakjaaReachSpec
import Derived.RangeFuncBox
namespace Go.Proofs.Ytnelgadfgeakjaa
open Go.RowKit

abbrev IntRow (B : Nat) (w : World) (v : Value) (h : List Int) : Prop := w.ownsRow B 2 1 v h.length (cellsOf inL h)
/-- Block b holds the numbers h, in memory of its own; nothing below n0 has changed since W. -/
def HpAt (n0 : Nat) (W : World) (b : Nat) (h : List Int) (w : World) : Prop := n0 ≤ b ∧ Below n0 W w ∧ ∃ v, Boxed w b 46 v ∧ IntRow (b + 1) w v h
abbrev hpV (b : Nat) : Value := .pointer (some ⟨b, 0, none⟩)

theorem waitRecv (s : String) (b : Nat) (w : World) : (receiverAt 48 (.val (hpV b)) false (some s)).run Try.prog w = ((loadVar 46 ⟨b, 0, none⟩).run Try.prog w) := by kernel_rfl
theorem waitLoad (b : Nat) (v : Value) (w : World) (h : w.cell? ⟨b, 0, none⟩ = some v) : (loadVar 46 ⟨b, 0, none⟩).run Try.prog w = .ok v w := by
  have h2 : (isAgg 46).run Try.prog w = .ok false w := by kernel_rfl
  simp [loadVar, Sem.run_bind, h2, h, go_sem]
theorem methLen0 (b : Nat) (w : World) : (method 180 48 (hpV b) "Len").run Try.prog w = ((receiverAt 48 (.val (hpV b)) false (some (("Len".splitOn ".").getLastD "Len"))) >>= fun r => pure (63, r)).run Try.prog w := by kernel_rfl
theorem methLen (b : Nat) (v : Value) (w : World) (h : w.cell? ⟨b, 0, none⟩ = some v) : (method 180 48 (hpV b) "Len").run Try.prog w = .ok (63, v) w := by
  rw [methLen0, Sem.run_bind, waitRecv, waitLoad b v w h]; rfl
theorem methLess0 (b : Nat) (w : World) : (method 180 48 (hpV b) "Less").run Try.prog w = ((receiverAt 48 (.val (hpV b)) false (some (("Less".splitOn ".").getLastD "Less"))) >>= fun r => pure (64, r)).run Try.prog w := by kernel_rfl
theorem methLess (b : Nat) (v : Value) (w : World) (h : w.cell? ⟨b, 0, none⟩ = some v) : (method 180 48 (hpV b) "Less").run Try.prog w = .ok (64, v) w := by
  rw [methLess0, Sem.run_bind, waitRecv, waitLoad b v w h]; rfl
theorem methSwap0 (b : Nat) (w : World) : (method 180 48 (hpV b) "Swap").run Try.prog w = ((receiverAt 48 (.val (hpV b)) false (some (("Swap".splitOn ".").getLastD "Swap"))) >>= fun r => pure (65, r)).run Try.prog w := by kernel_rfl
theorem methSwap (b : Nat) (v : Value) (w : World) (h : w.cell? ⟨b, 0, none⟩ = some v) : (method 180 48 (hpV b) "Swap").run Try.prog w = .ok (65, v) w := by
  rw [methSwap0, Sem.run_bind, waitRecv, waitLoad b v w h]; rfl
theorem methPush (b : Nat) (w : World) : (method 180 48 (hpV b) "Push").run Try.prog w = .ok (67, hpV b) w := by kernel_rfl
theorem methPop (b : Nat) (w : World) : (method 180 48 (hpV b) "Pop").run Try.prog w = .ok (66, hpV b) w := by kernel_rfl

theorem IntRow.form {B : Nat} {w : World} {v : Value} {h : List Int} (k : IntRow B w v h) : ∃ A c, v = .slice A h.length c := by
  rcases k.2 with ⟨hv, h0⟩ | ⟨g, cap, cur, hv, _⟩
  · exact ⟨none, 0, by rw [hv, h0]⟩
  · exact ⟨_, _, hv⟩
theorem IntRow.formP {B : Nat} {w : World} {v : Value} {h : List Int} (k : IntRow B w v h) (h0 : 0 < h.length) : ∃ g c, v = .slice (some ⟨g, 0, none⟩) h.length c ∧ B ≤ g ∧ g < w.heap.size := by
  rcases k.2 with ⟨hv, h0⟩ | ⟨g, cap, cur, hv, hB, hh, _⟩
  · omega
  · exact ⟨g, cap, hv, hB, lt_of_block hh⟩
theorem IntRow.cell {B g c n : Nat} {w : World} {h : List Int} (k : IntRow B w (.slice (some ⟨g, 0, none⟩) n c) h) {j : Nat} (hj : j < h.length) : w.cell? ⟨g, j, none⟩ = some (.int .i64 (M.gat h j)) := by
  rw [M.gat_lt hj]
  have hn : n = h.length := by
    obtain ⟨A, c', hv⟩ := k.form
    injection hv
  subst hn
  exact own_int k hj
theorem IntRow.swap {B g c n : Nat} {w : World} {h : List Int} (k : IntRow B w (.slice (some ⟨g, 0, none⟩) n c) h) (i q : Nat) : IntRow B ((w.setCell ⟨g, i, none⟩ (.int .i64 (M.gat h q))).setCell ⟨g, q, none⟩ (.int .i64 (M.gat h i))) (.slice (some ⟨g, 0, none⟩) n c) (M.swp h i q) := by
  have hn : n = h.length := by
    obtain ⟨A, c', hv⟩ := k.form
    injection hv
  subst hn
  have h1 := ((k.stored i (.int .i64 (M.gat h q))).1.stored q (.int .i64 (M.gat h i))).1
  unfold IntRow M.swp
  rw [cells_map] at h1 ⊢
  rw [List.map_set, List.map_set, List.length_set, List.length_set]
  exact h1

theorem waitLen (B : Nat) (h : List Int) (v : Value) (w : World) (hr : IntRow B w v h) : Calls Try.prog 63 #[v] w fun e w' => e = .returned (.int .i64 h.length) ∧ w = w' := by
  obtain ⟨A, c, rfl⟩ := hr.form
  clear hr
  go_enter Try.func63, Try.ntmps63
  go_wp2
  go_ret
  exact ⟨rfl, rfl⟩

theorem wrapNat {j n : Nat} (h : j < n) (hn : n ≤ 1048576) : IntKind.i64.wrap (j : Int) = j := by simp [IntKind.wrap, IntKind.bits, IntKind.signed]; omega
theorem waitLess (B : Nat) (h : List Int) (v : Value) (w : World) (hr : IntRow B w v h) (j k : Nat) (hj : j < h.length) (hk : k < h.length) (hn : h.length ≤ 1048576) :
    Calls Try.prog 64 #[v, .int .i64 j, .int .i64 k] w fun e w' => e = .returned (.bool (decide (M.gat h k < M.gat h j))) ∧ Below w.heap.size w w' := by
  obtain ⟨g, c, rfl, hB, hg⟩ := hr.formP (by omega)
  have c1 := hr.cell hj
  have c2 := hr.cell hk
  have w1 := wrapNat hj hn
  have w2 := wrapNat hk hn
  clear hr
  go_enter Try.func64, Try.ntmps64
  go_wp2_with fail
  refine wp_region_seq (fun w' => Below w.heap.size w w') [(0, true), (1, true), (2, true), (3, true), (4, true), (5, true), (6, true), (7, true), (8, true), (9, true)] (by kernel_rfl) (by kernel_rfl) (fun _ _ _ _ _ h => h) (by kernel_rfl) (by decide) (Below.refl _ _).drew ?_
  intro hHeld
  repeat (first
    | (refine seq_reads (by simp only [List.getElem?_toArray, List.getElem?_cons_succ, List.getElem?_cons_zero]; first | done | rfl) (by rfl) ?_; apply Exists.intro; apply And.intro; (focus (intro w hSw; obtain ⟨hcS, -⟩ := bcell hSw; go_simp; (try simp only [w1, w2, Int.toNat_natCast]); (first | done | (with_reducible rfl) | (rw [if_pos (by omega)]; done) | (rw [if_pos (by omega)]; with_reducible rfl) | (simp only [hcS _ _ hg, c1, c2]; first | done | (go_simp; first | done | with_reducible rfl)) | (trace_state; fail)))); (try simp only [Act.put, List.setIfInBounds_toArray, List.set_cons_zero, List.set_cons_succ]))
    | (refine seq_pass (by simp only [List.getElem?_toArray, List.getElem?_cons_succ, List.getElem?_cons_zero]; first | done | rfl) (by rfl) hHeld ?_; clear hHeld; intro hHeld; (try simp only [Act.put, List.setIfInBounds_toArray, List.set_cons_zero, List.set_cons_succ])))
  refine seq_end ?_
  go_wp2
  go_ret
  exact ⟨rfl, hHeld⟩
theorem waitSwap (B : Nat) (h : List Int) (v : Value) (w : World) (hr : IntRow B w v h) (j k : Nat) (hj : j < h.length) (hk : k < h.length) (hn : h.length ≤ 1048576) (hjk : j ≠ k) :
    Calls Try.prog 65 #[v, .int .i64 j, .int .i64 k] w fun e w' => e = .returned (.tuple #[]) ∧ IntRow B w' v (M.swp h j k) ∧ Below B w w' := by
  obtain ⟨g, c, rfl, hB, hg⟩ := hr.formP (by omega)
  have c1 := hr.cell hj
  have c2 := hr.cell hk
  have w1 := wrapNat hj hn
  have w2 := wrapNat hk hn
  have hkj : k ≠ j := fun e => hjk e.symm
  have f1 := hr.frozenAt j
  have f2 := hr.frozenAt k
  have HR := Lib.hid hr
  clear hr
  go_enter Try.func65, Try.ntmps65
  go_wp2_with fail
  go_region_with fail
  all_goals go_wp2
  all_goals
    refine bodyPost_end (results_none rfl _ _ _) rfl ⟨rfl, (HR.out.swap j k).drew, (((Below.refl B w).setCell hB _).setCell hB _).drew⟩

theorem HpAt.below {n0 b : Nat} {W w w' : World} {h : List Int} (k : HpAt n0 W b h w) (hb : Below w.heap.size w w') : HpAt n0 W b h w' := by
  obtain ⟨hn, hB, v, hv, hr⟩ := k
  have hlt := hv.lt
  refine ⟨hn, hB.trans (hb.mono (by omega)), v, (hb.block b hlt).trans hv, ?_⟩
  obtain ⟨h1, h2⟩ := hr
  refine ⟨h1, ?_⟩
  rcases h2 with h2 | ⟨g, cap, cur, a1, a2, a3, a4⟩
  · exact .inl h2
  · exact .inr ⟨g, cap, cur, a1, a2, (hb.block g (lt_of_block a3)).trans a3, a4⟩
/-- An exchange, told of the heap. -/
theorem HpAt.swapped {n0 b : Nat} {W w w' : World} {h : List Int} {v : Value} {j q : Nat} (hn : n0 ≤ b) (hB : Below n0 W w) (hv : Boxed w b 46 v) (hr : IntRow (b + 1) w' v (M.swp h j q)) (hb : Below (b + 1) w w') : HpAt n0 W b (M.swp h j q) w' :=
  ⟨hn, hB.trans (hb.mono (by omega)), v, (hb.block b (by omega)).trans hv, hr⟩

theorem ta_int (x : Int) (w : World) : (Instr.typeAssert (.iface 2 (.int .i64 x)) 20 2 true).run Try.prog w = .ok (.tuple #[.int .i64 x, .bool true]) w := by kernel_rfl
theorem int_one (x : Int) : cellsOf inL [x] = [.int .i64 x] := rfl
theorem one_flatI (w : World) (x : Int) (t : TypeId) : Ints (w.alloc (.cells #[.int .i64 x] t)) (some ⟨w.heap.size, 0, none⟩) [x] := by
  refine .inr ⟨w.heap.size, 0, rfl, by simp, fun i t' y u hi hu => ?_⟩
  rcases i with _ | i
  · simp at hi
    subst hi
    rcases t' with _ | t'
    · simp at hu
      subst hu
      simp
    · simp at hu
  · simp at hi
set_option maxHeartbeats 2000000 in
theorem waitPush {n0 b : Nat} {W w : World} {h : List Int} (x : Int) (hp : HpAt n0 W b h w) (hn : h.length ≤ 1000) :
    Calls Try.prog 67 #[hpV b, .iface 2 (.int .i64 x)] w fun e w' => e = .returned (.tuple #[]) ∧ HpAt n0 W b (h ++ [x]) w' := by
  obtain ⟨hnb, hB, v, hv, hr⟩ := hp
  have hta := ta_int x
  obtain ⟨A, c, hvf⟩ := hr.form
  obtain ⟨i0, hi, hz0, hz1, hz2⟩ := info_parts infoInt
  have hc := hv.cell
  have hlt := hv.lt
  have HR := Lib.hid hr
  have HV := Lib.hid hv
  have HB := Lib.hid hB
  clear hr hv hB
  subst hvf
  go_enter Try.func67, Try.ntmps67
  go_wp2_with (at_builtin; refine stop_mk ?_)
  refine stop_un ?_
  refine wpList_append_flat (k := 1) (enc := inL) (l := [x]) rfl _ _ 46 rfl (b + 1) 2 i0 _ 8 Try.underlying46 hi hz0 hz1 hz2 rfl (by decide) (.slice A h.length c) h.length (cellsOf inL h) rfl (HR.out.alloc _) (some ⟨w.heap.size, 0, none⟩) 1 rfl (fun h => by cases h) (one_flatI w x _) (fun _ => rfl) (in_one [x]) (by simp only [List.length_singleton]; unfold maxLen; omega) (by simp only [List.length_singleton]; omega) (by simp; omega) ?_
  intro v' w' hown hgrow
  obtain ⟨g1, cap1, rfl⟩ := ownsRow_succ hown
  obtain ⟨b1, b2, -, -, b3⟩ := HV.out.appended (n₀ := n0) (by decide) (World.ownsRow.mono HR.out (by omega)) (by omega) hnb (World.ownsRow.mono hown (by omega)) hgrow
  have hc1 := b1.cell
  have hf1 := b1.frozen
  have HE : Hid (HpAt n0 W b (h ++ [x]) (w'.setCell ⟨b, 0, none⟩ (.slice (some ⟨g1, 0, none⟩) (h.length + 1) cap1))) := Lib.hid (by
    refine ⟨hnb, HB.out.trans b3, _, b2, ?_⟩
    have h1 := hown.kept (grownBy_setCell' w' b (.slice (some ⟨g1, 0, none⟩) (h.length + 1) cap1)) (.inr (b1.not_row (by decide) hown).symm)
    unfold IntRow
    rw [cellsOf_append, List.length_append]
    exact h1)
  clear hown hgrow b1 b2 b3 hc
  go_wp2
  refine bodyPost_end (results_none rfl _ _ _) rfl ⟨rfl, HE.out⟩

theorem HpAt.pop {n0 b : Nat} {W w : World} {h : List Int} {x : Int} {g c : Nat} (hn : n0 ≤ b) (hB : Below n0 W w) (hv : Boxed w b 46 (.slice (some ⟨g, 0, none⟩) (h.length + 1) c)) (hr : IntRow (b + 1) w (.slice (some ⟨g, 0, none⟩) (h.length + 1) c) (h ++ [x])) :
    HpAt n0 W b h (w.setCell ⟨b, 0, none⟩ (.slice (some ⟨g, 0, none⟩) h.length c)) := by
  refine ⟨hn, hB.setCell hn _, _, hv.set _, ?_⟩
  have h1 : w.ownsRow (b + 1) 2 1 (.slice (some ⟨g, 0, none⟩) (h.length + 1) c) (h.length + 1) (cellsOf inL h ++ cellsOf inL [x]) := by
    have := hr
    unfold IntRow at this
    rw [cellsOf_append, List.length_append] at this
    exact this
  have h2 := ownsRow_pop (n := h.length) (by rw [cellsOf_len (k := 1) (fun _ => rfl)]) h1
  refine h2.kept (grownBy_setCell' w b _) (.inr ?_)
  exact (hv.not_row (by decide) h1).symm
set_option maxHeartbeats 2000000 in
theorem waitPop {n0 b : Nat} {W w : World} {h : List Int} (x : Int) (hp : HpAt n0 W b (h ++ [x]) w) (hn : h.length ≤ 1000) :
    Calls Try.prog 66 #[hpV b] w fun e w' => (∃ v, e = .returned v) ∧ HpAt n0 W b h w' := by
  obtain ⟨hnb, hB, v, hv, hr⟩ := hp
  have hl : (h ++ [x]).length = h.length + 1 := by simp
  obtain ⟨g, c, rfl, hB1, hg⟩ := hr.formP (by omega)
  have hx := hr.cell (j := h.length) (by omega)
  have hcap : h.length + 1 ≤ c := by
    rcases hr.2 with ⟨h0, _⟩ | ⟨g', cap', cur, hv', hg', hh, hnc, _⟩
    · cases h0
    · rw [hl] at hnc hv'; cases hv'; exact hnc
  rw [hl] at hv hr
  have hw := wrapNat (j := h.length) (n := h.length + 1) (by omega) (by omega)
  have hc := hv.cell
  have hf := hv.frozen
  have hlt := hv.lt
  have HE := Lib.hid (HpAt.pop hnb hB hv hr)
  have hbw : wrap64 ((h.length + 1 : Nat) - 1 : Int) = h.length := by rw [IntWalk.wrap64_in _ ⟨by omega, by omega⟩]; omega
  clear hr hv hB hl
  go_enter Try.func66, Try.ntmps66
  go_wp2
  go_ret
  exact ⟨⟨_, rfl⟩, HE.out⟩
end Go.Proofs.Ytnelgadfgeakjaa
