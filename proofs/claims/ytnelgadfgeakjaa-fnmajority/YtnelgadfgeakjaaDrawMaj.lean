/- Proved: what the model draws of numbers of scribes, sets of them and lists of numbers; the cursor stands, and its block and new ones alone are written. No condition. -/
import Derived.Test.YtnelgadfgeakjaaDrawEd
import Derived.Test.YtnelgadfgeakjaaCode
import Derived.Test.YtnelgadfgeakjaaIntRows
import Derived.Test.YtnelgadfgeakjaaHeapWalk
namespace Go.Proofs.Ytnelgadfgeakjaa
open Go.RowKit
set_option maxRecDepth 20000

set_option maxHeartbeats 1000000 in
theorem fromNum_any (B g : Nat) (w : World) (hc : Cur B w g) (lo hi : Int) (h0 : -1000 ≤ lo) (h1 : lo ≤ hi) (h2 : hi ≤ 1000) :
    Calls Try.prog 43 #[.pointer (some ⟨g, 0, none⟩), .int .i64 lo, .int .i64 hi] w (IntOut B g lo hi w) := by
  go_enter Try.func43, Try.ntmps43
  go_wp2_with fail
  refine (l1Below_any B g _ hc (hi - lo + 1) (by omega) (by omega)).mono ?_
  rintro r w1 ⟨n, hn0, hn1, rfl, hc1, hg1⟩
  go_wp2
  go_ret
  exact ⟨lo + n, by omega, by omega, rfl, hc1, hg1⟩

set_option maxHeartbeats 1000000 in
theorem l9Draw_any (B g : Nat) (w : World) (hc : Cur B w g) :
    Calls Try.prog 42 #[.pointer (some ⟨g, 0, none⟩)] w (IntOut B g (-1) 32 w) := by
  go_enter Try.func42, Try.ntmps42
  go_wp2_with fail
  refine (l1Once_any B g _ hc 8 (by omega) (by omega)).mono ?_
  rintro r w1 ⟨b, rfl, hc1, hg1⟩
  clear hc
  rcases b with _ | _
  · go_wp2_with fail
    refine (l1Below_any B g _ hc1 32 (by omega) (by omega)).mono ?_
    rintro r w2 ⟨n, hn0, hn1, rfl, hc2, hg2⟩
    go_wp2
    go_ret
    exact ⟨n, by omega, by omega, rfl, hc2, grownBy_trans hg1 hg2⟩
  · have hlt := hc1.2.1
    go_wp2_with fail
    refine (l1Below_any B g _ (hc1.alloc _) 3 (by omega) (by omega)).mono ?_
    rintro r w2 ⟨n, hn0, hn1, rfl, hc2, hg2⟩
    obtain ⟨bx, -⟩ := box_by hg2 hlt
    have hg : w.grownBy w2 (some g) := grownBy_trans hg1 (grownBy_trans (World.grownBy_alloc _ _ _) hg2)
    clear hg1 hg2
    have hn : n = 0 ∨ n = 1 ∨ n = 2 := by omega
    rcases hn with rfl | rfl | rfl
    · have h0 : w2.cell? ⟨w1.heap.size, 0, none⟩ = some (.int .i64 (-1)) := bx 0
      clear bx
      go_wp2
      go_ret
      exact ⟨_, by omega, by omega, rfl, hc2, hg⟩
    · have h0 : w2.cell? ⟨w1.heap.size, 1, none⟩ = some (.int .i64 31) := bx 1
      clear bx
      go_wp2
      go_ret
      exact ⟨_, by omega, by omega, rfl, hc2, hg⟩
    · have h0 : w2.cell? ⟨w1.heap.size, 2, none⟩ = some (.int .i64 32) := bx 2
      clear bx
      go_wp2
      go_ret
      exact ⟨_, by omega, by omega, rfl, hc2, hg⟩

/-- A number; nothing that was there is written. -/
def NumTop (lo hi : Int) (w : World) (e : Ending) (w' : World) : Prop := ∃ n : Int, lo ≤ n ∧ n ≤ hi ∧ e = .returned (.int .i64 n) ∧ Below w.heap.size w w'
/-- Two numbers; nothing that was there is written. -/
def SetTop (w : World) (e : Ending) (w' : World) : Prop := ∃ s i : Int, -1 ≤ s ∧ s ≤ 32 ∧ -1 ≤ i ∧ i ≤ 5 ∧ e = .returned (.tuple #[.int .i64 s, .int .i64 i]) ∧ Below w.heap.size w w'

theorem DrawCountOk_any (w : World) (a : Option Addr) (len cap : Nat) (hl : len ≤ 4096) (hc : CodeOk w.heap.size w a len) :
    Calls Try.prog 34 #[.slice a len cap] w (NumTop 0 7 w) := by
  go_enter Try.func34, Try.ntmps34
  go_wp2_with fail
  refine (l1New_any w.heap.size _ a len cap (Nat.le_refl _) hl hc).mono ?_
  rintro e w1 ⟨rfl, hc1, hg1⟩
  have hb1 := below_of hg1
  go_wp2_with fail
  refine (fromNum_any _ _ _ hc1 0 7 (by omega) (by omega) (by omega)).mono ?_
  rintro e w2 ⟨n, h0, h1, rfl, hc2, hg2⟩
  go_wp2
  go_ret
  exact ⟨n, h0, h1, rfl, below_by hb1 hg2⟩
theorem DrawMostOf_any (w : World) (a : Option Addr) (len cap : Nat) (hl : len ≤ 4096) (hc : CodeOk w.heap.size w a len) :
    Calls Try.prog 15 #[.slice a len cap] w (NumTop 0 7 w) := by
  go_enter Try.func15, Try.ntmps15
  go_wp2_with fail
  refine (DrawCountOk_any _ a len cap hl hc).mono ?_
  rintro e w2 ⟨n, h0, h1, rfl, hb⟩
  go_wp2
  go_ret
  exact ⟨n, h0, h1, rfl, hb⟩
theorem DrawInSet_any (w : World) (a : Option Addr) (len cap : Nat) (hl : len ≤ 4096) (hc : CodeOk w.heap.size w a len) :
    Calls Try.prog 30 #[.slice a len cap] w (SetTop w) := by
  go_enter Try.func30, Try.ntmps30
  go_wp2_with fail
  refine (l1New_any w.heap.size _ a len cap (Nat.le_refl _) hl hc).mono ?_
  rintro e w1 ⟨rfl, hc1, hg1⟩
  have hb1 := below_of hg1
  go_wp2_with fail
  refine (l9Draw_any _ _ _ hc1).mono ?_
  rintro e w2 ⟨s, h0, h1, rfl, hc2, hg2⟩
  go_wp2_with fail
  refine (fromNum_any _ _ _ hc2 (-1) 5 (by omega) (by omega) (by omega)).mono ?_
  rintro e w3 ⟨i, i0, i1, rfl, hc3, hg3⟩
  go_wp2
  refine bodyPost_ret (results_tmp2 rfl _ _ _) rfl ?_
  exact ⟨s, i, h0, h1, i0, i1, rfl, below_by hb1 (grownBy_trans hg2 hg3)⟩
theorem DrawWith_any (w : World) (a : Option Addr) (len cap : Nat) (hl : len ≤ 4096) (hc : CodeOk w.heap.size w a len) :
    Calls Try.prog 12 #[.slice a len cap] w (SetTop w) := by
  go_enter Try.func12, Try.ntmps12
  go_wp2_with fail
  refine (DrawInSet_any _ a len cap hl hc).mono ?_
  rintro e w2 ⟨s, i, h0, h1, i0, i1, rfl, hb⟩
  go_wp2
  refine bodyPost_ret (results_tmp2 rfl _ _ _) rfl ?_
  exact ⟨s, i, h0, h1, i0, i1, rfl, hb⟩

/-- At most six numbers, in new memory; nothing that was there is written. -/
def IntsTop (w : World) (e : Ending) (w' : World) : Prop := ∃ (A : Option Addr) (l : List Int) (c : Nat), e = .returned (.slice A l.length c) ∧ Ints w' A l ∧ (A = none → c = 0) ∧ l.length ≤ 6 ∧ Below w.heap.size w w'
theorem own_byI {b g : Nat} {x y : World} {v : Value} {l : List Int} (h : IntsOwn b x v l) (hg : x.grownBy y (some g)) (hb : g < b) : IntsOwn b y v l := by
  obtain ⟨hl, h0 | ⟨k, cap, cur, rfl, hk, hh, hr⟩⟩ := h
  · exact ⟨hl, .inl h0⟩
  · refine ⟨hl, .inr ⟨k, cap, cur, rfl, hk, (hg.block k (Array.getElem?_eq_some_iff.1 hh).1 ?_).trans hh, hr⟩⟩
    intro e
    injection e with e
    omega

set_option maxHeartbeats 4000000 in
theorem DrawReached_any (w : World) (a : Option Addr) (len cap : Nat) (hl : len ≤ 4096) (hc : CodeOk w.heap.size w a len) :
    Calls Try.prog 25 #[.slice a len cap] w (IntsTop w) := by
  obtain ⟨i0, hi, hz0, hz1, hz2⟩ := info_parts infoInt
  go_enter Try.func25, Try.ntmps25
  go_wp2_with fail
  refine (l1New_any w.heap.size _ a len cap (Nat.le_refl _) hl hc).mono ?_
  rintro e w1 ⟨rfl, hc1, hg1⟩
  have hb1 := below_of hg1
  clear hg1 hc
  go_wp2_with fail
  refine (l1Below_any _ _ _ hc1 2 (by omega) (by omega)).mono ?_
  rintro e w2 ⟨n, hn0, hn1, rfl, hc2, hg2⟩
  replace hb1 := below_by hb1 hg2
  clear hg2 hc1
  go_wp2_with fail
  refine (l1Once_any _ _ _ hc2 10 (by omega) (by omega)).mono ?_
  rintro e w3 ⟨z, rfl, hc3, hg3⟩
  replace hb1 := below_by hb1 hg3
  clear hg3 hc2
-- LOOP
  rcases z with _ | _
  · go_upto_region 5 with (fail)
    obtain ⟨q0, hq0⟩ := Int.eq_ofNat_of_zero_le (show 0 ≤ (3 + 2 * n) by omega)
    have hq6 : q0 ≤ 6 := by omega
    rw [hq0]
    clear hq0
    go_upto_region 6 with (fail)
    go_loopw [4, 5] (fun n o wr => ∃ (q : Nat) (s : List Int) (v : Value), n = .int .i64 q ∧ o = v ∧ s.length + q ≤ 6 ∧ IntsOwn (w.heap.size + 1) wr v s ∧ Cur w.heap.size wr w.heap.size ∧ Below w.heap.size w wr) (fun n _ _ => (intOf n).toNat)
    case atStart => exact ⟨q0, [], _, rfl, rfl, by simp; omega, World.ownsRow_made _ #[] 0 (by have := hc3.2.1; omega) (Nat.zero_le _) rfl, hc3.alloc _, hb1.alloc (by have := hc3.2.1; omega) _⟩
    case round =>
      clear hc3 hb1
      obtain ⟨q, s, v, rfl, hov, hs, ho, hcur, hb⟩ := hrel
      obtain ⟨A, c, hvf⟩ := IntRow.form ho
      rw [hvf] at hov ho
      subst hov
      have HO := Lib.hid ho
      have HB := Lib.hid hb
      clear ho hb
      rcases q with _ | q
      · have HI := Lib.hid (own_flat (k := 1) (enc := inL) (fun _ => rfl) HO.out)
        go_wp2
        go_ret
        obtain ⟨A', c', hv, hlc, hf⟩ := HI.out
        injection hv with hA hn hcc
        subst hA; subst hcc
        refine ⟨_, s, _, rfl, hf, fun hn => ?_, by omega, HB.out⟩
        rcases HO.out.2 with ⟨h0, _⟩ | ⟨g', cap', cur, hv', _⟩
        · injection h0
        · rw [hn] at hv'; cases hv'
      · go_wp2_with (first | (go_at_call 38; refine (l1Below_any _ _ _ hcur 7 (by omega) (by omega)).mono ?_; rintro e wx ⟨x, hx0, hx1, rfl, hcx, hgx⟩; have HOX := Lib.hid (own_byI HO.out hgx (by omega)); have HBX := Lib.hid (below_by HB.out hgx); clear hgx hcur) | (at_builtin; refine stop_mk ?_))
        refine stop_un ?_
        have hlx := hcx.2.1
        refine wpList_append_flat (k := 1) (enc := inL) (l := [x]) rfl _ _ 33 rfl (w.heap.size + 1) 2 i0 _ 8 Try.underlying33 hi hz0 hz1 hz2 rfl (by decide) (.slice A s.length c) s.length (cellsOf inL s) rfl (World.ownsRow.alloc HOX.out _) (some ⟨wx.heap.size, 0, none⟩) 1 rfl (fun h => by cases h) (one_flatI wx x _) (fun _ => rfl) (in_one [x]) (by simp only [List.length_singleton]; unfold maxLen; omega) (by simp only [List.length_singleton]; omega) (by simp; omega) ?_
        intro v' w' hown hgrow
        have HN : Hid (IntsOwn (w.heap.size + 1) w' v' (s ++ [x])) := Lib.hid (by
          unfold IntsOwn
          rw [cellsOf_append, List.length_append]
          exact hown)
        have HBN := Lib.hid (HBX.out.alloc (by omega) (.cells #[.int .i64 x] 2) |>.grown hgrow (by simp; omega) (fun k hk => by have := HOX.out.lt k hk; omega))
        have hcn := (hcx.alloc (.cells #[.int .i64 x] 2)).kept hgrow (fun k hk => by have := HOX.out.lt k hk; omega)
        clear hown hgrow hcx
        go_wp2
        go_roundw
        case rel => exact ⟨q, s ++ [x], v', by go_num, rfl, by simp; omega, HN.out, hcn, HBN.out⟩
        case measure => simp [intOf]
  · go_upto_region 5 with (go_at_call 38; refine (l1Below_any _ _ _ hc3 7 (by omega) (by omega)).mono ?_; rintro e w4 ⟨m, hm0, hm1, rfl, hc4, hg4⟩; have hb4 := below_by hb1 hg4; clear hg4 hc3 hb1)
    obtain ⟨q0, hq0⟩ := Int.eq_ofNat_of_zero_le (show 0 ≤ m by omega)
    have hq6 : q0 ≤ 6 := by omega
    rw [hq0]
    clear hq0
    go_upto_region 6 with (fail)
    go_loopw [4, 5] (fun n o wr => ∃ (q : Nat) (s : List Int) (v : Value), n = .int .i64 q ∧ o = v ∧ s.length + q ≤ 6 ∧ IntsOwn (w.heap.size + 1) wr v s ∧ Cur w.heap.size wr w.heap.size ∧ Below w.heap.size w wr) (fun n _ _ => (intOf n).toNat)
    case atStart => exact ⟨q0, [], _, rfl, rfl, by simp; omega, World.ownsRow_made _ #[] 0 (by have := hc4.2.1; omega) (Nat.zero_le _) rfl, hc4.alloc _, hb4.alloc (by have := hc4.2.1; omega) _⟩
    case round =>
      clear hc4 hb4
      obtain ⟨q, s, v, rfl, hov, hs, ho, hcur, hb⟩ := hrel
      obtain ⟨A, c, hvf⟩ := IntRow.form ho
      rw [hvf] at hov ho
      subst hov
      have HO := Lib.hid ho
      have HB := Lib.hid hb
      clear ho hb
      rcases q with _ | q
      · have HI := Lib.hid (own_flat (k := 1) (enc := inL) (fun _ => rfl) HO.out)
        go_wp2
        go_ret
        obtain ⟨A', c', hv, hlc, hf⟩ := HI.out
        injection hv with hA hn hcc
        subst hA; subst hcc
        refine ⟨_, s, _, rfl, hf, fun hn => ?_, by omega, HB.out⟩
        rcases HO.out.2 with ⟨h0, _⟩ | ⟨g', cap', cur, hv', _⟩
        · injection h0
        · rw [hn] at hv'; cases hv'
      · go_wp2_with (first | (go_at_call 38; refine (l1Below_any _ _ _ hcur 7 (by omega) (by omega)).mono ?_; rintro e wx ⟨x, hx0, hx1, rfl, hcx, hgx⟩; have HOX := Lib.hid (own_byI HO.out hgx (by omega)); have HBX := Lib.hid (below_by HB.out hgx); clear hgx hcur) | (at_builtin; refine stop_mk ?_))
        refine stop_un ?_
        have hlx := hcx.2.1
        refine wpList_append_flat (k := 1) (enc := inL) (l := [x]) rfl _ _ 33 rfl (w.heap.size + 1) 2 i0 _ 8 Try.underlying33 hi hz0 hz1 hz2 rfl (by decide) (.slice A s.length c) s.length (cellsOf inL s) rfl (World.ownsRow.alloc HOX.out _) (some ⟨wx.heap.size, 0, none⟩) 1 rfl (fun h => by cases h) (one_flatI wx x _) (fun _ => rfl) (in_one [x]) (by simp only [List.length_singleton]; unfold maxLen; omega) (by simp only [List.length_singleton]; omega) (by simp; omega) ?_
        intro v' w' hown hgrow
        have HN : Hid (IntsOwn (w.heap.size + 1) w' v' (s ++ [x])) := Lib.hid (by
          unfold IntsOwn
          rw [cellsOf_append, List.length_append]
          exact hown)
        have HBN := Lib.hid (HBX.out.alloc (by omega) (.cells #[.int .i64 x] 2) |>.grown hgrow (by simp; omega) (fun k hk => by have := HOX.out.lt k hk; omega))
        have hcn := (hcx.alloc (.cells #[.int .i64 x] 2)).kept hgrow (fun k hk => by have := HOX.out.lt k hk; omega)
        clear hown hgrow hcx
        go_wp2
        go_roundw
        case rel => exact ⟨q, s ++ [x], v', by go_num, rfl, by simp; omega, HN.out, hcn, HBN.out⟩
        case measure => simp [intOf]
end Go.Proofs.Ytnelgadfgeakjaa
