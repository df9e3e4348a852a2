/- Proved, in parts: Proved: the library's test whether two lists are the same, of entries, of lasts and of copies, answers whether they are; nothing that was there is written. Condition: lists of at most a million. Proved: the program's own test whether two works, two shelves, two books are the same in all answers whether they are, as plain data; nothing that was there is written. Condition: texts and lists of at most a million. -/
import Derived.Test.YtdoeiphnalbinaaPart12
import Derived.Test.YtdoeiphnalbinaaPart04
import Derived.Test.YtdoeiphnalbinaaPart06
import Derived.Test.YtdoeiphnalbinaaPart05
import Derived.Test.YtdoeiphnalbinaaPart02
import Derived.Test.YtdoeiphnalbinaaPart07
namespace Go.Proofs.Ytdoeiphnalbinaa
open Go.RowKit
set_option maxRecDepth 20000

set_option maxHeartbeats 4000000 in
theorem eqsEn_any (A B : Option Addr) (l m : List M.En) (ca cb : Nat) (w : World) (hl : Ens w A l) (hm : Ens w B m) (hlen : l.length ≤ 1048576) :
    Calls Try.prog 20 #[.slice A l.length ca, .slice B m.length cb] w fun e w' => e = .returned (.bool (decide (l = m))) ∧ Below w.heap.size w w' := by
  by_cases hl1 : l.length = m.length
  · have e1 : ((l.length : Int) != (m.length : Int)) = false := by simp [hl1]
    have HL1 := Lib.hid hl1
    clear hl1
    go_enter Try.func20, Try.ntmps20
    go_wp2
    go_loopw [13] (fun i wr => ∃ j : Nat, i = .int .i64 j ∧ j ≤ l.length ∧ l.take j = m.take j ∧ Below w.heap.size w wr) (fun i _ => l.length - (intOf i).toNat)
    case atStart => exact ⟨0, rfl, Nat.zero_le _, by simp, Below.refl _ _⟩
    case round =>
      obtain ⟨j, rfl, hj, hup, hbl⟩ := hrel
      have HU := Lib.hid hup
      clear hup
      by_cases hlt : j < l.length
      · have hlt2 : j < m.length := by have := HL1.out; omega
        obtain ⟨g, o, rfl, zb, c0, c1, c2, c3, c4, c5, c6, c7, c8, c9⟩ := Ens_at (hl.below hbl) hlt
        obtain ⟨g', o', rfl, zb', d0, d1, d2, d3, d4, d5, d6, d7, d8, d9⟩ := Ens_at (hm.below hbl) hlt2
        have w1 : IntKind.i64.wrap (j : Int) = j := by simp [IntKind.wrap, IntKind.bits, IntKind.signed]; omega
        have HLL := Lib.hid hl
        have HMM := Lib.hid hm
        clear hl hm
        go_wp2_with fail
        refine wp_region_seq (fun w' => Below wr.heap.size wr w') [(0, true), (1, true), (2, true), (3, true), (4, true), (5, true), (6, true), (7, true), (8, true)] (by kernel_rfl) (by kernel_rfl) (fun _ _ _ _ _ h => h) (by kernel_rfl) (by decide) (Below.refl _ _).drew ?_
        intro hHeld
        repeat (first
          | (refine seq_read (by simp only [List.getElem?_toArray, List.getElem?_cons_succ, List.getElem?_cons_zero]; first | done | rfl) (by rfl) (fun w _ => enxneq_read rfl rfl rfl w) ?_; (try simp only [Act.put, List.setIfInBounds_toArray, List.set_cons_zero, List.set_cons_succ]))
          | (refine seq_skip (by simp only [List.getElem?_toArray, List.getElem?_cons_succ, List.getElem?_cons_zero]; first | done | rfl) (by rfl) ?_; (try simp only [Act.put, List.setIfInBounds_toArray, List.set_cons_zero, List.set_cons_succ]))
          | (refine seq_reads (by simp only [List.getElem?_toArray, List.getElem?_cons_succ, List.getElem?_cons_zero]; first | done | rfl) (by rfl) ?_; apply Exists.intro; apply And.intro; (focus (intro w hSw; obtain ⟨hcS, -⟩ := bcell hSw; go_simp; (try with_reducible rfl); done)); (try simp only [Act.put, List.setIfInBounds_toArray, List.set_cons_zero, List.set_cons_succ]))
          | (refine seq_pass (by simp only [List.getElem?_toArray, List.getElem?_cons_succ, List.getElem?_cons_zero]; first | done | rfl) (by rfl) hHeld ?_; clear hHeld; intro hHeld; (try simp only [Act.put, List.setIfInBounds_toArray, List.set_cons_zero, List.set_cons_succ])))
        refine seq_end ?_
        rcases hq : M.enxEq l[j] m[j] with _ | _
        · have HE : Hid (decide (l = m) = false) := Lib.hid (decide_eq_false (fun e => by
            have e3 : l[j] = m[j] := by simp [e]
            rw [(M.enxEq_iff _ _).2 e3] at hq; cases hq))
          go_wp2
          go_ret
          exact ⟨ret_bool HE.out.symm, next hbl hHeld⟩
        · have HN := Lib.hid (show l.take (j + 1) = m.take (j + 1) by
            rw [List.take_succ_eq_append_getElem hlt, List.take_succ_eq_append_getElem hlt2, HU.out, (M.enxEq_iff _ _).1 hq])
          go_wp2
          go_roundw
          case rel => exact ⟨j + 1, by go_num, by omega, HN.out, next hbl hHeld⟩
          case measure => simp [intOf]; omega
      · have HE : Hid (decide (l = m) = true) := Lib.hid (decide_eq_true (by
          have h1 := HU.out
          have h2 := HL1.out
          rwa [List.take_of_length_le (by omega), List.take_of_length_le (by omega)] at h1))
        go_wp2
        go_ret
        exact ⟨ret_bool HE.out.symm, hbl⟩
  · have e1 : ((l.length : Int) != (m.length : Int)) = true := by simp; omega
    have HE : Hid (decide (l = m) = false) := Lib.hid (decide_eq_false (fun e => hl1 (by rw [e])))
    clear hl1
    go_enter Try.func20, Try.ntmps20
    go_wp2
    go_ret
    exact ⟨ret_bool HE.out.symm, Below.refl _ _⟩
set_option maxHeartbeats 4000000 in
theorem eqsLa_any (A B : Option Addr) (l m : List M.La) (ca cb : Nat) (w : World) (hl : Las w A l) (hm : Las w B m) (hlen : l.length ≤ 1048576) :
    Calls Try.prog 33 #[.slice A l.length ca, .slice B m.length cb] w fun e w' => e = .returned (.bool (decide (l = m))) ∧ Below w.heap.size w w' := by
  by_cases hl1 : l.length = m.length
  · have e1 : ((l.length : Int) != (m.length : Int)) = false := by simp [hl1]
    have HL1 := Lib.hid hl1
    clear hl1
    go_enter Try.func33, Try.ntmps33
    go_wp2
    go_loopw [13] (fun i wr => ∃ j : Nat, i = .int .i64 j ∧ j ≤ l.length ∧ l.take j = m.take j ∧ Below w.heap.size w wr) (fun i _ => l.length - (intOf i).toNat)
    case atStart => exact ⟨0, rfl, Nat.zero_le _, by simp, Below.refl _ _⟩
    case round =>
      obtain ⟨j, rfl, hj, hup, hbl⟩ := hrel
      have HU := Lib.hid hup
      clear hup
      by_cases hlt : j < l.length
      · have hlt2 : j < m.length := by have := HL1.out; omega
        obtain ⟨g, o, rfl, zb, c0, c1, c2, c3⟩ := Las_at (hl.below hbl) hlt
        obtain ⟨g', o', rfl, zb', d0, d1, d2, d3⟩ := Las_at (hm.below hbl) hlt2
        have w1 : IntKind.i64.wrap (j : Int) = j := by simp [IntKind.wrap, IntKind.bits, IntKind.signed]; omega
        have HLL := Lib.hid hl
        have HMM := Lib.hid hm
        clear hl hm
        go_wp2_with fail
        refine wp_region_seq (fun w' => Below wr.heap.size wr w') [(0, true), (1, true), (2, true), (3, true), (4, true), (5, true), (6, true), (7, true), (8, true)] (by kernel_rfl) (by kernel_rfl) (fun _ _ _ _ _ h => h) (by kernel_rfl) (by decide) (Below.refl _ _).drew ?_
        intro hHeld
        repeat (first
          | (refine seq_read (by simp only [List.getElem?_toArray, List.getElem?_cons_succ, List.getElem?_cons_zero]; first | done | rfl) (by rfl) (fun w _ => laxneq_read rfl rfl rfl w) ?_; (try simp only [Act.put, List.setIfInBounds_toArray, List.set_cons_zero, List.set_cons_succ]))
          | (refine seq_skip (by simp only [List.getElem?_toArray, List.getElem?_cons_succ, List.getElem?_cons_zero]; first | done | rfl) (by rfl) ?_; (try simp only [Act.put, List.setIfInBounds_toArray, List.set_cons_zero, List.set_cons_succ]))
          | (refine seq_reads (by simp only [List.getElem?_toArray, List.getElem?_cons_succ, List.getElem?_cons_zero]; first | done | rfl) (by rfl) ?_; apply Exists.intro; apply And.intro; (focus (intro w hSw; obtain ⟨hcS, -⟩ := bcell hSw; go_simp; (try with_reducible rfl); done)); (try simp only [Act.put, List.setIfInBounds_toArray, List.set_cons_zero, List.set_cons_succ]))
          | (refine seq_pass (by simp only [List.getElem?_toArray, List.getElem?_cons_succ, List.getElem?_cons_zero]; first | done | rfl) (by rfl) hHeld ?_; clear hHeld; intro hHeld; (try simp only [Act.put, List.setIfInBounds_toArray, List.set_cons_zero, List.set_cons_succ])))
        refine seq_end ?_
        rcases hq : M.laxEq l[j] m[j] with _ | _
        · have HE : Hid (decide (l = m) = false) := Lib.hid (decide_eq_false (fun e => by
            have e3 : l[j] = m[j] := by simp [e]
            rw [(M.laxEq_iff _ _).2 e3] at hq; cases hq))
          go_wp2
          go_ret
          exact ⟨ret_bool HE.out.symm, next hbl hHeld⟩
        · have HN := Lib.hid (show l.take (j + 1) = m.take (j + 1) by
            rw [List.take_succ_eq_append_getElem hlt, List.take_succ_eq_append_getElem hlt2, HU.out, (M.laxEq_iff _ _).1 hq])
          go_wp2
          go_roundw
          case rel => exact ⟨j + 1, by go_num, by omega, HN.out, next hbl hHeld⟩
          case measure => simp [intOf]; omega
      · have HE : Hid (decide (l = m) = true) := Lib.hid (decide_eq_true (by
          have h1 := HU.out
          have h2 := HL1.out
          rwa [List.take_of_length_le (by omega), List.take_of_length_le (by omega)] at h1))
        go_wp2
        go_ret
        exact ⟨ret_bool HE.out.symm, hbl⟩
  · have e1 : ((l.length : Int) != (m.length : Int)) = true := by simp; omega
    have HE : Hid (decide (l = m) = false) := Lib.hid (decide_eq_false (fun e => hl1 (by rw [e])))
    clear hl1
    go_enter Try.func33, Try.ntmps33
    go_wp2
    go_ret
    exact ⟨ret_bool HE.out.symm, Below.refl _ _⟩
set_option maxHeartbeats 4000000 in
theorem eqsCp_any (A B : Option Addr) (l m : List M.Cp) (ca cb : Nat) (w : World) (hl : Cps w A l) (hm : Cps w B m) (hlen : l.length ≤ 1048576) :
    Calls Try.prog 43 #[.slice A l.length ca, .slice B m.length cb] w fun e w' => e = .returned (.bool (decide (l = m))) ∧ Below w.heap.size w w' := by
  by_cases hl1 : l.length = m.length
  · have e1 : ((l.length : Int) != (m.length : Int)) = false := by simp [hl1]
    have HL1 := Lib.hid hl1
    clear hl1
    go_enter Try.func43, Try.ntmps43
    go_wp2
    go_loopw [13] (fun i wr => ∃ j : Nat, i = .int .i64 j ∧ j ≤ l.length ∧ l.take j = m.take j ∧ Below w.heap.size w wr) (fun i _ => l.length - (intOf i).toNat)
    case atStart => exact ⟨0, rfl, Nat.zero_le _, by simp, Below.refl _ _⟩
    case round =>
      obtain ⟨j, rfl, hj, hup, hbl⟩ := hrel
      have HU := Lib.hid hup
      clear hup
      by_cases hlt : j < l.length
      · have hlt2 : j < m.length := by have := HL1.out; omega
        obtain ⟨g, o, rfl, zb, c0, c1, c2, c3, c4⟩ := Cps_at (hl.below hbl) hlt
        obtain ⟨g', o', rfl, zb', d0, d1, d2, d3, d4⟩ := Cps_at (hm.below hbl) hlt2
        have w1 : IntKind.i64.wrap (j : Int) = j := by simp [IntKind.wrap, IntKind.bits, IntKind.signed]; omega
        have HLL := Lib.hid hl
        have HMM := Lib.hid hm
        clear hl hm
        go_wp2_with fail
        refine wp_region_seq (fun w' => Below wr.heap.size wr w') [(0, true), (1, true), (2, true), (3, true), (4, true), (5, true), (6, true), (7, true), (8, true)] (by kernel_rfl) (by kernel_rfl) (fun _ _ _ _ _ h => h) (by kernel_rfl) (by decide) (Below.refl _ _).drew ?_
        intro hHeld
        repeat (first
          | (refine seq_read (by simp only [List.getElem?_toArray, List.getElem?_cons_succ, List.getElem?_cons_zero]; first | done | rfl) (by rfl) (fun w _ => cpxneq_read rfl rfl rfl w) ?_; (try simp only [Act.put, List.setIfInBounds_toArray, List.set_cons_zero, List.set_cons_succ]))
          | (refine seq_skip (by simp only [List.getElem?_toArray, List.getElem?_cons_succ, List.getElem?_cons_zero]; first | done | rfl) (by rfl) ?_; (try simp only [Act.put, List.setIfInBounds_toArray, List.set_cons_zero, List.set_cons_succ]))
          | (refine seq_reads (by simp only [List.getElem?_toArray, List.getElem?_cons_succ, List.getElem?_cons_zero]; first | done | rfl) (by rfl) ?_; apply Exists.intro; apply And.intro; (focus (intro w hSw; obtain ⟨hcS, -⟩ := bcell hSw; go_simp; (try with_reducible rfl); done)); (try simp only [Act.put, List.setIfInBounds_toArray, List.set_cons_zero, List.set_cons_succ]))
          | (refine seq_pass (by simp only [List.getElem?_toArray, List.getElem?_cons_succ, List.getElem?_cons_zero]; first | done | rfl) (by rfl) hHeld ?_; clear hHeld; intro hHeld; (try simp only [Act.put, List.setIfInBounds_toArray, List.set_cons_zero, List.set_cons_succ])))
        refine seq_end ?_
        rcases hq : M.cpxEq l[j] m[j] with _ | _
        · have HE : Hid (decide (l = m) = false) := Lib.hid (decide_eq_false (fun e => by
            have e3 : l[j] = m[j] := by simp [e]
            rw [(M.cpxEq_iff _ _).2 e3] at hq; cases hq))
          go_wp2
          go_ret
          exact ⟨ret_bool HE.out.symm, next hbl hHeld⟩
        · have HN := Lib.hid (show l.take (j + 1) = m.take (j + 1) by
            rw [List.take_succ_eq_append_getElem hlt, List.take_succ_eq_append_getElem hlt2, HU.out, (M.cpxEq_iff _ _).1 hq])
          go_wp2
          go_roundw
          case rel => exact ⟨j + 1, by go_num, by omega, HN.out, next hbl hHeld⟩
          case measure => simp [intOf]; omega
      · have HE : Hid (decide (l = m) = true) := Lib.hid (decide_eq_true (by
          have h1 := HU.out
          have h2 := HL1.out
          rwa [List.take_of_length_le (by omega), List.take_of_length_le (by omega)] at h1))
        go_wp2
        go_ret
        exact ⟨ret_bool HE.out.symm, hbl⟩
  · have e1 : ((l.length : Int) != (m.length : Int)) = true := by simp; omega
    have HE : Hid (decide (l = m) = false) := Lib.hid (decide_eq_false (fun e => hl1 (by rw [e])))
    clear hl1
    go_enter Try.func43, Try.ntmps43
    go_wp2
    go_ret
    exact ⟨ret_bool HE.out.symm, Below.refl _ _⟩
end Go.Proofs.Ytdoeiphnalbinaa
namespace Go.Proofs.Ytdoeiphnalbinaa
open Go.RowKit
set_option maxRecDepth 20000

set_option maxHeartbeats 4000000 in
theorem sameWork_any (x y : Wr) (w : World) (hx : Cps w x.ad x.cps) (hy : Cps w y.ad y.cps) (hlen : x.cps.length ≤ 1048576) :
    Calls Try.prog 32 #[.agg #[.string x.name, .int .i64 x.owner, .slice x.ad x.cps.length x.cap], .agg #[.string y.name, .int .i64 y.owner, .slice y.ad y.cps.length y.cap]] w fun e w' => e = .returned (.bool (decide (x.wk = y.wk))) ∧ Below w.heap.size w w' := by
  have h0 := (holds_new w #[.string x.name, .int .i64 x.owner, .slice x.ad x.cps.length x.cap] 80).alloc (.cells #[.string y.name, .int .i64 y.owner, .slice y.ad y.cps.length y.cap] 80)
  have h1 := holds_new (w.alloc (.cells #[.string x.name, .int .i64 x.owner, .slice x.ad x.cps.length x.cap] 80)) #[.string y.name, .int .i64 y.owner, .slice y.ad y.cps.length y.cap] 80
  have b0 := ((Below.refl w.heap.size w).alloc (Nat.le_refl _) (.cells #[.string x.name, .int .i64 x.owner, .slice x.ad x.cps.length x.cap] 80)).alloc (by simp) (.cells #[.string y.name, .int .i64 y.owner, .slice y.ad y.cps.length y.cap] 80)
  rw [World.size_alloc] at h1
  obtain ⟨k0, k1, k2⟩ := h0.three
  obtain ⟨m0, m1, m2⟩ := h1.three
  have HX := Lib.hid hx
  have HY := Lib.hid hy
  clear hx hy
  by_cases e1 : x.name = y.name
  · rcases e2 : (x.owner == y.owner) with _ | _
    · have HE : Hid (decide (x.wk = y.wk) = false) := Lib.hid (decide_eq_false (fun e => by
        have e3 : x.owner = y.owner := congrArg M.Wk.owner e
        rw [e3] at e2; simp at e2))
      have f1 : (x.name.toList == y.name.toList) = true := by rw [e1]; exact beq_self_eq_true _
      clear e1
      go_enter Try.func32, Try.ntmps32
      go_wp2
      go_ret
      exact ⟨ret_bool HE.out.symm, b0⟩
    · have HE : Hid (decide (x.wk = y.wk) = decide (x.cps = y.cps)) := Lib.hid (by
        have e3 : x.owner = y.owner := by simpa using e2
        unfold Wr.wk
        rw [e1, e3]
        by_cases hc : x.cps = y.cps <;> simp [hc])
      have f1 : (x.name.toList == y.name.toList) = true := by rw [e1]; exact beq_self_eq_true _
      clear e1
      go_enter Try.func32, Try.ntmps32
      go_wp2_with fail
      refine (eqsCp_any x.ad y.ad x.cps y.cps x.cap y.cap _ (HX.out.below b0) (HY.out.below b0) hlen).mono ?_
      rintro r w1 ⟨rfl, b1⟩
      replace b0 := next b0 b1
      clear b1
      go_wp2
      go_ret
      exact ⟨ret_bool HE.out.symm, b0⟩
  · have HE : Hid (decide (x.wk = y.wk) = false) := Lib.hid (decide_eq_false (fun e => e1 (congrArg M.Wk.name e)))
    have f1 := txt_other e1
    clear e1
    go_enter Try.func32, Try.ntmps32
    go_wp2
    go_ret
    exact ⟨ret_bool HE.out.symm, b0⟩
set_option maxHeartbeats 4000000 in
theorem eqfWk_any (A B : Option Addr) (l m : List Wr) (ca cb : Nat) (w : World) (hl : Wks w A l) (hm : Wks w B m) (hlen : l.length ≤ 1048576) (hp : WrsIn 1048576 l) :
    Calls Try.prog 31 #[.slice A l.length ca, .slice B m.length cb, .func (.func 32) #[] #[]] w fun e w' => e = .returned (.bool (decide (l.map Wr.wk = m.map Wr.wk))) ∧ Below w.heap.size w w' := by
  by_cases hl1 : l.length = m.length
  · have e1 : ((l.length : Int) != (m.length : Int)) = false := by simp [hl1]
    have HL1 := Lib.hid hl1
    clear hl1
    go_enter Try.func31, Try.ntmps31
    go_wp2
    go_loopw [17] (fun i wr => ∃ j : Nat, i = .int .i64 j ∧ j ≤ l.length ∧ (l.take j).map Wr.wk = (m.take j).map Wr.wk ∧ Below w.heap.size w wr) (fun i _ => l.length - (intOf i).toNat)
    case atStart => exact ⟨0, rfl, Nat.zero_le _, by simp, Below.refl _ _⟩
    case round =>
      obtain ⟨j, rfl, hj, hup, hbl⟩ := hrel
      have HU := Lib.hid hup
      clear hup
      by_cases hlt : j < l.length
      · have hlt2 : j < m.length := by have := HL1.out; omega
        obtain ⟨g, o, rfl, zb, c0, c1, c2, hca⟩ := Wks_at (hl.below hbl) hlt
        obtain ⟨g', o', rfl, zb', d0, d1, d2, hcb⟩ := Wks_at (hm.below hbl) hlt2
        have w1 : IntKind.i64.wrap (j : Int) = j := by simp [IntKind.wrap, IntKind.bits, IntKind.signed]; omega
        have hxc := (hp _ (List.getElem_mem hlt)).2.1
        have HLL := Lib.hid hl
        have HMM := Lib.hid hm
        clear hl hm
        obtain ⟨x, hx⟩ : ∃ x, l[j] = x := ⟨_, rfl⟩
        obtain ⟨y, hy⟩ : ∃ y, m[j] = y := ⟨_, rfl⟩
        rw [hx] at c0 c1 c2 hca hxc
        rw [hy] at d0 d1 d2 hcb
        have HX := Lib.hid hx
        have HY := Lib.hid hy
        have HCA := Lib.hid hca
        have HCB := Lib.hid hcb
        clear hx hy hca hcb
        have bq := ((Below.refl wr.heap.size wr).alloc (Nat.le_refl _) (.cells #[.string x.name, .int .i64 x.owner, .slice x.ad x.cps.length x.cap] 80)).alloc (by simp) (.cells #[.string y.name, .int .i64 y.owner, .slice y.ad y.cps.length y.cap] 80)
        go_wp2_with fail
        refine (sameWork_any x y _ (HCA.out.below bq) (HCB.out.below bq) hxc).mono ?_
        rintro r w2 ⟨rfl, b1⟩
        have b2 := next (next hbl bq) b1
        clear b1 bq
        rcases hq : decide (x.wk = y.wk) with _ | _
        · have HE : Hid (decide (l.map Wr.wk = m.map Wr.wk) = false) := Lib.hid (decide_eq_false (fun e => by
            have e3 : (l.map Wr.wk)[j]? = (m.map Wr.wk)[j]? := by rw [e]
            rw [List.getElem?_map, List.getElem?_map, List.getElem?_eq_getElem hlt, List.getElem?_eq_getElem hlt2, HX.out, HY.out] at e3
            exact of_decide_eq_false hq (by simpa using e3)))
          go_wp2
          go_ret
          exact ⟨ret_bool HE.out.symm, b2⟩
        · have HN := Lib.hid (show (l.take (j + 1)).map Wr.wk = (m.take (j + 1)).map Wr.wk by
            rw [List.take_succ_eq_append_getElem hlt, List.take_succ_eq_append_getElem hlt2, List.map_append, List.map_append, HU.out, HX.out, HY.out]; simp [of_decide_eq_true hq])
          go_wp2
          go_roundw
          case rel => exact ⟨j + 1, by go_num, by omega, HN.out, b2⟩
          case measure => simp [intOf]; omega
      · have HE : Hid (decide (l.map Wr.wk = m.map Wr.wk) = true) := Lib.hid (decide_eq_true (by
          have h1 := HU.out
          have h2 := HL1.out
          rwa [List.take_of_length_le (by omega), List.take_of_length_le (by omega)] at h1))
        go_wp2
        go_ret
        exact ⟨ret_bool HE.out.symm, hbl⟩
  · have e1 : ((l.length : Int) != (m.length : Int)) = true := by simp; omega
    have HE : Hid (decide (l.map Wr.wk = m.map Wr.wk) = false) := Lib.hid (decide_eq_false (fun e => hl1 (by have := congrArg List.length e; simpa using this)))
    clear hl1
    go_enter Try.func31, Try.ntmps31
    go_wp2
    go_ret
    exact ⟨ret_bool HE.out.symm, Below.refl _ _⟩
set_option maxHeartbeats 4000000 in
theorem sameBook_any (a b : LBk) (w : World) (ha : BkIn 1048576 w a) (hb : BkIn 1048576 w b) :
    Calls Try.prog 21 #[a.v, b.v] w fun e w' => e = .returned (.bool (M.bkSame a.d b.d)) ∧ Below w.heap.size w w' := by
  have h0 := (holds_new w (bkA a.sf.ad a.sf.l.length a.sf.cap a.la.ad a.la.l.length a.la.cap) 35).alloc (.cells (bkA b.sf.ad b.sf.l.length b.sf.cap b.la.ad b.la.l.length b.la.cap) 35)
  have h1 := holds_new (w.alloc (.cells (bkA a.sf.ad a.sf.l.length a.sf.cap a.la.ad a.la.l.length a.la.cap) 35)) (bkA b.sf.ad b.sf.l.length b.sf.cap b.la.ad b.la.l.length b.la.cap) 35
  have b0 := ((Below.refl w.heap.size w).alloc (Nat.le_refl _) (.cells (bkA a.sf.ad a.sf.l.length a.sf.cap a.la.ad a.la.l.length a.la.cap) 35)).alloc (by simp) (.cells (bkA b.sf.ad b.sf.l.length b.sf.cap b.la.ad b.la.l.length b.la.cap) 35)
  rw [World.size_alloc] at h1
  obtain ⟨k0, k1⟩ := h0.two
  obtain ⟨m0, m1⟩ := h1.two
  have HA := Lib.hid ha
  have HB := Lib.hid hb
  have ha1 := ha.sfl
  have ha2 := ha.lal
  clear ha hb
  have HE : Hid (M.bkSame a.d b.d = (decide (a.sf.l.map Wr.wk = b.sf.l.map Wr.wk) && decide (a.la.l = b.la.l))) := Lib.hid rfl
  go_enter Try.func21, Try.ntmps21
  go_wp2_with fail
  refine (eqfWk_any a.sf.ad b.sf.ad a.sf.l b.sf.l a.sf.cap b.sf.cap _ (HA.out.sf.below b0) (HB.out.sf.below b0) ha1 HA.out.sft).mono ?_
  rintro r w1 ⟨rfl, b1⟩
  replace h0 := h0.below b1
  replace h1 := h1.below b1
  replace b0 := next b0 b1
  clear k0 k1 m0 m1 b1
  obtain ⟨k0, k1⟩ := h0.two
  obtain ⟨m0, m1⟩ := h1.two
  rcases hq : decide (a.sf.l.map Wr.wk = b.sf.l.map Wr.wk) with _ | _
  · have HF : Hid (M.bkSame a.d b.d = false) := Lib.hid (by rw [HE.out, hq]; rfl)
    clear hq
    go_wp2
    go_ret
    exact ⟨ret_bool HF.out.symm, b0⟩
  · have HF : Hid (M.bkSame a.d b.d = decide (a.la.l = b.la.l)) := Lib.hid (by rw [HE.out, hq]; rfl)
    clear hq
    go_wp2_with fail
    refine (eqsLa_any a.la.ad b.la.ad a.la.l b.la.l a.la.cap b.la.cap _ (HA.out.la.below b0) (HB.out.la.below b0) ha2).mono ?_
    rintro r w1 ⟨rfl, b1⟩
    replace b0 := next b0 b1
    clear k0 k1 m0 m1 b1
    go_wp2
    go_ret
    exact ⟨ret_bool HF.out.symm, b0⟩
end Go.Proofs.Ytdoeiphnalbinaa
