/- Proved: the model's and the program's tests of an entry answer a plain Lean function; nothing that was there is written. Condition: texts of at most what memory has. -/
import Derived.Test.YtkpbfocnokbmiaaEqlOr
import Derived.Test.YtkpbfocnokbmiaaEntryDefs
import Derived.Test.YtkpbfocnokbmiaaOrderOk
import Derived.Test.YtkpbfocnokbmiaaRunEq
namespace Go.Proofs.Ytkpbfocnokbmiaa
open Go.RowKit
set_option maxRecDepth 20000
namespace M
def or0 : Or := ⟨0, 0, zeroDd⟩
def entryOk (e : En) : Bool := inI e.reign 1 1000 && (orEq e.order or0 || orderOk e.order)
theorem or0_not {o : Or} (h : orEq o or0 = true) : orderOk o = false := by
  simp only [orEq, Bool.and_eq_true, beq_iff_eq, decide_eq_true_eq] at h
  have h1 : o.seq = 0 := h.2.1
  simp [orderOk, inI, h1]
end M
theorem l7Reign_any (n : Int) (w : World) : Calls Try.prog 96 #[.int .i64 n] w fun e w' => e = .returned (.bool (M.inI n 1 1000)) ∧ w = w' := by
  go_enter Try.func96, Try.ntmps96
  go_wp2_with fail
  refine (in_i _ _ _ _).mono ?_
  rintro e w' ⟨rfl, rfl⟩
  go_wp2
  go_ret
  exact ⟨rfl, rfl⟩
theorem reignOk_any (n : Int) (w : World) : Calls Try.prog 79 #[.int .i64 n] w fun e w' => e = .returned (.bool (M.inI n 1 1000)) ∧ w = w' := by
  by_cases h1 : 1 ≤ n
  · go_enter Try.func79, Try.ntmps79
    go_wp2
    go_ret
    exact ⟨by simp [M.inI, h1], rfl⟩
  · go_enter Try.func79, Try.ntmps79
    go_wp2
    go_ret
    exact ⟨by simp [M.inI]; omega, rfl⟩
/-- Which kind the program takes an entry for. -/
def kindI (e : M.En) : Int := if M.orEq e.order M.or0 then 0 else 1
set_option maxHeartbeats 4000000 in
theorem kindOf_any (e : M.En) (w : World) : Calls Try.prog 82 #[enV e] w fun r w' => r = .returned (.int .i64 (kindI e)) ∧ Below w.heap.size w w' := by
  have b0 := (Below.refl w.heap.size w).alloc (Nat.le_refl _) (.cells (enC e) 37)
  unfold kindI
  rcases hb : M.orEq e.order M.or0 with _ | _
  · go_enter Try.func82, Try.ntmps82
    go_wp2_with (refine wpList_run (by rfl) (oreql_read (a := e.order) (b := M.or0) rfl rfl rfl _) ?_; simp only [hb])
    go_ret
    exact ⟨rfl, b0⟩
  · go_enter Try.func82, Try.ntmps82
    go_wp2_with (refine wpList_run (by rfl) (oreql_read (a := e.order) (b := M.or0) rfl rfl rfl _) ?_; simp only [hb])
    go_ret
    exact ⟨rfl, b0⟩
set_option maxHeartbeats 4000000 in
theorem implEntryOk (e : M.En) (w : World) (hn : e.order.deed.name.size ≤ maxLen) (hp : e.order.deed.page.size ≤ maxLen) :
    Calls Try.prog 60 #[enV e] w fun r w' => r = .returned (.bool (M.entryOk e)) ∧ Below w.heap.size w w' := by
  have b0 := (Below.refl w.heap.size w).alloc (Nat.le_refl _) (.cells (enC e) 37)
  have h0 := holds_new w (enC e) 37
  rcases hb : M.orEq e.order M.or0 with _ | _
  · have hk : kindI e = 1 := by simp [kindI, hb]
    rcases ho : M.orderOk e.order with _ | _
    · have HE : Hid (M.entryOk e = false) := Lib.hid (by simp [M.entryOk, hb, ho])
      go_enter Try.func60, Try.ntmps60
      go_wp2_with fail
      have hc := kindOf_any e (w.alloc (.cells (enC e) 37))
      rw [hk] at hc
      refine hc.mono ?_
      rintro r w1 ⟨rfl, b1⟩
      replace h0 := h0.below b1
      replace b0 := next b0 b1
      obtain ⟨p0, p1, p2, p3, p4, p5, p6, p7, p8, p9⟩ := h0.ten
      clear hc b1 hk hb
      go_wp2_with fail
      have hc := implOrderOk e.order w1 hn hp
      rw [ho] at hc
      refine hc.mono ?_
      rintro r w2 ⟨rfl, b2⟩
      clear hc ho
      replace b0 := next b0 b2
      go_wp2
      go_ret
      exact ⟨(by first | (rw [HE.out]; done) | (rw [HE.out]; rfl)), b0⟩
    · have HE : Hid (M.entryOk e = M.inI e.reign 1 1000) := Lib.hid (by simp [M.entryOk, hb, ho])
      go_enter Try.func60, Try.ntmps60
      go_wp2_with fail
      have hc := kindOf_any e (w.alloc (.cells (enC e) 37))
      rw [hk] at hc
      refine hc.mono ?_
      rintro r w1 ⟨rfl, b1⟩
      replace h0 := h0.below b1
      replace b0 := next b0 b1
      obtain ⟨p0, p1, p2, p3, p4, p5, p6, p7, p8, p9⟩ := h0.ten
      clear hc b1 hk hb
      go_wp2_with fail
      have hc := implOrderOk e.order w1 hn hp
      rw [ho] at hc
      refine hc.mono ?_
      rintro r w2 ⟨rfl, b2⟩
      replace h0 := h0.below b2
      clear hc ho p0 p1 p2 p3 p4 p5 p6 p7 p8 p9
      obtain ⟨p0, -⟩ := h0.ten
      replace b0 := next b0 b2
      go_wp2_with fail
      refine (reignOk_any e.reign _).mono ?_
      rintro r w3 ⟨rfl, rfl⟩
      go_wp2
      go_ret
      exact ⟨(by first | (rw [HE.out]; done) | (rw [HE.out]; rfl)), b0⟩
  · have hk : kindI e = 0 := by simp [kindI, hb]
    have HE : Hid (M.entryOk e = M.inI e.reign 1 1000) := Lib.hid (by simp [M.entryOk, hb])
    go_enter Try.func60, Try.ntmps60
    go_wp2_with fail
    have hc := kindOf_any e (w.alloc (.cells (enC e) 37))
    rw [hk] at hc
    refine hc.mono ?_
    rintro r w1 ⟨rfl, b1⟩
    replace h0 := h0.below b1
    replace b0 := next b0 b1
    obtain ⟨p0, -⟩ := h0.ten
    clear hc b1 hk hb
    go_wp2_with fail
    refine (reignOk_any e.reign _).mono ?_
    rintro r w3 ⟨rfl, rfl⟩
    go_wp2
    go_ret
    exact ⟨(by first | (rw [HE.out]; done) | (rw [HE.out]; rfl)), b0⟩
set_option maxHeartbeats 4000000 in
theorem specEntryOk (e : M.En) (w : World) (hn : e.order.deed.name.size ≤ maxLen) (hp : e.order.deed.page.size ≤ maxLen) :
    Calls Try.prog 84 #[enV e] w fun r w' => r = .returned (.bool (M.entryOk e)) ∧ Below w.heap.size w w' := by
  have b0 := (Below.refl w.heap.size w).alloc (Nat.le_refl _) (.cells (enC e) 37)
  rcases hr : M.inI e.reign 1 1000 with _ | _
  · have HE : Hid (M.entryOk e = false) := Lib.hid (by simp [M.entryOk, hr])
    go_enter Try.func84, Try.ntmps84
    go_wp2_with fail
    have hc := l7Reign_any e.reign (w.alloc (.cells (enC e) 37))
    rw [hr] at hc
    refine hc.mono ?_
    rintro r w1 ⟨rfl, rfl⟩
    clear hc hr
    go_wp2
    go_ret
    exact ⟨(by first | (rw [HE.out]; done) | (rw [HE.out]; rfl)), b0⟩
  · rcases hb : M.orEq e.order M.or0 with _ | _
    · have HE : Hid (M.entryOk e = M.orderOk e.order) := Lib.hid (by simp [M.entryOk, hr, hb])
      go_enter Try.func84, Try.ntmps84
      go_wp2_with fail
      have hc := l7Reign_any e.reign (w.alloc (.cells (enC e) 37))
      rw [hr] at hc
      refine hc.mono ?_
      rintro r w1 ⟨rfl, rfl⟩
      clear hc hr
      go_wp2_with (refine wpList_run (by rfl) (oreql_read (a := e.order) (b := M.or0) rfl rfl rfl _) ?_; simp only [hb])
      clear hb
      refine (specOrderOk e.order _ hn hp).mono ?_
      rintro r w2 ⟨rfl, b2⟩
      replace b0 := next b0 b2
      go_wp2
      go_ret
      exact ⟨(by first | (rw [HE.out]; done) | (rw [HE.out]; rfl)), b0⟩
    · have HE : Hid (M.entryOk e = true) := Lib.hid (by simp [M.entryOk, hr, hb])
      go_enter Try.func84, Try.ntmps84
      go_wp2_with fail
      have hc := l7Reign_any e.reign (w.alloc (.cells (enC e) 37))
      rw [hr] at hc
      refine hc.mono ?_
      rintro r w1 ⟨rfl, rfl⟩
      clear hc hr
      go_wp2_with (refine wpList_run (by rfl) (oreql_read (a := e.order) (b := M.or0) rfl rfl rfl _) ?_; simp only [hb])
      go_ret
      exact ⟨(by first | (rw [HE.out]; done) | (rw [HE.out]; rfl)), b0⟩
end Go.Proofs.Ytkpbfocnokbmiaa
