/- Proved: the model's and the program's tests of an order answer a plain Lean function; the laws' helpers that count and copy an order; nothing that was there is written. Condition: texts of at most what memory has. -/
import Derived.Test.YtkpbfocnokbmiaaBookDefs
import Derived.Test.YtkpbfocnokbmiaaDeedOkImpl
import Derived.Test.YtkpbfocnokbmiaaDoesMore
namespace Go.Proofs.Ytkpbfocnokbmiaa
open Go.RowKit
set_option maxRecDepth 20000
theorem l6Client_any (n : Int) (w : World) : Calls Try.prog 105 #[.int .i64 n] w fun e w' => e = .returned (.bool (M.inI n 0 3)) ∧ w = w' := by
  go_enter Try.func105, Try.ntmps105
  go_wp2_with fail
  refine (in_i _ _ _ _).mono ?_
  rintro e w' ⟨rfl, rfl⟩
  go_wp2
  go_ret
  exact ⟨rfl, rfl⟩
theorem clientOk_any (n : Int) (w : World) : Calls Try.prog 93 #[.int .i64 n] w fun e w' => e = .returned (.bool (M.inI n 0 3)) ∧ w = w' := by
  by_cases h1 : 0 ≤ n
  · go_enter Try.func93, Try.ntmps93
    go_wp2
    go_ret
    exact ⟨by simp [M.inI, h1], rfl⟩
  · go_enter Try.func93, Try.ntmps93
    go_wp2
    go_ret
    exact ⟨by simp [M.inI]; omega, rfl⟩
theorem seqOk_any (n : Int) (w : World) : Calls Try.prog 94 #[.int .i64 n] w fun e w' => e = .returned (.bool (M.inI n 1 1000)) ∧ w = w' := by
  by_cases h1 : 1 ≤ n
  · go_enter Try.func94, Try.ntmps94
    go_wp2
    go_ret
    exact ⟨by simp [M.inI, h1], rfl⟩
  · go_enter Try.func94, Try.ntmps94
    go_wp2
    go_ret
    exact ⟨by simp [M.inI]; omega, rfl⟩

set_option maxHeartbeats 2000000 in
theorem specOrderOk (o : M.Or) (w : World) (hn : o.deed.name.size ≤ maxLen) (hp : o.deed.page.size ≤ maxLen) :
    Calls Try.prog 97 #[orV o] w fun r w' => r = .returned (.bool (M.orderOk o)) ∧ Below w.heap.size w w' := by
  have b0 := (Below.refl w.heap.size w).alloc (Nat.le_refl _) (.cells (orC o) 35)
  rcases h1 : M.inI o.client 0 3 with _ | _
  · have HE : Hid (M.orderOk o = false) := Lib.hid (by simp [M.orderOk, h1])
    go_enter Try.func97, Try.ntmps97
    go_wp2_with fail
    have hc := l6Client_any o.client (w.alloc (.cells (orC o) 35))
    rw [h1] at hc
    refine hc.mono ?_
    rintro e w' ⟨rfl, rfl⟩
    clear hc h1
    go_wp2
    go_ret
    exact ⟨by rw [HE.out]; rfl, b0⟩
  · rcases h2 : M.inI o.seq 1 1000 with _ | _
    · have HE : Hid (M.orderOk o = false) := Lib.hid (by simp [M.orderOk, h2])
      go_enter Try.func97, Try.ntmps97
      go_wp2_with fail
      have hc := l6Client_any o.client (w.alloc (.cells (orC o) 35))
      rw [h1] at hc
      refine hc.mono ?_
      rintro e w' ⟨rfl, rfl⟩
      clear hc h1
      go_wp2_with fail
      have hc := in_i o.seq 1 1000 (w.alloc (.cells (orC o) 35))
      rw [h2] at hc
      refine hc.mono ?_
      rintro e w' ⟨rfl, rfl⟩
      clear hc h2
      go_wp2
      go_ret
      exact ⟨by rw [HE.out]; rfl, b0⟩
    · have HE : Hid (M.orderOk o = M.deedOk o.deed) := Lib.hid (by simp [M.orderOk, h1, h2])
      go_enter Try.func97, Try.ntmps97
      go_wp2_with fail
      have hc := l6Client_any o.client (w.alloc (.cells (orC o) 35))
      rw [h1] at hc
      refine hc.mono ?_
      rintro e w' ⟨rfl, rfl⟩
      clear hc h1
      go_wp2_with fail
      have hc := in_i o.seq 1 1000 (w.alloc (.cells (orC o) 35))
      rw [h2] at hc
      refine hc.mono ?_
      rintro e w' ⟨rfl, rfl⟩
      clear hc h2
      go_wp2_with fail
      refine (specDeedOk o.deed _ hn hp).mono ?_
      rintro e w1 ⟨rfl, b1⟩
      go_wp2
      go_ret
      exact ⟨by rw [HE.out]; rfl, next b0 b1⟩

set_option maxHeartbeats 2000000 in
theorem implOrderOk (o : M.Or) (w : World) (hn : o.deed.name.size ≤ maxLen) (hp : o.deed.page.size ≤ maxLen) :
    Calls Try.prog 83 #[orV o] w fun r w' => r = .returned (.bool (M.orderOk o)) ∧ Below w.heap.size w w' := by
  have b0 := (Below.refl w.heap.size w).alloc (Nat.le_refl _) (.cells (orC o) 35)
  rcases h1 : M.inI o.client 0 3 with _ | _
  · have HE : Hid (M.orderOk o = false) := Lib.hid (by simp [M.orderOk, h1])
    go_enter Try.func83, Try.ntmps83
    go_wp2_with fail
    have hc := clientOk_any o.client (w.alloc (.cells (orC o) 35))
    rw [h1] at hc
    refine hc.mono ?_
    rintro e w' ⟨rfl, rfl⟩
    clear hc h1
    go_wp2
    go_ret
    exact ⟨by rw [HE.out]; rfl, b0⟩
  · rcases h2 : M.inI o.seq 1 1000 with _ | _
    · have HE : Hid (M.orderOk o = false) := Lib.hid (by simp [M.orderOk, h2])
      go_enter Try.func83, Try.ntmps83
      go_wp2_with fail
      have hc := clientOk_any o.client (w.alloc (.cells (orC o) 35))
      rw [h1] at hc
      refine hc.mono ?_
      rintro e w' ⟨rfl, rfl⟩
      clear hc h1
      go_wp2_with fail
      have hc := seqOk_any o.seq (w.alloc (.cells (orC o) 35))
      rw [h2] at hc
      refine hc.mono ?_
      rintro e w' ⟨rfl, rfl⟩
      clear hc h2
      go_wp2
      go_ret
      exact ⟨by rw [HE.out]; rfl, b0⟩
    · have HE : Hid (M.orderOk o = M.deedOk o.deed) := Lib.hid (by simp [M.orderOk, h1, h2])
      go_enter Try.func83, Try.ntmps83
      go_wp2_with fail
      have hc := clientOk_any o.client (w.alloc (.cells (orC o) 35))
      rw [h1] at hc
      refine hc.mono ?_
      rintro e w' ⟨rfl, rfl⟩
      clear hc h1
      go_wp2_with fail
      have hc := seqOk_any o.seq (w.alloc (.cells (orC o) 35))
      rw [h2] at hc
      refine hc.mono ?_
      rintro e w' ⟨rfl, rfl⟩
      clear hc h2
      go_wp2_with fail
      refine (implDeedOk o.deed _ hn hp).mono ?_
      rintro e w1 ⟨rfl, b1⟩
      go_wp2
      go_ret
      exact ⟨by rw [HE.out]; rfl, next b0 b1⟩

set_option maxHeartbeats 2000000 in
theorem szOrder_small (o : M.Or) (n : Int) (w : World) (hn : n ≤ 1048576) (h : (o.deed.name.size + o.deed.page.size : Int) ≤ n) :
    Calls Try.prog 99 #[orV o, .int .i64 n] w fun r w' => (∃ m : Nat, r = .returned (.int .i64 m)) ∧ Below w.heap.size w w' := by
  have b0 := (Below.refl w.heap.size w).alloc (Nat.le_refl _) (.cells (orC o) 108)
  go_enter Try.func99, Try.ntmps99
  go_wp2_with fail
  refine (szDeed_smallN o.deed n _ hn h).mono ?_
  rintro r w1 ⟨⟨m, rfl⟩, b1⟩
  go_wp2
  go_ret
  exact ⟨⟨m, rfl⟩, next b0 b1⟩
set_option maxHeartbeats 2000000 in
theorem szOrder_big (o : M.Or) (n : Int) (w : World) (h0 : 0 ≤ n) (hn : n ≤ 1048576) (hnm : o.deed.name.size ≤ maxLen) (hp : o.deed.page.size ≤ maxLen) (h : n < (o.deed.name.size + o.deed.page.size : Int)) :
    Calls Try.prog 99 #[orV o, .int .i64 n] w fun r w' => r = .returned (.int .i64 (-1)) ∧ Below w.heap.size w w' := by
  have b0 := (Below.refl w.heap.size w).alloc (Nat.le_refl _) (.cells (orC o) 108)
  go_enter Try.func99, Try.ntmps99
  go_wp2_with fail
  refine (szDeed_bigN o.deed n _ h0 hn hnm hp h).mono ?_
  rintro r w1 ⟨rfl, b1⟩
  go_wp2
  go_ret
  exact ⟨rfl, next b0 b1⟩

abbrev edC (e : M.Ed) : Array Value := #[.int .i64 e.ma, .int .i64 e.mi, .int .i64 e.pa]
/-- Where toDeed leaves the world. -/
abbrev ddMade (d : M.Dd) (w : World) : World := (((((w.alloc (.cells (ddC d) 106)).alloc (.cells (ddC d) 33)).alloc (.cells (ddC d) 33)).alloc (.cells (edC d.ed) 104)).alloc (.cells (edC d.ed) 31)).alloc (.cells (edC d.ed) 31)
set_option maxHeartbeats 1000000 in
theorem toDeed_at (d : M.Dd) (w : World) :
    Calls Try.prog 111 #[ddV d] w fun r w' => r = .returned (ddV d) ∧ w' = ddMade d w := by
  go_enter Try.func111, Try.ntmps111
  go_wp2_with fail
  refine (toEdition_at d.ed _).mono ?_
  rintro r w1 ⟨rfl, rfl⟩
  go_wp2
  exact bodyPost_ret (v := ddV d) (by simp [results, Try.results111, go_sem]) rfl ⟨rfl, rfl⟩
set_option maxHeartbeats 4000000 in
theorem toOrder_any (o : M.Or) (w : World) :
    Calls Try.prog 100 #[orV o] w fun r w' => r = .returned (orV o) ∧ Below w.heap.size w w' := by
  go_enter Try.func100, Try.ntmps100
  go_wp2_with fail
  refine (toDeed_at o.deed _).mono ?_
  rintro r w1 ⟨rfl, rfl⟩
  go_wp2
  refine bodyPost_ret (v := orV o) (by simp [results, Try.results100, go_sem]) rfl ⟨rfl, ?_⟩
  repeat (first | exact Below.refl _ _ | refine Below.alloc ?_ (by simp <;> omega) _)
end Go.Proofs.Ytkpbfocnokbmiaa
