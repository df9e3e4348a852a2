/- Proved: what the helpers of the laws tell of a list with nothing in it, and of a scribe all of whose lists are such. No condition. -/
import Derived.Test.YtcdfghbpihmomaaPuts15
import Derived.Deep.Cut
namespace Go.Proofs.Ytcdfghbpihmomaa
open Go.RowKit
set_option maxRecDepth 20000

set_option maxHeartbeats 2000000 in
theorem nil_eqEntryS (w : World) : Calls Try.prog 18 #[.slice none 0 0, .slice none 0 0] w fun r w' => r = .returned (.bool true) ∧ Below w.heap.size w w' := by
  go_enter Try.func18, Try.ntmps18
  go_wp2
  go_loopw [5] (fun i wr => i = .int .i64 0 ∧ wr = w) (fun _ _ => 0)
  case atStart => exact ⟨rfl, rfl⟩
  case round =>
    obtain ⟨rfl, rfl⟩ := hrel
    go_wp2
    go_ret
    exact ⟨rfl, Below.refl _ _⟩
set_option maxHeartbeats 2000000 in
theorem nil_markEntryS (w : World) : Calls Try.prog 21 #[.slice none 0 0, .int .i64 1] w fun r w' => r = .returned (.int .i64 1) ∧ Below w.heap.size w w' := by
  go_enter Try.func21, Try.ntmps21
  go_wp2
  go_loopw [1, 5] (fun q i wr => q = .int .i64 1 ∧ i = .int .i64 0 ∧ wr = w) (fun _ _ _ => 0)
  case atStart => exact ⟨rfl, rfl, rfl⟩
  case round =>
    obtain ⟨rfl, rfl, rfl⟩ := hrel
    go_wp2
    go_ret
    exact ⟨rfl, Below.refl _ _⟩
set_option maxHeartbeats 2000000 in
theorem nil_heldEntryS (w : World) : Calls Try.prog 24 #[.slice none 0 0, .int .i64 1] w fun r w' => r = .returned (.int .i64 1) ∧ Below w.heap.size w w' := by
  go_enter Try.func24, Try.ntmps24
  go_wp2
  go_loopw [1, 5] (fun q i wr => q = .int .i64 1 ∧ i = .int .i64 0 ∧ wr = w) (fun _ _ _ => 0)
  case atStart => exact ⟨rfl, rfl, rfl⟩
  case round =>
    obtain ⟨rfl, rfl, rfl⟩ := hrel
    go_wp2
    go_ret
    exact ⟨rfl, Below.refl _ _⟩
set_option maxHeartbeats 2000000 in
theorem nil_eqWorkS (w : World) : Calls Try.prog 19 #[.slice none 0 0, .slice none 0 0] w fun r w' => r = .returned (.bool true) ∧ Below w.heap.size w w' := by
  go_enter Try.func19, Try.ntmps19
  go_wp2
  go_loopw [5] (fun i wr => i = .int .i64 0 ∧ wr = w) (fun _ _ => 0)
  case atStart => exact ⟨rfl, rfl⟩
  case round =>
    obtain ⟨rfl, rfl⟩ := hrel
    go_wp2
    go_ret
    exact ⟨rfl, Below.refl _ _⟩
set_option maxHeartbeats 2000000 in
theorem nil_markWorkS (w : World) : Calls Try.prog 22 #[.slice none 0 0, .int .i64 1] w fun r w' => r = .returned (.int .i64 1) ∧ Below w.heap.size w w' := by
  go_enter Try.func22, Try.ntmps22
  go_wp2
  go_loopw [1, 5] (fun q i wr => q = .int .i64 1 ∧ i = .int .i64 0 ∧ wr = w) (fun _ _ _ => 0)
  case atStart => exact ⟨rfl, rfl, rfl⟩
  case round =>
    obtain ⟨rfl, rfl, rfl⟩ := hrel
    go_wp2
    go_ret
    exact ⟨rfl, Below.refl _ _⟩
set_option maxHeartbeats 2000000 in
theorem nil_heldWorkS (w : World) : Calls Try.prog 25 #[.slice none 0 0, .int .i64 1] w fun r w' => r = .returned (.int .i64 1) ∧ Below w.heap.size w w' := by
  go_enter Try.func25, Try.ntmps25
  go_wp2
  go_loopw [1, 5] (fun q i wr => q = .int .i64 1 ∧ i = .int .i64 0 ∧ wr = w) (fun _ _ _ => 0)
  case atStart => exact ⟨rfl, rfl, rfl⟩
  case round =>
    obtain ⟨rfl, rfl, rfl⟩ := hrel
    go_wp2
    go_ret
    exact ⟨rfl, Below.refl _ _⟩
set_option maxHeartbeats 2000000 in
theorem nil_eqLastS (w : World) : Calls Try.prog 20 #[.slice none 0 0, .slice none 0 0] w fun r w' => r = .returned (.bool true) ∧ Below w.heap.size w w' := by
  go_enter Try.func20, Try.ntmps20
  go_wp2
  go_loopw [5] (fun i wr => i = .int .i64 0 ∧ wr = w) (fun _ _ => 0)
  case atStart => exact ⟨rfl, rfl⟩
  case round =>
    obtain ⟨rfl, rfl⟩ := hrel
    go_wp2
    go_ret
    exact ⟨rfl, Below.refl _ _⟩
set_option maxHeartbeats 2000000 in
theorem nil_markLastS (w : World) : Calls Try.prog 23 #[.slice none 0 0, .int .i64 1] w fun r w' => r = .returned (.int .i64 1) ∧ Below w.heap.size w w' := by
  go_enter Try.func23, Try.ntmps23
  go_wp2
  go_loopw [1, 5] (fun q i wr => q = .int .i64 1 ∧ i = .int .i64 0 ∧ wr = w) (fun _ _ _ => 0)
  case atStart => exact ⟨rfl, rfl, rfl⟩
  case round =>
    obtain ⟨rfl, rfl, rfl⟩ := hrel
    go_wp2
    go_ret
    exact ⟨rfl, Below.refl _ _⟩
set_option maxHeartbeats 2000000 in
theorem nil_heldLastS (w : World) : Calls Try.prog 26 #[.slice none 0 0, .int .i64 1] w fun r w' => r = .returned (.int .i64 1) ∧ Below w.heap.size w w' := by
  go_enter Try.func26, Try.ntmps26
  go_wp2
  go_loopw [1, 5] (fun q i wr => q = .int .i64 1 ∧ i = .int .i64 0 ∧ wr = w) (fun _ _ _ => 0)
  case atStart => exact ⟨rfl, rfl, rfl⟩
  case round =>
    obtain ⟨rfl, rfl, rfl⟩ := hrel
    go_wp2
    go_ret
    exact ⟨rfl, Below.refl _ _⟩
set_option maxHeartbeats 2000000 in
theorem nil_eqInt64S (w : World) : Calls Try.prog 11 #[.slice none 0 0, .slice none 0 0] w fun r w' => r = .returned (.bool true) ∧ Below w.heap.size w w' := by
  go_enter Try.func11, Try.ntmps11
  go_wp2
  go_loopw [5] (fun i wr => i = .int .i64 0 ∧ wr = w) (fun _ _ => 0)
  case atStart => exact ⟨rfl, rfl⟩
  case round =>
    obtain ⟨rfl, rfl⟩ := hrel
    go_wp2
    go_ret
    exact ⟨rfl, Below.refl _ _⟩
set_option maxHeartbeats 2000000 in
theorem nil_markInt64S (w : World) : Calls Try.prog 14 #[.slice none 0 0, .int .i64 1] w fun r w' => r = .returned (.int .i64 1) ∧ Below w.heap.size w w' := by
  go_enter Try.func14, Try.ntmps14
  go_wp2
  go_loopw [1, 5] (fun q i wr => q = .int .i64 1 ∧ i = .int .i64 0 ∧ wr = w) (fun _ _ _ => 0)
  case atStart => exact ⟨rfl, rfl, rfl⟩
  case round =>
    obtain ⟨rfl, rfl, rfl⟩ := hrel
    go_wp2
    go_ret
    exact ⟨rfl, Below.refl _ _⟩
set_option maxHeartbeats 2000000 in
theorem nil_heldInt64S (w : World) : Calls Try.prog 17 #[.slice none 0 0, .int .i64 1] w fun r w' => r = .returned (.int .i64 1) ∧ Below w.heap.size w w' := by
  go_enter Try.func17, Try.ntmps17
  go_wp2
  go_loopw [1, 5] (fun q i wr => q = .int .i64 1 ∧ i = .int .i64 0 ∧ wr = w) (fun _ _ _ => 0)
  case atStart => exact ⟨rfl, rfl, rfl⟩
  case round =>
    obtain ⟨rfl, rfl, rfl⟩ := hrel
    go_wp2
    go_ret
    exact ⟨rfl, Below.refl _ _⟩
set_option maxHeartbeats 2000000 in
theorem nil_eqRoll (w : World) : Calls Try.prog 9 #[.agg #[.int .i64 0, .int .i64 0, .slice none 0 0], .agg #[.int .i64 0, .int .i64 0, .slice none 0 0]] w fun r w' => r = .returned (.bool true) ∧ Below w.heap.size w w' := by
  have h0 := (holds_new w #[.int .i64 0, .int .i64 0, .slice none 0 0] 24).alloc (.cells #[.int .i64 0, .int .i64 0, .slice none 0 0] 24)
  have h1 := holds_new (w.alloc (.cells #[.int .i64 0, .int .i64 0, .slice none 0 0] 24)) #[.int .i64 0, .int .i64 0, .slice none 0 0] 24
  rw [World.size_alloc] at h1
  have b0 := ((Below.refl w.heap.size w).alloc (Nat.le_refl _) (.cells #[.int .i64 0, .int .i64 0, .slice none 0 0] 24)).alloc (by simp) (.cells #[.int .i64 0, .int .i64 0, .slice none 0 0] 24)
  go_enter Try.func9, Try.ntmps9
  obtain ⟨k0, k1, k2⟩ := h0.three
  obtain ⟨q0, q1, q2⟩ := h1.three
  go_wp2_with fail
  refine (nil_eqEntryS _).mono ?_
  rintro r w1 ⟨rfl, b1⟩
  clear k0 k1 k2 q0 q1 q2
  replace h0 := h0.below b1
  replace h1 := h1.below b1
  replace b0 := next b0 b1
  clear b1
  go_wp2
  go_ret
  exact ⟨rfl, b0⟩
set_option maxHeartbeats 2000000 in
theorem nil_markRoll (w : World) : Calls Try.prog 12 #[.agg #[.int .i64 0, .int .i64 0, .slice none 0 0], .int .i64 1] w fun r w' => r = .returned (.int .i64 1) ∧ Below w.heap.size w w' := by
  have h0 := holds_new w #[.int .i64 0, .int .i64 0, .slice none 0 0] 24
  have b0 := (Below.refl w.heap.size w).alloc (Nat.le_refl _) (.cells #[.int .i64 0, .int .i64 0, .slice none 0 0] 24)
  go_enter Try.func12, Try.ntmps12
  obtain ⟨k0, k1, k2⟩ := h0.three
  go_wp2_with fail
  refine (nil_markEntryS _).mono ?_
  rintro r w1 ⟨rfl, b1⟩
  clear k0 k1 k2
  replace h0 := h0.below b1
  replace b0 := next b0 b1
  clear b1
  go_wp2
  go_ret
  exact ⟨rfl, b0⟩
set_option maxHeartbeats 2000000 in
theorem nil_heldRoll (w : World) : Calls Try.prog 15 #[.agg #[.int .i64 0, .int .i64 0, .slice none 0 0], .int .i64 1] w fun r w' => r = .returned (.int .i64 1) ∧ Below w.heap.size w w' := by
  have h0 := holds_new w #[.int .i64 0, .int .i64 0, .slice none 0 0] 24
  have b0 := (Below.refl w.heap.size w).alloc (Nat.le_refl _) (.cells #[.int .i64 0, .int .i64 0, .slice none 0 0] 24)
  go_enter Try.func15, Try.ntmps15
  obtain ⟨k0, k1, k2⟩ := h0.three
  go_wp2_with fail
  refine (nil_heldEntryS _).mono ?_
  rintro r w1 ⟨rfl, b1⟩
  clear k0 k1 k2
  replace h0 := h0.below b1
  replace b0 := next b0 b1
  clear b1
  go_wp2
  go_ret
  exact ⟨rfl, b0⟩
set_option maxHeartbeats 2000000 in
theorem nil_eqBook (w : World) : Calls Try.prog 10 #[.agg #[.slice none 0 0, .slice none 0 0], .agg #[.slice none 0 0, .slice none 0 0]] w fun r w' => r = .returned (.bool true) ∧ Below w.heap.size w w' := by
  have h0 := (holds_new w #[.slice none 0 0, .slice none 0 0] 28).alloc (.cells #[.slice none 0 0, .slice none 0 0] 28)
  have h1 := holds_new (w.alloc (.cells #[.slice none 0 0, .slice none 0 0] 28)) #[.slice none 0 0, .slice none 0 0] 28
  rw [World.size_alloc] at h1
  have b0 := ((Below.refl w.heap.size w).alloc (Nat.le_refl _) (.cells #[.slice none 0 0, .slice none 0 0] 28)).alloc (by simp) (.cells #[.slice none 0 0, .slice none 0 0] 28)
  go_enter Try.func10, Try.ntmps10
  obtain ⟨k0, k1⟩ := h0.two
  obtain ⟨q0, q1⟩ := h1.two
  go_wp2_with fail
  refine (nil_eqWorkS _).mono ?_
  rintro r w1 ⟨rfl, b1⟩
  clear k0 k1 q0 q1
  replace h0 := h0.below b1
  replace h1 := h1.below b1
  replace b0 := next b0 b1
  clear b1
  obtain ⟨k0, k1⟩ := h0.two
  obtain ⟨q0, q1⟩ := h1.two
  go_wp2_with fail
  refine (nil_eqLastS _).mono ?_
  rintro r w1 ⟨rfl, b1⟩
  clear k0 k1 q0 q1
  replace h0 := h0.below b1
  replace h1 := h1.below b1
  replace b0 := next b0 b1
  clear b1
  go_wp2
  go_ret
  exact ⟨rfl, b0⟩
set_option maxHeartbeats 2000000 in
theorem nil_markBook (w : World) : Calls Try.prog 13 #[.agg #[.slice none 0 0, .slice none 0 0], .int .i64 1] w fun r w' => r = .returned (.int .i64 1) ∧ Below w.heap.size w w' := by
  have h0 := holds_new w #[.slice none 0 0, .slice none 0 0] 28
  have b0 := (Below.refl w.heap.size w).alloc (Nat.le_refl _) (.cells #[.slice none 0 0, .slice none 0 0] 28)
  go_enter Try.func13, Try.ntmps13
  obtain ⟨k0, k1⟩ := h0.two
  go_wp2_with fail
  refine (nil_markWorkS _).mono ?_
  rintro r w1 ⟨rfl, b1⟩
  clear k0 k1
  replace h0 := h0.below b1
  replace b0 := next b0 b1
  clear b1
  obtain ⟨k0, k1⟩ := h0.two
  go_wp2_with fail
  refine (nil_markLastS _).mono ?_
  rintro r w1 ⟨rfl, b1⟩
  clear k0 k1
  replace h0 := h0.below b1
  replace b0 := next b0 b1
  clear b1
  go_wp2
  go_ret
  exact ⟨rfl, b0⟩
set_option maxHeartbeats 2000000 in
theorem nil_heldBook (w : World) : Calls Try.prog 16 #[.agg #[.slice none 0 0, .slice none 0 0], .int .i64 1] w fun r w' => r = .returned (.int .i64 1) ∧ Below w.heap.size w w' := by
  have h0 := holds_new w #[.slice none 0 0, .slice none 0 0] 28
  have b0 := (Below.refl w.heap.size w).alloc (Nat.le_refl _) (.cells #[.slice none 0 0, .slice none 0 0] 28)
  go_enter Try.func16, Try.ntmps16
  obtain ⟨k0, k1⟩ := h0.two
  go_wp2_with fail
  refine (nil_heldWorkS _).mono ?_
  rintro r w1 ⟨rfl, b1⟩
  clear k0 k1
  replace h0 := h0.below b1
  replace b0 := next b0 b1
  clear b1
  obtain ⟨k0, k1⟩ := h0.two
  go_wp2_with fail
  refine (nil_heldLastS _).mono ?_
  rintro r w1 ⟨rfl, b1⟩
  clear k0 k1
  replace h0 := h0.below b1
  replace b0 := next b0 b1
  clear b1
  go_wp2
  go_ret
  exact ⟨rfl, b0⟩
/-- A scribe to begin with. -/
abbrev newA : Array Value := #[.int .i64 0, .int .i64 (-1), .int .i64 0, .int .i64 0, .slice none 0 0, .slice none 0 0, .slice none 0 0, .bool true, .int .i64 0, .int .i64 0, .int .i64 0, .slice none 0 0, .slice none 0 0, .slice none 0 0, .slice none 0 0]
set_option maxHeartbeats 4000000 in
theorem nil_eqScribe (w : World) : Calls Try.prog 6 #[.agg newA, .agg newA] w fun r w' => r = .returned (.bool true) ∧ Below w.heap.size w w' := by
  have h0 := (holds_new w newA 31).alloc (.cells newA 31)
  have h1 := holds_new (w.alloc (.cells newA 31)) newA 31
  rw [World.size_alloc] at h1
  have b0 := ((Below.refl w.heap.size w).alloc (Nat.le_refl _) (.cells newA 31)).alloc (by simp) (.cells newA 31)
  go_enter Try.func6, Try.ntmps6
  obtain ⟨k0, k1, k2, k3, k4, k5, k6, k7, k8, k9, k10, k11, k12, k13, k14⟩ := h0.at15
  obtain ⟨q0, q1, q2, q3, q4, q5, q6, q7, q8, q9, q10, q11, q12, q13, q14⟩ := h1.at15
  go_wp2_with fail
  refine (nil_eqRoll _).mono ?_
  rintro r w1 ⟨rfl, b1⟩
  clear k0 k1 k2 k3 k4 k5 k6 k7 k8 k9 k10 k11 k12 k13 k14 q0 q1 q2 q3 q4 q5 q6 q7 q8 q9 q10 q11 q12 q13 q14
  replace h0 := h0.below b1
  replace h1 := h1.below b1
  replace b0 := next b0 b1
  clear b1
  obtain ⟨k0, k1, k2, k3, k4, k5, k6, k7, k8, k9, k10, k11, k12, k13, k14⟩ := h0.at15
  obtain ⟨q0, q1, q2, q3, q4, q5, q6, q7, q8, q9, q10, q11, q12, q13, q14⟩ := h1.at15
  go_wp2_with fail
  refine (nil_eqBook _).mono ?_
  rintro r w1 ⟨rfl, b1⟩
  clear k0 k1 k2 k3 k4 k5 k6 k7 k8 k9 k10 k11 k12 k13 k14 q0 q1 q2 q3 q4 q5 q6 q7 q8 q9 q10 q11 q12 q13 q14
  replace h0 := h0.below b1
  replace h1 := h1.below b1
  replace b0 := next b0 b1
  clear b1
  obtain ⟨k0, k1, k2, k3, k4, k5, k6, k7, k8, k9, k10, k11, k12, k13, k14⟩ := h0.at15
  obtain ⟨q0, q1, q2, q3, q4, q5, q6, q7, q8, q9, q10, q11, q12, q13, q14⟩ := h1.at15
  go_wp2_with fail
  refine (nil_eqInt64S _).mono ?_
  rintro r w1 ⟨rfl, b1⟩
  clear k0 k1 k2 k3 k4 k5 k6 k7 k8 k9 k10 k11 k12 k13 k14 q0 q1 q2 q3 q4 q5 q6 q7 q8 q9 q10 q11 q12 q13 q14
  replace h0 := h0.below b1
  replace h1 := h1.below b1
  replace b0 := next b0 b1
  clear b1
  obtain ⟨k0, k1, k2, k3, k4, k5, k6, k7, k8, k9, k10, k11, k12, k13, k14⟩ := h0.at15
  obtain ⟨q0, q1, q2, q3, q4, q5, q6, q7, q8, q9, q10, q11, q12, q13, q14⟩ := h1.at15
  go_wp2_with fail
  refine (nil_eqInt64S _).mono ?_
  rintro r w1 ⟨rfl, b1⟩
  clear k0 k1 k2 k3 k4 k5 k6 k7 k8 k9 k10 k11 k12 k13 k14 q0 q1 q2 q3 q4 q5 q6 q7 q8 q9 q10 q11 q12 q13 q14
  replace h0 := h0.below b1
  replace h1 := h1.below b1
  replace b0 := next b0 b1
  clear b1
  obtain ⟨k0, k1, k2, k3, k4, k5, k6, k7, k8, k9, k10, k11, k12, k13, k14⟩ := h0.at15
  obtain ⟨q0, q1, q2, q3, q4, q5, q6, q7, q8, q9, q10, q11, q12, q13, q14⟩ := h1.at15
  go_wp2_with fail
  refine (nil_eqBook _).mono ?_
  rintro r w1 ⟨rfl, b1⟩
  clear k0 k1 k2 k3 k4 k5 k6 k7 k8 k9 k10 k11 k12 k13 k14 q0 q1 q2 q3 q4 q5 q6 q7 q8 q9 q10 q11 q12 q13 q14
  replace h0 := h0.below b1
  replace h1 := h1.below b1
  replace b0 := next b0 b1
  clear b1
  go_wp2
  go_ret
  exact ⟨rfl, b0⟩
set_option maxHeartbeats 4000000 in
theorem nil_markScribe (w : World) : Calls Try.prog 7 #[.agg newA, .int .i64 1] w fun r w' => r = .returned (.int .i64 1) ∧ Below w.heap.size w w' := by
  have h0 := holds_new w newA 31
  have b0 := (Below.refl w.heap.size w).alloc (Nat.le_refl _) (.cells newA 31)
  go_enter Try.func7, Try.ntmps7
  obtain ⟨k0, k1, k2, k3, k4, k5, k6, k7, k8, k9, k10, k11, k12, k13, k14⟩ := h0.at15
  go_wp2_with fail
  refine (nil_markRoll _).mono ?_
  rintro r w1 ⟨rfl, b1⟩
  clear k0 k1 k2 k3 k4 k5 k6 k7 k8 k9 k10 k11 k12 k13 k14
  replace h0 := h0.below b1
  replace b0 := next b0 b1
  clear b1
  obtain ⟨k0, k1, k2, k3, k4, k5, k6, k7, k8, k9, k10, k11, k12, k13, k14⟩ := h0.at15
  go_wp2_with fail
  refine (nil_markBook _).mono ?_
  rintro r w1 ⟨rfl, b1⟩
  clear k0 k1 k2 k3 k4 k5 k6 k7 k8 k9 k10 k11 k12 k13 k14
  replace h0 := h0.below b1
  replace b0 := next b0 b1
  clear b1
  obtain ⟨k0, k1, k2, k3, k4, k5, k6, k7, k8, k9, k10, k11, k12, k13, k14⟩ := h0.at15
  go_wp2_with fail
  refine (nil_markInt64S _).mono ?_
  rintro r w1 ⟨rfl, b1⟩
  clear k0 k1 k2 k3 k4 k5 k6 k7 k8 k9 k10 k11 k12 k13 k14
  replace h0 := h0.below b1
  replace b0 := next b0 b1
  clear b1
  obtain ⟨k0, k1, k2, k3, k4, k5, k6, k7, k8, k9, k10, k11, k12, k13, k14⟩ := h0.at15
  go_wp2_with fail
  refine (nil_markInt64S _).mono ?_
  rintro r w1 ⟨rfl, b1⟩
  clear k0 k1 k2 k3 k4 k5 k6 k7 k8 k9 k10 k11 k12 k13 k14
  replace h0 := h0.below b1
  replace b0 := next b0 b1
  clear b1
  obtain ⟨k0, k1, k2, k3, k4, k5, k6, k7, k8, k9, k10, k11, k12, k13, k14⟩ := h0.at15
  go_wp2_with fail
  refine (nil_markBook _).mono ?_
  rintro r w1 ⟨rfl, b1⟩
  clear k0 k1 k2 k3 k4 k5 k6 k7 k8 k9 k10 k11 k12 k13 k14
  replace h0 := h0.below b1
  replace b0 := next b0 b1
  clear b1
  go_wp2
  go_ret
  exact ⟨rfl, b0⟩
set_option maxHeartbeats 4000000 in
theorem nil_heldScribe (w : World) : Calls Try.prog 8 #[.agg newA, .int .i64 1] w fun r w' => r = .returned (.int .i64 1) ∧ Below w.heap.size w w' := by
  have h0 := holds_new w newA 31
  have b0 := (Below.refl w.heap.size w).alloc (Nat.le_refl _) (.cells newA 31)
  go_enter Try.func8, Try.ntmps8
  obtain ⟨k0, k1, k2, k3, k4, k5, k6, k7, k8, k9, k10, k11, k12, k13, k14⟩ := h0.at15
  go_wp2_with fail
  refine (nil_heldRoll _).mono ?_
  rintro r w1 ⟨rfl, b1⟩
  clear k0 k1 k2 k3 k4 k5 k6 k7 k8 k9 k10 k11 k12 k13 k14
  replace h0 := h0.below b1
  replace b0 := next b0 b1
  clear b1
  obtain ⟨k0, k1, k2, k3, k4, k5, k6, k7, k8, k9, k10, k11, k12, k13, k14⟩ := h0.at15
  go_wp2_with fail
  refine (nil_heldBook _).mono ?_
  rintro r w1 ⟨rfl, b1⟩
  clear k0 k1 k2 k3 k4 k5 k6 k7 k8 k9 k10 k11 k12 k13 k14
  replace h0 := h0.below b1
  replace b0 := next b0 b1
  clear b1
  obtain ⟨k0, k1, k2, k3, k4, k5, k6, k7, k8, k9, k10, k11, k12, k13, k14⟩ := h0.at15
  go_wp2_with fail
  refine (nil_heldInt64S _).mono ?_
  rintro r w1 ⟨rfl, b1⟩
  clear k0 k1 k2 k3 k4 k5 k6 k7 k8 k9 k10 k11 k12 k13 k14
  replace h0 := h0.below b1
  replace b0 := next b0 b1
  clear b1
  obtain ⟨k0, k1, k2, k3, k4, k5, k6, k7, k8, k9, k10, k11, k12, k13, k14⟩ := h0.at15
  go_wp2_with fail
  refine (nil_heldInt64S _).mono ?_
  rintro r w1 ⟨rfl, b1⟩
  clear k0 k1 k2 k3 k4 k5 k6 k7 k8 k9 k10 k11 k12 k13 k14
  replace h0 := h0.below b1
  replace b0 := next b0 b1
  clear b1
  obtain ⟨k0, k1, k2, k3, k4, k5, k6, k7, k8, k9, k10, k11, k12, k13, k14⟩ := h0.at15
  go_wp2_with fail
  refine (nil_heldBook _).mono ?_
  rintro r w1 ⟨rfl, b1⟩
  clear k0 k1 k2 k3 k4 k5 k6 k7 k8 k9 k10 k11 k12 k13 k14
  replace h0 := h0.below b1
  replace b0 := next b0 b1
  clear b1
  go_wp2
  go_ret
  exact ⟨rfl, b0⟩
theorem results_specNew (R : Nat) (W : World) (tmps : Array Value) (h2 : tmps.getD 0 undef = .pointer (some ⟨R, 0, none⟩)) (hW : Holds W R newA) :
    (results Try.f4 tmps).run Try.prog W = .ok (.agg newA) W := by
  obtain ⟨k0, k1, k2, k3, k4, k5, k6, k7, k8, k9, k10, k11, k12, k13, k14⟩ := hW.at15
  simp at h2
  simp [results, Try.results4, go_sem, h2, k0, k1, k2, k3, k4, k5, k6, k7, k8, k9, k10, k11, k12, k13, k14]
set_option maxHeartbeats 2000000 in
theorem specNewScribe (w : World) : Calls Try.prog 4 #[] w fun r w' => r = .returned (.agg newA) ∧ Below w.heap.size w w' := by
  have h0 := holds_new w newA 31
  go_enter Try.func4, Try.ntmps4
  go_wp2
  exact bodyPost_ret (results_specNew w.heap.size _ _ rfl h0) rfl ⟨rfl, (Below.refl _ _).alloc (Nat.le_refl _) _⟩
theorem results_implNew (R : Nat) (W : World) (tmps : Array Value) (h2 : tmps.getD 0 undef = .pointer (some ⟨R, 0, none⟩)) (hW : Holds W R newA) :
    (results Try.f5 tmps).run Try.prog W = .ok (.agg newA) W := by
  obtain ⟨k0, k1, k2, k3, k4, k5, k6, k7, k8, k9, k10, k11, k12, k13, k14⟩ := hW.at15
  simp at h2
  simp [results, Try.results5, go_sem, h2, k0, k1, k2, k3, k4, k5, k6, k7, k8, k9, k10, k11, k12, k13, k14]
set_option maxHeartbeats 2000000 in
theorem implNewScribe (w : World) : Calls Try.prog 5 #[] w fun r w' => r = .returned (.agg newA) ∧ Below w.heap.size w w' := by
  have h0 := holds_new w newA 31
  go_enter Try.func5, Try.ntmps5
  go_wp2
  exact bodyPost_ret (results_implNew w.heap.size _ _ rfl h0) rfl ⟨rfl, (Below.refl _ _).alloc (Nat.le_refl _) _⟩
end Go.Proofs.Ytcdfghbpihmomaa
