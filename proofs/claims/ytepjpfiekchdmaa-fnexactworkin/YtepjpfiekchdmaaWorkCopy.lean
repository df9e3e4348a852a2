/- Proved: CopyIn of the model and of the program answer one plain Lean function; they write nothing that was there. Condition: texts of at most a million bytes, at most a million copies. -/
import Derived.Test.YtepjpfiekchdmaaWorkSpec
import Derived.Test.YtepjpfiekchdmaaWorkImpl
import Derived.Test.YtepjpfiekchdmaaWorkMath
import Derived.Test.YtepjpfiekchdmaaEqlEd
import Derived.Test.YtepjpfiekchdmaaPuts
import Derived.Test.YtepjpfiekchdmaaShelf
namespace Go.Proofs.Ytepjpfiekchdmaa
open Go.RowKit
set_option maxRecDepth 20000

abbrev edL (e : M.Ed) : Array Value := #[.int .i64 e.ma, .int .i64 e.mi, .int .i64 e.pa]


theorem isAt_lt {l : List M.Cp} {e : M.Ed} (h : M.place l e < l.length) : M.isAt l e = decide (l[M.place l e].ed = e) := by
  unfold M.isAt
  rw [List.getElem?_eq_getElem h]
  rfl
theorem isAt_ge {l : List M.Cp} {e : M.Ed} (h : ¬ M.place l e < l.length) : M.isAt l e = false := by
  unfold M.isAt
  rw [List.getElem?_eq_none (by omega)]

set_option maxHeartbeats 1000000 in
theorem clone_any (s : ByteArray) (w : World) (h : s.size ≤ 1048576) :
    Calls Try.prog 26 #[.string s] w fun r w' => r = .returned (.string s) ∧ Below w.heap.size w w' := by
  go_enter Try.func26, Try.ntmps26
  go_wp2_with fail
  refine (Try.stringslite_Clone s _ (by omega)).mono ?_
  rintro r w1 ⟨rfl, b1⟩
  go_wp2
  go_ret
  exact ⟨rfl, b1⟩

theorem results_nc (c : M.Cp) (R : Nat) (W : World) (tmps : Array Value) (h2 : tmps.getD 2 undef = .pointer (some ⟨R, 0, none⟩)) (hW : Holds W R #[.int .i64 c.ed.ma, .int .i64 c.ed.mi, .int .i64 c.ed.pa, .string c.page, .bool c.hidden]) :
    (results Try.f28 tmps).run Try.prog W = .ok (cpV c) W := by
  obtain ⟨q0, q1, q2, q3, q4⟩ := hW.at5
  simp at h2
  simp [results, Try.results28, go_sem, h2, q0, q1, q2, q3, q4]

set_option maxHeartbeats 1000000 in
theorem newCopy_any (c : M.Cp) (w : World) (h : c.page.size ≤ 1048576) :
    Calls Try.prog 28 #[cpV c] w fun r w' => r = .returned (cpV c) ∧ Below w.heap.size w w' := by
  have b0 := ((Below.refl w.heap.size w).alloc (Nat.le_refl _) (.cells (cpV c).cells 57)).alloc (by simp) (.cells (cpV M.zeroCp).cells 57)
  have h0 := (holds_new w (cpV c).cells 57).alloc (.cells (cpV M.zeroCp).cells 57)
  have f0 := (loose_new w (cpV c).cells 57).alloc (by simp) (.cells (cpV M.zeroCp).cells 57)
  have h1 := holds_new (w.alloc (.cells (cpV c).cells 57)) (cpV M.zeroCp).cells 57
  have f1 := loose_new (w.alloc (.cells (cpV c).cells 57)) (cpV M.zeroCp).cells 57
  simp only [World.size_alloc] at h1 f1
  go_enter Try.func28, Try.ntmps28
  go_wp2_with fail
  refine (clone_any c.page _ h).mono ?_
  rintro r w1 ⟨rfl, b1⟩
  replace f0 := f0.below h0.1 b1
  replace h0 := h0.below b1
  replace f1 := f1.below h1.1 b1
  replace h1 := h1.below b1
  replace b0 := next b0 b1
  have z1 := h1.1
  obtain ⟨p0, p1, p2, p3, p4⟩ := h0.at5
  obtain ⟨s0, s1, s2, s3, s4⟩ := f0.fz5
  obtain ⟨r0, r1, r2, r3, r4⟩ := h1.at5
  obtain ⟨t0, t1, t2, t3, t4⟩ := f1.fz5
  clear b1
  go_wp2
  exact bodyPost_ret (results_nc c (w.heap.size + 1) _ _ rfl ((h1.otherM (by omega)).wr5 _ _ _ _ _)) rfl ⟨rfl, far_5 (farM b0 (Nat.le_refl _) _ _) (by omega) _ _ _ _ _⟩


end Go.Proofs.Ytepjpfiekchdmaa
