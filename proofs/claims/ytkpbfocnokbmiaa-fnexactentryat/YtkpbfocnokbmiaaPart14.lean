/- Proved, in parts: Proved: the model's EntryAt, Tail and Cut answer the plain Lean functions that the program's answer, lists in memory of their own; nothing that was there is written. Condition: texts and lists of at most a million. -/
import Derived.Test.YtkpbfocnokbmiaaPart11
import Derived.Test.YtkpbfocnokbmiaaPart13
namespace Go.Proofs.Ytkpbfocnokbmiaa
open Go.RowKit
set_option maxRecDepth 20000
set_option linter.unusedVariables false
theorem Mem.grown {w0 : World} {hs : List (Nat × Array Value)} {ls : List Nat} {x y : World} {g : Nat} (h : Mem w0 hs ls x) (hg : x.grownBy y (some g)) (hb : w0.heap.size ≤ g) (hn : ∀ p ∈ hs, p.1 ≠ g) (hl : ∀ k ∈ ls, k ≠ g) : Mem w0 hs ls y :=
  ⟨h.1.grown hg h.1.size (fun k hk => by cases hk; exact hb), fun p hp => grown_holds (h.2.1 p hp) hg (fun e => hn p hp (Option.some.inj e)), fun k hk => ⟨Nat.lt_of_lt_of_le (h.2.2 k hk).1 hg.size, grown_loose (h.2.2 k hk).2 (h.2.2 k hk).1 hg (fun e => hl k hk (Option.some.inj e))⟩⟩
theorem results_sEntryAt (e : M.En) (t : Bool) (R : Nat) (W : World) (tmps : Array Value) (h4 : tmps.getD 4 undef = .pointer (some ⟨R, 0, none⟩)) (h5 : tmps.getD 5 undef = .bool t) (hW : Holds W R (enC e)) :
    (results Try.f28 tmps).run Try.prog W = .ok (.tuple #[enV e, .bool t]) W := by
  obtain ⟨q0, q1, q2, q3, q4, q5, q6, q7, q8, q9⟩ := hW.ten
  simp at h4 h5
  simp [results, Try.results28, go_sem, h4, h5, q0, q1, q2, q3, q4, q5, q6, q7, q8, q9]
set_option maxHeartbeats 4000000 in
theorem specEntryAt (b r : Int) (A : Option Addr) (l : List M.En) (cap : Nat) (i : Int) (w : World) (hl : Ens w A l) (hlen : l.length ≤ 1048576) (hp : ∀ e ∈ l, enIn 1048576 e) :
    Calls Try.prog 28 #[roV b r A l.length cap, .int .i64 i] w fun e w' => e = .returned (.tuple #[enV (M.entryAns b r l i).1, .bool (M.entryAns b r l i).2]) ∧ Below w.heap.size w w' := by
  have hM := ((Mem.start w).new (roA b r A l.length cap) 26).new (enC ⟨0, M.or0⟩) 37
  simp only [World.size_alloc] at hM
  have HL := Lib.hid hl
  have HP := Lib.hid hp
  clear hl hp
  rcases h1 : M.rollOk b r l with _ | _
  · have HE : Hid (M.entryAns b r l i = (⟨0, M.or0⟩, false)) := Lib.hid (by unfold M.entryAns; rw [M.entryAt_none (.inl h1)])
    have H1 := Lib.hid h1
    clear h1
    go_enter Try.func28, Try.ntmps28
    go_wp2_with fail
    refine (specRollOk b r A l cap _ (HL.out.below hM.1) hlen HP.out).mono ?_
    rintro e x1 ⟨rfl, b1⟩
    rw [H1.out]
    replace hM := hM.below b1
    clear b1
    have hM1 := hM
    clear hM
    obtain ⟨q0, q1, q2, q3, q4, q5, q6, q7, q8, q9⟩ := (hM1.get (w.heap.size + 1) (enC ⟨0, M.or0⟩) (by simp)).ten
    have z0 := hM1.loose (w.heap.size + 1) (by simp) 0
    have z1 := hM1.loose (w.heap.size + 1) (by simp) 1
    have z2 := hM1.loose (w.heap.size + 1) (by simp) 2
    have z3 := hM1.loose (w.heap.size + 1) (by simp) 3
    have z4 := hM1.loose (w.heap.size + 1) (by simp) 4
    have z5 := hM1.loose (w.heap.size + 1) (by simp) 5
    have z6 := hM1.loose (w.heap.size + 1) (by simp) 6
    have z7 := hM1.loose (w.heap.size + 1) (by simp) 7
    have z8 := hM1.loose (w.heap.size + 1) (by simp) 8
    have z9 := hM1.loose (w.heap.size + 1) (by simp) 9
    have zq := (hM1.get (w.heap.size + 1) (enC ⟨0, M.or0⟩) (by simp)).1
    have HM1 := Lib.hid hM1
    clear hM1
    go_wp2
    refine bodyPost_ret (results_sEntryAt ⟨0, M.or0⟩ false (w.heap.size + 1) _ _ rfl rfl ((HM1.out.get (w.heap.size + 1) (enC ⟨0, M.or0⟩) (by simp)).wr10 _ _ _ _ _ _ _ _ _ _)) rfl ⟨by rw [HE.out], far_10 HM1.out.1 (by omega) _ _ _ _ _ _ _ _ _ _⟩
  obtain ⟨g0, g1, -⟩ := M.rollOk_parts h1
  by_cases hb : i ≤ b
  · have HE : Hid (M.entryAns b r l i = (⟨0, M.or0⟩, false)) := Lib.hid (by unfold M.entryAns; rw [M.entryAt_none (by omega)])
    have H1 := Lib.hid h1
    clear h1
    go_enter Try.func28, Try.ntmps28
    go_wp2_with fail
    refine (specRollOk b r A l cap _ (HL.out.below hM.1) hlen HP.out).mono ?_
    rintro e x1 ⟨rfl, b1⟩
    rw [H1.out]
    replace hM := hM.below b1
    clear b1
    obtain ⟨p0, p1, p2⟩ := (hM.get w.heap.size (roA b r A l.length cap) (by simp)).three
    have hM1 := hM
    clear hM
    obtain ⟨q0, q1, q2, q3, q4, q5, q6, q7, q8, q9⟩ := (hM1.get (w.heap.size + 1) (enC ⟨0, M.or0⟩) (by simp)).ten
    have z0 := hM1.loose (w.heap.size + 1) (by simp) 0
    have z1 := hM1.loose (w.heap.size + 1) (by simp) 1
    have z2 := hM1.loose (w.heap.size + 1) (by simp) 2
    have z3 := hM1.loose (w.heap.size + 1) (by simp) 3
    have z4 := hM1.loose (w.heap.size + 1) (by simp) 4
    have z5 := hM1.loose (w.heap.size + 1) (by simp) 5
    have z6 := hM1.loose (w.heap.size + 1) (by simp) 6
    have z7 := hM1.loose (w.heap.size + 1) (by simp) 7
    have z8 := hM1.loose (w.heap.size + 1) (by simp) 8
    have z9 := hM1.loose (w.heap.size + 1) (by simp) 9
    have zq := (hM1.get (w.heap.size + 1) (enC ⟨0, M.or0⟩) (by simp)).1
    have HM1 := Lib.hid hM1
    clear hM1
    go_wp2
    refine bodyPost_ret (results_sEntryAt ⟨0, M.or0⟩ false (w.heap.size + 1) _ _ rfl rfl ((HM1.out.get (w.heap.size + 1) (enC ⟨0, M.or0⟩) (by simp)).wr10 _ _ _ _ _ _ _ _ _ _)) rfl ⟨by rw [HE.out], far_10 HM1.out.1 (by omega) _ _ _ _ _ _ _ _ _ _⟩
  by_cases hh : b + (l.length : Int) < i
  · have HE : Hid (M.entryAns b r l i = (⟨0, M.or0⟩, false)) := Lib.hid (by unfold M.entryAns; rw [M.entryAt_none (by omega)])
    have H1 := Lib.hid h1
    clear h1
    go_enter Try.func28, Try.ntmps28
    go_wp2_with fail
    refine (specRollOk b r A l cap _ (HL.out.below hM.1) hlen HP.out).mono ?_
    rintro e x1 ⟨rfl, b1⟩
    rw [H1.out]
    replace hM := hM.below b1
    clear b1
    obtain ⟨p0, p1, p2⟩ := (hM.get w.heap.size (roA b r A l.length cap) (by simp)).three
    go_wp2_with fail
    refine (l8Last_any b r A l cap _ g0 g1 hlen).mono ?_
    rintro e x2 ⟨rfl, b2⟩
    replace hM := hM.below b2
    clear b2
    clear p0 p1 p2
    have hM1 := hM
    clear hM
    obtain ⟨q0, q1, q2, q3, q4, q5, q6, q7, q8, q9⟩ := (hM1.get (w.heap.size + 1) (enC ⟨0, M.or0⟩) (by simp)).ten
    have z0 := hM1.loose (w.heap.size + 1) (by simp) 0
    have z1 := hM1.loose (w.heap.size + 1) (by simp) 1
    have z2 := hM1.loose (w.heap.size + 1) (by simp) 2
    have z3 := hM1.loose (w.heap.size + 1) (by simp) 3
    have z4 := hM1.loose (w.heap.size + 1) (by simp) 4
    have z5 := hM1.loose (w.heap.size + 1) (by simp) 5
    have z6 := hM1.loose (w.heap.size + 1) (by simp) 6
    have z7 := hM1.loose (w.heap.size + 1) (by simp) 7
    have z8 := hM1.loose (w.heap.size + 1) (by simp) 8
    have z9 := hM1.loose (w.heap.size + 1) (by simp) 9
    have zq := (hM1.get (w.heap.size + 1) (enC ⟨0, M.or0⟩) (by simp)).1
    have HM1 := Lib.hid hM1
    clear hM1
    go_wp2
    refine bodyPost_ret (results_sEntryAt ⟨0, M.or0⟩ false (w.heap.size + 1) _ _ rfl rfl ((HM1.out.get (w.heap.size + 1) (enC ⟨0, M.or0⟩) (by simp)).wr10 _ _ _ _ _ _ _ _ _ _)) rfl ⟨by rw [HE.out], far_10 HM1.out.1 (by omega) _ _ _ _ _ _ _ _ _ _⟩
  · obtain ⟨k, hk, hi⟩ : ∃ k : Nat, k < l.length ∧ i = b + k + 1 := ⟨(i - b - 1).toNat, by omega, by omega⟩
    subst hi
    have HE : Hid (M.entryAns b r l (b + k + 1) = (l[k], true)) := Lib.hid (by unfold M.entryAns; rw [M.entryAt_at hk h1])
    have H1 := Lib.hid h1
    have e1 : b + (k : Int) + 1 - b - 1 = k := by omega
    clear h1
    go_enter Try.func28, Try.ntmps28
    go_wp2_with fail
    refine (specRollOk b r A l cap _ (HL.out.below hM.1) hlen HP.out).mono ?_
    rintro e x1 ⟨rfl, b1⟩
    rw [H1.out]
    replace hM := hM.below b1
    clear b1
    obtain ⟨p0, p1, p2⟩ := (hM.get w.heap.size (roA b r A l.length cap) (by simp)).three
    go_wp2_with fail
    refine (l8Last_any b r A l cap _ g0 g1 hlen).mono ?_
    rintro e x2 ⟨rfl, b2⟩
    replace hM := hM.below b2
    clear b2
    clear p0 p1 p2
    obtain ⟨p0, p1, p2⟩ := (hM.get w.heap.size (roA b r A l.length cap) (by simp)).three
    obtain ⟨bb, oo, rfl, -, c0, c1, c2, c3, c4, c5, c6, c7, c8, c9⟩ := Ens_at (HL.out.below hM.1) hk
    have hM1 := hM
    clear hM
    obtain ⟨q0, q1, q2, q3, q4, q5, q6, q7, q8, q9⟩ := (hM1.get (w.heap.size + 1) (enC ⟨0, M.or0⟩) (by simp)).ten
    have z0 := hM1.loose (w.heap.size + 1) (by simp) 0
    have z1 := hM1.loose (w.heap.size + 1) (by simp) 1
    have z2 := hM1.loose (w.heap.size + 1) (by simp) 2
    have z3 := hM1.loose (w.heap.size + 1) (by simp) 3
    have z4 := hM1.loose (w.heap.size + 1) (by simp) 4
    have z5 := hM1.loose (w.heap.size + 1) (by simp) 5
    have z6 := hM1.loose (w.heap.size + 1) (by simp) 6
    have z7 := hM1.loose (w.heap.size + 1) (by simp) 7
    have z8 := hM1.loose (w.heap.size + 1) (by simp) 8
    have z9 := hM1.loose (w.heap.size + 1) (by simp) 9
    have zq := (hM1.get (w.heap.size + 1) (enC ⟨0, M.or0⟩) (by simp)).1
    have HM1 := Lib.hid hM1
    clear hM1
    go_wp2
    refine bodyPost_ret (results_sEntryAt l[k] true (w.heap.size + 1) _ _ rfl rfl ((HM1.out.get (w.heap.size + 1) (enC ⟨0, M.or0⟩) (by simp)).wr10 _ _ _ _ _ _ _ _ _ _)) rfl ⟨by rw [HE.out], far_10 HM1.out.1 (by omega) _ _ _ _ _ _ _ _ _ _⟩
end Go.Proofs.Ytkpbfocnokbmiaa
