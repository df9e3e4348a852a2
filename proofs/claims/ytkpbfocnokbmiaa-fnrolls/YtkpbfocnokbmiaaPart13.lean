/- Proved, in parts: Proved: the model's EntryAt, Tail and Cut answer the plain Lean functions that the program's answer, lists in memory of their own; nothing that was there is written. Condition: texts and lists of at most a million. Proved: how long what is cut off a roll is at most; no program is named here; no condition. Proved: the laws' own tests tell lists of entries and rolls like themselves; what a cut roll keeps. Nothing that was there is written. Condition: lists of at most a million. -/
import Derived.Test.YtkpbfocnokbmiaaPart11
import Derived.Test.YtkpbfocnokbmiaaPart12
import Derived.Calls
import Derived.KernelRfl
namespace Go.Proofs.Ytkpbfocnokbmiaa
open Go.RowKit
set_option maxRecDepth 20000
set_option linter.unusedVariables false
theorem Mem.grown {w0 : World} {hs : List (Nat × Array Value)} {ls : List Nat} {x y : World} {g : Nat} (h : Mem w0 hs ls x) (hg : x.grownBy y (some g)) (hb : w0.heap.size ≤ g) (hn : ∀ p ∈ hs, p.1 ≠ g) (hl : ∀ k ∈ ls, k ≠ g) : Mem w0 hs ls y :=
  ⟨h.1.grown hg h.1.size (fun k hk => by cases hk; exact hb), fun p hp => grown_holds (h.2.1 p hp) hg (fun e => hn p hp (Option.some.inj e)), fun k hk => ⟨Nat.lt_of_lt_of_le (h.2.2 k hk).1 hg.size, grown_loose (h.2.2 k hk).2 (h.2.2 k hk).1 hg (fun e => hl k hk (Option.some.inj e))⟩⟩
set_option maxHeartbeats 4000000 in
theorem l8Tail_any (b r : Int) (A : Option Addr) (l : List M.En) (cap : Nat) (k : Nat) (w : World) (g0 : 0 ≤ b) (g1 : b ≤ 300) (hl : Ens w A l) (hlen : l.length ≤ 1048576) (hlc : l.length ≤ cap) (hN : A = none → cap = 0) (hk : k ≤ l.length) :
    Calls Try.prog 57 #[roV b r A l.length cap, .int .i64 (b + k + 1)] w (EnsRet w (l.drop k)) := by
  have hM := (Mem.start w).new (roA b r A l.length cap) 26
  obtain ⟨i0, hi, hz0, hz1, hz2⟩ := info_parts infoEns
  have ho0 := World.ownsRow_made (size := 10) (e := 37) (w.alloc (.cells (roA b r A l.length cap) 26)) #[] 0 (base := (w.alloc (.cells (roA b r A l.length cap) 26)).heap.size) (Nat.le_refl _) (Nat.zero_le _) rfl
  simp only [World.size_alloc] at ho0
  have hm3 := hM.alloc (.cells #[] 37)
  have e1 : b + (k : Int) + 1 - b - 1 = k := by omega
  have HDL : Hid ((l.drop k).length = l.length - k) := Lib.hid List.length_drop
  have HW := Lib.hid ho0
  have HM3 := Lib.hid hm3
  have HL := Lib.hid hl
  clear hM ho0 hm3 hl
  by_cases hkc : cap = k
  · have hkl : k = l.length := by omega
    subst hkl
    subst hkc
    have HNIL : Hid (l.drop l.length = []) := Lib.hid (List.drop_of_length_le (Nat.le_refl _))
    go_enter Try.func57, Try.ntmps57
    go_wp2_with (at_builtin; refine stop_mk ?_)
    refine stop_un ?_
    refine wpList_append_flat (enc := enL) (k := 10) (l := []) rfl _ _ 24 rfl (w.heap.size + 1) 37 i0 _ 96 Try.underlying24 hi hz0 hz1 hz2 rfl (by decide) _ 0 [] rfl HW.out A 0 (by first | rfl | simp) (fun _ => rfl) (.inl rfl) enL_len (en_one _) (by simp) (by simp) (by simp) ?_
    intro v4 w4 hown4 hgrow4
    simp only [List.length_nil, Nat.zero_add, List.nil_append] at hown4
    have hb4 := HM3.out.1.grown hgrow4 HM3.out.1.size (fun k hk => by cases hk; show w.heap.size ≤ w.heap.size + 1; omega)
    obtain ⟨A4, c4, rfl, -, -⟩ := own_flat enL_len (l := []) hown4
    have HO := Lib.hid hown4
    clear hown4 hgrow4
    go_wp2
    go_ret
    refine ⟨A4, c4, by rw [HNIL.out]; rfl, ?_, hb4⟩
    rw [HNIL.out]
    exact World.ownsRow.mono HO.out (by omega)
  · go_enter Try.func57, Try.ntmps57
    go_wp2_with (at_builtin; refine stop_mk ?_)
    refine stop_un ?_
    have hfl := HL.out.cutDrop k hlc
    unfold cutAt at hfl
    rw [if_neg hkc] at hfl
    refine wpList_append_flat (enc := enL) (k := 10) (l := l.drop k) rfl _ _ 24 rfl (w.heap.size + 1) 37 i0 _ 96 Try.underlying24 hi hz0 hz1 hz2 rfl (by decide) _ 0 [] rfl HW.out (A.map (·.add (k * 10))) (cap - k) (by rw [HDL.out]; rfl) (fun h => by cases A with | none => have := hN rfl; omega | some a => simp at h) (hfl.below HM3.out.1) enL_len (en_one _) (by rw [HDL.out]; unfold maxLen; omega) (by rw [HDL.out]; omega) (by simp) ?_
    intro v4 w4 hown4 hgrow4
    simp only [Nat.zero_add, List.nil_append] at hown4
    have hb4 := HM3.out.1.grown hgrow4 HM3.out.1.size (fun k hk => by cases hk; show w.heap.size ≤ w.heap.size + 1; omega)
    obtain ⟨A4, c4, rfl, -, -⟩ := own_flat enL_len hown4
    have HO := Lib.hid hown4
    clear hown4 hgrow4 hfl
    go_wp2
    go_ret
    exact ⟨A4, c4, by rw [HDL.out]; rfl, World.ownsRow.mono HO.out (by omega), hb4⟩
theorem results_sEntryAt (e : M.En) (t : Bool) (R : Nat) (W : World) (tmps : Array Value) (h4 : tmps.getD 4 undef = .pointer (some ⟨R, 0, none⟩)) (h5 : tmps.getD 5 undef = .bool t) (hW : Holds W R (enC e)) :
    (results Try.f28 tmps).run Try.prog W = .ok (.tuple #[enV e, .bool t]) W := by
  obtain ⟨q0, q1, q2, q3, q4, q5, q6, q7, q8, q9⟩ := hW.ten
  simp at h4 h5
  simp [results, Try.results28, go_sem, h4, h5, q0, q1, q2, q3, q4, q5, q6, q7, q8, q9]
set_option maxHeartbeats 4000000 in
theorem specEntryAt (b r : Int) (A : Option Addr) (l : List M.En) (cap : Nat) (i : Int) (w : World) (hl : Ens w A l) (hlen : l.length ≤ 1048576) (hp : ∀ e ∈ l, enIn 1048576 e) :
    Calls Try.prog 28 #[roV b r A l.length cap, .int .i64 i] w fun e w' => e = .returned (.tuple #[enV (M.entryAns b r l i).1, .bool (M.entryAns b r l i).2]) ∧ Below w.heap.size w w' := by
  have hM := ((Mem.start w).new (roA b r A l.length cap) 26).new (enC ⟨0, M.or0⟩) 37
  simp only [World.size_alloc] at hM
  have HL := Lib.hid hl
  have HP := Lib.hid hp
  clear hl hp
  rcases h1 : M.rollOk b r l with _ | _
  · have HE : Hid (M.entryAns b r l i = (⟨0, M.or0⟩, false)) := Lib.hid (by unfold M.entryAns; rw [M.entryAt_none (.inl h1)])
    have H1 := Lib.hid h1
    clear h1
    go_enter Try.func28, Try.ntmps28
    go_wp2_with fail
    refine (specRollOk b r A l cap _ (HL.out.below hM.1) hlen HP.out).mono ?_
    rintro e x1 ⟨rfl, b1⟩
    rw [H1.out]
    replace hM := hM.below b1
    clear b1
    have hM1 := hM
    clear hM
    obtain ⟨q0, q1, q2, q3, q4, q5, q6, q7, q8, q9⟩ := (hM1.get (w.heap.size + 1) (enC ⟨0, M.or0⟩) (by simp)).ten
    have z0 := hM1.loose (w.heap.size + 1) (by simp) 0
    have z1 := hM1.loose (w.heap.size + 1) (by simp) 1
    have z2 := hM1.loose (w.heap.size + 1) (by simp) 2
    have z3 := hM1.loose (w.heap.size + 1) (by simp) 3
    have z4 := hM1.loose (w.heap.size + 1) (by simp) 4
    have z5 := hM1.loose (w.heap.size + 1) (by simp) 5
    have z6 := hM1.loose (w.heap.size + 1) (by simp) 6
    have z7 := hM1.loose (w.heap.size + 1) (by simp) 7
    have z8 := hM1.loose (w.heap.size + 1) (by simp) 8
    have z9 := hM1.loose (w.heap.size + 1) (by simp) 9
    have zq := (hM1.get (w.heap.size + 1) (enC ⟨0, M.or0⟩) (by simp)).1
    have HM1 := Lib.hid hM1
    clear hM1
    go_wp2
    refine bodyPost_ret (results_sEntryAt ⟨0, M.or0⟩ false (w.heap.size + 1) _ _ rfl rfl ((HM1.out.get (w.heap.size + 1) (enC ⟨0, M.or0⟩) (by simp)).wr10 _ _ _ _ _ _ _ _ _ _)) rfl ⟨by rw [HE.out], far_10 HM1.out.1 (by omega) _ _ _ _ _ _ _ _ _ _⟩
  obtain ⟨g0, g1, -⟩ := M.rollOk_parts h1
  by_cases hb : i ≤ b
  · have HE : Hid (M.entryAns b r l i = (⟨0, M.or0⟩, false)) := Lib.hid (by unfold M.entryAns; rw [M.entryAt_none (by omega)])
    have H1 := Lib.hid h1
    clear h1
    go_enter Try.func28, Try.ntmps28
    go_wp2_with fail
    refine (specRollOk b r A l cap _ (HL.out.below hM.1) hlen HP.out).mono ?_
    rintro e x1 ⟨rfl, b1⟩
    rw [H1.out]
    replace hM := hM.below b1
    clear b1
    obtain ⟨p0, p1, p2⟩ := (hM.get w.heap.size (roA b r A l.length cap) (by simp)).three
    have hM1 := hM
    clear hM
    obtain ⟨q0, q1, q2, q3, q4, q5, q6, q7, q8, q9⟩ := (hM1.get (w.heap.size + 1) (enC ⟨0, M.or0⟩) (by simp)).ten
    have z0 := hM1.loose (w.heap.size + 1) (by simp) 0
    have z1 := hM1.loose (w.heap.size + 1) (by simp) 1
    have z2 := hM1.loose (w.heap.size + 1) (by simp) 2
    have z3 := hM1.loose (w.heap.size + 1) (by simp) 3
    have z4 := hM1.loose (w.heap.size + 1) (by simp) 4
    have z5 := hM1.loose (w.heap.size + 1) (by simp) 5
    have z6 := hM1.loose (w.heap.size + 1) (by simp) 6
    have z7 := hM1.loose (w.heap.size + 1) (by simp) 7
    have z8 := hM1.loose (w.heap.size + 1) (by simp) 8
    have z9 := hM1.loose (w.heap.size + 1) (by simp) 9
    have zq := (hM1.get (w.heap.size + 1) (enC ⟨0, M.or0⟩) (by simp)).1
    have HM1 := Lib.hid hM1
    clear hM1
    go_wp2
    refine bodyPost_ret (results_sEntryAt ⟨0, M.or0⟩ false (w.heap.size + 1) _ _ rfl rfl ((HM1.out.get (w.heap.size + 1) (enC ⟨0, M.or0⟩) (by simp)).wr10 _ _ _ _ _ _ _ _ _ _)) rfl ⟨by rw [HE.out], far_10 HM1.out.1 (by omega) _ _ _ _ _ _ _ _ _ _⟩
  by_cases hh : b + (l.length : Int) < i
  · have HE : Hid (M.entryAns b r l i = (⟨0, M.or0⟩, false)) := Lib.hid (by unfold M.entryAns; rw [M.entryAt_none (by omega)])
    have H1 := Lib.hid h1
    clear h1
    go_enter Try.func28, Try.ntmps28
    go_wp2_with fail
    refine (specRollOk b r A l cap _ (HL.out.below hM.1) hlen HP.out).mono ?_
    rintro e x1 ⟨rfl, b1⟩
    rw [H1.out]
    replace hM := hM.below b1
    clear b1
    obtain ⟨p0, p1, p2⟩ := (hM.get w.heap.size (roA b r A l.length cap) (by simp)).three
    go_wp2_with fail
    refine (l8Last_any b r A l cap _ g0 g1 hlen).mono ?_
    rintro e x2 ⟨rfl, b2⟩
    replace hM := hM.below b2
    clear b2
    clear p0 p1 p2
    have hM1 := hM
    clear hM
    obtain ⟨q0, q1, q2, q3, q4, q5, q6, q7, q8, q9⟩ := (hM1.get (w.heap.size + 1) (enC ⟨0, M.or0⟩) (by simp)).ten
    have z0 := hM1.loose (w.heap.size + 1) (by simp) 0
    have z1 := hM1.loose (w.heap.size + 1) (by simp) 1
    have z2 := hM1.loose (w.heap.size + 1) (by simp) 2
    have z3 := hM1.loose (w.heap.size + 1) (by simp) 3
    have z4 := hM1.loose (w.heap.size + 1) (by simp) 4
    have z5 := hM1.loose (w.heap.size + 1) (by simp) 5
    have z6 := hM1.loose (w.heap.size + 1) (by simp) 6
    have z7 := hM1.loose (w.heap.size + 1) (by simp) 7
    have z8 := hM1.loose (w.heap.size + 1) (by simp) 8
    have z9 := hM1.loose (w.heap.size + 1) (by simp) 9
    have zq := (hM1.get (w.heap.size + 1) (enC ⟨0, M.or0⟩) (by simp)).1
    have HM1 := Lib.hid hM1
    clear hM1
    go_wp2
    refine bodyPost_ret (results_sEntryAt ⟨0, M.or0⟩ false (w.heap.size + 1) _ _ rfl rfl ((HM1.out.get (w.heap.size + 1) (enC ⟨0, M.or0⟩) (by simp)).wr10 _ _ _ _ _ _ _ _ _ _)) rfl ⟨by rw [HE.out], far_10 HM1.out.1 (by omega) _ _ _ _ _ _ _ _ _ _⟩
  · obtain ⟨k, hk, hi⟩ : ∃ k : Nat, k < l.length ∧ i = b + k + 1 := ⟨(i - b - 1).toNat, by omega, by omega⟩
    subst hi
    have HE : Hid (M.entryAns b r l (b + k + 1) = (l[k], true)) := Lib.hid (by unfold M.entryAns; rw [M.entryAt_at hk h1])
    have H1 := Lib.hid h1
    have e1 : b + (k : Int) + 1 - b - 1 = k := by omega
    clear h1
    go_enter Try.func28, Try.ntmps28
    go_wp2_with fail
    refine (specRollOk b r A l cap _ (HL.out.below hM.1) hlen HP.out).mono ?_
    rintro e x1 ⟨rfl, b1⟩
    rw [H1.out]
    replace hM := hM.below b1
    clear b1
    obtain ⟨p0, p1, p2⟩ := (hM.get w.heap.size (roA b r A l.length cap) (by simp)).three
    go_wp2_with fail
    refine (l8Last_any b r A l cap _ g0 g1 hlen).mono ?_
    rintro e x2 ⟨rfl, b2⟩
    replace hM := hM.below b2
    clear b2
    clear p0 p1 p2
    obtain ⟨p0, p1, p2⟩ := (hM.get w.heap.size (roA b r A l.length cap) (by simp)).three
    obtain ⟨bb, oo, rfl, -, c0, c1, c2, c3, c4, c5, c6, c7, c8, c9⟩ := Ens_at (HL.out.below hM.1) hk
    have hM1 := hM
    clear hM
    obtain ⟨q0, q1, q2, q3, q4, q5, q6, q7, q8, q9⟩ := (hM1.get (w.heap.size + 1) (enC ⟨0, M.or0⟩) (by simp)).ten
    have z0 := hM1.loose (w.heap.size + 1) (by simp) 0
    have z1 := hM1.loose (w.heap.size + 1) (by simp) 1
    have z2 := hM1.loose (w.heap.size + 1) (by simp) 2
    have z3 := hM1.loose (w.heap.size + 1) (by simp) 3
    have z4 := hM1.loose (w.heap.size + 1) (by simp) 4
    have z5 := hM1.loose (w.heap.size + 1) (by simp) 5
    have z6 := hM1.loose (w.heap.size + 1) (by simp) 6
    have z7 := hM1.loose (w.heap.size + 1) (by simp) 7
    have z8 := hM1.loose (w.heap.size + 1) (by simp) 8
    have z9 := hM1.loose (w.heap.size + 1) (by simp) 9
    have zq := (hM1.get (w.heap.size + 1) (enC ⟨0, M.or0⟩) (by simp)).1
    have HM1 := Lib.hid hM1
    clear hM1
    go_wp2
    refine bodyPost_ret (results_sEntryAt l[k] true (w.heap.size + 1) _ _ rfl rfl ((HM1.out.get (w.heap.size + 1) (enC ⟨0, M.or0⟩) (by simp)).wr10 _ _ _ _ _ _ _ _ _ _)) rfl ⟨by rw [HE.out], far_10 HM1.out.1 (by omega) _ _ _ _ _ _ _ _ _ _⟩
set_option maxHeartbeats 4000000 in
theorem specTail (b r : Int) (A : Option Addr) (l : List M.En) (cap : Nat) (i : Int) (w : World) (hl : Ens w A l) (hlen : l.length ≤ 1048576) (hp : ∀ e ∈ l, enIn 1048576 e) (hlc : l.length ≤ cap) (hN : A = none → cap = 0) :
    Calls Try.prog 22 #[roV b r A l.length cap, .int .i64 i] w (EnsRet w (M.tail b r l i)) := by
  have hM := (Mem.start w).new (roA b r A l.length cap) 26
  have HL := Lib.hid hl
  have HP := Lib.hid hp
  clear hl hp
  rcases h1 : M.rollOk b r l with _ | _
  · have HE : Hid (M.tail b r l i = []) := Lib.hid (M.tail_none (.inl h1))
    have H1 := Lib.hid h1
    clear h1
    go_enter Try.func22, Try.ntmps22
    go_wp2_with fail
    refine (specRollOk b r A l cap _ (HL.out.below hM.1) hlen HP.out).mono ?_
    rintro e x1 ⟨rfl, b1⟩
    rw [H1.out]
    replace hM := hM.below b1
    clear b1
    have HM := Lib.hid hM.1
    clear hM
    go_wp2
    go_ret
    exact ⟨_, _, by rw [HE.out]; rfl, by rw [HE.out]; exact World.ownsRow.mono (World.ownsRow_made (size := 10) (e := 37) _ #[] 0 (Nat.le_refl _) (Nat.zero_le _) rfl) HM.out.size, HM.out.alloc HM.out.size _⟩
  obtain ⟨g0, g1, -⟩ := M.rollOk_parts h1
  rcases tail_of b i l.length with hi | hi | ⟨k, hk, hi⟩
  · have HE : Hid (M.tail b r l i = []) := Lib.hid (M.tail_none (.inr (.inl hi)))
    have H1 := Lib.hid h1
    clear h1
    go_enter Try.func22, Try.ntmps22
    go_wp2_with fail
    refine (specRollOk b r A l cap _ (HL.out.below hM.1) hlen HP.out).mono ?_
    rintro e x1 ⟨rfl, b1⟩
    rw [H1.out]
    replace hM := hM.below b1
    clear b1
    obtain ⟨p0, p1, p2⟩ := (hM.get w.heap.size (roA b r A l.length cap) (by simp)).three
    have HM := Lib.hid hM.1
    clear hM
    go_wp2
    go_ret
    exact ⟨_, _, by rw [HE.out]; rfl, by rw [HE.out]; exact World.ownsRow.mono (World.ownsRow_made (size := 10) (e := 37) _ #[] 0 (Nat.le_refl _) (Nat.zero_le _) rfl) HM.out.size, HM.out.alloc HM.out.size _⟩
  · have HE : Hid (M.tail b r l i = []) := Lib.hid (M.tail_none (.inr (.inr hi)))
    have H1 := Lib.hid h1
    have e0 : ¬ i ≤ b := by omega
    clear h1
    go_enter Try.func22, Try.ntmps22
    go_wp2_with fail
    refine (specRollOk b r A l cap _ (HL.out.below hM.1) hlen HP.out).mono ?_
    rintro e x1 ⟨rfl, b1⟩
    rw [H1.out]
    replace hM := hM.below b1
    clear b1
    obtain ⟨p0, p1, p2⟩ := (hM.get w.heap.size (roA b r A l.length cap) (by simp)).three
    go_wp2_with fail
    refine (l8Last_any b r A l cap _ g0 g1 hlen).mono ?_
    rintro e x2 ⟨rfl, b2⟩
    replace hM := hM.below b2
    clear b2
    clear p0 p1 p2
    have HM := Lib.hid hM.1
    clear hM
    go_wp2
    go_ret
    exact ⟨_, _, by rw [HE.out]; rfl, by rw [HE.out]; exact World.ownsRow.mono (World.ownsRow_made (size := 10) (e := 37) _ #[] 0 (Nat.le_refl _) (Nat.zero_le _) rfl) HM.out.size, HM.out.alloc HM.out.size _⟩
  · subst hi
    have HE : Hid (M.tail b r l (b + k + 1) = l.drop k) := Lib.hid (M.tail_at hk h1)
    have H1 := Lib.hid h1
    have e0 : ¬ b + (k : Int) + 1 ≤ b := by omega
    have e2 : ¬ b + (l.length : Int) + 1 < b + k + 1 := by omega
    have HDL : Hid ((l.drop k).length = l.length - k) := Lib.hid List.length_drop
    clear h1
    go_enter Try.func22, Try.ntmps22
    go_wp2_with fail
    refine (specRollOk b r A l cap _ (HL.out.below hM.1) hlen HP.out).mono ?_
    rintro e x1 ⟨rfl, b1⟩
    rw [H1.out]
    replace hM := hM.below b1
    clear b1
    obtain ⟨p0, p1, p2⟩ := (hM.get w.heap.size (roA b r A l.length cap) (by simp)).three
    go_wp2_with fail
    refine (l8Last_any b r A l cap _ g0 g1 hlen).mono ?_
    rintro e x2 ⟨rfl, b2⟩
    replace hM := hM.below b2
    clear b2
    clear p0 p1 p2
    obtain ⟨p0, p1, p2⟩ := (hM.get w.heap.size (roA b r A l.length cap) (by simp)).three
    go_wp2_with fail
    refine (l8Tail_any b r A l cap k _ g0 g1 (HL.out.below hM.1) hlen hlc hN hk).mono ?_
    rintro e x4 ⟨A4, c4, rfl, ho, b4⟩
    have HO := Lib.hid ho
    have hs := hM.1.size
    clear ho p0 p1 p2
    go_wp2
    go_ret
    exact ⟨A4, c4, by rw [HE.out, HDL.out]; rfl, by rw [HE.out]; exact World.ownsRow.mono HO.out hs, hM.1.trans (b4.mono hs)⟩
end Go.Proofs.Ytkpbfocnokbmiaa
namespace Go.Proofs.Ytkpbfocnokbmiaa
open Go.RowKit
theorem M.tail_len (b r : Int) (l : List M.En) (i : Int) : (M.tail b r l i).length ≤ l.length := by
  unfold M.tail
  split
  · rw [List.length_drop]; omega
  · simp
theorem RcRet.open {w y : World} {B R : Int} {q : List M.En} {t : Bool} {e : Ending} (h : RcRet w ((B, R, q), t) e y) : ∃ A c, e = .returned (.tuple #[roV B R A q.length c, .bool t]) ∧ EnsOwn w.heap.size y (.slice A q.length c) q ∧ Below w.heap.size w y := h
end Go.Proofs.Ytkpbfocnokbmiaa
namespace Go.Proofs.Ytkpbfocnokbmiaa
open Go Go.RowKit
set_option maxRecDepth 20000
set_option linter.unusedVariables false
namespace M
theorem reignIn_ahead {b r : Int} {l : List En} {m : Nat} (h : m ≤ l.length) : reignIn b r l (b + m) = reignAhead r l m := by
  cases m with
  | zero =>
    show reignIn b r l (b + ((0 : Nat) : Int)) = r
    rw [show b + ((0 : Nat) : Int) = b by omega]
    exact reignIn_base b r l
  | succ p =>
    rw [reignAhead_succ (by omega)]
    have := reignIn_at (b := b) (r := r) (l := l) (k := p) (by omega)
    rw [show b + ((p + 1 : Nat) : Int) = b + p + 1 by omega]
    exact this
theorem roll_up {b r : Int} {l : List En} (h : rollOk b r l = true) : ∀ (j : Nat) (hj : j < l.length), reignAhead r l j ≤ l[j].reign := by
  simp only [rollOk, Bool.and_eq_true] at h
  exact (upFrom_iff r l).1 h.2.2.2
theorem reign_step {b r : Int} {l : List En} {m : Nat} (h : rollOk b r l = true) (hm : m < l.length) : reignAt b r l (b + m) ≤ l[m].reign := by
  unfold reignAt
  rw [if_pos h, reignIn_ahead (by omega)]
  exact roll_up h m hm
end M
theorem ens_cap {B n c : Nat} {w : World} {A : Option Addr} {l : List M.En} (h : EnsOwn B w (.slice A n c) l) : l.length ≤ c := by
  obtain ⟨A', c', hv, hc, _⟩ := own_flat enL_len h
  have : c = c' := by injection hv
  omega
theorem en_neq (c : M.En) (w : World) : (binOp .neq 37 (enV c) (enV c)).run Try.prog w = .ok (.bool false) w := by
  simp [go_sem, Try.underlying37, Try.underlying35, Try.underlying33, Try.underlying31, Try.underlying2, Try.underlying9]
theorem enneq_read {A : Act} {o : Oper} {x y : Operand} {c : M.En} (ho : o.op = .binOp .neq 37 x y 37) (hx : A.eval x = enV c) (hy : A.eval y = enV c) (w : World) :
    (execOp A.eval o).run Try.prog w = .ok (.value (.bool false)) w := by
  unfold execOp
  rw [ho]
  have hg := fun (op : BinOp) (x y : Operand) (xs ys : Array Value) (w : World) => run_eqGuard_agg (P := Try.prog) w op 37 x y xs ys (by kernel_rfl)
  have he := fun w => en_neq c w
  simp only [enV] at he hx hy
  simp only [hx, hy, Sem.run_bind, hg, he, Result.andThen_ok, Sem.run_pure]
set_option maxHeartbeats 2000000 in
theorem likeList_same (A B : Option Addr) (l : List M.En) (n m ca cb : Nat) (w : World) (hn : n = l.length) (hm : m = l.length) (ha : Ens w A l) (hb : Ens w B l) (hlen : l.length ≤ 1048576) :
    Calls Try.prog 21 #[.slice A n ca, .slice B m cb] w fun e w' => e = .returned (.bool true) ∧ Below w.heap.size w w' := by
  subst hn
  subst hm
  have he : ((l.length : Int) != (l.length : Int)) = false := by simp
  go_enter Try.func21, Try.ntmps21
  go_wp2
  go_loopw [5] (fun i wr => ∃ j : Nat, i = .int .i64 j ∧ j ≤ l.length ∧ Below w.heap.size w wr) (fun i _ => l.length - (intOf i).toNat)
  case atStart => exact ⟨0, rfl, Nat.zero_le _, Below.refl _ _⟩
  case round =>
    obtain ⟨j, rfl, hj, hbl⟩ := hrel
    by_cases hlt : j < l.length
    · obtain ⟨b, o, rfl, zb, c0, c1, c2, c3, c4, c5, c6, c7, c8, c9⟩ := Ens_at (ha.below hbl) hlt
      obtain ⟨b', o', rfl, zd, d0, d1, d2, d3, d4, d5, d6, d7, d8, d9⟩ := Ens_at (hb.below hbl) hlt
      have HA := Lib.hid ha
      have HB := Lib.hid hb
      clear ha hb
      go_upto_region 6 with (fail)
      refine wp_region_seq (fun w' => Below wr.heap.size wr w') [(0, true), (1, true), (2, true), (3, true), (4, true), (5, true), (6, true), (7, true), (8, true)] (by kernel_rfl) (by kernel_rfl) (fun _ _ _ _ _ h => h) (by kernel_rfl) (by decide) (Below.refl _ _).drew ?_
      intro hHeld
      repeat (first
        | (refine seq_read (by simp only [List.getElem?_toArray, List.getElem?_cons_succ, List.getElem?_cons_zero]; first | done | rfl) (by rfl) (fun w _ => enneq_read (c := l[j]) rfl rfl rfl w) ?_; (try simp only [Act.put, List.setIfInBounds_toArray, List.set_cons_zero, List.set_cons_succ]))
        | (refine seq_skip (by simp only [List.getElem?_toArray, List.getElem?_cons_succ, List.getElem?_cons_zero]; first | done | rfl) (by rfl) ?_; (try simp only [Act.put, List.setIfInBounds_toArray, List.set_cons_zero, List.set_cons_succ]))
        | (refine seq_reads (by simp only [List.getElem?_toArray, List.getElem?_cons_succ, List.getElem?_cons_zero]; first | done | rfl) (by rfl) ?_; apply Exists.intro; apply And.intro; (focus (intro w hSw; obtain ⟨hcS, -⟩ := bcell hSw; go_simp; (try with_reducible rfl); done)); (try simp only [Act.put, List.setIfInBounds_toArray, List.set_cons_zero, List.set_cons_succ]))
        | (refine seq_pass (by simp only [List.getElem?_toArray, List.getElem?_cons_succ, List.getElem?_cons_zero]; first | done | rfl) (by rfl) hHeld ?_; clear hHeld; intro hHeld; (try simp only [Act.put, List.setIfInBounds_toArray, List.set_cons_zero, List.set_cons_succ])))
      refine seq_end ?_
      have HBL := Lib.hid (next hbl hHeld)
      clear hHeld c0 c1 c2 c3 c4 c5 c6 c7 c8 c9 d0 d1 d2 d3 d4 d5 d6 d7 d8 d9
      go_wp2
      go_roundw
      case rel => exact ⟨j + 1, by go_num, by omega, HBL.out⟩
      case measure => simp [intOf]; omega
    · have hj' : j = l.length := by omega
      subst hj'
      go_wp2
      go_ret
      exact ⟨rfl, hbl⟩
end Go.Proofs.Ytkpbfocnokbmiaa
