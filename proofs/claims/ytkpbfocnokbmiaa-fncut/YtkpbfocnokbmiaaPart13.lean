/- Proved, in parts: Proved: the model's EntryAt, Tail and Cut answer the plain Lean functions that the program's answer, lists in memory of their own; nothing that was there is written. Condition: texts and lists of at most a million. -/
import Derived.Test.YtkpbfocnokbmiaaPart11
import Derived.Test.YtkpbfocnokbmiaaPart12
namespace Go.Proofs.Ytkpbfocnokbmiaa
open Go.RowKit
set_option maxRecDepth 20000
set_option linter.unusedVariables false
theorem results_l8Copy (b r : Int) (A : Option Addr) (n c : Nat) (R : Nat) (W : World) (tmps : Array Value) (h2 : tmps.getD 2 undef = .pointer (some ⟨R, 0, none⟩)) (hW : Holds W R (roA b r A n c)) :
    (results Try.f69 tmps).run Try.prog W = .ok (roV b r A n c) W := by
  obtain ⟨q0, q1, q2⟩ := hW.three
  simp at h2
  simp [results, Try.results69, go_sem, h2, q0, q1, q2]
theorem Mem.grown {w0 : World} {hs : List (Nat × Array Value)} {ls : List Nat} {x y : World} {g : Nat} (h : Mem w0 hs ls x) (hg : x.grownBy y (some g)) (hb : w0.heap.size ≤ g) (hn : ∀ p ∈ hs, p.1 ≠ g) (hl : ∀ k ∈ ls, k ≠ g) : Mem w0 hs ls y :=
  ⟨h.1.grown hg h.1.size (fun k hk => by cases hk; exact hb), fun p hp => grown_holds (h.2.1 p hp) hg (fun e => hn p hp (Option.some.inj e)), fun k hk => ⟨Nat.lt_of_lt_of_le (h.2.2 k hk).1 hg.size, grown_loose (h.2.2 k hk).2 (h.2.2 k hk).1 hg (fun e => hl k hk (Option.some.inj e))⟩⟩
set_option maxHeartbeats 4000000 in
theorem l8Copy_any (b r : Int) (A : Option Addr) (l : List M.En) (cap : Nat) (w : World) (hl : Ens w A l) (hlen : l.length ≤ 1048576) (hp : ∀ e ∈ l, enIn 1048576 e) (hN : A = none → cap = 0) :
    Calls Try.prog 69 #[roV b r A l.length cap] w (RoRet w b r l) := by
  have hM := ((Mem.start w).new (roA b r A l.length cap) 26).new (roA 0 0 none 0 0) 26
  simp only [World.size_alloc] at hM
  obtain ⟨i0, hi, hz0, hz1, hz2⟩ := info_parts infoEns
  have ho0 := World.ownsRow_made (size := 10) (e := 37) ((w.alloc (.cells (roA b r A l.length cap) 26)).alloc (.cells (roA 0 0 none 0 0) 26)) #[] 0 (base := ((w.alloc (.cells (roA b r A l.length cap) 26)).alloc (.cells (roA 0 0 none 0 0) 26)).heap.size) (Nat.le_refl _) (Nat.zero_le _) rfl
  simp only [World.size_alloc] at ho0
  have hm3 := hM.alloc (.cells #[] 37)
  have hfl := hl.below hm3.1
  have HFL := Lib.hid hfl
  have HW := Lib.hid ho0
  have HM3 := Lib.hid hm3
  clear hl hM ho0 hm3 hfl
  go_enter Try.func69, Try.ntmps69
  go_wp2_with (at_builtin; refine stop_mk ?_)
  refine stop_un ?_
  refine wpList_append_flat (enc := enL) (k := 10) (l := l) rfl _ _ 24 rfl (w.heap.size + 1 + 1) 37 i0 _ 96 Try.underlying24 hi hz0 hz1 hz2 rfl (by decide) _ 0 [] rfl HW.out A cap rfl hN HFL.out enL_len (en_one _) (by unfold maxLen; omega) (by omega) (by simp) ?_
  intro v4 w4 hown4 hgrow4
  simp only [Nat.zero_add, List.nil_append] at hown4
  obtain ⟨A4, c4, rfl, -, -⟩ := own_flat enL_len hown4
  have hM4 := HM3.out.grown hgrow4 (show w.heap.size ≤ w.heap.size + 1 + 1 by omega) (by simp; omega) (by simp; omega)
  have HO := Lib.hid hown4
  clear hown4 hgrow4
  obtain ⟨p0, p1, p2⟩ := (hM4.get w.heap.size (roA b r A l.length cap) (by simp)).three
  obtain ⟨q0, q1, q2⟩ := (hM4.get (w.heap.size + 1) (roA 0 0 none 0 0) (by simp)).three
  have y2 := hM4.loose w.heap.size (by simp) 2
  have z0 := hM4.loose (w.heap.size + 1) (by simp) 0
  have z1 := hM4.loose (w.heap.size + 1) (by simp) 1
  have z2 := hM4.loose (w.heap.size + 1) (by simp) 2
  have zp := (hM4.get w.heap.size (roA b r A l.length cap) (by simp)).1
  have zq := (hM4.get (w.heap.size + 1) (roA 0 0 none 0 0) (by simp)).1
  have HM4 := Lib.hid hM4
  clear hM4
  go_wp2
  refine bodyPost_ret (results_l8Copy b r A4 l.length c4 (w.heap.size + 1) _ _ rfl ?_) rfl ⟨A4, c4, rfl, ?_, ?_⟩
  · exact ((HM4.out.get (w.heap.size + 1) (roA 0 0 none 0 0) (by simp)).otherM (by omega)).wr3 _ _ _
  · exact World.ownsRow.mono (row_set3 (row_set HO.out (by omega) 2 _) (by omega) _ _ _) (by omega)
  · exact far_3 (HM4.out.1.setCell (Nat.le_refl _) _) (by omega) _ _ _
set_option maxHeartbeats 4000000 in
theorem l8Tail_any (b r : Int) (A : Option Addr) (l : List M.En) (cap : Nat) (k : Nat) (w : World) (g0 : 0 ≤ b) (g1 : b ≤ 300) (hl : Ens w A l) (hlen : l.length ≤ 1048576) (hlc : l.length ≤ cap) (hN : A = none → cap = 0) (hk : k ≤ l.length) :
    Calls Try.prog 57 #[roV b r A l.length cap, .int .i64 (b + k + 1)] w (EnsRet w (l.drop k)) := by
  have hM := (Mem.start w).new (roA b r A l.length cap) 26
  obtain ⟨i0, hi, hz0, hz1, hz2⟩ := info_parts infoEns
  have ho0 := World.ownsRow_made (size := 10) (e := 37) (w.alloc (.cells (roA b r A l.length cap) 26)) #[] 0 (base := (w.alloc (.cells (roA b r A l.length cap) 26)).heap.size) (Nat.le_refl _) (Nat.zero_le _) rfl
  simp only [World.size_alloc] at ho0
  have hm3 := hM.alloc (.cells #[] 37)
  have e1 : b + (k : Int) + 1 - b - 1 = k := by omega
  have HDL : Hid ((l.drop k).length = l.length - k) := Lib.hid List.length_drop
  have HW := Lib.hid ho0
  have HM3 := Lib.hid hm3
  have HL := Lib.hid hl
  clear hM ho0 hm3 hl
  by_cases hkc : cap = k
  · have hkl : k = l.length := by omega
    subst hkl
    subst hkc
    have HNIL : Hid (l.drop l.length = []) := Lib.hid (List.drop_of_length_le (Nat.le_refl _))
    go_enter Try.func57, Try.ntmps57
    go_wp2_with (at_builtin; refine stop_mk ?_)
    refine stop_un ?_
    refine wpList_append_flat (enc := enL) (k := 10) (l := []) rfl _ _ 24 rfl (w.heap.size + 1) 37 i0 _ 96 Try.underlying24 hi hz0 hz1 hz2 rfl (by decide) _ 0 [] rfl HW.out A 0 (by first | rfl | simp) (fun _ => rfl) (.inl rfl) enL_len (en_one _) (by simp) (by simp) (by simp) ?_
    intro v4 w4 hown4 hgrow4
    simp only [List.length_nil, Nat.zero_add, List.nil_append] at hown4
    have hb4 := HM3.out.1.grown hgrow4 HM3.out.1.size (fun k hk => by cases hk; show w.heap.size ≤ w.heap.size + 1; omega)
    obtain ⟨A4, c4, rfl, -, -⟩ := own_flat enL_len (l := []) hown4
    have HO := Lib.hid hown4
    clear hown4 hgrow4
    go_wp2
    go_ret
    refine ⟨A4, c4, by rw [HNIL.out]; rfl, ?_, hb4⟩
    rw [HNIL.out]
    exact World.ownsRow.mono HO.out (by omega)
  · go_enter Try.func57, Try.ntmps57
    go_wp2_with (at_builtin; refine stop_mk ?_)
    refine stop_un ?_
    have hfl := HL.out.cutDrop k hlc
    unfold cutAt at hfl
    rw [if_neg hkc] at hfl
    refine wpList_append_flat (enc := enL) (k := 10) (l := l.drop k) rfl _ _ 24 rfl (w.heap.size + 1) 37 i0 _ 96 Try.underlying24 hi hz0 hz1 hz2 rfl (by decide) _ 0 [] rfl HW.out (A.map (·.add (k * 10))) (cap - k) (by rw [HDL.out]; rfl) (fun h => by cases A with | none => have := hN rfl; omega | some a => simp at h) (hfl.below HM3.out.1) enL_len (en_one _) (by rw [HDL.out]; unfold maxLen; omega) (by rw [HDL.out]; omega) (by simp) ?_
    intro v4 w4 hown4 hgrow4
    simp only [Nat.zero_add, List.nil_append] at hown4
    have hb4 := HM3.out.1.grown hgrow4 HM3.out.1.size (fun k hk => by cases hk; show w.heap.size ≤ w.heap.size + 1; omega)
    obtain ⟨A4, c4, rfl, -, -⟩ := own_flat enL_len hown4
    have HO := Lib.hid hown4
    clear hown4 hgrow4 hfl
    go_wp2
    go_ret
    exact ⟨A4, c4, by rw [HDL.out]; rfl, World.ownsRow.mono HO.out (by omega), hb4⟩
set_option maxHeartbeats 4000000 in
theorem specTail (b r : Int) (A : Option Addr) (l : List M.En) (cap : Nat) (i : Int) (w : World) (hl : Ens w A l) (hlen : l.length ≤ 1048576) (hp : ∀ e ∈ l, enIn 1048576 e) (hlc : l.length ≤ cap) (hN : A = none → cap = 0) :
    Calls Try.prog 22 #[roV b r A l.length cap, .int .i64 i] w (EnsRet w (M.tail b r l i)) := by
  have hM := (Mem.start w).new (roA b r A l.length cap) 26
  have HL := Lib.hid hl
  have HP := Lib.hid hp
  clear hl hp
  rcases h1 : M.rollOk b r l with _ | _
  · have HE : Hid (M.tail b r l i = []) := Lib.hid (M.tail_none (.inl h1))
    have H1 := Lib.hid h1
    clear h1
    go_enter Try.func22, Try.ntmps22
    go_wp2_with fail
    refine (specRollOk b r A l cap _ (HL.out.below hM.1) hlen HP.out).mono ?_
    rintro e x1 ⟨rfl, b1⟩
    rw [H1.out]
    replace hM := hM.below b1
    clear b1
    have HM := Lib.hid hM.1
    clear hM
    go_wp2
    go_ret
    exact ⟨_, _, by rw [HE.out]; rfl, by rw [HE.out]; exact World.ownsRow.mono (World.ownsRow_made (size := 10) (e := 37) _ #[] 0 (Nat.le_refl _) (Nat.zero_le _) rfl) HM.out.size, HM.out.alloc HM.out.size _⟩
  obtain ⟨g0, g1, -⟩ := M.rollOk_parts h1
  rcases tail_of b i l.length with hi | hi | ⟨k, hk, hi⟩
  · have HE : Hid (M.tail b r l i = []) := Lib.hid (M.tail_none (.inr (.inl hi)))
    have H1 := Lib.hid h1
    clear h1
    go_enter Try.func22, Try.ntmps22
    go_wp2_with fail
    refine (specRollOk b r A l cap _ (HL.out.below hM.1) hlen HP.out).mono ?_
    rintro e x1 ⟨rfl, b1⟩
    rw [H1.out]
    replace hM := hM.below b1
    clear b1
    obtain ⟨p0, p1, p2⟩ := (hM.get w.heap.size (roA b r A l.length cap) (by simp)).three
    have HM := Lib.hid hM.1
    clear hM
    go_wp2
    go_ret
    exact ⟨_, _, by rw [HE.out]; rfl, by rw [HE.out]; exact World.ownsRow.mono (World.ownsRow_made (size := 10) (e := 37) _ #[] 0 (Nat.le_refl _) (Nat.zero_le _) rfl) HM.out.size, HM.out.alloc HM.out.size _⟩
  · have HE : Hid (M.tail b r l i = []) := Lib.hid (M.tail_none (.inr (.inr hi)))
    have H1 := Lib.hid h1
    have e0 : ¬ i ≤ b := by omega
    clear h1
    go_enter Try.func22, Try.ntmps22
    go_wp2_with fail
    refine (specRollOk b r A l cap _ (HL.out.below hM.1) hlen HP.out).mono ?_
    rintro e x1 ⟨rfl, b1⟩
    rw [H1.out]
    replace hM := hM.below b1
    clear b1
    obtain ⟨p0, p1, p2⟩ := (hM.get w.heap.size (roA b r A l.length cap) (by simp)).three
    go_wp2_with fail
    refine (l8Last_any b r A l cap _ g0 g1 hlen).mono ?_
    rintro e x2 ⟨rfl, b2⟩
    replace hM := hM.below b2
    clear b2
    clear p0 p1 p2
    have HM := Lib.hid hM.1
    clear hM
    go_wp2
    go_ret
    exact ⟨_, _, by rw [HE.out]; rfl, by rw [HE.out]; exact World.ownsRow.mono (World.ownsRow_made (size := 10) (e := 37) _ #[] 0 (Nat.le_refl _) (Nat.zero_le _) rfl) HM.out.size, HM.out.alloc HM.out.size _⟩
  · subst hi
    have HE : Hid (M.tail b r l (b + k + 1) = l.drop k) := Lib.hid (M.tail_at hk h1)
    have H1 := Lib.hid h1
    have e0 : ¬ b + (k : Int) + 1 ≤ b := by omega
    have e2 : ¬ b + (l.length : Int) + 1 < b + k + 1 := by omega
    have HDL : Hid ((l.drop k).length = l.length - k) := Lib.hid List.length_drop
    clear h1
    go_enter Try.func22, Try.ntmps22
    go_wp2_with fail
    refine (specRollOk b r A l cap _ (HL.out.below hM.1) hlen HP.out).mono ?_
    rintro e x1 ⟨rfl, b1⟩
    rw [H1.out]
    replace hM := hM.below b1
    clear b1
    obtain ⟨p0, p1, p2⟩ := (hM.get w.heap.size (roA b r A l.length cap) (by simp)).three
    go_wp2_with fail
    refine (l8Last_any b r A l cap _ g0 g1 hlen).mono ?_
    rintro e x2 ⟨rfl, b2⟩
    replace hM := hM.below b2
    clear b2
    clear p0 p1 p2
    obtain ⟨p0, p1, p2⟩ := (hM.get w.heap.size (roA b r A l.length cap) (by simp)).three
    go_wp2_with fail
    refine (l8Tail_any b r A l cap k _ g0 g1 (HL.out.below hM.1) hlen hlc hN hk).mono ?_
    rintro e x4 ⟨A4, c4, rfl, ho, b4⟩
    have HO := Lib.hid ho
    have hs := hM.1.size
    clear ho p0 p1 p2
    go_wp2
    go_ret
    exact ⟨A4, c4, by rw [HE.out, HDL.out]; rfl, by rw [HE.out]; exact World.ownsRow.mono HO.out hs, hM.1.trans (b4.mono hs)⟩
theorem results_sCut (b r : Int) (A : Option Addr) (n c : Nat) (t : Bool) (R : Nat) (W : World) (tmps : Array Value) (h4 : tmps.getD 4 undef = .pointer (some ⟨R, 0, none⟩)) (h5 : tmps.getD 5 undef = .bool t) (hW : Holds W R (roA b r A n c)) :
    (results Try.f35 tmps).run Try.prog W = .ok (.tuple #[roV b r A n c, .bool t]) W := by
  obtain ⟨q0, q1, q2⟩ := hW.three
  simp at h4 h5
  simp [results, Try.results35, go_sem, h4, h5, q0, q1, q2]
set_option maxHeartbeats 4000000 in
theorem specCut_bad (b r : Int) (A : Option Addr) (l : List M.En) (cap : Nat) (i : Int) (w : World) (hl : Ens w A l) (hlen : l.length ≤ 1048576) (hp : ∀ e ∈ l, enIn 1048576 e) (h1 : M.rollOk b r l = false) :
  Calls Try.prog 35 #[roV b r A l.length cap, .int .i64 i] w (RcRet w (M.cut b r l i)) := by
  have hM := ((Mem.start w).new (roA b r A l.length cap) 26).new (roA 0 0 none 0 0) 26
  simp only [World.size_alloc] at hM
  have HL := Lib.hid hl
  have HP := Lib.hid hp
  clear hl hp
  have HE : Hid (M.cut b r l i = ((0, 0, []), false)) := Lib.hid (M.cut_bad h1)
  have H1 := Lib.hid h1
  clear h1
  go_enter Try.func35, Try.ntmps35
  go_wp2_with fail
  refine (specRollOk b r A l cap _ (HL.out.below hM.1) hlen HP.out).mono ?_
  rintro e x1 ⟨rfl, b1⟩
  rw [H1.out]
  replace hM := hM.below b1
  clear b1
  have hM1 := hM
  clear hM
  obtain ⟨q0, q1, q2⟩ := (hM1.get (w.heap.size + 1) (roA 0 0 none 0 0) (by simp)).three
  have z0 := hM1.loose (w.heap.size + 1) (by simp) 0
  have z1 := hM1.loose (w.heap.size + 1) (by simp) 1
  have z2 := hM1.loose (w.heap.size + 1) (by simp) 2
  have zq := (hM1.get (w.heap.size + 1) (roA 0 0 none 0 0) (by simp)).1
  have HM1 := Lib.hid hM1
  clear hM1
  go_wp2
  refine bodyPost_ret (results_sCut 0 0 none 0 0 false (w.heap.size + 1) _ _ rfl rfl ((HM1.out.get (w.heap.size + 1) (roA 0 0 none 0 0) (by simp)).wr3 _ _ _)) rfl ⟨none, 0, by rw [HE.out]; rfl, by rw [HE.out]; exact ens_nil _ _, far_3 HM1.out.1 (by omega) _ _ _⟩
set_option maxHeartbeats 4000000 in
theorem specCut_low (b r : Int) (A : Option Addr) (l : List M.En) (cap : Nat) (i : Int) (w : World) (hl : Ens w A l) (hlen : l.length ≤ 1048576) (hp : ∀ e ∈ l, enIn 1048576 e) (hlc : l.length ≤ cap) (hN : A = none → cap = 0) (h1 : M.rollOk b r l = true) (hi : i < b) :
    Calls Try.prog 35 #[roV b r A l.length cap, .int .i64 i] w (RcRet w (M.cut b r l i)) := by
  have hM := ((Mem.start w).new (roA b r A l.length cap) 26).new (roA 0 0 none 0 0) 26
  simp only [World.size_alloc] at hM
  have HL := Lib.hid hl
  have HP := Lib.hid hp
  clear hl hp
  have HE : Hid (M.cut b r l i = ((b, r, l), false)) := Lib.hid (M.cut_out h1 (by omega))
  obtain ⟨g0, g1, -⟩ := M.rollOk_parts h1
  have H1 := Lib.hid h1
  clear h1
  go_enter Try.func35, Try.ntmps35
  go_wp2_with fail
  refine (specRollOk b r A l cap _ (HL.out.below hM.1) hlen HP.out).mono ?_
  rintro e x1 ⟨rfl, b1⟩
  rw [H1.out]
  replace hM := hM.below b1
  clear b1
  obtain ⟨p0, p1, p2⟩ := (hM.get w.heap.size (roA b r A l.length cap) (by simp)).three
  go_wp2_with fail
  refine (l8Copy_any b r A l cap _ (HL.out.below hM.1) hlen HP.out hN).mono ?_
  rintro e x8 ⟨A8, c8, rfl, ho, b8⟩
  have hs8 := hM.1.size
  have hb8 := (hM.get (w.heap.size + 1) (roA 0 0 none 0 0) (by simp)).1
  have hM1 := hM.below b8
  have HO := Lib.hid ho
  clear hM b8 ho p0 p1 p2
  obtain ⟨q0, q1, q2⟩ := (hM1.get (w.heap.size + 1) (roA 0 0 none 0 0) (by simp)).three
  have z0 := hM1.loose (w.heap.size + 1) (by simp) 0
  have z1 := hM1.loose (w.heap.size + 1) (by simp) 1
  have z2 := hM1.loose (w.heap.size + 1) (by simp) 2
  have zq := (hM1.get (w.heap.size + 1) (roA 0 0 none 0 0) (by simp)).1
  have HM1 := Lib.hid hM1
  clear hM1
  go_wp2
  refine bodyPost_ret (results_sCut b r A8 l.length c8 false (w.heap.size + 1) _ _ rfl rfl ((HM1.out.get (w.heap.size + 1) (roA 0 0 none 0 0) (by simp)).wr3 _ _ _)) rfl ⟨A8, c8, by rw [HE.out], ?_, far_3 HM1.out.1 (by omega) _ _ _⟩
  rw [HE.out]
  exact World.ownsRow.mono (row_set3 HO.out hb8 _ _ _) hs8
set_option maxHeartbeats 4000000 in
theorem specCut_out (b r : Int) (A : Option Addr) (l : List M.En) (cap : Nat) (i : Int) (w : World) (hl : Ens w A l) (hlen : l.length ≤ 1048576) (hp : ∀ e ∈ l, enIn 1048576 e) (hlc : l.length ≤ cap) (hN : A = none → cap = 0) (h1 : M.rollOk b r l = true) (hi : b + l.length < i) :
    Calls Try.prog 35 #[roV b r A l.length cap, .int .i64 i] w (RcRet w (M.cut b r l i)) := by
  have hM := ((Mem.start w).new (roA b r A l.length cap) 26).new (roA 0 0 none 0 0) 26
  simp only [World.size_alloc] at hM
  have HL := Lib.hid hl
  have HP := Lib.hid hp
  clear hl hp
  have HE : Hid (M.cut b r l i = ((b, r, l), false)) := Lib.hid (M.cut_out h1 (by omega))
  obtain ⟨g0, g1, -⟩ := M.rollOk_parts h1
  have H1 := Lib.hid h1
  clear h1
  have e0 : ¬ i < b := by omega
  go_enter Try.func35, Try.ntmps35
  go_wp2_with fail
  refine (specRollOk b r A l cap _ (HL.out.below hM.1) hlen HP.out).mono ?_
  rintro e x1 ⟨rfl, b1⟩
  rw [H1.out]
  replace hM := hM.below b1
  clear b1
  obtain ⟨p0, p1, p2⟩ := (hM.get w.heap.size (roA b r A l.length cap) (by simp)).three
  go_wp2_with fail
  refine (l8Last_any b r A l cap _ g0 g1 hlen).mono ?_
  rintro e x2 ⟨rfl, b2⟩
  replace hM := hM.below b2
  clear b2
  clear p0 p1 p2
  obtain ⟨p0, p1, p2⟩ := (hM.get w.heap.size (roA b r A l.length cap) (by simp)).three
  go_wp2_with fail
  refine (l8Copy_any b r A l cap _ (HL.out.below hM.1) hlen HP.out hN).mono ?_
  rintro e x8 ⟨A8, c8, rfl, ho, b8⟩
  have hs8 := hM.1.size
  have hb8 := (hM.get (w.heap.size + 1) (roA 0 0 none 0 0) (by simp)).1
  have hM1 := hM.below b8
  have HO := Lib.hid ho
  clear hM b8 ho p0 p1 p2
  obtain ⟨q0, q1, q2⟩ := (hM1.get (w.heap.size + 1) (roA 0 0 none 0 0) (by simp)).three
  have z0 := hM1.loose (w.heap.size + 1) (by simp) 0
  have z1 := hM1.loose (w.heap.size + 1) (by simp) 1
  have z2 := hM1.loose (w.heap.size + 1) (by simp) 2
  have zq := (hM1.get (w.heap.size + 1) (roA 0 0 none 0 0) (by simp)).1
  have HM1 := Lib.hid hM1
  clear hM1
  go_wp2
  refine bodyPost_ret (results_sCut b r A8 l.length c8 false (w.heap.size + 1) _ _ rfl rfl ((HM1.out.get (w.heap.size + 1) (roA 0 0 none 0 0) (by simp)).wr3 _ _ _)) rfl ⟨A8, c8, by rw [HE.out], ?_, far_3 HM1.out.1 (by omega) _ _ _⟩
  rw [HE.out]
  exact World.ownsRow.mono (row_set3 HO.out hb8 _ _ _) hs8
set_option maxHeartbeats 4000000 in
theorem specCut_far (b r : Int) (A : Option Addr) (l : List M.En) (cap : Nat) (i : Int) (w : World) (hl : Ens w A l) (hlen : l.length ≤ 1048576) (hp : ∀ e ∈ l, enIn 1048576 e) (hlc : l.length ≤ cap) (hN : A = none → cap = 0) (h1 : M.rollOk b r l = true) (hi : b ≤ i ∧ i ≤ b + l.length) (h3 : 300 < i) :
    Calls Try.prog 35 #[roV b r A l.length cap, .int .i64 i] w (RcRet w (M.cut b r l i)) := by
  have hM := ((Mem.start w).new (roA b r A l.length cap) 26).new (roA 0 0 none 0 0) 26
  simp only [World.size_alloc] at hM
  have HL := Lib.hid hl
  have HP := Lib.hid hp
  clear hl hp
  have HE : Hid (M.cut b r l i = ((b, r, l), false)) := Lib.hid (M.cut_out h1 (by omega))
  obtain ⟨g0, g1, -⟩ := M.rollOk_parts h1
  have H1 := Lib.hid h1
  clear h1
  have e0 : ¬ i < b := by omega
  have e1 : ¬ b + (l.length : Int) < i := by omega
  clear hi
  go_enter Try.func35, Try.ntmps35
  go_wp2_with fail
  refine (specRollOk b r A l cap _ (HL.out.below hM.1) hlen HP.out).mono ?_
  rintro e x1 ⟨rfl, b1⟩
  rw [H1.out]
  replace hM := hM.below b1
  clear b1
  obtain ⟨p0, p1, p2⟩ := (hM.get w.heap.size (roA b r A l.length cap) (by simp)).three
  go_wp2_with fail
  refine (l8Last_any b r A l cap _ g0 g1 hlen).mono ?_
  rintro e x2 ⟨rfl, b2⟩
  replace hM := hM.below b2
  clear b2
  clear p0 p1 p2
  obtain ⟨p0, p1, p2⟩ := (hM.get w.heap.size (roA b r A l.length cap) (by simp)).three
  go_wp2_with fail
  refine (l8Copy_any b r A l cap _ (HL.out.below hM.1) hlen HP.out hN).mono ?_
  rintro e x8 ⟨A8, c8, rfl, ho, b8⟩
  have hs8 := hM.1.size
  have hb8 := (hM.get (w.heap.size + 1) (roA 0 0 none 0 0) (by simp)).1
  have hM1 := hM.below b8
  have HO := Lib.hid ho
  clear hM b8 ho p0 p1 p2
  obtain ⟨q0, q1, q2⟩ := (hM1.get (w.heap.size + 1) (roA 0 0 none 0 0) (by simp)).three
  have z0 := hM1.loose (w.heap.size + 1) (by simp) 0
  have z1 := hM1.loose (w.heap.size + 1) (by simp) 1
  have z2 := hM1.loose (w.heap.size + 1) (by simp) 2
  have zq := (hM1.get (w.heap.size + 1) (roA 0 0 none 0 0) (by simp)).1
  have HM1 := Lib.hid hM1
  clear hM1
  go_wp2
  refine bodyPost_ret (results_sCut b r A8 l.length c8 false (w.heap.size + 1) _ _ rfl rfl ((HM1.out.get (w.heap.size + 1) (roA 0 0 none 0 0) (by simp)).wr3 _ _ _)) rfl ⟨A8, c8, by rw [HE.out], ?_, far_3 HM1.out.1 (by omega) _ _ _⟩
  rw [HE.out]
  exact World.ownsRow.mono (row_set3 HO.out hb8 _ _ _) hs8
set_option maxHeartbeats 8000000 in
theorem specCut_base (b r : Int) (A : Option Addr) (l : List M.En) (cap : Nat) (w : World) (hl : Ens w A l) (hlen : l.length ≤ 1048576) (hp : ∀ e ∈ l, enIn 1048576 e) (hlc : l.length ≤ cap) (hN : A = none → cap = 0) (h1 : M.rollOk b r l = true) (h3 : b ≤ 300) :
    Calls Try.prog 35 #[roV b r A l.length cap, .int .i64 b] w (RcRet w (M.cut b r l b)) := by
  have hM := ((Mem.start w).new (roA b r A l.length cap) 26).new (roA 0 0 none 0 0) 26
  simp only [World.size_alloc] at hM
  have HL := Lib.hid hl
  have HP := Lib.hid hp
  clear hl hp
  have HE : Hid (M.cut b r l b = ((b, r, l.drop 0), true)) := Lib.hid (by
    have h := M.cut_at (b := b) (r := r) (l := l) (k := 0) h1 (Nat.zero_le _) (by omega)
    simpa [M.reignIn_base] using h)
  obtain ⟨g0, g1, -⟩ := M.rollOk_parts h1
  have H1 := Lib.hid h1
  have HDL : Hid ((l.drop 0).length = l.length - 0) := Lib.hid List.length_drop
  clear h1
  have hk : 0 ≤ l.length := Nat.zero_le _
  have HK : Hid ((decide (b ≤ b) && decide (b ≤ b + l.length)) = true) := Lib.hid (by simp; omega)
  have e9 : ¬ 300 < b := by omega
  have e6 : IntKind.i64.wrap (b + 1) = b + 1 := IntWalk.i64_in _ (by omega)
  have e8 : ¬ b + (l.length : Int) < b := by omega
  have HNR : Hid (∀ x, Below w.heap.size w x → Calls Try.prog 57 #[roV b r A l.length cap, .int .i64 (b + 1)] x (EnsRet x (l.drop 0))) := Lib.hid (fun x hb => by have hc := l8Tail_any b r A l cap 0 x g0 g1 (HL.out.below hb) hlen hlc hN hk; simpa using hc)
  have HREI : Hid (∀ x, Below w.heap.size w x → Calls Try.prog 55 #[roV b r A l.length cap, .int .i64 b] x fun e x' => e = .returned (.int .i64 r) ∧ Below x.heap.size x x') := Lib.hid (fun x hb => by
    have hc := l8Reign_any b r A l cap b x g0 g1 (HL.out.below hb) hlen
    rw [M.reignIn_base] at hc
    exact hc)
  go_enter Try.func35, Try.ntmps35
  go_wp2_with fail
  refine (specRollOk b r A l cap _ (HL.out.below hM.1) hlen HP.out).mono ?_
  rintro e x1 ⟨rfl, b1⟩
  rw [H1.out]
  replace hM := hM.below b1
  clear b1
  obtain ⟨p0, p1, p2⟩ := (hM.get w.heap.size (roA b r A l.length cap) (by simp)).three
  go_wp2_with fail
  refine (l8Last_any b r A l cap _ g0 g1 hlen).mono ?_
  rintro e x2 ⟨rfl, b2⟩
  replace hM := hM.below b2
  clear b2
  clear p0 p1 p2
  obtain ⟨p0, p1, p2⟩ := (hM.get w.heap.size (roA b r A l.length cap) (by simp)).three
  clear p0 p1 p2
  go_upto_region 5 with (fail)
  refine wp_region_seq (CutS w (roA b r A l.length cap)) [(0, true), (1, true), (2, true), (4, true), (5, true), (6, true), (3, false), (7, false), (8, true), (9, false), (10, true)] (by kernel_rfl) (by kernel_rfl) (fun _ _ _ _ _ h => h) (by kernel_rfl) (by decide) (CutS.of hM).drew ?_
  intro hHeld
  repeat (first
    | (refine seq_skip (by simp only [List.getElem?_toArray, List.getElem?_cons_succ, List.getElem?_cons_zero]; first | done | rfl) (by rfl) ?_; (try simp only [Act.put, List.setIfInBounds_toArray, List.set_cons_zero, List.set_cons_succ]))
    | (refine seq_reads (by simp only [List.getElem?_toArray, List.getElem?_cons_succ, List.getElem?_cons_zero]; first | done | rfl) (by rfl) ?_; apply Exists.intro; apply And.intro; (focus (intro w hSw; obtain ⟨hbS, hhS, -⟩ := hSw; obtain ⟨k0, k1, k2⟩ := hhS.three; go_simp; (try with_reducible rfl); done)); (try simp only [Act.put, List.setIfInBounds_toArray, List.set_cons_zero, List.set_cons_succ]))
    | (refine seq_pass (by simp only [List.getElem?_toArray, List.getElem?_cons_succ, List.getElem?_cons_zero]; first | done | rfl) (by rfl) hHeld ?_; clear hHeld; intro hHeld; (try simp only [Act.put, List.setIfInBounds_toArray, List.set_cons_zero, List.set_cons_succ]))
    | (refine seq_call (by simp only [List.getElem?_toArray, List.getElem?_cons_succ, List.getElem?_cons_zero]; first | done | rfl) (by rfl) (fun K hK => ?_); go_simp; go_at_call 55; refine (HREI.out _ hHeld.1).mono ?_; rintro r1 w1 ⟨rfl, b1⟩; go_simp; refine hK.out _ _ (hHeld.below b1) ?_; (try clear b1); clear hK hHeld; intro hHeld; (try simp only [Act.put, List.setIfInBounds_toArray, List.set_cons_zero, List.set_cons_succ]))
    | (refine seq_call (by simp only [List.getElem?_toArray, List.getElem?_cons_succ, List.getElem?_cons_zero]; first | done | rfl) (by rfl) (fun K hK => ?_); go_simp; go_at_call 57; refine (HNR.out _ hHeld.1).mono ?_; rintro r1 w1 ⟨A8, c8, rfl, ho, b1⟩; (have HO := Lib.hid (show _ ∧ _ ∧ _ from ⟨ho, hHeld.1.size, hHeld.2.2.1⟩)); (have HB8 := Lib.hid b1); clear ho; go_simp; refine hK.out _ _ (hHeld.below b1) ?_; (try clear b1); clear hK hHeld; intro hHeld; (try simp only [Act.put, List.setIfInBounds_toArray, List.set_cons_zero, List.set_cons_succ]))
    | (refine seq_call (by simp only [List.getElem?_toArray, List.getElem?_cons_succ, List.getElem?_cons_zero]; first | done | rfl) (by rfl) (fun K hK => ?_); (have hst := hHeld); obtain ⟨-, -, zq, ⟨a0, a1, a2, hq⟩, hlo⟩ := hst; obtain ⟨q0, q1, q2⟩ := hq.three; (have z0 := hlo 0); (have z1 := hlo 1); (have z2 := hlo 2); (have HQ := Lib.hid hq); clear hq hlo; go_simp; refine hK.out _ _ (hHeld.put _ _ _) ?_; clear hK q0 q1 q2 z0 z1 z2; (have HLD := Lib.hid hHeld); clear hHeld; intro hHeld; (try simp only [Act.put, List.setIfInBounds_toArray, List.set_cons_zero, List.set_cons_succ])))
  refine seq_end ?_
  have hb8 := HB8.out
  have hds := HO.out.2.2
  have HM1 := Lib.hid hHeld
  have HQ1 := Lib.hid (HQ.out.wr3 (.int .i64 b) (.int .i64 r) (.slice A8 (l.length - 0) c8))
  clear hHeld
  go_wp2
  refine bodyPost_ret (results_sCut b r A8 (l.length - 0) c8 true (w.heap.size + 1) _ _ rfl rfl HQ1.out) rfl ⟨A8, c8, by rw [HE.out]; simp only [HDL.out], ?_, HM1.out.1⟩
  rw [HE.out]
  exact World.ownsRow.mono (row_set3 HO.out.1 hds _ _ _) HO.out.2.1
set_option maxHeartbeats 8000000 in
theorem specCut_at (b r : Int) (A : Option Addr) (l : List M.En) (cap : Nat) (k : Nat) (w : World) (hl : Ens w A l) (hlen : l.length ≤ 1048576) (hp : ∀ e ∈ l, enIn 1048576 e) (hlc : l.length ≤ cap) (hN : A = none → cap = 0) (h1 : M.rollOk b r l = true) (hkk : k < l.length) (h3 : b + k + 1 ≤ 300) :
    Calls Try.prog 35 #[roV b r A l.length cap, .int .i64 (b + k + 1)] w (RcRet w (M.cut b r l (b + k + 1))) := by
  have hM := ((Mem.start w).new (roA b r A l.length cap) 26).new (roA 0 0 none 0 0) 26
  simp only [World.size_alloc] at hM
  have HL := Lib.hid hl
  have HP := Lib.hid hp
  clear hl hp
  have HE : Hid (M.cut b r l (b + k + 1) = (((b + k + 1), (l[k]).reign, l.drop (k + 1)), true)) := Lib.hid (by
    have h := M.cut_at (b := b) (r := r) (l := l) (k := k + 1) h1 hkk (by omega)
    have e : b + ((k + 1 : Nat) : Int) = b + k + 1 := by omega
    rw [e] at h
    rw [h, M.reignIn_at hkk])
  obtain ⟨g0, g1, -⟩ := M.rollOk_parts h1
  have H1 := Lib.hid h1
  have HDL : Hid ((l.drop (k + 1)).length = l.length - (k + 1)) := Lib.hid List.length_drop
  clear h1
  have hk : k + 1 ≤ l.length := hkk
  have HK : Hid ((decide (b ≤ b + (k : Int) + 1) && decide (b + (k : Int) + 1 ≤ b + l.length)) = true) := Lib.hid (by simp; omega)
  have e9 : ¬ 300 < b + (k : Int) + 1 := by omega
  have e6 : IntKind.i64.wrap (b + (k : Int) + 1 + 1) = b + k + 1 + 1 := IntWalk.i64_in _ (by omega)
  have e7 : ¬ b + (k : Int) + 1 < b := by omega
  have e8 : ¬ b + (l.length : Int) < b + k + 1 := by omega
  have HNR : Hid (∀ x, Below w.heap.size w x → Calls Try.prog 57 #[roV b r A l.length cap, .int .i64 ((b + k + 1) + 1)] x (EnsRet x (l.drop (k + 1)))) := Lib.hid (fun x hb => by
    have hc := l8Tail_any b r A l cap (k + 1) x g0 g1 (HL.out.below hb) hlen hlc hN hk
    rw [show b + ((k + 1 : Nat) : Int) = b + k + 1 by omega] at hc
    exact hc)
  have HREI : Hid (∀ x, Below w.heap.size w x → Calls Try.prog 55 #[roV b r A l.length cap, .int .i64 (b + k + 1)] x fun e x' => e = .returned (.int .i64 (l[k]).reign) ∧ Below x.heap.size x x') := Lib.hid (fun x hb => by
    have hc := l8Reign_any b r A l cap (b + k + 1) x g0 g1 (HL.out.below hb) hlen
    rw [M.reignIn_at hkk] at hc
    exact hc)
  go_enter Try.func35, Try.ntmps35
  go_wp2_with fail
  refine (specRollOk b r A l cap _ (HL.out.below hM.1) hlen HP.out).mono ?_
  rintro e x1 ⟨rfl, b1⟩
  rw [H1.out]
  replace hM := hM.below b1
  clear b1
  obtain ⟨p0, p1, p2⟩ := (hM.get w.heap.size (roA b r A l.length cap) (by simp)).three
  go_wp2_with fail
  refine (l8Last_any b r A l cap _ g0 g1 hlen).mono ?_
  rintro e x2 ⟨rfl, b2⟩
  replace hM := hM.below b2
  clear b2
  clear p0 p1 p2
  obtain ⟨p0, p1, p2⟩ := (hM.get w.heap.size (roA b r A l.length cap) (by simp)).three
  clear p0 p1 p2
  go_upto_region 5 with (fail)
  refine wp_region_seq (CutS w (roA b r A l.length cap)) [(0, true), (1, true), (2, true), (4, true), (5, true), (6, true), (3, false), (7, false), (8, true), (9, false), (10, true)] (by kernel_rfl) (by kernel_rfl) (fun _ _ _ _ _ h => h) (by kernel_rfl) (by decide) (CutS.of hM).drew ?_
  intro hHeld
  repeat (first
    | (refine seq_skip (by simp only [List.getElem?_toArray, List.getElem?_cons_succ, List.getElem?_cons_zero]; first | done | rfl) (by rfl) ?_; (try simp only [Act.put, List.setIfInBounds_toArray, List.set_cons_zero, List.set_cons_succ]))
    | (refine seq_reads (by simp only [List.getElem?_toArray, List.getElem?_cons_succ, List.getElem?_cons_zero]; first | done | rfl) (by rfl) ?_; apply Exists.intro; apply And.intro; (focus (intro w hSw; obtain ⟨hbS, hhS, -⟩ := hSw; obtain ⟨k0, k1, k2⟩ := hhS.three; go_simp; (try with_reducible rfl); done)); (try simp only [Act.put, List.setIfInBounds_toArray, List.set_cons_zero, List.set_cons_succ]))
    | (refine seq_pass (by simp only [List.getElem?_toArray, List.getElem?_cons_succ, List.getElem?_cons_zero]; first | done | rfl) (by rfl) hHeld ?_; clear hHeld; intro hHeld; (try simp only [Act.put, List.setIfInBounds_toArray, List.set_cons_zero, List.set_cons_succ]))
    | (refine seq_call (by simp only [List.getElem?_toArray, List.getElem?_cons_succ, List.getElem?_cons_zero]; first | done | rfl) (by rfl) (fun K hK => ?_); go_simp; go_at_call 55; refine (HREI.out _ hHeld.1).mono ?_; rintro r1 w1 ⟨rfl, b1⟩; go_simp; refine hK.out _ _ (hHeld.below b1) ?_; (try clear b1); clear hK hHeld; intro hHeld; (try simp only [Act.put, List.setIfInBounds_toArray, List.set_cons_zero, List.set_cons_succ]))
    | (refine seq_call (by simp only [List.getElem?_toArray, List.getElem?_cons_succ, List.getElem?_cons_zero]; first | done | rfl) (by rfl) (fun K hK => ?_); go_simp; go_at_call 57; refine (HNR.out _ hHeld.1).mono ?_; rintro r1 w1 ⟨A8, c8, rfl, ho, b1⟩; (have HO := Lib.hid (show _ ∧ _ ∧ _ from ⟨ho, hHeld.1.size, hHeld.2.2.1⟩)); (have HB8 := Lib.hid b1); clear ho; go_simp; refine hK.out _ _ (hHeld.below b1) ?_; (try clear b1); clear hK hHeld; intro hHeld; (try simp only [Act.put, List.setIfInBounds_toArray, List.set_cons_zero, List.set_cons_succ]))
    | (refine seq_call (by simp only [List.getElem?_toArray, List.getElem?_cons_succ, List.getElem?_cons_zero]; first | done | rfl) (by rfl) (fun K hK => ?_); (have hst := hHeld); obtain ⟨-, -, zq, ⟨a0, a1, a2, hq⟩, hlo⟩ := hst; obtain ⟨q0, q1, q2⟩ := hq.three; (have z0 := hlo 0); (have z1 := hlo 1); (have z2 := hlo 2); (have HQ := Lib.hid hq); clear hq hlo; go_simp; refine hK.out _ _ (hHeld.put _ _ _) ?_; clear hK q0 q1 q2 z0 z1 z2; (have HLD := Lib.hid hHeld); clear hHeld; intro hHeld; (try simp only [Act.put, List.setIfInBounds_toArray, List.set_cons_zero, List.set_cons_succ])))
  refine seq_end ?_
  have hb8 := HB8.out
  have hds := HO.out.2.2
  have HM1 := Lib.hid hHeld
  have HQ1 := Lib.hid (HQ.out.wr3 (.int .i64 (b + k + 1)) (.int .i64 (l[k]).reign) (.slice A8 (l.length - (k + 1)) c8))
  clear hHeld
  go_wp2
  refine bodyPost_ret (results_sCut (b + k + 1) (l[k]).reign A8 (l.length - (k + 1)) c8 true (w.heap.size + 1) _ _ rfl rfl HQ1.out) rfl ⟨A8, c8, by rw [HE.out]; simp only [HDL.out], ?_, HM1.out.1⟩
  rw [HE.out]
  exact World.ownsRow.mono (row_set3 HO.out.1 hds _ _ _) HO.out.2.1
theorem specCut (b r : Int) (A : Option Addr) (l : List M.En) (cap : Nat) (i : Int) (w : World) (hl : Ens w A l) (hlen : l.length ≤ 1048576) (hp : ∀ e ∈ l, enIn 1048576 e) (hlc : l.length ≤ cap) (hN : A = none → cap = 0) :
    Calls Try.prog 35 #[roV b r A l.length cap, .int .i64 i] w (RcRet w (M.cut b r l i)) := by
  rcases h1 : M.rollOk b r l with _ | _
  · exact specCut_bad b r A l cap i w hl hlen hp h1
  · rcases place_of b i l.length with hi | hi | ⟨k, hk, hi⟩
    · rcases hi with hi | hi
      · exact specCut_low b r A l cap i w hl hlen hp hlc hN h1 hi
      · exact specCut_out b r A l cap i w hl hlen hp hlc hN h1 hi
    · subst hi
      exact specCut_base i r A l cap w hl hlen hp hlc hN h1 (M.rollOk_parts h1).2.1
    · subst hi
      by_cases h3 : b + (k : Int) + 1 ≤ 300
      · exact specCut_at b r A l cap k w hl hlen hp hlc hN h1 hk h3
      · exact specCut_far b r A l cap _ w hl hlen hp hlc hN h1 (by omega) (by omega)
end Go.Proofs.Ytkpbfocnokbmiaa
