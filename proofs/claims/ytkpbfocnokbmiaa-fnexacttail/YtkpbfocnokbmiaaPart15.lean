/- Proved, in parts: Proved: the model's EntryAt, Tail and Cut answer the plain Lean functions that the program's answer, lists in memory of their own; nothing that was there is written. Condition: texts and lists of at most a million. Proved: how long what is cut off a roll is at most; no program is named here; no condition. -/
import Derived.Test.YtkpbfocnokbmiaaPart11
import Derived.Test.YtkpbfocnokbmiaaPart14
namespace Go.Proofs.Ytkpbfocnokbmiaa
open Go.RowKit
set_option maxRecDepth 20000
set_option linter.unusedVariables false
theorem Mem.grown {w0 : World} {hs : List (Nat × Array Value)} {ls : List Nat} {x y : World} {g : Nat} (h : Mem w0 hs ls x) (hg : x.grownBy y (some g)) (hb : w0.heap.size ≤ g) (hn : ∀ p ∈ hs, p.1 ≠ g) (hl : ∀ k ∈ ls, k ≠ g) : Mem w0 hs ls y :=
  ⟨h.1.grown hg h.1.size (fun k hk => by cases hk; exact hb), fun p hp => grown_holds (h.2.1 p hp) hg (fun e => hn p hp (Option.some.inj e)), fun k hk => ⟨Nat.lt_of_lt_of_le (h.2.2 k hk).1 hg.size, grown_loose (h.2.2 k hk).2 (h.2.2 k hk).1 hg (fun e => hl k hk (Option.some.inj e))⟩⟩
set_option maxHeartbeats 4000000 in
theorem l8Tail_any (b r : Int) (A : Option Addr) (l : List M.En) (cap : Nat) (k : Nat) (w : World) (g0 : 0 ≤ b) (g1 : b ≤ 300) (hl : Ens w A l) (hlen : l.length ≤ 1048576) (hlc : l.length ≤ cap) (hN : A = none → cap = 0) (hk : k ≤ l.length) :
    Calls Try.prog 57 #[roV b r A l.length cap, .int .i64 (b + k + 1)] w (EnsRet w (l.drop k)) := by
  have hM := (Mem.start w).new (roA b r A l.length cap) 26
  obtain ⟨i0, hi, hz0, hz1, hz2⟩ := info_parts infoEns
  have ho0 := World.ownsRow_made (size := 10) (e := 37) (w.alloc (.cells (roA b r A l.length cap) 26)) #[] 0 (base := (w.alloc (.cells (roA b r A l.length cap) 26)).heap.size) (Nat.le_refl _) (Nat.zero_le _) rfl
  simp only [World.size_alloc] at ho0
  have hm3 := hM.alloc (.cells #[] 37)
  have e1 : b + (k : Int) + 1 - b - 1 = k := by omega
  have HDL : Hid ((l.drop k).length = l.length - k) := Lib.hid List.length_drop
  have HW := Lib.hid ho0
  have HM3 := Lib.hid hm3
  have HL := Lib.hid hl
  clear hM ho0 hm3 hl
  by_cases hkc : cap = k
  · have hkl : k = l.length := by omega
    subst hkl
    subst hkc
    have HNIL : Hid (l.drop l.length = []) := Lib.hid (List.drop_of_length_le (Nat.le_refl _))
    go_enter Try.func57, Try.ntmps57
    go_wp2_with (at_builtin; refine stop_mk ?_)
    refine stop_un ?_
    refine wpList_append_flat (enc := enL) (k := 10) (l := []) rfl _ _ 24 rfl (w.heap.size + 1) 37 i0 _ 96 Try.underlying24 hi hz0 hz1 hz2 rfl (by decide) _ 0 [] rfl HW.out A 0 (by first | rfl | simp) (fun _ => rfl) (.inl rfl) enL_len (en_one _) (by simp) (by simp) (by simp) ?_
    intro v4 w4 hown4 hgrow4
    simp only [List.length_nil, Nat.zero_add, List.nil_append] at hown4
    have hb4 := HM3.out.1.grown hgrow4 HM3.out.1.size (fun k hk => by cases hk; show w.heap.size ≤ w.heap.size + 1; omega)
    obtain ⟨A4, c4, rfl, -, -⟩ := own_flat enL_len (l := []) hown4
    have HO := Lib.hid hown4
    clear hown4 hgrow4
    go_wp2
    go_ret
    refine ⟨A4, c4, by rw [HNIL.out]; rfl, ?_, hb4⟩
    rw [HNIL.out]
    exact World.ownsRow.mono HO.out (by omega)
  · go_enter Try.func57, Try.ntmps57
    go_wp2_with (at_builtin; refine stop_mk ?_)
    refine stop_un ?_
    have hfl := HL.out.cutDrop k hlc
    unfold cutAt at hfl
    rw [if_neg hkc] at hfl
    refine wpList_append_flat (enc := enL) (k := 10) (l := l.drop k) rfl _ _ 24 rfl (w.heap.size + 1) 37 i0 _ 96 Try.underlying24 hi hz0 hz1 hz2 rfl (by decide) _ 0 [] rfl HW.out (A.map (·.add (k * 10))) (cap - k) (by rw [HDL.out]; rfl) (fun h => by cases A with | none => have := hN rfl; omega | some a => simp at h) (hfl.below HM3.out.1) enL_len (en_one _) (by rw [HDL.out]; unfold maxLen; omega) (by rw [HDL.out]; omega) (by simp) ?_
    intro v4 w4 hown4 hgrow4
    simp only [Nat.zero_add, List.nil_append] at hown4
    have hb4 := HM3.out.1.grown hgrow4 HM3.out.1.size (fun k hk => by cases hk; show w.heap.size ≤ w.heap.size + 1; omega)
    obtain ⟨A4, c4, rfl, -, -⟩ := own_flat enL_len hown4
    have HO := Lib.hid hown4
    clear hown4 hgrow4 hfl
    go_wp2
    go_ret
    exact ⟨A4, c4, by rw [HDL.out]; rfl, World.ownsRow.mono HO.out (by omega), hb4⟩
set_option maxHeartbeats 4000000 in
theorem specTail (b r : Int) (A : Option Addr) (l : List M.En) (cap : Nat) (i : Int) (w : World) (hl : Ens w A l) (hlen : l.length ≤ 1048576) (hp : ∀ e ∈ l, enIn 1048576 e) (hlc : l.length ≤ cap) (hN : A = none → cap = 0) :
    Calls Try.prog 22 #[roV b r A l.length cap, .int .i64 i] w (EnsRet w (M.tail b r l i)) := by
  have hM := (Mem.start w).new (roA b r A l.length cap) 26
  have HL := Lib.hid hl
  have HP := Lib.hid hp
  clear hl hp
  rcases h1 : M.rollOk b r l with _ | _
  · have HE : Hid (M.tail b r l i = []) := Lib.hid (M.tail_none (.inl h1))
    have H1 := Lib.hid h1
    clear h1
    go_enter Try.func22, Try.ntmps22
    go_wp2_with fail
    refine (specRollOk b r A l cap _ (HL.out.below hM.1) hlen HP.out).mono ?_
    rintro e x1 ⟨rfl, b1⟩
    rw [H1.out]
    replace hM := hM.below b1
    clear b1
    have HM := Lib.hid hM.1
    clear hM
    go_wp2
    go_ret
    exact ⟨_, _, by rw [HE.out]; rfl, by rw [HE.out]; exact World.ownsRow.mono (World.ownsRow_made (size := 10) (e := 37) _ #[] 0 (Nat.le_refl _) (Nat.zero_le _) rfl) HM.out.size, HM.out.alloc HM.out.size _⟩
  obtain ⟨g0, g1, -⟩ := M.rollOk_parts h1
  rcases tail_of b i l.length with hi | hi | ⟨k, hk, hi⟩
  · have HE : Hid (M.tail b r l i = []) := Lib.hid (M.tail_none (.inr (.inl hi)))
    have H1 := Lib.hid h1
    clear h1
    go_enter Try.func22, Try.ntmps22
    go_wp2_with fail
    refine (specRollOk b r A l cap _ (HL.out.below hM.1) hlen HP.out).mono ?_
    rintro e x1 ⟨rfl, b1⟩
    rw [H1.out]
    replace hM := hM.below b1
    clear b1
    obtain ⟨p0, p1, p2⟩ := (hM.get w.heap.size (roA b r A l.length cap) (by simp)).three
    have HM := Lib.hid hM.1
    clear hM
    go_wp2
    go_ret
    exact ⟨_, _, by rw [HE.out]; rfl, by rw [HE.out]; exact World.ownsRow.mono (World.ownsRow_made (size := 10) (e := 37) _ #[] 0 (Nat.le_refl _) (Nat.zero_le _) rfl) HM.out.size, HM.out.alloc HM.out.size _⟩
  · have HE : Hid (M.tail b r l i = []) := Lib.hid (M.tail_none (.inr (.inr hi)))
    have H1 := Lib.hid h1
    have e0 : ¬ i ≤ b := by omega
    clear h1
    go_enter Try.func22, Try.ntmps22
    go_wp2_with fail
    refine (specRollOk b r A l cap _ (HL.out.below hM.1) hlen HP.out).mono ?_
    rintro e x1 ⟨rfl, b1⟩
    rw [H1.out]
    replace hM := hM.below b1
    clear b1
    obtain ⟨p0, p1, p2⟩ := (hM.get w.heap.size (roA b r A l.length cap) (by simp)).three
    go_wp2_with fail
    refine (l8Last_any b r A l cap _ g0 g1 hlen).mono ?_
    rintro e x2 ⟨rfl, b2⟩
    replace hM := hM.below b2
    clear b2
    clear p0 p1 p2
    have HM := Lib.hid hM.1
    clear hM
    go_wp2
    go_ret
    exact ⟨_, _, by rw [HE.out]; rfl, by rw [HE.out]; exact World.ownsRow.mono (World.ownsRow_made (size := 10) (e := 37) _ #[] 0 (Nat.le_refl _) (Nat.zero_le _) rfl) HM.out.size, HM.out.alloc HM.out.size _⟩
  · subst hi
    have HE : Hid (M.tail b r l (b + k + 1) = l.drop k) := Lib.hid (M.tail_at hk h1)
    have H1 := Lib.hid h1
    have e0 : ¬ b + (k : Int) + 1 ≤ b := by omega
    have e2 : ¬ b + (l.length : Int) + 1 < b + k + 1 := by omega
    have HDL : Hid ((l.drop k).length = l.length - k) := Lib.hid List.length_drop
    clear h1
    go_enter Try.func22, Try.ntmps22
    go_wp2_with fail
    refine (specRollOk b r A l cap _ (HL.out.below hM.1) hlen HP.out).mono ?_
    rintro e x1 ⟨rfl, b1⟩
    rw [H1.out]
    replace hM := hM.below b1
    clear b1
    obtain ⟨p0, p1, p2⟩ := (hM.get w.heap.size (roA b r A l.length cap) (by simp)).three
    go_wp2_with fail
    refine (l8Last_any b r A l cap _ g0 g1 hlen).mono ?_
    rintro e x2 ⟨rfl, b2⟩
    replace hM := hM.below b2
    clear b2
    clear p0 p1 p2
    obtain ⟨p0, p1, p2⟩ := (hM.get w.heap.size (roA b r A l.length cap) (by simp)).three
    go_wp2_with fail
    refine (l8Tail_any b r A l cap k _ g0 g1 (HL.out.below hM.1) hlen hlc hN hk).mono ?_
    rintro e x4 ⟨A4, c4, rfl, ho, b4⟩
    have HO := Lib.hid ho
    have hs := hM.1.size
    clear ho p0 p1 p2
    go_wp2
    go_ret
    exact ⟨A4, c4, by rw [HE.out, HDL.out]; rfl, by rw [HE.out]; exact World.ownsRow.mono HO.out hs, hM.1.trans (b4.mono hs)⟩
end Go.Proofs.Ytkpbfocnokbmiaa
namespace Go.Proofs.Ytkpbfocnokbmiaa
open Go.RowKit
theorem M.tail_len (b r : Int) (l : List M.En) (i : Int) : (M.tail b r l i).length ≤ l.length := by
  unfold M.tail
  split
  · rw [List.length_drop]; omega
  · simp
theorem RcRet.open {w y : World} {B R : Int} {q : List M.En} {t : Bool} {e : Ending} (h : RcRet w ((B, R, q), t) e y) : ∃ A c, e = .returned (.tuple #[roV B R A q.length c, .bool t]) ∧ EnsOwn w.heap.size y (.slice A q.length c) q ∧ Below w.heap.size w y := h
end Go.Proofs.Ytkpbfocnokbmiaa
