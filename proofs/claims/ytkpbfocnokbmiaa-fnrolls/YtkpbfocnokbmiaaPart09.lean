/- Proved, in parts: Proved: the program's test of a roll, its last number and the reign of an entry answer plain Lean functions; nothing that was there is written. Condition: texts and lists of at most a million. Proved: the cells of a made list are those of a list of zero records; no program is named here; no condition. Proved: facts on blocks of a few cells: what they hold, that they may be written, and what they hold behind writes into all of their cells; no program's function is named here; no condition. -/
import Derived.Test.YtkpbfocnokbmiaaPart08
import Derived.Test.YtkpbfocnokbmiaaPart07
import Derived.Laws.MakeOwn
namespace Go.Proofs.Ytkpbfocnokbmiaa
open Go.RowKit
set_option maxRecDepth 20000
set_option linter.unusedVariables false

set_option maxHeartbeats 1000000 in
theorem enfirst_all (p : M.En → Bool) (A : Option Addr) (l : List M.En) (cap : Nat) (g : Value) (w : World) (hl : Ens w A l) (hlen : l.length ≤ 1048576)
    (hcall : ∀ (c : M.En) (w' : World), c ∈ l → Below w.heap.size w w' → Calls Try.prog 81 #[enV c, g] w' fun r w'' => r = .returned (.bool (p c)) ∧ Below w'.heap.size w' w'') :
    Calls Try.prog 80 #[.slice A l.length cap, .func (.func 81) #[] #[g]] w fun r w' => r = .returned (.int .i64 (l.findIdx p : Nat)) ∧ Below w.heap.size w w' := by
  have HC := Lib.hid hcall
  clear hcall
  go_enter Try.func80, Try.ntmps80
  go_wp2
  go_loopw [9] (fun i wr => ∃ j : Nat, i = .int .i64 j ∧ j ≤ l.length ∧ GNoneTo p l j ∧ Below w.heap.size w wr) (fun i _ => l.length - (intOf i).toNat)
  case atStart => exact ⟨0, rfl, Nat.zero_le _, GNoneTo.zero p l, Below.refl _ _⟩
  case round =>
    obtain ⟨j, rfl, hj, hnone, hbl⟩ := hrel
    by_cases hlt : j < l.length
    · obtain ⟨b, o, rfl, -, c0, c1, c2, c3, c4, c5, c6, c7, c8, c9⟩ := Ens_at (hl.below hbl) hlt
      have HA := Lib.hid hl
      have HN := Lib.hid hnone
      have ba := hbl.alloc hbl.size (.cells (enC l[j]) 37)
      clear hl hnone
      rcases hp : p l[j] with _ | _
      · have HP := Lib.hid hp
        go_wp2_with fail
        refine (HC.out l[j] _ (List.getElem_mem hlt) ba).mono ?_
        rintro r w1 ⟨rfl, b1⟩
        clear hp
        have hp := HP.out
        rw [hp]
        clear hp
        go_wp2
        go_roundw
        case rel => exact ⟨j + 1, by go_num, by omega, HN.out.next hlt HP.out, next ba b1⟩
        case measure => simp [intOf]; omega
      · have HP := Lib.hid hp
        go_wp2_with fail
        refine (HC.out l[j] _ (List.getElem_mem hlt) ba).mono ?_
        rintro r w1 ⟨rfl, b1⟩
        clear hp
        have hp := HP.out
        rw [hp]
        clear hp
        go_wp2
        go_ret
        exact ⟨ret_int (by rw [HN.out.hit hlt HP.out]), next ba b1⟩
    · have hj' : j = l.length := by omega
      subst hj'
      have HN := Lib.hid hnone
      clear hnone
      go_wp2
      go_ret
      exact ⟨ret_int (by rw [HN.out.all]), hbl⟩

set_option maxHeartbeats 1000000 in
theorem all1_entryOk (c : M.En) (g : Nat) (w : World) (hc : enIn 1048576 c) (hg : w.cell? ⟨g, 0, none⟩ = some (.func (.func 60) #[] #[])) :
    Calls Try.prog 81 #[enV c, .pointer (some ⟨g, 0, none⟩)] w fun r w' => r = .returned (.bool (!M.entryOk c)) ∧ Below w.heap.size w w' := by
  have b0 := (Below.refl w.heap.size w).alloc (Nat.le_refl _) (.cells (enC c) 37)
  have hgl : g < w.heap.size := World.block_lt_of_cell? w _ hg
  go_enter Try.func81, Try.ntmps81
  go_wp2_with fail
  refine (implEntryOk c _ (by have := hc.1; unfold maxLen; omega) (by have := hc.2; unfold maxLen; omega)).mono ?_
  rintro r w1 ⟨rfl, b1⟩
  go_wp2
  go_ret
  exact ⟨rfl, next b0 b1⟩
set_option maxHeartbeats 1000000 in
theorem all_entryOk (A : Option Addr) (l : List M.En) (cap : Nat) (w : World) (hl : Ens w A l) (hlen : l.length ≤ 1048576) (hp : ∀ e ∈ l, enIn 1048576 e) :
    Calls Try.prog 59 #[.slice A l.length cap, .func (.func 60) #[] #[]] w fun r w' => r = .returned (.bool (l.all M.entryOk)) ∧ Below w.heap.size w w' := by
  have b0 := (Below.refl w.heap.size w).alloc (Nat.le_refl _) (.cells #[.func (.func 60) #[] #[]] 75)
  have HB : Hid (((l.findIdx (fun c => !M.entryOk c) : Int) == (l.length : Int)) = l.all M.entryOk) := Lib.hid (all_findIdxG _ l)
  have HL := Lib.hid hl
  have HP := Lib.hid hp
  clear hl hp
  go_enter Try.func59, Try.ntmps59
  go_wp2_with fail
  refine (enfirst_all (fun c => !M.entryOk c) A l cap _ _ (HL.out.alloc _) hlen (fun c w' hc hb => all1_entryOk c _ w' (HP.out c hc) (box_cells hb 0))).mono ?_
  rintro r w1 ⟨rfl, b1⟩
  go_wp2
  go_ret
  exact ⟨ret_bool HB.out, next b0 b1⟩
set_option maxHeartbeats 1000000 in
theorem reignsOk_any (r : Int) (A : Option Addr) (l : List M.En) (cap : Nat) (w : World) (hl : Ens w A l) (hlen : l.length ≤ 1048576) :
    Calls Try.prog 61 #[.int .i64 r, .slice A l.length cap] w fun e w' => e = .returned (.bool (M.upFrom r l)) ∧ Below w.heap.size w w' := by
  go_enter Try.func61, Try.ntmps61
  go_wp2
  go_loopw [0, 9] (fun a i wr => ∃ j : Nat, i = .int .i64 j ∧ a = .int .i64 (M.reignAhead r l j) ∧ j ≤ l.length ∧ M.UpTo r l j ∧ Below w.heap.size w wr) (fun _ i _ => l.length - (intOf i).toNat)
  case atStart => exact ⟨0, rfl, rfl, Nat.zero_le _, M.UpTo.zero r l, Below.refl _ _⟩
  case round =>
    obtain ⟨j, rfl, rfl, hj, hup, hbl⟩ := hrel
    by_cases hlt : j < l.length
    · obtain ⟨b, o, rfl, -, c0, c1, c2, c3, c4, c5, c6, c7, c8, c9⟩ := Ens_at (hl.below hbl) hlt
      have HA := Lib.hid hl
      have HU := Lib.hid hup
      have HS := Lib.hid (M.reignAhead_succ (r := r) hlt)
      have ba := hbl.alloc hbl.size (.cells (enC l[j]) 37)
      obtain ⟨K, hK⟩ : ∃ K, M.reignAhead r l j = K := ⟨_, rfl⟩
      have HK := Lib.hid hK
      rw [hK]
      clear hl hup hK
      by_cases hr : K ≤ l[j].reign
      · have HN := Lib.hid (HU.out.next hlt (by rw [HK.out]; exact hr))
        go_wp2
        go_roundw
        case rel => exact ⟨j + 1, by go_num, by rw [HS.out], by omega, HN.out, ba⟩
        case measure => simp [intOf]; omega
      · have HE : Hid (M.upFrom r l = false) := Lib.hid (M.up_not hlt (by rw [HK.out]; exact hr))
        go_wp2
        go_ret
        exact ⟨ret_bool HE.out.symm, ba⟩
    · have hj' : j = l.length := by omega
      subst hj'
      have HE : Hid (M.upFrom r l = true) := Lib.hid hup.all
      clear hup
      go_wp2
      go_ret
      exact ⟨ret_bool HE.out.symm, hbl⟩
set_option maxHeartbeats 1000000 in
theorem baseOk_any (b r : Int) (A : Option Addr) (l : List M.En) (cap : Nat) (w : World) :
    Calls Try.prog 58 #[roV b r A l.length cap] w fun e w' => e = .returned (.bool (M.baseOk b r)) ∧ Below w.heap.size w w' := by
  have b0 := (Below.refl w.heap.size w).alloc (Nat.le_refl _) (.cells (roA b r A l.length cap) 26)
  by_cases h0 : b = 0
  · subst h0
    by_cases h1 : r = 0
    · subst h1
      go_enter Try.func58, Try.ntmps58
      go_wp2
      go_ret
      exact ⟨rfl, b0⟩
    · have HE : Hid (M.baseOk 0 r = false) := Lib.hid (by rw [M.baseOk_zero]; simp [h1])
      go_enter Try.func58, Try.ntmps58
      go_wp2
      go_ret
      exact ⟨ret_bool (by rw [HE.out]; simp [h1]), b0⟩
  · by_cases h1 : 0 < b
    · by_cases h2 : b ≤ 300
      · have HE : Hid (M.baseOk b r = M.inI r 1 1000) := Lib.hid (M.baseOk_pos h1 h2)
        go_enter Try.func58, Try.ntmps58
        go_wp2_with fail
        refine (reignOk_any r _).mono ?_
        rintro e w' ⟨rfl, rfl⟩
        go_wp2
        go_ret
        exact ⟨ret_bool HE.out.symm, b0⟩
      · have HE : Hid (M.baseOk b r = false) := Lib.hid (M.baseOk_out (by omega))
        go_enter Try.func58, Try.ntmps58
        go_wp2
        go_ret
        exact ⟨ret_bool HE.out.symm, b0⟩
    · have HE : Hid (M.baseOk b r = false) := Lib.hid (M.baseOk_out (by omega))
      go_enter Try.func58, Try.ntmps58
      go_wp2
      go_ret
      exact ⟨ret_bool HE.out.symm, b0⟩
set_option maxHeartbeats 2000000 in
theorem implRollOk (b r : Int) (A : Option Addr) (l : List M.En) (cap : Nat) (w : World) (hl : Ens w A l) (hlen : l.length ≤ 1048576) (hp : ∀ e ∈ l, enIn 1048576 e) :
    Calls Try.prog 24 #[roV b r A l.length cap] w fun e w' => e = .returned (.bool (M.rollOk b r l)) ∧ Below w.heap.size w w' := by
  have b0 := (Below.refl w.heap.size w).alloc (Nat.le_refl _) (.cells (roA b r A l.length cap) 26)
  have h0 := holds_new w (roA b r A l.length cap) 26
  have HL := Lib.hid hl
  have HP := Lib.hid hp
  clear hl hp
  rcases h1 : M.baseOk b r with _ | _
  · have HE : Hid (M.rollOk b r l = false) := Lib.hid (by simp [M.rollOk, h1])
    have H1 := Lib.hid h1
    clear h1
    go_enter Try.func24, Try.ntmps24
    go_wp2_with fail
    refine (baseOk_any b r A l cap _).mono ?_
    rintro e w1 ⟨rfl, b1⟩
    rw [H1.out]
    go_wp2
    go_ret
    exact ⟨ret_bool HE.out.symm, next b0 b1⟩
  by_cases h2 : 100 < l.length
  · have HE : Hid (M.rollOk b r l = false) := Lib.hid (by simp only [M.rollOk, Bool.and_eq_false_iff, decide_eq_false_iff_not]; exact .inr (.inl (by omega)))
    have H1 := Lib.hid h1
    clear h1
    go_enter Try.func24, Try.ntmps24
    go_wp2_with fail
    refine (baseOk_any b r A l cap _).mono ?_
    rintro e w1 ⟨rfl, b1⟩
    rw [H1.out]
    replace h0 := h0.below b1
    replace b0 := next b0 b1
    obtain ⟨p0, p1, p2⟩ := h0.three
    go_wp2
    go_ret
    exact ⟨ret_bool HE.out.symm, b0⟩
  rcases h3 : l.all M.entryOk with _ | _
  · have HE : Hid (M.rollOk b r l = false) := Lib.hid (by simp only [M.rollOk, h3]; simp)
    have H1 := Lib.hid h1
    have H3 := Lib.hid h3
    clear h1 h3
    go_enter Try.func24, Try.ntmps24
    go_wp2_with fail
    refine (baseOk_any b r A l cap _).mono ?_
    rintro e w1 ⟨rfl, b1⟩
    rw [H1.out]
    replace h0 := h0.below b1
    replace b0 := next b0 b1
    obtain ⟨p0, p1, p2⟩ := h0.three
    go_wp2_with fail
    refine (all_entryOk A l cap _ (HL.out.below b0) hlen HP.out).mono ?_
    rintro e w2 ⟨rfl, b2⟩
    rw [H3.out]
    go_wp2
    go_ret
    exact ⟨ret_bool HE.out.symm, next b0 b2⟩
  have HE : Hid (M.rollOk b r l = M.upFrom r l) := Lib.hid (by simp only [M.rollOk, h1, h3, Bool.true_and, decide_eq_true (show l.length ≤ 100 by omega)])
  have H1 := Lib.hid h1
  have H3 := Lib.hid h3
  clear h1 h3
  go_enter Try.func24, Try.ntmps24
  go_wp2_with fail
  refine (baseOk_any b r A l cap _).mono ?_
  rintro e w1 ⟨rfl, b1⟩
  rw [H1.out]
  replace h0 := h0.below b1
  replace b0 := next b0 b1
  obtain ⟨p0, p1, p2⟩ := h0.three
  go_wp2_with fail
  refine (all_entryOk A l cap _ (HL.out.below b0) hlen HP.out).mono ?_
  rintro e w2 ⟨rfl, b2⟩
  rw [H3.out]
  replace h0 := h0.below b2
  replace b0 := next b0 b2
  clear p0 p1 p2
  obtain ⟨p0, p1, p2⟩ := h0.three
  go_wp2_with fail
  refine (reignsOk_any r A l cap _ (HL.out.below b0) hlen).mono ?_
  rintro e w3 ⟨rfl, b3⟩
  go_wp2
  go_ret
  exact ⟨ret_bool HE.out.symm, next b0 b3⟩
theorem last_any (b r : Int) (A : Option Addr) (l : List M.En) (cap : Nat) (w : World) (h0 : 0 ≤ b) (h3 : b ≤ 300) (hlen : l.length ≤ 1048576) :
    Calls Try.prog 52 #[roV b r A l.length cap] w fun e w' => e = .returned (.int .i64 (b + l.length)) ∧ Below w.heap.size w w' := by
  have b0 := (Below.refl w.heap.size w).alloc (Nat.le_refl _) (.cells (roA b r A l.length cap) 26)
  go_enter Try.func52, Try.ntmps52
  go_wp2
  go_ret
  exact ⟨rfl, b0⟩
theorem knows_any (b r : Int) (A : Option Addr) (l : List M.En) (cap : Nat) (i : Int) (w : World) (h0 : 0 ≤ b) (h3 : b ≤ 300) (hlen : l.length ≤ 1048576) :
    Calls Try.prog 48 #[roV b r A l.length cap, .int .i64 i] w fun e w' => e = .returned (.bool (decide (b ≤ i) && decide (i ≤ b + l.length))) ∧ Below w.heap.size w w' := by
  have b0 := (Below.refl w.heap.size w).alloc (Nat.le_refl _) (.cells (roA b r A l.length cap) 26)
  by_cases hi : b ≤ i
  · have HE : Hid ((decide (b ≤ i) && decide (i ≤ b + l.length)) = decide (i ≤ b + l.length)) := Lib.hid (by simp [hi])
    go_enter Try.func48, Try.ntmps48
    go_wp2_with fail
    refine (last_any b r A l cap _ h0 h3 hlen).mono ?_
    rintro e w1 ⟨rfl, b1⟩
    go_wp2
    go_ret
    exact ⟨ret_bool HE.out.symm, next b0 b1⟩
  · have HE : Hid ((decide (b ≤ i) && decide (i ≤ b + l.length)) = false) := Lib.hid (by simp [hi])
    go_enter Try.func48, Try.ntmps48
    go_wp2
    go_ret
    exact ⟨ret_bool HE.out.symm, b0⟩
set_option maxHeartbeats 1000000 in
theorem behind_any (b r : Int) (A : Option Addr) (l : List M.En) (cap : Nat) (k : Nat) (w : World) (h0 : 0 ≤ b) (h3 : b ≤ 300) (hlen : l.length ≤ 1048576) (hlc : l.length ≤ cap) (hk : k ≤ l.length) :
    Calls Try.prog 50 #[roV b r A l.length cap, .int .i64 (b + k)] w fun e w' => e = .returned (.slice (cutAt A l.length k 10) (l.length - k) (l.length - k)) ∧ Below w.heap.size w w' := by
  have b0 := (Below.refl w.heap.size w).alloc (Nat.le_refl _) (.cells (roA b r A l.length cap) 26)
  have e1 : b + (k : Int) - b = k := by omega
  by_cases hkl : k = l.length
  · subst hkl
    have HC : Hid (cutAt A l.length l.length 10 = A) := Lib.hid (by unfold cutAt; rw [if_pos rfl])
    go_enter Try.func50, Try.ntmps50
    go_wp2
    go_ret
    exact ⟨by rw [HC.out, Nat.sub_self]; rfl, b0⟩
  · have HC : Hid (cutAt A l.length k 10 = A.map (·.add (k * 10))) := Lib.hid (by unfold cutAt; rw [if_neg (fun h => hkl h.symm)])
    go_enter Try.func50, Try.ntmps50
    go_wp2
    go_ret
    exact ⟨by rw [HC.out]; rfl, b0⟩
set_option maxHeartbeats 1000000 in
theorem reign_base (b r : Int) (A : Option Addr) (l : List M.En) (cap : Nat) (w : World) :
    Calls Try.prog 49 #[roV b r A l.length cap, .int .i64 b] w fun e w' => e = .returned (.int .i64 r) ∧ Below w.heap.size w w' := by
  have b0 := (Below.refl w.heap.size w).alloc (Nat.le_refl _) (.cells (roA b r A l.length cap) 26)
  go_enter Try.func49, Try.ntmps49
  go_wp2
  go_ret
  exact ⟨rfl, b0⟩
set_option maxHeartbeats 1000000 in
theorem reign_at (b r : Int) (A : Option Addr) (l : List M.En) (cap : Nat) (k : Nat) (w : World) (h0 : 0 ≤ b) (h3 : b ≤ 300) (hl : Ens w A l) (hlen : l.length ≤ 1048576) (hlc : l.length ≤ cap) (hk : k < l.length) :
    Calls Try.prog 49 #[roV b r A l.length cap, .int .i64 (b + k + 1)] w fun e w' => e = .returned (.int .i64 l[k].reign) ∧ Below w.heap.size w w' := by
  have b0 := (Below.refl w.heap.size w).alloc (Nat.le_refl _) (.cells (roA b r A l.length cap) 26)
  have e1 : b + (k : Int) + 1 - 1 = b + k := by omega
  have e2 : ¬ b + (k : Int) + 1 = b := by omega
  have hd := (hl.below b0).cutDrop k (Nat.le_refl l.length)
  have hz : 0 < (l.drop k).length := by rw [List.length_drop]; omega
  have HZ : Hid ((l.drop k)[0] = l[k]) := Lib.hid (by simp)
  have HD := Lib.hid hd
  clear hl hd
  go_enter Try.func49, Try.ntmps49
  go_wp2_with fail
  refine (behind_any b r A l cap k _ h0 h3 hlen hlc (by omega)).mono ?_
  rintro e w1 ⟨rfl, b1⟩
  obtain ⟨bb, oo, hA, -, c0, -⟩ := Ens_at (HD.out.below b1) hz
  rw [hA]
  simp only [Nat.zero_mul, Nat.add_zero, HZ.out] at c0
  have hlk : 0 < l.length - k := by omega
  clear hA
  go_wp2
  go_ret
  exact ⟨rfl, next b0 b1⟩
set_option maxHeartbeats 1000000 in
theorem implLastIn (b r : Int) (A : Option Addr) (l : List M.En) (cap : Nat) (w : World) (hl : Ens w A l) (hlen : l.length ≤ 1048576) (hp : ∀ e ∈ l, enIn 1048576 e) :
    Calls Try.prog 18 #[roV b r A l.length cap] w fun e w' => e = .returned (.int .i64 (M.lastIn b r l)) ∧ Below w.heap.size w w' := by
  have b0 := (Below.refl w.heap.size w).alloc (Nat.le_refl _) (.cells (roA b r A l.length cap) 26)
  have h0 := holds_new w (roA b r A l.length cap) 26
  have HL := Lib.hid hl
  clear hl
  rcases h1 : M.rollOk b r l with _ | _
  · have HE : Hid (M.lastIn b r l = -1) := Lib.hid (by simp [M.lastIn, h1])
    have H1 := Lib.hid h1
    clear h1
    go_enter Try.func18, Try.ntmps18
    go_wp2_with fail
    refine (implRollOk b r A l cap _ (HL.out.below b0) hlen hp).mono ?_
    rintro e w1 ⟨rfl, b1⟩
    rw [H1.out]
    go_wp2
    go_ret
    exact ⟨ret_int HE.out.symm, next b0 b1⟩
  · have HE : Hid (M.lastIn b r l = b + l.length) := Lib.hid (by simp [M.lastIn, h1])
    obtain ⟨q0, q1, -⟩ := M.rollOk_parts h1
    have H1 := Lib.hid h1
    clear h1
    go_enter Try.func18, Try.ntmps18
    go_wp2_with fail
    refine (implRollOk b r A l cap _ (HL.out.below b0) hlen hp).mono ?_
    rintro e w1 ⟨rfl, b1⟩
    rw [H1.out]
    replace h0 := h0.below b1
    replace b0 := next b0 b1
    obtain ⟨p0, p1, p2⟩ := h0.three
    go_wp2_with fail
    refine (last_any b r A l cap _ q0 q1 hlen).mono ?_
    rintro e w2 ⟨rfl, b2⟩
    go_wp2
    go_ret
    exact ⟨ret_int HE.out.symm, next b0 b2⟩
/-- Where a number stands to a roll's. -/
theorem place_of (b i : Int) (n : Nat) : (i < b ∨ b + n < i) ∨ i = b ∨ ∃ k : Nat, k < n ∧ i = b + k + 1 := by
  rcases Int.lt_trichotomy i b with h | h | h
  · exact .inl (.inl h)
  · exact .inr (.inl h)
  · by_cases h2 : b + n < i
    · exact .inl (.inr h2)
    · exact .inr (.inr ⟨(i - b - 1).toNat, by omega, by omega⟩)
set_option maxHeartbeats 2000000 in
theorem implReignAt (b r : Int) (A : Option Addr) (l : List M.En) (cap : Nat) (i : Int) (w : World) (hl : Ens w A l) (hlen : l.length ≤ 1048576) (hp : ∀ e ∈ l, enIn 1048576 e) (hlc : l.length ≤ cap) :
    Calls Try.prog 15 #[roV b r A l.length cap, .int .i64 i] w fun e w' => e = .returned (.int .i64 (M.reignAt b r l i)) ∧ Below w.heap.size w w' := by
  have b0 := (Below.refl w.heap.size w).alloc (Nat.le_refl _) (.cells (roA b r A l.length cap) 26)
  have h0 := holds_new w (roA b r A l.length cap) 26
  have HL := Lib.hid hl
  clear hl
  rcases h1 : M.rollOk b r l with _ | _
  · have HE : Hid (M.reignAt b r l i = -1) := Lib.hid (by simp [M.reignAt, h1])
    have H1 := Lib.hid h1
    clear h1
    go_enter Try.func15, Try.ntmps15
    go_wp2_with fail
    refine (implRollOk b r A l cap _ (HL.out.below b0) hlen hp).mono ?_
    rintro e w1 ⟨rfl, b1⟩
    rw [H1.out]
    go_wp2
    go_ret
    exact ⟨ret_int HE.out.symm, next b0 b1⟩
  obtain ⟨q0, q1, -⟩ := M.rollOk_parts h1
  have HE : Hid (M.reignAt b r l i = M.reignIn b r l i) := Lib.hid (by simp [M.reignAt, h1])
  have H1 := Lib.hid h1
  clear h1
  rcases place_of b i l.length with hi | hi | ⟨k, hk, hi⟩
  · have HI : Hid (M.reignIn b r l i = -1) := Lib.hid (M.reignIn_out hi)
    have HK : Hid ((decide (b ≤ i) && decide (i ≤ b + l.length)) = false) := Lib.hid (by simp; omega)
    clear hi
    go_enter Try.func15, Try.ntmps15
    go_wp2_with fail
    refine (implRollOk b r A l cap _ (HL.out.below b0) hlen hp).mono ?_
    rintro e w1 ⟨rfl, b1⟩
    rw [H1.out]
    replace h0 := h0.below b1
    replace b0 := next b0 b1
    obtain ⟨p0, p1, p2⟩ := h0.three
    go_wp2_with fail
    refine (knows_any b r A l cap i _ q0 q1 hlen).mono ?_
    rintro e w2 ⟨rfl, b2⟩
    rw [HK.out]
    go_wp2
    go_ret
    exact ⟨ret_int (by rw [HE.out, HI.out]), next b0 b2⟩
  · subst hi
    have HI : Hid (M.reignIn i r l i = r) := Lib.hid (M.reignIn_base i r l)
    have HK : Hid ((decide (i ≤ i) && decide (i ≤ i + l.length)) = true) := Lib.hid (by simp; omega)
    go_enter Try.func15, Try.ntmps15
    go_wp2_with fail
    refine (implRollOk i r A l cap _ (HL.out.below b0) hlen hp).mono ?_
    rintro e w1 ⟨rfl, b1⟩
    rw [H1.out]
    replace h0 := h0.below b1
    replace b0 := next b0 b1
    obtain ⟨p0, p1, p2⟩ := h0.three
    go_wp2_with fail
    refine (knows_any i r A l cap i _ q0 q1 hlen).mono ?_
    rintro e w2 ⟨rfl, b2⟩
    rw [HK.out]
    replace h0 := h0.below b2
    replace b0 := next b0 b2
    clear p0 p1 p2
    obtain ⟨p0, p1, p2⟩ := h0.three
    go_wp2_with fail
    refine (reign_base i r A l cap _).mono ?_
    rintro e w3 ⟨rfl, b3⟩
    go_wp2
    go_ret
    exact ⟨ret_int (by rw [HE.out, HI.out]), next b0 b3⟩
  · subst hi
    have HI : Hid (M.reignIn b r l (b + k + 1) = l[k].reign) := Lib.hid (M.reignIn_at hk)
    have HK : Hid ((decide (b ≤ b + (k : Int) + 1) && decide (b + (k : Int) + 1 ≤ b + l.length)) = true) := Lib.hid (by simp; omega)
    go_enter Try.func15, Try.ntmps15
    go_wp2_with fail
    refine (implRollOk b r A l cap _ (HL.out.below b0) hlen hp).mono ?_
    rintro e w1 ⟨rfl, b1⟩
    rw [H1.out]
    replace h0 := h0.below b1
    replace b0 := next b0 b1
    obtain ⟨p0, p1, p2⟩ := h0.three
    go_wp2_with fail
    refine (knows_any b r A l cap _ _ q0 q1 hlen).mono ?_
    rintro e w2 ⟨rfl, b2⟩
    rw [HK.out]
    replace h0 := h0.below b2
    replace b0 := next b0 b2
    clear p0 p1 p2
    obtain ⟨p0, p1, p2⟩ := h0.three
    go_wp2_with fail
    refine (reign_at b r A l cap k _ q0 q1 (HL.out.below b0) hlen hlc hk).mono ?_
    rintro e w3 ⟨rfl, b3⟩
    go_wp2
    go_ret
    exact ⟨ret_int (by rw [HE.out, HI.out]), next b0 b3⟩
theorem implNewer (a b c d : Int) (w : World) :
    Calls Try.prog 26 #[.int .i64 a, .int .i64 b, .int .i64 c, .int .i64 d] w fun e w' => e = .returned (.bool (decide (d < b) || (decide (b = d) && decide (c ≤ a)))) ∧ w = w' := by
  by_cases h1 : d < b
  · go_enter Try.func26, Try.ntmps26
    go_wp2
    go_ret
    exact ⟨by simp [h1], rfl⟩
  · by_cases h2 : b = d
    · subst h2
      go_enter Try.func26, Try.ntmps26
      go_wp2
      go_ret
      exact ⟨by simp, rfl⟩
    · go_enter Try.func26, Try.ntmps26
      go_wp2
      go_ret
      exact ⟨by simp [h1], rfl⟩
theorem specNewer (a b c d : Int) (w : World) :
    Calls Try.prog 27 #[.int .i64 a, .int .i64 b, .int .i64 c, .int .i64 d] w fun e w' => e = .returned (.bool (decide (d < b) || (decide (b = d) && decide (c ≤ a)))) ∧ w = w' := by
  by_cases h1 : d < b
  · go_enter Try.func27, Try.ntmps27
    go_wp2
    go_ret
    exact ⟨by simp [h1], rfl⟩
  · by_cases h2 : b = d
    · subst h2
      go_enter Try.func27, Try.ntmps27
      go_wp2
      go_ret
      exact ⟨by simp, rfl⟩
    · go_enter Try.func27, Try.ntmps27
      go_wp2
      go_ret
      exact ⟨by simp [h1], rfl⟩
end Go.Proofs.Ytkpbfocnokbmiaa
namespace Go.Proofs.Ytkpbfocnokbmiaa
open Go Go.RowKit
end Go.Proofs.Ytkpbfocnokbmiaa
namespace Go.Proofs.Ytkpbfocnokbmiaa
open Go.RowKit

theorem Holds.wr3 {w : World} {g : Nat} {c0 c1 c2 : Value} (h : Holds w g #[c0, c1, c2]) (a0 a1 a2 : Value) : Holds (((w.setCell ⟨g, 0, none⟩ a0).setCell ⟨g, 1, none⟩ a1).setCell ⟨g, 2, none⟩ a2) g #[a0, a1, a2] := by
  have := (((h.putM 0 a0).putM 1 a1).putM 2 a2)
  simpa only [List.setIfInBounds_toArray, List.set_cons_zero, List.set_cons_succ] using this
theorem far_3 {w w1 : World} {B g : Nat} (h : Below B w w1) (hg : B ≤ g) (a0 a1 a2 : Value) : Below B w (((w1.setCell ⟨g, 0, none⟩ a0).setCell ⟨g, 1, none⟩ a1).setCell ⟨g, 2, none⟩ a2) :=
  farM (farM (farM h hg _ _) hg _ _) hg _ _
theorem Holds.off3 {w : World} {g k : Nat} {C : Array Value} (h : Holds w k C) (hk : k ≠ g) (a0 a1 a2 : Value) : Holds (((w.setCell ⟨g, 0, none⟩ a0).setCell ⟨g, 1, none⟩ a1).setCell ⟨g, 2, none⟩ a2) k C :=
  (((h.otherM hk).otherM hk).otherM hk)
theorem Holds.wr10 {w : World} {g : Nat} {c0 c1 c2 c3 c4 c5 c6 c7 c8 c9 : Value} (h : Holds w g #[c0, c1, c2, c3, c4, c5, c6, c7, c8, c9]) (a0 a1 a2 a3 a4 a5 a6 a7 a8 a9 : Value) : Holds ((((((((((w.setCell ⟨g, 0, none⟩ a0).setCell ⟨g, 1, none⟩ a1).setCell ⟨g, 2, none⟩ a2).setCell ⟨g, 3, none⟩ a3).setCell ⟨g, 4, none⟩ a4).setCell ⟨g, 5, none⟩ a5).setCell ⟨g, 6, none⟩ a6).setCell ⟨g, 7, none⟩ a7).setCell ⟨g, 8, none⟩ a8).setCell ⟨g, 9, none⟩ a9) g #[a0, a1, a2, a3, a4, a5, a6, a7, a8, a9] := by
  have := ((((((((((h.putM 0 a0).putM 1 a1).putM 2 a2).putM 3 a3).putM 4 a4).putM 5 a5).putM 6 a6).putM 7 a7).putM 8 a8).putM 9 a9)
  simpa only [List.setIfInBounds_toArray, List.set_cons_zero, List.set_cons_succ] using this
theorem far_10 {w w1 : World} {B g : Nat} (h : Below B w w1) (hg : B ≤ g) (a0 a1 a2 a3 a4 a5 a6 a7 a8 a9 : Value) : Below B w ((((((((((w1.setCell ⟨g, 0, none⟩ a0).setCell ⟨g, 1, none⟩ a1).setCell ⟨g, 2, none⟩ a2).setCell ⟨g, 3, none⟩ a3).setCell ⟨g, 4, none⟩ a4).setCell ⟨g, 5, none⟩ a5).setCell ⟨g, 6, none⟩ a6).setCell ⟨g, 7, none⟩ a7).setCell ⟨g, 8, none⟩ a8).setCell ⟨g, 9, none⟩ a9) :=
  farM (farM (farM (farM (farM (farM (farM (farM (farM (farM h hg _ _) hg _ _) hg _ _) hg _ _) hg _ _) hg _ _) hg _ _) hg _ _) hg _ _) hg _ _
theorem Loose.putM {w : World} {g k j : Nat} (h : Loose w k) (v : Value) : Loose (w.setCell ⟨g, j, none⟩ v) k := fun i => by rw [World.frozen?_setCell]; exact h i
theorem Loose.wr3 {w : World} {g k : Nat} (h : Loose w k) (a0 a1 a2 : Value) : Loose (((w.setCell ⟨g, 0, none⟩ a0).setCell ⟨g, 1, none⟩ a1).setCell ⟨g, 2, none⟩ a2) k := (((h.putM a0).putM a1).putM a2)
theorem Loose.wr10 {w : World} {g k : Nat} (h : Loose w k) (a0 a1 a2 a3 a4 a5 a6 a7 a8 a9 : Value) : Loose ((((((((((w.setCell ⟨g, 0, none⟩ a0).setCell ⟨g, 1, none⟩ a1).setCell ⟨g, 2, none⟩ a2).setCell ⟨g, 3, none⟩ a3).setCell ⟨g, 4, none⟩ a4).setCell ⟨g, 5, none⟩ a5).setCell ⟨g, 6, none⟩ a6).setCell ⟨g, 7, none⟩ a7).setCell ⟨g, 8, none⟩ a8).setCell ⟨g, 9, none⟩ a9) k := ((((((((((h.putM a0).putM a1).putM a2).putM a3).putM a4).putM a5).putM a6).putM a7).putM a8).putM a9)
end Go.Proofs.Ytkpbfocnokbmiaa
