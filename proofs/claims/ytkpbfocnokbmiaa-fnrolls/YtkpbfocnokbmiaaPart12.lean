/- Proved, in parts: Proved: the model's test of a roll, its last number and the reign of an entry answer the plain Lean functions that the program's answer; nothing that was there is written. Condition: texts and lists of at most a million. -/
import Derived.Test.YtkpbfocnokbmiaaPart09
namespace Go.Proofs.Ytkpbfocnokbmiaa
open Go.RowKit
set_option maxRecDepth 20000
set_option linter.unusedVariables false
set_option maxHeartbeats 2000000 in
theorem l8List_any (r : Int) (A : Option Addr) (l : List M.En) (cap : Nat) (w : World) (hl : Ens w A l) (hlen : l.length ≤ 1048576) (hp : ∀ e ∈ l, enIn 1048576 e) :
    Calls Try.prog 63 #[.slice A l.length cap, .int .i64 r] w fun e w' => e = .returned (.bool (M.listOk r l)) ∧ Below w.heap.size w w' := by
  have HP := Lib.hid hp
  clear hp
  go_enter Try.func63, Try.ntmps63
  go_wp2
  go_loopw [1, 5] (fun a i wr => ∃ j : Nat, i = .int .i64 j ∧ a = .int .i64 (M.reignAhead r l j) ∧ j ≤ l.length ∧ M.OkTo r l j ∧ Below w.heap.size w wr) (fun _ i _ => l.length - (intOf i).toNat)
  case atStart => exact ⟨0, rfl, rfl, Nat.zero_le _, M.OkTo.zero r l, Below.refl _ _⟩
  case round =>
    obtain ⟨j, rfl, rfl, hj, hup, hbl⟩ := hrel
    by_cases hlt : j < l.length
    · have hj' := Ens_at (hl.below hbl) hlt
      obtain ⟨b, o, rfl, zb, c0, c1, c2, c3, c4, c5, c6, c7, c8, c9⟩ := hj'
      obtain ⟨hn, hg⟩ : enIn 1048576 l[j] := HP.out l[j] (List.getElem_mem hlt)
      have HA := Lib.hid hl
      have HU := Lib.hid hup
      have HS := Lib.hid (M.reignAhead_succ (r := r) hlt)
      obtain ⟨K, hK⟩ : ∃ K, M.reignAhead r l j = K := ⟨_, rfl⟩
      have HK := Lib.hid hK
      rw [hK]
      clear hl hup hK
      rcases he : M.entryOk l[j] with _ | _
      · have HE : Hid (M.listOk r l = false) := Lib.hid (M.list_not hlt (.inl he))
        have HQ := Lib.hid he
        clear he
        go_wp2_with fail
        refine (specEntryOk l[j] _ (by unfold maxLen; omega) (by unfold maxLen; omega)).mono ?_
        rintro e w1 ⟨rfl, b1⟩
        rw [HQ.out]
        go_wp2
        go_ret
        exact ⟨ret_bool HE.out.symm, next hbl b1⟩
      · have HQ := Lib.hid he
        clear he
        by_cases hr : K ≤ l[j].reign
        · have HN := Lib.hid (HU.out.next hlt HQ.out (by rw [HK.out]; exact hr))
          go_wp2_with fail
          refine (specEntryOk l[j] _ (by unfold maxLen; omega) (by unfold maxLen; omega)).mono ?_
          rintro e w1 ⟨rfl, b1⟩
          rw [HQ.out]
          have d0 := (b1.cell (p := ⟨b, o + j * 10, none⟩) zb).trans c0
          clear c0 c1 c2 c3 c4 c5 c6 c7 c8 c9
          go_wp2
          go_roundw
          case rel => exact ⟨j + 1, by go_num, by rw [HS.out], by omega, HN.out, next hbl b1⟩
          case measure => simp [intOf]; omega
        · have HE : Hid (M.listOk r l = false) := Lib.hid (M.list_not hlt (.inr (by rw [HK.out]; exact hr)))
          go_wp2_with fail
          refine (specEntryOk l[j] _ (by unfold maxLen; omega) (by unfold maxLen; omega)).mono ?_
          rintro e w1 ⟨rfl, b1⟩
          rw [HQ.out]
          have d0 := (b1.cell (p := ⟨b, o + j * 10, none⟩) zb).trans c0
          clear c0 c1 c2 c3 c4 c5 c6 c7 c8 c9
          go_wp2
          go_ret
          exact ⟨ret_bool HE.out.symm, next hbl b1⟩
    · have hj' : j = l.length := by omega
      subst hj'
      have HE : Hid (M.listOk r l = true) := Lib.hid hup.all
      clear hup
      go_wp2
      go_ret
      exact ⟨ret_bool HE.out.symm, hbl⟩
set_option maxHeartbeats 2000000 in
theorem specRollOk_low (b r : Int) (A : Option Addr) (l : List M.En) (cap : Nat) (h1 : M.inI b 0 300 = false) (w : World) (hl : Ens w A l) (hlen : l.length ≤ 1048576) (hp : ∀ e ∈ l, enIn 1048576 e) :
    Calls Try.prog 25 #[roV b r A l.length cap] w fun e w' => e = .returned (.bool (M.rollOk b r l)) ∧ Below w.heap.size w w' := by
  have b0 := (Below.refl w.heap.size w).alloc (Nat.le_refl _) (.cells (roA b r A l.length cap) 26)
  have HL := Lib.hid hl
  have HP := Lib.hid hp
  clear hl hp
  have HE : Hid (M.rollOk b r l = false) := Lib.hid (by simp [M.rollOk, M.baseOk, h1])
  have H1 := Lib.hid h1
  clear h1
  go_enter Try.func25, Try.ntmps25
  go_wp2_with fail
  refine (in_i _ _ _ _).mono ?_
  rintro e w1 ⟨rfl, rfl⟩
  rw [H1.out]
  go_wp2
  go_ret
  exact ⟨ret_bool HE.out.symm, b0⟩
set_option maxHeartbeats 2000000 in
theorem specRollOk_reign (b r : Int) (A : Option Addr) (l : List M.En) (cap : Nat) (h1 : M.inI b 0 300 = true) (h2 : M.inI r 0 1000 = false) (w : World) (hl : Ens w A l) (hlen : l.length ≤ 1048576) (hp : ∀ e ∈ l, enIn 1048576 e) :
    Calls Try.prog 25 #[roV b r A l.length cap] w fun e w' => e = .returned (.bool (M.rollOk b r l)) ∧ Below w.heap.size w w' := by
  have b0 := (Below.refl w.heap.size w).alloc (Nat.le_refl _) (.cells (roA b r A l.length cap) 26)
  have HL := Lib.hid hl
  have HP := Lib.hid hp
  clear hl hp
  have HE : Hid (M.rollOk b r l = false) := Lib.hid (by simp [M.rollOk, M.baseOk, h2])
  have H1 := Lib.hid h1
  have H2 := Lib.hid h2
  clear h1 h2
  go_enter Try.func25, Try.ntmps25
  go_wp2_with fail
  refine (in_i _ _ _ _).mono ?_
  rintro e w1 ⟨rfl, rfl⟩
  rw [H1.out]
  go_wp2_with fail
  refine (in_i _ _ _ _).mono ?_
  rintro e w1 ⟨rfl, rfl⟩
  rw [H2.out]
  go_wp2
  go_ret
  exact ⟨ret_bool HE.out.symm, b0⟩
set_option maxHeartbeats 2000000 in
theorem specRollOk_00 (A : Option Addr) (l : List M.En) (cap : Nat)  (w : World) (hl : Ens w A l) (hlen : l.length ≤ 1048576) (hp : ∀ e ∈ l, enIn 1048576 e) :
    Calls Try.prog 25 #[roV 0 0 A l.length cap] w fun e w' => e = .returned (.bool (M.rollOk 0 0 l)) ∧ Below w.heap.size w w' := by
  have b0 := (Below.refl w.heap.size w).alloc (Nat.le_refl _) (.cells (roA 0 0 A l.length cap) 26)
  have HL := Lib.hid hl
  have HP := Lib.hid hp
  clear hl hp
  have H1 : Hid (M.inI 0 0 300 = true) := Lib.hid rfl
  have H2 : Hid (M.inI 0 0 1000 = true) := Lib.hid rfl
  have HB : Hid (M.baseOk 0 0 = true) := Lib.hid rfl
  by_cases hn : l.length ≤ 100
  · have HE : Hid (M.rollOk 0 0 l = M.listOk 0 l) := Lib.hid (by rw [M.rollOk_list, HB.out]; simp [hn])
    go_enter Try.func25, Try.ntmps25
    go_wp2_with fail
    refine (in_i _ _ _ _).mono ?_
    rintro e w1 ⟨rfl, rfl⟩
    rw [H1.out]
    go_wp2_with fail
    refine (in_i _ _ _ _).mono ?_
    rintro e w1 ⟨rfl, rfl⟩
    rw [H2.out]
    go_wp2_with fail
    refine (l8List_any 0 A l cap _ (HL.out.below b0) hlen HP.out).mono ?_
    rintro e w1 ⟨rfl, b1⟩
    go_wp2
    go_ret
    exact ⟨ret_bool HE.out.symm, next b0 b1⟩
  · have HE : Hid (M.rollOk 0 0 l = false) := Lib.hid (by rw [M.rollOk_list]; simp [hn])
    go_enter Try.func25, Try.ntmps25
    go_wp2_with fail
    refine (in_i _ _ _ _).mono ?_
    rintro e w1 ⟨rfl, rfl⟩
    rw [H1.out]
    go_wp2_with fail
    refine (in_i _ _ _ _).mono ?_
    rintro e w1 ⟨rfl, rfl⟩
    rw [H2.out]
    go_wp2
    go_ret
    exact ⟨ret_bool HE.out.symm, b0⟩
set_option maxHeartbeats 2000000 in
theorem specRollOk_0r (r : Int) (A : Option Addr) (l : List M.En) (cap : Nat) (h2 : M.inI r 0 1000 = true) (hr : ¬ r = 0) (w : World) (hl : Ens w A l) (hlen : l.length ≤ 1048576) (hp : ∀ e ∈ l, enIn 1048576 e) :
    Calls Try.prog 25 #[roV 0 r A l.length cap] w fun e w' => e = .returned (.bool (M.rollOk 0 r l)) ∧ Below w.heap.size w w' := by
  have b0 := (Below.refl w.heap.size w).alloc (Nat.le_refl _) (.cells (roA 0 r A l.length cap) 26)
  have HL := Lib.hid hl
  have HP := Lib.hid hp
  clear hl hp
  have H1 : Hid (M.inI 0 0 300 = true) := Lib.hid rfl
  have H2 := Lib.hid h2
  have HB : Hid (M.baseOk 0 r = false) := Lib.hid (by rw [M.baseOk_zero]; simp [hr])
  have e1 : (r == 0) = false := by simp [hr]
  clear h2
  have HE : Hid (M.rollOk 0 r l = false) := Lib.hid (by rw [M.rollOk_list, HB.out]; rfl)
  go_enter Try.func25, Try.ntmps25
  go_wp2_with fail
  refine (in_i _ _ _ _).mono ?_
  rintro e w1 ⟨rfl, rfl⟩
  rw [H1.out]
  go_wp2_with fail
  refine (in_i _ _ _ _).mono ?_
  rintro e w1 ⟨rfl, rfl⟩
  rw [H2.out]
  go_wp2
  go_ret
  exact ⟨ret_bool HE.out.symm, b0⟩
set_option maxHeartbeats 2000000 in
theorem specRollOk_b0 (b : Int) (A : Option Addr) (l : List M.En) (cap : Nat) (h1 : M.inI b 0 300 = true) (hb : ¬ b = 0) (w : World) (hl : Ens w A l) (hlen : l.length ≤ 1048576) (hp : ∀ e ∈ l, enIn 1048576 e) :
    Calls Try.prog 25 #[roV b 0 A l.length cap] w fun e w' => e = .returned (.bool (M.rollOk b 0 l)) ∧ Below w.heap.size w w' := by
  have b0 := (Below.refl w.heap.size w).alloc (Nat.le_refl _) (.cells (roA b 0 A l.length cap) 26)
  have HL := Lib.hid hl
  have HP := Lib.hid hp
  clear hl hp
  have H2 : Hid (M.inI 0 0 1000 = true) := Lib.hid rfl
  have HB : Hid (M.baseOk b 0 = false) := Lib.hid (by simp [M.baseOk, hb])
  have H1 := Lib.hid h1
  have e1 : (b == 0) = false := by simp [hb]
  clear h1
  have HE : Hid (M.rollOk b 0 l = false) := Lib.hid (by rw [M.rollOk_list, HB.out]; rfl)
  go_enter Try.func25, Try.ntmps25
  go_wp2_with fail
  refine (in_i _ _ _ _).mono ?_
  rintro e w1 ⟨rfl, rfl⟩
  rw [H1.out]
  go_wp2_with fail
  refine (in_i _ _ _ _).mono ?_
  rintro e w1 ⟨rfl, rfl⟩
  rw [H2.out]
  go_wp2
  go_ret
  exact ⟨ret_bool HE.out.symm, b0⟩
set_option maxHeartbeats 2000000 in
theorem specRollOk_br (b r : Int) (A : Option Addr) (l : List M.En) (cap : Nat) (h1 : M.inI b 0 300 = true) (h2 : M.inI r 0 1000 = true) (hb : ¬ b = 0) (hr : ¬ r = 0) (w : World) (hl : Ens w A l) (hlen : l.length ≤ 1048576) (hp : ∀ e ∈ l, enIn 1048576 e) :
    Calls Try.prog 25 #[roV b r A l.length cap] w fun e w' => e = .returned (.bool (M.rollOk b r l)) ∧ Below w.heap.size w w' := by
  have b0 := (Below.refl w.heap.size w).alloc (Nat.le_refl _) (.cells (roA b r A l.length cap) 26)
  have HL := Lib.hid hl
  have HP := Lib.hid hp
  clear hl hp
  have HB : Hid (M.baseOk b r = true) := Lib.hid (by simp [M.baseOk, h1, h2, hb, hr])
  have H1 := Lib.hid h1
  have H2 := Lib.hid h2
  have e1 : (r == 0) = false := by simp [hr]
  have e2 : (b == 0) = false := by simp [hb]
  clear h1 h2
  by_cases hn : l.length ≤ 100
  · have HE : Hid (M.rollOk b r l = M.listOk r l) := Lib.hid (by rw [M.rollOk_list, HB.out]; simp [hn])
    go_enter Try.func25, Try.ntmps25
    go_wp2_with fail
    refine (in_i _ _ _ _).mono ?_
    rintro e w1 ⟨rfl, rfl⟩
    rw [H1.out]
    go_wp2_with fail
    refine (in_i _ _ _ _).mono ?_
    rintro e w1 ⟨rfl, rfl⟩
    rw [H2.out]
    go_wp2_with fail
    refine (l8List_any r A l cap _ (HL.out.below b0) hlen HP.out).mono ?_
    rintro e w1 ⟨rfl, b1⟩
    go_wp2
    go_ret
    exact ⟨ret_bool HE.out.symm, next b0 b1⟩
  · have HE : Hid (M.rollOk b r l = false) := Lib.hid (by rw [M.rollOk_list]; simp [hn])
    go_enter Try.func25, Try.ntmps25
    go_wp2_with fail
    refine (in_i _ _ _ _).mono ?_
    rintro e w1 ⟨rfl, rfl⟩
    rw [H1.out]
    go_wp2_with fail
    refine (in_i _ _ _ _).mono ?_
    rintro e w1 ⟨rfl, rfl⟩
    rw [H2.out]
    go_wp2
    go_ret
    exact ⟨ret_bool HE.out.symm, b0⟩
theorem specRollOk (b r : Int) (A : Option Addr) (l : List M.En) (cap : Nat) (w : World) (hl : Ens w A l) (hlen : l.length ≤ 1048576) (hp : ∀ e ∈ l, enIn 1048576 e) :
    Calls Try.prog 25 #[roV b r A l.length cap] w fun e w' => e = .returned (.bool (M.rollOk b r l)) ∧ Below w.heap.size w w' := by
  rcases h1 : M.inI b 0 300 with _ | _
  · exact specRollOk_low b r A l cap h1 w hl hlen hp
  rcases h2 : M.inI r 0 1000 with _ | _
  · exact specRollOk_reign b r A l cap h1 h2 w hl hlen hp
  by_cases hb : b = 0
  · subst hb
    by_cases hr : r = 0
    · subst hr
      exact specRollOk_00 A l cap w hl hlen hp
    · exact specRollOk_0r r A l cap h2 hr w hl hlen hp
  · by_cases hr : r = 0
    · subst hr
      exact specRollOk_b0 b A l cap h1 hb w hl hlen hp
    · exact specRollOk_br b r A l cap h1 h2 hb hr w hl hlen hp
theorem l8Last_any (b r : Int) (A : Option Addr) (l : List M.En) (cap : Nat) (w : World) (h0 : 0 ≤ b) (h3 : b ≤ 300) (hlen : l.length ≤ 1048576) :
    Calls Try.prog 56 #[roV b r A l.length cap] w fun e w' => e = .returned (.int .i64 (b + l.length)) ∧ Below w.heap.size w w' := by
  have b0 := (Below.refl w.heap.size w).alloc (Nat.le_refl _) (.cells (roA b r A l.length cap) 26)
  go_enter Try.func56, Try.ntmps56
  go_wp2
  go_ret
  exact ⟨rfl, b0⟩
set_option maxHeartbeats 1000000 in
theorem l8Reign_any (b r : Int) (A : Option Addr) (l : List M.En) (cap : Nat) (i : Int) (w : World) (h0 : 0 ≤ b) (h3 : b ≤ 300) (hl : Ens w A l) (hlen : l.length ≤ 1048576) :
    Calls Try.prog 55 #[roV b r A l.length cap, .int .i64 i] w fun e w' => e = .returned (.int .i64 (M.reignIn b r l i)) ∧ Below w.heap.size w w' := by
  have b0 := (Below.refl w.heap.size w).alloc (Nat.le_refl _) (.cells (roA b r A l.length cap) 26)
  have hx := holds_new w (roA b r A l.length cap) 26
  rcases place_of b i l.length with (hi | hi) | hi | ⟨k, hk, hi⟩
  · have HI : Hid (M.reignIn b r l i = -1) := Lib.hid (M.reignIn_out (.inl hi))
    go_enter Try.func55, Try.ntmps55
    go_wp2
    go_ret
    exact ⟨ret_int HI.out.symm, b0⟩
  · have HI : Hid (M.reignIn b r l i = -1) := Lib.hid (M.reignIn_out (.inr hi))
    go_enter Try.func55, Try.ntmps55
    go_wp2_with fail
    refine (l8Last_any b r A l cap _ h0 h3 hlen).mono ?_
    rintro e w1 ⟨rfl, b1⟩
    go_wp2
    go_ret
    exact ⟨ret_int HI.out.symm, next b0 b1⟩
  · subst hi
    have HI : Hid (M.reignIn i r l i = r) := Lib.hid (M.reignIn_base i r l)
    go_enter Try.func55, Try.ntmps55
    go_wp2
    go_ret
    exact ⟨ret_int HI.out.symm, b0⟩
  · subst hi
    have HI : Hid (M.reignIn b r l (b + k + 1) = l[k].reign) := Lib.hid (M.reignIn_at hk)
    obtain ⟨bb, oo, rfl, zb, c0, -⟩ := Ens_at (hl.below b0) hk
    have e3 : b + (k : Int) + 1 - b - 1 = k := by omega
    have e4 : b + (k : Int) + 1 ≤ b + l.length := by omega
    clear hl
    go_enter Try.func55, Try.ntmps55
    go_wp2_with fail
    refine (l8Last_any b r _ l cap _ h0 h3 hlen).mono ?_
    rintro e w1 ⟨rfl, b1⟩
    replace hx := hx.below b1
    obtain ⟨p0, p1, p2⟩ := hx.three
    have d0 := (b1.cell (p := ⟨bb, oo + k * 10, none⟩) zb).trans c0
    clear c0
    go_wp2
    go_ret
    exact ⟨ret_int HI.out.symm, next b0 b1⟩
set_option maxHeartbeats 1000000 in
theorem specLastIn (b r : Int) (A : Option Addr) (l : List M.En) (cap : Nat) (w : World) (hl : Ens w A l) (hlen : l.length ≤ 1048576) (hp : ∀ e ∈ l, enIn 1048576 e) :
    Calls Try.prog 23 #[roV b r A l.length cap] w fun e w' => e = .returned (.int .i64 (M.lastIn b r l)) ∧ Below w.heap.size w w' := by
  have b0 := (Below.refl w.heap.size w).alloc (Nat.le_refl _) (.cells (roA b r A l.length cap) 26)
  have h0 := holds_new w (roA b r A l.length cap) 26
  have HL := Lib.hid hl
  clear hl
  rcases h1 : M.rollOk b r l with _ | _
  · have HE : Hid (M.lastIn b r l = -1) := Lib.hid (by simp [M.lastIn, h1])
    have H1 := Lib.hid h1
    clear h1
    go_enter Try.func23, Try.ntmps23
    go_wp2_with fail
    refine (specRollOk b r A l cap _ (HL.out.below b0) hlen hp).mono ?_
    rintro e w1 ⟨rfl, b1⟩
    rw [H1.out]
    go_wp2
    go_ret
    exact ⟨ret_int HE.out.symm, next b0 b1⟩
  · have HE : Hid (M.lastIn b r l = b + l.length) := Lib.hid (by simp [M.lastIn, h1])
    obtain ⟨q0, q1, -⟩ := M.rollOk_parts h1
    have H1 := Lib.hid h1
    clear h1
    go_enter Try.func23, Try.ntmps23
    go_wp2_with fail
    refine (specRollOk b r A l cap _ (HL.out.below b0) hlen hp).mono ?_
    rintro e w1 ⟨rfl, b1⟩
    rw [H1.out]
    replace h0 := h0.below b1
    replace b0 := next b0 b1
    obtain ⟨p0, p1, p2⟩ := h0.three
    go_wp2_with fail
    refine (l8Last_any b r A l cap _ q0 q1 hlen).mono ?_
    rintro e w2 ⟨rfl, b2⟩
    go_wp2
    go_ret
    exact ⟨ret_int HE.out.symm, next b0 b2⟩
set_option maxHeartbeats 2000000 in
theorem specReignAt (b r : Int) (A : Option Addr) (l : List M.En) (cap : Nat) (i : Int) (w : World) (hl : Ens w A l) (hlen : l.length ≤ 1048576) (hp : ∀ e ∈ l, enIn 1048576 e) :
    Calls Try.prog 20 #[roV b r A l.length cap, .int .i64 i] w fun e w' => e = .returned (.int .i64 (M.reignAt b r l i)) ∧ Below w.heap.size w w' := by
  have b0 := (Below.refl w.heap.size w).alloc (Nat.le_refl _) (.cells (roA b r A l.length cap) 26)
  have h0 := holds_new w (roA b r A l.length cap) 26
  have HL := Lib.hid hl
  clear hl
  rcases h1 : M.rollOk b r l with _ | _
  · have HE : Hid (M.reignAt b r l i = -1) := Lib.hid (by simp [M.reignAt, h1])
    have H1 := Lib.hid h1
    clear h1
    go_enter Try.func20, Try.ntmps20
    go_wp2_with fail
    refine (specRollOk b r A l cap _ (HL.out.below b0) hlen hp).mono ?_
    rintro e w1 ⟨rfl, b1⟩
    rw [H1.out]
    go_wp2
    go_ret
    exact ⟨ret_int HE.out.symm, next b0 b1⟩
  · have HE : Hid (M.reignAt b r l i = M.reignIn b r l i) := Lib.hid (by simp [M.reignAt, h1])
    obtain ⟨q0, q1, -⟩ := M.rollOk_parts h1
    have H1 := Lib.hid h1
    clear h1
    go_enter Try.func20, Try.ntmps20
    go_wp2_with fail
    refine (specRollOk b r A l cap _ (HL.out.below b0) hlen hp).mono ?_
    rintro e w1 ⟨rfl, b1⟩
    rw [H1.out]
    replace h0 := h0.below b1
    replace b0 := next b0 b1
    obtain ⟨p0, p1, p2⟩ := h0.three
    go_wp2_with fail
    refine (l8Reign_any b r A l cap i _ q0 q1 (HL.out.below b0) hlen).mono ?_
    rintro e w2 ⟨rfl, b2⟩
    go_wp2
    go_ret
    exact ⟨ret_int HE.out.symm, next b0 b2⟩
end Go.Proofs.Ytkpbfocnokbmiaa
