/- Proved: container/heap's down, over the program's heap of numbers, makes a heap of the first n again, where the first one alone may stand too far ahead; what is behind n stays. Condition: at most a thousand numbers. -/
import Derived.Test.YtnelgadfgeakjaaHeapImpl
namespace Go.Proofs.Ytnelgadfgeakjaa
open Go.RowKit

/-- The heap at block b is the slice v of t. -/
def HpK (n0 : Nat) (W : World) (b : Nat) (v : Value) (t : List Int) (w : World) : Prop := n0 ≤ b ∧ Below n0 W w ∧ Boxed w b 46 v ∧ IntRow (b + 1) w v t
section
variable {n0 b : Nat} {W w : World} {v : Value} {t : List Int}
theorem HpAt.open (h : HpAt n0 W b t w) : ∃ v, HpK n0 W b v t w := by
  obtain ⟨h1, h2, v, h3, h4⟩ := h
  exact ⟨v, h1, h2, h3, h4⟩
theorem HpK.at (h : HpK n0 W b v t w) : HpAt n0 W b t w := ⟨h.1, h.2.1, v, h.2.2.1, h.2.2.2⟩
theorem HpK.len (h : HpK n0 W b v t w) : (method 180 48 (hpV b) "Len").run Try.prog w = .ok (63, v) w := methLen b v w h.2.2.1.cell
theorem HpK.less (h : HpK n0 W b v t w) : (method 180 48 (hpV b) "Less").run Try.prog w = .ok (64, v) w := methLess b v w h.2.2.1.cell
theorem HpK.swap (h : HpK n0 W b v t w) : (method 180 48 (hpV b) "Swap").run Try.prog w = .ok (65, v) w := methSwap b v w h.2.2.1.cell
theorem HpK.below {w' : World} (h : HpK n0 W b v t w) (hb : Below w.heap.size w w') : HpK n0 W b v t w' :=
  have hlt := h.2.2.1.lt
  have h1 := h.1
  ⟨h.1, h.2.1.trans (hb.mono (by omega)), (hb.block b hlt).trans h.2.2.1, h.2.2.2.below hb⟩
theorem waitLessK (a c : Int) (h : HpK n0 W b v t w) (ha0 : 0 ≤ a) (ha : a < t.length) (hc0 : 0 ≤ c) (hc : c < t.length) (hn : t.length ≤ 1000) :
    Calls Try.prog 64 #[v, .int .i64 a, .int .i64 c] w fun e w' => e = .returned (.bool (decide (M.gat t c.toNat < M.gat t a.toNat))) ∧ HpK n0 W b v t w' := by
  obtain ⟨a, rfl⟩ := Int.eq_ofNat_of_zero_le ha0
  obtain ⟨c, rfl⟩ := Int.eq_ofNat_of_zero_le hc0
  refine (waitLess (b + 1) t v w h.2.2.2 a c (by omega) (by omega) (by omega)).mono ?_
  rintro e w' ⟨he, hb⟩
  exact ⟨he, h.below hb⟩
theorem waitSwapK (a c : Int) (h : HpK n0 W b v t w) (ha0 : 0 ≤ a) (ha : a < t.length) (hc0 : 0 ≤ c) (hc : c < t.length) (hn : t.length ≤ 1000) (hac : a ≠ c) :
    Calls Try.prog 65 #[v, .int .i64 a, .int .i64 c] w fun e w' => e = .returned (.tuple #[]) ∧ HpK n0 W b v (M.swp t a.toNat c.toNat) w' := by
  obtain ⟨a, rfl⟩ := Int.eq_ofNat_of_zero_le ha0
  obtain ⟨c, rfl⟩ := Int.eq_ofNat_of_zero_le hc0
  refine (waitSwap (b + 1) t v w h.2.2.2 a c (by omega) (by omega) (by omega) (by omega)).mono ?_
  rintro e w' ⟨he, hr, hb⟩
  have h1 := h.1
  exact ⟨he, h.1, h.2.1.trans (hb.mono (by omega)), (hb.block b (by omega)).trans h.2.2.1, hr⟩
end

/-- A heap of the first n; the same numbers; what is behind n stays. -/
def DownTo (n0 : Nat) (W : World) (b : Nat) (s : List Int) (n : Nat) (w : World) : Prop := ∃ t, HpAt n0 W b t w ∧ t.length = s.length ∧ (∀ p : Int → Bool, t.countP p = s.countP p) ∧ (∀ j, n ≤ j → M.gat t j = M.gat s j) ∧ M.Hp t n

def IsFlag (e : Ending) : Prop := ∃ z, e = .returned (.bool z)
set_option maxHeartbeats 8000000 in
theorem downAny {n0 b : Nat} {W w : World} {s : List Int} (n : Nat) (hp : HpAt n0 W b s w) (hns : n ≤ s.length) (hu : M.HpDown s n 0) (hn : s.length ≤ 1000) :
    Calls Try.prog 46 #[hpI b, .int .i64 0, .int .i64 n] w fun e w' => IsFlag e ∧ DownTo n0 W b s n w' := by
  have HP := Lib.hid hp
  have HU := Lib.hid hu
  clear hp hu
  go_enter Try.func46, Try.ntmps46
  go_wp2_with fail
  go_loopw [7, 8, 9, 10] (fun i j1 j j2 wr => ∃ (k : Nat) (t : List Int), i = .int .i64 k ∧ k ≤ n ∧ t.length = s.length ∧ (∀ p : Int → Bool, t.countP p = s.countP p) ∧ (∀ j, n ≤ j → M.gat t j = M.gat s j) ∧ M.HpDown t n k ∧ HpAt n0 W b t wr) (fun i _ _ _ _ => n - (intOf i).toNat)
  case atStart => exact ⟨0, s, rfl, by omega, rfl, fun _ => rfl, fun _ _ => rfl, HU.out, HP.out⟩
  case round =>
    clear HP HU
    obtain ⟨k, t, rfl, hk, hl, hm, hs, hu, hp⟩ := hrel
    have HP := Lib.hid hp
    have HU := Lib.hid hu
    have HM := Lib.hid hm
    have HS := Lib.hid hs
    clear hp hu hm hs
    have E0 : ((k : Nat) : Int).toNat = k := by omega
    have E1 : (2 * (k : Int) + 1).toNat = 2 * k + 1 := by omega
    have E2 : (2 * (k : Int) + 1 + 1).toNat = 2 * k + 2 := by omega
    by_cases ha : 2 * k + 1 ≥ n
    · go_wp2
      go_ret
      exact ⟨⟨_, rfl⟩, t, HP.out, hl, HM.out, HS.out, HU.out.stands fun j h0 hj hq => by omega⟩
    · obtain ⟨v, hK⟩ := HP.out.open
      have hm1 := hK.less
      by_cases hb : 2 * k + 2 < n
      · rcases hg : decide (M.gat t (2 * k + 1) < M.gat t (2 * k + 2)) with _ | _
        · have hbig : ∀ j, 0 < j → j < n → (j - 1) / 2 = k → M.gat t j ≤ M.gat t (2 * k + 1) := fun j h0 hj hq => by
            have h2 : j = 2 * k + 1 ∨ j = 2 * k + 2 := by omega
            have := of_decide_eq_false hg
            rcases h2 with rfl | rfl <;> omega
          have HBIG := Lib.hid hbig
          clear hbig
          rcases hd : decide (M.gat t k < M.gat t (2 * k + 1)) with _ | _
          · go_wp2_with (go_at_call 64; refine (waitLessK _ _ (by assumption) (by omega) (by omega) (by omega) (by omega) (by omega)).mono ?_; clear hm1 hK; rintro e w1 ⟨rfl, hK⟩; simp only [E0, E1, E2, hg, hd]; have hm1 := hK.less; have hm2 := hK.swap)
            go_ret
            exact ⟨⟨_, rfl⟩, t, hK.at, hl, HM.out, HS.out, HU.out.stands fun j h0 hj hq => by have := HBIG.out j h0 hj hq; have := of_decide_eq_false hd; omega⟩
          · go_wp2_with (first | (go_at_call 64; refine (waitLessK _ _ (by assumption) (by omega) (by omega) (by omega) (by omega) (by omega)).mono ?_; clear hm1 hK; rintro e w1 ⟨rfl, hK⟩; simp only [E0, E1, E2, hg, hd]; have hm1 := hK.less; have hm2 := hK.swap) | (go_at_call 65; refine (waitSwapK _ _ (by assumption) (by omega) (by omega) (by omega) (by omega) (by omega) (by omega)).mono ?_; clear hm1 hm2 hK; rintro e w2 ⟨rfl, hK⟩; simp only [E0, E1] at hK))
            go_roundw
            case rel => exact ⟨2 * k + 1, M.swp t k (2 * k + 1), by go_num, by omega, by rw [M.swp_len]; exact hl, fun p => (M.swp_many (by omega) (by omega) (by omega) p).trans (HM.out p), fun j hj => by rw [M.gat_swp (by omega) (by omega), if_neg (by omega), if_neg (by omega)]; exact HS.out j hj, HU.out.step (by omega) (by omega) (by omega) (by omega) (of_decide_eq_true hd) HBIG.out, hK.at⟩
            case measure => simp [intOf]; omega
        · have hbig : ∀ j, 0 < j → j < n → (j - 1) / 2 = k → M.gat t j ≤ M.gat t (2 * k + 2) := fun j h0 hj hq => by
            have h2 : j = 2 * k + 1 ∨ j = 2 * k + 2 := by omega
            have := of_decide_eq_true hg
            rcases h2 with rfl | rfl <;> omega
          have HBIG := Lib.hid hbig
          clear hbig
          rcases hd : decide (M.gat t k < M.gat t (2 * k + 2)) with _ | _
          · go_wp2_with (go_at_call 64; refine (waitLessK _ _ (by assumption) (by omega) (by omega) (by omega) (by omega) (by omega)).mono ?_; clear hm1 hK; rintro e w1 ⟨rfl, hK⟩; simp only [E0, E1, E2, hg, hd]; have hm1 := hK.less; have hm2 := hK.swap)
            go_ret
            exact ⟨⟨_, rfl⟩, t, hK.at, hl, HM.out, HS.out, HU.out.stands fun j h0 hj hq => by have := HBIG.out j h0 hj hq; have := of_decide_eq_false hd; omega⟩
          · go_wp2_with (first | (go_at_call 64; refine (waitLessK _ _ (by assumption) (by omega) (by omega) (by omega) (by omega) (by omega)).mono ?_; clear hm1 hK; rintro e w1 ⟨rfl, hK⟩; simp only [E0, E1, E2, hg, hd]; have hm1 := hK.less; have hm2 := hK.swap) | (go_at_call 65; refine (waitSwapK _ _ (by assumption) (by omega) (by omega) (by omega) (by omega) (by omega) (by omega)).mono ?_; clear hm1 hm2 hK; rintro e w2 ⟨rfl, hK⟩; simp only [E0, E2] at hK))
            go_roundw
            case rel => exact ⟨2 * k + 2, M.swp t k (2 * k + 2), by go_num, by omega, by rw [M.swp_len]; exact hl, fun p => (M.swp_many (by omega) (by omega) (by omega) p).trans (HM.out p), fun j hj => by rw [M.gat_swp (by omega) (by omega), if_neg (by omega), if_neg (by omega)]; exact HS.out j hj, HU.out.step (by omega) (by omega) (by omega) (by omega) (of_decide_eq_true hd) HBIG.out, hK.at⟩
            case measure => simp [intOf]; omega
      · have hbig : ∀ j, 0 < j → j < n → (j - 1) / 2 = k → M.gat t j ≤ M.gat t (2 * k + 1) := fun j h0 hj hq => by
          have h2 : j = 2 * k + 1 := by omega
          subst h2; omega
        have HBIG := Lib.hid hbig
        clear hbig
        rcases hd : decide (M.gat t k < M.gat t (2 * k + 1)) with _ | _
        · go_wp2_with (go_at_call 64; refine (waitLessK _ _ (by assumption) (by omega) (by omega) (by omega) (by omega) (by omega)).mono ?_; clear hm1 hK; rintro e w1 ⟨rfl, hK⟩; simp only [E0, E1, hd]; have hm1 := hK.less; have hm2 := hK.swap)
          go_ret
          exact ⟨⟨_, rfl⟩, t, hK.at, hl, HM.out, HS.out, HU.out.stands fun j h0 hj hq => by have := HBIG.out j h0 hj hq; have := of_decide_eq_false hd; omega⟩
        · go_wp2_with (first | (go_at_call 64; refine (waitLessK _ _ (by assumption) (by omega) (by omega) (by omega) (by omega) (by omega)).mono ?_; clear hm1 hK; rintro e w1 ⟨rfl, hK⟩; simp only [E0, E1, hd]; have hm1 := hK.less; have hm2 := hK.swap) | (go_at_call 65; refine (waitSwapK _ _ (by assumption) (by omega) (by omega) (by omega) (by omega) (by omega) (by omega)).mono ?_; clear hm1 hm2 hK; rintro e w2 ⟨rfl, hK⟩; simp only [E0, E1] at hK))
          go_roundw
          case rel => exact ⟨2 * k + 1, M.swp t k (2 * k + 1), by go_num, by omega, by rw [M.swp_len]; exact hl, fun p => (M.swp_many (by omega) (by omega) (by omega) p).trans (HM.out p), fun j hj => by rw [M.gat_swp (by omega) (by omega), if_neg (by omega), if_neg (by omega)]; exact HS.out j hj, HU.out.step (by omega) (by omega) (by omega) (by omega) (of_decide_eq_true hd) HBIG.out, hK.at⟩
          case measure => simp [intOf]; omega
end Go.Proofs.Ytnelgadfgeakjaa
