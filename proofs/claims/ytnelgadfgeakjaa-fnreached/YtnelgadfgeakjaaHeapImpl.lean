/- Proved: a number that is put into the program's heap, or taken out of it, leaves a heap of all others; conditions: at most a thousand numbers. -/
import Derived.Test.YtnelgadfgeakjaaHeapWalk
namespace Go.Proofs.Ytnelgadfgeakjaa
open Go.RowKit

theorem IntRow.below {B : Nat} {w w' : World} {v : Value} {h : List Int} (k : IntRow B w v h) (hb : Below w.heap.size w w') : IntRow B w' v h := by
  obtain ⟨h1, h2⟩ := k
  refine ⟨h1, ?_⟩
  rcases h2 with h2 | ⟨g, cap, cur, a1, a2, a3, a4⟩
  · exact .inl h2
  · exact .inr ⟨g, cap, cur, a1, a2, (hb.block g (lt_of_block a3)).trans a3, a4⟩
abbrev hpI (b : Nat) : Value := .iface 48 (hpV b)

/-- A heap of the same numbers. -/
def HeapOf (n0 : Nat) (W : World) (b : Nat) (s : List Int) (n : Nat) (w : World) : Prop := ∃ s', HpAt n0 W b s' w ∧ s'.length = s.length ∧ (∀ p : Int → Bool, s'.countP p = s.countP p) ∧ M.Hp s' n

set_option maxHeartbeats 4000000 in
theorem upAny {n0 b : Nat} {W w : World} {s : List Int} (q : Nat) (hp : HpAt n0 W b s w) (hq : q < s.length) (hu : M.HpUp s s.length q) (hn : s.length ≤ 1000) :
    Calls Try.prog 45 #[hpI b, .int .i64 q] w fun e w' => e = .returned (.tuple #[]) ∧ HeapOf n0 W b s s.length w' := by
  have HP := Lib.hid hp
  have HU := Lib.hid hu
  clear hp hu
  go_enter Try.func45, Try.ntmps45
  go_wp2_with fail
  go_loopw [1, 4] (fun j i wr => ∃ (q : Nat) (t : List Int), j = .int .i64 q ∧ q < s.length ∧ t.length = s.length ∧ (∀ p : Int → Bool, t.countP p = s.countP p) ∧ M.HpUp t s.length q ∧ HpAt n0 W b t wr) (fun j _ _ => (intOf j).toNat)
  case atStart => exact ⟨q, s, rfl, hq, rfl, fun _ => rfl, HU.out, HP.out⟩
  case round =>
    clear HP HU hq
    obtain ⟨q, t, rfl, hq, hl, hm, hu, hp⟩ := hrel
    have HP := Lib.hid hp
    have HU := Lib.hid hu
    have HM := Lib.hid hm
    clear hp hu hm
    rcases q with _ | q
    · go_wp2
      refine bodyPost_end (results_none rfl _ _ _) rfl ⟨rfl, t, HP.out, hl, HM.out, HU.out.first⟩
    · have hqq : (q + 1 - 1) / 2 = q / 2 := by omega
      obtain ⟨hnb, hB, v, hv, hr⟩ := HP.out
      have hm1 := methLess b v wr hv.cell
      have HV := Lib.hid hv
      have HR := Lib.hid hr
      have HB := Lib.hid hB
      clear hv hr hB
      have hne : ¬ ((q / 2 : Nat) : Int) = ((q + 1 : Nat) : Int) := by omega
      rcases hlt : decide (M.gat t (q / 2) < M.gat t (q + 1)) with _ | _
      · go_wp2_with (go_at_call 64; refine (waitLess _ _ _ _ HR.out (q + 1) (q / 2) (by omega) (by omega) (by omega)).mono ?_; rintro e w1 ⟨rfl, b1⟩; rw [hlt]; have HP1 := Lib.hid (HP.out.below b1); clear b1)
        refine bodyPost_end (results_none rfl _ _ _) rfl ⟨rfl, t, HP1.out, hl, HM.out, HU.out.stands ?_⟩
        rw [hqq]
        have := of_decide_eq_false hlt
        omega
      · go_wp2_with (first | (go_at_call 64; refine (waitLess _ _ _ _ HR.out (q + 1) (q / 2) (by omega) (by omega) (by omega)).mono ?_; rintro e w1 ⟨rfl, b1⟩; rw [hlt]; have HV1 := Lib.hid (show Boxed w1 b 46 v from (b1.block b HV.out.lt).trans HV.out); have hm2 := methSwap b v w1 HV1.out.cell; have HR1 := Lib.hid (HR.out.below b1)) | (go_at_call 65; refine (waitSwap (b + 1) t v _ HR1.out (q / 2) (q + 1) (by omega) (by omega) (by omega) (by omega)).mono ?_; rintro e w2 ⟨rfl, r2, b2⟩; have HS2 := Lib.hid (HpAt.swapped hnb (HB.out.trans (b1.mono (by have := HV.out.lt; omega))) HV1.out r2 b2); clear r2 b2))
        clear b1 hm1 hm2
        go_roundw
        case rel =>
          have hu := HU.out.step (by omega) hq (by omega) (by rw [hqq]; exact of_decide_eq_true hlt)
          rw [hqq] at hu
          exact ⟨q / 2, M.swp t (q / 2) (q + 1), by go_num, by omega, by rw [M.swp_len]; exact hl, fun p => (M.swp_many (by omega) (by omega) (by omega) p).trans (HM.out p), hu, HS2.out⟩
        case measure => simp [intOf]; omega
end Go.Proofs.Ytnelgadfgeakjaa
