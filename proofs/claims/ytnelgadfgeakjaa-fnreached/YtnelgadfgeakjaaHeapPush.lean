/- Proved: container/heap's Push and Pop over the program's heap of numbers: what is put in is in it, and what is taken out was the greatest. Condition: at most a thousand numbers. -/
import Derived.Test.YtnelgadfgeakjaaHeapDown
namespace Go.Proofs.Ytnelgadfgeakjaa
open Go.RowKit

set_option maxHeartbeats 2000000 in
theorem pushAny {n0 b : Nat} {W w : World} {s : List Int} (x : Int) (hp : HpAt n0 W b s w) (hh : M.Hp s s.length) (hn : s.length ≤ 900) :
    Calls Try.prog 40 #[hpI b, .iface 2 (.int .i64 x)] w fun e w' => e = .returned (.tuple #[]) ∧ HeapOf n0 W b (s ++ [x]) (s.length + 1) w' := by
  have hl : (s ++ [x]).length = s.length + 1 := by simp
  have HP := Lib.hid hp
  have HU := Lib.hid (hh.more x rfl)
  clear hp hh
  have hm1 := methPush b w
  go_enter Try.func40, Try.ntmps40
  go_wp2_with (first
    | (go_at_call 67; refine (waitPush x HP.out (by omega)).mono ?_; rintro e w1 ⟨rfl, h1⟩; clear hm1; obtain ⟨v, hK⟩ := h1.open; clear h1; have hm2 := hK.len)
    | (go_at_call 63; refine (waitLen (b + 1) (s ++ [x]) v _ hK.2.2.2).mono ?_; rintro e w2 ⟨rfl, rfl⟩; rw [hl]; clear hm2)
    | (go_at_call 45; refine (upAny s.length hK.at (by omega) (by rw [hl]; exact HU.out) (by omega)).mono ?_; rintro e w3 ⟨rfl, h3⟩; rw [hl] at h3))
  refine bodyPost_end (results_none rfl _ _ _) rfl ⟨rfl, h3⟩

/-- What is left where the greatest one was taken. -/
def PopOf (n0 : Nat) (W : World) (b : Nat) (s : List Int) (w : World) : Prop := ∃ t, HpAt n0 W b t w ∧ t.length + 1 = s.length ∧ (∀ p : Int → Bool, s.countP p = t.countP p + [M.gat s 0].countP p) ∧ M.Hp t t.length
theorem popOf {n0 b : Nat} {W w : World} {s t : List Int} {n : Nat} (hn : s.length = n + 1) (h0 : 0 < n) (hl : t.length = s.length) (hm : ∀ p : Int → Bool, t.countP p = (M.swp s 0 n).countP p) (hs : ∀ j, n ≤ j → M.gat t j = M.gat (M.swp s 0 n) j) (hh : M.Hp t n) (hp : HpAt n0 W b (t.take n) w) : PopOf n0 W b s w := by
  have hg : M.gat t n = M.gat s 0 := by
    rw [hs n (Nat.le_refl _), M.gat_swp (by omega) (by omega), if_pos rfl]
  have hlt : (t.take n).length = n := by rw [List.length_take]; omega
  refine ⟨t.take n, hp, by omega, fun p => ?_, by rw [hlt]; exact hh.take⟩
  rw [← M.swp_many (i := 0) (k := n) (by omega) (by omega) (by omega) p, ← hm p]
  have e : t = t.take n ++ [M.gat s 0] := by
    have h1 : t.take (n + 1) = t := List.take_of_length_le (by omega)
    rw [List.take_succ_eq_append_getElem (by omega)] at h1
    rw [← hg, M.gat_lt (by omega)]
    exact h1.symm
  rw [← List.countP_append, ← e]
set_option maxHeartbeats 2000000 in
theorem popAny {n0 b : Nat} {W w : World} {s : List Int} {n : Nat} (hp : HpAt n0 W b s w) (hh : M.Hp s s.length) (hs : s.length = n + 1) (h0 : 0 < n) (hn : s.length ≤ 900) :
    Calls Try.prog 41 #[hpI b] w fun e w' => (∃ v, e = .returned v) ∧ PopOf n0 W b s w' := by
  obtain ⟨v, hK⟩ := hp.open
  rw [hs] at hh
  have HD := Lib.hid (hh.taken (by omega))
  have hm1 := hK.len
  have hm2 := hK.swap
  have E0 : (0 : Int).toNat = 0 := rfl
  have E1 : ((n : Nat) : Int).toNat = n := by omega
  clear hp hh
  go_enter Try.func41, Try.ntmps41
  go_wp2_with (first
    | (go_at_call 63; refine (waitLen (b + 1) s v _ hK.2.2.2).mono ?_; rintro e w2 ⟨rfl, rfl⟩; rw [hs]; clear hm1)
    | (go_at_call 65; refine (waitSwapK _ _ hK (by omega) (by omega) (by omega) (by omega) (by omega) (by omega)).mono ?_; clear hm2; rintro e w1 ⟨rfl, hK1⟩; simp only [E0, E1] at hK1)
    | (go_at_call 46; refine (downAny n hK1.at (by rw [M.swp_len]; omega) HD.out (by rw [M.swp_len]; omega)).mono ?_; rintro e w3 ⟨⟨z, rfl⟩, t, hp3, hl3, hm3, hs3, hh3⟩; rw [M.swp_len] at hl3; have hm4 := methPop b w3; have H3 := Lib.hid (fun y => popOf (n0 := n0) (W := W) (b := b) (w := y) hs h0 hl3 hm3 hs3 hh3); have H4 := Lib.hid hp3; clear hm3 hs3 hh3 hp3)
    | (go_at_call 66; have hq := H4.out; rw [show t = t.take n ++ [M.gat t n] from by have h1 : t.take (n + 1) = t := List.take_of_length_le (by omega); rw [List.take_succ_eq_append_getElem (by omega)] at h1; rw [M.gat_lt (by omega)]; exact h1.symm] at hq; refine (waitPop _ hq (by rw [List.length_take]; omega)).mono ?_; clear hq hm4; rintro e w4 ⟨⟨z, rfl⟩, h4⟩))
  go_ret
  exact ⟨⟨_, rfl⟩, H3.out _ h4⟩
end Go.Proofs.Ytnelgadfgeakjaa
