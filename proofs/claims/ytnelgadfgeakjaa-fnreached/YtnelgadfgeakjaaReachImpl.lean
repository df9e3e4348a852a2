/- Proved: the program's Reached, whose numbers wait in a heap, answers the number that more than half have reached, -1 of other lists, and writes nothing that was there; the list holds at most as many numbers as there are. -/
import Derived.Test.YtnelgadfgeakjaaHeapPush
import Derived.Test.YtnelgadfgeakjaaMajImpl
import Derived.Test.YtnelgadfgeakjaaIntRows
namespace Go.Proofs.Ytnelgadfgeakjaa
open Go.RowKit

theorem heap_new (w : World) : HpAt w.heap.size w w.heap.size [] (w.alloc (.cells #[.slice none 0 0] 46)) :=
  ⟨Nat.le_refl _, (Below.refl _ _).alloc (Nat.le_refl _) _, _, Boxed.new w _ _, World.ownsRow_nil _ _ _ _⟩

set_option maxHeartbeats 4000000 in
theorem implReached (A : Option Addr) (l : List Int) (c : Nat) (w : World) (hl : Ints w A l) (hlen : l.length ≤ 1048576) :
    Calls Try.prog 26 #[.slice A l.length c] w fun e w' => ∃ r, e = .returned (.int .i64 r) ∧ ReachedIs l r ∧ Below w.heap.size w w' := by
  rcases hk : M.cok l.length with _ | _
  · have HR : Hid (ReachedIs l (-1)) := Lib.hid (by unfold ReachedIs; rw [hk]; rfl)
    have hm : M.most (l.length : Int) = 0 := by unfold M.most; rw [hk]; rfl
    clear hl
    go_enter Try.func26, Try.ntmps26
    go_wp2_with (go_at_call 16; refine (implMostOf _ _).mono ?_; rintro e w' ⟨rfl, rfl⟩; simp only [hm])
    go_ret
    exact ⟨-1, rfl, HR.out, Below.refl _ _⟩
  · have hn : l.length = 3 ∨ l.length = 5 := by
      have : (l.length : Int) = 3 ∨ (l.length : Int) = 5 := by simpa [M.cok] using hk
      omega
    obtain ⟨m, hm, hm1, hm2⟩ : ∃ m : Nat, M.most (l.length : Int) = (m : Int) + 1 ∧ 1 ≤ m ∧ m + 1 < l.length := by
      rcases hn with h | h
      · exact ⟨1, by rw [h]; rfl, by omega, by omega⟩
      · exact ⟨2, by rw [h]; rfl, by omega, by omega⟩
    have HM := Lib.hid hm
    have HL := Lib.hid hl
    have HK := Lib.hid hk
    have h5 : l.length ≤ 5 := by omega
    clear hl hk hn hm
    have hz : ((m : Int) + 1 == 0) = false := by simp; omega
    go_enter Try.func26, Try.ntmps26
    go_upto_region 6 with (go_at_call 16; refine (implMostOf _ _).mono ?_; rintro e w' ⟨rfl, rfl⟩; simp only [HM.out])
    go_loopw [6, 14] (fun x i wr => ∃ (j : Nat) (h : List Int), i = .int .i64 j ∧ j ≤ l.length ∧ h.length = j ∧ (∀ p : Int → Bool, h.countP p = (l.take j).countP p) ∧ M.Hp h h.length ∧ HpAt w.heap.size w w.heap.size h wr) (fun _ i _ => l.length - (intOf i).toNat)
    case atStart => exact ⟨0, [], rfl, Nat.zero_le _, rfl, fun _ => by simp, fun j h0 hj => by simp at hj, heap_new w⟩
    case round =>
      obtain ⟨j, h, rfl, hj, hh, hc, hp, hat⟩ := hrel
      have HC := Lib.hid hc
      have HP := Lib.hid hp
      have HT := Lib.hid hat
      clear hc hp hat
      by_cases hlt : j < l.length
      · obtain ⟨b, o, rfl, hb, c1⟩ := ints_at (HL.out.below (HT.out.2.1)) hlt
        have HH := Lib.hid hh
        clear hh
        go_wp2_with (go_at_call 40; refine (pushAny l[j] HT.out HP.out (by have := HH.out; omega)).mono ?_; rintro e w2 ⟨rfl, h2, q1, q2, q3, q4⟩)
        go_roundw
        case rel =>
          have hh := HH.out
          have hl2 : h2.length = j + 1 := by rw [q2]; simp [hh]
          refine ⟨j + 1, h2, by go_num, by omega, hl2, fun p => ?_, ?_, q1⟩
          · rw [q3, List.take_succ_eq_append_getElem hlt, List.countP_append, List.countP_append, HC.out]
          · rw [hl2]; rw [hh] at q4; exact q4
        case measure => simp [intOf]; omega
      · have hj' : j = l.length := by omega
        have HLE := Lib.hid (show M.Left l h [] from M.Left.start HP.out (fun p => by rw [HC.out, hj', List.take_length]))
        have hh2 : h.length = l.length := by omega
        have HH := Lib.hid hh2
        clear HC HP hh hj' hh2
        go_upto_region 11 with (fail)
        go_loopw [25] (fun i wr => ∃ (d : Nat) (h q : List Int), i = .int .i64 d ∧ d ≤ m ∧ h.length + d = l.length ∧ q.length = d ∧ M.Left l h q ∧ HpAt w.heap.size w w.heap.size h wr) (fun i _ => m - (intOf i).toNat)
        case atStart => exact ⟨0, h, [], rfl, Nat.zero_le _, HH.out, rfl, HLE.out, HT.out⟩
        case round =>
          clear HLE HT HH
          obtain ⟨d, h, q, rfl, hd, hh, hq, hle, hat⟩ := hrel
          have HH := Lib.hid hh
          have HQ := Lib.hid hq
          have HLE := Lib.hid hle
          have HT := Lib.hid hat
          clear hh hq hle hat
          by_cases hlt : d < m
          · go_wp2_with (go_at_call 41; refine (popAny (n := h.length - 1) HT.out HLE.out.1 (by have := HH.out; omega) (by have := HH.out; omega) (by have := HH.out; omega)).mono ?_; rintro e w2 ⟨⟨z, rfl⟩, h2, q1, q2, q3, q4⟩)
            go_roundw
            case rel =>
              have hh := HH.out
              have hq := HQ.out
              exact ⟨d + 1, h2, M.gat h 0 :: q, by go_num, by omega, by omega, by rw [List.length_cons, hq], HLE.out.take q4 q3 (by omega), q1⟩
            case measure => simp [intOf]; omega
          · have hh := HH.out
            have hq := HQ.out
            have HR : Hid (ReachedIs l (M.gat h 0)) := Lib.hid (by
              unfold ReachedIs
              rw [HK.out, HM.out]
              have := HLE.out.reach (by omega)
              rw [hq, show d = m by omega] at this
              exact this)
            obtain ⟨v, hK⟩ := HT.out.open
            obtain ⟨g, c1, rfl, hg1, hg2⟩ := hK.2.2.2.formP (by omega)
            have hc := hK.2.2.1.cell
            have hx := hK.2.2.2.cell (j := 0) (by omega)
            have h0 : 0 < h.length := by omega
            have HB := Lib.hid hK.2.1
            clear hK hh hq
            go_wp2
            go_ret
            exact ⟨_, rfl, HR.out, HB.out⟩
end Go.Proofs.Ytnelgadfgeakjaa
