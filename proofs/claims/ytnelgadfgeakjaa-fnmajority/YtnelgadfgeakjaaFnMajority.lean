/- Proved: the law FnMajority returns true at every list of bytes, and the list reads afterwards as before; no condition. -/
import Derived.Test.YtnelgadfgeakjaaDrawMaj
import Derived.Test.YtnelgadfgeakjaaMajImpl
import Derived.Test.YtnelgadfgeakjaaMajLaw
import Derived.Test.YtnelgadfgeakjaaMajPick
import Derived.Test.YtnelgadfgeakjaaShell
import Derived.Lib.SmallJoins
namespace Go.Proofs.Ytnelgadfgeakjaa.fnMajority
open Go.ChangeShapes Go.WideShapes Go.ChangeAt Go.RowKit Go.Joins Go.Deep
open Go.ChangeMaps (open_string shut_string)
set_option linter.unusedVariables false

set_option maxRecDepth 100000 in
set_option maxHeartbeats 16000000 in
theorem walk (a0 : Option Addr) (len0 cap0 : Nat) (w : World) (hc : CodeOk w.heap.size w a0 len0) :
    Calls Try.prog 3 #[.slice a0 len0 cap0] w fun e w' => e = .returned (.bool true) ∧ Below w.heap.size w w' := by
  have HC := Lib.hid hc
  clear hc
  by_cases hbig : 4096 < len0
  · go_enter Try.func3, Try.ntmps3
    go_wp2_with fail
    refine (big_any a0 len0 cap0 _).mono ?_
    rintro r w' ⟨rfl, rfl⟩
    go_wp2
    go_ret
    exact ⟨rfl, Below.refl _ _⟩
  · have hl4 : len0 ≤ 4096 := by omega
    go_enter Try.func3, Try.ntmps3
    go_wp2_with fail
    refine (big_any a0 len0 cap0 _).mono ?_
    rintro r w' ⟨rfl, rfl⟩
    go_wp2_with fail
    refine (DrawWith_any _ a0 len0 cap0 hl4 HC.out).mono ?_
    rintro e0 x1 ⟨s, i, s0, s1, i0, i1, rfl, b1⟩
    clear hbig
    go_wp2_with fail
    refine (implWith _ _ _).mono ?_
    rintro e w' ⟨rfl, rfl⟩
    go_wp2_with fail
    refine (implSizeOf _ _).mono ?_
    rintro e w' ⟨rfl, rfl⟩
    go_wp2_with fail
    refine (DrawMostOf_any _ a0 len0 cap0 hl4 (HC.out.later b1)).mono ?_
    rintro e0 x2 ⟨n, n0, n1, rfl, b2⟩
    have HB := Lib.hid (next b1 b2)
    have HC2 := Lib.hid (HC.out.kept (HB.out.block))
    clear b1 b2
    obtain ⟨W, hW⟩ : ∃ W, M.withS s i = W := ⟨_, rfl⟩
    obtain ⟨Z, hZ⟩ : ∃ Z, M.sizeOf s = Z := ⟨_, rfl⟩
    obtain ⟨I, hI⟩ : ∃ I, M.inSet s i = I := ⟨_, rfl⟩
    obtain ⟨N, hN⟩ : ∃ N, M.most n = N := ⟨_, rfl⟩
    obtain ⟨C, hC⟩ : ∃ C, M.cok n = C := ⟨_, rfl⟩
    have hWW : (W != W) = false := by simp
    have hZZ : (Z != Z) = false := by simp
    have hNN : (N != N) = false := by simp
    have hII : (I != I) = false := by simp
    have hCC : (C != C) = false := by simp
    rw [hW, hZ]
    go_upto_region 10 with (first | (go_at_call 17; refine (specWith _ _ _).mono ?_; rintro e w' ⟨rfl, rfl⟩; rw [hW]) | (go_at_call 18; refine (specSizeOf _ _).mono ?_; rintro e w' ⟨rfl, rfl⟩; rw [hZ]) | (go_at_call 19; refine (specMostOf _ _).mono ?_; rintro e w' ⟨rfl, rfl⟩; rw [hN]) | (go_at_call 20; refine (implInSet _ _ _).mono ?_; rintro e w' ⟨rfl, rfl⟩; rw [hI]) | (go_at_call 21; refine (specInSet _ _ _).mono ?_; rintro e w' ⟨rfl, rfl⟩; rw [hI]) | (go_at_call 22; refine (implCountOk _ _).mono ?_; rintro e w' ⟨rfl, rfl⟩; rw [hC]) | (go_at_call 23; refine (specCountOk _ _).mono ?_; rintro e w' ⟨rfl, rfl⟩; rw [hC]) | (go_at_call 16; refine (implMostOf _ _).mono ?_; rintro e w' ⟨rfl, rfl⟩; rw [hN]))
    rcases hg : (M.isSet s && M.isOne i) with _ | _
    · obtain rfl : W = -1 := hW.symm.trans (M.with_none hg)
      clear hW hg hWW hII hI
      go_upto_region 12 with (fail)
      rcases C with _ | _
      · have hN0 : N = 0 := by rw [← hN]; unfold M.most; rw [hC]; rfl
        subst hN0
        go_wp2_with (go_at_call 22; refine (implCountOk _ _).mono ?_; rintro e w' ⟨rfl, rfl⟩; rw [hC])
        go_ret
        exact ⟨rfl, HB.out⟩
      · have hn35 : n = 3 ∨ n = 5 := by simpa [M.cok] using hC
        rcases hn35 with rfl | rfl
        · obtain rfl : N = 2 := hN.symm.trans (by decide)
          clear hC hN
          go_upto_region 16 with (fail)
          go_loopw [10, 11, 12, 13] (fun a b z k wr => ∃ a' : Nat, a = .int .i64 a' ∧ a' ≤ 8 ∧ x2 = wr) (fun a _ _ _ _ => 8 - (intOf a).toNat)
          case atStart => exact ⟨0, rfl, by omega, rfl⟩
          case round =>
            obtain ⟨a, rfl, ha, rfl⟩ := hrel
            by_cases hlt : a < 8
            · go_upto_region 19 with (go_at_call 24; refine (pick_any _ a0 len0 cap0 _ _ _ HC2.out hl4 (by omega) (by omega) (by omega) (by omega)).mono ?_; rintro e w' ⟨b, hb0, hb1, rfl, rfl⟩)
              obtain ⟨za, hza⟩ : ∃ z, M.sizeOf (a : Int) = z := ⟨_, rfl⟩
              obtain ⟨zb, hzb⟩ : ∃ z, M.sizeOf b = z := ⟨_, rfl⟩
              by_cases h1 : za < 2
              · go_wp2_with (go_at_call 14; refine (implSizeOf _ _).mono ?_; rintro e w' ⟨rfl, rfl⟩; rw [hza])
                go_roundw
                case rel => exact ⟨a + 1, by go_num, by omega, by trivial⟩
                case measure => simp [intOf]; omega
              · by_cases h2 : zb < 2
                · go_wp2_with (go_at_call 14; refine (implSizeOf _ _).mono ?_; rintro e w' ⟨rfl, rfl⟩; first | rw [hza] | rw [hzb])
                  go_roundw
                  case rel => exact ⟨a + 1, by go_num, by omega, by trivial⟩
                  case measure => simp [intOf]; omega
                · have hbo : M.both a b 3 = true := M.both_most (n := 3) (by omega) (by omega) (by omega) hb0 (by omega) (by rw [hza]; show 2 ≤ za; omega) (by rw [hzb]; show 2 ≤ zb; omega)
                  go_upto_region 20 with (go_at_call 14; refine (implSizeOf _ _).mono ?_; rintro e w' ⟨rfl, rfl⟩; first | rw [hza] | rw [hzb])
                  go_upto_region 22 with (fail)
                  go_loopw [12, 13] (fun z k wr => ∃ j : Nat, k = .int .i64 j ∧ j ≤ 3 ∧ z = .bool (M.both a b j) ∧ x2 = wr) (fun _ k _ => 3 - (intOf k).toNat)
                  case atStart => exact ⟨0, rfl, Nat.zero_le _, rfl, rfl⟩
                  case round =>
                    obtain ⟨j, rfl, hj, rfl, rfl⟩ := hrel
                    by_cases hlt : j < 3
                    · have hs : M.both a b (j + 1) = (M.both a b j || (M.inSet a j && M.inSet b j)) := rfl
                      have HS := Lib.hid hs
                      clear hs
                      rcases hx : M.both a b j with _ | _
                      · rcases hy : M.inSet a j with _ | _
                        · go_wp2_with (go_at_call 20; refine (implInSet _ _ _).mono ?_; rintro e w' ⟨rfl, rfl⟩; rw [hy])
                          go_roundw
                          case rel => exact ⟨j + 1, by go_num, by omega, by rw [HS.out, hx, hy]; rfl, by trivial⟩
                          case measure => simp [intOf]; omega
                        · rcases hz : M.inSet b j with _ | _
                          · go_wp2_with (go_at_call 20; refine (implInSet _ _ _).mono ?_; rintro e w' ⟨rfl, rfl⟩; first | rw [hy] | rw [hz])
                            go_roundw
                            case rel => exact ⟨j + 1, by go_num, by omega, by rw [HS.out, hx, hy, hz]; rfl, by trivial⟩
                            case measure => simp [intOf]; omega
                          · go_wp2_with (go_at_call 20; refine (implInSet _ _ _).mono ?_; rintro e w' ⟨rfl, rfl⟩; first | rw [hy] | rw [hz])
                            go_roundw
                            case rel => exact ⟨j + 1, by go_num, by omega, by rw [HS.out, hx, hy, hz]; rfl, by trivial⟩
                            case measure => simp [intOf]; omega
                      · go_wp2
                        go_roundw
                        case rel => exact ⟨j + 1, by go_num, by omega, by rw [HS.out, hx]; rfl, by trivial⟩
                        case measure => simp [intOf]; omega
                    · have hj' : j = 3 := by omega
                      subst hj'
                      rw [hbo]
                      go_wp2
                      go_roundw
                      case rel => exact ⟨a + 1, by go_num, by omega, by trivial⟩
                      case measure => simp [intOf]; omega
            · go_wp2
              go_ret
              exact ⟨rfl, HB.out⟩
        · obtain rfl : N = 3 := hN.symm.trans (by decide)
          clear hC hN
          go_upto_region 16 with (fail)
          go_loopw [10, 11, 12, 13] (fun a b z k wr => ∃ a' : Nat, a = .int .i64 a' ∧ a' ≤ 32 ∧ x2 = wr) (fun a _ _ _ _ => 32 - (intOf a).toNat)
          case atStart => exact ⟨0, rfl, by omega, rfl⟩
          case round =>
            obtain ⟨a, rfl, ha, rfl⟩ := hrel
            by_cases hlt : a < 32
            · go_upto_region 19 with (go_at_call 24; refine (pick_any _ a0 len0 cap0 _ _ _ HC2.out hl4 (by omega) (by omega) (by omega) (by omega)).mono ?_; rintro e w' ⟨b, hb0, hb1, rfl, rfl⟩)
              obtain ⟨za, hza⟩ : ∃ z, M.sizeOf (a : Int) = z := ⟨_, rfl⟩
              obtain ⟨zb, hzb⟩ : ∃ z, M.sizeOf b = z := ⟨_, rfl⟩
              by_cases h1 : za < 3
              · go_wp2_with (go_at_call 14; refine (implSizeOf _ _).mono ?_; rintro e w' ⟨rfl, rfl⟩; rw [hza])
                go_roundw
                case rel => exact ⟨a + 1, by go_num, by omega, by trivial⟩
                case measure => simp [intOf]; omega
              · by_cases h2 : zb < 3
                · go_wp2_with (go_at_call 14; refine (implSizeOf _ _).mono ?_; rintro e w' ⟨rfl, rfl⟩; first | rw [hza] | rw [hzb])
                  go_roundw
                  case rel => exact ⟨a + 1, by go_num, by omega, by trivial⟩
                  case measure => simp [intOf]; omega
                · have hbo : M.both a b 5 = true := M.both_most (n := 5) (by omega) (by omega) (by omega) hb0 (by omega) (by rw [hza]; show 3 ≤ za; omega) (by rw [hzb]; show 3 ≤ zb; omega)
                  go_upto_region 20 with (go_at_call 14; refine (implSizeOf _ _).mono ?_; rintro e w' ⟨rfl, rfl⟩; first | rw [hza] | rw [hzb])
                  go_upto_region 22 with (fail)
                  go_loopw [12, 13] (fun z k wr => ∃ j : Nat, k = .int .i64 j ∧ j ≤ 5 ∧ z = .bool (M.both a b j) ∧ x2 = wr) (fun _ k _ => 5 - (intOf k).toNat)
                  case atStart => exact ⟨0, rfl, Nat.zero_le _, rfl, rfl⟩
                  case round =>
                    obtain ⟨j, rfl, hj, rfl, rfl⟩ := hrel
                    by_cases hlt : j < 5
                    · have hs : M.both a b (j + 1) = (M.both a b j || (M.inSet a j && M.inSet b j)) := rfl
                      have HS := Lib.hid hs
                      clear hs
                      rcases hx : M.both a b j with _ | _
                      · rcases hy : M.inSet a j with _ | _
                        · go_wp2_with (go_at_call 20; refine (implInSet _ _ _).mono ?_; rintro e w' ⟨rfl, rfl⟩; rw [hy])
                          go_roundw
                          case rel => exact ⟨j + 1, by go_num, by omega, by rw [HS.out, hx, hy]; rfl, by trivial⟩
                          case measure => simp [intOf]; omega
                        · rcases hz : M.inSet b j with _ | _
                          · go_wp2_with (go_at_call 20; refine (implInSet _ _ _).mono ?_; rintro e w' ⟨rfl, rfl⟩; first | rw [hy] | rw [hz])
                            go_roundw
                            case rel => exact ⟨j + 1, by go_num, by omega, by rw [HS.out, hx, hy, hz]; rfl, by trivial⟩
                            case measure => simp [intOf]; omega
                          · go_wp2_with (go_at_call 20; refine (implInSet _ _ _).mono ?_; rintro e w' ⟨rfl, rfl⟩; first | rw [hy] | rw [hz])
                            go_roundw
                            case rel => exact ⟨j + 1, by go_num, by omega, by rw [HS.out, hx, hy, hz]; rfl, by trivial⟩
                            case measure => simp [intOf]; omega
                      · go_wp2
                        go_roundw
                        case rel => exact ⟨j + 1, by go_num, by omega, by rw [HS.out, hx]; rfl, by trivial⟩
                        case measure => simp [intOf]; omega
                    · have hj' : j = 5 := by omega
                      subst hj'
                      rw [hbo]
                      go_wp2
                      go_roundw
                      case rel => exact ⟨a + 1, by go_num, by omega, by trivial⟩
                      case measure => simp [intOf]; omega
            · go_wp2
              go_ret
              exact ⟨rfl, HB.out⟩
    · obtain ⟨hg1, hg2⟩ : M.isSet s = true ∧ M.isOne i = true := by simpa using hg
      obtain ⟨W0, hWI, hW1, hW2, Z0, Z5⟩ := M.with_all hg1 hg2
      rw [hW] at W0 hWI hW1 hW2
      rw [hZ] at hW2 Z0 Z5
      clear hg hg1 hg2
      rcases I with _ | _
      · have hWZ := hW2 hI
        have hd : (Z + 1 - Z != 1) = false := by rw [show Z + 1 - Z = 1 by omega]; rfl
        clear hW1 hW2 hII hW
        go_upto_region 12 with (first | (go_at_call 20; refine (implInSet _ _ _).mono ?_; rintro e w' ⟨rfl, rfl⟩; first | rw [hWI] | rw [hI]) | (go_at_call 14; refine (implSizeOf _ _).mono ?_; rintro e w' ⟨rfl, rfl⟩; first | rw [hWZ] | rw [hZ]))
        rcases C with _ | _
        · have hN0 : N = 0 := by rw [← hN]; unfold M.most; rw [hC]; rfl
          subst hN0
          go_wp2_with (go_at_call 22; refine (implCountOk _ _).mono ?_; rintro e w' ⟨rfl, rfl⟩; rw [hC])
          go_ret
          exact ⟨rfl, HB.out⟩
        · have hn35 : n = 3 ∨ n = 5 := by simpa [M.cok] using hC
          rcases hn35 with rfl | rfl
          · obtain rfl : N = 2 := hN.symm.trans (by decide)
            clear hC hN
            go_upto_region 16 with (fail)
            go_loopw [10, 11, 12, 13] (fun a b z k wr => ∃ a' : Nat, a = .int .i64 a' ∧ a' ≤ 8 ∧ x2 = wr) (fun a _ _ _ _ => 8 - (intOf a).toNat)
            case atStart => exact ⟨0, rfl, by omega, rfl⟩
            case round =>
              obtain ⟨a, rfl, ha, rfl⟩ := hrel
              by_cases hlt : a < 8
              · go_upto_region 19 with (go_at_call 24; refine (pick_any _ a0 len0 cap0 _ _ _ HC2.out hl4 (by omega) (by omega) (by omega) (by omega)).mono ?_; rintro e w' ⟨b, hb0, hb1, rfl, rfl⟩)
                obtain ⟨za, hza⟩ : ∃ z, M.sizeOf (a : Int) = z := ⟨_, rfl⟩
                obtain ⟨zb, hzb⟩ : ∃ z, M.sizeOf b = z := ⟨_, rfl⟩
                by_cases h1 : za < 2
                · go_wp2_with (go_at_call 14; refine (implSizeOf _ _).mono ?_; rintro e w' ⟨rfl, rfl⟩; rw [hza])
                  go_roundw
                  case rel => exact ⟨a + 1, by go_num, by omega, by trivial⟩
                  case measure => simp [intOf]; omega
                · by_cases h2 : zb < 2
                  · go_wp2_with (go_at_call 14; refine (implSizeOf _ _).mono ?_; rintro e w' ⟨rfl, rfl⟩; first | rw [hza] | rw [hzb])
                    go_roundw
                    case rel => exact ⟨a + 1, by go_num, by omega, by trivial⟩
                    case measure => simp [intOf]; omega
                  · have hbo : M.both a b 3 = true := M.both_most (n := 3) (by omega) (by omega) (by omega) hb0 (by omega) (by rw [hza]; show 2 ≤ za; omega) (by rw [hzb]; show 2 ≤ zb; omega)
                    go_upto_region 20 with (go_at_call 14; refine (implSizeOf _ _).mono ?_; rintro e w' ⟨rfl, rfl⟩; first | rw [hza] | rw [hzb])
                    go_upto_region 22 with (fail)
                    go_loopw [12, 13] (fun z k wr => ∃ j : Nat, k = .int .i64 j ∧ j ≤ 3 ∧ z = .bool (M.both a b j) ∧ x2 = wr) (fun _ k _ => 3 - (intOf k).toNat)
                    case atStart => exact ⟨0, rfl, Nat.zero_le _, rfl, rfl⟩
                    case round =>
                      obtain ⟨j, rfl, hj, rfl, rfl⟩ := hrel
                      by_cases hlt : j < 3
                      · have hs : M.both a b (j + 1) = (M.both a b j || (M.inSet a j && M.inSet b j)) := rfl
                        have HS := Lib.hid hs
                        clear hs
                        rcases hx : M.both a b j with _ | _
                        · rcases hy : M.inSet a j with _ | _
                          · go_wp2_with (go_at_call 20; refine (implInSet _ _ _).mono ?_; rintro e w' ⟨rfl, rfl⟩; rw [hy])
                            go_roundw
                            case rel => exact ⟨j + 1, by go_num, by omega, by rw [HS.out, hx, hy]; rfl, by trivial⟩
                            case measure => simp [intOf]; omega
                          · rcases hz : M.inSet b j with _ | _
                            · go_wp2_with (go_at_call 20; refine (implInSet _ _ _).mono ?_; rintro e w' ⟨rfl, rfl⟩; first | rw [hy] | rw [hz])
                              go_roundw
                              case rel => exact ⟨j + 1, by go_num, by omega, by rw [HS.out, hx, hy, hz]; rfl, by trivial⟩
                              case measure => simp [intOf]; omega
                            · go_wp2_with (go_at_call 20; refine (implInSet _ _ _).mono ?_; rintro e w' ⟨rfl, rfl⟩; first | rw [hy] | rw [hz])
                              go_roundw
                              case rel => exact ⟨j + 1, by go_num, by omega, by rw [HS.out, hx, hy, hz]; rfl, by trivial⟩
                              case measure => simp [intOf]; omega
                        · go_wp2
                          go_roundw
                          case rel => exact ⟨j + 1, by go_num, by omega, by rw [HS.out, hx]; rfl, by trivial⟩
                          case measure => simp [intOf]; omega
                      · have hj' : j = 3 := by omega
                        subst hj'
                        rw [hbo]
                        go_wp2
                        go_roundw
                        case rel => exact ⟨a + 1, by go_num, by omega, by trivial⟩
                        case measure => simp [intOf]; omega
              · go_wp2
                go_ret
                exact ⟨rfl, HB.out⟩
          · obtain rfl : N = 3 := hN.symm.trans (by decide)
            clear hC hN
            go_upto_region 16 with (fail)
            go_loopw [10, 11, 12, 13] (fun a b z k wr => ∃ a' : Nat, a = .int .i64 a' ∧ a' ≤ 32 ∧ x2 = wr) (fun a _ _ _ _ => 32 - (intOf a).toNat)
            case atStart => exact ⟨0, rfl, by omega, rfl⟩
            case round =>
              obtain ⟨a, rfl, ha, rfl⟩ := hrel
              by_cases hlt : a < 32
              · go_upto_region 19 with (go_at_call 24; refine (pick_any _ a0 len0 cap0 _ _ _ HC2.out hl4 (by omega) (by omega) (by omega) (by omega)).mono ?_; rintro e w' ⟨b, hb0, hb1, rfl, rfl⟩)
                obtain ⟨za, hza⟩ : ∃ z, M.sizeOf (a : Int) = z := ⟨_, rfl⟩
                obtain ⟨zb, hzb⟩ : ∃ z, M.sizeOf b = z := ⟨_, rfl⟩
                by_cases h1 : za < 3
                · go_wp2_with (go_at_call 14; refine (implSizeOf _ _).mono ?_; rintro e w' ⟨rfl, rfl⟩; rw [hza])
                  go_roundw
                  case rel => exact ⟨a + 1, by go_num, by omega, by trivial⟩
                  case measure => simp [intOf]; omega
                · by_cases h2 : zb < 3
                  · go_wp2_with (go_at_call 14; refine (implSizeOf _ _).mono ?_; rintro e w' ⟨rfl, rfl⟩; first | rw [hza] | rw [hzb])
                    go_roundw
                    case rel => exact ⟨a + 1, by go_num, by omega, by trivial⟩
                    case measure => simp [intOf]; omega
                  · have hbo : M.both a b 5 = true := M.both_most (n := 5) (by omega) (by omega) (by omega) hb0 (by omega) (by rw [hza]; show 3 ≤ za; omega) (by rw [hzb]; show 3 ≤ zb; omega)
                    go_upto_region 20 with (go_at_call 14; refine (implSizeOf _ _).mono ?_; rintro e w' ⟨rfl, rfl⟩; first | rw [hza] | rw [hzb])
                    go_upto_region 22 with (fail)
                    go_loopw [12, 13] (fun z k wr => ∃ j : Nat, k = .int .i64 j ∧ j ≤ 5 ∧ z = .bool (M.both a b j) ∧ x2 = wr) (fun _ k _ => 5 - (intOf k).toNat)
                    case atStart => exact ⟨0, rfl, Nat.zero_le _, rfl, rfl⟩
                    case round =>
                      obtain ⟨j, rfl, hj, rfl, rfl⟩ := hrel
                      by_cases hlt : j < 5
                      · have hs : M.both a b (j + 1) = (M.both a b j || (M.inSet a j && M.inSet b j)) := rfl
                        have HS := Lib.hid hs
                        clear hs
                        rcases hx : M.both a b j with _ | _
                        · rcases hy : M.inSet a j with _ | _
                          · go_wp2_with (go_at_call 20; refine (implInSet _ _ _).mono ?_; rintro e w' ⟨rfl, rfl⟩; rw [hy])
                            go_roundw
                            case rel => exact ⟨j + 1, by go_num, by omega, by rw [HS.out, hx, hy]; rfl, by trivial⟩
                            case measure => simp [intOf]; omega
                          · rcases hz : M.inSet b j with _ | _
                            · go_wp2_with (go_at_call 20; refine (implInSet _ _ _).mono ?_; rintro e w' ⟨rfl, rfl⟩; first | rw [hy] | rw [hz])
                              go_roundw
                              case rel => exact ⟨j + 1, by go_num, by omega, by rw [HS.out, hx, hy, hz]; rfl, by trivial⟩
                              case measure => simp [intOf]; omega
                            · go_wp2_with (go_at_call 20; refine (implInSet _ _ _).mono ?_; rintro e w' ⟨rfl, rfl⟩; first | rw [hy] | rw [hz])
                              go_roundw
                              case rel => exact ⟨j + 1, by go_num, by omega, by rw [HS.out, hx, hy, hz]; rfl, by trivial⟩
                              case measure => simp [intOf]; omega
                        · go_wp2
                          go_roundw
                          case rel => exact ⟨j + 1, by go_num, by omega, by rw [HS.out, hx]; rfl, by trivial⟩
                          case measure => simp [intOf]; omega
                      · have hj' : j = 5 := by omega
                        subst hj'
                        rw [hbo]
                        go_wp2
                        go_roundw
                        case rel => exact ⟨a + 1, by go_num, by omega, by trivial⟩
                        case measure => simp [intOf]; omega
              · go_wp2
                go_ret
                exact ⟨rfl, HB.out⟩
      · obtain rfl : W = s := hW1 hI
        have hd : (Z - Z != 1) = true := by rw [show Z - Z = 0 by omega]; rfl
        have hWZ := hZ
        clear hW1 hW2 hII hW hZ
        go_upto_region 12 with (first | (go_at_call 20; refine (implInSet _ _ _).mono ?_; rintro e w' ⟨rfl, rfl⟩; rw [hI]) | (go_at_call 14; refine (implSizeOf _ _).mono ?_; rintro e w' ⟨rfl, rfl⟩; rw [hWZ]))
        rcases C with _ | _
        · have hN0 : N = 0 := by rw [← hN]; unfold M.most; rw [hC]; rfl
          subst hN0
          go_wp2_with (go_at_call 22; refine (implCountOk _ _).mono ?_; rintro e w' ⟨rfl, rfl⟩; rw [hC])
          go_ret
          exact ⟨rfl, HB.out⟩
        · have hn35 : n = 3 ∨ n = 5 := by simpa [M.cok] using hC
          rcases hn35 with rfl | rfl
          · obtain rfl : N = 2 := hN.symm.trans (by decide)
            clear hC hN
            go_upto_region 16 with (fail)
            go_loopw [10, 11, 12, 13] (fun a b z k wr => ∃ a' : Nat, a = .int .i64 a' ∧ a' ≤ 8 ∧ x2 = wr) (fun a _ _ _ _ => 8 - (intOf a).toNat)
            case atStart => exact ⟨0, rfl, by omega, rfl⟩
            case round =>
              obtain ⟨a, rfl, ha, rfl⟩ := hrel
              by_cases hlt : a < 8
              · go_upto_region 19 with (go_at_call 24; refine (pick_any _ a0 len0 cap0 _ _ _ HC2.out hl4 (by omega) (by omega) (by omega) (by omega)).mono ?_; rintro e w' ⟨b, hb0, hb1, rfl, rfl⟩)
                obtain ⟨za, hza⟩ : ∃ z, M.sizeOf (a : Int) = z := ⟨_, rfl⟩
                obtain ⟨zb, hzb⟩ : ∃ z, M.sizeOf b = z := ⟨_, rfl⟩
                by_cases h1 : za < 2
                · go_wp2_with (go_at_call 14; refine (implSizeOf _ _).mono ?_; rintro e w' ⟨rfl, rfl⟩; rw [hza])
                  go_roundw
                  case rel => exact ⟨a + 1, by go_num, by omega, by trivial⟩
                  case measure => simp [intOf]; omega
                · by_cases h2 : zb < 2
                  · go_wp2_with (go_at_call 14; refine (implSizeOf _ _).mono ?_; rintro e w' ⟨rfl, rfl⟩; first | rw [hza] | rw [hzb])
                    go_roundw
                    case rel => exact ⟨a + 1, by go_num, by omega, by trivial⟩
                    case measure => simp [intOf]; omega
                  · have hbo : M.both a b 3 = true := M.both_most (n := 3) (by omega) (by omega) (by omega) hb0 (by omega) (by rw [hza]; show 2 ≤ za; omega) (by rw [hzb]; show 2 ≤ zb; omega)
                    go_upto_region 20 with (go_at_call 14; refine (implSizeOf _ _).mono ?_; rintro e w' ⟨rfl, rfl⟩; first | rw [hza] | rw [hzb])
                    go_upto_region 22 with (fail)
                    go_loopw [12, 13] (fun z k wr => ∃ j : Nat, k = .int .i64 j ∧ j ≤ 3 ∧ z = .bool (M.both a b j) ∧ x2 = wr) (fun _ k _ => 3 - (intOf k).toNat)
                    case atStart => exact ⟨0, rfl, Nat.zero_le _, rfl, rfl⟩
                    case round =>
                      obtain ⟨j, rfl, hj, rfl, rfl⟩ := hrel
                      by_cases hlt : j < 3
                      · have hs : M.both a b (j + 1) = (M.both a b j || (M.inSet a j && M.inSet b j)) := rfl
                        have HS := Lib.hid hs
                        clear hs
                        rcases hx : M.both a b j with _ | _
                        · rcases hy : M.inSet a j with _ | _
                          · go_wp2_with (go_at_call 20; refine (implInSet _ _ _).mono ?_; rintro e w' ⟨rfl, rfl⟩; rw [hy])
                            go_roundw
                            case rel => exact ⟨j + 1, by go_num, by omega, by rw [HS.out, hx, hy]; rfl, by trivial⟩
                            case measure => simp [intOf]; omega
                          · rcases hz : M.inSet b j with _ | _
                            · go_wp2_with (go_at_call 20; refine (implInSet _ _ _).mono ?_; rintro e w' ⟨rfl, rfl⟩; first | rw [hy] | rw [hz])
                              go_roundw
                              case rel => exact ⟨j + 1, by go_num, by omega, by rw [HS.out, hx, hy, hz]; rfl, by trivial⟩
                              case measure => simp [intOf]; omega
                            · go_wp2_with (go_at_call 20; refine (implInSet _ _ _).mono ?_; rintro e w' ⟨rfl, rfl⟩; first | rw [hy] | rw [hz])
                              go_roundw
                              case rel => exact ⟨j + 1, by go_num, by omega, by rw [HS.out, hx, hy, hz]; rfl, by trivial⟩
                              case measure => simp [intOf]; omega
                        · go_wp2
                          go_roundw
                          case rel => exact ⟨j + 1, by go_num, by omega, by rw [HS.out, hx]; rfl, by trivial⟩
                          case measure => simp [intOf]; omega
                      · have hj' : j = 3 := by omega
                        subst hj'
                        rw [hbo]
                        go_wp2
                        go_roundw
                        case rel => exact ⟨a + 1, by go_num, by omega, by trivial⟩
                        case measure => simp [intOf]; omega
              · go_wp2
                go_ret
                exact ⟨rfl, HB.out⟩
          · obtain rfl : N = 3 := hN.symm.trans (by decide)
            clear hC hN
            go_upto_region 16 with (fail)
            go_loopw [10, 11, 12, 13] (fun a b z k wr => ∃ a' : Nat, a = .int .i64 a' ∧ a' ≤ 32 ∧ x2 = wr) (fun a _ _ _ _ => 32 - (intOf a).toNat)
            case atStart => exact ⟨0, rfl, by omega, rfl⟩
            case round =>
              obtain ⟨a, rfl, ha, rfl⟩ := hrel
              by_cases hlt : a < 32
              · go_upto_region 19 with (go_at_call 24; refine (pick_any _ a0 len0 cap0 _ _ _ HC2.out hl4 (by omega) (by omega) (by omega) (by omega)).mono ?_; rintro e w' ⟨b, hb0, hb1, rfl, rfl⟩)
                obtain ⟨za, hza⟩ : ∃ z, M.sizeOf (a : Int) = z := ⟨_, rfl⟩
                obtain ⟨zb, hzb⟩ : ∃ z, M.sizeOf b = z := ⟨_, rfl⟩
                by_cases h1 : za < 3
                · go_wp2_with (go_at_call 14; refine (implSizeOf _ _).mono ?_; rintro e w' ⟨rfl, rfl⟩; rw [hza])
                  go_roundw
                  case rel => exact ⟨a + 1, by go_num, by omega, by trivial⟩
                  case measure => simp [intOf]; omega
                · by_cases h2 : zb < 3
                  · go_wp2_with (go_at_call 14; refine (implSizeOf _ _).mono ?_; rintro e w' ⟨rfl, rfl⟩; first | rw [hza] | rw [hzb])
                    go_roundw
                    case rel => exact ⟨a + 1, by go_num, by omega, by trivial⟩
                    case measure => simp [intOf]; omega
                  · have hbo : M.both a b 5 = true := M.both_most (n := 5) (by omega) (by omega) (by omega) hb0 (by omega) (by rw [hza]; show 3 ≤ za; omega) (by rw [hzb]; show 3 ≤ zb; omega)
                    go_upto_region 20 with (go_at_call 14; refine (implSizeOf _ _).mono ?_; rintro e w' ⟨rfl, rfl⟩; first | rw [hza] | rw [hzb])
                    go_upto_region 22 with (fail)
                    go_loopw [12, 13] (fun z k wr => ∃ j : Nat, k = .int .i64 j ∧ j ≤ 5 ∧ z = .bool (M.both a b j) ∧ x2 = wr) (fun _ k _ => 5 - (intOf k).toNat)
                    case atStart => exact ⟨0, rfl, Nat.zero_le _, rfl, rfl⟩
                    case round =>
                      obtain ⟨j, rfl, hj, rfl, rfl⟩ := hrel
                      by_cases hlt : j < 5
                      · have hs : M.both a b (j + 1) = (M.both a b j || (M.inSet a j && M.inSet b j)) := rfl
                        have HS := Lib.hid hs
                        clear hs
                        rcases hx : M.both a b j with _ | _
                        · rcases hy : M.inSet a j with _ | _
                          · go_wp2_with (go_at_call 20; refine (implInSet _ _ _).mono ?_; rintro e w' ⟨rfl, rfl⟩; rw [hy])
                            go_roundw
                            case rel => exact ⟨j + 1, by go_num, by omega, by rw [HS.out, hx, hy]; rfl, by trivial⟩
                            case measure => simp [intOf]; omega
                          · rcases hz : M.inSet b j with _ | _
                            · go_wp2_with (go_at_call 20; refine (implInSet _ _ _).mono ?_; rintro e w' ⟨rfl, rfl⟩; first | rw [hy] | rw [hz])
                              go_roundw
                              case rel => exact ⟨j + 1, by go_num, by omega, by rw [HS.out, hx, hy, hz]; rfl, by trivial⟩
                              case measure => simp [intOf]; omega
                            · go_wp2_with (go_at_call 20; refine (implInSet _ _ _).mono ?_; rintro e w' ⟨rfl, rfl⟩; first | rw [hy] | rw [hz])
                              go_roundw
                              case rel => exact ⟨j + 1, by go_num, by omega, by rw [HS.out, hx, hy, hz]; rfl, by trivial⟩
                              case measure => simp [intOf]; omega
                        · go_wp2
                          go_roundw
                          case rel => exact ⟨j + 1, by go_num, by omega, by rw [HS.out, hx]; rfl, by trivial⟩
                          case measure => simp [intOf]; omega
                      · have hj' : j = 5 := by omega
                        subst hj'
                        rw [hbo]
                        go_wp2
                        go_roundw
                        case rel => exact ⟨a + 1, by go_num, by omega, by trivial⟩
                        case measure => simp [intOf]; omega
              · go_wp2
                go_ret
                exact ⟨rfl, HB.out⟩

set_option maxRecDepth 100000 in
theorem lifted (os : Os) (started : os.Started) (H : Type) (enc : TypeId × Value → H) :
    ReturnsInHanded {} Try.checked os 3 .any (Rows.fnMajoritySpec.pre6 enc Try.prog Try.f3 Rows.fnMajorityRow.domain false) (Rows.fnMajoritySpec.post enc Try.prog Try.f3 false true false false) := by
  refine returnsInHanded_of_change (C := Try.checked) own started (by kernel_rfl) Try.func3
    (ChangeSpec.witness6 (enc := enc) (C := Try.checked) false ⟨#[], #[.slice none 0 0], []⟩ 8 (by kernel_rfl) (by kernel_rfl) (by kernel_rfl) (by kernel_rfl)) ?_
  intro W base args ds gs before hval0 hW hcnd _
  have hval : ∀ (j : Nat) t v, Try.f3.params[j]? = some t → args[j]? = some v → Value.okWide Try.prog W .any base t v := hval0
  have hW' := hW
  obtain ⟨p, q, hA0, -⟩ := hW
  have hA : DataW.TrodAll enc Try.prog W 0 (fun _ => true) true Try.f3.params.toList args.toList ds p := hA0
  rw [Try.params3] at hA hval
  obtain ⟨v0, vs0, d0, ds0, p0, q0, hargs, rfl, rfl, h0, r0⟩ := trodAll_cons hA
  obtain ⟨rfl, rfl, rfl⟩ := trodAll_nil r0
  obtain rfl : args = #[v0] := by cases args; simp_all
  clear hA0 hval0
  have hv0 := hval 0 _ v0 rfl rfl
  obtain ⟨a0, len0, cap0, rfl, hc⟩ := open_code hv0 h0
  exact (walk a0 len0 cap0 W hc).mono fun r W' ⟨he, hb⟩ => ⟨_, he, law_post rfl rfl Try.underlying4 (by kernel_rfl) (n := 1)
    (fun ds' hd => by rcases ds' with _ | ⟨x0, _ | ⟨y, z⟩⟩ <;> simp at hd <;> exact ⟨rfl, rfl, rfl⟩) rfl hW' hb⟩

theorem over : Rows.fnMajorityRow.holds Try.pinned (OpenSpec.ofChange Rows.fnMajoritySpec) :=
  OpenClaim.holds_of_wide 3 Try.f3 rfl rfl rfl rfl rfl rfl rfl ⟨rfl, rfl, rfl, rfl, rfl⟩ rfl rfl rfl rfl rfl (by kernel_rfl) Try.func3 (by kernel_rfl)
    (of_decide_eq_true (by kernel_rfl)) (by unfold Func.isWrapper; first | (rw [if_pos (by decide +kernel)]; kernel_rfl) | (rw [if_neg (by decide +kernel)]; exact ⟨rfl, rfl⟩))
    (fun os started H enc _ => lifted os started H enc)

theorem proved : Rows.FnMajoritySaid :=
  over
#print axioms proved
end Go.Proofs.Ytnelgadfgeakjaa.fnMajority
