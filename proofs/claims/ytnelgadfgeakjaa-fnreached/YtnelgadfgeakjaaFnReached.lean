/- Proved: the law FnReached returns true at every list of bytes, and the list reads afterwards as before; no condition. -/
import Derived.Test.YtnelgadfgeakjaaDrawMaj
import Derived.Test.YtnelgadfgeakjaaReachImpl
import Derived.Test.YtnelgadfgeakjaaShell
import Derived.Lib.SmallJoins
namespace Go.Proofs.Ytnelgadfgeakjaa.fnReached
open Go.ChangeShapes Go.WideShapes Go.ChangeAt Go.RowKit Go.Joins Go.Deep
open Go.ChangeMaps (open_string shut_string)
set_option linter.unusedVariables false

set_option maxRecDepth 100000 in
set_option maxHeartbeats 16000000 in
theorem walk (a0 : Option Addr) (len0 cap0 : Nat) (w : World) (hc : CodeOk w.heap.size w a0 len0) :
    Calls Try.prog 4 #[.slice a0 len0 cap0] w fun e w' => e = .returned (.bool true) ∧ Below w.heap.size w w' := by
  have HC := Lib.hid hc
  clear hc
  by_cases hbig : 4096 < len0
  · go_enter Try.func4, Try.ntmps4
    go_wp2_with fail
    refine (big_any a0 len0 cap0 _).mono ?_
    rintro r w' ⟨rfl, rfl⟩
    go_wp2
    go_ret
    exact ⟨rfl, Below.refl _ _⟩
  · have hl4 : len0 ≤ 4096 := by omega
    go_enter Try.func4, Try.ntmps4
    go_wp2_with fail
    refine (big_any a0 len0 cap0 _).mono ?_
    rintro r w' ⟨rfl, rfl⟩
    go_wp2_with fail
    refine (DrawReached_any _ a0 len0 cap0 hl4 HC.out).mono ?_
    rintro e0 x1 ⟨A, l, c, rfl, hli, hA, hl6, b1⟩
    have HA := Lib.hid hA
    clear hbig hA
    go_wp2_with fail
    refine (implReached A l c _ hli (by omega)).mono ?_
    rintro e1 x2 ⟨r, rfl, hr, c2⟩
    replace b1 := next b1 c2
    replace hli := hli.below c2
    clear c2
    go_wp2_with fail
    refine (specReached A l c _ hli HA.out (by omega)).mono ?_
    rintro e2 x3 ⟨r2, rfl, hr2, c3⟩
    replace b1 := next b1 c3
    replace hli := hli.below c3
    clear c3
    obtain rfl := reachedIs_one hr hr2
    clear hr2
    have HR := Lib.hid hr
    have HL := Lib.hid hli
    clear hli hr
    have hne : (r != r) = false := by simp
    rcases hk : M.cok (l.length : Int) with _ | _
    · have hr1 : r = -1 := by
        have := HR.out
        unfold ReachedIs at this
        rw [hk] at this
        simpa using this
      subst hr1
      go_wp2_with (go_at_call 23; refine (specCountOk _ _).mono ?_; rintro e w' ⟨rfl, rfl⟩; simp only [hk])
      go_ret
      exact ⟨rfl, b1⟩
    · have HQ := Lib.hid (show M.Reach (M.most (l.length : Int)).toNat l r by
        have := HR.out
        unfold ReachedIs at this
        rw [hk] at this
        simpa using this)
      have hm0 : 0 ≤ M.most (l.length : Int) := by unfold M.most; split <;> omega
      go_upto_region 12 with (go_at_call 23; refine (specCountOk _ _).mono ?_; rintro e w' ⟨rfl, rfl⟩; simp only [hk])
      have HB := Lib.hid b1
      clear b1
      go_wp2_with fail
      go_loopw [6, 7, 8] (fun nt mo i wr => ∃ j : Nat, i = .int .i64 j ∧ j ≤ l.length ∧ nt = .int .i64 ((l.take j).countP (fun x => decide (r ≤ x)) : Nat) ∧ mo = .int .i64 ((l.take j).countP (fun x => decide (r < x)) : Nat) ∧ x3 = wr) (fun _ _ i _ => l.length - (intOf i).toNat)
      case atStart => exact ⟨0, rfl, Nat.zero_le _, by simp, by simp, rfl⟩
      case round =>
        obtain ⟨j, rfl, hj, hnt, hmo, rfl⟩ := hrel
        have hq1 : (l.take j).countP (fun x => decide (r ≤ x)) ≤ 6 := Nat.le_trans List.countP_le_length (by rw [List.length_take]; omega)
        have hq2 : (l.take j).countP (fun x => decide (r < x)) ≤ 6 := Nat.le_trans List.countP_le_length (by rw [List.length_take]; omega)
        obtain ⟨p1, hp1⟩ : ∃ p1, (l.take j).countP (fun x => decide (r ≤ x)) = p1 := ⟨_, rfl⟩
        obtain ⟨p2, hp2⟩ : ∃ p2, (l.take j).countP (fun x => decide (r < x)) = p2 := ⟨_, rfl⟩
        rw [hp1] at hq1 hnt
        rw [hp2] at hq2 hmo
        subst hnt hmo
        have HP1 := Lib.hid hp1
        have HP2 := Lib.hid hp2
        clear hp1 hp2
        by_cases hlt : j < l.length
        · obtain ⟨b, o, rfl, hb, c1⟩ := ints_at HL.out hlt
          have hz1 : (l.take (j + 1)).countP (fun x => decide (r ≤ x)) = p1 + (if r ≤ l[j] then 1 else 0) := by
            rw [List.take_succ_eq_append_getElem hlt, List.countP_append, HP1.out]; simp [List.countP_cons]
          have hz2 : (l.take (j + 1)).countP (fun x => decide (r < x)) = p2 + (if r < l[j] then 1 else 0) := by
            rw [List.take_succ_eq_append_getElem hlt, List.countP_append, HP2.out]; simp [List.countP_cons]
          have HZ1 := Lib.hid hz1
          have HZ2 := Lib.hid hz2
          clear hz1 hz2
          by_cases k1 : r ≤ l[j]
          · by_cases k2 : r < l[j]
            · go_wp2
              go_roundw
              case rel => exact ⟨j + 1, by go_num, by omega, by rw [HZ1.out, if_pos k1]; go_num, by rw [HZ2.out, if_pos k2]; go_num, by trivial⟩
              case measure => simp [intOf]; omega
            · go_wp2
              go_roundw
              case rel => exact ⟨j + 1, by go_num, by omega, by rw [HZ1.out, if_pos k1]; go_num, by rw [HZ2.out, if_neg k2]; go_num, by trivial⟩
              case measure => simp [intOf]; omega
          · have k2 : ¬ r < l[j] := by omega
            go_wp2
            go_roundw
            case rel => exact ⟨j + 1, by go_num, by omega, by rw [HZ1.out, if_neg k1]; go_num, by rw [HZ2.out, if_neg k2]; go_num, by trivial⟩
            case measure => simp [intOf]; omega
        · have hj' : j = l.length := by omega
          have e1 := HP1.out
          have e2 := HP2.out
          rw [hj', List.take_length] at e1 e2
          have hq := HQ.out
          unfold M.Reach at hq
          rw [e1, e2] at hq
          have g1 : M.most (l.length : Int) ≤ p1 := by omega
          have g2 : (p2 : Int) < M.most (l.length : Int) := by omega
          clear e1 e2 hq HL
          go_wp2_with (go_at_call 19; refine (specMostOf _ _).mono ?_; rintro e w' ⟨rfl, rfl⟩)
          go_ret
          exact ⟨rfl, HB.out⟩

set_option maxRecDepth 100000 in
theorem lifted (os : Os) (started : os.Started) (H : Type) (enc : TypeId × Value → H) :
    ReturnsInHanded {} Try.checked os 4 .any (Rows.fnReachedSpec.pre6 enc Try.prog Try.f4 Rows.fnReachedRow.domain false) (Rows.fnReachedSpec.post enc Try.prog Try.f4 false true false false) := by
  refine returnsInHanded_of_change (C := Try.checked) own started (by kernel_rfl) Try.func4
    (ChangeSpec.witness6 (enc := enc) (C := Try.checked) false ⟨#[], #[.slice none 0 0], []⟩ 8 (by kernel_rfl) (by kernel_rfl) (by kernel_rfl) (by kernel_rfl)) ?_
  intro W base args ds gs before hval0 hW hcnd _
  have hval : ∀ (j : Nat) t v, Try.f4.params[j]? = some t → args[j]? = some v → Value.okWide Try.prog W .any base t v := hval0
  have hW' := hW
  obtain ⟨p, q, hA0, -⟩ := hW
  have hA : DataW.TrodAll enc Try.prog W 0 (fun _ => true) true Try.f4.params.toList args.toList ds p := hA0
  rw [Try.params4] at hA hval
  obtain ⟨v0, vs0, d0, ds0, p0, q0, hargs, rfl, rfl, h0, r0⟩ := trodAll_cons hA
  obtain ⟨rfl, rfl, rfl⟩ := trodAll_nil r0
  obtain rfl : args = #[v0] := by cases args; simp_all
  clear hA0 hval0
  have hv0 := hval 0 _ v0 rfl rfl
  obtain ⟨a0, len0, cap0, rfl, hc⟩ := open_code hv0 h0
  exact (walk a0 len0 cap0 W hc).mono fun r W' ⟨he, hb⟩ => ⟨_, he, law_post rfl rfl Try.underlying4 (by kernel_rfl) (n := 1)
    (fun ds' hd => by rcases ds' with _ | ⟨x0, _ | ⟨y, z⟩⟩ <;> simp at hd <;> exact ⟨rfl, rfl, rfl⟩) rfl hW' hb⟩

theorem over : Rows.fnReachedRow.holds Try.pinned (OpenSpec.ofChange Rows.fnReachedSpec) :=
  OpenClaim.holds_of_wide 4 Try.f4 rfl rfl rfl rfl rfl rfl rfl ⟨rfl, rfl, rfl, rfl, rfl⟩ rfl rfl rfl rfl rfl (by kernel_rfl) Try.func4 (by kernel_rfl)
    (of_decide_eq_true (by kernel_rfl)) (by unfold Func.isWrapper; first | (rw [if_pos (by decide +kernel)]; kernel_rfl) | (rw [if_neg (by decide +kernel)]; exact ⟨rfl, rfl⟩))
    (fun os started H enc _ => lifted os started H enc)

theorem proved : Rows.FnReachedSaid :=
  over
#print axioms proved
end Go.Proofs.Ytnelgadfgeakjaa.fnReached
