/- Proved: the law FnExactShowDeed returns true at every deed, and the deed reads afterwards as before; the variables of the library that the card lists lie as their initialisers lay them. -/
import Derived.Test.YtdfbcebjgoodnaaDoorDeedWords
import Derived.Test.YtdfbcebjgoodnaaDoorOpenDd
import Derived.Test.YtdfbcebjgoodnaaDoorLaidOf
import Derived.Test.YtdfbcebjgoodnaaDoorTie
import Derived.Test.YtdfbcebjgoodnaaDoorCards
import Derived.Test.YtdfbcebjgoodnaaDoorShellD
import Derived.Test.YtdfbcebjgoodnaaDoorShell
import Derived.Lib.SmallJoins
namespace Go.Proofs.YtdfbcebjgoodnaaDoor.fnExactShowDeed
open Go.ChangeShapes Go.WideShapes Go.ChangeAt Go.RowKit Go.Joins Go.Deep
open Go.ChangeMaps (open_string shut_string)
set_option linter.unusedVariables false

set_option maxRecDepth 100000 in
set_option maxHeartbeats 16000000 in
theorem walk (d : M.Dd) (hn : d.name.size ≤ maxLen) (hp : d.page.size ≤ maxLen) (w : World)  :
    Calls Tryd.prog 3 #[ddV d] w fun e w' => e = .returned (.bool true) ∧ Below w.heap.size w w' := by
  have b0 : Below w.heap.size w (w.alloc (.cells (ddC d) 25)) := (Below.refl _ _).alloc (Nat.le_refl _) _
  have h0 := holds_new w (ddC d) 25
  by_cases hbig : 1048576 < d.name.size + d.page.size
  · go_enter Tryd.func3, Tryd.ntmps3
    go_wp2_with fail
    refine (szDeed_big d _ hn hp hbig).mono ?_
    rintro r w1 ⟨rfl, b1⟩
    go_wp2
    go_ret
    exact ⟨rfl, next b0 b1⟩
  · go_enter Tryd.func3, Tryd.ntmps3
    go_wp2_with fail
    refine (szDeed_small d _ (by omega)).mono ?_
    rintro r w1 ⟨⟨n, rfl⟩, b1⟩
    replace h0 := h0.below b1
    replace b0 := next b0 b1
    obtain ⟨p0, p1, p2, p3, p4, p5, p6⟩ := h0.seven
    clear b1
    go_wp2_with fail
    refine (toDeed_any d _).mono ?_
    rintro r w2 ⟨rfl, b2⟩
    replace h0 := h0.below b2
    replace b0 := next b0 b2
    clear p0 p1 p2 p3 p4 p5 p6 b2
    go_wp2_with fail
    refine (specShowDeed d _ hn hp).mono ?_
    rintro r w3 ⟨hr, b3⟩
    obtain rfl : r = .returned (.string ⟨(M.deedShow d).toArray⟩) := hr
    replace h0 := h0.below b3
    replace b0 := next b0 b3
    obtain ⟨p0, p1, p2, p3, p4, p5, p6⟩ := h0.seven
    clear b3
    go_wp2_with fail
    refine (toDeed_any d _).mono ?_
    rintro r w4 ⟨rfl, b4⟩
    replace b0 := next b0 b4
    clear p0 p1 p2 p3 p4 p5 p6 h0 b4
    go_wp2_with fail
    refine (implShowDeed d _ hn hp).mono ?_
    rintro r w5 ⟨hr, b5⟩
    obtain rfl : r = .returned (.string ⟨(M.deedShow d).toArray⟩) := hr
    go_wp2
    go_ret
    exact ⟨rfl, next b0 b5⟩

set_option maxRecDepth 100000 in
theorem lifted (os : Os) (started : os.Started) (H : Type) (enc : TypeId × Value → H) :
    ReturnsInHanded {} Tryd.checked os 3 .any (fun w args => (Rows.fnExactShowDeedSpec.pre enc Tryd.prog Tryd.f3 Rows.fnExactShowDeedRow.domain false w args ∧ laidMetH Tryd.prog Rows.fnExactShowDeedRow.laid w) ∧ sizedMet enc Tryd.prog Tryd.f3 (OpenSpec.ofChange Rows.fnExactShowDeedSpec) false w args)
      (Rows.fnExactShowDeedSpec.post enc Tryd.prog Tryd.f3 false true false false) := by
  refine handed_laid (C := Tryd.checked) (X := fun w _ => laidMetH Tryd.prog Rows.fnExactShowDeedRow.laid w) (fun _ _ _ hh h => h.of_heap hh) own started (by kernel_rfl) Tryd.func3
    (ChangeSpec.witness_shaped (enc := enc) (C := Tryd.checked) (os := os) (X := fun w _ => laidMetH Tryd.prog Rows.fnExactShowDeedRow.laid w) false (World.laidAll Tryd.prog os Rows.fnExactShowDeedRow.laid) #[.agg #[.int .i64 0, .string ByteArray.empty, .int .i64 0, .int .i64 0, .int .i64 0, .string ByteArray.empty, .int .i64 0]] 8 (World.laidAll_os _ _ _)
      (World.shaped_of_ZipB (by kernel_rfl) (by kernel_rfl)) (by kernel_rfl) (by kernel_rfl) (by kernel_rfl)
      (by rw [MakeChecks.laidMetH_plain _ _ _ (by kernel_rfl)]; exact laidMet_laidAll _ (by kernel_rfl) (by kernel_rfl))) ?_
  intro W base args ds gs before hval0 hW hL hsh
  have hval : ∀ (j : Nat) t v, Tryd.f3.params[j]? = some t → args[j]? = some v → Value.okWide Tryd.prog W .any base t v := hval0
  have hW' := hW
  obtain ⟨p, q, hA0, -⟩ := hW
  have hA : DataW.TrodAll enc Tryd.prog W 0 (fun _ => true) true Tryd.f3.params.toList args.toList ds p := hA0
  rw [Tryd.params3] at hA hval
  obtain ⟨v0, vs0, d0, ds0, p0, q0, hargs, rfl, rfl, h0, r0⟩ := trodAll_cons hA
  obtain ⟨rfl, rfl, rfl⟩ := trodAll_nil r0
  obtain rfl : args = #[v0] := by cases args; simp_all
  clear hA0 hval0
  have hv0 := hval 0 _ v0 rfl rfl
  obtain ⟨d, rfl, hn, hp⟩ := open_dd Tryd.underlying25 (by kernel_rfl) (by kernel_rfl) (by kernel_rfl) Tryd.underlying2 Tryd.underlying9 Tryd.underlying23 Tryd.underlying9 Tryd.underlying2 (by kernel_rfl) (by kernel_rfl) Tryd.underlying2 Tryd.underlying2 Tryd.underlying2 hv0 h0
  exact (walk d hn hp W).mono fun r W' ⟨he, hb⟩ => ⟨_, he, law_post rfl rfl Tryd.underlying4 (by kernel_rfl) (n := 1)
    (fun ds' hd => by rcases ds' with _ | ⟨x0, _ | ⟨y, z⟩⟩ <;> simp at hd <;> exact ⟨rfl, rfl, rfl⟩) rfl hW' hb⟩

theorem over : Rows.fnExactShowDeedRow.holds Tryd.pinned (OpenSpec.ofChange Rows.fnExactShowDeedSpec) :=
  OpenClaim.holds_of_wide 3 Tryd.f3 rfl rfl rfl rfl rfl rfl rfl ⟨rfl, rfl, rfl, rfl, rfl⟩ rfl rfl rfl rfl rfl (by kernel_rfl) Tryd.func3 (by kernel_rfl)
    (of_decide_eq_true (by kernel_rfl)) (by unfold Func.isWrapper; first | (rw [if_pos (by decide +kernel)]; kernel_rfl) | (rw [if_neg (by decide +kernel)]; exact ⟨rfl, rfl⟩))
    (fun os started H enc _ => lifted os started H enc)

theorem proved : Rows.FnExactShowDeedCardSaid :=
  Claim7.holds_tied_plain_at .later [] [.data, .data, .data] true (true, "4a51ba655da2342b569c160ef1ce19e2cd681a6e69ae288ffdb7d0bb49378086") true
    over (fun _ h => by cases h) (by kernel_rfl) (fun _ h => by cases h) fnExactShowDeed_row_tie rfl ⟨rfl, rfl⟩ (by kernel_rfl) rfl
    (fun f fn hf hfn => by
      obtain rfl : f = 3 := Option.some.inj ((show Tryd.prog.funcNamed "loop.example/g00572/laws.FnExactShowDeed" = some 3 by kernel_rfl).symm.trans hf) |>.symm
      obtain rfl : fn = Tryd.f3 := (Option.some.inj (Tryd.func3.symm.trans hfn)).symm
      exact ⟨by kernel_rfl, fun j t ht => by
        rw [Tryd.params3] at ht
        have hm : t ∈ [25] := by simpa using Array.mem_of_getElem? ht
        have hall : ([25].all fun u => !Tryd.prog.wantsStandIn u) = true := by kernel_rfl
        exact (show Tryd.prog.wantsStandIn t = false by simpa using List.all_eq_true.1 hall t hm)⟩)
    (by kernel_rfl)
#print axioms proved
end Go.Proofs.YtdfbcebjgoodnaaDoor.fnExactShowDeed
