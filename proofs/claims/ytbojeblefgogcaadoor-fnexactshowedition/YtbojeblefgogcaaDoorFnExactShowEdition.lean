/- Proved: the law FnExactShowEdition returns true at every edition, and the edition reads afterwards as before; the variables of the library that the card lists lie as their initialisers lay them. -/
import Derived.Test.YtbojeblefgogcaaDoorShowEd
import Derived.Test.YtbojeblefgogcaaDoorOpenEd
import Derived.Test.YtbojeblefgogcaaDoorTie
import Derived.Test.YtbojeblefgogcaaDoorCards
import Derived.Test.YtbojeblefgogcaaDoorShellD
import Derived.Test.YtbojeblefgogcaaDoorShell
import Derived.Lib.SmallJoins
namespace Go.Proofs.YtbojeblefgogcaaDoor.fnExactShowEdition
open Go.ChangeShapes Go.WideShapes Go.ChangeAt Go.RowKit Go.Joins Go.Deep
open Go.ChangeMaps (open_string shut_string)
set_option linter.unusedVariables false

set_option maxRecDepth 100000 in
set_option maxHeartbeats 16000000 in
theorem walk (a : M.Ed) (w : World)  :
    Calls Tryd.prog 4 #[edV a] w fun e w' => e = .returned (.bool true) ∧ Below w.heap.size w w' := by
  go_enter Tryd.func4, Tryd.ntmps4
  have b0 : Below w.heap.size w (w.alloc (.cells #[.int .i64 a.ma, .int .i64 a.mi, .int .i64 a.pa] 35)) := (Below.refl _ _).alloc (Nat.le_refl _) _
  go_wp2_with fail
  refine (toEdition_any a _).mono ?_
  rintro r w1 ⟨rfl, b1⟩
  obtain ⟨c1, f1⟩ := bcell b1
  have z1 : w.heap.size < w1.heap.size := by have := b1.size; simp at this; omega
  go_wp2_with fail
  refine (specShowEdition a _).mono ?_
  rintro r w2 ⟨he, b2⟩
  obtain rfl : r = .returned (.string ⟨(M.edShow a).toArray⟩) := he
  obtain ⟨c2, f2⟩ := bcell b2
  have z2 : w.heap.size < w2.heap.size := Nat.lt_of_lt_of_le z1 b2.size
  go_wp2_with fail
  refine (toEdition_any a _).mono ?_
  rintro r w3 ⟨rfl, b3⟩
  go_wp2_with fail
  refine (implShowEdition a _).mono ?_
  rintro r w4 ⟨he, b4⟩
  obtain rfl : r = .returned (.string ⟨(M.edShow a).toArray⟩) := he
  go_wp2
  go_ret
  exact ⟨rfl, next (next (next (next b0 b1) b2) b3) b4⟩

set_option maxRecDepth 100000 in
theorem lifted (os : Os) (started : os.Started) (H : Type) (enc : TypeId × Value → H) :
    ReturnsInHanded {} Tryd.checked os 4 .any (fun w args => (Rows.fnExactShowEditionSpec.pre enc Tryd.prog Tryd.f4 Rows.fnExactShowEditionRow.domain false w args ∧ laidMetH Tryd.prog Rows.fnExactShowEditionRow.laid w) ∧ sizedMet enc Tryd.prog Tryd.f4 (OpenSpec.ofChange Rows.fnExactShowEditionSpec) false w args)
      (Rows.fnExactShowEditionSpec.post enc Tryd.prog Tryd.f4 false true false false) := by
  refine handed_laid (C := Tryd.checked) (X := fun w _ => laidMetH Tryd.prog Rows.fnExactShowEditionRow.laid w) (fun _ _ _ hh h => h.of_heap hh) own started (by kernel_rfl) Tryd.func4
    (ChangeSpec.witness_shaped (enc := enc) (C := Tryd.checked) (os := os) (X := fun w _ => laidMetH Tryd.prog Rows.fnExactShowEditionRow.laid w) false (World.laidAll Tryd.prog os Rows.fnExactShowEditionRow.laid) #[.agg #[.int .i64 0, .int .i64 0, .int .i64 0]] 8 (World.laidAll_os _ _ _)
      (World.shaped_of_ZipB (by kernel_rfl) (by kernel_rfl)) (by kernel_rfl) (by kernel_rfl) (by kernel_rfl)
      (by rw [MakeChecks.laidMetH_plain _ _ _ (by kernel_rfl)]; exact laidMet_laidAll _ (by kernel_rfl) (by kernel_rfl))) ?_
  intro W base args ds gs before hval0 hW hL hsh
  have hval : ∀ (j : Nat) t v, Tryd.f4.params[j]? = some t → args[j]? = some v → Value.okWide Tryd.prog W .any base t v := hval0
  have hW' := hW
  obtain ⟨p, q, hA0, -⟩ := hW
  have hA : DataW.TrodAll enc Tryd.prog W 0 (fun _ => true) true Tryd.f4.params.toList args.toList ds p := hA0
  rw [Tryd.params4] at hA hval
  obtain ⟨v0, vs0, d0, ds0, p0, q0, hargs, rfl, rfl, h0, r0⟩ := trodAll_cons hA
  obtain ⟨rfl, rfl, rfl⟩ := trodAll_nil r0
  obtain rfl : args = #[v0] := by cases args; simp_all
  clear hA0 hval0
  have hv0 := hval 0 _ v0 rfl rfl
  obtain ⟨a, rfl⟩ := open_ed Tryd.underlying35 (by kernel_rfl) (by kernel_rfl) Tryd.underlying2 Tryd.underlying2 Tryd.underlying2 hv0 h0
  exact (walk a W).mono fun r W' ⟨he, hb⟩ => ⟨_, he, law_post rfl rfl Tryd.underlying4 (by kernel_rfl) (n := 1)
    (fun ds' hd => by rcases ds' with _ | ⟨x0, _ | ⟨y, z⟩⟩ <;> simp at hd <;> exact ⟨rfl, rfl, rfl⟩) rfl hW' hb⟩

theorem over : Rows.fnExactShowEditionRow.holds Tryd.pinned (OpenSpec.ofChange Rows.fnExactShowEditionSpec) :=
  OpenClaim.holds_of_wide 4 Tryd.f4 rfl rfl rfl rfl rfl rfl rfl ⟨rfl, rfl, rfl, rfl, rfl⟩ rfl rfl rfl rfl rfl (by kernel_rfl) Tryd.func4 (by kernel_rfl)
    (of_decide_eq_true (by kernel_rfl)) (by unfold Func.isWrapper; first | (rw [if_pos (by decide +kernel)]; kernel_rfl) | (rw [if_neg (by decide +kernel)]; exact ⟨rfl, rfl⟩))
    (fun os started H enc _ => lifted os started H enc)

theorem proved : Rows.FnExactShowEditionCardSaid :=
  Claim7.holds_tied_plain_at .later [] [.data, .data, .data] true (true, "080cb4001b1922b937291c88701213f93f9bec70713935c758c8297674a0e9ac") true
    over (fun _ h => by cases h) (by kernel_rfl) (fun _ h => by cases h) fnExactShowEdition_row_tie rfl ⟨rfl, rfl⟩ (by kernel_rfl) rfl
    (fun f fn hf hfn => by
      obtain rfl : f = 4 := Option.some.inj ((show Tryd.prog.funcNamed "loop.example/g00572/laws.FnExactShowEdition" = some 4 by kernel_rfl).symm.trans hf) |>.symm
      obtain rfl : fn = Tryd.f4 := (Option.some.inj (Tryd.func4.symm.trans hfn)).symm
      exact ⟨by kernel_rfl, fun j t ht => by
        rw [Tryd.params4] at ht
        have hm : t ∈ [35] := by simpa using Array.mem_of_getElem? ht
        have hall : ([35].all fun u => !Tryd.prog.wantsStandIn u) = true := by kernel_rfl
        exact (show Tryd.prog.wantsStandIn t = false by simpa using List.all_eq_true.1 hall t hm)⟩)
    (by kernel_rfl)
#print axioms proved
end Go.Proofs.YtbojeblefgogcaaDoor.fnExactShowEdition
