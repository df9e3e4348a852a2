/- Proved: the law FnExactOlder returns true at every two editions, and the editions read afterwards as before; no condition. -/
import Derived.Test.YtbojeblefgogcaaEdImpl
import Derived.Test.YtbojeblefgogcaaOpenEd
import Derived.Test.YtbojeblefgogcaaShell
import Derived.Lib.SmallJoins
namespace Go.Proofs.Ytbojeblefgogcaa.fnExactOlder
open Go.ChangeShapes Go.WideShapes Go.ChangeAt Go.RowKit Go.Joins Go.Deep
open Go.ChangeMaps (open_string shut_string)
set_option linter.unusedVariables false

set_option maxHeartbeats 1000000 in
theorem walk (a b : M.Ed) (w : World)  :
    Calls Try.prog 5 #[edV a, edV b] w fun e w' => e = .returned (.bool true) ∧ Below w.heap.size w w' := by
  go_enter Try.func5, Try.ntmps5
  have b0 : Below w.heap.size w ((w.alloc (.cells #[.int .i64 a.ma, .int .i64 a.mi, .int .i64 a.pa] 31)).alloc (.cells #[.int .i64 b.ma, .int .i64 b.mi, .int .i64 b.pa] 31)) := ((Below.refl _ _).alloc (Nat.le_refl _) _).alloc (by simp) _
  go_wp2_with fail
  go_region_held3 (fun w' => Below w.heap.size w w' ∧ w'.cell? ⟨w.heap.size, 0, none⟩ = some (.int .i64 a.ma) ∧ w'.cell? ⟨w.heap.size, 1, none⟩ = some (.int .i64 a.mi) ∧ w'.cell? ⟨w.heap.size, 2, none⟩ = some (.int .i64 a.pa) ∧ w'.cell? ⟨w.heap.size + 1, 0, none⟩ = some (.int .i64 b.ma) ∧ w'.cell? ⟨w.heap.size + 1, 1, none⟩ = some (.int .i64 b.mi) ∧ w'.cell? ⟨w.heap.size + 1, 2, none⟩ = some (.int .i64 b.pa))
    ((go_split_ands; (try dsimp only); (repeat' apply And.intro) <;> first | assumption | exact kp _ _ _ (by assumption) | (exact Below.drew (by assumption)) | (simp [go_sem]; done)))
    (first | (go_at_call 14; go_split_ands; refine (keeps (toEdition_any _ _) (W0 := w) ?_).mono ?_; (first | assumption | (exact Below.drew (by assumption))); rintro r w1 ⟨rfl, b1, kp⟩) | (go_at_call 12; go_split_ands; refine (keeps (specOlder a b _) (W0 := w) ?_).mono ?_; (first | assumption | (exact Below.drew (by assumption))); rintro r w1 ⟨rfl, b1, kp⟩))
  go_split_ands
  go_wp2_with fail
  go_region_held3 (fun w' => Below w.heap.size w w' ∧ w'.cell? ⟨w.heap.size, 0, none⟩ = some (.int .i64 a.ma) ∧ w'.cell? ⟨w.heap.size, 1, none⟩ = some (.int .i64 a.mi) ∧ w'.cell? ⟨w.heap.size, 2, none⟩ = some (.int .i64 a.pa) ∧ w'.cell? ⟨w.heap.size + 1, 0, none⟩ = some (.int .i64 b.ma) ∧ w'.cell? ⟨w.heap.size + 1, 1, none⟩ = some (.int .i64 b.mi) ∧ w'.cell? ⟨w.heap.size + 1, 2, none⟩ = some (.int .i64 b.pa))
    ((go_split_ands; (try dsimp only); (repeat' apply And.intro) <;> first | assumption | exact kp _ _ _ (by assumption) | (exact Below.drew (by assumption)) | (simp [go_sem]; done)))
    (first | (go_at_call 14; go_split_ands; refine (keeps (toEdition_any _ _) (W0 := w) ?_).mono ?_; (first | assumption | (exact Below.drew (by assumption))); rintro r w1 ⟨rfl, b1, kp⟩) | (go_at_call 16; go_split_ands; refine (keeps (implOlder a b _) (W0 := w) ?_).mono ?_; (first | assumption | (exact Below.drew (by assumption))); rintro r w1 ⟨rfl, b1, kp⟩))
  go_split_ands
  go_wp2
  go_ret
  exact ⟨rfl, by assumption⟩

set_option maxRecDepth 100000 in
theorem lifted (os : Os) (started : os.Started) (H : Type) (enc : TypeId × Value → H) :
    ReturnsInHanded {} Try.checked os 5 .any (Rows.fnExactOlderSpec.pre6 enc Try.prog Try.f5 Rows.fnExactOlderRow.domain false) (Rows.fnExactOlderSpec.post enc Try.prog Try.f5 false true false false) := by
  refine returnsInHanded_of_change (C := Try.checked) own started (by kernel_rfl) Try.func5
    (ChangeSpec.witness6 (enc := enc) (C := Try.checked) false ⟨#[], #[.agg #[.int .i64 0, .int .i64 0, .int .i64 0], .agg #[.int .i64 0, .int .i64 0, .int .i64 0]], []⟩ 8 (by kernel_rfl) (by kernel_rfl) (by kernel_rfl) (by kernel_rfl)) ?_
  intro W base args ds gs before hval0 hW hcnd _
  have hval : ∀ (j : Nat) t v, Try.f5.params[j]? = some t → args[j]? = some v → Value.okWide Try.prog W .any base t v := hval0
  have hW' := hW
  obtain ⟨p, q, hA0, -⟩ := hW
  have hA : DataW.TrodAll enc Try.prog W 0 (fun _ => true) true Try.f5.params.toList args.toList ds p := hA0
  rw [Try.params5] at hA hval
  obtain ⟨v0, vs0, d0, ds0, p0, q0, hargs, rfl, rfl, h0, r0⟩ := trodAll_cons hA
  obtain ⟨v1, vs1, d1, ds1, p1, q1, rfl, rfl, rfl, h1, r1⟩ := trodAll_cons r0
  obtain ⟨rfl, rfl, rfl⟩ := trodAll_nil r1
  obtain rfl : args = #[v0, v1] := by cases args; simp_all
  clear hA0 hval0
  have hv0 := hval 0 _ v0 rfl rfl
  have hv1 := hval 1 _ v1 rfl rfl
  obtain ⟨a, rfl⟩ := open_ed Try.underlying31 (by kernel_rfl) (by kernel_rfl) Try.underlying2 Try.underlying2 Try.underlying2 hv0 h0
  obtain ⟨b, rfl⟩ := open_ed Try.underlying31 (by kernel_rfl) (by kernel_rfl) Try.underlying2 Try.underlying2 Try.underlying2 hv1 h1
  exact (walk a b W).mono fun r W' ⟨he, hb⟩ => ⟨_, he, law_post rfl rfl Try.underlying4 (by kernel_rfl) (n := 2)
    (fun ds' hd => by rcases ds' with _ | ⟨x0, _ | ⟨x1, _ | ⟨y, z⟩⟩⟩ <;> simp at hd <;> exact ⟨rfl, rfl, rfl⟩) rfl hW' hb⟩

theorem over : Rows.fnExactOlderRow.holds Try.pinned (OpenSpec.ofChange Rows.fnExactOlderSpec) :=
  OpenClaim.holds_of_wide 5 Try.f5 rfl rfl rfl rfl rfl rfl rfl ⟨rfl, rfl, rfl, rfl, rfl⟩ rfl rfl rfl rfl rfl (by kernel_rfl) Try.func5 (by kernel_rfl)
    (of_decide_eq_true (by kernel_rfl)) (by unfold Func.isWrapper; first | (rw [if_pos (by decide +kernel)]; kernel_rfl) | (rw [if_neg (by decide +kernel)]; exact ⟨rfl, rfl⟩))
    (fun os started H enc _ => lifted os started H enc)

theorem proved : Rows.FnExactOlderSaid :=
  over
#print axioms proved
end Go.Proofs.Ytbojeblefgogcaa.fnExactOlder
