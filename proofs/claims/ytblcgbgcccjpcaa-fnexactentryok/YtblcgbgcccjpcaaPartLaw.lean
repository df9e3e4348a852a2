/- Proved: the law FnExactEntryOk returns true at every entry, and the entry reads afterwards as before; no condition. -/
import Derived.Test.YtblcgbgcccjpcaaPart09
import Derived.Test.YtblcgbgcccjpcaaPart13
import Derived.Test.YtblcgbgcccjpcaaPart15
import Derived.Lib.SmallJoins
namespace Go.Proofs.Ytblcgbgcccjpcaa.fnExactEntryOk
open Go.ChangeShapes Go.WideShapes Go.ChangeAt Go.RowKit Go.Joins Go.Deep
open Go.ChangeMaps (open_string shut_string)
set_option linter.unusedVariables false

set_option maxRecDepth 100000 in
set_option maxHeartbeats 16000000 in
theorem walk (e : M.En) (hn : e.order.deed.name.size ≤ maxLen) (hp : e.order.deed.page.size ≤ maxLen) (w : World)  :
    Calls Try.prog 3 #[enV e] w fun e w' => e = .returned (.bool true) ∧ Below w.heap.size w w' := by
  have b0 : Below w.heap.size w (w.alloc (.cells (enC e) 29)) := (Below.refl _ _).alloc (Nat.le_refl _) _
  have h0 := holds_new w (enC e) 29
  by_cases hbig : (1048576 : Int) < ((e.order.deed.name.size + e.order.deed.page.size : Nat) : Int)
  · go_enter Try.func3, Try.ntmps3
    go_wp2_with fail
    refine (enSz_big e 1048576 _ (by omega) (by omega) ⟨hn, hp⟩ hbig).mono ?_
    rintro r w1 ⟨rfl, b1⟩
    go_wp2
    go_ret
    exact ⟨rfl, next b0 b1⟩
  · have hge : 0 ≤ (1048576 : Int) - ((e.order.deed.name.size + e.order.deed.page.size : Nat) : Int) := by omega
    go_enter Try.func3, Try.ntmps3
    go_wp2_with fail
    refine (enSz_small e 1048576 _ (by omega) (by omega)).mono ?_
    rintro r w1 ⟨rfl, b1⟩
    replace h0 := h0.below b1
    replace b0 := next b0 b1
    obtain ⟨p0, p1, p2, p3, p4, p5, p6, p7, p8, p9⟩ := h0.ten
    clear b1
    go_wp2_with fail
    refine (enTo_any e _).mono ?_
    rintro r w2 ⟨rfl, b2⟩
    replace h0 := h0.below b2
    replace b0 := next b0 b2
    clear p0 p1 p2 p3 p4 p5 p6 p7 p8 p9 b2
    go_wp2_with fail
    refine (specEntryOk e _ hn hp).mono ?_
    rintro r w3 ⟨rfl, b3⟩
    replace h0 := h0.below b3
    replace b0 := next b0 b3
    obtain ⟨p0, p1, p2, p3, p4, p5, p6, p7, p8, p9⟩ := h0.ten
    clear b3
    go_wp2_with fail
    refine (enTo_any e _).mono ?_
    rintro r w4 ⟨rfl, b4⟩
    replace b0 := next b0 b4
    clear p0 p1 p2 p3 p4 p5 p6 p7 p8 p9 h0 b4
    go_wp2_with fail
    refine (implEntryOk e _ hn hp).mono ?_
    rintro r w5 ⟨rfl, b5⟩
    go_wp2
    go_ret
    exact ⟨rfl, next b0 b5⟩

set_option maxRecDepth 100000 in
theorem lifted (os : Os) (started : os.Started) (H : Type) (enc : TypeId × Value → H) :
    ReturnsInHanded {} Try.checked os 3 .any (Rows.fnExactEntryOkSpec.pre6 enc Try.prog Try.f3 Rows.fnExactEntryOkRow.domain false) (Rows.fnExactEntryOkSpec.post enc Try.prog Try.f3 false true false false) := by
  refine returnsInHanded_of_change (C := Try.checked) own started (by kernel_rfl) Try.func3
    (ChangeSpec.witness6 (enc := enc) (C := Try.checked) false ⟨#[], #[.agg #[.int .i64 0, .int .i64 0, .int .i64 0, .int .i64 0, .string ByteArray.empty, .int .i64 0, .int .i64 0, .int .i64 0, .string ByteArray.empty, .int .i64 0]], []⟩ 8 (by kernel_rfl) (by kernel_rfl) (by kernel_rfl) (by kernel_rfl)) ?_
  intro W base args ds gs before hval0 hW hcnd _
  have hval : ∀ (j : Nat) t v, Try.f3.params[j]? = some t → args[j]? = some v → Value.okWide Try.prog W .any base t v := hval0
  have hW' := hW
  obtain ⟨p, q, hA0, -⟩ := hW
  have hA : DataW.TrodAll enc Try.prog W 0 (fun _ => true) true Try.f3.params.toList args.toList ds p := hA0
  rw [Try.params3] at hA hval
  obtain ⟨v0, vs0, d0, ds0, p0, q0, hargs, rfl, rfl, h0, r0⟩ := trodAll_cons hA
  obtain ⟨rfl, rfl, rfl⟩ := trodAll_nil r0
  obtain rfl : args = #[v0] := by cases args; simp_all
  clear hA0 hval0
  have hv0 := hval 0 _ v0 rfl rfl
  obtain ⟨e, rfl, hn, hp⟩ := open_en Try.underlying29 (by kernel_rfl) (by kernel_rfl) (by kernel_rfl) Try.underlying2 ⟨Try.underlying27, (by kernel_rfl), (by kernel_rfl), (by kernel_rfl), Try.underlying2, Try.underlying2, ⟨Try.underlying25, (by kernel_rfl), (by kernel_rfl), (by kernel_rfl), Try.underlying2, Try.underlying9, Try.underlying23, Try.underlying9, Try.underlying2, (by kernel_rfl), (by kernel_rfl), Try.underlying2, Try.underlying2, Try.underlying2⟩⟩ hv0 h0
  exact (walk e hn hp W).mono fun r W' ⟨he, hb⟩ => ⟨_, he, law_post rfl rfl Try.underlying4 (by kernel_rfl) (n := 1)
    (fun ds' hd => by rcases ds' with _ | ⟨x0, _ | ⟨y, z⟩⟩ <;> simp at hd <;> exact ⟨rfl, rfl, rfl⟩) rfl hW' hb⟩

theorem over : Rows.fnExactEntryOkRow.holds Try.pinned (OpenSpec.ofChange Rows.fnExactEntryOkSpec) :=
  OpenClaim.holds_of_wide 3 Try.f3 rfl rfl rfl rfl rfl rfl rfl ⟨rfl, rfl, rfl, rfl, rfl⟩ rfl rfl rfl rfl rfl (by kernel_rfl) Try.func3 (by kernel_rfl)
    (of_decide_eq_true (by kernel_rfl)) (by unfold Func.isWrapper; first | (rw [if_pos (by decide +kernel)]; kernel_rfl) | (rw [if_neg (by decide +kernel)]; exact ⟨rfl, rfl⟩))
    (fun os started H enc _ => lifted os started H enc)

theorem proved : Rows.FnExactEntryOkSaid :=
  over
#print axioms proved
end Go.Proofs.Ytblcgbgcccjpcaa.fnExactEntryOk
