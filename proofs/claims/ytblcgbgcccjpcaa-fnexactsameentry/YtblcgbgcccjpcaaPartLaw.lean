/- Proved: the law FnExactSameEntry returns true at any two entries, and they read afterwards as before; no condition. -/
import Derived.Test.YtblcgbgcccjpcaaPart07
import Derived.Test.YtblcgbgcccjpcaaPart10
import Derived.Test.YtblcgbgcccjpcaaPart14
import Derived.Test.YtblcgbgcccjpcaaPart16
import Derived.Lib.SmallJoins
namespace Go.Proofs.Ytblcgbgcccjpcaa.fnExactSameEntry
open Go.ChangeShapes Go.WideShapes Go.ChangeAt Go.RowKit Go.Joins Go.Deep
open Go.ChangeMaps (open_string shut_string)
set_option linter.unusedVariables false

set_option maxRecDepth 100000 in
set_option maxHeartbeats 16000000 in
theorem walk (e f : M.En) (hn : e.order.deed.name.size ≤ maxLen) (hp : e.order.deed.page.size ≤ maxLen) (hn' : f.order.deed.name.size ≤ maxLen) (hp' : f.order.deed.page.size ≤ maxLen) (w : World)  :
    Calls Try.prog 4 #[enV e, enV f] w fun e w' => e = .returned (.bool true) ∧ Below w.heap.size w w' := by
  have b0 := ((Below.refl w.heap.size w).alloc (Nat.le_refl _) (.cells (enC e) 29)).alloc (by simp) (.cells (enC f) 29)
  have h0 := (holds_new w (enC e) 29).alloc (.cells (enC f) 29)
  have h1 := holds_new (w.alloc (.cells (enC e) 29)) (enC f) 29
  simp only [World.size_alloc] at h1
  by_cases hbig : (1048576 : Int) < ((e.order.deed.name.size + e.order.deed.page.size : Nat) : Int)
  · go_enter Try.func4, Try.ntmps4
    go_wp2_with fail
    refine (enSz_big e 1048576 _ (by omega) (by omega) ⟨hn, hp⟩ hbig).mono ?_
    rintro r w1 ⟨rfl, b1⟩
    go_wp2
    go_ret
    exact ⟨rfl, next b0 b1⟩
  obtain ⟨N, hN⟩ : ∃ N : Int, (1048576 : Int) - ((e.order.deed.name.size + e.order.deed.page.size : Nat) : Int) = N := ⟨_, rfl⟩
  have hge : 0 ≤ N := by omega
  have hle : N ≤ 1048576 := by omega
  have HN := Lib.hid hN
  clear hN
  by_cases hbig2 : N < ((f.order.deed.name.size + f.order.deed.page.size : Nat) : Int)
  · go_enter Try.func4, Try.ntmps4
    go_wp2_with fail
    refine (enSz_small e 1048576 _ (by omega) (by omega)).mono ?_
    rintro r w1 ⟨rfl, b1⟩
    rw [HN.out]
    replace h1 := h1.below b1
    replace b0 := next b0 b1
    obtain ⟨p0, p1, p2, p3, p4, p5, p6, p7, p8, p9⟩ := h1.ten
    clear b1
    go_wp2_with fail
    refine (enSz_big f N _ hge hle ⟨hn', hp'⟩ hbig2).mono ?_
    rintro r w2 ⟨rfl, b2⟩
    clear p0 p1 p2 p3 p4 p5 p6 p7 p8 p9
    go_wp2
    go_ret
    exact ⟨rfl, next b0 b2⟩
  have hge2 : 0 ≤ N - ((f.order.deed.name.size + f.order.deed.page.size : Nat) : Int) := by omega
  go_enter Try.func4, Try.ntmps4
  go_wp2_with fail
  refine (enSz_small e 1048576 _ (by omega) (by omega)).mono ?_
  rintro r w1 ⟨rfl, b1⟩
  rw [HN.out]
  replace h0 := h0.below b1
  replace h1 := h1.below b1
  replace b0 := next b0 b1
  obtain ⟨p0, p1, p2, p3, p4, p5, p6, p7, p8, p9⟩ := h1.ten
  clear b1
  go_wp2_with fail
  refine (enSz_small f N _ hle (by omega)).mono ?_
  rintro r w2 ⟨rfl, b2⟩
  replace h0 := h0.below b2
  replace h1 := h1.below b2
  replace b0 := next b0 b2
  clear p0 p1 p2 p3 p4 p5 p6 p7 p8 p9 b2
  obtain ⟨p0, p1, p2, p3, p4, p5, p6, p7, p8, p9⟩ := h0.ten
  obtain ⟨q0, q1, q2, q3, q4, q5, q6, q7, q8, q9⟩ := h1.ten
  have z0 := h0.1
  have z1 := h1.1
  go_upto_region 8 with (fail)
  refine wp_region_seq (fun w' => Below w2.heap.size w2 w') [(0, true), (2, true), (1, false), (3, false), (4, false), (5, true)] (by kernel_rfl) (by kernel_rfl) (fun _ _ _ _ _ h => h) (by kernel_rfl) (by decide) (Below.refl _ _).drew ?_
  intro hHeld
  repeat (first
    | (refine seq_skip (by simp only [List.getElem?_toArray, List.getElem?_cons_succ, List.getElem?_cons_zero]; first | done | rfl) (by rfl) ?_; (try simp only [Act.put, List.setIfInBounds_toArray, List.set_cons_zero, List.set_cons_succ]))
    | (refine seq_reads (by simp only [List.getElem?_toArray, List.getElem?_cons_succ, List.getElem?_cons_zero]; first | done | rfl) (by rfl) ?_; apply Exists.intro; apply And.intro; (focus (intro w hSw; obtain ⟨hcS, -⟩ := bcell hSw; go_simp; (try with_reducible rfl); done)); (try simp only [Act.put, List.setIfInBounds_toArray, List.set_cons_zero, List.set_cons_succ]))
    | (refine seq_pass (by simp only [List.getElem?_toArray, List.getElem?_cons_succ, List.getElem?_cons_zero]; first | done | rfl) (by rfl) hHeld ?_; clear hHeld; intro hHeld; (try simp only [Act.put, List.setIfInBounds_toArray, List.set_cons_zero, List.set_cons_succ]))
    | (refine seq_call (by simp only [List.getElem?_toArray, List.getElem?_cons_succ, List.getElem?_cons_zero]; first | done | rfl) (by rfl) (fun K hK => ?_); go_simp; go_at_call 7; refine (enTo_any _ _).mono ?_; rintro r w1 ⟨rfl, b1⟩; go_simp; refine hK.out _ _ (next hHeld b1) ?_; clear hK hHeld; intro hHeld; (try simp only [Act.put, List.setIfInBounds_toArray, List.set_cons_zero, List.set_cons_succ]))
    | (refine seq_call (by simp only [List.getElem?_toArray, List.getElem?_cons_succ, List.getElem?_cons_zero]; first | done | rfl) (by rfl) (fun K hK => ?_); go_simp; go_at_call 9; refine (specSameEntry e f _).mono ?_; rintro r w1 ⟨rfl, b1⟩; go_simp; refine hK.out _ _ (next hHeld b1) ?_; clear hK hHeld; intro hHeld; (try simp only [Act.put, List.setIfInBounds_toArray, List.set_cons_zero, List.set_cons_succ])))
  refine seq_end ?_
  replace b0 := next b0 hHeld
  replace h0 := h0.below hHeld
  replace h1 := h1.below hHeld
  clear p0 p1 p2 p3 p4 p5 p6 p7 p8 p9 q0 q1 q2 q3 q4 q5 q6 q7 q8 q9 z0 z1 hHeld
  obtain ⟨p0, p1, p2, p3, p4, p5, p6, p7, p8, p9⟩ := h0.ten
  obtain ⟨q0, q1, q2, q3, q4, q5, q6, q7, q8, q9⟩ := h1.ten
  have z0 := h0.1
  have z1 := h1.1
  go_upto_region 9 with (fail)
  refine wp_region_seq (fun w' => Below w1.heap.size w1 w') [(0, true), (2, true), (1, false), (3, false), (4, false), (5, true)] (by kernel_rfl) (by kernel_rfl) (fun _ _ _ _ _ h => h) (by kernel_rfl) (by decide) (Below.refl _ _).drew ?_
  intro hHeld
  repeat (first
    | (refine seq_skip (by simp only [List.getElem?_toArray, List.getElem?_cons_succ, List.getElem?_cons_zero]; first | done | rfl) (by rfl) ?_; (try simp only [Act.put, List.setIfInBounds_toArray, List.set_cons_zero, List.set_cons_succ]))
    | (refine seq_reads (by simp only [List.getElem?_toArray, List.getElem?_cons_succ, List.getElem?_cons_zero]; first | done | rfl) (by rfl) ?_; apply Exists.intro; apply And.intro; (focus (intro w hSw; obtain ⟨hcS, -⟩ := bcell hSw; go_simp; (try with_reducible rfl); done)); (try simp only [Act.put, List.setIfInBounds_toArray, List.set_cons_zero, List.set_cons_succ]))
    | (refine seq_pass (by simp only [List.getElem?_toArray, List.getElem?_cons_succ, List.getElem?_cons_zero]; first | done | rfl) (by rfl) hHeld ?_; clear hHeld; intro hHeld; (try simp only [Act.put, List.setIfInBounds_toArray, List.set_cons_zero, List.set_cons_succ]))
    | (refine seq_call (by simp only [List.getElem?_toArray, List.getElem?_cons_succ, List.getElem?_cons_zero]; first | done | rfl) (by rfl) (fun K hK => ?_); go_simp; go_at_call 7; refine (enTo_any _ _).mono ?_; rintro r w1 ⟨rfl, b1⟩; go_simp; refine hK.out _ _ (next hHeld b1) ?_; clear hK hHeld; intro hHeld; (try simp only [Act.put, List.setIfInBounds_toArray, List.set_cons_zero, List.set_cons_succ]))
    | (refine seq_call (by simp only [List.getElem?_toArray, List.getElem?_cons_succ, List.getElem?_cons_zero]; first | done | rfl) (by rfl) (fun K hK => ?_); go_simp; go_at_call 10; refine (implSameEntry e f _).mono ?_; rintro r w1 ⟨rfl, b1⟩; go_simp; refine hK.out _ _ (next hHeld b1) ?_; clear hK hHeld; intro hHeld; (try simp only [Act.put, List.setIfInBounds_toArray, List.set_cons_zero, List.set_cons_succ])))
  refine seq_end ?_
  replace b0 := next b0 hHeld
  replace h0 := h0.below hHeld
  replace h1 := h1.below hHeld
  clear p0 p1 p2 p3 p4 p5 p6 p7 p8 p9 q0 q1 q2 q3 q4 q5 q6 q7 q8 q9 z0 z1 hHeld
  go_wp2
  go_ret
  exact ⟨rfl, b0⟩

set_option maxRecDepth 100000 in
theorem lifted (os : Os) (started : os.Started) (H : Type) (enc : TypeId × Value → H) :
    ReturnsInHanded {} Try.checked os 4 .any (Rows.fnExactSameEntrySpec.pre6 enc Try.prog Try.f4 Rows.fnExactSameEntryRow.domain false) (Rows.fnExactSameEntrySpec.post enc Try.prog Try.f4 false true false false) := by
  refine returnsInHanded_of_change (C := Try.checked) own started (by kernel_rfl) Try.func4
    (ChangeSpec.witness6 (enc := enc) (C := Try.checked) false ⟨#[], #[.agg #[.int .i64 0, .int .i64 0, .int .i64 0, .int .i64 0, .string ByteArray.empty, .int .i64 0, .int .i64 0, .int .i64 0, .string ByteArray.empty, .int .i64 0], .agg #[.int .i64 0, .int .i64 0, .int .i64 0, .int .i64 0, .string ByteArray.empty, .int .i64 0, .int .i64 0, .int .i64 0, .string ByteArray.empty, .int .i64 0]], []⟩ 8 (by kernel_rfl) (by kernel_rfl) (by kernel_rfl) (by kernel_rfl)) ?_
  intro W base args ds gs before hval0 hW hcnd _
  have hval : ∀ (j : Nat) t v, Try.f4.params[j]? = some t → args[j]? = some v → Value.okWide Try.prog W .any base t v := hval0
  have hW' := hW
  obtain ⟨p, q, hA0, -⟩ := hW
  have hA : DataW.TrodAll enc Try.prog W 0 (fun _ => true) true Try.f4.params.toList args.toList ds p := hA0
  rw [Try.params4] at hA hval
  obtain ⟨v0, vs0, d0, ds0, p0, q0, hargs, rfl, rfl, h0, r0⟩ := trodAll_cons hA
  obtain ⟨v1, vs1, d1, ds1, p1, q1, rfl, rfl, rfl, h1, r1⟩ := trodAll_cons r0
  obtain ⟨rfl, rfl, rfl⟩ := trodAll_nil r1
  obtain rfl : args = #[v0, v1] := by cases args; simp_all
  clear hA0 hval0
  have hv0 := hval 0 _ v0 rfl rfl
  have hv1 := hval 1 _ v1 rfl rfl
  obtain ⟨e, rfl, hn, hp⟩ := open_en Try.underlying29 (by kernel_rfl) (by kernel_rfl) (by kernel_rfl) Try.underlying2 ⟨Try.underlying27, (by kernel_rfl), (by kernel_rfl), (by kernel_rfl), Try.underlying2, Try.underlying2, ⟨Try.underlying25, (by kernel_rfl), (by kernel_rfl), (by kernel_rfl), Try.underlying2, Try.underlying9, Try.underlying23, Try.underlying9, Try.underlying2, (by kernel_rfl), (by kernel_rfl), Try.underlying2, Try.underlying2, Try.underlying2⟩⟩ hv0 h0
  obtain ⟨f, rfl, hn', hp'⟩ := open_en Try.underlying29 (by kernel_rfl) (by kernel_rfl) (by kernel_rfl) Try.underlying2 ⟨Try.underlying27, (by kernel_rfl), (by kernel_rfl), (by kernel_rfl), Try.underlying2, Try.underlying2, ⟨Try.underlying25, (by kernel_rfl), (by kernel_rfl), (by kernel_rfl), Try.underlying2, Try.underlying9, Try.underlying23, Try.underlying9, Try.underlying2, (by kernel_rfl), (by kernel_rfl), Try.underlying2, Try.underlying2, Try.underlying2⟩⟩ hv1 h1
  exact (walk e f hn hp hn' hp' W).mono fun r W' ⟨he, hb⟩ => ⟨_, he, law_post rfl rfl Try.underlying4 (by kernel_rfl) (n := 2)
    (fun ds' hd => by rcases ds' with _ | ⟨x0, _ | ⟨x1, _ | ⟨y, z⟩⟩⟩ <;> simp at hd <;> exact ⟨rfl, rfl, rfl⟩) rfl hW' hb⟩

theorem over : Rows.fnExactSameEntryRow.holds Try.pinned (OpenSpec.ofChange Rows.fnExactSameEntrySpec) :=
  OpenClaim.holds_of_wide 4 Try.f4 rfl rfl rfl rfl rfl rfl rfl ⟨rfl, rfl, rfl, rfl, rfl⟩ rfl rfl rfl rfl rfl (by kernel_rfl) Try.func4 (by kernel_rfl)
    (of_decide_eq_true (by kernel_rfl)) (by unfold Func.isWrapper; first | (rw [if_pos (by decide +kernel)]; kernel_rfl) | (rw [if_neg (by decide +kernel)]; exact ⟨rfl, rfl⟩))
    (fun os started H enc _ => lifted os started H enc)

theorem proved : Rows.FnExactSameEntrySaid :=
  over
#print axioms proved
end Go.Proofs.Ytblcgbgcccjpcaa.fnExactSameEntry
