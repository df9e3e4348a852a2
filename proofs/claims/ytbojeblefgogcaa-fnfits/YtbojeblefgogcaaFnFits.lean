/- Proved: the law FnFits returns true at every list of bytes, and the list reads afterwards as before; no condition. -/
import Derived.Test.YtbojeblefgogcaaEdImpl
import Derived.Test.YtbojeblefgogcaaEdMathB
import Derived.Test.YtbojeblefgogcaaDrawEd
import Derived.Test.YtbojeblefgogcaaCode
import Derived.Test.YtbojeblefgogcaaShell
import Derived.Lib.SmallJoins
namespace Go.Proofs.Ytbojeblefgogcaa.fnFits
open Go.ChangeShapes Go.WideShapes Go.ChangeAt Go.RowKit Go.Joins Go.Deep
open Go.ChangeMaps (open_string shut_string)
set_option linter.unusedVariables false

set_option maxHeartbeats 1000000 in
theorem walk (a0 : Option Addr) (len0 cap0 : Nat) (w : World) (hc : CodeOk w.heap.size w a0 len0) :
    Calls Try.prog 3 #[.slice a0 len0 cap0] w fun e w' => e = .returned (.bool true) ∧ Below w.heap.size w w' := by
  have HC := Lib.hid hc
  clear hc
  by_cases hbig : 4096 < len0
  · go_enter Try.func3, Try.ntmps3
    go_wp2_with fail
    refine (big_any a0 len0 cap0 _).mono ?_
    rintro e w' ⟨rfl, rfl⟩
    go_wp2
    go_ret
    exact ⟨rfl, Below.refl _ _⟩
  · have hl : len0 ≤ 4096 := by omega
    go_enter Try.func3, Try.ntmps3
    go_wp2_with fail
    refine (big_any a0 len0 cap0 _).mono ?_
    rintro e w' ⟨rfl, rfl⟩
    go_wp2_with fail
    refine (DrawFits_any _ a0 len0 cap0 hl HC.out).mono ?_
    rintro e x1 ⟨a, b, rfl, b1⟩
    have HC1 := Lib.hid (HC.out.later b1)
    clear HC
    have bb := (b1.alloc b1.size (.cells #[.int .i64 a.ma, .int .i64 a.mi, .int .i64 a.pa] 25)).alloc (by have := b1.size; simp; omega) (.cells #[.int .i64 b.ma, .int .i64 b.mi, .int .i64 b.pa] 25)
    have ta := (three_new x1 a 25).alloc (.cells #[.int .i64 b.ma, .int .i64 b.mi, .int .i64 b.pa] 25)
    have tb := three_new (x1.alloc (.cells #[.int .i64 a.ma, .int .i64 a.mi, .int .i64 a.pa] 25)) b 25
    simp only [World.size_alloc] at tb
    clear b1
    go_wp2_with fail
    refine (implFits a b _).mono ?_
    rintro e x2 ⟨rfl, b2⟩
    have HC2 := Lib.hid (((HC1.out.alloc (Nat.le_refl _) _).alloc (by simp) _).later' (by simp; omega) |>.later b2)
    replace bb := next bb b2
    replace ta := ta.below b2
    replace tb := tb.below b2
    clear b2 HC1
    go_wp2_with fail
    refine (DrawEditionOk_any _ a0 len0 cap0 hl HC2.out).mono ?_
    rintro e x3 ⟨c, rfl, b3⟩
    replace bb := (next bb b3).alloc (next bb b3).size (.cells #[.int .i64 c.ma, .int .i64 c.mi, .int .i64 c.pa] 25)
    replace ta := (ta.below b3).alloc (.cells #[.int .i64 c.ma, .int .i64 c.mi, .int .i64 c.pa] 25)
    replace tb := (tb.below b3).alloc (.cells #[.int .i64 c.ma, .int .i64 c.mi, .int .i64 c.pa] 25)
    have tc := three_new x3 c 25
    clear b3 HC2
    have ta' := ta
    have tb' := tb
    obtain ⟨p0, p1, p2⟩ := ta'
    obtain ⟨q0, q1, q2⟩ := tb'
    go_wp2_with fail
    refine (specFits a b _).mono ?_
    rintro e x4 ⟨rfl, b4⟩
    replace bb := next bb b4
    replace ta := ta.below b4
    replace tb := tb.below b4
    replace tc := tc.below b4
    clear b4 p0 p1 p2 q0 q1 q2
    obtain ⟨p0, p1, p2⟩ := ta
    obtain ⟨q0, q1, q2⟩ := tb
    obtain ⟨r0, r1, r2⟩ := tc
    have hcc := M.fits_self c
    have hcc' : (M.fits c c == M.edOk c) = true := by simp [hcc]
    clear hcc
    rcases hf : M.fits a b with _ | _
    · go_wp2_with fail
      refine wp_region_seq (fun w' => Below w.heap.size w w' ∧ w'.cell? ⟨x1.heap.size, 0, none⟩ = some (.int .i64 a.ma) ∧ w'.cell? ⟨x1.heap.size, 1, none⟩ = some (.int .i64 a.mi) ∧ w'.cell? ⟨x1.heap.size, 2, none⟩ = some (.int .i64 a.pa) ∧ w'.cell? ⟨x1.heap.size + 1, 0, none⟩ = some (.int .i64 b.ma) ∧ w'.cell? ⟨x1.heap.size + 1, 1, none⟩ = some (.int .i64 b.mi) ∧ w'.cell? ⟨x1.heap.size + 1, 2, none⟩ = some (.int .i64 b.pa) ∧ w'.cell? ⟨x3.heap.size, 0, none⟩ = some (.int .i64 c.ma) ∧ w'.cell? ⟨x3.heap.size, 1, none⟩ = some (.int .i64 c.mi) ∧ w'.cell? ⟨x3.heap.size, 2, none⟩ = some (.int .i64 c.pa)) [(0, true), (1, true), (2, true), (3, true), (4, true), (5, true), (6, true), (7, true), (8, true), (9, true), (10, false), (11, true), (12, true), (13, true), (14, true), (15, true), (17, true), (16, false), (18, false), (19, true), (20, true)] (by kernel_rfl) (by kernel_rfl) (fun _ _ _ _ _ h => h) (by kernel_rfl) (by decide) ?_ (fun hHeld => ?_)
      · ((try dsimp only); (repeat' apply And.intro) <;> first | assumption | exact kp _ _ _ (by assumption) | (exact Below.drew (by assumption)) | (simp [go_sem]; done))
      repeat (first
        | (refine seq_skip (by simp only [List.getElem?_toArray, List.getElem?_cons_succ, List.getElem?_cons_zero]; first | done | rfl) (by rfl) ?_; (try simp only [Act.put, List.setIfInBounds_toArray, List.set_cons_zero, List.set_cons_succ]))
        | (refine seq_reads (by simp only [List.getElem?_toArray, List.getElem?_cons_succ, List.getElem?_cons_zero]; first | done | rfl) (by rfl) ?_; apply Exists.intro; apply And.intro; (focus (intro w hSw; (try dsimp only at hSw); go_split_ands; go_simp; (try with_reducible rfl); done)); (try simp only [Act.put, List.setIfInBounds_toArray, List.set_cons_zero, List.set_cons_succ]))
        | (refine seq_pass (by simp only [List.getElem?_toArray, List.getElem?_cons_succ, List.getElem?_cons_zero]; first | done | rfl) (by rfl) (by assumption) (fun hHeld => ?_); (try simp only [Act.put, List.setIfInBounds_toArray, List.set_cons_zero, List.set_cons_succ]))
        | (refine seq_call (by simp only [List.getElem?_toArray, List.getElem?_cons_succ, List.getElem?_cons_zero]; first | done | rfl) (by rfl) (fun K hK => ?_); go_simp; go_at_call 9; go_split_ands; refine (keeps (implFits _ _ _) (W0 := w) ?_).mono ?_; (first | assumption | (exact Below.drew (by assumption))); rintro r w1 ⟨rfl, b1, kp⟩; go_simp; refine hK.out _ _ ?_ (fun hHeld => ?_); ((try dsimp only); (repeat' apply And.intro) <;> first | assumption | exact kp _ _ _ (by assumption) | (exact Below.drew (by assumption)) | (simp [go_sem]; done)); clear hK; (try simp only [Act.put, List.setIfInBounds_toArray, List.set_cons_zero, List.set_cons_succ]))
        | (refine seq_call (by simp only [List.getElem?_toArray, List.getElem?_cons_succ, List.getElem?_cons_zero]; first | done | rfl) (by rfl) (fun K hK => ?_); go_simp; go_at_call 13; go_split_ands; refine (keeps (specEditionOk _ _) (W0 := w) ?_).mono ?_; (first | assumption | (exact Below.drew (by assumption))); rintro r w1 ⟨rfl, b1, kp⟩; go_simp; refine hK.out _ _ ?_ (fun hHeld => ?_); ((try dsimp only); (repeat' apply And.intro) <;> first | assumption | exact kp _ _ _ (by assumption) | (exact Below.drew (by assumption)) | (simp [go_sem]; done)); clear hK; (try simp only [Act.put, List.setIfInBounds_toArray, List.set_cons_zero, List.set_cons_succ]))
        | (refine seq_call (by simp only [List.getElem?_toArray, List.getElem?_cons_succ, List.getElem?_cons_zero]; first | done | rfl) (by rfl) (fun K hK => ?_); go_simp; go_at_call 12; go_split_ands; refine (keeps (specOlder _ _ _) (W0 := w) ?_).mono ?_; (first | assumption | (exact Below.drew (by assumption))); rintro r w1 ⟨rfl, b1, kp⟩; go_simp; refine hK.out _ _ ?_ (fun hHeld => ?_); ((try dsimp only); (repeat' apply And.intro) <;> first | assumption | exact kp _ _ _ (by assumption) | (exact Below.drew (by assumption)) | (simp [go_sem]; done)); clear hK; (try simp only [Act.put, List.setIfInBounds_toArray, List.set_cons_zero, List.set_cons_succ])))
      refine seq_end ?_
      go_split_ands
      go_wp2
      go_ret
      exact ⟨rfl, by assumption⟩
    · obtain ⟨hm, ho⟩ := M.fits_true hf
      have hm' : (a.ma != b.ma) = false := by simpa using hm
      have HT := Lib.hid (fun h => M.fits_trans (c := c) hf h)
      clear hm
      rcases hg : M.fits b c with _ | _
      · go_wp2_with fail
        refine wp_region_seq (fun w' => Below w.heap.size w w' ∧ w'.cell? ⟨x1.heap.size, 0, none⟩ = some (.int .i64 a.ma) ∧ w'.cell? ⟨x1.heap.size, 1, none⟩ = some (.int .i64 a.mi) ∧ w'.cell? ⟨x1.heap.size, 2, none⟩ = some (.int .i64 a.pa) ∧ w'.cell? ⟨x1.heap.size + 1, 0, none⟩ = some (.int .i64 b.ma) ∧ w'.cell? ⟨x1.heap.size + 1, 1, none⟩ = some (.int .i64 b.mi) ∧ w'.cell? ⟨x1.heap.size + 1, 2, none⟩ = some (.int .i64 b.pa) ∧ w'.cell? ⟨x3.heap.size, 0, none⟩ = some (.int .i64 c.ma) ∧ w'.cell? ⟨x3.heap.size, 1, none⟩ = some (.int .i64 c.mi) ∧ w'.cell? ⟨x3.heap.size, 2, none⟩ = some (.int .i64 c.pa)) [(0, true), (1, true), (2, true), (3, true), (4, true), (5, true), (6, true), (7, true), (8, true), (9, true), (10, false), (11, true), (12, true), (13, true), (14, true), (15, true), (17, true), (16, false), (18, false), (19, true), (20, true)] (by kernel_rfl) (by kernel_rfl) (fun _ _ _ _ _ h => h) (by kernel_rfl) (by decide) ?_ (fun hHeld => ?_)
        · ((try dsimp only); (repeat' apply And.intro) <;> first | assumption | exact kp _ _ _ (by assumption) | (exact Below.drew (by assumption)) | (simp [go_sem]; done))
        repeat (first
          | (refine seq_skip (by simp only [List.getElem?_toArray, List.getElem?_cons_succ, List.getElem?_cons_zero]; first | done | rfl) (by rfl) ?_; (try simp only [Act.put, List.setIfInBounds_toArray, List.set_cons_zero, List.set_cons_succ]))
          | (refine seq_reads (by simp only [List.getElem?_toArray, List.getElem?_cons_succ, List.getElem?_cons_zero]; first | done | rfl) (by rfl) ?_; apply Exists.intro; apply And.intro; (focus (intro w hSw; (try dsimp only at hSw); go_split_ands; go_simp; (try with_reducible rfl); done)); (try simp only [Act.put, List.setIfInBounds_toArray, List.set_cons_zero, List.set_cons_succ]))
          | (refine seq_pass (by simp only [List.getElem?_toArray, List.getElem?_cons_succ, List.getElem?_cons_zero]; first | done | rfl) (by rfl) (by assumption) (fun hHeld => ?_); (try simp only [Act.put, List.setIfInBounds_toArray, List.set_cons_zero, List.set_cons_succ]))
          | (refine seq_call (by simp only [List.getElem?_toArray, List.getElem?_cons_succ, List.getElem?_cons_zero]; first | done | rfl) (by rfl) (fun K hK => ?_); go_simp; go_at_call 9; go_split_ands; refine (keeps (implFits _ _ _) (W0 := w) ?_).mono ?_; (first | assumption | (exact Below.drew (by assumption))); rintro r w1 ⟨rfl, b1, kp⟩; go_simp; refine hK.out _ _ ?_ (fun hHeld => ?_); ((try dsimp only); (repeat' apply And.intro) <;> first | assumption | exact kp _ _ _ (by assumption) | (exact Below.drew (by assumption)) | (simp [go_sem]; done)); clear hK; (try simp only [Act.put, List.setIfInBounds_toArray, List.set_cons_zero, List.set_cons_succ]))
          | (refine seq_call (by simp only [List.getElem?_toArray, List.getElem?_cons_succ, List.getElem?_cons_zero]; first | done | rfl) (by rfl) (fun K hK => ?_); go_simp; go_at_call 13; go_split_ands; refine (keeps (specEditionOk _ _) (W0 := w) ?_).mono ?_; (first | assumption | (exact Below.drew (by assumption))); rintro r w1 ⟨rfl, b1, kp⟩; go_simp; refine hK.out _ _ ?_ (fun hHeld => ?_); ((try dsimp only); (repeat' apply And.intro) <;> first | assumption | exact kp _ _ _ (by assumption) | (exact Below.drew (by assumption)) | (simp [go_sem]; done)); clear hK; (try simp only [Act.put, List.setIfInBounds_toArray, List.set_cons_zero, List.set_cons_succ]))
          | (refine seq_call (by simp only [List.getElem?_toArray, List.getElem?_cons_succ, List.getElem?_cons_zero]; first | done | rfl) (by rfl) (fun K hK => ?_); go_simp; go_at_call 12; go_split_ands; refine (keeps (specOlder _ _ _) (W0 := w) ?_).mono ?_; (first | assumption | (exact Below.drew (by assumption))); rintro r w1 ⟨rfl, b1, kp⟩; go_simp; refine hK.out _ _ ?_ (fun hHeld => ?_); ((try dsimp only); (repeat' apply And.intro) <;> first | assumption | exact kp _ _ _ (by assumption) | (exact Below.drew (by assumption)) | (simp [go_sem]; done)); clear hK; (try simp only [Act.put, List.setIfInBounds_toArray, List.set_cons_zero, List.set_cons_succ])))
        refine seq_end ?_
        go_split_ands
        go_wp2_with fail
        refine (implFits b c _).mono ?_
        rintro e x5 ⟨rfl, b5⟩
        go_wp2
        go_ret
        exact ⟨rfl, next (by assumption) b5⟩
      · have ht := HT.out hg
        go_wp2_with fail
        refine wp_region_seq (fun w' => Below w.heap.size w w' ∧ w'.cell? ⟨x1.heap.size, 0, none⟩ = some (.int .i64 a.ma) ∧ w'.cell? ⟨x1.heap.size, 1, none⟩ = some (.int .i64 a.mi) ∧ w'.cell? ⟨x1.heap.size, 2, none⟩ = some (.int .i64 a.pa) ∧ w'.cell? ⟨x1.heap.size + 1, 0, none⟩ = some (.int .i64 b.ma) ∧ w'.cell? ⟨x1.heap.size + 1, 1, none⟩ = some (.int .i64 b.mi) ∧ w'.cell? ⟨x1.heap.size + 1, 2, none⟩ = some (.int .i64 b.pa) ∧ w'.cell? ⟨x3.heap.size, 0, none⟩ = some (.int .i64 c.ma) ∧ w'.cell? ⟨x3.heap.size, 1, none⟩ = some (.int .i64 c.mi) ∧ w'.cell? ⟨x3.heap.size, 2, none⟩ = some (.int .i64 c.pa)) [(0, true), (1, true), (2, true), (3, true), (4, true), (5, true), (6, true), (7, true), (8, true), (9, true), (10, false), (11, true), (12, true), (13, true), (14, true), (15, true), (17, true), (16, false), (18, false), (19, true), (20, true)] (by kernel_rfl) (by kernel_rfl) (fun _ _ _ _ _ h => h) (by kernel_rfl) (by decide) ?_ (fun hHeld => ?_)
        · ((try dsimp only); (repeat' apply And.intro) <;> first | assumption | exact kp _ _ _ (by assumption) | (exact Below.drew (by assumption)) | (simp [go_sem]; done))
        repeat (first
          | (refine seq_skip (by simp only [List.getElem?_toArray, List.getElem?_cons_succ, List.getElem?_cons_zero]; first | done | rfl) (by rfl) ?_; (try simp only [Act.put, List.setIfInBounds_toArray, List.set_cons_zero, List.set_cons_succ]))
          | (refine seq_reads (by simp only [List.getElem?_toArray, List.getElem?_cons_succ, List.getElem?_cons_zero]; first | done | rfl) (by rfl) ?_; apply Exists.intro; apply And.intro; (focus (intro w hSw; (try dsimp only at hSw); go_split_ands; go_simp; (try with_reducible rfl); done)); (try simp only [Act.put, List.setIfInBounds_toArray, List.set_cons_zero, List.set_cons_succ]))
          | (refine seq_pass (by simp only [List.getElem?_toArray, List.getElem?_cons_succ, List.getElem?_cons_zero]; first | done | rfl) (by rfl) (by assumption) (fun hHeld => ?_); (try simp only [Act.put, List.setIfInBounds_toArray, List.set_cons_zero, List.set_cons_succ]))
          | (refine seq_call (by simp only [List.getElem?_toArray, List.getElem?_cons_succ, List.getElem?_cons_zero]; first | done | rfl) (by rfl) (fun K hK => ?_); go_simp; go_at_call 9; go_split_ands; refine (keeps (implFits _ _ _) (W0 := w) ?_).mono ?_; (first | assumption | (exact Below.drew (by assumption))); rintro r w1 ⟨rfl, b1, kp⟩; go_simp; refine hK.out _ _ ?_ (fun hHeld => ?_); ((try dsimp only); (repeat' apply And.intro) <;> first | assumption | exact kp _ _ _ (by assumption) | (exact Below.drew (by assumption)) | (simp [go_sem]; done)); clear hK; (try simp only [Act.put, List.setIfInBounds_toArray, List.set_cons_zero, List.set_cons_succ]))
          | (refine seq_call (by simp only [List.getElem?_toArray, List.getElem?_cons_succ, List.getElem?_cons_zero]; first | done | rfl) (by rfl) (fun K hK => ?_); go_simp; go_at_call 13; go_split_ands; refine (keeps (specEditionOk _ _) (W0 := w) ?_).mono ?_; (first | assumption | (exact Below.drew (by assumption))); rintro r w1 ⟨rfl, b1, kp⟩; go_simp; refine hK.out _ _ ?_ (fun hHeld => ?_); ((try dsimp only); (repeat' apply And.intro) <;> first | assumption | exact kp _ _ _ (by assumption) | (exact Below.drew (by assumption)) | (simp [go_sem]; done)); clear hK; (try simp only [Act.put, List.setIfInBounds_toArray, List.set_cons_zero, List.set_cons_succ]))
          | (refine seq_call (by simp only [List.getElem?_toArray, List.getElem?_cons_succ, List.getElem?_cons_zero]; first | done | rfl) (by rfl) (fun K hK => ?_); go_simp; go_at_call 12; go_split_ands; refine (keeps (specOlder _ _ _) (W0 := w) ?_).mono ?_; (first | assumption | (exact Below.drew (by assumption))); rintro r w1 ⟨rfl, b1, kp⟩; go_simp; refine hK.out _ _ ?_ (fun hHeld => ?_); ((try dsimp only); (repeat' apply And.intro) <;> first | assumption | exact kp _ _ _ (by assumption) | (exact Below.drew (by assumption)) | (simp [go_sem]; done)); clear hK; (try simp only [Act.put, List.setIfInBounds_toArray, List.set_cons_zero, List.set_cons_succ])))
        refine seq_end ?_
        go_split_ands
        have ta : Three _ x1.heap.size a := ⟨by assumption, by assumption, by assumption⟩
        have tc : Three _ x3.heap.size c := ⟨by assumption, by assumption, by assumption⟩
        go_wp2_with fail
        refine (implFits b c _).mono ?_
        rintro e x5 ⟨rfl, b5⟩
        obtain ⟨g0, g1, g2⟩ := ta.below b5
        obtain ⟨k0, k1, k2⟩ := tc.below b5
        go_wp2_with fail
        refine (implFits a c _).mono ?_
        rintro e x6 ⟨rfl, b6⟩
        go_wp2
        go_ret
        exact ⟨rfl, next (next (by assumption) b5) b6⟩

set_option maxRecDepth 100000 in
theorem lifted (os : Os) (started : os.Started) (H : Type) (enc : TypeId × Value → H) :
    ReturnsInHanded {} Try.checked os 3 .any (Rows.fnFitsSpec.pre6 enc Try.prog Try.f3 Rows.fnFitsRow.domain false) (Rows.fnFitsSpec.post enc Try.prog Try.f3 false true false false) := by
  refine returnsInHanded_of_change (C := Try.checked) own started (by kernel_rfl) Try.func3
    (ChangeSpec.witness6 (enc := enc) (C := Try.checked) false ⟨#[], #[.slice none 0 0], []⟩ 8 (by kernel_rfl) (by kernel_rfl) (by kernel_rfl) (by kernel_rfl)) ?_
  intro W base args ds gs before hval0 hW hcnd _
  have hval : ∀ (j : Nat) t v, Try.f3.params[j]? = some t → args[j]? = some v → Value.okWide Try.prog W .any base t v := hval0
  have hW' := hW
  obtain ⟨p, q, hA0, -⟩ := hW
  have hA : DataW.TrodAll enc Try.prog W 0 (fun _ => true) true Try.f3.params.toList args.toList ds p := hA0
  rw [Try.params3] at hA hval
  obtain ⟨v0, vs0, d0, ds0, p0, q0, hargs, rfl, rfl, h0, r0⟩ := trodAll_cons hA
  obtain ⟨rfl, rfl, rfl⟩ := trodAll_nil r0
  obtain rfl : args = #[v0] := by cases args; simp_all
  clear hA0 hval0
  have hv0 := hval 0 _ v0 rfl rfl
  obtain ⟨a0, len0, cap0, rfl, hc⟩ := open_code hv0 h0
  exact (walk a0 len0 cap0 W hc).mono fun r W' ⟨he, hb⟩ => ⟨_, he, law_post rfl rfl Try.underlying4 (by kernel_rfl) (n := 1)
    (fun ds' hd => by rcases ds' with _ | ⟨x0, _ | ⟨y, z⟩⟩ <;> simp at hd <;> exact ⟨rfl, rfl, rfl⟩) rfl hW' hb⟩

theorem over : Rows.fnFitsRow.holds Try.pinned (OpenSpec.ofChange Rows.fnFitsSpec) :=
  OpenClaim.holds_of_wide 3 Try.f3 rfl rfl rfl rfl rfl rfl rfl ⟨rfl, rfl, rfl, rfl, rfl⟩ rfl rfl rfl rfl rfl (by kernel_rfl) Try.func3 (by kernel_rfl)
    (of_decide_eq_true (by kernel_rfl)) (by unfold Func.isWrapper; first | (rw [if_pos (by decide +kernel)]; kernel_rfl) | (rw [if_neg (by decide +kernel)]; exact ⟨rfl, rfl⟩))
    (fun os started H enc _ => lifted os started H enc)

theorem proved : Rows.FnFitsSaid :=
  over
#print axioms proved
end Go.Proofs.Ytbojeblefgogcaa.fnFits
