/- Proved: the law FnExactNewest returns true at every work and edition, and they read afterwards as before; no condition. -/
import Derived.Test.YteohnihdnfgngaaWorkEq
import Derived.Test.YteohnihdnfgngaaWorkCopy
import Derived.Test.YteohnihdnfgngaaOpenRows
import Derived.Test.YteohnihdnfgngaaOpenEd
import Derived.Test.YteohnihdnfgngaaOrdersBox
import Derived.Test.YteohnihdnfgngaaWorkNew
import Derived.Test.YteohnihdnfgngaaShell
import Derived.Lib.SmallJoins
namespace Go.Proofs.Yteohnihdnfgngaa.fnExactNewest
open Go.ChangeShapes Go.WideShapes Go.ChangeAt Go.RowKit Go.Joins Go.Deep
open Go.ChangeMaps (open_string shut_string)
set_option linter.unusedVariables false

set_option maxRecDepth 100000 in
set_option maxHeartbeats 16000000 in
theorem walk (name : ByteArray) (owner : Int) (A : Option Addr) (l : List M.Cp) (cap : Nat) (e : M.Ed) (hn : name.size ≤ maxLen) (hlen : l.length ≤ maxLen) (hp : ∀ c ∈ l, c.page.size ≤ maxLen) (w : World) (hl : Cps w A l) :
    Calls Try.prog 9 #[wkV name owner A l.length cap, edV e] w fun e w' => e = .returned (.bool true) ∧ Below w.heap.size w w' := by
  have b0 := ((Below.refl w.heap.size w).alloc (Nat.le_refl _) (.cells (wkL name owner A l.length cap) 49)).alloc (by simp) (.cells (edL e) 53)
  have h0 := (holds_new w (wkL name owner A l.length cap) 49).alloc (.cells (edL e) 53)
  have h1 := holds_new (w.alloc (.cells (wkL name owner A l.length cap) 49)) (edL e) 53
  simp only [World.size_alloc] at h1
  by_cases hbig : 1048576 < name.size + (l.length + M.szPages l)
  · go_enter Try.func9, Try.ntmps9
    go_wp2_with fail
    refine (szWork_big name owner A l cap 1048576 _ (by omega) (by omega) ((hl.alloc _).alloc _) hn hlen hp (by omega)).mono ?_
    rintro r w1 ⟨rfl, b1⟩
    go_wp2
    go_ret
    exact ⟨rfl, next b0 b1⟩
  · have hl20 : l.length ≤ 1048576 := by omega
    have HP : Hid (∀ c ∈ l, c.page.size ≤ 1048576) := Lib.hid (fun c hc => by have := M.szPages_mem l c hc; omega)
    have HM : Hid (∀ c ∈ l, c.page.size ≤ maxLen) := Lib.hid hp
    have hge0 : 0 ≤ (1048576 : Int) - name.size - l.length - M.szPages l := by omega
    clear hp
    go_enter Try.func9, Try.ntmps9
    go_wp2_with fail
    refine (szWork_small name owner A l cap 1048576 _ (by omega) ((hl.alloc _).alloc _) (by omega)).mono ?_
    rintro r w1 ⟨rfl, b1⟩
    replace h0 := h0.below b1
    replace h1 := h1.below b1
    replace b0 := next b0 b1
    have hl1 := hl.below b0
    have z0 := h0.1
    have z1 := h1.1
    obtain ⟨p0, p1, p2⟩ := h0.at3
    obtain ⟨q0, q1, q2⟩ := h1.at3
    clear b1
    go_upto_region 5 with (fail)
    go_cut [6, 7] (fun s6 s7 wx => s7 = .bool (M.newest ⟨name, owner, l⟩ e).2 ∧ BoxAt w1 #[.int .i64 (M.newest ⟨name, owner, l⟩ e).1.ma, .int .i64 (M.newest ⟨name, owner, l⟩ e).1.mi, .int .i64 (M.newest ⟨name, owner, l⟩ e).1.pa] s6 wx)
    case first =>
      refine wp_region_tq (fun w' => Below w1.heap.size w1 w') (.read 0 (.read 2 (.two 1 8 (.two 3 8 (.two 4 8 (.read 5 (.read 6 (.read 7 (.one 8 (.one 9 (.read 10 .done)))))) (.one 4 (.read 5 (.read 6 (.read 7 (.one 9 (.read 10 .done))))))) (.one 3 (.one 4 (.read 5 (.read 6 (.read 7 (.one 9 (.read 10 .done)))))))) (.one 1 (.one 3 (.one 4 (.read 5 (.read 6 (.read 7 (.one 9 (.read 10 .done))))))))))) (by kernel_rfl) (by kernel_rfl) (fun _ _ _ _ _ h => h) (by kernel_rfl) (by decide) (Below.refl _ _).drew ?_
      intro hHeld
      generalize w1.drew = wd at hHeld ⊢
      repeat (first
        | (refine tq_reads (by simp only [List.getElem?_toArray, List.getElem?_cons_succ, List.getElem?_cons_zero]; first | done | rfl) (by rfl) ?_; apply Exists.intro; apply And.intro; (focus (intro w hSw; obtain ⟨hcS, -⟩ := bcell hSw; go_simp; (try with_reducible rfl); done)); (try simp only [Act.put, List.setIfInBounds_toArray, List.set_cons_zero, List.set_cons_succ]))
        | (refine tq_two ?_ ?_)
        | (refine tq_three ?_ ?_ ?_)
        | (refine tq_one (by simp only [List.getElem?_toArray, List.getElem?_cons_succ, List.getElem?_cons_zero]; first | done | rfl) (by rfl) (fun K hK => ?_); go_simp; go_at_call 29; refine (toWork_any name owner A l cap _ (hl1.below hHeld) hl20).mono ?_; rintro r w1 ⟨gw, rfl, ow, b1⟩; go_simp; refine hK.out _ _ _ (fun _ h => h) (next hHeld b1) ?_; clear hK hHeld; intro hHeld; (try (replace fx := fx.below hx.1 b1; replace hx := hx.below b1)); have hgw := own_at ow; clear ow; (try simp only [Act.put, List.setIfInBounds_toArray, List.set_cons_zero, List.set_cons_succ]))
        | (refine tq_one (by simp only [List.getElem?_toArray, List.getElem?_cons_succ, List.getElem?_cons_zero]; first | done | rfl) (by rfl) (fun K hK => ?_); go_simp; go_at_call 31; refine (toEdition_any e _).mono ?_; rintro r w1 ⟨rfl, b1⟩; go_simp; refine hK.out _ _ _ (fun _ h => h) (next hHeld b1) ?_; clear hK hHeld; intro hHeld; (try (replace fx := fx.below hx.1 b1; replace hx := hx.below b1)); replace hgw := hgw.below b1; (try simp only [Act.put, List.setIfInBounds_toArray, List.set_cons_zero, List.set_cons_succ]))
        | (refine tq_one (by simp only [List.getElem?_toArray, List.getElem?_cons_succ, List.getElem?_cons_zero]; first | done | rfl) (by rfl) (fun K hK => ?_); go_simp; go_at_call 25; refine (specNewest name owner _ l _ e _ hgw hn hl20 HM.out).mono ?_; rintro r w1 ⟨rfl, b1⟩; go_simp; refine hK.out _ _ _ (fun _ h => h) (next hHeld b1) ?_; clear hK hHeld; intro hHeld; (try (replace fx := fx.below hx.1 b1; replace hx := hx.below b1)); (try simp only [Act.put, List.setIfInBounds_toArray, List.set_cons_zero, List.set_cons_succ]))
        | (refine tq_one (by simp only [List.getElem?_toArray, List.getElem?_cons_succ, List.getElem?_cons_zero]; first | done | rfl) (by rfl) (fun K hK => ?_); go_simp; refine hK.out _ _ _ (fun _ h => h) (hHeld.alloc hHeld.size _) ?_; clear hK; intro hS; refine tq_alloc ?_ hS; clear hS; intro wA bA hx fx hS; have hge := hHeld.size; clear hHeld; have hHeld := hS; (try replace hgw := hgw.below bA); clear hS bA; (try simp only [Act.put, List.setIfInBounds_toArray, List.set_cons_zero, List.set_cons_succ]))
        | (refine tq_one (by simp only [List.getElem?_toArray, List.getElem?_cons_succ, List.getElem?_cons_zero]; first | done | rfl) (by rfl) (fun K hK => ?_); obtain ⟨x0, x1, x2⟩ := hx.at3; obtain ⟨y0, y1, y2⟩ := fx.fz3; go_simp; refine hK.out _ _ _ (fun _ h => h) (far_3 hHeld hge _ _ _ ) ?_; clear hK hHeld; intro hHeld; (try simp only [Act.put, List.setIfInBounds_toArray, List.set_cons_zero, List.set_cons_succ]))
        | (refine tq_end ?_; go_wp2; go_meet; exact ⟨rfl, _, rfl, hge, hHeld, hx.wr3 _ _ _, fx.wr3 _ _ _⟩))
    case rest =>
    obtain ⟨rfl, G6, rfl, hG6, b2, x6, -⟩ := hcut
    replace h0 := h0.below b2
    replace h1 := h1.below b2
    replace b0 := next b0 b2
    replace hl1 := hl.below b0
    clear p0 p1 p2 q0 q1 q2 b2 z0 z1
    obtain ⟨p0, p1, p2⟩ := h0.at3
    go_wp2_with fail
    refine (toWork_any name owner A l cap _ hl1 hl20).mono ?_
    rintro r w3 ⟨gx, rfl, o2, b4⟩
    replace h0 := (h0.below b4).alloc (.cells (wkL name owner (some ⟨gx, 0, none⟩) l.length l.length) 26)
    replace h1 := (h1.below b4).alloc (.cells (wkL name owner (some ⟨gx, 0, none⟩) l.length l.length) 26)
    replace x6 := (x6.below b4).alloc (.cells (wkL name owner (some ⟨gx, 0, none⟩) l.length l.length) 26)
    have x8 := holds_new w3 (wkL name owner (some ⟨gx, 0, none⟩) l.length l.length) 26
    replace b0 := (next b0 b4).alloc (next b0 b4).size (.cells (wkL name owner (some ⟨gx, 0, none⟩) l.length l.length) 26)
    have hgx := (own_at o2).alloc (.cells (wkL name owner (some ⟨gx, 0, none⟩) l.length l.length) 26)
    clear p0 p1 p2 o2 b4 hl1
    go_upto_region 7 with (fail)
    generalize hw4 : w3.alloc (.cells (wkL name owner (some ⟨gx, 0, none⟩) l.length l.length) 26) = w4 at h0 h1 x6 x8 b0 hgx ⊢
    clear hw4
    have z0 := h0.1
    have z1 := h1.1
    have z6 := x6.1
    have z8 := x8.1
    obtain ⟨q0, q1, q2⟩ := h1.at3
    obtain ⟨r0, r1, r2⟩ := x8.at3
    go_cut [9, 10] (fun s9 s10 wx => s10 = .bool (M.newest ⟨name, owner, l⟩ e).2 ∧ BoxAt w4 #[.int .i64 (M.newest ⟨name, owner, l⟩ e).1.ma, .int .i64 (M.newest ⟨name, owner, l⟩ e).1.mi, .int .i64 (M.newest ⟨name, owner, l⟩ e).1.pa] s9 wx)
    case first =>
      refine wp_region_tq (fun w' => Below w4.heap.size w4 w') (.read 0 (.read 1 (.two 2 7 (.two 3 7 (.read 4 (.read 5 (.read 6 (.one 7 (.one 8 (.read 9 .done)))))) (.one 3 (.read 4 (.read 5 (.read 6 (.one 8 (.read 9 .done))))))) (.one 2 (.one 3 (.read 4 (.read 5 (.read 6 (.one 8 (.read 9 .done)))))))))) (by kernel_rfl) (by kernel_rfl) (fun _ _ _ _ _ h => h) (by kernel_rfl) (by decide) (Below.refl _ _).drew ?_
      intro hHeld
      generalize w4.drew = wd at hHeld ⊢
      repeat (first
        | (refine tq_reads (by simp only [List.getElem?_toArray, List.getElem?_cons_succ, List.getElem?_cons_zero]; first | done | rfl) (by rfl) ?_; apply Exists.intro; apply And.intro; (focus (intro w hSw; obtain ⟨hcS, -⟩ := bcell hSw; go_simp; (try with_reducible rfl); done)); (try simp only [Act.put, List.setIfInBounds_toArray, List.set_cons_zero, List.set_cons_succ]))
        | (refine tq_two ?_ ?_)
        | (refine tq_three ?_ ?_ ?_)
        | (refine tq_one (by simp only [List.getElem?_toArray, List.getElem?_cons_succ, List.getElem?_cons_zero]; first | done | rfl) (by rfl) (fun K hK => ?_); go_simp; go_at_call 31; refine (toEdition_any e _).mono ?_; rintro r w1 ⟨rfl, b1⟩; go_simp; refine hK.out _ _ _ (fun _ h => h) (next hHeld b1) ?_; clear hK hHeld; intro hHeld; (try (replace fx := fx.below hx.1 b1; replace hx := hx.below b1)); (try simp only [Act.put, List.setIfInBounds_toArray, List.set_cons_zero, List.set_cons_succ]))
        | (refine tq_one (by simp only [List.getElem?_toArray, List.getElem?_cons_succ, List.getElem?_cons_zero]; first | done | rfl) (by rfl) (fun K hK => ?_); go_simp; go_at_call 24; refine (implNewest name owner _ l _ e _ (hgx.below hHeld) hn hl20 HM.out).mono ?_; rintro r w1 ⟨rfl, b1⟩; go_simp; refine hK.out _ _ _ (fun _ h => h) (next hHeld b1) ?_; clear hK hHeld; intro hHeld; (try (replace fx := fx.below hx.1 b1; replace hx := hx.below b1)); (try simp only [Act.put, List.setIfInBounds_toArray, List.set_cons_zero, List.set_cons_succ]))
        | (refine tq_one (by simp only [List.getElem?_toArray, List.getElem?_cons_succ, List.getElem?_cons_zero]; first | done | rfl) (by rfl) (fun K hK => ?_); go_simp; refine hK.out _ _ _ (fun _ h => h) (hHeld.alloc hHeld.size _) ?_; clear hK; intro hS; refine tq_alloc ?_ hS; clear hS; intro wA bA hx fx hS; have hge := hHeld.size; clear hHeld; have hHeld := hS; clear hS bA; (try simp only [Act.put, List.setIfInBounds_toArray, List.set_cons_zero, List.set_cons_succ]))
        | (refine tq_one (by simp only [List.getElem?_toArray, List.getElem?_cons_succ, List.getElem?_cons_zero]; first | done | rfl) (by rfl) (fun K hK => ?_); obtain ⟨x0, x1, x2⟩ := hx.at3; obtain ⟨y0, y1, y2⟩ := fx.fz3; go_simp; refine hK.out _ _ _ (fun _ h => h) (far_3 hHeld hge _ _ _ ) ?_; clear hK hHeld; intro hHeld; (try simp only [Act.put, List.setIfInBounds_toArray, List.set_cons_zero, List.set_cons_succ]))
        | (refine tq_end ?_; go_wp2; go_meet; exact ⟨rfl, _, rfl, hge, hHeld, hx.wr3 _ _ _, fx.wr3 _ _ _⟩))
    case rest =>
    obtain ⟨rfl, G9, rfl, hG9, b5, x9, -⟩ := hcut
    replace h0 := h0.below b5
    replace x6 := x6.below b5
    replace x8 := x8.below b5
    replace b0 := next b0 b5
    replace hgx := hgx.below b5
    clear q0 q1 q2 r0 r1 r2 h1 z0 z1 z6 z8 b5
    obtain ⟨u0, u1, u2⟩ := x6.at3
    obtain ⟨v0, v1, v2⟩ := x9.at3
    have z6 := x6.1
    have z9 := x9.1
    have hne : ((M.newest ⟨name, owner, l⟩ e).2 != (M.newest ⟨name, owner, l⟩ e).2) = false := by simp
    go_wp2_with fail
    refine (eqEdition_same (M.newest ⟨name, owner, l⟩ e).1 _).mono ?_
    rintro r w6 ⟨rfl, b6⟩
    replace h0 := h0.below b6
    replace x8 := x8.below b6
    replace b0 := next b0 b6
    have hl6 := hl.below b0
    have hgx6 := hgx.below b6
    clear u0 v0 u1 v1 u2 v2 z6 z9 x6 x9 b6 hgx
    obtain ⟨p0, p1, p2⟩ := h0.at3
    obtain ⟨r0, r1, r2⟩ := x8.at3
    have z0 := h0.1
    have z8 := x8.1
    go_wp2_with fail
    refine wp_region_seq (fun w' => Below w6.heap.size w6 w') [(0, true), (1, true), (2, false), (3, false), (4, true)] (by kernel_rfl) (by kernel_rfl) (fun _ _ _ _ _ h => h) (by kernel_rfl) (by decide) (Below.refl _ _).drew ?_
    intro hHeld
    repeat (first
      | (refine seq_skip (by simp only [List.getElem?_toArray, List.getElem?_cons_succ, List.getElem?_cons_zero]; first | done | rfl) (by rfl) ?_; (try simp only [Act.put, List.setIfInBounds_toArray, List.set_cons_zero, List.set_cons_succ]))
      | (refine seq_reads (by simp only [List.getElem?_toArray, List.getElem?_cons_succ, List.getElem?_cons_zero]; first | done | rfl) (by rfl) ?_; apply Exists.intro; apply And.intro; (focus (intro w hSw; obtain ⟨hcS, -⟩ := bcell hSw; go_simp; (try with_reducible rfl); done)); (try simp only [Act.put, List.setIfInBounds_toArray, List.set_cons_zero, List.set_cons_succ]))
      | (refine seq_pass (by simp only [List.getElem?_toArray, List.getElem?_cons_succ, List.getElem?_cons_zero]; first | done | rfl) (by rfl) hHeld ?_; clear hHeld; intro hHeld; (try simp only [Act.put, List.setIfInBounds_toArray, List.set_cons_zero, List.set_cons_succ]))
      | (refine seq_call (by simp only [List.getElem?_toArray, List.getElem?_cons_succ, List.getElem?_cons_zero]; first | done | rfl) (by rfl) (fun K hK => ?_); go_simp; go_at_call 29; refine (toWork_any name owner A l cap _ (hl6.below hHeld) hl20).mono ?_; rintro r w1 ⟨g3, rfl, o3, b1⟩; go_simp; refine hK.out _ _ (next hHeld b1) ?_; clear hK hHeld; intro hHeld; (try simp only [Act.put, List.setIfInBounds_toArray, List.set_cons_zero, List.set_cons_succ]))
      | (refine seq_call (by simp only [List.getElem?_toArray, List.getElem?_cons_succ, List.getElem?_cons_zero]; first | done | rfl) (by rfl) (fun K hK => ?_); go_simp; go_at_call 30; refine (eqWork_same name owner _ _ l _ _ _ (hgx6.below hHeld) (own_at o3) hlen).mono ?_; rintro r w1 ⟨rfl, b1⟩; go_simp; refine hK.out _ _ (next hHeld b1) ?_; clear hK hHeld; intro hHeld; (try simp only [Act.put, List.setIfInBounds_toArray, List.set_cons_zero, List.set_cons_succ])))
    refine seq_end ?_
    go_wp2
    go_ret
    exact ⟨rfl, next b0 hHeld⟩

set_option maxRecDepth 100000 in
theorem lifted (os : Os) (started : os.Started) (H : Type) (enc : TypeId × Value → H) :
    ReturnsInHanded {} Try.checked os 9 .any (Rows.fnExactNewestSpec.pre6 enc Try.prog Try.f9 Rows.fnExactNewestRow.domain false) (Rows.fnExactNewestSpec.post enc Try.prog Try.f9 false true false false) := by
  refine returnsInHanded_of_change (C := Try.checked) own started (by kernel_rfl) Try.func9
    (ChangeSpec.witness6 (enc := enc) (C := Try.checked) false ⟨#[], #[.agg #[.string ByteArray.empty, .int .i64 0, .slice none 0 0], .agg #[.int .i64 0, .int .i64 0, .int .i64 0]], []⟩ 8 (by kernel_rfl) (by kernel_rfl) (by kernel_rfl) (by kernel_rfl)) ?_
  intro W base args ds gs before hval0 hW hcnd _
  have hval : ∀ (j : Nat) t v, Try.f9.params[j]? = some t → args[j]? = some v → Value.okWide Try.prog W .any base t v := hval0
  have hW' := hW
  obtain ⟨p, q, hA0, -⟩ := hW
  have hA : DataW.TrodAll enc Try.prog W 0 (fun _ => true) true Try.f9.params.toList args.toList ds p := hA0
  rw [Try.params9] at hA hval
  obtain ⟨v0, vs0, d0, ds0, p0, q0, hargs, rfl, rfl, h0, r0⟩ := trodAll_cons hA
  obtain ⟨v1, vs1, d1, ds1, p1, q1, rfl, rfl, rfl, h1, r1⟩ := trodAll_cons r0
  obtain ⟨rfl, rfl, rfl⟩ := trodAll_nil r1
  obtain rfl : args = #[v0, v1] := by cases args; simp_all
  clear hA0 hval0
  have hv0 := hval 0 _ v0 rfl rfl
  have hv1 := hval 1 _ v1 rfl rfl
  obtain ⟨name, owner, A, l, cap, rfl, hn, hl, hlen, hp⟩ := open_wk (tc := 47) (te := 97) Try.underlying49 (by kernel_rfl) (by kernel_rfl) (by kernel_rfl) Try.underlying9 Try.underlying2 rfl Try.underlying47 Try.underlying97 (by kernel_rfl) (by kernel_rfl) (by kernel_rfl) Try.underlying53 Try.underlying9 Try.underlying4 (by kernel_rfl) (by kernel_rfl) Try.underlying2 Try.underlying2 Try.underlying2 hv0 h0
  obtain ⟨e, rfl⟩ := open_ed Try.underlying53 (by kernel_rfl) (by kernel_rfl) Try.underlying2 Try.underlying2 Try.underlying2 hv1 h1
  exact (walk name owner A l cap e hn hlen hp W hl).mono fun r W' ⟨he, hb⟩ => ⟨_, he, law_post rfl rfl Try.underlying4 (by kernel_rfl) (n := 2)
    (fun ds' hd => by rcases ds' with _ | ⟨x0, _ | ⟨x1, _ | ⟨y, z⟩⟩⟩ <;> simp at hd <;> exact ⟨rfl, rfl, rfl⟩) rfl hW' hb⟩

theorem over : Rows.fnExactNewestRow.holds Try.pinned (OpenSpec.ofChange Rows.fnExactNewestSpec) :=
  OpenClaim.holds_of_wide 9 Try.f9 rfl rfl rfl rfl rfl rfl rfl ⟨rfl, rfl, rfl, rfl, rfl⟩ rfl rfl rfl rfl rfl (by kernel_rfl) Try.func9 (by kernel_rfl)
    (of_decide_eq_true (by kernel_rfl)) (by unfold Func.isWrapper; first | (rw [if_pos (by decide +kernel)]; kernel_rfl) | (rw [if_neg (by decide +kernel)]; exact ⟨rfl, rfl⟩))
    (fun os started H enc _ => lifted os started H enc)

theorem proved : Rows.FnExactNewestSaid :=
  over
#print axioms proved
end Go.Proofs.Yteohnihdnfgngaa.fnExactNewest
