/- Proved: the law FnExactLastOf returns true at all arguments, and they read afterwards as before; no condition. -/
import Derived.Test.YteiopndlakkeaaaBookTo
import Derived.Test.YteiopndlakkeaaaLastOf
import Derived.Test.YteiopndlakkeaaaOpenBk
import Derived.Test.YteiopndlakkeaaaShell
import Derived.Lib.SmallJoins
namespace Go.Proofs.Yteiopndlakkeaaa.fnExactLastOf
open Go.ChangeShapes Go.WideShapes Go.ChangeAt Go.RowKit Go.Joins Go.Deep
open Go.ChangeMaps (open_string shut_string)
set_option linter.unusedVariables false

set_option maxRecDepth 100000 in
set_option maxHeartbeats 16000000 in
theorem walk (A : Option Addr) (l : List Wr) (cap : Nat) (B : Option Addr) (m : List M.La) (cb : Nat) (c : Int) (hlen : l.length ≤ maxLen) (hp : WrsIn maxLen l) (hml : m.length ≤ maxLen) (hmp : ∀ c ∈ m, laIn maxLen c) (w : World) (hl : Wks w A l) (hm : Las w B m) :
    Calls Try.prog 5 #[bkV A l.length cap B m.length cb, .int .i64 c] w fun e w' => e = .returned (.bool true) ∧ Below w.heap.size w w' := by
  have b0 := (Below.refl w.heap.size w).alloc (Nat.le_refl _) (.cells (bkA A l.length cap B m.length cb) 40)
  have h0 := holds_new w (bkA A l.length cap B m.length cb) 40
  by_cases hbig : (1048576 : Int) < l.length + szWrs l + (m.length + szLas m)
  · go_enter Try.func5, Try.ntmps5
    go_wp2_with fail
    refine (szBook_big A l cap B m cb 1048576 _ (by omega) (by omega) (hl.alloc _) (hm.alloc _) hlen hp hml hmp hbig).mono ?_
    rintro r w1 ⟨rfl, b1⟩
    go_wp2
    go_ret
    exact ⟨rfl, next b0 b1⟩
  · have hl20 : l.length ≤ 1048576 := by omega
    have hm20 : m.length ≤ 1048576 := by omega
    have HP : Hid (WrsIn 1048576 l) := Lib.hid (WrsIn.of_sz (by omega))
    have HMP : Hid (∀ c ∈ m, laIn 1048576 c) := Lib.hid (fun c hc => by have := szLas_mem m c hc; show c.page.size ≤ 1048576; omega)
    have hge0 : 0 ≤ (1048576 : Int) - l.length - szWrs l - m.length - szLas m := by omega
    clear hp hmp
    go_enter Try.func5, Try.ntmps5
    go_wp2_with fail
    refine (szBook_small A l cap B m cb 1048576 _ (by omega) (hl.alloc _) (hm.alloc _) (by omega)).mono ?_
    rintro r w1 ⟨rfl, b1⟩
    replace h0 := h0.below b1
    replace b0 := next b0 b1
    clear hbig b1
    obtain ⟨p0, p1⟩ := h0.two
    have z0 := h0.1
    go_wp2_with fail
    refine (toBook_any A l cap B m cb _ (hl.below b0) hl20 HP.out (hm.below b0) hm20).mono ?_
    rintro r w2 ⟨v1, rs, rfl, hrs, hrl, hra, ⟨gA, gB, rfl, o1, o2, -, -⟩, b2⟩
    replace h0 := h0.below b2
    replace b0 := next b0 b2
    have HRS := Lib.hid hrs
    have HRL := Lib.hid hrl
    have HO1 := Lib.hid (show _ ∧ _ from ⟨o1.wks.1, own_atLas o2⟩)
    clear p0 p1 z0 b2 hrs hrl hra o1 o2
    go_wp2_with fail
    refine (specLastOf _ rs.length rs.length _ m m.length c _ HO1.out.2 hm20).mono ?_
    clear HO1 HRS HRL
    rintro r w3 ⟨rfl, b3⟩
    have h6 := holds_new w3 (laA (M.lastOf m c).1) 53
    have ba := (Below.refl w3.heap.size w3).alloc (Nat.le_refl _) (.cells (laA (M.lastOf m c).1) 53)
    replace h0 := h0.below b3
    replace b0 := next b0 b3
    replace h0 := h0.below ba
    replace b0 := next b0 ba
    clear b3 ba
    obtain ⟨p0, p1⟩ := h0.two
    have z0 := h0.1
    go_wp2_with fail
    generalize hw3 : w3.alloc (.cells (laA (M.lastOf m c).1) 53) = w3' at h6 h0 b0 p0 p1 z0 ⊢
    clear hw3
    refine (toBook_any A l cap B m cb _ (hl.below b0) hl20 HP.out (hm.below b0) hm20).mono ?_
    rintro r w4 ⟨v2, ms, rfl, hms, hmsl, -, ⟨gA2, gB2, rfl, o3, o4, -, -⟩, b4⟩
    have hx := holds_new w4 (bkA (some ⟨gA2, 0, none⟩) ms.length ms.length (some ⟨gB2, 0, none⟩) m.length m.length) 46
    have ba := (Below.refl w4.heap.size w4).alloc (Nat.le_refl _) (.cells (bkA (some ⟨gA2, 0, none⟩) ms.length ms.length (some ⟨gB2, 0, none⟩) m.length m.length) 46)
    replace h0 := h0.below b4
    replace h6 := h6.below b4
    replace b0 := next b0 b4
    replace h0 := h0.below ba
    replace h6 := h6.below ba
    replace b0 := next b0 ba
    have HOX := Lib.hid (show _ ∧ _ from ⟨o3.wks.1.below ba, (own_atLas o4).below ba⟩)
    have HMS := Lib.hid hms
    have HML := Lib.hid hmsl
    clear p0 p1 z0 b4 ba o3 o4 hms hmsl
    go_wp2_with fail
    generalize hw5 : w4.alloc (.cells (bkA (some ⟨gA2, 0, none⟩) ms.length ms.length (some ⟨gB2, 0, none⟩) m.length m.length) 46) = w5 at hx h0 h6 b0 HOX ⊢
    clear hw5
    refine (implLastOf _ ms.length ms.length _ m m.length c w5 HOX.out.2 hm20 HMP.out).mono ?_
    rintro r w6 ⟨rfl, b6⟩
    have h9 := holds_new w6 (laA (M.lastOf m c).1) 53
    have ba := (Below.refl w6.heap.size w6).alloc (Nat.le_refl _) (.cells (laA (M.lastOf m c).1) 53)
    replace HOX := Lib.hid (show _ ∧ _ from ⟨(HOX.out.1.below b6).below ba, (HOX.out.2.below b6).below ba⟩)
    replace h0 := h0.below b6
    replace hx := hx.below b6
    replace h6 := h6.below b6
    replace b0 := next b0 b6
    replace h0 := h0.below ba
    replace hx := hx.below ba
    replace h6 := h6.below ba
    replace b0 := next b0 ba
    clear b6 ba
    obtain ⟨u0, u1, u2, u3⟩ := h6.four
    obtain ⟨v0, v1, v2, v3⟩ := h9.four
    have z6 := h6.1
    have z9 := h9.1
    have hne : ((M.lastOf m c).2 != (M.lastOf m c).2) = false := by simp
    go_wp2_with fail
    generalize hw7 : w6.alloc (.cells (laA (M.lastOf m c).1) 53) = w7 at hx h0 h6 h9 b0 HOX u0 u1 u2 u3 v0 v1 v2 v3 z6 z9 ⊢
    clear hw7
    refine (laEq_same (M.lastOf m c).1 _).mono ?_
    rintro r w8 ⟨rfl, b8⟩
    replace HOX := Lib.hid (show _ ∧ _ from ⟨HOX.out.1.below b8, HOX.out.2.below b8⟩)
    replace h0 := h0.below b8
    replace hx := hx.below b8
    replace b0 := next b0 b8
    clear b8 u0 u1 u2 u3 v0 v1 v2 v3 z6 z9 h6 h9
    have hl6 := hl.below b0
    have hm6 := hm.below b0
    obtain ⟨p0, p1⟩ := h0.two
    obtain ⟨q0, q1⟩ := hx.two
    have z0 := h0.1
    have zx := hx.1
    go_wp2_with fail
    refine wp_region_seq (fun w' => Below w8.heap.size w8 w') [(0, true), (1, true), (2, false), (3, false), (4, true)] (by kernel_rfl) (by kernel_rfl) (fun _ _ _ _ _ h => h) (by kernel_rfl) (by decide) (Below.refl _ _).drew ?_
    intro hHeld
    repeat (first
      | (refine seq_skip (by simp only [List.getElem?_toArray, List.getElem?_cons_succ, List.getElem?_cons_zero]; first | done | rfl) (by rfl) ?_; (try simp only [Act.put, List.setIfInBounds_toArray, List.set_cons_zero, List.set_cons_succ]))
      | (refine seq_reads (by simp only [List.getElem?_toArray, List.getElem?_cons_succ, List.getElem?_cons_zero]; first | done | rfl) (by rfl) ?_; apply Exists.intro; apply And.intro; (focus (intro w hSw; obtain ⟨hcS, -⟩ := bcell hSw; go_simp; (try with_reducible rfl); done)); (try simp only [Act.put, List.setIfInBounds_toArray, List.set_cons_zero, List.set_cons_succ]))
      | (refine seq_pass (by simp only [List.getElem?_toArray, List.getElem?_cons_succ, List.getElem?_cons_zero]; first | done | rfl) (by rfl) hHeld ?_; clear hHeld; intro hHeld; (try simp only [Act.put, List.setIfInBounds_toArray, List.set_cons_zero, List.set_cons_succ]))
      | (refine seq_call (by simp only [List.getElem?_toArray, List.getElem?_cons_succ, List.getElem?_cons_zero]; first | done | rfl) (by rfl) (fun K hK => ?_); go_simp; go_at_call 12; refine (toBook_any A l cap B m cb _ (hl6.below hHeld) hl20 HP.out (hm6.below hHeld) hm20).mono ?_; rintro r w1 ⟨v3, qs, rfl, hqs, -, -, ⟨gA3, gB3, rfl, o5, o6, -, -⟩, b1⟩; (have HQS := Lib.hid hqs); (have HO5 := Lib.hid (show _ ∧ _ from ⟨o5.wks.1, own_atLas o6⟩)); clear hqs o5 o6; go_simp; refine hK.out _ _ (next hHeld b1) ?_; clear hK hHeld; intro hHeld; (try simp only [Act.put, List.setIfInBounds_toArray, List.set_cons_zero, List.set_cons_succ]))
      | (refine seq_call (by simp only [List.getElem?_toArray, List.getElem?_cons_succ, List.getElem?_cons_zero]; first | done | rfl) (by rfl) (fun K hK => ?_); go_simp; go_at_call 14; refine (eqBook_same _ _ ms qs _ _ _ _ m _ _ _ (HOX.out.1.below hHeld) HO5.out.1 (HMS.out.trans HQS.out.symm) (by rw [HML.out]; unfold maxLen; omega) ((wrs_eq HMS.out HP.out).mono (by unfold maxLen; omega)) (HOX.out.2.below hHeld) HO5.out.2 hml).mono ?_; rintro r w1 ⟨rfl, b1⟩; go_simp; refine hK.out _ _ (next hHeld b1) ?_; clear hK hHeld; intro hHeld; (try simp only [Act.put, List.setIfInBounds_toArray, List.set_cons_zero, List.set_cons_succ])))
    refine seq_end ?_
    replace b0 := next b0 hHeld
    go_wp2
    go_ret
    exact ⟨rfl, b0⟩

set_option maxRecDepth 100000 in
theorem lifted (os : Os) (started : os.Started) (H : Type) (enc : TypeId × Value → H) :
    ReturnsInHanded {} Try.checked os 5 .any (Rows.fnExactLastOfSpec.pre6 enc Try.prog Try.f5 Rows.fnExactLastOfRow.domain false) (Rows.fnExactLastOfSpec.post enc Try.prog Try.f5 false true false false) := by
  refine returnsInHanded_of_change (C := Try.checked) own started (by kernel_rfl) Try.func5
    (ChangeSpec.witness6 (enc := enc) (C := Try.checked) false ⟨#[], #[.agg #[.slice none 0 0, .slice none 0 0], .int .i64 0], []⟩ 8 (by kernel_rfl) (by kernel_rfl) (by kernel_rfl) (by kernel_rfl)) ?_
  intro W base args ds gs before hval0 hW hcnd _
  have hval : ∀ (j : Nat) t v, Try.f5.params[j]? = some t → args[j]? = some v → Value.okWide Try.prog W .any base t v := hval0
  have hW' := hW
  obtain ⟨p, q, hA0, -⟩ := hW
  have hA : DataW.TrodAll enc Try.prog W 0 (fun _ => true) true Try.f5.params.toList args.toList ds p := hA0
  rw [Try.params5] at hA hval
  obtain ⟨v0, vs0, d0, ds0, p0, q0, hargs, rfl, rfl, h0, r0⟩ := trodAll_cons hA
  obtain ⟨v1, vs1, d1, ds1, p1, q1, rfl, rfl, rfl, h1, r1⟩ := trodAll_cons r0
  obtain ⟨rfl, rfl, rfl⟩ := trodAll_nil r1
  obtain rfl : args = #[v0, v1] := by cases args; simp_all
  clear hA0 hval0
  have hv0 := hval 0 _ v0 rfl rfl
  have hv1 := hval 1 _ v1 rfl rfl
  obtain ⟨A, l, cap, B, m, cb, rfl, hl, hlen, hp, hm, hml, hmp⟩ := open_bk Try.underlying40 (by kernel_rfl) (by kernel_rfl) (by kernel_rfl) rfl rfl ⟨Try.underlying37, Try.underlying89, (by kernel_rfl), (by kernel_rfl), (by kernel_rfl), Try.underlying9, Try.underlying2, rfl, Try.underlying87, Try.underlying133, (by kernel_rfl), (by kernel_rfl), (by kernel_rfl), Try.underlying23, Try.underlying9, Try.underlying4, (by kernel_rfl), (by kernel_rfl), Try.underlying2, Try.underlying2, Try.underlying2⟩ ⟨Try.underlying38, Try.underlying93, (by kernel_rfl), (by kernel_rfl), (by kernel_rfl), Try.underlying2, Try.underlying2, Try.underlying91, (by kernel_rfl), (by kernel_rfl), Try.underlying2, Try.underlying9⟩ hv0 h0
  obtain ⟨c, rfl, -⟩ := open_int Try.underlying2 hv1 h1
  exact (walk A l cap B m cb c hlen hp hml hmp W hl hm).mono fun r W' ⟨he, hb⟩ => ⟨_, he, law_post rfl rfl Try.underlying4 (by kernel_rfl) (n := 2)
    (fun ds' hd => by rcases ds' with _ | ⟨x0, _ | ⟨x1, _ | ⟨y, z⟩⟩⟩ <;> simp at hd <;> exact ⟨rfl, rfl, rfl⟩) rfl hW' hb⟩

theorem over : Rows.fnExactLastOfRow.holds Try.pinned (OpenSpec.ofChange Rows.fnExactLastOfSpec) :=
  OpenClaim.holds_of_wide 5 Try.f5 rfl rfl rfl rfl rfl rfl rfl ⟨rfl, rfl, rfl, rfl, rfl⟩ rfl rfl rfl rfl rfl (by kernel_rfl) Try.func5 (by kernel_rfl)
    (of_decide_eq_true (by kernel_rfl)) (by unfold Func.isWrapper; first | (rw [if_pos (by decide +kernel)]; kernel_rfl) | (rw [if_neg (by decide +kernel)]; exact ⟨rfl, rfl⟩))
    (fun os started H enc _ => lifted os started H enc)

theorem proved : Rows.FnExactLastOfSaid :=
  over
#print axioms proved
end Go.Proofs.Yteiopndlakkeaaa.fnExactLastOf
