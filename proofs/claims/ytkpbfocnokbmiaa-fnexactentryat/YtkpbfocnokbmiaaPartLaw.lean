/- Proved: the law FnExactEntryAt returns true at all arguments, and they read afterwards as before; no condition. -/
import Derived.Test.YtkpbfocnokbmiaaPart12
import Derived.Test.YtkpbfocnokbmiaaPart13
import Derived.Test.YtkpbfocnokbmiaaPart14
import Derived.Test.YtkpbfocnokbmiaaPart16
import Derived.Lib.SmallJoins
namespace Go.Proofs.Ytkpbfocnokbmiaa.fnExactEntryAt
open Go.ChangeShapes Go.WideShapes Go.ChangeAt Go.RowKit Go.Joins Go.Deep
open Go.ChangeMaps (open_string shut_string)
set_option linter.unusedVariables false

set_option maxRecDepth 100000 in
set_option maxHeartbeats 16000000 in
theorem walk (b r : Int) (A : Option Addr) (l : List M.En) (cap : Nat) (i : Int) (hlen : l.length ≤ maxLen) (hp : ∀ e ∈ l, enIn maxLen e) (w : World) (hl : Ens w A l) :
    Calls Try.prog 9 #[roV b r A l.length cap, .int .i64 i] w fun e w' => e = .returned (.bool true) ∧ Below w.heap.size w w' := by
  have b0 := (Below.refl w.heap.size w).alloc (Nat.le_refl _) (.cells (roA b r A l.length cap) 55)
  have h0 := holds_new w (roA b r A l.length cap) 55
  by_cases hbig : (1048576 : Int) < l.length + szEns l
  · go_enter Try.func9, Try.ntmps9
    go_wp2_with fail
    refine (szRoll_big b r A l cap 1048576 _ (by omega) (by omega) (hl.below b0) hlen hp hbig).mono ?_
    rintro e w1 ⟨rfl, b1⟩
    go_wp2
    go_ret
    exact ⟨rfl, next b0 b1⟩
  · have hl20 : l.length ≤ 1048576 := by omega
    have HP : Hid (∀ e ∈ l, enIn 1048576 e) := Lib.hid (fun c hc => by have := szEns_mem l c hc; show c.order.deed.name.size ≤ 1048576 ∧ c.order.deed.page.size ≤ 1048576; omega)
    have HLEN : Hid (l.length ≤ maxLen) := Lib.hid hlen
    have hge0 : 0 ≤ (1048576 : Int) - l.length - szEns l := by omega
    have HL := Lib.hid hl
    clear hp hl
    go_enter Try.func9, Try.ntmps9
    go_wp2_with fail
    refine (szRoll_small b r A l cap 1048576 _ (by omega) (HL.out.below b0) (by omega)).mono ?_
    rintro e w1 ⟨rfl, b1⟩
    replace h0 := h0.below b1
    replace b0 := next b0 b1
    clear hbig b1
    obtain ⟨qe, qt, hQ⟩ : ∃ qe qt, M.entryAns b r l i = (qe, qt) := ⟨_, _, rfl⟩
    have HQ := Lib.hid hQ
    clear hQ
    obtain ⟨p0, p1, p2⟩ := h0.three
    have zl := h0.1
    go_wp2_with fail
    refine (toRoll_any b r A l cap _ (HL.out.below b0) hl20).mono ?_
    rintro e y1 ⟨g1, rfl, o1, c1⟩
    replace h0 := h0.below c1
    replace b0 := next b0 c1
    clear p0 p1 p2 zl c1
    have HO1 := Lib.hid (own_atEns o1)
    clear o1
    have hcall := specEntryAt b r (some ⟨g1, 0, none⟩) l l.length i y1 HO1.out hl20 HP.out
    rw [HQ.out] at hcall
    have HCALL := Lib.hid hcall
    clear hcall
    go_wp2_with fail
    refine HCALL.out.mono ?_
    rintro e w3 ⟨rfl, b3⟩
    have h6 := holds_new w3 (enC qe) 37
    have ba := (Below.refl w3.heap.size w3).alloc (Nat.le_refl _) (.cells (enC qe) 37)
    replace h0 := h0.below b3
    replace b0 := next b0 b3
    replace h0 := h0.below ba
    replace b0 := next b0 ba
    clear b3 ba HO1 HCALL
    obtain ⟨p0, p1, p2⟩ := h0.three
    have zl := h0.1
    go_wp2_with fail
    generalize hw3 : w3.alloc (.cells (enC qe) 37) = w3' at h6 h0 b0 p0 p1 p2 zl ⊢
    clear hw3
    refine (toRoll_any b r A l cap _ (HL.out.below b0) hl20).mono ?_
    rintro e y2 ⟨g2, rfl, o2, c2⟩
    have hx := holds_new y2 (roA b r (some ⟨g2, 0, none⟩) l.length l.length) 26
    have ba := (Below.refl y2.heap.size y2).alloc (Nat.le_refl _) (.cells (roA b r (some ⟨g2, 0, none⟩) l.length l.length) 26)
    replace h0 := h0.below c2
    replace h6 := h6.below c2
    replace b0 := next b0 c2
    replace h0 := h0.below ba
    replace h6 := h6.below ba
    replace b0 := next b0 ba
    have HOX := Lib.hid ((own_atEns o2).below ba)
    clear p0 p1 p2 zl c2 ba o2
    go_wp2_with fail
    generalize hw5 : y2.alloc (.cells (roA b r (some ⟨g2, 0, none⟩) l.length l.length) 26) = w5 at hx h0 h6 b0 HOX ⊢
    clear hw5
    have hcall := implEntryAt b r (some ⟨g2, 0, none⟩) l l.length i w5 HOX.out hl20 HP.out (Nat.le_refl _)
    rw [HQ.out] at hcall
    refine hcall.mono ?_
    rintro e w6 ⟨rfl, b6⟩
    have h9 := holds_new w6 (enC qe) 37
    have ba := (Below.refl w6.heap.size w6).alloc (Nat.le_refl _) (.cells (enC qe) 37)
    replace HOX := Lib.hid ((HOX.out.below b6).below ba)
    replace h0 := h0.below b6
    replace hx := hx.below b6
    replace h6 := h6.below b6
    replace b0 := next b0 b6
    replace h0 := h0.below ba
    replace hx := hx.below ba
    replace h6 := h6.below ba
    replace b0 := next b0 ba
    clear b6 ba hcall
    obtain ⟨u0, u1, u2, u3, u4, u5, u6, u7, u8, u9⟩ := h6.ten
    obtain ⟨v0, v1, v2, v3, v4, v5, v6, v7, v8, v9⟩ := h9.ten
    have z6 := h6.1
    have z9 := h9.1
    have hne : (qt != qt) = false := by simp
    go_wp2_with fail
    generalize hw7 : w6.alloc (.cells (enC qe) 37) = w7 at hx h0 h6 h9 b0 HOX u0 u1 u2 u3 u4 u5 u6 u7 u8 u9 v0 v1 v2 v3 v4 v5 v6 v7 v8 v9 z6 z9 ⊢
    clear hw7
    refine (enEq_same qe _).mono ?_
    rintro e w8 ⟨rfl, b8⟩
    replace HOX := Lib.hid (HOX.out.below b8)
    replace h0 := h0.below b8
    replace hx := hx.below b8
    replace b0 := next b0 b8
    clear b8 u0 u1 u2 u3 u4 u5 u6 u7 u8 u9 v0 v1 v2 v3 v4 v5 v6 v7 v8 v9 z6 z9 h6 h9
    obtain ⟨p0, p1, p2⟩ := h0.three
    obtain ⟨q0, q1, q2⟩ := hx.three
    have zl := h0.1
    have zx := hx.1
    have HL6 := Lib.hid (HL.out.below b0)
    go_wp2_with fail
    refine wp_region_seq (fun w' => Below w8.heap.size w8 w') [(0, true), (1, true), (2, false), (3, false), (4, true)] (by kernel_rfl) (by kernel_rfl) (fun _ _ _ _ _ h => h) (by kernel_rfl) (by decide) (Below.refl _ _).drew ?_
    intro hHeld
    repeat (first
      | (refine seq_skip (by simp only [List.getElem?_toArray, List.getElem?_cons_succ, List.getElem?_cons_zero]; first | done | rfl) (by rfl) ?_; (try simp only [Act.put, List.setIfInBounds_toArray, List.set_cons_zero, List.set_cons_succ]))
      | (refine seq_reads (by simp only [List.getElem?_toArray, List.getElem?_cons_succ, List.getElem?_cons_zero]; first | done | rfl) (by rfl) ?_; apply Exists.intro; apply And.intro; (focus (intro w hSw; obtain ⟨hcS, -⟩ := bcell hSw; go_simp; (try with_reducible rfl); done)); (try simp only [Act.put, List.setIfInBounds_toArray, List.set_cons_zero, List.set_cons_succ]))
      | (refine seq_pass (by simp only [List.getElem?_toArray, List.getElem?_cons_succ, List.getElem?_cons_zero]; first | done | rfl) (by rfl) hHeld ?_; clear hHeld; intro hHeld; (try simp only [Act.put, List.setIfInBounds_toArray, List.set_cons_zero, List.set_cons_succ]))
      | (refine seq_call (by simp only [List.getElem?_toArray, List.getElem?_cons_succ, List.getElem?_cons_zero]; first | done | rfl) (by rfl) (fun K hK => ?_); go_simp; go_at_call 37; refine (toRoll_any b r A l cap _ (HL6.out.below hHeld) hl20).mono ?_; rintro r w1 ⟨g3, rfl, o3, b1⟩; (have HO3 := Lib.hid (own_atEns o3)); clear o3; go_simp; refine hK.out _ _ (next hHeld b1) ?_; clear hK hHeld; intro hHeld; (try simp only [Act.put, List.setIfInBounds_toArray, List.set_cons_zero, List.set_cons_succ]))
      | (refine seq_call (by simp only [List.getElem?_toArray, List.getElem?_cons_succ, List.getElem?_cons_zero]; first | done | rfl) (by rfl) (fun K hK => ?_); go_simp; go_at_call 38; refine (eqRoll_same b r _ _ l _ _ _ _ _ rfl rfl (HOX.out.below hHeld) HO3.out HLEN.out).mono ?_; rintro r w1 ⟨rfl, b1⟩; go_simp; refine hK.out _ _ (next hHeld b1) ?_; clear hK hHeld; intro hHeld; (try simp only [Act.put, List.setIfInBounds_toArray, List.set_cons_zero, List.set_cons_succ])))
    refine seq_end ?_
    replace b0 := next b0 hHeld
    go_wp2
    go_ret
    exact ⟨rfl, b0⟩

set_option maxRecDepth 100000 in
theorem lifted (os : Os) (started : os.Started) (H : Type) (enc : TypeId × Value → H) :
    ReturnsInHanded {} Try.checked os 9 .any (Rows.fnExactEntryAtSpec.pre6 enc Try.prog Try.f9 Rows.fnExactEntryAtRow.domain false) (Rows.fnExactEntryAtSpec.post enc Try.prog Try.f9 false true false false) := by
  refine returnsInHanded_of_change (C := Try.checked) own started (by kernel_rfl) Try.func9
    (ChangeSpec.witness6 (enc := enc) (C := Try.checked) false ⟨#[], #[.agg #[.int .i64 0, .int .i64 0, .slice none 0 0], .int .i64 0], []⟩ 8 (by kernel_rfl) (by kernel_rfl) (by kernel_rfl) (by kernel_rfl)) ?_
  intro W base args ds gs before hval0 hW hcnd _
  have hval : ∀ (j : Nat) t v, Try.f9.params[j]? = some t → args[j]? = some v → Value.okWide Try.prog W .any base t v := hval0
  have hW' := hW
  obtain ⟨p, q, hA0, -⟩ := hW
  have hA : DataW.TrodAll enc Try.prog W 0 (fun _ => true) true Try.f9.params.toList args.toList ds p := hA0
  rw [Try.params9] at hA hval
  obtain ⟨v0, vs0, d0, ds0, p0, q0, hargs, rfl, rfl, h0, r0⟩ := trodAll_cons hA
  obtain ⟨v1, vs1, d1, ds1, p1, q1, rfl, rfl, rfl, h1, r1⟩ := trodAll_cons r0
  obtain ⟨rfl, rfl, rfl⟩ := trodAll_nil r1
  obtain rfl : args = #[v0, v1] := by cases args; simp_all
  clear hA0 hval0
  have hv0 := hval 0 _ v0 rfl rfl
  have hv1 := hval 1 _ v1 rfl rfl
  obtain ⟨b, r, A, l, cap, rfl, hl, hlen, hp⟩ := open_ro Try.underlying55 (by kernel_rfl) (by kernel_rfl) (by kernel_rfl) Try.underlying2 Try.underlying2 rfl Try.underlying53 Try.underlying110 (by kernel_rfl) (by kernel_rfl) (by kernel_rfl) Try.underlying2 ⟨Try.underlying108, (by kernel_rfl), (by kernel_rfl), (by kernel_rfl), Try.underlying2, Try.underlying2, ⟨Try.underlying106, (by kernel_rfl), (by kernel_rfl), (by kernel_rfl), Try.underlying2, Try.underlying9, Try.underlying104, Try.underlying9, Try.underlying2, (by kernel_rfl), (by kernel_rfl), Try.underlying2, Try.underlying2, Try.underlying2⟩⟩ hv0 h0
  obtain ⟨i, rfl, -⟩ := open_int Try.underlying2 hv1 h1
  exact (walk b r A l cap i hlen hp W hl).mono fun r W' ⟨he, hb⟩ => ⟨_, he, law_post rfl rfl Try.underlying4 (by kernel_rfl) (n := 2)
    (fun ds' hd => by rcases ds' with _ | ⟨x0, _ | ⟨x1, _ | ⟨y, z⟩⟩⟩ <;> simp at hd <;> exact ⟨rfl, rfl, rfl⟩) rfl hW' hb⟩

theorem over : Rows.fnExactEntryAtRow.holds Try.pinned (OpenSpec.ofChange Rows.fnExactEntryAtSpec) :=
  OpenClaim.holds_of_wide 9 Try.f9 rfl rfl rfl rfl rfl rfl rfl ⟨rfl, rfl, rfl, rfl, rfl⟩ rfl rfl rfl rfl rfl (by kernel_rfl) Try.func9 (by kernel_rfl)
    (of_decide_eq_true (by kernel_rfl)) (by unfold Func.isWrapper; first | (rw [if_pos (by decide +kernel)]; kernel_rfl) | (rw [if_neg (by decide +kernel)]; exact ⟨rfl, rfl⟩))
    (fun os started H enc _ => lifted os started H enc)

theorem proved : Rows.FnExactEntryAtSaid :=
  over
#print axioms proved
end Go.Proofs.Ytkpbfocnokbmiaa.fnExactEntryAt
