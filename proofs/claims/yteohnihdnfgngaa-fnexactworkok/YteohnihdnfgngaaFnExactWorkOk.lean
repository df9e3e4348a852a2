/- Proved: the law FnExactWorkOk returns true at every work, and the work reads afterwards as before; no condition. -/
import Derived.Test.YteohnihdnfgngaaWorkEq
import Derived.Test.YteohnihdnfgngaaWorkSpec
import Derived.Test.YteohnihdnfgngaaWorkImpl
import Derived.Test.YteohnihdnfgngaaOpenRows
import Derived.Test.YteohnihdnfgngaaShell
import Derived.Lib.SmallJoins
namespace Go.Proofs.Yteohnihdnfgngaa.fnExactWorkOk
open Go.ChangeShapes Go.WideShapes Go.ChangeAt Go.RowKit Go.Joins Go.Deep
open Go.ChangeMaps (open_string shut_string)
set_option linter.unusedVariables false

set_option maxRecDepth 100000 in
set_option maxHeartbeats 16000000 in
theorem walk (name : ByteArray) (owner : Int) (A : Option Addr) (l : List M.Cp) (cap : Nat) (hn : name.size ≤ maxLen) (hlen : l.length ≤ maxLen) (hp : ∀ c ∈ l, c.page.size ≤ maxLen) (w : World) (hl : Cps w A l) :
    Calls Try.prog 5 #[wkV name owner A l.length cap] w fun e w' => e = .returned (.bool true) ∧ Below w.heap.size w w' := by
  have b0 : Below w.heap.size w (w.alloc (.cells (wkL name owner A l.length cap) 49)) := (Below.refl _ _).alloc (Nat.le_refl _) _
  have h0 := holds_new w (wkL name owner A l.length cap) 49
  by_cases hbig : 1048576 < name.size + (l.length + M.szPages l)
  · go_enter Try.func5, Try.ntmps5
    go_wp2_with fail
    refine (szWork_big name owner A l cap 1048576 _ (by omega) (by omega) (hl.alloc _) hn hlen hp (by omega)).mono ?_
    rintro r w1 ⟨rfl, b1⟩
    go_wp2
    go_ret
    exact ⟨rfl, next b0 b1⟩
  · have hl20 : l.length ≤ 1048576 := by omega
    have HP := Lib.hid hp
    have hge : 0 ≤ (1048576 : Int) - name.size - l.length - M.szPages l := by omega
    clear hp
    go_enter Try.func5, Try.ntmps5
    go_wp2_with fail
    refine (szWork_small name owner A l cap 1048576 _ (by omega) (hl.alloc _) (by omega)).mono ?_
    rintro r w1 ⟨rfl, b1⟩
    replace h0 := h0.below b1
    replace b0 := next b0 b1
    have hl1 := hl.below b0
    obtain ⟨p0, p1, p2⟩ := h0.three
    clear b1
    go_wp2_with fail
    refine (toWork_any name owner A l cap _ hl1 hl20).mono ?_
    rintro r w2 ⟨g1, rfl, o1, b2⟩
    replace h0 := h0.below b2
    replace b0 := next b0 b2
    have hg := own_at o1
    have HG := Lib.hid hg
    clear p0 p1 p2 o1 b2 hg hl1
    go_wp2_with fail
    refine (specWorkOk name owner _ l _ _ HG.out hn hl20 HP.out).mono ?_
    rintro r w3 ⟨rfl, b3⟩
    replace h0 := h0.below b3
    replace b0 := next b0 b3
    have hl1 := hl.below b0
    obtain ⟨p0, p1, p2⟩ := h0.three
    clear b3 HG
    go_wp2_with fail
    refine (toWork_any name owner A l cap _ hl1 hl20).mono ?_
    rintro r w4 ⟨g2, rfl, o2, b4⟩
    replace h0 := (h0.below b4).alloc (.cells (wkL name owner (some ⟨g2, 0, none⟩) l.length l.length) 26)
    have h1 := holds_new w4 (wkL name owner (some ⟨g2, 0, none⟩) l.length l.length) 26
    replace b0 := (next b0 b4).alloc (next b0 b4).size (.cells (wkL name owner (some ⟨g2, 0, none⟩) l.length l.length) 26)
    have hg := (own_at o2).alloc (.cells (wkL name owner (some ⟨g2, 0, none⟩) l.length l.length) 26)
    have HG := Lib.hid hg
    clear p0 p1 p2 o2 b4 hg hl1
    go_wp2_with fail
    refine (implWorkOk name owner _ l _ _ HG.out hn hl20 HP.out).mono ?_
    rintro r w5 ⟨rfl, b5⟩
    replace h0 := h0.below b5
    replace h1 := h1.below b5
    replace b0 := next b0 b5
    have hl5 := hl.below b0
    have hg5 := HG.out.below b5
    have hne : (M.wkOk ⟨name, owner, l⟩ != M.wkOk ⟨name, owner, l⟩) = false := by simp
    have z0 := h0.1
    have z1 := h1.1
    obtain ⟨p0, p1, p2⟩ := h0.three
    obtain ⟨q0, q1, q2⟩ := h1.three
    clear b5 HG h0 h1
    go_wp2_with fail
    refine wp_region_seq (fun w' => Below w5.heap.size w5 w') [(0, true), (1, true), (2, false), (3, false), (4, true)] (by kernel_rfl) (by kernel_rfl) (fun _ _ _ _ _ h => h) (by kernel_rfl) (by decide) (Below.refl _ _).drew ?_
    intro hHeld
    repeat (first
      | (refine seq_skip (by simp only [List.getElem?_toArray, List.getElem?_cons_succ, List.getElem?_cons_zero]; first | done | rfl) (by rfl) ?_; (try simp only [Act.put, List.setIfInBounds_toArray, List.set_cons_zero, List.set_cons_succ]))
      | (refine seq_reads (by simp only [List.getElem?_toArray, List.getElem?_cons_succ, List.getElem?_cons_zero]; first | done | rfl) (by rfl) ?_; apply Exists.intro; apply And.intro; (focus (intro w hSw; obtain ⟨hcS, -⟩ := bcell hSw; go_simp; (try with_reducible rfl); done)); (try simp only [Act.put, List.setIfInBounds_toArray, List.set_cons_zero, List.set_cons_succ]))
      | (refine seq_pass (by simp only [List.getElem?_toArray, List.getElem?_cons_succ, List.getElem?_cons_zero]; first | done | rfl) (by rfl) hHeld ?_; clear hHeld; intro hHeld; (try simp only [Act.put, List.setIfInBounds_toArray, List.set_cons_zero, List.set_cons_succ]))
      | (refine seq_call (by simp only [List.getElem?_toArray, List.getElem?_cons_succ, List.getElem?_cons_zero]; first | done | rfl) (by rfl) (fun K hK => ?_); go_simp; go_at_call 29; refine (toWork_any name owner A l cap _ (hl5.below hHeld) hl20).mono ?_; rintro r w1 ⟨g3, rfl, o3, b1⟩; go_simp; refine hK.out _ _ (next hHeld b1) ?_; clear hK hHeld; intro hHeld; (try simp only [Act.put, List.setIfInBounds_toArray, List.set_cons_zero, List.set_cons_succ]))
      | (refine seq_call (by simp only [List.getElem?_toArray, List.getElem?_cons_succ, List.getElem?_cons_zero]; first | done | rfl) (by rfl) (fun K hK => ?_); go_simp; go_at_call 30; refine (eqWork_same name owner _ _ l _ _ _ (hg5.below hHeld) (own_at o3) hlen).mono ?_; rintro r w1 ⟨rfl, b1⟩; go_simp; refine hK.out _ _ (next hHeld b1) ?_; clear hK hHeld; intro hHeld; (try simp only [Act.put, List.setIfInBounds_toArray, List.set_cons_zero, List.set_cons_succ])))
    refine seq_end ?_
    go_wp2
    go_ret
    exact ⟨rfl, next b0 hHeld⟩

set_option maxRecDepth 100000 in
theorem lifted (os : Os) (started : os.Started) (H : Type) (enc : TypeId × Value → H) :
    ReturnsInHanded {} Try.checked os 5 .any (Rows.fnExactWorkOkSpec.pre6 enc Try.prog Try.f5 Rows.fnExactWorkOkRow.domain false) (Rows.fnExactWorkOkSpec.post enc Try.prog Try.f5 false true false false) := by
  refine returnsInHanded_of_change (C := Try.checked) own started (by kernel_rfl) Try.func5
    (ChangeSpec.witness6 (enc := enc) (C := Try.checked) false ⟨#[], #[.agg #[.string ByteArray.empty, .int .i64 0, .slice none 0 0]], []⟩ 8 (by kernel_rfl) (by kernel_rfl) (by kernel_rfl) (by kernel_rfl)) ?_
  intro W base args ds gs before hval0 hW hcnd _
  have hval : ∀ (j : Nat) t v, Try.f5.params[j]? = some t → args[j]? = some v → Value.okWide Try.prog W .any base t v := hval0
  have hW' := hW
  obtain ⟨p, q, hA0, -⟩ := hW
  have hA : DataW.TrodAll enc Try.prog W 0 (fun _ => true) true Try.f5.params.toList args.toList ds p := hA0
  rw [Try.params5] at hA hval
  obtain ⟨v0, vs0, d0, ds0, p0, q0, hargs, rfl, rfl, h0, r0⟩ := trodAll_cons hA
  obtain ⟨rfl, rfl, rfl⟩ := trodAll_nil r0
  obtain rfl : args = #[v0] := by cases args; simp_all
  clear hA0 hval0
  have hv0 := hval 0 _ v0 rfl rfl
  obtain ⟨name, owner, A, l, cap, rfl, hn, hl, hlen, hp⟩ := open_wk (tc := 47) (te := 97) Try.underlying49 (by kernel_rfl) (by kernel_rfl) (by kernel_rfl) Try.underlying9 Try.underlying2 rfl Try.underlying47 Try.underlying97 (by kernel_rfl) (by kernel_rfl) (by kernel_rfl) Try.underlying53 Try.underlying9 Try.underlying4 (by kernel_rfl) (by kernel_rfl) Try.underlying2 Try.underlying2 Try.underlying2 hv0 h0
  exact (walk name owner A l cap hn hlen hp W hl).mono fun r W' ⟨he, hb⟩ => ⟨_, he, law_post rfl rfl Try.underlying4 (by kernel_rfl) (n := 1)
    (fun ds' hd => by rcases ds' with _ | ⟨x0, _ | ⟨y, z⟩⟩ <;> simp at hd <;> exact ⟨rfl, rfl, rfl⟩) rfl hW' hb⟩

theorem over : Rows.fnExactWorkOkRow.holds Try.pinned (OpenSpec.ofChange Rows.fnExactWorkOkSpec) :=
  OpenClaim.holds_of_wide 5 Try.f5 rfl rfl rfl rfl rfl rfl rfl ⟨rfl, rfl, rfl, rfl, rfl⟩ rfl rfl rfl rfl rfl (by kernel_rfl) Try.func5 (by kernel_rfl)
    (of_decide_eq_true (by kernel_rfl)) (by unfold Func.isWrapper; first | (rw [if_pos (by decide +kernel)]; kernel_rfl) | (rw [if_neg (by decide +kernel)]; exact ⟨rfl, rfl⟩))
    (fun os started H enc _ => lifted os started H enc)

theorem proved : Rows.FnExactWorkOkSaid :=
  over
#print axioms proved
end Go.Proofs.Yteohnihdnfgngaa.fnExactWorkOk
