/- Proved: the law FnNames returns true at every list of bytes, and the list reads afterwards as before; no condition. -/
import Derived.Test.YtbaghllkfeffoaaRows
import Derived.Test.YtbaghllkfeffoaaNamesLaws
import Derived.WalkKit
import Derived.ProofKit
import Derived.OpenShut
import Derived.ShutString
import Derived.ChangeOld
import Derived.Below
namespace Go.Proofs.Ytbaghllkfeffoaa.fnNames
open Go.ChangeShapes Go.WideShapes Go.ChangeAt Go.RowKit
open Go.ChangeMaps (open_string shut_string)
set_option linter.unusedVariables false

theorem own : ownKnob Try.prog.godebug = none := by kernel_rfl
theorem laidOut : laidOutB Try.prog = true := by kernel_rfl

def IsRow (k : IntKind) (w : World) (a : Option Addr) (len cap : Nat) (zs : List Int) : Prop :=
  (a = none ∧ len = 0 ∧ cap = 0 ∧ zs = []) ∨
  ∃ x, a = some x ∧ len ≤ cap ∧ cap ≤ maxLen ∧ zs.length = cap ∧ (∀ i, i < zs.length → w.cell? (x.add i) = some (.int k (zs.getD i 0))) ∧ ∀ n ∈ zs, (Lit.int k n).wf = true

theorem walk (a0 : Option Addr) (len0 cap0 : Nat) (z0 : List Int) (w : World) (w0 : IsRow .u8 w a0 len0 cap0 z0) :
    Calls Try.prog 3 #[.slice a0 len0 cap0] w fun e w' => e = .returned (.bool true) ∧ Below w.heap.size w w' := by
  have hc : CodeOk w.heap.size w a0 len0 := by
    intro j hj
    rcases w0 with ⟨rfl, rfl, rfl, rfl⟩ | ⟨x, rfl, hl, hm, hz, hcell, hwz⟩
    · omega
    · obtain ⟨b, off, rfl, hcs⟩ := ints_at hcell (by omega)
      have hcj := hcs j (by omega)
      have hlt := World.block_lt_of_cell? w _ hcj
      have hbd := bounds_u8 (hwz (z0.getD j 0) (by rw [List.getD_eq_getElem?_getD, List.getElem?_eq_getElem (by omega)]; exact List.getElem_mem _))
      exact ⟨b, off, _, rfl, hlt, hbd.1, hbd.2, hcj⟩
  clear w0
  have HC := Lib.hid hc
  clear hc
  by_cases hbig : 4096 < len0
  · go_enter Try.func3, Try.ntmps3
    go_wp2_with fail
    refine (big_any a0 len0 cap0 _).mono ?_
    rintro e w' ⟨rfl, rfl⟩
    go_wp2
    go_ret
    exact ⟨rfl, Below.refl _ _⟩
  · have hl : len0 ≤ 4096 := by omega
    go_enter Try.func3, Try.ntmps3
    go_wp2_with fail
    refine (big_any a0 len0 cap0 _).mono ?_
    rintro e w' ⟨rfl, rfl⟩
    go_wp2_with fail
    refine (DrawPlain_any _ a0 len0 cap0 hl HC.out).mono ?_
    rintro e x1 ⟨s, hs0, rfl, b1⟩
    have HC1 := Lib.hid (HC.out.later b1)
    clear HC
    have hs : s.size ≤ maxLen := by unfold maxLen; omega
    go_wp2_with fail
    refine (implPlain s _ hs).mono ?_
    rintro e x2 ⟨rfl, b2⟩
    have HC2 := Lib.hid (HC1.out.later b2)
    clear HC1
    go_wp2_with fail
    refine (DrawSameName_any _ a0 len0 cap0 hl HC2.out).mono ?_
    rintro e x3 ⟨a, b, ha0, hb0, rfl, b3⟩
    have HC3 := Lib.hid (HC2.out.later b3)
    clear HC2
    have ha : a.size ≤ maxLen := by unfold maxLen; omega
    have hb : b.size ≤ maxLen := by unfold maxLen; omega
    go_wp2_with fail
    refine (DrawPageOk_any _ a0 len0 cap0 hl HC3.out).mono ?_
    rintro e x4 ⟨q, hq0, rfl, b4⟩
    clear HC3
    have hq : q.size ≤ maxLen := by unfold maxLen; omega
    have bb := next (next (next b1 b2) b3) b4
    clear b1 b2 b3 b4
    have hsz := plainS_size s
    have hpa : (plainS a).size ≤ maxLen := by rw [plainS_size]; exact ha
    have hsc := sameS_comm b a
    rcases hn : M.nameOk s.data.toList with _ | _
    · rcases hsab : sameS a b with _ | _
      · go_wp2_with fail
        with_reducible refine (specPlain s _ hs).mono ?_
        rintro e x6 ⟨rfl, b6⟩
        have bb := next bb b6
        clear b6
        go_wp2_with fail
        with_reducible refine (implNameOk s _ hs).mono ?_
        rintro e w' ⟨rfl, rfl⟩
        go_wp2_with fail
        with_reducible refine (specNameOk s _ hs).mono ?_
        rintro e w' ⟨rfl, rfl⟩
        go_wp2_with fail
        with_reducible refine (implPageOk q _ hq).mono ?_
        rintro e w' ⟨rfl, rfl⟩
        go_wp2_with fail
        with_reducible refine (specPageOk q _ hq).mono ?_
        rintro e w' ⟨rfl, rfl⟩
        go_wp2_with fail
        with_reducible refine (implSameName a b _ ha hb).mono ?_
        rintro e x11 ⟨rfl, b11⟩
        have bb := next bb b11
        clear b11
        go_wp2_with fail
        with_reducible refine (specSameName a b _ ha hb).mono ?_
        rintro e x12 ⟨rfl, b12⟩
        have bb := next bb b12
        clear b12
        go_wp2_with fail
        with_reducible refine (implPlain_again s _ hs).mono ?_
        rintro e x13 ⟨rfl, b13⟩
        have bb := next bb b13
        clear b13
        go_wp2_with fail
        with_reducible refine (implNameOk s _ hs).mono ?_
        rintro e w' ⟨rfl, rfl⟩
        go_wp2_with fail
        with_reducible refine (implSameName a b _ ha hb).mono ?_
        rintro e x15 ⟨rfl, b15⟩
        have bb := next bb b15
        clear b15
        go_wp2_with fail
        with_reducible refine (implSameName b a _ hb ha).mono ?_
        rintro e x16 ⟨rfl, b16⟩
        have bb := next bb b16
        clear b16
        go_wp2_with fail
        with_reducible refine (implSameName a b _ ha hb).mono ?_
        rintro e x17 ⟨rfl, b17⟩
        have bb := next bb b17
        clear b17
        go_wp2
        go_ret
        exact ⟨rfl, bb⟩
      · obtain ⟨hn1, hn2⟩ := sameS_true hsab
        go_wp2_with fail
        with_reducible refine (specPlain s _ hs).mono ?_
        rintro e x6 ⟨rfl, b6⟩
        have bb := next bb b6
        clear b6
        go_wp2_with fail
        with_reducible refine (implNameOk s _ hs).mono ?_
        rintro e w' ⟨rfl, rfl⟩
        go_wp2_with fail
        with_reducible refine (specNameOk s _ hs).mono ?_
        rintro e w' ⟨rfl, rfl⟩
        go_wp2_with fail
        with_reducible refine (implPageOk q _ hq).mono ?_
        rintro e w' ⟨rfl, rfl⟩
        go_wp2_with fail
        with_reducible refine (specPageOk q _ hq).mono ?_
        rintro e w' ⟨rfl, rfl⟩
        go_wp2_with fail
        with_reducible refine (implSameName a b _ ha hb).mono ?_
        rintro e x11 ⟨rfl, b11⟩
        have bb := next bb b11
        clear b11
        go_wp2_with fail
        with_reducible refine (specSameName a b _ ha hb).mono ?_
        rintro e x12 ⟨rfl, b12⟩
        have bb := next bb b12
        clear b12
        go_wp2_with fail
        with_reducible refine (implPlain_again s _ hs).mono ?_
        rintro e x13 ⟨rfl, b13⟩
        have bb := next bb b13
        clear b13
        go_wp2_with fail
        with_reducible refine (implNameOk s _ hs).mono ?_
        rintro e w' ⟨rfl, rfl⟩
        go_wp2_with fail
        with_reducible refine (implSameName a b _ ha hb).mono ?_
        rintro e x15 ⟨rfl, b15⟩
        have bb := next bb b15
        clear b15
        go_wp2_with fail
        with_reducible refine (implSameName b a _ hb ha).mono ?_
        rintro e x16 ⟨rfl, b16⟩
        have bb := next bb b16
        clear b16
        go_wp2_with fail
        with_reducible refine (implSameName a b _ ha hb).mono ?_
        rintro e x17 ⟨rfl, b17⟩
        have bb := next bb b17
        clear b17
        go_wp2_with fail
        with_reducible refine (implPlain a _ ha).mono ?_
        rintro e x18 ⟨rfl, b18⟩
        have bb := next bb b18
        clear b18
        go_wp2_with fail
        with_reducible refine (implPlain b _ hb).mono ?_
        rintro e x19 ⟨rfl, b19⟩
        have bb := next bb b19
        clear b19
        go_wp2_with fail
        with_reducible refine (implPlain a _ ha).mono ?_
        rintro e x20 ⟨rfl, b20⟩
        have bb := next bb b20
        clear b20
        go_wp2_with fail
        with_reducible refine (implNameOk _ _ hpa).mono ?_
        rintro e w' ⟨rfl, rfl⟩
        go_wp2
        go_ret
        exact ⟨rfl, bb⟩
    · rcases hsab : sameS a b with _ | _
      · have hps : ((plainS s).toList != s.toList) = false := by rw [plainS_name s hn]; simp
        have hps2 : ((plainS s).toList == s.toList) = true := by rw [plainS_name s hn]; simp
        go_wp2_with fail
        with_reducible refine (specPlain s _ hs).mono ?_
        rintro e x6 ⟨rfl, b6⟩
        have bb := next bb b6
        clear b6
        go_wp2_with fail
        with_reducible refine (implNameOk s _ hs).mono ?_
        rintro e w' ⟨rfl, rfl⟩
        go_wp2_with fail
        with_reducible refine (specNameOk s _ hs).mono ?_
        rintro e w' ⟨rfl, rfl⟩
        go_wp2_with fail
        with_reducible refine (implPageOk q _ hq).mono ?_
        rintro e w' ⟨rfl, rfl⟩
        go_wp2_with fail
        with_reducible refine (specPageOk q _ hq).mono ?_
        rintro e w' ⟨rfl, rfl⟩
        go_wp2_with fail
        with_reducible refine (implSameName a b _ ha hb).mono ?_
        rintro e x11 ⟨rfl, b11⟩
        have bb := next bb b11
        clear b11
        go_wp2_with fail
        with_reducible refine (specSameName a b _ ha hb).mono ?_
        rintro e x12 ⟨rfl, b12⟩
        have bb := next bb b12
        clear b12
        go_wp2_with fail
        with_reducible refine (implPlain_again s _ hs).mono ?_
        rintro e x13 ⟨rfl, b13⟩
        have bb := next bb b13
        clear b13
        go_wp2_with fail
        with_reducible refine (implNameOk s _ hs).mono ?_
        rintro e w' ⟨rfl, rfl⟩
        go_wp2_with fail
        with_reducible refine (implSameName a b _ ha hb).mono ?_
        rintro e x15 ⟨rfl, b15⟩
        have bb := next bb b15
        clear b15
        go_wp2_with fail
        with_reducible refine (implSameName b a _ hb ha).mono ?_
        rintro e x16 ⟨rfl, b16⟩
        have bb := next bb b16
        clear b16
        go_wp2_with fail
        with_reducible refine (implSameName a b _ ha hb).mono ?_
        rintro e x17 ⟨rfl, b17⟩
        have bb := next bb b17
        clear b17
        go_wp2
        go_ret
        exact ⟨rfl, bb⟩
      · have hps : ((plainS s).toList != s.toList) = false := by rw [plainS_name s hn]; simp
        have hps2 : ((plainS s).toList == s.toList) = true := by rw [plainS_name s hn]; simp
        obtain ⟨hn1, hn2⟩ := sameS_true hsab
        go_wp2_with fail
        with_reducible refine (specPlain s _ hs).mono ?_
        rintro e x6 ⟨rfl, b6⟩
        have bb := next bb b6
        clear b6
        go_wp2_with fail
        with_reducible refine (implNameOk s _ hs).mono ?_
        rintro e w' ⟨rfl, rfl⟩
        go_wp2_with fail
        with_reducible refine (specNameOk s _ hs).mono ?_
        rintro e w' ⟨rfl, rfl⟩
        go_wp2_with fail
        with_reducible refine (implPageOk q _ hq).mono ?_
        rintro e w' ⟨rfl, rfl⟩
        go_wp2_with fail
        with_reducible refine (specPageOk q _ hq).mono ?_
        rintro e w' ⟨rfl, rfl⟩
        go_wp2_with fail
        with_reducible refine (implSameName a b _ ha hb).mono ?_
        rintro e x11 ⟨rfl, b11⟩
        have bb := next bb b11
        clear b11
        go_wp2_with fail
        with_reducible refine (specSameName a b _ ha hb).mono ?_
        rintro e x12 ⟨rfl, b12⟩
        have bb := next bb b12
        clear b12
        go_wp2_with fail
        with_reducible refine (implPlain_again s _ hs).mono ?_
        rintro e x13 ⟨rfl, b13⟩
        have bb := next bb b13
        clear b13
        go_wp2_with fail
        with_reducible refine (implNameOk s _ hs).mono ?_
        rintro e w' ⟨rfl, rfl⟩
        go_wp2_with fail
        with_reducible refine (implSameName a b _ ha hb).mono ?_
        rintro e x15 ⟨rfl, b15⟩
        have bb := next bb b15
        clear b15
        go_wp2_with fail
        with_reducible refine (implSameName b a _ hb ha).mono ?_
        rintro e x16 ⟨rfl, b16⟩
        have bb := next bb b16
        clear b16
        go_wp2_with fail
        with_reducible refine (implSameName a b _ ha hb).mono ?_
        rintro e x17 ⟨rfl, b17⟩
        have bb := next bb b17
        clear b17
        go_wp2_with fail
        with_reducible refine (implPlain a _ ha).mono ?_
        rintro e x18 ⟨rfl, b18⟩
        have bb := next bb b18
        clear b18
        go_wp2_with fail
        with_reducible refine (implPlain b _ hb).mono ?_
        rintro e x19 ⟨rfl, b19⟩
        have bb := next bb b19
        clear b19
        go_wp2_with fail
        with_reducible refine (implPlain a _ ha).mono ?_
        rintro e x20 ⟨rfl, b20⟩
        have bb := next bb b20
        clear b20
        go_wp2_with fail
        with_reducible refine (implNameOk _ _ hpa).mono ?_
        rintro e w' ⟨rfl, rfl⟩
        go_wp2
        go_ret
        exact ⟨rfl, bb⟩

set_option maxRecDepth 100000 in
theorem lifted (os : Os) (started : os.Started) (H : Type) (enc : TypeId × Value → H) :
    ReturnsInHanded {} Try.checked os 3 .any (Rows.fnNamesSpec.pre6 enc Try.prog Try.f3 Rows.fnNamesRow.domain false) (Rows.fnNamesSpec.post enc Try.prog Try.f3 false true false false) := by
  refine returnsInHanded_of_change (C := Try.checked) own started (by kernel_rfl) Try.func3
    (ChangeSpec.witness6 (enc := enc) (C := Try.checked) false ⟨#[], #[.slice none 0 0], []⟩ 8 (by kernel_rfl) (by kernel_rfl) (by kernel_rfl) (by kernel_rfl)) ?_
  intro W base args ds gs before hval0 hW hcnd _
  have hval : ∀ (j : Nat) t v, Try.f3.params[j]? = some t → args[j]? = some v → Value.okWide Try.prog W .any base t v := hval0
  have hW' := hW
  obtain ⟨p, q, hA0, hV, rfl, hfz, hnd⟩ := hW
  have hA : DataW.TrodAll enc Try.prog W 0 (fun _ => true) true Try.f3.params.toList args.toList ds p := hA0
  rw [Try.params3] at hA hval
  obtain ⟨v0, vs0, d0, ds0, p0, q0, hargs, rfl, rfl, h0, r0⟩ := trodAll_cons hA
  obtain ⟨rfl, rfl, rfl⟩ := trodAll_nil r0
  obtain rfl : args = #[v0] := by cases args; simp_all
  obtain ⟨rfl, rfl⟩ := trodVars_none hV
  obtain ⟨a0, len0, cap0, rfl⟩ := okWide_slice Try.underlying22 (hval 0 22 v0 rfl rfl)
  have k0 := h0
  have lt0 : ∀ x ∈ p0, x.block < W.heap.size := by obtain ⟨m, hm⟩ := k0; exact DataW.trod_lt m _ _ _ hm
  obtain ⟨z0, w0⟩ : ∃ zs, IsRow .u8 W a0 len0 cap0 zs := by
    obtain ⟨fuel, hf⟩ := h0
    rcases open_ints Try.underlying22 Try.underlying5 (by kernel_rfl) hf with ⟨hcs, _⟩ | ⟨x, l, c, zs, hcs, _, hl, hm, hz, _, hcell, hwz⟩
    · simp [Value.cells] at hcs
      obtain ⟨rfl, rfl, rfl⟩ := hcs
      exact ⟨[], .inl ⟨rfl, rfl, rfl, rfl⟩⟩
    · simp [Value.cells] at hcs
      obtain ⟨rfl, rfl, rfl⟩ := hcs
      exact ⟨zs, .inr ⟨_, rfl, hl, hm, by simpa using hz, hcell, hwz⟩⟩
  clear hA0 hval0
  refine (walk a0 len0 cap0 z0 W w0).mono fun e W' ⟨he, bel⟩ => ?_
  subst he
  exact ⟨_, rfl, _, _, _, [], _, [], hW', trodAll_mk1 (shut_bool Try.underlying4 _), (trodAll_cons_mk (Below.trod laidOut (by kernel_rfl) (of_decide_eq_true (by kernel_rfl)) k0 bel lt0) trodAll_mk0), rfl, bel.frame _, fun h => by cases h⟩

theorem over : Rows.fnNamesRow.holds Try.pinned (OpenSpec.ofChange Rows.fnNamesSpec) :=
  OpenClaim.holds_of_wide 3 Try.f3 rfl rfl rfl rfl rfl rfl rfl ⟨rfl, rfl, rfl, rfl, rfl⟩ rfl rfl rfl rfl rfl (by kernel_rfl) Try.func3 (by kernel_rfl)
    (of_decide_eq_true (by kernel_rfl)) (by unfold Func.isWrapper; first | (rw [if_pos (by decide +kernel)]; kernel_rfl) | (rw [if_neg (by decide +kernel)]; exact ⟨rfl, rfl⟩))
    (fun os started H enc _ => lifted os started H enc)

theorem proved : Rows.FnNamesSaid := over
#print axioms proved
end Go.Proofs.Ytbaghllkfeffoaa.fnNames
