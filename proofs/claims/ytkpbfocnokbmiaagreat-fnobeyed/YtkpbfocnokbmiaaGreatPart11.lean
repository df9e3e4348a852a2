/- Proved, in parts: Proved: the program's DeedOk, which goes over shapes, answers the same plain Lean function as the model's, at every deed; it writes nothing that was there. Condition: texts of at most maxLen bytes. Proved: the program's list method with answers the list with one copy more, in new memory; it writes nothing that was there. Condition: at most a million copies. Proved: a statement that leaves its order open is gone through in one order, where each call may tell more of the memory than was known ahead of it; no program is named here. Condition: what is taken first reads the same in every memory that is as told. -/
import Derived.Test.YtkpbfocnokbmiaaGreatPart04
import Derived.KernelRfl
import Derived.Test.YtkpbfocnokbmiaaGreatPart09
import Derived.Maps.AppendAt
import Derived.Test.YtkpbfocnokbmiaaGreatPart02
namespace Go.Proofs.YtkpbfocnokbmiaaGreat
open Go.RowKit
set_option maxRecDepth 20000

abbrev clV (d : M.Dd) : Value := .agg #[.string d.name, .int .i64 d.who]
abbrev puV (d : M.Dd) : Value := .agg #[.string d.name, .int .i64 d.ed.ma, .int .i64 d.ed.mi, .int .i64 d.ed.pa, .string d.page, .int .i64 d.who]
abbrev veV (b : Bool) (d : M.Dd) : Value := .agg #[.bool b, .string d.name, .int .i64 d.ed.ma, .int .i64 d.ed.mi, .int .i64 d.ed.pa, .int .i64 d.who]
abbrev feV (d : M.Dd) : Value := .agg #[.string d.name, .int .i64 d.ed.ma, .int .i64 d.ed.mi, .int .i64 d.ed.pa]
abbrev giV (d : M.Dd) : Value := .agg #[.string d.name, .int .i64 d.who, .int .i64 d.ed.ma]

theorem deed_claim (d : M.Dd) (w : World) : Calls Tryz.prog 182 #[clV d] w fun r w' => r = .returned (ddV ⟨1, d.name, ⟨0, 0, 0⟩, ⟨#[]⟩, d.who⟩) ∧ Below w.heap.size w w' := by
  go_enter Tryz.func182, Tryz.ntmps182
  go_wp2
  refine bodyPost_ret (v := ddV ⟨1, d.name, ⟨0, 0, 0⟩, ⟨#[]⟩, d.who⟩) (by simp [results, Tryz.results182, go_sem]) rfl ⟨rfl, ?_⟩
  repeat (first | exact Below.refl _ _ | refine Below.alloc ?_ (by simp <;> omega) _)
theorem deed_put (d : M.Dd) (w : World) : Calls Tryz.prog 183 #[puV d] w fun r w' => r = .returned (ddV ⟨2, d.name, d.ed, d.page, d.who⟩) ∧ Below w.heap.size w w' := by
  go_enter Tryz.func183, Tryz.ntmps183
  go_wp2
  refine bodyPost_ret (v := ddV ⟨2, d.name, d.ed, d.page, d.who⟩) (by simp [results, Tryz.results183, go_sem]) rfl ⟨rfl, ?_⟩
  repeat (first | exact Below.refl _ _ | refine Below.alloc ?_ (by simp <;> omega) _)
theorem deed_veil (b : Bool) (d : M.Dd) (w : World) : Calls Tryz.prog 184 #[veV b d] w fun r w' => r = .returned (ddV ⟨if b then 3 else 4, d.name, d.ed, ⟨#[]⟩, d.who⟩) ∧ Below w.heap.size w w' := by
  cases b
  · go_enter Tryz.func184, Tryz.ntmps184
    go_wp2
    refine bodyPost_ret (v := ddV ⟨4, d.name, d.ed, ⟨#[]⟩, d.who⟩) (by simp [results, Tryz.results184, go_sem]) rfl ⟨rfl, ?_⟩
    repeat (first | exact Below.refl _ _ | refine Below.alloc ?_ (by simp <;> omega) _)
  · go_enter Tryz.func184, Tryz.ntmps184
    go_wp2
    refine bodyPost_ret (v := ddV ⟨3, d.name, d.ed, ⟨#[]⟩, d.who⟩) (by simp [results, Tryz.results184, go_sem]) rfl ⟨rfl, ?_⟩
    repeat (first | exact Below.refl _ _ | refine Below.alloc ?_ (by simp <;> omega) _)
theorem deed_fetch (d : M.Dd) (w : World) : Calls Tryz.prog 185 #[feV d] w fun r w' => r = .returned (ddV ⟨5, d.name, d.ed, ⟨#[]⟩, 0⟩) ∧ Below w.heap.size w w' := by
  go_enter Tryz.func185, Tryz.ntmps185
  go_wp2
  refine bodyPost_ret (v := ddV ⟨5, d.name, d.ed, ⟨#[]⟩, 0⟩) (by simp [results, Tryz.results185, go_sem]) rfl ⟨rfl, ?_⟩
  repeat (first | exact Below.refl _ _ | refine Below.alloc ?_ (by simp <;> omega) _)
theorem deed_give (d : M.Dd) (w : World) : Calls Tryz.prog 186 #[giV d] w fun r w' => r = .returned (ddV ⟨6, d.name, ⟨d.ed.ma, 0, 0⟩, ⟨#[]⟩, d.who⟩) ∧ Below w.heap.size w w' := by
  go_enter Tryz.func186, Tryz.ntmps186
  go_wp2
  refine bodyPost_ret (v := ddV ⟨6, d.name, ⟨d.ed.ma, 0, 0⟩, ⟨#[]⟩, d.who⟩) (by simp [results, Tryz.results186, go_sem]) rfl ⟨rfl, ?_⟩
  repeat (first | exact Below.refl _ _ | refine Below.alloc ?_ (by simp <;> omega) _)

theorem as_cl_cl (v : Value) (w : World) : (Instr.typeAssert (.iface 147 v) 129 147 true).run Tryz.prog w = .ok (.tuple #[v, .bool true]) w := by kernel_rfl
theorem as_pu_cl (v : Value) (w : World) : (Instr.typeAssert (.iface 149 v) 129 147 true).run Tryz.prog w = .ok (.tuple #[.agg #[.string ⟨#[]⟩, .int .i64 0], .bool false]) w := by kernel_rfl
theorem as_pu_pu (v : Value) (w : World) : (Instr.typeAssert (.iface 149 v) 129 149 true).run Tryz.prog w = .ok (.tuple #[v, .bool true]) w := by kernel_rfl
theorem as_ve_cl (v : Value) (w : World) : (Instr.typeAssert (.iface 151 v) 129 147 true).run Tryz.prog w = .ok (.tuple #[.agg #[.string ⟨#[]⟩, .int .i64 0], .bool false]) w := by kernel_rfl
theorem as_ve_pu (v : Value) (w : World) : (Instr.typeAssert (.iface 151 v) 129 149 true).run Tryz.prog w = .ok (.tuple #[.agg #[.string ⟨#[]⟩, .int .i64 0, .int .i64 0, .int .i64 0, .string ⟨#[]⟩, .int .i64 0], .bool false]) w := by kernel_rfl
theorem as_ve_ve (v : Value) (w : World) : (Instr.typeAssert (.iface 151 v) 129 151 true).run Tryz.prog w = .ok (.tuple #[v, .bool true]) w := by kernel_rfl
theorem as_fe_cl (v : Value) (w : World) : (Instr.typeAssert (.iface 153 v) 129 147 true).run Tryz.prog w = .ok (.tuple #[.agg #[.string ⟨#[]⟩, .int .i64 0], .bool false]) w := by kernel_rfl
theorem as_fe_pu (v : Value) (w : World) : (Instr.typeAssert (.iface 153 v) 129 149 true).run Tryz.prog w = .ok (.tuple #[.agg #[.string ⟨#[]⟩, .int .i64 0, .int .i64 0, .int .i64 0, .string ⟨#[]⟩, .int .i64 0], .bool false]) w := by kernel_rfl
theorem as_fe_ve (v : Value) (w : World) : (Instr.typeAssert (.iface 153 v) 129 151 true).run Tryz.prog w = .ok (.tuple #[.agg #[.bool false, .string ⟨#[]⟩, .int .i64 0, .int .i64 0, .int .i64 0, .int .i64 0], .bool false]) w := by kernel_rfl
theorem as_fe_fe (v : Value) (w : World) : (Instr.typeAssert (.iface 153 v) 129 153 true).run Tryz.prog w = .ok (.tuple #[v, .bool true]) w := by kernel_rfl
theorem as_gi_cl (v : Value) (w : World) : (Instr.typeAssert (.iface 155 v) 129 147 true).run Tryz.prog w = .ok (.tuple #[.agg #[.string ⟨#[]⟩, .int .i64 0], .bool false]) w := by kernel_rfl
theorem as_gi_pu (v : Value) (w : World) : (Instr.typeAssert (.iface 155 v) 129 149 true).run Tryz.prog w = .ok (.tuple #[.agg #[.string ⟨#[]⟩, .int .i64 0, .int .i64 0, .int .i64 0, .string ⟨#[]⟩, .int .i64 0], .bool false]) w := by kernel_rfl
theorem as_gi_ve (v : Value) (w : World) : (Instr.typeAssert (.iface 155 v) 129 151 true).run Tryz.prog w = .ok (.tuple #[.agg #[.bool false, .string ⟨#[]⟩, .int .i64 0, .int .i64 0, .int .i64 0, .int .i64 0], .bool false]) w := by kernel_rfl
theorem as_gi_fe (v : Value) (w : World) : (Instr.typeAssert (.iface 155 v) 129 153 true).run Tryz.prog w = .ok (.tuple #[.agg #[.string ⟨#[]⟩, .int .i64 0, .int .i64 0, .int .i64 0], .bool false]) w := by kernel_rfl
theorem as_gi_gi (v : Value) (w : World) : (Instr.typeAssert (.iface 155 v) 129 155 true).run Tryz.prog w = .ok (.tuple #[v, .bool true]) w := by kernel_rfl
theorem as_nil_cl (w : World) : (Instr.typeAssert .nilIface 129 147 true).run Tryz.prog w = .ok (.tuple #[.agg #[.string ⟨#[]⟩, .int .i64 0], .bool false]) w := by kernel_rfl
theorem as_nil_pu (w : World) : (Instr.typeAssert .nilIface 129 149 true).run Tryz.prog w = .ok (.tuple #[.agg #[.string ⟨#[]⟩, .int .i64 0, .int .i64 0, .int .i64 0, .string ⟨#[]⟩, .int .i64 0], .bool false]) w := by kernel_rfl
theorem as_nil_ve (w : World) : (Instr.typeAssert .nilIface 129 151 true).run Tryz.prog w = .ok (.tuple #[.agg #[.bool false, .string ⟨#[]⟩, .int .i64 0, .int .i64 0, .int .i64 0, .int .i64 0], .bool false]) w := by kernel_rfl
theorem as_nil_fe (w : World) : (Instr.typeAssert .nilIface 129 153 true).run Tryz.prog w = .ok (.tuple #[.agg #[.string ⟨#[]⟩, .int .i64 0, .int .i64 0, .int .i64 0], .bool false]) w := by kernel_rfl
theorem as_nil_gi (w : World) : (Instr.typeAssert .nilIface 129 155 true).run Tryz.prog w = .ok (.tuple #[.agg #[.string ⟨#[]⟩, .int .i64 0, .int .i64 0], .bool false]) w := by kernel_rfl

/-- What shapeOf makes of a deed. -/
def shV (d : M.Dd) : Value :=
  if d.kind == 1 then .iface 147 (clV d) else if d.kind == 2 then .iface 149 (puV d) else if d.kind == 3 then .iface 151 (veV true d)
  else if d.kind == 4 then .iface 151 (veV false d) else if d.kind == 5 then .iface 153 (feV d) else if d.kind == 6 then .iface 155 (giV d) else .nilIface

theorem ret_v {a b : Value} (h : a = b) : Ending.returned a = .returned b := by rw [h]

set_option maxHeartbeats 1000000 in
theorem shapeOf_any (d : M.Dd) (w : World) :
    Calls Tryz.prog 83 #[ddV d] w fun r w' => r = .returned (shV d) ∧ Below w.heap.size w w' := by
  have b0 : Below w.heap.size w (w.alloc (.cells (ddC d) 31)) := (Below.refl _ _).alloc (Nat.le_refl _) _
  go_enter Tryz.func83, Tryz.ntmps83
  go_wp2
  all_goals
    go_ret
    refine ⟨ret_v ?_, b0⟩
    simp only [shV, *, if_true, if_false, Bool.false_eq_true]
    try rfl

abbrev clC (d : M.Dd) : Array Value := #[.string d.name, .int .i64 d.who]
abbrev puC (d : M.Dd) : Array Value := #[.string d.name, .int .i64 d.ed.ma, .int .i64 d.ed.mi, .int .i64 d.ed.pa, .string d.page, .int .i64 d.who]
abbrev veC (b : Bool) (d : M.Dd) : Array Value := #[.bool b, .string d.name, .int .i64 d.ed.ma, .int .i64 d.ed.mi, .int .i64 d.ed.pa, .int .i64 d.who]
abbrev feC (d : M.Dd) : Array Value := #[.string d.name, .int .i64 d.ed.ma, .int .i64 d.ed.mi, .int .i64 d.ed.pa]
abbrev giC (d : M.Dd) : Array Value := #[.string d.name, .int .i64 d.who, .int .i64 d.ed.ma]
set_option maxHeartbeats 1000000 in
theorem shapeOk_claim (d : M.Dd) (w : World) (hn : d.name.size ≤ maxLen) :
    Calls Tryz.prog 84 #[.iface 147 (clV d)] w fun r w' => r = .returned (.bool (M.nameOk d.name.data.toList && (M.inI d.who 0 3))) ∧ Below w.heap.size w w' := by
  have as_cl := as_cl_cl
  have b0 := (Below.refl w.heap.size w).alloc (Nat.le_refl _) (.cells (clC d) 147)
  have h0 := holds_new w (clC d) 147
  rcases h1 : M.nameOk d.name.data.toList with _ | _
  ·
    go_enter Tryz.func84, Tryz.ntmps84
    go_wp2_with fail
    refine (implNameOk d.name _ hn).mono ?_
    rintro r w1 ⟨rfl, rfl⟩
    go_wp2
    go_ret
    exact ⟨rfl, b0⟩
  ·
    go_enter Tryz.func84, Tryz.ntmps84
    go_wp2_with fail
    refine (implNameOk d.name _ hn).mono ?_
    rintro r w1 ⟨rfl, rfl⟩
    go_wp2_with fail
    refine (whoOk_any d.who _).mono ?_
    rintro r w2 ⟨rfl, rfl⟩
    go_wp2
    go_ret
    exact ⟨rfl, b0⟩
set_option maxHeartbeats 1000000 in
theorem shapeOk_put (d : M.Dd) (w : World) (hn : d.name.size ≤ maxLen) (hp : d.page.size ≤ maxLen) :
    Calls Tryz.prog 84 #[.iface 149 (puV d)] w fun r w' => r = .returned (.bool (M.nameOk d.name.data.toList && (M.edOk d.ed && (M.pageOk d.page.data.toList && (M.inI d.who 0 3))))) ∧ Below w.heap.size w w' := by
  have as_cl := as_pu_cl
  have as_pu := as_pu_pu
  have b0 := (Below.refl w.heap.size w).alloc (Nat.le_refl _) (.cells (puC d) 149)
  have h0 := holds_new w (puC d) 149
  rcases h1 : M.nameOk d.name.data.toList with _ | _
  ·
    go_enter Tryz.func84, Tryz.ntmps84
    go_wp2_with fail
    refine (implNameOk d.name _ hn).mono ?_
    rintro r w1 ⟨rfl, rfl⟩
    go_wp2
    go_ret
    exact ⟨rfl, b0⟩
  ·
    rcases h2 : M.edOk d.ed with _ | _
    ·
      go_enter Tryz.func84, Tryz.ntmps84
      go_wp2_with fail
      refine (implNameOk d.name _ hn).mono ?_
      rintro r w1 ⟨rfl, rfl⟩
      go_wp2_with fail
      refine (implEditionOk d.ed _).mono ?_
      rintro r w2 ⟨rfl, b1⟩
      replace h0 := h0.below b1
      replace b0 := next b0 b1
      obtain ⟨p0, p1, p2, p3, p4, p5⟩ := h0.six
      go_wp2
      go_ret
      exact ⟨rfl, b0⟩
    ·
      rcases h3 : M.pageOk d.page.data.toList with _ | _
      ·
        go_enter Tryz.func84, Tryz.ntmps84
        go_wp2_with fail
        refine (implNameOk d.name _ hn).mono ?_
        rintro r w1 ⟨rfl, rfl⟩
        go_wp2_with fail
        refine (implEditionOk d.ed _).mono ?_
        rintro r w2 ⟨rfl, b1⟩
        replace h0 := h0.below b1
        replace b0 := next b0 b1
        obtain ⟨p0, p1, p2, p3, p4, p5⟩ := h0.six
        go_wp2_with fail
        refine (implPageOk d.page _ hp).mono ?_
        rintro r w3 ⟨rfl, rfl⟩
        go_wp2
        go_ret
        exact ⟨rfl, b0⟩
      ·
        go_enter Tryz.func84, Tryz.ntmps84
        go_wp2_with fail
        refine (implNameOk d.name _ hn).mono ?_
        rintro r w1 ⟨rfl, rfl⟩
        go_wp2_with fail
        refine (implEditionOk d.ed _).mono ?_
        rintro r w2 ⟨rfl, b1⟩
        replace h0 := h0.below b1
        replace b0 := next b0 b1
        obtain ⟨p0, p1, p2, p3, p4, p5⟩ := h0.six
        go_wp2_with fail
        refine (implPageOk d.page _ hp).mono ?_
        rintro r w3 ⟨rfl, rfl⟩
        go_wp2_with fail
        refine (whoOk_any d.who _).mono ?_
        rintro r w4 ⟨rfl, rfl⟩
        go_wp2
        go_ret
        exact ⟨rfl, b0⟩
set_option maxHeartbeats 1000000 in
theorem shapeOk_veil (b : Bool) (d : M.Dd) (w : World) (hn : d.name.size ≤ maxLen) :
    Calls Tryz.prog 84 #[.iface 151 (veV b d)] w fun r w' => r = .returned (.bool (M.nameOk d.name.data.toList && (M.edOk d.ed && (M.inI d.who 0 3)))) ∧ Below w.heap.size w w' := by
  have as_cl := as_ve_cl
  have as_pu := as_ve_pu
  have as_ve := as_ve_ve
  have b0 := (Below.refl w.heap.size w).alloc (Nat.le_refl _) (.cells (veC b d) 151)
  have h0 := holds_new w (veC b d) 151
  rcases h1 : M.nameOk d.name.data.toList with _ | _
  ·
    go_enter Tryz.func84, Tryz.ntmps84
    go_wp2_with fail
    refine (implNameOk d.name _ hn).mono ?_
    rintro r w1 ⟨rfl, rfl⟩
    go_wp2
    go_ret
    exact ⟨rfl, b0⟩
  ·
    rcases h2 : M.edOk d.ed with _ | _
    ·
      go_enter Tryz.func84, Tryz.ntmps84
      go_wp2_with fail
      refine (implNameOk d.name _ hn).mono ?_
      rintro r w1 ⟨rfl, rfl⟩
      go_wp2_with fail
      refine (implEditionOk d.ed _).mono ?_
      rintro r w2 ⟨rfl, b1⟩
      replace h0 := h0.below b1
      replace b0 := next b0 b1
      obtain ⟨p0, p1, p2, p3, p4, p5⟩ := h0.six
      go_wp2
      go_ret
      exact ⟨rfl, b0⟩
    ·
      go_enter Tryz.func84, Tryz.ntmps84
      go_wp2_with fail
      refine (implNameOk d.name _ hn).mono ?_
      rintro r w1 ⟨rfl, rfl⟩
      go_wp2_with fail
      refine (implEditionOk d.ed _).mono ?_
      rintro r w2 ⟨rfl, b1⟩
      replace h0 := h0.below b1
      replace b0 := next b0 b1
      obtain ⟨p0, p1, p2, p3, p4, p5⟩ := h0.six
      go_wp2_with fail
      refine (whoOk_any d.who _).mono ?_
      rintro r w3 ⟨rfl, rfl⟩
      go_wp2
      go_ret
      exact ⟨rfl, b0⟩
set_option maxHeartbeats 1000000 in
theorem shapeOk_fetch (d : M.Dd) (w : World) (hn : d.name.size ≤ maxLen) :
    Calls Tryz.prog 84 #[.iface 153 (feV d)] w fun r w' => r = .returned (.bool (M.nameOk d.name.data.toList && (M.edOk d.ed))) ∧ Below w.heap.size w w' := by
  have as_cl := as_fe_cl
  have as_pu := as_fe_pu
  have as_ve := as_fe_ve
  have as_fe := as_fe_fe
  have b0 := (Below.refl w.heap.size w).alloc (Nat.le_refl _) (.cells (feC d) 153)
  have h0 := holds_new w (feC d) 153
  rcases h1 : M.nameOk d.name.data.toList with _ | _
  ·
    go_enter Tryz.func84, Tryz.ntmps84
    go_wp2_with fail
    refine (implNameOk d.name _ hn).mono ?_
    rintro r w1 ⟨rfl, rfl⟩
    go_wp2
    go_ret
    exact ⟨rfl, b0⟩
  ·
    go_enter Tryz.func84, Tryz.ntmps84
    go_wp2_with fail
    refine (implNameOk d.name _ hn).mono ?_
    rintro r w1 ⟨rfl, rfl⟩
    go_wp2_with fail
    refine (implEditionOk d.ed _).mono ?_
    rintro r w2 ⟨rfl, b1⟩
    replace h0 := h0.below b1
    replace b0 := next b0 b1
    go_wp2
    go_ret
    exact ⟨rfl, b0⟩
set_option maxHeartbeats 1000000 in
theorem shapeOk_give (d : M.Dd) (w : World) (hn : d.name.size ≤ maxLen) :
    Calls Tryz.prog 84 #[.iface 155 (giV d)] w fun r w' => r = .returned (.bool (M.nameOk d.name.data.toList && (M.inI d.who 0 3 && (M.edOk ⟨d.ed.ma, 0, 0⟩)))) ∧ Below w.heap.size w w' := by
  have as_cl := as_gi_cl
  have as_pu := as_gi_pu
  have as_ve := as_gi_ve
  have as_fe := as_gi_fe
  have as_gi := as_gi_gi
  have b0 := (Below.refl w.heap.size w).alloc (Nat.le_refl _) (.cells (giC d) 155)
  have h0 := holds_new w (giC d) 155
  rcases h1 : M.nameOk d.name.data.toList with _ | _
  ·
    go_enter Tryz.func84, Tryz.ntmps84
    go_wp2_with fail
    refine (implNameOk d.name _ hn).mono ?_
    rintro r w1 ⟨rfl, rfl⟩
    go_wp2
    go_ret
    exact ⟨rfl, b0⟩
  ·
    rcases h2 : M.inI d.who 0 3 with _ | _
    ·
      go_enter Tryz.func84, Tryz.ntmps84
      go_wp2_with fail
      refine (implNameOk d.name _ hn).mono ?_
      rintro r w1 ⟨rfl, rfl⟩
      go_wp2_with fail
      refine (whoOk_any d.who _).mono ?_
      rintro r w2 ⟨rfl, rfl⟩
      go_wp2
      go_ret
      exact ⟨rfl, b0⟩
    ·
      go_enter Tryz.func84, Tryz.ntmps84
      go_wp2_with fail
      refine (implNameOk d.name _ hn).mono ?_
      rintro r w1 ⟨rfl, rfl⟩
      go_wp2_with fail
      refine (whoOk_any d.who _).mono ?_
      rintro r w2 ⟨rfl, rfl⟩
      go_wp2_with fail
      refine (implEditionOk ⟨d.ed.ma, 0, 0⟩ _).mono ?_
      rintro r w3 ⟨rfl, b1⟩
      replace h0 := h0.below b1
      replace b0 := next b0 b1
      go_wp2
      go_ret
      exact ⟨rfl, b0⟩
end Go.Proofs.YtkpbfocnokbmiaaGreat
namespace Go.Proofs.YtkpbfocnokbmiaaGreat
open Go.RowKit
set_option maxRecDepth 20000

/-- append of a slice of records, and where the row then lies. -/
theorem wp_append_flat_at {α : Type} {enc : α → List Value} {k : Nat} {w : World} {l : List α} {P : Program} {o : Oper} {a : Act} {K : Act → World → Prop} {Q : Exit → Act → World → Prop} (s x : Operand) (t : TypeId)
    (ho : o.op = .call { callee := .builtin .append, args := #[s, x], argTypes := #[t, t] })
    (base : Nat) (e : TypeId) (i : TypeInfo) (z : Value) (bytes : Nat) (ht : P.underlying t = some (.slice e)) (hi : P.info? e = some i) (hz : i.zero = some z)
    (hsize : i.size = k) (hby : i.bytes = bytes) (hzs : z.cells.size = k) (hsz : 0 < k)
    (v : Value) (n : Nat) (xs : List Value) (hs : a.eval s = v) (hown : w.ownsRow base e k v n xs)
    (A : Option Addr) (c : Nat) (hx : a.eval x = .slice A l.length c) (hA : A = none → c = 0) (hfl : Flat enc k w A l) (hk : ∀ x, (enc x).length = k) (h1 : ∀ u ∈ cellsOf enc l, u.oneCell' = true)
    (h63 : n + l.length ≤ maxLen) (hbytes : (n + l.length) * bytes ≤ 140737488355328) (hbase : base ≤ w.heap.size)
    (h : ∀ v' w', w'.ownsRow base e k v' (n + l.length) (xs ++ cellsOf enc l) → w.grownBy w' v.ownBlock → (v'.ownBlock = v.ownBlock ∨ v'.ownBlock = some w.heap.size) → K (a.put o.dst v') w') : o.wp P a w K Q := by
  rcases A with _ | ad
  · have hl := flat_none hfl
    have hc := hA rfl
    subst hl hc
    have hrun := run_append_owned_none (P := P) w base t o.type e i k ht hi v n xs hown
    unfold Oper.wp execOp
    simp only [List.length_nil] at hx
    simp only [ho, resolve, invoke, builtin, Sem.run_bind, Sem.run_pure, Result.andThen_ok, List.map_toArray, List.map_cons, List.map_nil, hs, hx, hrun]
    refine h v w ?_ ⟨rfl, rfl, rfl, Nat.le_refl _, fun _ _ _ => rfl⟩ (.inl rfl)
    simpa [cellsOf] using hown
  · obtain ⟨v', w', hr, h2, h3, _, h5⟩ := run_append_own_at (P := P) w base t o.type e i z k bytes ht hi hz hsize hby hzs hsz v n xs hown ad l.length c (cellsOf enc l) (cellsOf_len hk l) (flat_news hk hsz hfl) h1 h63 hbytes hbase
    unfold Oper.wp execOp
    simp only [ho, resolve, invoke, builtin, Sem.run_bind, Sem.run_pure, Result.andThen_ok, List.map_toArray, List.map_cons, List.map_nil, hs, hx, hr]
    exact h v' w' h2 h3 h5
theorem CpOwn.apartN {B : Nat} {w : World} {v : Value} {l : List M.Cp} (h : CpOwn B w v l) {a : Addr} (ha : v.ownBlock ≠ some a.block) (u : Value) : CpOwn B (w.setCell a u) v l := by
  obtain ⟨hl, h0 | ⟨k, cap, cur, rfl, hb, hh, hr⟩⟩ := h
  · exact ⟨hl, .inl h0⟩
  · exact ⟨hl, .inr ⟨k, cap, cur, rfl, hb, (Below.heap_setCell _ _ _ _ (fun e => ha (by rw [← e]; rfl))).trans hh, hr⟩⟩
theorem own_blk (A : Option Addr) (n m c d : Nat) : (Value.slice A n c).ownBlock = (Value.slice A m d).ownBlock := by cases A <;> rfl
theorem own_k {B k : Nat} {w : World} {v : Value} {l : List M.Cp} (hk : l.length = k) (h : CpOwn B w v l) : w.ownsRow B 127 5 v k (cellsOf cpL l) := by subst hk; exact h
theorem k_own {B k : Nat} {w : World} {v : Value} {l : List M.Cp} (hk : l.length = k) (h : w.ownsRow B 127 5 v k (cellsOf cpL l)) : CpOwn B w v l := by subst hk; exact h
theorem own_two {o1 o2 : Option Nat} (h : ∀ k, o1 = some k → o2 ≠ some k) : o1 = none ∨ o1 ≠ o2 := by
  rcases o1 with _ | k
  · exact .inl rfl
  · exact .inr fun e => h k rfl e.symm
theorem own_cap {B : Nat} {w : World} {A : Option Addr} {n c : Nat} {l : List M.Cp} (h : CpOwn B w (.slice A n c) l) : l.length ≤ c := by
  obtain ⟨_, ⟨h0, hn⟩ | ⟨g, cap, cur, hv, _, _, hnc, _⟩⟩ := h
  · omega
  · injection hv with _ _ hc
    omega
theorem CpOwn.nilc {B : Nat} {w : World} {A : Option Addr} {n c : Nat} {l : List M.Cp} (h : CpOwn B w (.slice A n c) l) : A = none → c = 0 := by
  obtain ⟨A', c', hv, _, hc⟩ := h.open
  injection hv with hA _ hcc
  subst hA hcc
  exact hc

set_option maxHeartbeats 1000000 in
theorem with_any (A : Option Addr) (l : List M.Cp) (cap k : Nat) (c : M.Cp) (w : World) (hl : Cps w A l) (hA : A = none → cap = 0) (hcap : l.length ≤ cap) (hk : k ≤ l.length) (hlen : l.length ≤ 1048576) :
    Calls Tryz.prog 156 #[.slice A l.length cap, .int .i64 k, cpV c] w fun r w' => ∃ A' c', r = .returned (.slice A' (l.length + 1) c') ∧ CpOwn w.heap.size w' (.slice A' (l.length + 1) c') (M.putAt l k c) ∧ Below w.heap.size w w' := by
  obtain ⟨i0, hi, hz0, hz1, hz2⟩ := info_parts infoCp
  have b0 := (Below.refl w.heap.size w).alloc (Nat.le_refl _) (.cells (cpV c).cells 127)
  have h0 := holds_new w (cpV c).cells 127
  have HL := Lib.hid hl
  have HA := Lib.hid hA
  clear hl hA
  go_enter Tryz.func156, Tryz.ntmps156
  go_wp2_with (first | (at_builtin; refine stop_mk ?_) | (refine wpList_make_own _ rfl _ _ 159 rfl (w.heap.size + 1) 127 i0 _ 5 Tryz.underlying159 hi hz0 hz1 .i64 .i64 _ (l.length + 1) rfl rfl (by simp) (by rw [hz2]; omega) (by unfold maxLen; omega) (by simp) ?_; intro w1 hown hgrow; refine stop_mk ?_))
  refine stop_un ?_
  simp only [World.size_alloc] at hown
  replace b0 := b0.grown hgrow (by simp) (fun k hk => by cases hk)
  replace h0 := grown_holds h0 hgrow (by simp)
  have hl1 := HL.out.below b0
  have HO := Lib.hid hown
  have H0 := Lib.hid h0
  clear hown hgrow h0
  go_wp2_with (at_builtin; refine stop_mk ?_)
  refine stop_un ?_
  have hkl : (l.take k).length = k := by rw [List.length_take, Nat.min_eq_left hk]
  refine wpList_append_flat (k := 5) (enc := cpL) (l := l.take k) rfl _ _ 159 rfl (w.heap.size + 1) 127 i0 _ 48 Tryz.underlying159 hi hz0 hz1 hz2 rfl (by decide) (.slice (some ⟨w.heap.size + 1, 0, none⟩) 0 (l.length + 1)) 0 [] rfl HO.out A cap (by rw [hkl]; rfl) HA.out (hl1.cutTake k) cpL_len (cp_one _) (by rw [hkl]; unfold maxLen; omega) (by rw [hkl]; omega) ?b1 ?_
  case b1 => exact H0.out.1
  intro v2 w2 hown hgrow
  rw [Nat.zero_add, List.nil_append] at hown
  have hO : CpOwn (w.heap.size + 1) w2 v2 (l.take k) := hown
  replace b0 := b0.grown hgrow b0.size (fun g hg => by have := (HO.out.lt g hg).1; omega)
  have h0 := grown_holds H0.out hgrow (own_ne HO.out (by omega))
  have hl2 := HL.out.below b0
  obtain ⟨A2, c2, rfl, -, -⟩ := hO.open
  rw [hkl] at hO ⊢
  have hz2' := h0.1
  obtain ⟨p0, p1, p2, p3, p4⟩ := h0.at5
  have HO2 := Lib.hid hO
  have H2 := Lib.hid h0
  clear hown hgrow hO h0 HO H0 hl1
  go_wp2_with (at_builtin; refine stop_mk ?_)
  refine stop_un ?_
  have hb2 : (w2.alloc (.cells (cpV c).cells 127)).ownsRow (w.heap.size + 1) 127 5 (.slice A2 k c2) k (cellsOf cpL (l.take k)) := by
    have h := HO2.out
    unfold CpOwn at h
    rw [hkl] at h
    exact h.alloc _
  refine wpList_append_flat (k := 5) (enc := cpL) (l := [c]) rfl _ _ 159 rfl (w.heap.size + 1) 127 i0 _ 48 Tryz.underlying159 hi hz0 hz1 hz2 rfl (by decide) (.slice A2 k c2) k (cellsOf cpL (l.take k)) rfl hb2 (some ⟨w2.heap.size, 0, none⟩) 1 rfl (fun h => by cases h) (one_flat w2 c _) cpL_len (cp_one _) (by simp only [List.length_singleton]; unfold maxLen; omega) (by simp only [List.length_singleton]; omega) ?b2 ?_
  case b2 => have := hz2'; simp; omega
  intro v3 w3 hown hgrow
  rw [← cellsOf_append] at hown
  have hO : CpOwn (w.heap.size + 1) w3 v3 (l.take k ++ [c]) := by
    unfold CpOwn
    rw [List.length_append, hkl]; exact hown
  replace b0 := (b0.alloc b0.size (.cells (cpV c).cells 127)).grown hgrow (Nat.le_trans b0.size (by simp)) (fun g hg => by have := (hb2.lt g hg).1; omega)
  have h0 := grown_holds (H2.out.alloc (.cells (cpV c).cells 127)) hgrow (own_ne hb2 (by omega))
  have hl3 := HL.out.below b0
  obtain ⟨A3, c3, rfl, -, -⟩ := hO.open
  have hkl3 : (l.take k ++ [c]).length = k + 1 := by rw [List.length_append, hkl]; rfl
  rw [hkl3] at hO ⊢
  have HO3 := Lib.hid hO
  have H3 := Lib.hid h0.1
  clear hown hgrow hO h0 HO2 H2 hl2 hb2 p0 p1 p2 p3 p4
  have hb3 : w3.ownsRow (w.heap.size + 1) 127 5 (.slice A3 (k + 1) c3) (k + 1) (cellsOf cpL (l.take k ++ [c])) := by
    have h := HO3.out
    unfold CpOwn at h
    rw [hkl3] at h
    exact h
  by_cases hck : cap = k
  · have HB := Lib.hid (show _ ∧ _ from ⟨hb3, hl3⟩)
    clear hb3 hl3
    subst hck
    go_wp2_with (at_builtin; refine stop_mk ?_)
    obtain ⟨hb3, hl3⟩ := HB.out
    refine stop_un ?_
    refine wpList_append_flat (k := 5) (enc := cpL) (l := l.drop cap) rfl _ _ 159 rfl (w.heap.size + 1) 127 i0 _ 48 Tryz.underlying159 hi hz0 hz1 hz2 rfl (by decide) (.slice A3 (cap + 1) c3) (cap + 1) (cellsOf cpL (l.take cap ++ [c])) rfl hb3 (A) (0) (by rw [List.length_drop, show l.length - cap = 0 by omega]; rfl) (fun _ => rfl) (.inl (List.drop_eq_nil_of_le (by omega))) cpL_len (cp_one _) (by rw [List.length_drop]; unfold maxLen; omega) (by rw [List.length_drop]; omega) H3.out ?_
    intro v4 w4 hown hgrow
    rw [← cellsOf_append, List.append_assoc, List.singleton_append] at hown
    have hO : CpOwn (w.heap.size + 1) w4 v4 (M.putAt l cap c) := by
      unfold CpOwn
      rw [M.putAt_len l cap c hk]
      rw [List.length_drop, show cap + 1 + (l.length - cap) = l.length + 1 by omega] at hown
      exact hown
    replace b0 := b0.grown hgrow b0.size (fun g hg => by have := (hb3.lt g hg).1; omega)
    obtain ⟨A4, c4, rfl, -, -⟩ := hO.open
    rw [M.putAt_len l cap c hk] at hO ⊢
    have HO4 := Lib.hid (hO.mono (show w.heap.size ≤ w.heap.size + 1 by omega))
    clear hown hgrow hO hb3 HO3
    go_wp2
    go_ret
    exact ⟨A4, c4, rfl, HO4.out, b0⟩
  · have HB := Lib.hid (show _ ∧ _ from ⟨hb3, hl3⟩)
    clear hb3 hl3
    go_wp2_with (at_builtin; refine stop_mk ?_)
    obtain ⟨hb3, hl3⟩ := HB.out
    have hcd := hl3.cutDrop (cap := cap) k hcap
    unfold cutAt at hcd
    rw [if_neg hck] at hcd
    refine stop_un ?_
    refine wpList_append_flat (k := 5) (enc := cpL) (l := l.drop k) rfl _ _ 159 rfl (w.heap.size + 1) 127 i0 _ 48 Tryz.underlying159 hi hz0 hz1 hz2 rfl (by decide) (.slice A3 (k + 1) c3) (k + 1) (cellsOf cpL (l.take k ++ [c])) rfl hb3 (A.map (·.add (k * 5))) (cap - k) (by rw [List.length_drop]; rfl) (fun h => by have := HA.out (by simpa using h); omega) (hcd) cpL_len (cp_one _) (by rw [List.length_drop]; unfold maxLen; omega) (by rw [List.length_drop]; omega) H3.out ?_
    intro v4 w4 hown hgrow
    rw [← cellsOf_append, List.append_assoc, List.singleton_append] at hown
    have hO : CpOwn (w.heap.size + 1) w4 v4 (M.putAt l k c) := by
      unfold CpOwn
      rw [M.putAt_len l k c hk]
      rw [List.length_drop, show k + 1 + (l.length - k) = l.length + 1 by omega] at hown
      exact hown
    replace b0 := b0.grown hgrow b0.size (fun g hg => by have := (hb3.lt g hg).1; omega)
    obtain ⟨A4, c4, rfl, -, -⟩ := hO.open
    rw [M.putAt_len l k c hk] at hO ⊢
    have HO4 := Lib.hid (hO.mono (show w.heap.size ≤ w.heap.size + 1 by omega))
    clear hown hgrow hO hb3 HO3
    go_wp2
    go_ret
    exact ⟨A4, c4, rfl, HO4.out, b0⟩
end Go.Proofs.YtkpbfocnokbmiaaGreat
namespace Go.Proofs.YtkpbfocnokbmiaaGreat
open Go

theorem anyH_weaken {P : Program} {md : Region.Mode} {ops : Array Oper} {Q : Exit → Act → World → Prop} {S S' : World → Prop} (h : ∀ w, S' w → S w) :
    ∀ (fuel : Nat) (listed : Array Bool) (a : Act) (w : World), wpAnyH P md ops Q S' fuel listed a w → wpAnyH P md ops Q S fuel listed a w
  | 0, _, _, _, k => k
  | fuel + 1, _, _, _, k => ⟨k.1, fun i hi => wpOp_mono (fun a' w' h' => ⟨h w' h'.1, anyH_weaken h fuel _ a' w' h'.2⟩) (k.2 i hi)⟩

end Go.Proofs.YtkpbfocnokbmiaaGreat
