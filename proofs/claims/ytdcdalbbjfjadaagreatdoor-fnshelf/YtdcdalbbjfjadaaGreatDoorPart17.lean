/- Proved, in parts: Proved: the program's DeedOk, which goes over shapes, answers the same plain Lean function as the model's, at every deed; it writes nothing that was there. Condition: texts of at most maxLen bytes. -/
import Derived.Test.YtdcdalbbjfjadaaGreatDoorPart06
import Derived.KernelRfl
namespace Go.Proofs.YtdcdalbbjfjadaaGreatDoor
open Go.RowKit
set_option maxRecDepth 20000

abbrev clV (d : M.Dd) : Value := .agg #[.string d.name, .int .i64 d.who]
abbrev puV (d : M.Dd) : Value := .agg #[.string d.name, .int .i64 d.ed.ma, .int .i64 d.ed.mi, .int .i64 d.ed.pa, .string d.page, .int .i64 d.who]
abbrev veV (b : Bool) (d : M.Dd) : Value := .agg #[.bool b, .string d.name, .int .i64 d.ed.ma, .int .i64 d.ed.mi, .int .i64 d.ed.pa, .int .i64 d.who]
abbrev feV (d : M.Dd) : Value := .agg #[.string d.name, .int .i64 d.ed.ma, .int .i64 d.ed.mi, .int .i64 d.ed.pa]
abbrev giV (d : M.Dd) : Value := .agg #[.string d.name, .int .i64 d.who, .int .i64 d.ed.ma]

theorem deed_claim (d : M.Dd) (w : World) : Calls Tryz.prog 171 #[clV d] w fun r w' => r = .returned (ddV ⟨1, d.name, ⟨0, 0, 0⟩, ⟨#[]⟩, d.who⟩) ∧ Below w.heap.size w w' := by
  go_enter Tryz.func171, Tryz.ntmps171
  go_wp2
  refine bodyPost_ret (v := ddV ⟨1, d.name, ⟨0, 0, 0⟩, ⟨#[]⟩, d.who⟩) (by simp [results, Tryz.results171, go_sem]) rfl ⟨rfl, ?_⟩
  repeat (first | exact Below.refl _ _ | refine Below.alloc ?_ (by simp <;> omega) _)
theorem deed_put (d : M.Dd) (w : World) : Calls Tryz.prog 172 #[puV d] w fun r w' => r = .returned (ddV ⟨2, d.name, d.ed, d.page, d.who⟩) ∧ Below w.heap.size w w' := by
  go_enter Tryz.func172, Tryz.ntmps172
  go_wp2
  refine bodyPost_ret (v := ddV ⟨2, d.name, d.ed, d.page, d.who⟩) (by simp [results, Tryz.results172, go_sem]) rfl ⟨rfl, ?_⟩
  repeat (first | exact Below.refl _ _ | refine Below.alloc ?_ (by simp <;> omega) _)
theorem deed_veil (b : Bool) (d : M.Dd) (w : World) : Calls Tryz.prog 173 #[veV b d] w fun r w' => r = .returned (ddV ⟨if b then 3 else 4, d.name, d.ed, ⟨#[]⟩, d.who⟩) ∧ Below w.heap.size w w' := by
  cases b
  · go_enter Tryz.func173, Tryz.ntmps173
    go_wp2
    refine bodyPost_ret (v := ddV ⟨4, d.name, d.ed, ⟨#[]⟩, d.who⟩) (by simp [results, Tryz.results173, go_sem]) rfl ⟨rfl, ?_⟩
    repeat (first | exact Below.refl _ _ | refine Below.alloc ?_ (by simp <;> omega) _)
  · go_enter Tryz.func173, Tryz.ntmps173
    go_wp2
    refine bodyPost_ret (v := ddV ⟨3, d.name, d.ed, ⟨#[]⟩, d.who⟩) (by simp [results, Tryz.results173, go_sem]) rfl ⟨rfl, ?_⟩
    repeat (first | exact Below.refl _ _ | refine Below.alloc ?_ (by simp <;> omega) _)
theorem deed_fetch (d : M.Dd) (w : World) : Calls Tryz.prog 174 #[feV d] w fun r w' => r = .returned (ddV ⟨5, d.name, d.ed, ⟨#[]⟩, 0⟩) ∧ Below w.heap.size w w' := by
  go_enter Tryz.func174, Tryz.ntmps174
  go_wp2
  refine bodyPost_ret (v := ddV ⟨5, d.name, d.ed, ⟨#[]⟩, 0⟩) (by simp [results, Tryz.results174, go_sem]) rfl ⟨rfl, ?_⟩
  repeat (first | exact Below.refl _ _ | refine Below.alloc ?_ (by simp <;> omega) _)
theorem deed_give (d : M.Dd) (w : World) : Calls Tryz.prog 175 #[giV d] w fun r w' => r = .returned (ddV ⟨6, d.name, ⟨d.ed.ma, 0, 0⟩, ⟨#[]⟩, d.who⟩) ∧ Below w.heap.size w w' := by
  go_enter Tryz.func175, Tryz.ntmps175
  go_wp2
  refine bodyPost_ret (v := ddV ⟨6, d.name, ⟨d.ed.ma, 0, 0⟩, ⟨#[]⟩, d.who⟩) (by simp [results, Tryz.results175, go_sem]) rfl ⟨rfl, ?_⟩
  repeat (first | exact Below.refl _ _ | refine Below.alloc ?_ (by simp <;> omega) _)

theorem as_cl_cl (v : Value) (w : World) : (Instr.typeAssert (.iface 120 v) 117 120 true).run Tryz.prog w = .ok (.tuple #[v, .bool true]) w := by kernel_rfl
theorem as_pu_cl (v : Value) (w : World) : (Instr.typeAssert (.iface 123 v) 117 120 true).run Tryz.prog w = .ok (.tuple #[.agg #[.string ⟨#[]⟩, .int .i64 0], .bool false]) w := by kernel_rfl
theorem as_pu_pu (v : Value) (w : World) : (Instr.typeAssert (.iface 123 v) 117 123 true).run Tryz.prog w = .ok (.tuple #[v, .bool true]) w := by kernel_rfl
theorem as_ve_cl (v : Value) (w : World) : (Instr.typeAssert (.iface 126 v) 117 120 true).run Tryz.prog w = .ok (.tuple #[.agg #[.string ⟨#[]⟩, .int .i64 0], .bool false]) w := by kernel_rfl
theorem as_ve_pu (v : Value) (w : World) : (Instr.typeAssert (.iface 126 v) 117 123 true).run Tryz.prog w = .ok (.tuple #[.agg #[.string ⟨#[]⟩, .int .i64 0, .int .i64 0, .int .i64 0, .string ⟨#[]⟩, .int .i64 0], .bool false]) w := by kernel_rfl
theorem as_ve_ve (v : Value) (w : World) : (Instr.typeAssert (.iface 126 v) 117 126 true).run Tryz.prog w = .ok (.tuple #[v, .bool true]) w := by kernel_rfl
theorem as_fe_cl (v : Value) (w : World) : (Instr.typeAssert (.iface 129 v) 117 120 true).run Tryz.prog w = .ok (.tuple #[.agg #[.string ⟨#[]⟩, .int .i64 0], .bool false]) w := by kernel_rfl
theorem as_fe_pu (v : Value) (w : World) : (Instr.typeAssert (.iface 129 v) 117 123 true).run Tryz.prog w = .ok (.tuple #[.agg #[.string ⟨#[]⟩, .int .i64 0, .int .i64 0, .int .i64 0, .string ⟨#[]⟩, .int .i64 0], .bool false]) w := by kernel_rfl
theorem as_fe_ve (v : Value) (w : World) : (Instr.typeAssert (.iface 129 v) 117 126 true).run Tryz.prog w = .ok (.tuple #[.agg #[.bool false, .string ⟨#[]⟩, .int .i64 0, .int .i64 0, .int .i64 0, .int .i64 0], .bool false]) w := by kernel_rfl
theorem as_fe_fe (v : Value) (w : World) : (Instr.typeAssert (.iface 129 v) 117 129 true).run Tryz.prog w = .ok (.tuple #[v, .bool true]) w := by kernel_rfl
theorem as_gi_cl (v : Value) (w : World) : (Instr.typeAssert (.iface 132 v) 117 120 true).run Tryz.prog w = .ok (.tuple #[.agg #[.string ⟨#[]⟩, .int .i64 0], .bool false]) w := by kernel_rfl
theorem as_gi_pu (v : Value) (w : World) : (Instr.typeAssert (.iface 132 v) 117 123 true).run Tryz.prog w = .ok (.tuple #[.agg #[.string ⟨#[]⟩, .int .i64 0, .int .i64 0, .int .i64 0, .string ⟨#[]⟩, .int .i64 0], .bool false]) w := by kernel_rfl
theorem as_gi_ve (v : Value) (w : World) : (Instr.typeAssert (.iface 132 v) 117 126 true).run Tryz.prog w = .ok (.tuple #[.agg #[.bool false, .string ⟨#[]⟩, .int .i64 0, .int .i64 0, .int .i64 0, .int .i64 0], .bool false]) w := by kernel_rfl
theorem as_gi_fe (v : Value) (w : World) : (Instr.typeAssert (.iface 132 v) 117 129 true).run Tryz.prog w = .ok (.tuple #[.agg #[.string ⟨#[]⟩, .int .i64 0, .int .i64 0, .int .i64 0], .bool false]) w := by kernel_rfl
theorem as_gi_gi (v : Value) (w : World) : (Instr.typeAssert (.iface 132 v) 117 132 true).run Tryz.prog w = .ok (.tuple #[v, .bool true]) w := by kernel_rfl
theorem as_nil_cl (w : World) : (Instr.typeAssert .nilIface 117 120 true).run Tryz.prog w = .ok (.tuple #[.agg #[.string ⟨#[]⟩, .int .i64 0], .bool false]) w := by kernel_rfl
theorem as_nil_pu (w : World) : (Instr.typeAssert .nilIface 117 123 true).run Tryz.prog w = .ok (.tuple #[.agg #[.string ⟨#[]⟩, .int .i64 0, .int .i64 0, .int .i64 0, .string ⟨#[]⟩, .int .i64 0], .bool false]) w := by kernel_rfl
theorem as_nil_ve (w : World) : (Instr.typeAssert .nilIface 117 126 true).run Tryz.prog w = .ok (.tuple #[.agg #[.bool false, .string ⟨#[]⟩, .int .i64 0, .int .i64 0, .int .i64 0, .int .i64 0], .bool false]) w := by kernel_rfl
theorem as_nil_fe (w : World) : (Instr.typeAssert .nilIface 117 129 true).run Tryz.prog w = .ok (.tuple #[.agg #[.string ⟨#[]⟩, .int .i64 0, .int .i64 0, .int .i64 0], .bool false]) w := by kernel_rfl
theorem as_nil_gi (w : World) : (Instr.typeAssert .nilIface 117 132 true).run Tryz.prog w = .ok (.tuple #[.agg #[.string ⟨#[]⟩, .int .i64 0, .int .i64 0], .bool false]) w := by kernel_rfl

/-- What shapeOf makes of a deed. -/
def shV (d : M.Dd) : Value :=
  if d.kind == 1 then .iface 120 (clV d) else if d.kind == 2 then .iface 123 (puV d) else if d.kind == 3 then .iface 126 (veV true d)
  else if d.kind == 4 then .iface 126 (veV false d) else if d.kind == 5 then .iface 129 (feV d) else if d.kind == 6 then .iface 132 (giV d) else .nilIface

theorem ret_v {a b : Value} (h : a = b) : Ending.returned a = .returned b := by rw [h]

set_option maxHeartbeats 1000000 in
theorem shapeOf_any (d : M.Dd) (w : World) :
    Calls Tryz.prog 85 #[ddV d] w fun r w' => r = .returned (shV d) ∧ Below w.heap.size w w' := by
  have b0 : Below w.heap.size w (w.alloc (.cells (ddC d) 28)) := (Below.refl _ _).alloc (Nat.le_refl _) _
  go_enter Tryz.func85, Tryz.ntmps85
  go_wp2
  all_goals
    go_ret
    refine ⟨ret_v ?_, b0⟩
    simp only [shV, *, if_true, if_false, Bool.false_eq_true]
    try rfl

abbrev clC (d : M.Dd) : Array Value := #[.string d.name, .int .i64 d.who]
abbrev puC (d : M.Dd) : Array Value := #[.string d.name, .int .i64 d.ed.ma, .int .i64 d.ed.mi, .int .i64 d.ed.pa, .string d.page, .int .i64 d.who]
abbrev veC (b : Bool) (d : M.Dd) : Array Value := #[.bool b, .string d.name, .int .i64 d.ed.ma, .int .i64 d.ed.mi, .int .i64 d.ed.pa, .int .i64 d.who]
abbrev feC (d : M.Dd) : Array Value := #[.string d.name, .int .i64 d.ed.ma, .int .i64 d.ed.mi, .int .i64 d.ed.pa]
abbrev giC (d : M.Dd) : Array Value := #[.string d.name, .int .i64 d.who, .int .i64 d.ed.ma]
set_option maxHeartbeats 1000000 in
theorem shapeOk_claim (d : M.Dd) (w : World) (hn : d.name.size ≤ maxLen) :
    Calls Tryz.prog 104 #[.iface 120 (clV d)] w fun r w' => r = .returned (.bool (M.nameOk d.name.data.toList && (M.inI d.who 0 3))) ∧ Below w.heap.size w w' := by
  have as_cl := as_cl_cl
  have b0 := (Below.refl w.heap.size w).alloc (Nat.le_refl _) (.cells (clC d) 120)
  have h0 := holds_new w (clC d) 120
  rcases h1 : M.nameOk d.name.data.toList with _ | _
  ·
    go_enter Tryz.func104, Tryz.ntmps104
    go_wp2_with fail
    refine (implNameOk d.name _ hn).mono ?_
    rintro r w1 ⟨rfl, rfl⟩
    go_wp2
    go_ret
    exact ⟨rfl, b0⟩
  ·
    go_enter Tryz.func104, Tryz.ntmps104
    go_wp2_with fail
    refine (implNameOk d.name _ hn).mono ?_
    rintro r w1 ⟨rfl, rfl⟩
    go_wp2_with fail
    refine (whoOk_any d.who _).mono ?_
    rintro r w2 ⟨rfl, rfl⟩
    go_wp2
    go_ret
    exact ⟨rfl, b0⟩
set_option maxHeartbeats 1000000 in
theorem shapeOk_put (d : M.Dd) (w : World) (hn : d.name.size ≤ maxLen) (hp : d.page.size ≤ maxLen) :
    Calls Tryz.prog 104 #[.iface 123 (puV d)] w fun r w' => r = .returned (.bool (M.nameOk d.name.data.toList && (M.edOk d.ed && (M.pageOk d.page.data.toList && (M.inI d.who 0 3))))) ∧ Below w.heap.size w w' := by
  have as_cl := as_pu_cl
  have as_pu := as_pu_pu
  have b0 := (Below.refl w.heap.size w).alloc (Nat.le_refl _) (.cells (puC d) 123)
  have h0 := holds_new w (puC d) 123
  rcases h1 : M.nameOk d.name.data.toList with _ | _
  ·
    go_enter Tryz.func104, Tryz.ntmps104
    go_wp2_with fail
    refine (implNameOk d.name _ hn).mono ?_
    rintro r w1 ⟨rfl, rfl⟩
    go_wp2
    go_ret
    exact ⟨rfl, b0⟩
  ·
    rcases h2 : M.edOk d.ed with _ | _
    ·
      go_enter Tryz.func104, Tryz.ntmps104
      go_wp2_with fail
      refine (implNameOk d.name _ hn).mono ?_
      rintro r w1 ⟨rfl, rfl⟩
      go_wp2_with fail
      refine (implEditionOk d.ed _).mono ?_
      rintro r w2 ⟨rfl, b1⟩
      replace h0 := h0.below b1
      replace b0 := next b0 b1
      obtain ⟨p0, p1, p2, p3, p4, p5⟩ := h0.six
      go_wp2
      go_ret
      exact ⟨rfl, b0⟩
    ·
      rcases h3 : M.pageOk d.page.data.toList with _ | _
      ·
        go_enter Tryz.func104, Tryz.ntmps104
        go_wp2_with fail
        refine (implNameOk d.name _ hn).mono ?_
        rintro r w1 ⟨rfl, rfl⟩
        go_wp2_with fail
        refine (implEditionOk d.ed _).mono ?_
        rintro r w2 ⟨rfl, b1⟩
        replace h0 := h0.below b1
        replace b0 := next b0 b1
        obtain ⟨p0, p1, p2, p3, p4, p5⟩ := h0.six
        go_wp2_with fail
        refine (implPageOk d.page _ hp).mono ?_
        rintro r w3 ⟨rfl, rfl⟩
        go_wp2
        go_ret
        exact ⟨rfl, b0⟩
      ·
        go_enter Tryz.func104, Tryz.ntmps104
        go_wp2_with fail
        refine (implNameOk d.name _ hn).mono ?_
        rintro r w1 ⟨rfl, rfl⟩
        go_wp2_with fail
        refine (implEditionOk d.ed _).mono ?_
        rintro r w2 ⟨rfl, b1⟩
        replace h0 := h0.below b1
        replace b0 := next b0 b1
        obtain ⟨p0, p1, p2, p3, p4, p5⟩ := h0.six
        go_wp2_with fail
        refine (implPageOk d.page _ hp).mono ?_
        rintro r w3 ⟨rfl, rfl⟩
        go_wp2_with fail
        refine (whoOk_any d.who _).mono ?_
        rintro r w4 ⟨rfl, rfl⟩
        go_wp2
        go_ret
        exact ⟨rfl, b0⟩
set_option maxHeartbeats 1000000 in
theorem shapeOk_veil (b : Bool) (d : M.Dd) (w : World) (hn : d.name.size ≤ maxLen) :
    Calls Tryz.prog 104 #[.iface 126 (veV b d)] w fun r w' => r = .returned (.bool (M.nameOk d.name.data.toList && (M.edOk d.ed && (M.inI d.who 0 3)))) ∧ Below w.heap.size w w' := by
  have as_cl := as_ve_cl
  have as_pu := as_ve_pu
  have as_ve := as_ve_ve
  have b0 := (Below.refl w.heap.size w).alloc (Nat.le_refl _) (.cells (veC b d) 126)
  have h0 := holds_new w (veC b d) 126
  rcases h1 : M.nameOk d.name.data.toList with _ | _
  ·
    go_enter Tryz.func104, Tryz.ntmps104
    go_wp2_with fail
    refine (implNameOk d.name _ hn).mono ?_
    rintro r w1 ⟨rfl, rfl⟩
    go_wp2
    go_ret
    exact ⟨rfl, b0⟩
  ·
    rcases h2 : M.edOk d.ed with _ | _
    ·
      go_enter Tryz.func104, Tryz.ntmps104
      go_wp2_with fail
      refine (implNameOk d.name _ hn).mono ?_
      rintro r w1 ⟨rfl, rfl⟩
      go_wp2_with fail
      refine (implEditionOk d.ed _).mono ?_
      rintro r w2 ⟨rfl, b1⟩
      replace h0 := h0.below b1
      replace b0 := next b0 b1
      obtain ⟨p0, p1, p2, p3, p4, p5⟩ := h0.six
      go_wp2
      go_ret
      exact ⟨rfl, b0⟩
    ·
      go_enter Tryz.func104, Tryz.ntmps104
      go_wp2_with fail
      refine (implNameOk d.name _ hn).mono ?_
      rintro r w1 ⟨rfl, rfl⟩
      go_wp2_with fail
      refine (implEditionOk d.ed _).mono ?_
      rintro r w2 ⟨rfl, b1⟩
      replace h0 := h0.below b1
      replace b0 := next b0 b1
      obtain ⟨p0, p1, p2, p3, p4, p5⟩ := h0.six
      go_wp2_with fail
      refine (whoOk_any d.who _).mono ?_
      rintro r w3 ⟨rfl, rfl⟩
      go_wp2
      go_ret
      exact ⟨rfl, b0⟩
set_option maxHeartbeats 1000000 in
theorem shapeOk_fetch (d : M.Dd) (w : World) (hn : d.name.size ≤ maxLen) :
    Calls Tryz.prog 104 #[.iface 129 (feV d)] w fun r w' => r = .returned (.bool (M.nameOk d.name.data.toList && (M.edOk d.ed))) ∧ Below w.heap.size w w' := by
  have as_cl := as_fe_cl
  have as_pu := as_fe_pu
  have as_ve := as_fe_ve
  have as_fe := as_fe_fe
  have b0 := (Below.refl w.heap.size w).alloc (Nat.le_refl _) (.cells (feC d) 129)
  have h0 := holds_new w (feC d) 129
  rcases h1 : M.nameOk d.name.data.toList with _ | _
  ·
    go_enter Tryz.func104, Tryz.ntmps104
    go_wp2_with fail
    refine (implNameOk d.name _ hn).mono ?_
    rintro r w1 ⟨rfl, rfl⟩
    go_wp2
    go_ret
    exact ⟨rfl, b0⟩
  ·
    go_enter Tryz.func104, Tryz.ntmps104
    go_wp2_with fail
    refine (implNameOk d.name _ hn).mono ?_
    rintro r w1 ⟨rfl, rfl⟩
    go_wp2_with fail
    refine (implEditionOk d.ed _).mono ?_
    rintro r w2 ⟨rfl, b1⟩
    replace h0 := h0.below b1
    replace b0 := next b0 b1
    go_wp2
    go_ret
    exact ⟨rfl, b0⟩
set_option maxHeartbeats 1000000 in
theorem shapeOk_give (d : M.Dd) (w : World) (hn : d.name.size ≤ maxLen) :
    Calls Tryz.prog 104 #[.iface 132 (giV d)] w fun r w' => r = .returned (.bool (M.nameOk d.name.data.toList && (M.inI d.who 0 3 && (M.edOk ⟨d.ed.ma, 0, 0⟩)))) ∧ Below w.heap.size w w' := by
  have as_cl := as_gi_cl
  have as_pu := as_gi_pu
  have as_ve := as_gi_ve
  have as_fe := as_gi_fe
  have as_gi := as_gi_gi
  have b0 := (Below.refl w.heap.size w).alloc (Nat.le_refl _) (.cells (giC d) 132)
  have h0 := holds_new w (giC d) 132
  rcases h1 : M.nameOk d.name.data.toList with _ | _
  ·
    go_enter Tryz.func104, Tryz.ntmps104
    go_wp2_with fail
    refine (implNameOk d.name _ hn).mono ?_
    rintro r w1 ⟨rfl, rfl⟩
    go_wp2
    go_ret
    exact ⟨rfl, b0⟩
  ·
    rcases h2 : M.inI d.who 0 3 with _ | _
    ·
      go_enter Tryz.func104, Tryz.ntmps104
      go_wp2_with fail
      refine (implNameOk d.name _ hn).mono ?_
      rintro r w1 ⟨rfl, rfl⟩
      go_wp2_with fail
      refine (whoOk_any d.who _).mono ?_
      rintro r w2 ⟨rfl, rfl⟩
      go_wp2
      go_ret
      exact ⟨rfl, b0⟩
    ·
      go_enter Tryz.func104, Tryz.ntmps104
      go_wp2_with fail
      refine (implNameOk d.name _ hn).mono ?_
      rintro r w1 ⟨rfl, rfl⟩
      go_wp2_with fail
      refine (whoOk_any d.who _).mono ?_
      rintro r w2 ⟨rfl, rfl⟩
      go_wp2_with fail
      refine (implEditionOk ⟨d.ed.ma, 0, 0⟩ _).mono ?_
      rintro r w3 ⟨rfl, b1⟩
      replace h0 := h0.below b1
      replace b0 := next b0 b1
      go_wp2
      go_ret
      exact ⟨rfl, b0⟩
end Go.Proofs.YtdcdalbbjfjadaaGreatDoor
