/- Proved, in parts: Proved: the program's DeedOk, which goes over shapes, answers the same plain Lean function as the model's, at every deed; it writes nothing that was there. Condition: texts of at most maxLen bytes. Proved: the language's own test whether two deeds are alike is whether they are the same; no condition. -/
import Derived.Test.YtdoeiphnalbinaaGreatPart07
import Derived.KernelRfl
import Derived.Calls
namespace Go.Proofs.YtdoeiphnalbinaaGreat
open Go.RowKit
set_option maxRecDepth 20000

abbrev clV (d : M.Dd) : Value := .agg #[.string d.name, .int .i64 d.who]
abbrev puV (d : M.Dd) : Value := .agg #[.string d.name, .int .i64 d.ed.ma, .int .i64 d.ed.mi, .int .i64 d.ed.pa, .string d.page, .int .i64 d.who]
abbrev veV (b : Bool) (d : M.Dd) : Value := .agg #[.bool b, .string d.name, .int .i64 d.ed.ma, .int .i64 d.ed.mi, .int .i64 d.ed.pa, .int .i64 d.who]
abbrev feV (d : M.Dd) : Value := .agg #[.string d.name, .int .i64 d.ed.ma, .int .i64 d.ed.mi, .int .i64 d.ed.pa]
abbrev giV (d : M.Dd) : Value := .agg #[.string d.name, .int .i64 d.who, .int .i64 d.ed.ma]

theorem deed_claim (d : M.Dd) (w : World) : Calls Tryz.prog 146 #[clV d] w fun r w' => r = .returned (ddV ⟨1, d.name, ⟨0, 0, 0⟩, ⟨#[]⟩, d.who⟩) ∧ Below w.heap.size w w' := by
  go_enter Tryz.func146, Tryz.ntmps146
  go_wp2
  refine bodyPost_ret (v := ddV ⟨1, d.name, ⟨0, 0, 0⟩, ⟨#[]⟩, d.who⟩) (by simp [results, Tryz.results146, go_sem]) rfl ⟨rfl, ?_⟩
  repeat (first | exact Below.refl _ _ | refine Below.alloc ?_ (by simp <;> omega) _)
theorem deed_put (d : M.Dd) (w : World) : Calls Tryz.prog 147 #[puV d] w fun r w' => r = .returned (ddV ⟨2, d.name, d.ed, d.page, d.who⟩) ∧ Below w.heap.size w w' := by
  go_enter Tryz.func147, Tryz.ntmps147
  go_wp2
  refine bodyPost_ret (v := ddV ⟨2, d.name, d.ed, d.page, d.who⟩) (by simp [results, Tryz.results147, go_sem]) rfl ⟨rfl, ?_⟩
  repeat (first | exact Below.refl _ _ | refine Below.alloc ?_ (by simp <;> omega) _)
theorem deed_veil (b : Bool) (d : M.Dd) (w : World) : Calls Tryz.prog 148 #[veV b d] w fun r w' => r = .returned (ddV ⟨if b then 3 else 4, d.name, d.ed, ⟨#[]⟩, d.who⟩) ∧ Below w.heap.size w w' := by
  cases b
  · go_enter Tryz.func148, Tryz.ntmps148
    go_wp2
    refine bodyPost_ret (v := ddV ⟨4, d.name, d.ed, ⟨#[]⟩, d.who⟩) (by simp [results, Tryz.results148, go_sem]) rfl ⟨rfl, ?_⟩
    repeat (first | exact Below.refl _ _ | refine Below.alloc ?_ (by simp <;> omega) _)
  · go_enter Tryz.func148, Tryz.ntmps148
    go_wp2
    refine bodyPost_ret (v := ddV ⟨3, d.name, d.ed, ⟨#[]⟩, d.who⟩) (by simp [results, Tryz.results148, go_sem]) rfl ⟨rfl, ?_⟩
    repeat (first | exact Below.refl _ _ | refine Below.alloc ?_ (by simp <;> omega) _)
theorem deed_fetch (d : M.Dd) (w : World) : Calls Tryz.prog 149 #[feV d] w fun r w' => r = .returned (ddV ⟨5, d.name, d.ed, ⟨#[]⟩, 0⟩) ∧ Below w.heap.size w w' := by
  go_enter Tryz.func149, Tryz.ntmps149
  go_wp2
  refine bodyPost_ret (v := ddV ⟨5, d.name, d.ed, ⟨#[]⟩, 0⟩) (by simp [results, Tryz.results149, go_sem]) rfl ⟨rfl, ?_⟩
  repeat (first | exact Below.refl _ _ | refine Below.alloc ?_ (by simp <;> omega) _)
theorem deed_give (d : M.Dd) (w : World) : Calls Tryz.prog 150 #[giV d] w fun r w' => r = .returned (ddV ⟨6, d.name, ⟨d.ed.ma, 0, 0⟩, ⟨#[]⟩, d.who⟩) ∧ Below w.heap.size w w' := by
  go_enter Tryz.func150, Tryz.ntmps150
  go_wp2
  refine bodyPost_ret (v := ddV ⟨6, d.name, ⟨d.ed.ma, 0, 0⟩, ⟨#[]⟩, d.who⟩) (by simp [results, Tryz.results150, go_sem]) rfl ⟨rfl, ?_⟩
  repeat (first | exact Below.refl _ _ | refine Below.alloc ?_ (by simp <;> omega) _)

theorem as_cl_cl (v : Value) (w : World) : (Instr.typeAssert (.iface 159 v) 147 159 true).run Tryz.prog w = .ok (.tuple #[v, .bool true]) w := by kernel_rfl
theorem as_pu_cl (v : Value) (w : World) : (Instr.typeAssert (.iface 161 v) 147 159 true).run Tryz.prog w = .ok (.tuple #[.agg #[.string ⟨#[]⟩, .int .i64 0], .bool false]) w := by kernel_rfl
theorem as_pu_pu (v : Value) (w : World) : (Instr.typeAssert (.iface 161 v) 147 161 true).run Tryz.prog w = .ok (.tuple #[v, .bool true]) w := by kernel_rfl
theorem as_ve_cl (v : Value) (w : World) : (Instr.typeAssert (.iface 163 v) 147 159 true).run Tryz.prog w = .ok (.tuple #[.agg #[.string ⟨#[]⟩, .int .i64 0], .bool false]) w := by kernel_rfl
theorem as_ve_pu (v : Value) (w : World) : (Instr.typeAssert (.iface 163 v) 147 161 true).run Tryz.prog w = .ok (.tuple #[.agg #[.string ⟨#[]⟩, .int .i64 0, .int .i64 0, .int .i64 0, .string ⟨#[]⟩, .int .i64 0], .bool false]) w := by kernel_rfl
theorem as_ve_ve (v : Value) (w : World) : (Instr.typeAssert (.iface 163 v) 147 163 true).run Tryz.prog w = .ok (.tuple #[v, .bool true]) w := by kernel_rfl
theorem as_fe_cl (v : Value) (w : World) : (Instr.typeAssert (.iface 165 v) 147 159 true).run Tryz.prog w = .ok (.tuple #[.agg #[.string ⟨#[]⟩, .int .i64 0], .bool false]) w := by kernel_rfl
theorem as_fe_pu (v : Value) (w : World) : (Instr.typeAssert (.iface 165 v) 147 161 true).run Tryz.prog w = .ok (.tuple #[.agg #[.string ⟨#[]⟩, .int .i64 0, .int .i64 0, .int .i64 0, .string ⟨#[]⟩, .int .i64 0], .bool false]) w := by kernel_rfl
theorem as_fe_ve (v : Value) (w : World) : (Instr.typeAssert (.iface 165 v) 147 163 true).run Tryz.prog w = .ok (.tuple #[.agg #[.bool false, .string ⟨#[]⟩, .int .i64 0, .int .i64 0, .int .i64 0, .int .i64 0], .bool false]) w := by kernel_rfl
theorem as_fe_fe (v : Value) (w : World) : (Instr.typeAssert (.iface 165 v) 147 165 true).run Tryz.prog w = .ok (.tuple #[v, .bool true]) w := by kernel_rfl
theorem as_gi_cl (v : Value) (w : World) : (Instr.typeAssert (.iface 167 v) 147 159 true).run Tryz.prog w = .ok (.tuple #[.agg #[.string ⟨#[]⟩, .int .i64 0], .bool false]) w := by kernel_rfl
theorem as_gi_pu (v : Value) (w : World) : (Instr.typeAssert (.iface 167 v) 147 161 true).run Tryz.prog w = .ok (.tuple #[.agg #[.string ⟨#[]⟩, .int .i64 0, .int .i64 0, .int .i64 0, .string ⟨#[]⟩, .int .i64 0], .bool false]) w := by kernel_rfl
theorem as_gi_ve (v : Value) (w : World) : (Instr.typeAssert (.iface 167 v) 147 163 true).run Tryz.prog w = .ok (.tuple #[.agg #[.bool false, .string ⟨#[]⟩, .int .i64 0, .int .i64 0, .int .i64 0, .int .i64 0], .bool false]) w := by kernel_rfl
theorem as_gi_fe (v : Value) (w : World) : (Instr.typeAssert (.iface 167 v) 147 165 true).run Tryz.prog w = .ok (.tuple #[.agg #[.string ⟨#[]⟩, .int .i64 0, .int .i64 0, .int .i64 0], .bool false]) w := by kernel_rfl
theorem as_gi_gi (v : Value) (w : World) : (Instr.typeAssert (.iface 167 v) 147 167 true).run Tryz.prog w = .ok (.tuple #[v, .bool true]) w := by kernel_rfl
theorem as_nil_cl (w : World) : (Instr.typeAssert .nilIface 147 159 true).run Tryz.prog w = .ok (.tuple #[.agg #[.string ⟨#[]⟩, .int .i64 0], .bool false]) w := by kernel_rfl
theorem as_nil_pu (w : World) : (Instr.typeAssert .nilIface 147 161 true).run Tryz.prog w = .ok (.tuple #[.agg #[.string ⟨#[]⟩, .int .i64 0, .int .i64 0, .int .i64 0, .string ⟨#[]⟩, .int .i64 0], .bool false]) w := by kernel_rfl
theorem as_nil_ve (w : World) : (Instr.typeAssert .nilIface 147 163 true).run Tryz.prog w = .ok (.tuple #[.agg #[.bool false, .string ⟨#[]⟩, .int .i64 0, .int .i64 0, .int .i64 0, .int .i64 0], .bool false]) w := by kernel_rfl
theorem as_nil_fe (w : World) : (Instr.typeAssert .nilIface 147 165 true).run Tryz.prog w = .ok (.tuple #[.agg #[.string ⟨#[]⟩, .int .i64 0, .int .i64 0, .int .i64 0], .bool false]) w := by kernel_rfl
theorem as_nil_gi (w : World) : (Instr.typeAssert .nilIface 147 167 true).run Tryz.prog w = .ok (.tuple #[.agg #[.string ⟨#[]⟩, .int .i64 0, .int .i64 0], .bool false]) w := by kernel_rfl

/-- What shapeOf makes of a deed. -/
def shV (d : M.Dd) : Value :=
  if d.kind == 1 then .iface 159 (clV d) else if d.kind == 2 then .iface 161 (puV d) else if d.kind == 3 then .iface 163 (veV true d)
  else if d.kind == 4 then .iface 163 (veV false d) else if d.kind == 5 then .iface 165 (feV d) else if d.kind == 6 then .iface 167 (giV d) else .nilIface

theorem ret_v {a b : Value} (h : a = b) : Ending.returned a = .returned b := by rw [h]

set_option maxHeartbeats 1000000 in
theorem shapeOf_any (d : M.Dd) (w : World) :
    Calls Tryz.prog 108 #[ddV d] w fun r w' => r = .returned (shV d) ∧ Below w.heap.size w w' := by
  have b0 : Below w.heap.size w (w.alloc (.cells (ddC d) 49)) := (Below.refl _ _).alloc (Nat.le_refl _) _
  go_enter Tryz.func108, Tryz.ntmps108
  go_wp2
  all_goals
    go_ret
    refine ⟨ret_v ?_, b0⟩
    simp only [shV, *, if_true, if_false, Bool.false_eq_true]
    try rfl

abbrev clC (d : M.Dd) : Array Value := #[.string d.name, .int .i64 d.who]
abbrev puC (d : M.Dd) : Array Value := #[.string d.name, .int .i64 d.ed.ma, .int .i64 d.ed.mi, .int .i64 d.ed.pa, .string d.page, .int .i64 d.who]
abbrev veC (b : Bool) (d : M.Dd) : Array Value := #[.bool b, .string d.name, .int .i64 d.ed.ma, .int .i64 d.ed.mi, .int .i64 d.ed.pa, .int .i64 d.who]
abbrev feC (d : M.Dd) : Array Value := #[.string d.name, .int .i64 d.ed.ma, .int .i64 d.ed.mi, .int .i64 d.ed.pa]
abbrev giC (d : M.Dd) : Array Value := #[.string d.name, .int .i64 d.who, .int .i64 d.ed.ma]
set_option maxHeartbeats 1000000 in
theorem shapeOk_claim (d : M.Dd) (w : World) (hn : d.name.size ≤ maxLen) :
    Calls Tryz.prog 109 #[.iface 159 (clV d)] w fun r w' => r = .returned (.bool (M.nameOk d.name.data.toList && (M.inI d.who 0 3))) ∧ Below w.heap.size w w' := by
  have as_cl := as_cl_cl
  have b0 := (Below.refl w.heap.size w).alloc (Nat.le_refl _) (.cells (clC d) 159)
  have h0 := holds_new w (clC d) 159
  rcases h1 : M.nameOk d.name.data.toList with _ | _
  ·
    go_enter Tryz.func109, Tryz.ntmps109
    go_wp2_with fail
    refine (implNameOk d.name _ hn).mono ?_
    rintro r w1 ⟨rfl, rfl⟩
    go_wp2
    go_ret
    exact ⟨rfl, b0⟩
  ·
    go_enter Tryz.func109, Tryz.ntmps109
    go_wp2_with fail
    refine (implNameOk d.name _ hn).mono ?_
    rintro r w1 ⟨rfl, rfl⟩
    go_wp2_with fail
    refine (whoOk_any d.who _).mono ?_
    rintro r w2 ⟨rfl, rfl⟩
    go_wp2
    go_ret
    exact ⟨rfl, b0⟩
set_option maxHeartbeats 1000000 in
theorem shapeOk_put (d : M.Dd) (w : World) (hn : d.name.size ≤ maxLen) (hp : d.page.size ≤ maxLen) :
    Calls Tryz.prog 109 #[.iface 161 (puV d)] w fun r w' => r = .returned (.bool (M.nameOk d.name.data.toList && (M.edOk d.ed && (M.pageOk d.page.data.toList && (M.inI d.who 0 3))))) ∧ Below w.heap.size w w' := by
  have as_cl := as_pu_cl
  have as_pu := as_pu_pu
  have b0 := (Below.refl w.heap.size w).alloc (Nat.le_refl _) (.cells (puC d) 161)
  have h0 := holds_new w (puC d) 161
  rcases h1 : M.nameOk d.name.data.toList with _ | _
  ·
    go_enter Tryz.func109, Tryz.ntmps109
    go_wp2_with fail
    refine (implNameOk d.name _ hn).mono ?_
    rintro r w1 ⟨rfl, rfl⟩
    go_wp2
    go_ret
    exact ⟨rfl, b0⟩
  ·
    rcases h2 : M.edOk d.ed with _ | _
    ·
      go_enter Tryz.func109, Tryz.ntmps109
      go_wp2_with fail
      refine (implNameOk d.name _ hn).mono ?_
      rintro r w1 ⟨rfl, rfl⟩
      go_wp2_with fail
      refine (implEditionOk d.ed _).mono ?_
      rintro r w2 ⟨rfl, b1⟩
      replace h0 := h0.below b1
      replace b0 := next b0 b1
      obtain ⟨p0, p1, p2, p3, p4, p5⟩ := h0.six
      go_wp2
      go_ret
      exact ⟨rfl, b0⟩
    ·
      rcases h3 : M.pageOk d.page.data.toList with _ | _
      ·
        go_enter Tryz.func109, Tryz.ntmps109
        go_wp2_with fail
        refine (implNameOk d.name _ hn).mono ?_
        rintro r w1 ⟨rfl, rfl⟩
        go_wp2_with fail
        refine (implEditionOk d.ed _).mono ?_
        rintro r w2 ⟨rfl, b1⟩
        replace h0 := h0.below b1
        replace b0 := next b0 b1
        obtain ⟨p0, p1, p2, p3, p4, p5⟩ := h0.six
        go_wp2_with fail
        refine (implPageOk d.page _ hp).mono ?_
        rintro r w3 ⟨rfl, rfl⟩
        go_wp2
        go_ret
        exact ⟨rfl, b0⟩
      ·
        go_enter Tryz.func109, Tryz.ntmps109
        go_wp2_with fail
        refine (implNameOk d.name _ hn).mono ?_
        rintro r w1 ⟨rfl, rfl⟩
        go_wp2_with fail
        refine (implEditionOk d.ed _).mono ?_
        rintro r w2 ⟨rfl, b1⟩
        replace h0 := h0.below b1
        replace b0 := next b0 b1
        obtain ⟨p0, p1, p2, p3, p4, p5⟩ := h0.six
        go_wp2_with fail
        refine (implPageOk d.page _ hp).mono ?_
        rintro r w3 ⟨rfl, rfl⟩
        go_wp2_with fail
        refine (whoOk_any d.who _).mono ?_
        rintro r w4 ⟨rfl, rfl⟩
        go_wp2
        go_ret
        exact ⟨rfl, b0⟩
set_option maxHeartbeats 1000000 in
theorem shapeOk_veil (b : Bool) (d : M.Dd) (w : World) (hn : d.name.size ≤ maxLen) :
    Calls Tryz.prog 109 #[.iface 163 (veV b d)] w fun r w' => r = .returned (.bool (M.nameOk d.name.data.toList && (M.edOk d.ed && (M.inI d.who 0 3)))) ∧ Below w.heap.size w w' := by
  have as_cl := as_ve_cl
  have as_pu := as_ve_pu
  have as_ve := as_ve_ve
  have b0 := (Below.refl w.heap.size w).alloc (Nat.le_refl _) (.cells (veC b d) 163)
  have h0 := holds_new w (veC b d) 163
  rcases h1 : M.nameOk d.name.data.toList with _ | _
  ·
    go_enter Tryz.func109, Tryz.ntmps109
    go_wp2_with fail
    refine (implNameOk d.name _ hn).mono ?_
    rintro r w1 ⟨rfl, rfl⟩
    go_wp2
    go_ret
    exact ⟨rfl, b0⟩
  ·
    rcases h2 : M.edOk d.ed with _ | _
    ·
      go_enter Tryz.func109, Tryz.ntmps109
      go_wp2_with fail
      refine (implNameOk d.name _ hn).mono ?_
      rintro r w1 ⟨rfl, rfl⟩
      go_wp2_with fail
      refine (implEditionOk d.ed _).mono ?_
      rintro r w2 ⟨rfl, b1⟩
      replace h0 := h0.below b1
      replace b0 := next b0 b1
      obtain ⟨p0, p1, p2, p3, p4, p5⟩ := h0.six
      go_wp2
      go_ret
      exact ⟨rfl, b0⟩
    ·
      go_enter Tryz.func109, Tryz.ntmps109
      go_wp2_with fail
      refine (implNameOk d.name _ hn).mono ?_
      rintro r w1 ⟨rfl, rfl⟩
      go_wp2_with fail
      refine (implEditionOk d.ed _).mono ?_
      rintro r w2 ⟨rfl, b1⟩
      replace h0 := h0.below b1
      replace b0 := next b0 b1
      obtain ⟨p0, p1, p2, p3, p4, p5⟩ := h0.six
      go_wp2_with fail
      refine (whoOk_any d.who _).mono ?_
      rintro r w3 ⟨rfl, rfl⟩
      go_wp2
      go_ret
      exact ⟨rfl, b0⟩
set_option maxHeartbeats 1000000 in
theorem shapeOk_fetch (d : M.Dd) (w : World) (hn : d.name.size ≤ maxLen) :
    Calls Tryz.prog 109 #[.iface 165 (feV d)] w fun r w' => r = .returned (.bool (M.nameOk d.name.data.toList && (M.edOk d.ed))) ∧ Below w.heap.size w w' := by
  have as_cl := as_fe_cl
  have as_pu := as_fe_pu
  have as_ve := as_fe_ve
  have as_fe := as_fe_fe
  have b0 := (Below.refl w.heap.size w).alloc (Nat.le_refl _) (.cells (feC d) 165)
  have h0 := holds_new w (feC d) 165
  rcases h1 : M.nameOk d.name.data.toList with _ | _
  ·
    go_enter Tryz.func109, Tryz.ntmps109
    go_wp2_with fail
    refine (implNameOk d.name _ hn).mono ?_
    rintro r w1 ⟨rfl, rfl⟩
    go_wp2
    go_ret
    exact ⟨rfl, b0⟩
  ·
    go_enter Tryz.func109, Tryz.ntmps109
    go_wp2_with fail
    refine (implNameOk d.name _ hn).mono ?_
    rintro r w1 ⟨rfl, rfl⟩
    go_wp2_with fail
    refine (implEditionOk d.ed _).mono ?_
    rintro r w2 ⟨rfl, b1⟩
    replace h0 := h0.below b1
    replace b0 := next b0 b1
    go_wp2
    go_ret
    exact ⟨rfl, b0⟩
set_option maxHeartbeats 1000000 in
theorem shapeOk_give (d : M.Dd) (w : World) (hn : d.name.size ≤ maxLen) :
    Calls Tryz.prog 109 #[.iface 167 (giV d)] w fun r w' => r = .returned (.bool (M.nameOk d.name.data.toList && (M.inI d.who 0 3 && (M.edOk ⟨d.ed.ma, 0, 0⟩)))) ∧ Below w.heap.size w w' := by
  have as_cl := as_gi_cl
  have as_pu := as_gi_pu
  have as_ve := as_gi_ve
  have as_fe := as_gi_fe
  have as_gi := as_gi_gi
  have b0 := (Below.refl w.heap.size w).alloc (Nat.le_refl _) (.cells (giC d) 167)
  have h0 := holds_new w (giC d) 167
  rcases h1 : M.nameOk d.name.data.toList with _ | _
  ·
    go_enter Tryz.func109, Tryz.ntmps109
    go_wp2_with fail
    refine (implNameOk d.name _ hn).mono ?_
    rintro r w1 ⟨rfl, rfl⟩
    go_wp2
    go_ret
    exact ⟨rfl, b0⟩
  ·
    rcases h2 : M.inI d.who 0 3 with _ | _
    ·
      go_enter Tryz.func109, Tryz.ntmps109
      go_wp2_with fail
      refine (implNameOk d.name _ hn).mono ?_
      rintro r w1 ⟨rfl, rfl⟩
      go_wp2_with fail
      refine (whoOk_any d.who _).mono ?_
      rintro r w2 ⟨rfl, rfl⟩
      go_wp2
      go_ret
      exact ⟨rfl, b0⟩
    ·
      go_enter Tryz.func109, Tryz.ntmps109
      go_wp2_with fail
      refine (implNameOk d.name _ hn).mono ?_
      rintro r w1 ⟨rfl, rfl⟩
      go_wp2_with fail
      refine (whoOk_any d.who _).mono ?_
      rintro r w2 ⟨rfl, rfl⟩
      go_wp2_with fail
      refine (implEditionOk ⟨d.ed.ma, 0, 0⟩ _).mono ?_
      rintro r w3 ⟨rfl, b1⟩
      replace h0 := h0.below b1
      replace b0 := next b0 b1
      go_wp2
      go_ret
      exact ⟨rfl, b0⟩
end Go.Proofs.YtdoeiphnalbinaaGreat
namespace Go.Proofs.YtdoeiphnalbinaaGreat
open Go.RowKit
set_option maxRecDepth 20000

theorem dd_iff (a b : M.Dd) : a = b ↔ a.kind = b.kind ∧ a.name = b.name ∧ (a.ed.ma = b.ed.ma ∧ a.ed.mi = b.ed.mi ∧ a.ed.pa = b.ed.pa) ∧ a.page = b.page ∧ a.who = b.who := by
  cases a; cases b; simp [M.ed_ext]

theorem txt_other {a b : ByteArray} (h : ¬ a = b) : ¬ a.toList = b.toList := fun e => h (ba_ext (by rw [ByteArray.toList_eq, ByteArray.toList_eq] at e; exact e))

set_option maxHeartbeats 4000000 in
theorem dd_eql (a b : M.Dd) (w : World) : (binOp .eql 49 (ddV a) (ddV b)).run Tryz.prog w = .ok (.bool (decide (a = b))) w := by
  by_cases h0 : a.kind = b.kind
  · have h0' : (a.kind == b.kind) = true := by simpa using h0
    by_cases h1 : a.name = b.name
    · by_cases h2 : a.ed.ma = b.ed.ma
      · have h2' : (a.ed.ma == b.ed.ma) = true := by simpa using h2
        by_cases h3 : a.ed.mi = b.ed.mi
        · have h3' : (a.ed.mi == b.ed.mi) = true := by simpa using h3
          by_cases h4 : a.ed.pa = b.ed.pa
          · have h4' : (a.ed.pa == b.ed.pa) = true := by simpa using h4
            by_cases h5 : a.page = b.page
            · have e : decide (a = b) = (a.who == b.who) := by rw [Bool.eq_iff_iff]; simp [dd_iff, h0, h1, h2, h3, h4, h5]
              rcases h6' : (a.who == b.who) with _ | _ <;> rw [e, h6'] <;> simp [go_sem, h0', h1, h2', h3', h4', h5, h6', Tryz.underlying49, Tryz.underlying47, Tryz.underlying2, Tryz.underlying9]
            · have e : decide (a = b) = false := by simp [dd_iff, h5]
              have h5' := txt_other h5
              rw [e]
              simp [go_sem, h0', h1, h2', h3', h4', h5']
          · have h4' : (a.ed.pa == b.ed.pa) = false := by simpa using h4
            have e : decide (a = b) = false := by simp [dd_iff, h4]
            rw [e]
            simp [go_sem, h0', h1, h2', h3', h4']
        · have h3' : (a.ed.mi == b.ed.mi) = false := by simpa using h3
          have e : decide (a = b) = false := by simp [dd_iff, h3]
          rw [e]
          simp [go_sem, h0', h1, h2', h3']
      · have h2' : (a.ed.ma == b.ed.ma) = false := by simpa using h2
        have e : decide (a = b) = false := by simp [dd_iff, h2]
        rw [e]
        simp [go_sem, h0', h1, h2']
    · have e : decide (a = b) = false := by simp [dd_iff, h1]
      have h1' := txt_other h1
      rw [e]
      simp [go_sem, h0', h1']
  · have h0' : (a.kind == b.kind) = false := by simpa using h0
    have e : decide (a = b) = false := by simp [dd_iff, h0]
    rw [e]
    simp [go_sem, h0']
theorem deql_read {A : Act} {o : Oper} {x y : Operand} {a b : M.Dd} (ho : o.op = .binOp .eql 49 x y 49) (hx : A.eval x = ddV a) (hy : A.eval y = ddV b) (w : World) :
    (execOp A.eval o).run Tryz.prog w = .ok (.value (.bool (decide (a = b)))) w := by
  unfold execOp
  rw [ho]
  have hg := fun (op : BinOp) (x y : Operand) (xs ys : Array Value) (w : World) => run_eqGuard_agg (P := Tryz.prog) w op 49 x y xs ys (by kernel_rfl)
  have he := fun w => dd_eql a b w
  simp only [ddV] at he hx hy
  simp only [hx, hy, Sem.run_bind, hg, he, Result.andThen_ok, Sem.run_pure]
end Go.Proofs.YtdoeiphnalbinaaGreat
