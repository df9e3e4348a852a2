/- Proved, in parts: Proved: the language's own test whether two deeds are alike is whether they are the same; no condition. Proved: the language's own test whether two orders are alike is whether they are alike in each field; no condition. Proved: how an entry stands in memory; no program is named here; no condition. Proved: the program's DeedOk, which goes over shapes, answers the same plain Lean function as the model's, at every deed; it writes nothing that was there. Condition: texts of at most maxLen bytes. -/
import Derived.Test.YtblcgbgcccjpcaaPart06
import Derived.Calls
import Derived.KernelRfl
namespace Go.Proofs.Ytblcgbgcccjpcaa
open Go.RowKit
set_option maxRecDepth 20000

theorem dd_iff (a b : M.Dd) : a = b ↔ a.kind = b.kind ∧ a.name = b.name ∧ (a.ed.ma = b.ed.ma ∧ a.ed.mi = b.ed.mi ∧ a.ed.pa = b.ed.pa) ∧ a.page = b.page ∧ a.who = b.who := by
  cases a; cases b; simp [M.ed_ext]

theorem txt_other {a b : ByteArray} (h : ¬ a = b) : ¬ a.toList = b.toList := fun e => h (ba_ext (by rw [ByteArray.toList_eq, ByteArray.toList_eq] at e; exact e))

set_option maxHeartbeats 4000000 in
theorem dd_eql (a b : M.Dd) (w : World) : (binOp .eql 34 (ddV a) (ddV b)).run Try.prog w = .ok (.bool (decide (a = b))) w := by
  by_cases h0 : a.kind = b.kind
  · have h0' : (a.kind == b.kind) = true := by simpa using h0
    by_cases h1 : a.name = b.name
    · by_cases h2 : a.ed.ma = b.ed.ma
      · have h2' : (a.ed.ma == b.ed.ma) = true := by simpa using h2
        by_cases h3 : a.ed.mi = b.ed.mi
        · have h3' : (a.ed.mi == b.ed.mi) = true := by simpa using h3
          by_cases h4 : a.ed.pa = b.ed.pa
          · have h4' : (a.ed.pa == b.ed.pa) = true := by simpa using h4
            by_cases h5 : a.page = b.page
            · have e : decide (a = b) = (a.who == b.who) := by rw [Bool.eq_iff_iff]; simp [dd_iff, h0, h1, h2, h3, h4, h5]
              rcases h6' : (a.who == b.who) with _ | _ <;> rw [e, h6'] <;> simp [go_sem, h0', h1, h2', h3', h4', h5, h6', Try.underlying34, Try.underlying32, Try.underlying2, Try.underlying9]
            · have e : decide (a = b) = false := by simp [dd_iff, h5]
              have h5' := txt_other h5
              rw [e]
              simp [go_sem, h0', h1, h2', h3', h4', h5']
          · have h4' : (a.ed.pa == b.ed.pa) = false := by simpa using h4
            have e : decide (a = b) = false := by simp [dd_iff, h4]
            rw [e]
            simp [go_sem, h0', h1, h2', h3', h4']
        · have h3' : (a.ed.mi == b.ed.mi) = false := by simpa using h3
          have e : decide (a = b) = false := by simp [dd_iff, h3]
          rw [e]
          simp [go_sem, h0', h1, h2', h3']
      · have h2' : (a.ed.ma == b.ed.ma) = false := by simpa using h2
        have e : decide (a = b) = false := by simp [dd_iff, h2]
        rw [e]
        simp [go_sem, h0', h1, h2']
    · have e : decide (a = b) = false := by simp [dd_iff, h1]
      have h1' := txt_other h1
      rw [e]
      simp [go_sem, h0', h1']
  · have h0' : (a.kind == b.kind) = false := by simpa using h0
    have e : decide (a = b) = false := by simp [dd_iff, h0]
    rw [e]
    simp [go_sem, h0']
theorem deql_read {A : Act} {o : Oper} {x y : Operand} {a b : M.Dd} (ho : o.op = .binOp .eql 34 x y 34) (hx : A.eval x = ddV a) (hy : A.eval y = ddV b) (w : World) :
    (execOp A.eval o).run Try.prog w = .ok (.value (.bool (decide (a = b)))) w := by
  unfold execOp
  rw [ho]
  have hg := fun (op : BinOp) (x y : Operand) (xs ys : Array Value) (w : World) => run_eqGuard_agg (P := Try.prog) w op 34 x y xs ys (by kernel_rfl)
  have he := fun w => dd_eql a b w
  simp only [ddV] at he hx hy
  simp only [hx, hy, Sem.run_bind, hg, he, Result.andThen_ok, Sem.run_pure]
end Go.Proofs.Ytblcgbgcccjpcaa
namespace Go.Proofs.Ytblcgbgcccjpcaa
open Go.RowKit
set_option maxRecDepth 20000
namespace M
def orEq (a b : Or) : Bool := ((a.client == b.client) && ((a.seq == b.seq) && ((a.deed.kind == b.deed.kind) && (decide (a.deed.name = b.deed.name) && ((a.deed.ed.ma == b.deed.ed.ma) && ((a.deed.ed.mi == b.deed.ed.mi) && ((a.deed.ed.pa == b.deed.ed.pa) && (decide (a.deed.page = b.deed.page) && (a.deed.who == b.deed.who)))))))))
end M
set_option maxHeartbeats 8000000 in
theorem or_eql (a b : M.Or) (w : World) : (binOp .eql 36 (orV a) (orV b)).run Try.prog w = .ok (.bool (M.orEq a b)) w := by
  rcases h0 : (a.client == b.client) with _ | _
  · have e : M.orEq a b = false := by simp [M.orEq, h0]
    rw [e]
    simp [go_sem, h0]
  · rcases h1 : (a.seq == b.seq) with _ | _
    · have e : M.orEq a b = false := by simp [M.orEq, h1]
      rw [e]
      simp [go_sem, h0, h1]
    · rcases h2 : (a.deed.kind == b.deed.kind) with _ | _
      · have e : M.orEq a b = false := by simp [M.orEq, h2]
        rw [e]
        simp [go_sem, h0, h1, h2]
      · by_cases h3 : a.deed.name = b.deed.name
        · rcases h4 : (a.deed.ed.ma == b.deed.ed.ma) with _ | _
          · have e : M.orEq a b = false := by simp [M.orEq, h4]
            rw [e]
            simp [go_sem, h0, h1, h2, h3, h4]
          · rcases h5 : (a.deed.ed.mi == b.deed.ed.mi) with _ | _
            · have e : M.orEq a b = false := by simp [M.orEq, h5]
              rw [e]
              simp [go_sem, h0, h1, h2, h3, h4, h5]
            · rcases h6 : (a.deed.ed.pa == b.deed.ed.pa) with _ | _
              · have e : M.orEq a b = false := by simp [M.orEq, h6]
                rw [e]
                simp [go_sem, h0, h1, h2, h3, h4, h5, h6]
              · by_cases h7 : a.deed.page = b.deed.page
                · have e : M.orEq a b = (a.deed.who == b.deed.who) := by simp [M.orEq, h0, h1, h2, h3, h4, h5, h6, h7]
                  rcases h8 : (a.deed.who == b.deed.who) with _ | _ <;> rw [e, h8] <;> simp [go_sem, h0, h1, h2, h3, h4, h5, h6, h7, h8, Try.underlying36, Try.underlying34, Try.underlying32, Try.underlying2, Try.underlying9]
                · have e : M.orEq a b = false := by simp [M.orEq, h7]
                  have h7' := txt_other h7
                  rw [e]
                  simp [go_sem, h0, h1, h2, h3, h4, h5, h6, h7']
        · have e : M.orEq a b = false := by simp [M.orEq, h3]
          have h3' := txt_other h3
          rw [e]
          simp [go_sem, h0, h1, h2, h3']
theorem oreql_read {A : Act} {o : Oper} {x y : Operand} {a b : M.Or} (ho : o.op = .binOp .eql 36 x y 36) (hx : A.eval x = orV a) (hy : A.eval y = orV b) (w : World) :
    (execOp A.eval o).run Try.prog w = .ok (.value (.bool (M.orEq a b))) w := by
  unfold execOp
  rw [ho]
  have hg := fun (op : BinOp) (x y : Operand) (xs ys : Array Value) (w : World) => run_eqGuard_agg (P := Try.prog) w op 36 x y xs ys (by kernel_rfl)
  have he := fun w => or_eql a b w
  simp only [orV] at he hx hy
  simp only [hx, hy, Sem.run_bind, hg, he, Result.andThen_ok, Sem.run_pure]
end Go.Proofs.Ytblcgbgcccjpcaa
namespace Go.Proofs.Ytblcgbgcccjpcaa
open Go.RowKit
namespace M
structure En where
  reign : Int
  order : Or
end M
abbrev enC (e : M.En) : Array Value := #[.int .i64 e.reign, .int .i64 e.order.client, .int .i64 e.order.seq, .int .i64 e.order.deed.kind, .string e.order.deed.name, .int .i64 e.order.deed.ed.ma, .int .i64 e.order.deed.ed.mi, .int .i64 e.order.deed.ed.pa, .string e.order.deed.page, .int .i64 e.order.deed.who]
abbrev enV (e : M.En) : Value := .agg (enC e)
abbrev enL (e : M.En) : List Value := [.int .i64 e.reign, .int .i64 e.order.client, .int .i64 e.order.seq, .int .i64 e.order.deed.kind, .string e.order.deed.name, .int .i64 e.order.deed.ed.ma, .int .i64 e.order.deed.ed.mi, .int .i64 e.order.deed.ed.pa, .string e.order.deed.page, .int .i64 e.order.deed.who]
abbrev enA (e : M.En) : Array Value := enC e
theorem enL_len (e : M.En) : (enL e).length = 10 := rfl
abbrev enIn (n : Nat) (e : M.En) : Prop := e.order.deed.name.size ≤ n ∧ e.order.deed.page.size ≤ n
theorem Holds.ten {w : World} {g : Nat} {a0 a1 a2 a3 a4 a5 a6 a7 a8 a9 : Value} (h : Holds w g #[a0, a1, a2, a3, a4, a5, a6, a7, a8, a9]) : w.cell? ⟨g, 0, none⟩ = some a0 ∧ w.cell? ⟨g, 1, none⟩ = some a1 ∧ w.cell? ⟨g, 2, none⟩ = some a2 ∧ w.cell? ⟨g, 3, none⟩ = some a3 ∧ w.cell? ⟨g, 4, none⟩ = some a4 ∧ w.cell? ⟨g, 5, none⟩ = some a5 ∧ w.cell? ⟨g, 6, none⟩ = some a6 ∧ w.cell? ⟨g, 7, none⟩ = some a7 ∧ w.cell? ⟨g, 8, none⟩ = some a8 ∧ w.cell? ⟨g, 9, none⟩ = some a9 :=
  ⟨h.2 0 _ rfl, h.2 1 _ rfl, h.2 2 _ rfl, h.2 3 _ rfl, h.2 4 _ rfl, h.2 5 _ rfl, h.2 6 _ rfl, h.2 7 _ rfl, h.2 8 _ rfl, h.2 9 _ rfl⟩
end Go.Proofs.Ytblcgbgcccjpcaa
namespace Go.Proofs.Ytblcgbgcccjpcaa
open Go.RowKit
set_option maxRecDepth 20000

abbrev clV (d : M.Dd) : Value := .agg #[.string d.name, .int .i64 d.who]
abbrev puV (d : M.Dd) : Value := .agg #[.string d.name, .int .i64 d.ed.ma, .int .i64 d.ed.mi, .int .i64 d.ed.pa, .string d.page, .int .i64 d.who]
abbrev veV (b : Bool) (d : M.Dd) : Value := .agg #[.bool b, .string d.name, .int .i64 d.ed.ma, .int .i64 d.ed.mi, .int .i64 d.ed.pa, .int .i64 d.who]
abbrev feV (d : M.Dd) : Value := .agg #[.string d.name, .int .i64 d.ed.ma, .int .i64 d.ed.mi, .int .i64 d.ed.pa]
abbrev giV (d : M.Dd) : Value := .agg #[.string d.name, .int .i64 d.who, .int .i64 d.ed.ma]

theorem deed_claim (d : M.Dd) (w : World) : Calls Try.prog 55 #[clV d] w fun r w' => r = .returned (ddV ⟨1, d.name, ⟨0, 0, 0⟩, ⟨#[]⟩, d.who⟩) ∧ Below w.heap.size w w' := by
  go_enter Try.func55, Try.ntmps55
  go_wp2
  refine bodyPost_ret (v := ddV ⟨1, d.name, ⟨0, 0, 0⟩, ⟨#[]⟩, d.who⟩) (by simp [results, Try.results55, go_sem]) rfl ⟨rfl, ?_⟩
  repeat (first | exact Below.refl _ _ | refine Below.alloc ?_ (by simp <;> omega) _)
theorem deed_put (d : M.Dd) (w : World) : Calls Try.prog 56 #[puV d] w fun r w' => r = .returned (ddV ⟨2, d.name, d.ed, d.page, d.who⟩) ∧ Below w.heap.size w w' := by
  go_enter Try.func56, Try.ntmps56
  go_wp2
  refine bodyPost_ret (v := ddV ⟨2, d.name, d.ed, d.page, d.who⟩) (by simp [results, Try.results56, go_sem]) rfl ⟨rfl, ?_⟩
  repeat (first | exact Below.refl _ _ | refine Below.alloc ?_ (by simp <;> omega) _)
theorem deed_veil (b : Bool) (d : M.Dd) (w : World) : Calls Try.prog 57 #[veV b d] w fun r w' => r = .returned (ddV ⟨if b then 3 else 4, d.name, d.ed, ⟨#[]⟩, d.who⟩) ∧ Below w.heap.size w w' := by
  cases b
  · go_enter Try.func57, Try.ntmps57
    go_wp2
    refine bodyPost_ret (v := ddV ⟨4, d.name, d.ed, ⟨#[]⟩, d.who⟩) (by simp [results, Try.results57, go_sem]) rfl ⟨rfl, ?_⟩
    repeat (first | exact Below.refl _ _ | refine Below.alloc ?_ (by simp <;> omega) _)
  · go_enter Try.func57, Try.ntmps57
    go_wp2
    refine bodyPost_ret (v := ddV ⟨3, d.name, d.ed, ⟨#[]⟩, d.who⟩) (by simp [results, Try.results57, go_sem]) rfl ⟨rfl, ?_⟩
    repeat (first | exact Below.refl _ _ | refine Below.alloc ?_ (by simp <;> omega) _)
theorem deed_fetch (d : M.Dd) (w : World) : Calls Try.prog 58 #[feV d] w fun r w' => r = .returned (ddV ⟨5, d.name, d.ed, ⟨#[]⟩, 0⟩) ∧ Below w.heap.size w w' := by
  go_enter Try.func58, Try.ntmps58
  go_wp2
  refine bodyPost_ret (v := ddV ⟨5, d.name, d.ed, ⟨#[]⟩, 0⟩) (by simp [results, Try.results58, go_sem]) rfl ⟨rfl, ?_⟩
  repeat (first | exact Below.refl _ _ | refine Below.alloc ?_ (by simp <;> omega) _)
theorem deed_give (d : M.Dd) (w : World) : Calls Try.prog 59 #[giV d] w fun r w' => r = .returned (ddV ⟨6, d.name, ⟨d.ed.ma, 0, 0⟩, ⟨#[]⟩, d.who⟩) ∧ Below w.heap.size w w' := by
  go_enter Try.func59, Try.ntmps59
  go_wp2
  refine bodyPost_ret (v := ddV ⟨6, d.name, ⟨d.ed.ma, 0, 0⟩, ⟨#[]⟩, d.who⟩) (by simp [results, Try.results59, go_sem]) rfl ⟨rfl, ?_⟩
  repeat (first | exact Below.refl _ _ | refine Below.alloc ?_ (by simp <;> omega) _)

theorem as_cl_cl (v : Value) (w : World) : (Instr.typeAssert (.iface 62 v) 57 62 true).run Try.prog w = .ok (.tuple #[v, .bool true]) w := by kernel_rfl
theorem as_pu_cl (v : Value) (w : World) : (Instr.typeAssert (.iface 64 v) 57 62 true).run Try.prog w = .ok (.tuple #[.agg #[.string ⟨#[]⟩, .int .i64 0], .bool false]) w := by kernel_rfl
theorem as_pu_pu (v : Value) (w : World) : (Instr.typeAssert (.iface 64 v) 57 64 true).run Try.prog w = .ok (.tuple #[v, .bool true]) w := by kernel_rfl
theorem as_ve_cl (v : Value) (w : World) : (Instr.typeAssert (.iface 66 v) 57 62 true).run Try.prog w = .ok (.tuple #[.agg #[.string ⟨#[]⟩, .int .i64 0], .bool false]) w := by kernel_rfl
theorem as_ve_pu (v : Value) (w : World) : (Instr.typeAssert (.iface 66 v) 57 64 true).run Try.prog w = .ok (.tuple #[.agg #[.string ⟨#[]⟩, .int .i64 0, .int .i64 0, .int .i64 0, .string ⟨#[]⟩, .int .i64 0], .bool false]) w := by kernel_rfl
theorem as_ve_ve (v : Value) (w : World) : (Instr.typeAssert (.iface 66 v) 57 66 true).run Try.prog w = .ok (.tuple #[v, .bool true]) w := by kernel_rfl
theorem as_fe_cl (v : Value) (w : World) : (Instr.typeAssert (.iface 68 v) 57 62 true).run Try.prog w = .ok (.tuple #[.agg #[.string ⟨#[]⟩, .int .i64 0], .bool false]) w := by kernel_rfl
theorem as_fe_pu (v : Value) (w : World) : (Instr.typeAssert (.iface 68 v) 57 64 true).run Try.prog w = .ok (.tuple #[.agg #[.string ⟨#[]⟩, .int .i64 0, .int .i64 0, .int .i64 0, .string ⟨#[]⟩, .int .i64 0], .bool false]) w := by kernel_rfl
theorem as_fe_ve (v : Value) (w : World) : (Instr.typeAssert (.iface 68 v) 57 66 true).run Try.prog w = .ok (.tuple #[.agg #[.bool false, .string ⟨#[]⟩, .int .i64 0, .int .i64 0, .int .i64 0, .int .i64 0], .bool false]) w := by kernel_rfl
theorem as_fe_fe (v : Value) (w : World) : (Instr.typeAssert (.iface 68 v) 57 68 true).run Try.prog w = .ok (.tuple #[v, .bool true]) w := by kernel_rfl
theorem as_gi_cl (v : Value) (w : World) : (Instr.typeAssert (.iface 70 v) 57 62 true).run Try.prog w = .ok (.tuple #[.agg #[.string ⟨#[]⟩, .int .i64 0], .bool false]) w := by kernel_rfl
theorem as_gi_pu (v : Value) (w : World) : (Instr.typeAssert (.iface 70 v) 57 64 true).run Try.prog w = .ok (.tuple #[.agg #[.string ⟨#[]⟩, .int .i64 0, .int .i64 0, .int .i64 0, .string ⟨#[]⟩, .int .i64 0], .bool false]) w := by kernel_rfl
theorem as_gi_ve (v : Value) (w : World) : (Instr.typeAssert (.iface 70 v) 57 66 true).run Try.prog w = .ok (.tuple #[.agg #[.bool false, .string ⟨#[]⟩, .int .i64 0, .int .i64 0, .int .i64 0, .int .i64 0], .bool false]) w := by kernel_rfl
theorem as_gi_fe (v : Value) (w : World) : (Instr.typeAssert (.iface 70 v) 57 68 true).run Try.prog w = .ok (.tuple #[.agg #[.string ⟨#[]⟩, .int .i64 0, .int .i64 0, .int .i64 0], .bool false]) w := by kernel_rfl
theorem as_gi_gi (v : Value) (w : World) : (Instr.typeAssert (.iface 70 v) 57 70 true).run Try.prog w = .ok (.tuple #[v, .bool true]) w := by kernel_rfl
theorem as_nil_cl (w : World) : (Instr.typeAssert .nilIface 57 62 true).run Try.prog w = .ok (.tuple #[.agg #[.string ⟨#[]⟩, .int .i64 0], .bool false]) w := by kernel_rfl
theorem as_nil_pu (w : World) : (Instr.typeAssert .nilIface 57 64 true).run Try.prog w = .ok (.tuple #[.agg #[.string ⟨#[]⟩, .int .i64 0, .int .i64 0, .int .i64 0, .string ⟨#[]⟩, .int .i64 0], .bool false]) w := by kernel_rfl
theorem as_nil_ve (w : World) : (Instr.typeAssert .nilIface 57 66 true).run Try.prog w = .ok (.tuple #[.agg #[.bool false, .string ⟨#[]⟩, .int .i64 0, .int .i64 0, .int .i64 0, .int .i64 0], .bool false]) w := by kernel_rfl
theorem as_nil_fe (w : World) : (Instr.typeAssert .nilIface 57 68 true).run Try.prog w = .ok (.tuple #[.agg #[.string ⟨#[]⟩, .int .i64 0, .int .i64 0, .int .i64 0], .bool false]) w := by kernel_rfl
theorem as_nil_gi (w : World) : (Instr.typeAssert .nilIface 57 70 true).run Try.prog w = .ok (.tuple #[.agg #[.string ⟨#[]⟩, .int .i64 0, .int .i64 0], .bool false]) w := by kernel_rfl

/-- What shapeOf makes of a deed. -/
def shV (d : M.Dd) : Value :=
  if d.kind == 1 then .iface 62 (clV d) else if d.kind == 2 then .iface 64 (puV d) else if d.kind == 3 then .iface 66 (veV true d)
  else if d.kind == 4 then .iface 66 (veV false d) else if d.kind == 5 then .iface 68 (feV d) else if d.kind == 6 then .iface 70 (giV d) else .nilIface

theorem ret_v {a b : Value} (h : a = b) : Ending.returned a = .returned b := by rw [h]

set_option maxHeartbeats 1000000 in
theorem shapeOf_any (d : M.Dd) (w : World) :
    Calls Try.prog 31 #[ddV d] w fun r w' => r = .returned (shV d) ∧ Below w.heap.size w w' := by
  have b0 : Below w.heap.size w (w.alloc (.cells (ddC d) 34)) := (Below.refl _ _).alloc (Nat.le_refl _) _
  go_enter Try.func31, Try.ntmps31
  go_wp2
  all_goals
    go_ret
    refine ⟨ret_v ?_, b0⟩
    simp only [shV, *, if_true, if_false, Bool.false_eq_true]
    try rfl

abbrev clC (d : M.Dd) : Array Value := #[.string d.name, .int .i64 d.who]
abbrev puC (d : M.Dd) : Array Value := #[.string d.name, .int .i64 d.ed.ma, .int .i64 d.ed.mi, .int .i64 d.ed.pa, .string d.page, .int .i64 d.who]
abbrev veC (b : Bool) (d : M.Dd) : Array Value := #[.bool b, .string d.name, .int .i64 d.ed.ma, .int .i64 d.ed.mi, .int .i64 d.ed.pa, .int .i64 d.who]
abbrev feC (d : M.Dd) : Array Value := #[.string d.name, .int .i64 d.ed.ma, .int .i64 d.ed.mi, .int .i64 d.ed.pa]
abbrev giC (d : M.Dd) : Array Value := #[.string d.name, .int .i64 d.who, .int .i64 d.ed.ma]
set_option maxHeartbeats 1000000 in
theorem shapeOk_claim (d : M.Dd) (w : World) (hn : d.name.size ≤ maxLen) :
    Calls Try.prog 32 #[.iface 62 (clV d)] w fun r w' => r = .returned (.bool (M.nameOk d.name.data.toList && (M.inI d.who 0 3))) ∧ Below w.heap.size w w' := by
  have as_cl := as_cl_cl
  have b0 := (Below.refl w.heap.size w).alloc (Nat.le_refl _) (.cells (clC d) 62)
  have h0 := holds_new w (clC d) 62
  rcases h1 : M.nameOk d.name.data.toList with _ | _
  ·
    go_enter Try.func32, Try.ntmps32
    go_wp2_with fail
    refine (implNameOk d.name _ hn).mono ?_
    rintro r w1 ⟨rfl, rfl⟩
    go_wp2
    go_ret
    exact ⟨rfl, b0⟩
  ·
    go_enter Try.func32, Try.ntmps32
    go_wp2_with fail
    refine (implNameOk d.name _ hn).mono ?_
    rintro r w1 ⟨rfl, rfl⟩
    go_wp2_with fail
    refine (whoOk_any d.who _).mono ?_
    rintro r w2 ⟨rfl, rfl⟩
    go_wp2
    go_ret
    exact ⟨rfl, b0⟩
set_option maxHeartbeats 1000000 in
theorem shapeOk_put (d : M.Dd) (w : World) (hn : d.name.size ≤ maxLen) (hp : d.page.size ≤ maxLen) :
    Calls Try.prog 32 #[.iface 64 (puV d)] w fun r w' => r = .returned (.bool (M.nameOk d.name.data.toList && (M.edOk d.ed && (M.pageOk d.page.data.toList && (M.inI d.who 0 3))))) ∧ Below w.heap.size w w' := by
  have as_cl := as_pu_cl
  have as_pu := as_pu_pu
  have b0 := (Below.refl w.heap.size w).alloc (Nat.le_refl _) (.cells (puC d) 64)
  have h0 := holds_new w (puC d) 64
  rcases h1 : M.nameOk d.name.data.toList with _ | _
  ·
    go_enter Try.func32, Try.ntmps32
    go_wp2_with fail
    refine (implNameOk d.name _ hn).mono ?_
    rintro r w1 ⟨rfl, rfl⟩
    go_wp2
    go_ret
    exact ⟨rfl, b0⟩
  ·
    rcases h2 : M.edOk d.ed with _ | _
    ·
      go_enter Try.func32, Try.ntmps32
      go_wp2_with fail
      refine (implNameOk d.name _ hn).mono ?_
      rintro r w1 ⟨rfl, rfl⟩
      go_wp2_with fail
      refine (implEditionOk d.ed _).mono ?_
      rintro r w2 ⟨rfl, b1⟩
      replace h0 := h0.below b1
      replace b0 := next b0 b1
      obtain ⟨p0, p1, p2, p3, p4, p5⟩ := h0.six
      go_wp2
      go_ret
      exact ⟨rfl, b0⟩
    ·
      rcases h3 : M.pageOk d.page.data.toList with _ | _
      ·
        go_enter Try.func32, Try.ntmps32
        go_wp2_with fail
        refine (implNameOk d.name _ hn).mono ?_
        rintro r w1 ⟨rfl, rfl⟩
        go_wp2_with fail
        refine (implEditionOk d.ed _).mono ?_
        rintro r w2 ⟨rfl, b1⟩
        replace h0 := h0.below b1
        replace b0 := next b0 b1
        obtain ⟨p0, p1, p2, p3, p4, p5⟩ := h0.six
        go_wp2_with fail
        refine (implPageOk d.page _ hp).mono ?_
        rintro r w3 ⟨rfl, rfl⟩
        go_wp2
        go_ret
        exact ⟨rfl, b0⟩
      ·
        go_enter Try.func32, Try.ntmps32
        go_wp2_with fail
        refine (implNameOk d.name _ hn).mono ?_
        rintro r w1 ⟨rfl, rfl⟩
        go_wp2_with fail
        refine (implEditionOk d.ed _).mono ?_
        rintro r w2 ⟨rfl, b1⟩
        replace h0 := h0.below b1
        replace b0 := next b0 b1
        obtain ⟨p0, p1, p2, p3, p4, p5⟩ := h0.six
        go_wp2_with fail
        refine (implPageOk d.page _ hp).mono ?_
        rintro r w3 ⟨rfl, rfl⟩
        go_wp2_with fail
        refine (whoOk_any d.who _).mono ?_
        rintro r w4 ⟨rfl, rfl⟩
        go_wp2
        go_ret
        exact ⟨rfl, b0⟩
set_option maxHeartbeats 1000000 in
theorem shapeOk_veil (b : Bool) (d : M.Dd) (w : World) (hn : d.name.size ≤ maxLen) :
    Calls Try.prog 32 #[.iface 66 (veV b d)] w fun r w' => r = .returned (.bool (M.nameOk d.name.data.toList && (M.edOk d.ed && (M.inI d.who 0 3)))) ∧ Below w.heap.size w w' := by
  have as_cl := as_ve_cl
  have as_pu := as_ve_pu
  have as_ve := as_ve_ve
  have b0 := (Below.refl w.heap.size w).alloc (Nat.le_refl _) (.cells (veC b d) 66)
  have h0 := holds_new w (veC b d) 66
  rcases h1 : M.nameOk d.name.data.toList with _ | _
  ·
    go_enter Try.func32, Try.ntmps32
    go_wp2_with fail
    refine (implNameOk d.name _ hn).mono ?_
    rintro r w1 ⟨rfl, rfl⟩
    go_wp2
    go_ret
    exact ⟨rfl, b0⟩
  ·
    rcases h2 : M.edOk d.ed with _ | _
    ·
      go_enter Try.func32, Try.ntmps32
      go_wp2_with fail
      refine (implNameOk d.name _ hn).mono ?_
      rintro r w1 ⟨rfl, rfl⟩
      go_wp2_with fail
      refine (implEditionOk d.ed _).mono ?_
      rintro r w2 ⟨rfl, b1⟩
      replace h0 := h0.below b1
      replace b0 := next b0 b1
      obtain ⟨p0, p1, p2, p3, p4, p5⟩ := h0.six
      go_wp2
      go_ret
      exact ⟨rfl, b0⟩
    ·
      go_enter Try.func32, Try.ntmps32
      go_wp2_with fail
      refine (implNameOk d.name _ hn).mono ?_
      rintro r w1 ⟨rfl, rfl⟩
      go_wp2_with fail
      refine (implEditionOk d.ed _).mono ?_
      rintro r w2 ⟨rfl, b1⟩
      replace h0 := h0.below b1
      replace b0 := next b0 b1
      obtain ⟨p0, p1, p2, p3, p4, p5⟩ := h0.six
      go_wp2_with fail
      refine (whoOk_any d.who _).mono ?_
      rintro r w3 ⟨rfl, rfl⟩
      go_wp2
      go_ret
      exact ⟨rfl, b0⟩
set_option maxHeartbeats 1000000 in
theorem shapeOk_fetch (d : M.Dd) (w : World) (hn : d.name.size ≤ maxLen) :
    Calls Try.prog 32 #[.iface 68 (feV d)] w fun r w' => r = .returned (.bool (M.nameOk d.name.data.toList && (M.edOk d.ed))) ∧ Below w.heap.size w w' := by
  have as_cl := as_fe_cl
  have as_pu := as_fe_pu
  have as_ve := as_fe_ve
  have as_fe := as_fe_fe
  have b0 := (Below.refl w.heap.size w).alloc (Nat.le_refl _) (.cells (feC d) 68)
  have h0 := holds_new w (feC d) 68
  rcases h1 : M.nameOk d.name.data.toList with _ | _
  ·
    go_enter Try.func32, Try.ntmps32
    go_wp2_with fail
    refine (implNameOk d.name _ hn).mono ?_
    rintro r w1 ⟨rfl, rfl⟩
    go_wp2
    go_ret
    exact ⟨rfl, b0⟩
  ·
    go_enter Try.func32, Try.ntmps32
    go_wp2_with fail
    refine (implNameOk d.name _ hn).mono ?_
    rintro r w1 ⟨rfl, rfl⟩
    go_wp2_with fail
    refine (implEditionOk d.ed _).mono ?_
    rintro r w2 ⟨rfl, b1⟩
    replace h0 := h0.below b1
    replace b0 := next b0 b1
    go_wp2
    go_ret
    exact ⟨rfl, b0⟩
set_option maxHeartbeats 1000000 in
theorem shapeOk_give (d : M.Dd) (w : World) (hn : d.name.size ≤ maxLen) :
    Calls Try.prog 32 #[.iface 70 (giV d)] w fun r w' => r = .returned (.bool (M.nameOk d.name.data.toList && (M.inI d.who 0 3 && (M.edOk ⟨d.ed.ma, 0, 0⟩)))) ∧ Below w.heap.size w w' := by
  have as_cl := as_gi_cl
  have as_pu := as_gi_pu
  have as_ve := as_gi_ve
  have as_fe := as_gi_fe
  have as_gi := as_gi_gi
  have b0 := (Below.refl w.heap.size w).alloc (Nat.le_refl _) (.cells (giC d) 70)
  have h0 := holds_new w (giC d) 70
  rcases h1 : M.nameOk d.name.data.toList with _ | _
  ·
    go_enter Try.func32, Try.ntmps32
    go_wp2_with fail
    refine (implNameOk d.name _ hn).mono ?_
    rintro r w1 ⟨rfl, rfl⟩
    go_wp2
    go_ret
    exact ⟨rfl, b0⟩
  ·
    rcases h2 : M.inI d.who 0 3 with _ | _
    ·
      go_enter Try.func32, Try.ntmps32
      go_wp2_with fail
      refine (implNameOk d.name _ hn).mono ?_
      rintro r w1 ⟨rfl, rfl⟩
      go_wp2_with fail
      refine (whoOk_any d.who _).mono ?_
      rintro r w2 ⟨rfl, rfl⟩
      go_wp2
      go_ret
      exact ⟨rfl, b0⟩
    ·
      go_enter Try.func32, Try.ntmps32
      go_wp2_with fail
      refine (implNameOk d.name _ hn).mono ?_
      rintro r w1 ⟨rfl, rfl⟩
      go_wp2_with fail
      refine (whoOk_any d.who _).mono ?_
      rintro r w2 ⟨rfl, rfl⟩
      go_wp2_with fail
      refine (implEditionOk ⟨d.ed.ma, 0, 0⟩ _).mono ?_
      rintro r w3 ⟨rfl, b1⟩
      replace h0 := h0.below b1
      replace b0 := next b0 b1
      go_wp2
      go_ret
      exact ⟨rfl, b0⟩
end Go.Proofs.Ytblcgbgcccjpcaa
