/- Proved, in parts: Proved: how an entry stands in memory; no program is named here; no condition. Proved: the language's own test whether two deeds are alike is whether they are the same; no condition. Proved: the language's own test whether two orders are alike is whether they are alike in each field; no condition. Proved: the language's own test whether two entries are alike is whether they are alike in each field; no condition. Proved: an operation whose run is told walks on with its value; no program is named here; no condition. Proved: the model's and the program's test whether two entries are the same is whether they are alike in each field; nothing that was there is written. No condition. -/
import Derived.Test.YtblcgbgcccjpcaaPart06
import Derived.Calls
import Derived.KernelRfl
import Derived.Test.YtblcgbgcccjpcaaPart01
namespace Go.Proofs.Ytblcgbgcccjpcaa
open Go.RowKit
namespace M
structure En where
  reign : Int
  order : Or
end M
abbrev enC (e : M.En) : Array Value := #[.int .i64 e.reign, .int .i64 e.order.client, .int .i64 e.order.seq, .int .i64 e.order.deed.kind, .string e.order.deed.name, .int .i64 e.order.deed.ed.ma, .int .i64 e.order.deed.ed.mi, .int .i64 e.order.deed.ed.pa, .string e.order.deed.page, .int .i64 e.order.deed.who]
abbrev enV (e : M.En) : Value := .agg (enC e)
abbrev enL (e : M.En) : List Value := [.int .i64 e.reign, .int .i64 e.order.client, .int .i64 e.order.seq, .int .i64 e.order.deed.kind, .string e.order.deed.name, .int .i64 e.order.deed.ed.ma, .int .i64 e.order.deed.ed.mi, .int .i64 e.order.deed.ed.pa, .string e.order.deed.page, .int .i64 e.order.deed.who]
abbrev enA (e : M.En) : Array Value := enC e
theorem enL_len (e : M.En) : (enL e).length = 10 := rfl
abbrev enIn (n : Nat) (e : M.En) : Prop := e.order.deed.name.size ≤ n ∧ e.order.deed.page.size ≤ n
theorem Holds.ten {w : World} {g : Nat} {a0 a1 a2 a3 a4 a5 a6 a7 a8 a9 : Value} (h : Holds w g #[a0, a1, a2, a3, a4, a5, a6, a7, a8, a9]) : w.cell? ⟨g, 0, none⟩ = some a0 ∧ w.cell? ⟨g, 1, none⟩ = some a1 ∧ w.cell? ⟨g, 2, none⟩ = some a2 ∧ w.cell? ⟨g, 3, none⟩ = some a3 ∧ w.cell? ⟨g, 4, none⟩ = some a4 ∧ w.cell? ⟨g, 5, none⟩ = some a5 ∧ w.cell? ⟨g, 6, none⟩ = some a6 ∧ w.cell? ⟨g, 7, none⟩ = some a7 ∧ w.cell? ⟨g, 8, none⟩ = some a8 ∧ w.cell? ⟨g, 9, none⟩ = some a9 :=
  ⟨h.2 0 _ rfl, h.2 1 _ rfl, h.2 2 _ rfl, h.2 3 _ rfl, h.2 4 _ rfl, h.2 5 _ rfl, h.2 6 _ rfl, h.2 7 _ rfl, h.2 8 _ rfl, h.2 9 _ rfl⟩
end Go.Proofs.Ytblcgbgcccjpcaa
namespace Go.Proofs.Ytblcgbgcccjpcaa
open Go.RowKit
set_option maxRecDepth 20000

theorem dd_iff (a b : M.Dd) : a = b ↔ a.kind = b.kind ∧ a.name = b.name ∧ (a.ed.ma = b.ed.ma ∧ a.ed.mi = b.ed.mi ∧ a.ed.pa = b.ed.pa) ∧ a.page = b.page ∧ a.who = b.who := by
  cases a; cases b; simp [M.ed_ext]

theorem txt_other {a b : ByteArray} (h : ¬ a = b) : ¬ a.toList = b.toList := fun e => h (ba_ext (by rw [ByteArray.toList_eq, ByteArray.toList_eq] at e; exact e))

set_option maxHeartbeats 4000000 in
theorem dd_eql (a b : M.Dd) (w : World) : (binOp .eql 34 (ddV a) (ddV b)).run Try.prog w = .ok (.bool (decide (a = b))) w := by
  by_cases h0 : a.kind = b.kind
  · have h0' : (a.kind == b.kind) = true := by simpa using h0
    by_cases h1 : a.name = b.name
    · by_cases h2 : a.ed.ma = b.ed.ma
      · have h2' : (a.ed.ma == b.ed.ma) = true := by simpa using h2
        by_cases h3 : a.ed.mi = b.ed.mi
        · have h3' : (a.ed.mi == b.ed.mi) = true := by simpa using h3
          by_cases h4 : a.ed.pa = b.ed.pa
          · have h4' : (a.ed.pa == b.ed.pa) = true := by simpa using h4
            by_cases h5 : a.page = b.page
            · have e : decide (a = b) = (a.who == b.who) := by rw [Bool.eq_iff_iff]; simp [dd_iff, h0, h1, h2, h3, h4, h5]
              rcases h6' : (a.who == b.who) with _ | _ <;> rw [e, h6'] <;> simp [go_sem, h0', h1, h2', h3', h4', h5, h6', Try.underlying34, Try.underlying32, Try.underlying2, Try.underlying9]
            · have e : decide (a = b) = false := by simp [dd_iff, h5]
              have h5' := txt_other h5
              rw [e]
              simp [go_sem, h0', h1, h2', h3', h4', h5']
          · have h4' : (a.ed.pa == b.ed.pa) = false := by simpa using h4
            have e : decide (a = b) = false := by simp [dd_iff, h4]
            rw [e]
            simp [go_sem, h0', h1, h2', h3', h4']
        · have h3' : (a.ed.mi == b.ed.mi) = false := by simpa using h3
          have e : decide (a = b) = false := by simp [dd_iff, h3]
          rw [e]
          simp [go_sem, h0', h1, h2', h3']
      · have h2' : (a.ed.ma == b.ed.ma) = false := by simpa using h2
        have e : decide (a = b) = false := by simp [dd_iff, h2]
        rw [e]
        simp [go_sem, h0', h1, h2']
    · have e : decide (a = b) = false := by simp [dd_iff, h1]
      have h1' := txt_other h1
      rw [e]
      simp [go_sem, h0', h1']
  · have h0' : (a.kind == b.kind) = false := by simpa using h0
    have e : decide (a = b) = false := by simp [dd_iff, h0]
    rw [e]
    simp [go_sem, h0']
theorem deql_read {A : Act} {o : Oper} {x y : Operand} {a b : M.Dd} (ho : o.op = .binOp .eql 34 x y 34) (hx : A.eval x = ddV a) (hy : A.eval y = ddV b) (w : World) :
    (execOp A.eval o).run Try.prog w = .ok (.value (.bool (decide (a = b)))) w := by
  unfold execOp
  rw [ho]
  have hg := fun (op : BinOp) (x y : Operand) (xs ys : Array Value) (w : World) => run_eqGuard_agg (P := Try.prog) w op 34 x y xs ys (by kernel_rfl)
  have he := fun w => dd_eql a b w
  simp only [ddV] at he hx hy
  simp only [hx, hy, Sem.run_bind, hg, he, Result.andThen_ok, Sem.run_pure]
end Go.Proofs.Ytblcgbgcccjpcaa
namespace Go.Proofs.Ytblcgbgcccjpcaa
open Go.RowKit
set_option maxRecDepth 20000
namespace M
def orEq (a b : Or) : Bool := ((a.client == b.client) && ((a.seq == b.seq) && ((a.deed.kind == b.deed.kind) && (decide (a.deed.name = b.deed.name) && ((a.deed.ed.ma == b.deed.ed.ma) && ((a.deed.ed.mi == b.deed.ed.mi) && ((a.deed.ed.pa == b.deed.ed.pa) && (decide (a.deed.page = b.deed.page) && (a.deed.who == b.deed.who)))))))))
end M
set_option maxHeartbeats 8000000 in
theorem or_eql (a b : M.Or) (w : World) : (binOp .eql 36 (orV a) (orV b)).run Try.prog w = .ok (.bool (M.orEq a b)) w := by
  rcases h0 : (a.client == b.client) with _ | _
  · have e : M.orEq a b = false := by simp [M.orEq, h0]
    rw [e]
    simp [go_sem, h0]
  · rcases h1 : (a.seq == b.seq) with _ | _
    · have e : M.orEq a b = false := by simp [M.orEq, h1]
      rw [e]
      simp [go_sem, h0, h1]
    · rcases h2 : (a.deed.kind == b.deed.kind) with _ | _
      · have e : M.orEq a b = false := by simp [M.orEq, h2]
        rw [e]
        simp [go_sem, h0, h1, h2]
      · by_cases h3 : a.deed.name = b.deed.name
        · rcases h4 : (a.deed.ed.ma == b.deed.ed.ma) with _ | _
          · have e : M.orEq a b = false := by simp [M.orEq, h4]
            rw [e]
            simp [go_sem, h0, h1, h2, h3, h4]
          · rcases h5 : (a.deed.ed.mi == b.deed.ed.mi) with _ | _
            · have e : M.orEq a b = false := by simp [M.orEq, h5]
              rw [e]
              simp [go_sem, h0, h1, h2, h3, h4, h5]
            · rcases h6 : (a.deed.ed.pa == b.deed.ed.pa) with _ | _
              · have e : M.orEq a b = false := by simp [M.orEq, h6]
                rw [e]
                simp [go_sem, h0, h1, h2, h3, h4, h5, h6]
              · by_cases h7 : a.deed.page = b.deed.page
                · have e : M.orEq a b = (a.deed.who == b.deed.who) := by simp [M.orEq, h0, h1, h2, h3, h4, h5, h6, h7]
                  rcases h8 : (a.deed.who == b.deed.who) with _ | _ <;> rw [e, h8] <;> simp [go_sem, h0, h1, h2, h3, h4, h5, h6, h7, h8, Try.underlying36, Try.underlying34, Try.underlying32, Try.underlying2, Try.underlying9]
                · have e : M.orEq a b = false := by simp [M.orEq, h7]
                  have h7' := txt_other h7
                  rw [e]
                  simp [go_sem, h0, h1, h2, h3, h4, h5, h6, h7']
        · have e : M.orEq a b = false := by simp [M.orEq, h3]
          have h3' := txt_other h3
          rw [e]
          simp [go_sem, h0, h1, h2, h3']
theorem oreql_read {A : Act} {o : Oper} {x y : Operand} {a b : M.Or} (ho : o.op = .binOp .eql 36 x y 36) (hx : A.eval x = orV a) (hy : A.eval y = orV b) (w : World) :
    (execOp A.eval o).run Try.prog w = .ok (.value (.bool (M.orEq a b))) w := by
  unfold execOp
  rw [ho]
  have hg := fun (op : BinOp) (x y : Operand) (xs ys : Array Value) (w : World) => run_eqGuard_agg (P := Try.prog) w op 36 x y xs ys (by kernel_rfl)
  have he := fun w => or_eql a b w
  simp only [orV] at he hx hy
  simp only [hx, hy, Sem.run_bind, hg, he, Result.andThen_ok, Sem.run_pure]
end Go.Proofs.Ytblcgbgcccjpcaa
namespace Go.Proofs.Ytblcgbgcccjpcaa
open Go.RowKit
set_option maxRecDepth 20000
namespace M
def enEq (a b : En) : Bool := ((a.reign == b.reign) && ((a.order.client == b.order.client) && ((a.order.seq == b.order.seq) && ((a.order.deed.kind == b.order.deed.kind) && (decide (a.order.deed.name = b.order.deed.name) && ((a.order.deed.ed.ma == b.order.deed.ed.ma) && ((a.order.deed.ed.mi == b.order.deed.ed.mi) && ((a.order.deed.ed.pa == b.order.deed.ed.pa) && (decide (a.order.deed.page = b.order.deed.page) && (a.order.deed.who == b.order.deed.who))))))))))
end M
set_option maxHeartbeats 8000000 in
theorem en_eql (a b : M.En) (w : World) : (binOp .eql 38 (enV a) (enV b)).run Try.prog w = .ok (.bool (M.enEq a b)) w := by
  rcases h0 : (a.reign == b.reign) with _ | _
  · have e : M.enEq a b = false := by simp [M.enEq, h0]
    rw [e]
    simp [go_sem, h0]
  · rcases h1 : (a.order.client == b.order.client) with _ | _
    · have e : M.enEq a b = false := by simp [M.enEq, h1]
      rw [e]
      simp [go_sem, h0, h1]
    · rcases h2 : (a.order.seq == b.order.seq) with _ | _
      · have e : M.enEq a b = false := by simp [M.enEq, h2]
        rw [e]
        simp [go_sem, h0, h1, h2]
      · rcases h3 : (a.order.deed.kind == b.order.deed.kind) with _ | _
        · have e : M.enEq a b = false := by simp [M.enEq, h3]
          rw [e]
          simp [go_sem, h0, h1, h2, h3]
        · by_cases h4 : a.order.deed.name = b.order.deed.name
          · rcases h5 : (a.order.deed.ed.ma == b.order.deed.ed.ma) with _ | _
            · have e : M.enEq a b = false := by simp [M.enEq, h5]
              rw [e]
              simp [go_sem, h0, h1, h2, h3, h4, h5]
            · rcases h6 : (a.order.deed.ed.mi == b.order.deed.ed.mi) with _ | _
              · have e : M.enEq a b = false := by simp [M.enEq, h6]
                rw [e]
                simp [go_sem, h0, h1, h2, h3, h4, h5, h6]
              · rcases h7 : (a.order.deed.ed.pa == b.order.deed.ed.pa) with _ | _
                · have e : M.enEq a b = false := by simp [M.enEq, h7]
                  rw [e]
                  simp [go_sem, h0, h1, h2, h3, h4, h5, h6, h7]
                · by_cases h8 : a.order.deed.page = b.order.deed.page
                  · have e : M.enEq a b = (a.order.deed.who == b.order.deed.who) := by simp [M.enEq, h0, h1, h2, h3, h4, h5, h6, h7, h8]
                    rcases h9 : (a.order.deed.who == b.order.deed.who) with _ | _ <;> rw [e, h9] <;> simp [go_sem, h0, h1, h2, h3, h4, h5, h6, h7, h8, h9, Try.underlying38, Try.underlying36, Try.underlying34, Try.underlying32, Try.underlying2, Try.underlying9]
                  · have e : M.enEq a b = false := by simp [M.enEq, h8]
                    have h8' := txt_other h8
                    rw [e]
                    simp [go_sem, h0, h1, h2, h3, h4, h5, h6, h7, h8']
          · have e : M.enEq a b = false := by simp [M.enEq, h4]
            have h4' := txt_other h4
            rw [e]
            simp [go_sem, h0, h1, h2, h3, h4']
theorem eneql_read {A : Act} {o : Oper} {x y : Operand} {a b : M.En} (ho : o.op = .binOp .eql 38 x y 38) (hx : A.eval x = enV a) (hy : A.eval y = enV b) (w : World) :
    (execOp A.eval o).run Try.prog w = .ok (.value (.bool (M.enEq a b))) w := by
  unfold execOp
  rw [ho]
  have hg := fun (op : BinOp) (x y : Operand) (xs ys : Array Value) (w : World) => run_eqGuard_agg (P := Try.prog) w op 38 x y xs ys (by kernel_rfl)
  have he := fun w => en_eql a b w
  simp only [enV] at he hx hy
  simp only [hx, hy, Sem.run_bind, hg, he, Result.andThen_ok, Sem.run_pure]
end Go.Proofs.Ytblcgbgcccjpcaa
namespace Go.Proofs.Ytblcgbgcccjpcaa
open Go Go.RowKit
theorem wpList_run {P : Program} {ops : Array Oper} {Q : Exit → Act → World → Prop} {o : Oper} {rest : List Oper} {a : Act} {w : World} {v : Value} (hw : Region.wanted o (yielded ops a.tmps) = true) (hr : (execOp a.eval o).run P w = .ok (.value v) w) (h : wpList P ops Q rest (a.put o.dst v) w) : wpList P ops Q (o :: rest) a w :=
  wpList_step fun K hK => by
    rw [if_pos hw]
    show o.upon P a K Q ((execOp a.eval o).run P w)
    rw [hr]
    exact hK _ _ h
end Go.Proofs.Ytblcgbgcccjpcaa
namespace Go.Proofs.Ytblcgbgcccjpcaa
open Go.RowKit
set_option maxRecDepth 20000
set_option maxHeartbeats 4000000 in
theorem specSameEntry (a b : M.En) (w : World) : Calls Try.prog 9 #[enV a, enV b] w fun r w' => r = .returned (.bool (M.enEq a b)) ∧ Below w.heap.size w w' := by
  have b0 := ((Below.refl w.heap.size w).alloc (Nat.le_refl _) (.cells (enC a) 38)).alloc (by simp) (.cells (enC b) 38)
  go_enter Try.func9, Try.ntmps9
  go_wp2_with (refine wpList_run (by rfl) (eneql_read (a := a) (b := b) rfl rfl rfl _) ?_)
  go_ret
  exact ⟨rfl, b0⟩
set_option maxHeartbeats 4000000 in
theorem implSameEntry (a b : M.En) (w : World) : Calls Try.prog 10 #[enV a, enV b] w fun r w' => r = .returned (.bool (M.enEq a b)) ∧ Below w.heap.size w w' := by
  have b0 := ((Below.refl w.heap.size w).alloc (Nat.le_refl _) (.cells (enC a) 38)).alloc (by simp) (.cells (enC b) 38)
  go_enter Try.func10, Try.ntmps10
  go_wp2_with (refine wpList_run (by rfl) (eneql_read (a := a) (b := b) rfl rfl rfl _) ?_)
  go_ret
  exact ⟨rfl, b0⟩
end Go.Proofs.Ytblcgbgcccjpcaa
