/- Proved, in parts: Proved: the language's own test whether two orders are alike is whether they are alike in each field; no condition. Proved: an operation whose run is told walks on with its value; no program is named here; no condition. Proved: the model's and the program's tests of an entry answer a plain Lean function; nothing that was there is written. Condition: texts of at most what memory has. Proved: where the laws' copy of an order leaves the world. No condition. Proved: the laws' own test tells a deed like itself; it writes nothing that was there. No condition. Proved: the laws' helpers on one order (its size, its copy, its likeness) answer plain Lean functions; they write nothing that was there. Condition: texts of at most a million where the size is told. Proved: the laws' helpers on one entry (its size, its copy, its likeness) answer plain Lean functions; they write nothing that was there. Condition: texts of at most a million where the size is told. -/
import Derived.Test.YtdoeiphnalbinaaGreatPart08
import Derived.Test.YtdoeiphnalbinaaGreatPart10
import Derived.Calls
import Derived.KernelRfl
import Derived.Test.YtdoeiphnalbinaaGreatPart01
import Derived.Test.YtdoeiphnalbinaaGreatPart12
import Derived.Test.YtdoeiphnalbinaaGreatPart07
import Derived.Test.YtdoeiphnalbinaaGreatPart09
namespace Go.Proofs.YtdoeiphnalbinaaGreat
open Go.RowKit
set_option maxRecDepth 20000
namespace M
def orEq (a b : Or) : Bool := ((a.client == b.client) && ((a.seq == b.seq) && ((a.deed.kind == b.deed.kind) && (decide (a.deed.name = b.deed.name) && ((a.deed.ed.ma == b.deed.ed.ma) && ((a.deed.ed.mi == b.deed.ed.mi) && ((a.deed.ed.pa == b.deed.ed.pa) && (decide (a.deed.page = b.deed.page) && (a.deed.who == b.deed.who)))))))))
end M
set_option maxHeartbeats 8000000 in
theorem or_eql (a b : M.Or) (w : World) : (binOp .eql 51 (orV a) (orV b)).run Tryz.prog w = .ok (.bool (M.orEq a b)) w := by
  rcases h0 : (a.client == b.client) with _ | _
  · have e : M.orEq a b = false := by simp [M.orEq, h0]
    rw [e]
    simp [go_sem, h0]
  · rcases h1 : (a.seq == b.seq) with _ | _
    · have e : M.orEq a b = false := by simp [M.orEq, h1]
      rw [e]
      simp [go_sem, h0, h1]
    · rcases h2 : (a.deed.kind == b.deed.kind) with _ | _
      · have e : M.orEq a b = false := by simp [M.orEq, h2]
        rw [e]
        simp [go_sem, h0, h1, h2]
      · by_cases h3 : a.deed.name = b.deed.name
        · rcases h4 : (a.deed.ed.ma == b.deed.ed.ma) with _ | _
          · have e : M.orEq a b = false := by simp [M.orEq, h4]
            rw [e]
            simp [go_sem, h0, h1, h2, h3, h4]
          · rcases h5 : (a.deed.ed.mi == b.deed.ed.mi) with _ | _
            · have e : M.orEq a b = false := by simp [M.orEq, h5]
              rw [e]
              simp [go_sem, h0, h1, h2, h3, h4, h5]
            · rcases h6 : (a.deed.ed.pa == b.deed.ed.pa) with _ | _
              · have e : M.orEq a b = false := by simp [M.orEq, h6]
                rw [e]
                simp [go_sem, h0, h1, h2, h3, h4, h5, h6]
              · by_cases h7 : a.deed.page = b.deed.page
                · have e : M.orEq a b = (a.deed.who == b.deed.who) := by simp [M.orEq, h0, h1, h2, h3, h4, h5, h6, h7]
                  rcases h8 : (a.deed.who == b.deed.who) with _ | _ <;> rw [e, h8] <;> simp [go_sem, h0, h1, h2, h3, h4, h5, h6, h7, h8, Tryz.underlying51, Tryz.underlying49, Tryz.underlying47, Tryz.underlying2, Tryz.underlying9]
                · have e : M.orEq a b = false := by simp [M.orEq, h7]
                  have h7' := txt_other h7
                  rw [e]
                  simp [go_sem, h0, h1, h2, h3, h4, h5, h6, h7']
        · have e : M.orEq a b = false := by simp [M.orEq, h3]
          have h3' := txt_other h3
          rw [e]
          simp [go_sem, h0, h1, h2, h3']
theorem oreql_read {A : Act} {o : Oper} {x y : Operand} {a b : M.Or} (ho : o.op = .binOp .eql 51 x y 51) (hx : A.eval x = orV a) (hy : A.eval y = orV b) (w : World) :
    (execOp A.eval o).run Tryz.prog w = .ok (.value (.bool (M.orEq a b))) w := by
  unfold execOp
  rw [ho]
  have hg := fun (op : BinOp) (x y : Operand) (xs ys : Array Value) (w : World) => run_eqGuard_agg (P := Tryz.prog) w op 51 x y xs ys (by kernel_rfl)
  have he := fun w => or_eql a b w
  simp only [orV] at he hx hy
  simp only [hx, hy, Sem.run_bind, hg, he, Result.andThen_ok, Sem.run_pure]
end Go.Proofs.YtdoeiphnalbinaaGreat
namespace Go.Proofs.YtdoeiphnalbinaaGreat
open Go Go.RowKit
theorem wpList_run {P : Program} {ops : Array Oper} {Q : Exit → Act → World → Prop} {o : Oper} {rest : List Oper} {a : Act} {w : World} {v : Value} (hw : Region.wanted o (yielded ops a.tmps) = true) (hr : (execOp a.eval o).run P w = .ok (.value v) w) (h : wpList P ops Q rest (a.put o.dst v) w) : wpList P ops Q (o :: rest) a w :=
  wpList_step fun K hK => by
    rw [if_pos hw]
    show o.upon P a K Q ((execOp a.eval o).run P w)
    rw [hr]
    exact hK _ _ h
end Go.Proofs.YtdoeiphnalbinaaGreat
namespace Go.Proofs.YtdoeiphnalbinaaGreat
open Go.RowKit
set_option maxRecDepth 20000
namespace M
def or0 : Or := ⟨0, 0, zeroDd⟩
def entryOk (e : En) : Bool := inI e.reign 1 1000 && (orEq e.order or0 || orderOk e.order)
end M
theorem l7Reign_any (n : Int) (w : World) : Calls Tryz.prog 13 #[.int .i64 n] w fun e w' => e = .returned (.bool (M.inI n 1 1000)) ∧ w = w' := by
  go_enter Tryz.func13, Tryz.ntmps13
  go_wp2_with fail
  refine (in_i _ _ _ _).mono ?_
  rintro e w' ⟨rfl, rfl⟩
  go_wp2
  go_ret
  exact ⟨rfl, rfl⟩
theorem reignOk_any (n : Int) (w : World) : Calls Tryz.prog 18 #[.int .i64 n] w fun e w' => e = .returned (.bool (M.inI n 1 1000)) ∧ w = w' := by
  by_cases h1 : 1 ≤ n
  · go_enter Tryz.func18, Tryz.ntmps18
    go_wp2
    go_ret
    exact ⟨by simp [M.inI, h1], rfl⟩
  · go_enter Tryz.func18, Tryz.ntmps18
    go_wp2
    go_ret
    exact ⟨by simp [M.inI]; omega, rfl⟩
/-- Which kind the program takes an entry for. -/
def kindI (e : M.En) : Int := if M.orEq e.order M.or0 then 0 else 1
set_option maxHeartbeats 4000000 in
theorem kindOf_any (e : M.En) (w : World) : Calls Tryz.prog 66 #[enV e] w fun r w' => r = .returned (.int .i64 (kindI e)) ∧ Below w.heap.size w w' := by
  have b0 := (Below.refl w.heap.size w).alloc (Nat.le_refl _) (.cells (enC e) 53)
  unfold kindI
  rcases hb : M.orEq e.order M.or0 with _ | _
  · go_enter Tryz.func66, Tryz.ntmps66
    go_wp2_with (refine wpList_run (by rfl) (oreql_read (a := e.order) (b := M.or0) rfl rfl rfl _) ?_; simp only [hb])
    go_ret
    exact ⟨rfl, b0⟩
  · go_enter Tryz.func66, Tryz.ntmps66
    go_wp2_with (refine wpList_run (by rfl) (oreql_read (a := e.order) (b := M.or0) rfl rfl rfl _) ?_; simp only [hb])
    go_ret
    exact ⟨rfl, b0⟩
set_option maxHeartbeats 4000000 in
theorem implEntryOk (e : M.En) (w : World) (hn : e.order.deed.name.size ≤ maxLen) (hp : e.order.deed.page.size ≤ maxLen) :
    Calls Tryz.prog 37 #[enV e] w fun r w' => r = .returned (.bool (M.entryOk e)) ∧ Below w.heap.size w w' := by
  have b0 := (Below.refl w.heap.size w).alloc (Nat.le_refl _) (.cells (enC e) 53)
  have h0 := holds_new w (enC e) 53
  rcases hb : M.orEq e.order M.or0 with _ | _
  · have hk : kindI e = 1 := by simp [kindI, hb]
    rcases ho : M.orderOk e.order with _ | _
    · have HE : Hid (M.entryOk e = false) := Lib.hid (by simp [M.entryOk, hb, ho])
      go_enter Tryz.func37, Tryz.ntmps37
      go_wp2_with fail
      have hc := kindOf_any e (w.alloc (.cells (enC e) 53))
      rw [hk] at hc
      refine hc.mono ?_
      rintro r w1 ⟨rfl, b1⟩
      replace h0 := h0.below b1
      replace b0 := next b0 b1
      obtain ⟨p0, p1, p2, p3, p4, p5, p6, p7, p8, p9⟩ := h0.ten
      clear hc b1 hk hb
      go_wp2_with fail
      have hc := implOrderOk e.order w1 hn hp
      rw [ho] at hc
      refine hc.mono ?_
      rintro r w2 ⟨rfl, b2⟩
      clear hc ho
      replace b0 := next b0 b2
      go_wp2
      go_ret
      exact ⟨(by first | (rw [HE.out]; done) | (rw [HE.out]; rfl)), b0⟩
    · have HE : Hid (M.entryOk e = M.inI e.reign 1 1000) := Lib.hid (by simp [M.entryOk, hb, ho])
      go_enter Tryz.func37, Tryz.ntmps37
      go_wp2_with fail
      have hc := kindOf_any e (w.alloc (.cells (enC e) 53))
      rw [hk] at hc
      refine hc.mono ?_
      rintro r w1 ⟨rfl, b1⟩
      replace h0 := h0.below b1
      replace b0 := next b0 b1
      obtain ⟨p0, p1, p2, p3, p4, p5, p6, p7, p8, p9⟩ := h0.ten
      clear hc b1 hk hb
      go_wp2_with fail
      have hc := implOrderOk e.order w1 hn hp
      rw [ho] at hc
      refine hc.mono ?_
      rintro r w2 ⟨rfl, b2⟩
      replace h0 := h0.below b2
      clear hc ho p0 p1 p2 p3 p4 p5 p6 p7 p8 p9
      obtain ⟨p0, -⟩ := h0.ten
      replace b0 := next b0 b2
      go_wp2_with fail
      refine (reignOk_any e.reign _).mono ?_
      rintro r w3 ⟨rfl, rfl⟩
      go_wp2
      go_ret
      exact ⟨(by first | (rw [HE.out]; done) | (rw [HE.out]; rfl)), b0⟩
  · have hk : kindI e = 0 := by simp [kindI, hb]
    have HE : Hid (M.entryOk e = M.inI e.reign 1 1000) := Lib.hid (by simp [M.entryOk, hb])
    go_enter Tryz.func37, Tryz.ntmps37
    go_wp2_with fail
    have hc := kindOf_any e (w.alloc (.cells (enC e) 53))
    rw [hk] at hc
    refine hc.mono ?_
    rintro r w1 ⟨rfl, b1⟩
    replace h0 := h0.below b1
    replace b0 := next b0 b1
    obtain ⟨p0, -⟩ := h0.ten
    clear hc b1 hk hb
    go_wp2_with fail
    refine (reignOk_any e.reign _).mono ?_
    rintro r w3 ⟨rfl, rfl⟩
    go_wp2
    go_ret
    exact ⟨(by first | (rw [HE.out]; done) | (rw [HE.out]; rfl)), b0⟩
set_option maxHeartbeats 4000000 in
theorem specEntryOk (e : M.En) (w : World) (hn : e.order.deed.name.size ≤ maxLen) (hp : e.order.deed.page.size ≤ maxLen) :
    Calls Tryz.prog 58 #[enV e] w fun r w' => r = .returned (.bool (M.entryOk e)) ∧ Below w.heap.size w w' := by
  have b0 := (Below.refl w.heap.size w).alloc (Nat.le_refl _) (.cells (enC e) 53)
  rcases hr : M.inI e.reign 1 1000 with _ | _
  · have HE : Hid (M.entryOk e = false) := Lib.hid (by simp [M.entryOk, hr])
    go_enter Tryz.func58, Tryz.ntmps58
    go_wp2_with fail
    have hc := l7Reign_any e.reign (w.alloc (.cells (enC e) 53))
    rw [hr] at hc
    refine hc.mono ?_
    rintro r w1 ⟨rfl, rfl⟩
    clear hc hr
    go_wp2
    go_ret
    exact ⟨(by first | (rw [HE.out]; done) | (rw [HE.out]; rfl)), b0⟩
  · rcases hb : M.orEq e.order M.or0 with _ | _
    · have HE : Hid (M.entryOk e = M.orderOk e.order) := Lib.hid (by simp [M.entryOk, hr, hb])
      go_enter Tryz.func58, Tryz.ntmps58
      go_wp2_with fail
      have hc := l7Reign_any e.reign (w.alloc (.cells (enC e) 53))
      rw [hr] at hc
      refine hc.mono ?_
      rintro r w1 ⟨rfl, rfl⟩
      clear hc hr
      go_wp2_with (refine wpList_run (by rfl) (oreql_read (a := e.order) (b := M.or0) rfl rfl rfl _) ?_; simp only [hb])
      clear hb
      refine (specOrderOk e.order _ hn hp).mono ?_
      rintro r w2 ⟨rfl, b2⟩
      replace b0 := next b0 b2
      go_wp2
      go_ret
      exact ⟨(by first | (rw [HE.out]; done) | (rw [HE.out]; rfl)), b0⟩
    · have HE : Hid (M.entryOk e = true) := Lib.hid (by simp [M.entryOk, hr, hb])
      go_enter Tryz.func58, Tryz.ntmps58
      go_wp2_with fail
      have hc := l7Reign_any e.reign (w.alloc (.cells (enC e) 53))
      rw [hr] at hc
      refine hc.mono ?_
      rintro r w1 ⟨rfl, rfl⟩
      clear hc hr
      go_wp2_with (refine wpList_run (by rfl) (oreql_read (a := e.order) (b := M.or0) rfl rfl rfl _) ?_; simp only [hb])
      go_ret
      exact ⟨(by first | (rw [HE.out]; done) | (rw [HE.out]; rfl)), b0⟩
end Go.Proofs.YtdoeiphnalbinaaGreat
namespace Go.Proofs.YtdoeiphnalbinaaGreat
open Go.RowKit
set_option maxRecDepth 20000
/-- Where toOrder leaves the world. -/
abbrev orMade (o : M.Or) (w : World) : World := ddMade o.deed (((w.alloc (.cells (orC o) 65)).alloc (.cells (orC o) 51)).alloc (.cells (orC o) 51))
set_option maxHeartbeats 4000000 in
theorem toOrder_at (o : M.Or) (w : World) :
    Calls Tryz.prog 61 #[orV o] w fun r w' => r = .returned (orV o) ∧ w' = orMade o w := by
  go_enter Tryz.func61, Tryz.ntmps61
  go_wp2_with fail
  refine (toDeed_at o.deed _).mono ?_
  rintro r w1 ⟨rfl, rfl⟩
  go_wp2
  exact bodyPost_ret (v := orV o) (by simp [results, Tryz.results61, go_sem]) rfl ⟨rfl, rfl⟩
end Go.Proofs.YtdoeiphnalbinaaGreat
namespace Go.Proofs.YtdoeiphnalbinaaGreat
open Go.RowKit
set_option maxRecDepth 20000

set_option maxHeartbeats 1000000 in
theorem eqDeed_same (a : M.Dd) (w : World) :
    Calls Tryz.prog 97 #[ddV a, ddV a] w fun r w' => r = .returned (.bool true) ∧ Below w.heap.size w w' := by
  have h0 : (a.kind != a.kind) = false := by simp
  have h1 : (a.name.toList != a.name.toList) = false := by simp
  have h2 : (a.page.toList != a.page.toList) = false := by simp
  have h3 : (a.who != a.who) = false := by simp
  have b0 := ((Below.refl w.heap.size w).alloc (Nat.le_refl _) (.cells (ddC a) 49)).alloc (by simp) (.cells (ddC a) 49)
  have ha := (holds_new w (ddC a) 49).alloc (.cells (ddC a) 49)
  have hb := holds_new (w.alloc (.cells (ddC a) 49)) (ddC a) 49
  go_enter Tryz.func97, Tryz.ntmps97
  go_wp2_with fail
  refine (eqEdition_same a.ed _).mono ?_
  rintro r w1 ⟨rfl, b1⟩
  replace ha := ha.below b1
  replace hb := hb.below b1
  replace b0 := next b0 b1
  simp only [World.size_alloc] at hb
  obtain ⟨p0, p1, p2, p3, p4, p5, p6⟩ := ha.seven
  obtain ⟨q0, q1, q2, q3, q4, q5, q6⟩ := hb.seven
  clear b1
  go_wp2
  go_ret
  exact ⟨rfl, b0⟩
end Go.Proofs.YtdoeiphnalbinaaGreat
namespace Go.Proofs.YtdoeiphnalbinaaGreat
open Go.RowKit
set_option maxRecDepth 20000
abbrev orIn (n : Nat) (o : M.Or) : Prop := o.deed.name.size ≤ n ∧ o.deed.page.size ≤ n
set_option maxHeartbeats 1000000 in
theorem szDeed_is (d : M.Dd) (n : Int) (w : World) (hn : n ≤ 1048576) (h : (d.name.size + d.page.size : Int) ≤ n) :
    Calls Tryz.prog 81 #[ddV d, .int .i64 n] w fun r w' => r = .returned (.int .i64 (n - d.name.size - d.page.size)) ∧ Below w.heap.size w w' := by
  go_enter Tryz.func81, Tryz.ntmps81
  go_wp2
  go_ret
  exact ⟨ret_int (by omega), (Below.refl _ _).alloc (Nat.le_refl _) _⟩
set_option maxHeartbeats 1000000 in
theorem orSz_small (o : M.Or) (n : Int) (w : World) (h1 : n ≤ 1048576) (h : ((o.deed.name.size + o.deed.page.size : Nat) : Int) ≤ n) :
    Calls Tryz.prog 55 #[orV o, .int .i64 n] w fun r w' => r = .returned (.int .i64 (n - ((o.deed.name.size + o.deed.page.size : Nat) : Int))) ∧ Below w.heap.size w w' := by
  have b0 := (Below.refl w.heap.size w).alloc (Nat.le_refl _) (.cells (orC o) 65)
  have h0 : 0 ≤ n - (o.deed.name.size : Int) - (o.deed.page.size : Int) := by omega
  go_enter Tryz.func55, Tryz.ntmps55
  go_wp2_with fail
  refine (szDeed_is o.deed n _ h1 (by omega)).mono ?_
  rintro r w1 ⟨rfl, b1⟩
  go_wp2
  go_ret
  exact ⟨ret_int (by omega), next b0 b1⟩
set_option maxHeartbeats 1000000 in
theorem orSz_big (o : M.Or) (n : Int) (w : World) (h0 : 0 ≤ n) (h1 : n ≤ 1048576) (hp : orIn maxLen o) (h : n < ((o.deed.name.size + o.deed.page.size : Nat) : Int)) :
    Calls Tryz.prog 55 #[orV o, .int .i64 n] w fun r w' => r = .returned (.int .i64 (-1)) ∧ Below w.heap.size w w' :=
  szOrder_big o n w h0 h1 hp.1 hp.2 (by omega)
set_option maxHeartbeats 1000000 in
theorem orEq_same (o : M.Or) (w : World) :
    Calls Tryz.prog 78 #[orV o, orV o] w fun r w' => r = .returned (.bool true) ∧ Below w.heap.size w w' := by
  have h1 : (o.client != o.client) = false := by simp
  have h2 : (o.seq != o.seq) = false := by simp
  have b0 := ((Below.refl w.heap.size w).alloc (Nat.le_refl _) (.cells (orC o) 51)).alloc (by simp) (.cells (orC o) 51)
  go_enter Tryz.func78, Tryz.ntmps78
  go_wp2_with fail
  refine (eqDeed_same o.deed _).mono ?_
  rintro r w1 ⟨rfl, b1⟩
  go_wp2
  go_ret
  exact ⟨rfl, next b0 b1⟩
end Go.Proofs.YtdoeiphnalbinaaGreat
namespace Go.Proofs.YtdoeiphnalbinaaGreat
open Go.RowKit
set_option maxRecDepth 20000
set_option maxHeartbeats 1000000 in
theorem enSz_small (e : M.En) (n : Int) (w : World) (h1 : n ≤ 1048576) (h : ((e.order.deed.name.size + e.order.deed.page.size : Nat) : Int) ≤ n) :
    Calls Tryz.prog 25 #[enV e, .int .i64 n] w fun r w' => r = .returned (.int .i64 (n - ((e.order.deed.name.size + e.order.deed.page.size : Nat) : Int))) ∧ Below w.heap.size w w' := by
  have b0 := (Below.refl w.heap.size w).alloc (Nat.le_refl _) (.cells (enC e) 67)
  have h0 : 0 ≤ n - ((e.order.deed.name.size + e.order.deed.page.size : Nat) : Int) := by omega
  go_enter Tryz.func25, Tryz.ntmps25
  go_wp2_with fail
  refine (orSz_small e.order n _ h1 h).mono ?_
  rintro r w1 ⟨rfl, b1⟩
  go_wp2
  go_ret
  exact ⟨rfl, next b0 b1⟩
set_option maxHeartbeats 1000000 in
theorem enSz_big (e : M.En) (n : Int) (w : World) (h0 : 0 ≤ n) (h1 : n ≤ 1048576) (hp : enIn maxLen e) (h : n < ((e.order.deed.name.size + e.order.deed.page.size : Nat) : Int)) :
    Calls Tryz.prog 25 #[enV e, .int .i64 n] w fun r w' => r = .returned (.int .i64 (-1)) ∧ Below w.heap.size w w' := by
  have b0 := (Below.refl w.heap.size w).alloc (Nat.le_refl _) (.cells (enC e) 67)
  go_enter Tryz.func25, Tryz.ntmps25
  go_wp2_with fail
  refine (orSz_big e.order n _ h0 h1 hp h).mono ?_
  rintro r w1 ⟨rfl, b1⟩
  go_wp2
  go_ret
  exact ⟨rfl, next b0 b1⟩
set_option maxHeartbeats 4000000 in
theorem enTo_any (e : M.En) (w : World) :
    Calls Tryz.prog 30 #[enV e] w fun r w' => r = .returned (enV e) ∧ Below w.heap.size w w' := by
  go_enter Tryz.func30, Tryz.ntmps30
  go_wp2_with fail
  refine (toOrder_at e.order _).mono ?_
  rintro r w1 ⟨rfl, rfl⟩
  go_wp2
  refine bodyPost_ret (v := enV e) (by simp [results, Tryz.results30, go_sem]) rfl ⟨rfl, ?_⟩
  repeat (first | exact Below.refl _ _ | refine Below.alloc ?_ (by simp <;> omega) _)
set_option maxHeartbeats 1000000 in
theorem enEq_same (e : M.En) (w : World) :
    Calls Tryz.prog 52 #[enV e, enV e] w fun r w' => r = .returned (.bool true) ∧ Below w.heap.size w w' := by
  have h1 : (e.reign != e.reign) = false := by simp
  have b0 := ((Below.refl w.heap.size w).alloc (Nat.le_refl _) (.cells (enC e) 53)).alloc (by simp) (.cells (enC e) 53)
  go_enter Tryz.func52, Tryz.ntmps52
  go_wp2_with fail
  refine (orEq_same e.order _).mono ?_
  rintro r w1 ⟨rfl, b1⟩
  go_wp2
  go_ret
  exact ⟨rfl, next b0 b1⟩
end Go.Proofs.YtdoeiphnalbinaaGreat
