/- Proved, in parts: Proved: the functions on deeds that tell whether one is right, of the program and of its model, answer one plain Lean function at every deed; they write nothing that was there. Condition: texts of at most maxLen bytes. Proved: plain facts on orders, lasts and books; no program is named here; no condition. Proved: the language's own test whether two deeds are alike is whether they are the same; no condition. Proved: the language's own test whether two orders are alike is whether they are alike in each field; no condition. Proved: how an entry stands in memory; no program is named here; no condition. -/
import Derived.Test.YtkpbfocnokbmiaaPart02
import Derived.Test.YtkpbfocnokbmiaaPart03
import Derived.Calls
import Derived.KernelRfl
namespace Go.Proofs.Ytkpbfocnokbmiaa
open Go.RowKit
set_option maxRecDepth 20000

abbrev ddC (d : M.Dd) : Array Value := #[.int .i64 d.kind, .string d.name, .int .i64 d.ed.ma, .int .i64 d.ed.mi, .int .i64 d.ed.pa, .string d.page, .int .i64 d.who]
abbrev ddV (d : M.Dd) : Value := .agg #[.int .i64 d.kind, .string d.name, .int .i64 d.ed.ma, .int .i64 d.ed.mi, .int .i64 d.ed.pa, .string d.page, .int .i64 d.who]
theorem l3Who_any (n : Int) (w : World) : Calls Try.prog 121 #[.int .i64 n] w fun e w' => e = .returned (.bool (M.inI n 0 3)) ∧ w = w' := by
  go_enter Try.func121, Try.ntmps121
  go_wp2_with fail
  refine (in_i _ _ _ _).mono ?_
  rintro e w' ⟨rfl, rfl⟩
  go_wp2
  go_ret
  exact ⟨rfl, rfl⟩
theorem whoOk_any (n : Int) (w : World) : Calls Try.prog 115 #[.int .i64 n] w fun e w' => e = .returned (.bool (M.inI n 0 3)) ∧ w = w' := by
  by_cases h1 : 0 ≤ n
  · go_enter Try.func115, Try.ntmps115
    go_wp2
    go_ret
    exact ⟨by simp [M.inI, h1], rfl⟩
  · go_enter Try.func115, Try.ntmps115
    go_wp2
    go_ret
    exact ⟨by simp [M.inI]; omega, rfl⟩

theorem no_text {s : ByteArray} (h : s.size = 0) : (s.toList == []) = true ∧ (s.toList != []) = false := by
  have e : s.toList = [] := by rw [ByteArray.toList_eq]; exact List.eq_nil_of_length_eq_zero (by simpa using h)
  rw [e]; exact ⟨rfl, rfl⟩
theorem some_text {s : ByteArray} (h : s.size ≠ 0) : (s.toList == []) = false ∧ (s.toList != []) = true := by
  have e : s.toList ≠ [] := by rw [ByteArray.toList_eq]; intro e; exact h (by have := congrArg List.length e; simpa using this)
  exact ⟨by simpa using e, by simpa using e⟩

set_option maxHeartbeats 1000000 in
theorem specDeedOk (d : M.Dd) (w : World) (hn : d.name.size ≤ maxLen) (hp : d.page.size ≤ maxLen) :
    Calls Try.prog 106 #[ddV d] w fun r w' => r = .returned (.bool (M.deedOk d)) ∧ Below w.heap.size w w' := by
  have b0 : Below w.heap.size w (w.alloc (.cells (ddC d) 33)) := (Below.refl _ _).alloc (Nat.le_refl _) _
  have h0 := holds_new w (ddC d) 33
  rcases h1 : M.nameOk d.name.data.toList with _ | _
  · have HE : Hid (M.deedOk d = false) := Lib.hid (by simp [M.deedOk, h1])
    clear h0
    go_enter Try.func106, Try.ntmps106
    go_wp2_with fail
    refine (specNameOk d.name _ hn).mono ?_
    rintro r w1 ⟨rfl, rfl⟩
    go_wp2
    go_ret
    exact ⟨ret_bool HE.out.symm, b0⟩
  · rcases h2 : M.edOk d.ed with _ | _
    · have HE : Hid (M.deedOk d = false) := Lib.hid (by simp [M.deedOk, h2])
      clear h0
      go_enter Try.func106, Try.ntmps106
      go_wp2_with fail
      refine (specNameOk d.name _ hn).mono ?_
      rintro r w1 ⟨rfl, rfl⟩
      go_wp2_with fail
      refine (specEditionOk d.ed _).mono ?_
      rintro r w1 ⟨rfl, b1⟩
      go_wp2
      go_ret
      exact ⟨ret_bool HE.out.symm, next b0 b1⟩
    · go_enter Try.func106, Try.ntmps106
      go_wp2_with fail
      refine (specNameOk d.name _ hn).mono ?_
      rintro r w1 ⟨rfl, rfl⟩
      go_wp2_with fail
      refine (specEditionOk d.ed _).mono ?_
      rintro r w1 ⟨rfl, b1⟩
      replace h0 := h0.below b1
      obtain ⟨p0, p1, p2, p3, p4, p5, p6⟩ := h0.seven
      have bb := next b0 b1
      clear b0 b1 h0
      rcases h3 : M.pageOk d.page.data.toList with _ | _
      · have HE : Hid (M.deedOk d = false) := Lib.hid (by simp [M.deedOk, h3])
        go_wp2_with fail
        refine (specPageOk d.page _ hp).mono ?_
        rintro r w2 ⟨rfl, rfl⟩
        go_wp2
        go_ret
        exact ⟨ret_bool HE.out.symm, bb⟩
      · rcases h4 : M.inI d.who 0 3 with _ | _
        · have HE : Hid (M.deedOk d = false) := Lib.hid (by simp [M.deedOk, h4])
          go_wp2_with fail
          refine (specPageOk d.page _ hp).mono ?_
          rintro r w2 ⟨rfl, rfl⟩
          go_wp2_with fail
          refine (l3Who_any d.who _).mono ?_
          rintro r w2 ⟨rfl, rfl⟩
          go_wp2
          go_ret
          exact ⟨ret_bool HE.out.symm, bb⟩
        · go_wp2_with fail
          refine (specPageOk d.page _ hp).mono ?_
          rintro r w2 ⟨rfl, rfl⟩
          go_wp2_with fail
          refine (l3Who_any d.who _).mono ?_
          rintro r w2 ⟨rfl, rfl⟩
          by_cases k2 : d.kind = 2
          · have HE : Hid (M.deedOk d = M.inI d.kind 2 4) := Lib.hid (by simp [M.deedOk, h1, h2, h3, h4, k2])
            have k2' : (d.kind != 2) = false := by simpa using k2
            have k1' : (d.kind == 1) = false := by simp [k2]
            have k5' : (d.kind == 5) = false := by simp [k2]
            have k6' : (d.kind == 6) = false := by simp [k2]
            clear k2
            go_wp2_with fail
            refine (in_i _ _ _ _).mono ?_
            rintro e w' ⟨rfl, rfl⟩
            go_wp2
            go_ret
            exact ⟨ret_bool HE.out.symm, bb⟩
          · have k2' : (d.kind != 2) = true := by simpa using k2
            by_cases hz : d.page.size = 0
            · have hz' := no_text hz
              by_cases k1 : d.kind = 1
              · have HE : Hid (M.deedOk d = decide (d.ed = M.zeroEd)) := Lib.hid (by simp [M.deedOk, h1, h2, h3, h4, k1, hz])
                have k1' : (d.kind == 1) = true := by simp [k1]
                clear k1 k2 hz
                go_wp2
                all_goals
                  go_ret
                  exact ⟨ret_bool (by rw [HE.out]; simp [M.ed_ext, M.zeroEd, *]), bb⟩
              · have k1' : (d.kind == 1) = false := by simpa using k1
                by_cases k5 : d.kind = 5
                · have HE : Hid (M.deedOk d = decide (d.who = 0)) := Lib.hid (by simp [M.deedOk, h1, h2, h3, h4, k5, hz])
                  have k5' : (d.kind == 5) = true := by simp [k5]
                  clear k1 k2 k5 hz
                  go_wp2
                  go_ret
                  exact ⟨ret_bool (by rw [HE.out]; rfl), bb⟩
                · have k5' : (d.kind == 5) = false := by simpa using k5
                  by_cases k6 : d.kind = 6
                  · have HE : Hid (M.deedOk d = (decide (d.ed.mi = 0) && decide (d.ed.pa = 0))) := Lib.hid (by simp [M.deedOk, h1, h2, h3, h4, k6, hz])
                    have k6' : (d.kind == 6) = true := by simp [k6]
                    clear k1 k2 k5 k6 hz
                    go_wp2
                    all_goals
                      go_ret
                      exact ⟨ret_bool (by rw [HE.out]; simp [*] <;> rfl), bb⟩
                  · have HE : Hid (M.deedOk d = M.inI d.kind 2 4) := Lib.hid (by simp [M.deedOk, h1, h2, h3, h4, k1, k5, k6, hz])
                    have k6' : (d.kind == 6) = false := by simpa using k6
                    clear k1 k2 k5 k6 hz
                    go_wp2_with fail
                    refine (in_i _ _ _ _).mono ?_
                    rintro e w' ⟨rfl, rfl⟩
                    go_wp2
                    go_ret
                    exact ⟨ret_bool HE.out.symm, bb⟩
            · have HE : Hid (M.deedOk d = false) := Lib.hid (by simp [M.deedOk, k2, hz])
              have hz' := some_text hz
              clear k2 hz
              go_wp2
              go_ret
              exact ⟨ret_bool HE.out.symm, bb⟩
end Go.Proofs.Ytkpbfocnokbmiaa
namespace Go.Proofs.Ytkpbfocnokbmiaa
open Go.RowKit
namespace M
structure Or where
  client : Int
  seq : Int
  deed : Dd
structure La where
  client : Int
  seq : Int
  code : Int
  page : ByteArray
def orderOk (o : Or) : Bool := inI o.client 0 3 && inI o.seq 1 1000 && deedOk o.deed
end M
abbrev orC (o : M.Or) : Array Value := #[.int .i64 o.client, .int .i64 o.seq, .int .i64 o.deed.kind, .string o.deed.name, .int .i64 o.deed.ed.ma, .int .i64 o.deed.ed.mi, .int .i64 o.deed.ed.pa, .string o.deed.page, .int .i64 o.deed.who]
abbrev orV (o : M.Or) : Value := .agg #[.int .i64 o.client, .int .i64 o.seq, .int .i64 o.deed.kind, .string o.deed.name, .int .i64 o.deed.ed.ma, .int .i64 o.deed.ed.mi, .int .i64 o.deed.ed.pa, .string o.deed.page, .int .i64 o.deed.who]
theorem Holds.nine {w : World} {g : Nat} {a0 a1 a2 a3 a4 a5 a6 a7 a8 : Value} (h : Holds w g #[a0, a1, a2, a3, a4, a5, a6, a7, a8]) : w.cell? ⟨g, 0, none⟩ = some a0 ∧ w.cell? ⟨g, 1, none⟩ = some a1 ∧ w.cell? ⟨g, 2, none⟩ = some a2 ∧ w.cell? ⟨g, 3, none⟩ = some a3 ∧ w.cell? ⟨g, 4, none⟩ = some a4 ∧ w.cell? ⟨g, 5, none⟩ = some a5 ∧ w.cell? ⟨g, 6, none⟩ = some a6 ∧ w.cell? ⟨g, 7, none⟩ = some a7 ∧ w.cell? ⟨g, 8, none⟩ = some a8 :=
  ⟨h.2 0 _ rfl, h.2 1 _ rfl, h.2 2 _ rfl, h.2 3 _ rfl, h.2 4 _ rfl, h.2 5 _ rfl, h.2 6 _ rfl, h.2 7 _ rfl, h.2 8 _ rfl⟩
end Go.Proofs.Ytkpbfocnokbmiaa
namespace Go.Proofs.Ytkpbfocnokbmiaa
open Go.RowKit
set_option maxRecDepth 20000

theorem dd_iff (a b : M.Dd) : a = b ↔ a.kind = b.kind ∧ a.name = b.name ∧ (a.ed.ma = b.ed.ma ∧ a.ed.mi = b.ed.mi ∧ a.ed.pa = b.ed.pa) ∧ a.page = b.page ∧ a.who = b.who := by
  cases a; cases b; simp [M.ed_ext]

theorem txt_other {a b : ByteArray} (h : ¬ a = b) : ¬ a.toList = b.toList := fun e => h (ba_ext (by rw [ByteArray.toList_eq, ByteArray.toList_eq] at e; exact e))

set_option maxHeartbeats 4000000 in
theorem dd_eql (a b : M.Dd) (w : World) : (binOp .eql 33 (ddV a) (ddV b)).run Try.prog w = .ok (.bool (decide (a = b))) w := by
  by_cases h0 : a.kind = b.kind
  · have h0' : (a.kind == b.kind) = true := by simpa using h0
    by_cases h1 : a.name = b.name
    · by_cases h2 : a.ed.ma = b.ed.ma
      · have h2' : (a.ed.ma == b.ed.ma) = true := by simpa using h2
        by_cases h3 : a.ed.mi = b.ed.mi
        · have h3' : (a.ed.mi == b.ed.mi) = true := by simpa using h3
          by_cases h4 : a.ed.pa = b.ed.pa
          · have h4' : (a.ed.pa == b.ed.pa) = true := by simpa using h4
            by_cases h5 : a.page = b.page
            · have e : decide (a = b) = (a.who == b.who) := by rw [Bool.eq_iff_iff]; simp [dd_iff, h0, h1, h2, h3, h4, h5]
              rcases h6' : (a.who == b.who) with _ | _ <;> rw [e, h6'] <;> simp [go_sem, h0', h1, h2', h3', h4', h5, h6', Try.underlying33, Try.underlying31, Try.underlying2, Try.underlying9]
            · have e : decide (a = b) = false := by simp [dd_iff, h5]
              have h5' := txt_other h5
              rw [e]
              simp [go_sem, h0', h1, h2', h3', h4', h5']
          · have h4' : (a.ed.pa == b.ed.pa) = false := by simpa using h4
            have e : decide (a = b) = false := by simp [dd_iff, h4]
            rw [e]
            simp [go_sem, h0', h1, h2', h3', h4']
        · have h3' : (a.ed.mi == b.ed.mi) = false := by simpa using h3
          have e : decide (a = b) = false := by simp [dd_iff, h3]
          rw [e]
          simp [go_sem, h0', h1, h2', h3']
      · have h2' : (a.ed.ma == b.ed.ma) = false := by simpa using h2
        have e : decide (a = b) = false := by simp [dd_iff, h2]
        rw [e]
        simp [go_sem, h0', h1, h2']
    · have e : decide (a = b) = false := by simp [dd_iff, h1]
      have h1' := txt_other h1
      rw [e]
      simp [go_sem, h0', h1']
  · have h0' : (a.kind == b.kind) = false := by simpa using h0
    have e : decide (a = b) = false := by simp [dd_iff, h0]
    rw [e]
    simp [go_sem, h0']
theorem deql_read {A : Act} {o : Oper} {x y : Operand} {a b : M.Dd} (ho : o.op = .binOp .eql 33 x y 33) (hx : A.eval x = ddV a) (hy : A.eval y = ddV b) (w : World) :
    (execOp A.eval o).run Try.prog w = .ok (.value (.bool (decide (a = b)))) w := by
  unfold execOp
  rw [ho]
  have hg := fun (op : BinOp) (x y : Operand) (xs ys : Array Value) (w : World) => run_eqGuard_agg (P := Try.prog) w op 33 x y xs ys (by kernel_rfl)
  have he := fun w => dd_eql a b w
  simp only [ddV] at he hx hy
  simp only [hx, hy, Sem.run_bind, hg, he, Result.andThen_ok, Sem.run_pure]
end Go.Proofs.Ytkpbfocnokbmiaa
namespace Go.Proofs.Ytkpbfocnokbmiaa
open Go.RowKit
set_option maxRecDepth 20000
namespace M
def orEq (a b : Or) : Bool := ((a.client == b.client) && ((a.seq == b.seq) && ((a.deed.kind == b.deed.kind) && (decide (a.deed.name = b.deed.name) && ((a.deed.ed.ma == b.deed.ed.ma) && ((a.deed.ed.mi == b.deed.ed.mi) && ((a.deed.ed.pa == b.deed.ed.pa) && (decide (a.deed.page = b.deed.page) && (a.deed.who == b.deed.who)))))))))
end M
set_option maxHeartbeats 8000000 in
theorem or_eql (a b : M.Or) (w : World) : (binOp .eql 35 (orV a) (orV b)).run Try.prog w = .ok (.bool (M.orEq a b)) w := by
  rcases h0 : (a.client == b.client) with _ | _
  · have e : M.orEq a b = false := by simp [M.orEq, h0]
    rw [e]
    simp [go_sem, h0]
  · rcases h1 : (a.seq == b.seq) with _ | _
    · have e : M.orEq a b = false := by simp [M.orEq, h1]
      rw [e]
      simp [go_sem, h0, h1]
    · rcases h2 : (a.deed.kind == b.deed.kind) with _ | _
      · have e : M.orEq a b = false := by simp [M.orEq, h2]
        rw [e]
        simp [go_sem, h0, h1, h2]
      · by_cases h3 : a.deed.name = b.deed.name
        · rcases h4 : (a.deed.ed.ma == b.deed.ed.ma) with _ | _
          · have e : M.orEq a b = false := by simp [M.orEq, h4]
            rw [e]
            simp [go_sem, h0, h1, h2, h3, h4]
          · rcases h5 : (a.deed.ed.mi == b.deed.ed.mi) with _ | _
            · have e : M.orEq a b = false := by simp [M.orEq, h5]
              rw [e]
              simp [go_sem, h0, h1, h2, h3, h4, h5]
            · rcases h6 : (a.deed.ed.pa == b.deed.ed.pa) with _ | _
              · have e : M.orEq a b = false := by simp [M.orEq, h6]
                rw [e]
                simp [go_sem, h0, h1, h2, h3, h4, h5, h6]
              · by_cases h7 : a.deed.page = b.deed.page
                · have e : M.orEq a b = (a.deed.who == b.deed.who) := by simp [M.orEq, h0, h1, h2, h3, h4, h5, h6, h7]
                  rcases h8 : (a.deed.who == b.deed.who) with _ | _ <;> rw [e, h8] <;> simp [go_sem, h0, h1, h2, h3, h4, h5, h6, h7, h8, Try.underlying35, Try.underlying33, Try.underlying31, Try.underlying2, Try.underlying9]
                · have e : M.orEq a b = false := by simp [M.orEq, h7]
                  have h7' := txt_other h7
                  rw [e]
                  simp [go_sem, h0, h1, h2, h3, h4, h5, h6, h7']
        · have e : M.orEq a b = false := by simp [M.orEq, h3]
          have h3' := txt_other h3
          rw [e]
          simp [go_sem, h0, h1, h2, h3']
theorem oreql_read {A : Act} {o : Oper} {x y : Operand} {a b : M.Or} (ho : o.op = .binOp .eql 35 x y 35) (hx : A.eval x = orV a) (hy : A.eval y = orV b) (w : World) :
    (execOp A.eval o).run Try.prog w = .ok (.value (.bool (M.orEq a b))) w := by
  unfold execOp
  rw [ho]
  have hg := fun (op : BinOp) (x y : Operand) (xs ys : Array Value) (w : World) => run_eqGuard_agg (P := Try.prog) w op 35 x y xs ys (by kernel_rfl)
  have he := fun w => or_eql a b w
  simp only [orV] at he hx hy
  simp only [hx, hy, Sem.run_bind, hg, he, Result.andThen_ok, Sem.run_pure]
end Go.Proofs.Ytkpbfocnokbmiaa
namespace Go.Proofs.Ytkpbfocnokbmiaa
open Go.RowKit
namespace M
structure En where
  reign : Int
  order : Or
end M
abbrev enC (e : M.En) : Array Value := #[.int .i64 e.reign, .int .i64 e.order.client, .int .i64 e.order.seq, .int .i64 e.order.deed.kind, .string e.order.deed.name, .int .i64 e.order.deed.ed.ma, .int .i64 e.order.deed.ed.mi, .int .i64 e.order.deed.ed.pa, .string e.order.deed.page, .int .i64 e.order.deed.who]
abbrev enV (e : M.En) : Value := .agg (enC e)
abbrev enL (e : M.En) : List Value := [.int .i64 e.reign, .int .i64 e.order.client, .int .i64 e.order.seq, .int .i64 e.order.deed.kind, .string e.order.deed.name, .int .i64 e.order.deed.ed.ma, .int .i64 e.order.deed.ed.mi, .int .i64 e.order.deed.ed.pa, .string e.order.deed.page, .int .i64 e.order.deed.who]
theorem enL_len (e : M.En) : (enL e).length = 10 := rfl
abbrev enIn (n : Nat) (e : M.En) : Prop := e.order.deed.name.size ≤ n ∧ e.order.deed.page.size ≤ n
theorem Holds.ten {w : World} {g : Nat} {a0 a1 a2 a3 a4 a5 a6 a7 a8 a9 : Value} (h : Holds w g #[a0, a1, a2, a3, a4, a5, a6, a7, a8, a9]) : w.cell? ⟨g, 0, none⟩ = some a0 ∧ w.cell? ⟨g, 1, none⟩ = some a1 ∧ w.cell? ⟨g, 2, none⟩ = some a2 ∧ w.cell? ⟨g, 3, none⟩ = some a3 ∧ w.cell? ⟨g, 4, none⟩ = some a4 ∧ w.cell? ⟨g, 5, none⟩ = some a5 ∧ w.cell? ⟨g, 6, none⟩ = some a6 ∧ w.cell? ⟨g, 7, none⟩ = some a7 ∧ w.cell? ⟨g, 8, none⟩ = some a8 ∧ w.cell? ⟨g, 9, none⟩ = some a9 :=
  ⟨h.2 0 _ rfl, h.2 1 _ rfl, h.2 2 _ rfl, h.2 3 _ rfl, h.2 4 _ rfl, h.2 5 _ rfl, h.2 6 _ rfl, h.2 7 _ rfl, h.2 8 _ rfl, h.2 9 _ rfl⟩
end Go.Proofs.Ytkpbfocnokbmiaa
