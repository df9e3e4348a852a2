/- Proved, in parts: Proved: nothing; what a reply's cells are. Proved: the laws' own test tells two replies alike that are; the laws' helper counts a deed; they write nothing that was there. Proved: the model's and the program's tests of an order answer a plain Lean function; the laws' helpers that count and copy an order; nothing that was there is written. Condition: texts of at most what memory has. Proved: an operation whose run is told walks on with its value; no program is named here; no condition. Proved: the model's and the program's tests of an entry answer a plain Lean function; nothing that was there is written. Condition: texts of at most what memory has. Proved: where the laws' copy of an order leaves the world. No condition. Proved: the laws' own test tells an edition like itself; it writes nothing that was there. No condition. Proved: the laws' own test tells a deed like itself; it writes nothing that was there. No condition. Proved: the laws' helpers on one order (its size, its copy, its likeness) answer plain Lean functions; they write nothing that was there. Condition: texts of at most a million where the size is told. Proved: the laws' helpers on one entry (its size, its copy, its likeness) answer plain Lean functions; they write nothing that was there. Condition: texts of at most a million where the size is told. -/
import Derived.Test.YtblcgbgcccjpcaaPart01
import Derived.Test.YtblcgbgcccjpcaaPart06
import Derived.Test.YtblcgbgcccjpcaaPart08
import Derived.Test.YtblcgbgcccjpcaaPart07
import Derived.Test.YtblcgbgcccjpcaaPart03
namespace Go.Proofs.Ytblcgbgcccjpcaa
open Go.RowKit
abbrev rpA (c : Int) (p : ByteArray) : Array Value := #[.int .i64 c, .string p]
abbrev rpV (c : Int) (p : ByteArray) : Value := .agg (rpA c p)
abbrev noP : ByteArray := ⟨#[]⟩
end Go.Proofs.Ytblcgbgcccjpcaa
namespace Go.Proofs.Ytblcgbgcccjpcaa
open Go.RowKit
set_option maxRecDepth 20000

set_option maxHeartbeats 1000000 in
theorem szDeed_smallN (d : M.Dd) (n : Int) (w : World) (hn : n ≤ 1048576) (h : (d.name.size + d.page.size : Int) ≤ n) :
    Calls Try.prog 18 #[ddV d, .int .i64 n] w fun r w' => (∃ m : Nat, r = .returned (.int .i64 m)) ∧ Below w.heap.size w w' := by
  go_enter Try.func18, Try.ntmps18
  go_wp2
  go_ret
  exact ⟨⟨(n - d.name.size - d.page.size).toNat, ret_int (by omega)⟩, (Below.refl _ _).alloc (Nat.le_refl _) _⟩

set_option maxHeartbeats 1000000 in
theorem szDeed_bigN (d : M.Dd) (n : Int) (w : World) (h0 : 0 ≤ n) (hn : n ≤ 1048576) (hnm : d.name.size ≤ maxLen) (hp : d.page.size ≤ maxLen) (h : n < (d.name.size + d.page.size : Int)) :
    Calls Try.prog 18 #[ddV d, .int .i64 n] w fun r w' => r = .returned (.int .i64 (-1)) ∧ Below w.heap.size w w' := by
  unfold maxLen at hnm hp
  by_cases hs : n < (d.name.size : Int)
  · go_enter Try.func18, Try.ntmps18
    go_wp2
    go_ret
    exact ⟨rfl, (Below.refl _ _).alloc (Nat.le_refl _) _⟩
  · go_enter Try.func18, Try.ntmps18
    go_wp2
    go_ret
    exact ⟨rfl, (Below.refl _ _).alloc (Nat.le_refl _) _⟩
end Go.Proofs.Ytblcgbgcccjpcaa
namespace Go.Proofs.Ytblcgbgcccjpcaa
open Go.RowKit
set_option maxRecDepth 20000
theorem l6Client_any (n : Int) (w : World) : Calls Try.prog 20 #[.int .i64 n] w fun e w' => e = .returned (.bool (M.inI n 0 3)) ∧ w = w' := by
  go_enter Try.func20, Try.ntmps20
  go_wp2_with fail
  refine (in_i _ _ _ _).mono ?_
  rintro e w' ⟨rfl, rfl⟩
  go_wp2
  go_ret
  exact ⟨rfl, rfl⟩
theorem clientOk_any (n : Int) (w : World) : Calls Try.prog 23 #[.int .i64 n] w fun e w' => e = .returned (.bool (M.inI n 0 3)) ∧ w = w' := by
  by_cases h1 : 0 ≤ n
  · go_enter Try.func23, Try.ntmps23
    go_wp2
    go_ret
    exact ⟨by simp [M.inI, h1], rfl⟩
  · go_enter Try.func23, Try.ntmps23
    go_wp2
    go_ret
    exact ⟨by simp [M.inI]; omega, rfl⟩
theorem seqOk_any (n : Int) (w : World) : Calls Try.prog 24 #[.int .i64 n] w fun e w' => e = .returned (.bool (M.inI n 1 1000)) ∧ w = w' := by
  by_cases h1 : 1 ≤ n
  · go_enter Try.func24, Try.ntmps24
    go_wp2
    go_ret
    exact ⟨by simp [M.inI, h1], rfl⟩
  · go_enter Try.func24, Try.ntmps24
    go_wp2
    go_ret
    exact ⟨by simp [M.inI]; omega, rfl⟩

set_option maxHeartbeats 2000000 in
theorem specOrderOk (o : M.Or) (w : World) (hn : o.deed.name.size ≤ maxLen) (hp : o.deed.page.size ≤ maxLen) :
    Calls Try.prog 13 #[orV o] w fun r w' => r = .returned (.bool (M.orderOk o)) ∧ Below w.heap.size w w' := by
  have b0 := (Below.refl w.heap.size w).alloc (Nat.le_refl _) (.cells (orC o) 36)
  rcases h1 : M.inI o.client 0 3 with _ | _
  · have HE : Hid (M.orderOk o = false) := Lib.hid (by simp [M.orderOk, h1])
    go_enter Try.func13, Try.ntmps13
    go_wp2_with fail
    have hc := l6Client_any o.client (w.alloc (.cells (orC o) 36))
    rw [h1] at hc
    refine hc.mono ?_
    rintro e w' ⟨rfl, rfl⟩
    clear hc h1
    go_wp2
    go_ret
    exact ⟨by rw [HE.out]; rfl, b0⟩
  · rcases h2 : M.inI o.seq 1 1000 with _ | _
    · have HE : Hid (M.orderOk o = false) := Lib.hid (by simp [M.orderOk, h2])
      go_enter Try.func13, Try.ntmps13
      go_wp2_with fail
      have hc := l6Client_any o.client (w.alloc (.cells (orC o) 36))
      rw [h1] at hc
      refine hc.mono ?_
      rintro e w' ⟨rfl, rfl⟩
      clear hc h1
      go_wp2_with fail
      have hc := in_i o.seq 1 1000 (w.alloc (.cells (orC o) 36))
      rw [h2] at hc
      refine hc.mono ?_
      rintro e w' ⟨rfl, rfl⟩
      clear hc h2
      go_wp2
      go_ret
      exact ⟨by rw [HE.out]; rfl, b0⟩
    · have HE : Hid (M.orderOk o = M.deedOk o.deed) := Lib.hid (by simp [M.orderOk, h1, h2])
      go_enter Try.func13, Try.ntmps13
      go_wp2_with fail
      have hc := l6Client_any o.client (w.alloc (.cells (orC o) 36))
      rw [h1] at hc
      refine hc.mono ?_
      rintro e w' ⟨rfl, rfl⟩
      clear hc h1
      go_wp2_with fail
      have hc := in_i o.seq 1 1000 (w.alloc (.cells (orC o) 36))
      rw [h2] at hc
      refine hc.mono ?_
      rintro e w' ⟨rfl, rfl⟩
      clear hc h2
      go_wp2_with fail
      refine (specDeedOk o.deed _ hn hp).mono ?_
      rintro e w1 ⟨rfl, b1⟩
      go_wp2
      go_ret
      exact ⟨by rw [HE.out]; rfl, next b0 b1⟩

set_option maxHeartbeats 2000000 in
theorem implOrderOk (o : M.Or) (w : World) (hn : o.deed.name.size ≤ maxLen) (hp : o.deed.page.size ≤ maxLen) :
    Calls Try.prog 16 #[orV o] w fun r w' => r = .returned (.bool (M.orderOk o)) ∧ Below w.heap.size w w' := by
  have b0 := (Below.refl w.heap.size w).alloc (Nat.le_refl _) (.cells (orC o) 36)
  rcases h1 : M.inI o.client 0 3 with _ | _
  · have HE : Hid (M.orderOk o = false) := Lib.hid (by simp [M.orderOk, h1])
    go_enter Try.func16, Try.ntmps16
    go_wp2_with fail
    have hc := clientOk_any o.client (w.alloc (.cells (orC o) 36))
    rw [h1] at hc
    refine hc.mono ?_
    rintro e w' ⟨rfl, rfl⟩
    clear hc h1
    go_wp2
    go_ret
    exact ⟨by rw [HE.out]; rfl, b0⟩
  · rcases h2 : M.inI o.seq 1 1000 with _ | _
    · have HE : Hid (M.orderOk o = false) := Lib.hid (by simp [M.orderOk, h2])
      go_enter Try.func16, Try.ntmps16
      go_wp2_with fail
      have hc := clientOk_any o.client (w.alloc (.cells (orC o) 36))
      rw [h1] at hc
      refine hc.mono ?_
      rintro e w' ⟨rfl, rfl⟩
      clear hc h1
      go_wp2_with fail
      have hc := seqOk_any o.seq (w.alloc (.cells (orC o) 36))
      rw [h2] at hc
      refine hc.mono ?_
      rintro e w' ⟨rfl, rfl⟩
      clear hc h2
      go_wp2
      go_ret
      exact ⟨by rw [HE.out]; rfl, b0⟩
    · have HE : Hid (M.orderOk o = M.deedOk o.deed) := Lib.hid (by simp [M.orderOk, h1, h2])
      go_enter Try.func16, Try.ntmps16
      go_wp2_with fail
      have hc := clientOk_any o.client (w.alloc (.cells (orC o) 36))
      rw [h1] at hc
      refine hc.mono ?_
      rintro e w' ⟨rfl, rfl⟩
      clear hc h1
      go_wp2_with fail
      have hc := seqOk_any o.seq (w.alloc (.cells (orC o) 36))
      rw [h2] at hc
      refine hc.mono ?_
      rintro e w' ⟨rfl, rfl⟩
      clear hc h2
      go_wp2_with fail
      refine (implDeedOk o.deed _ hn hp).mono ?_
      rintro e w1 ⟨rfl, b1⟩
      go_wp2
      go_ret
      exact ⟨by rw [HE.out]; rfl, next b0 b1⟩

set_option maxHeartbeats 2000000 in
theorem szOrder_small (o : M.Or) (n : Int) (w : World) (hn : n ≤ 1048576) (h : (o.deed.name.size + o.deed.page.size : Int) ≤ n) :
    Calls Try.prog 11 #[orV o, .int .i64 n] w fun r w' => (∃ m : Nat, r = .returned (.int .i64 m)) ∧ Below w.heap.size w w' := by
  have b0 := (Below.refl w.heap.size w).alloc (Nat.le_refl _) (.cells (orC o) 27)
  go_enter Try.func11, Try.ntmps11
  go_wp2_with fail
  refine (szDeed_smallN o.deed n _ hn h).mono ?_
  rintro r w1 ⟨⟨m, rfl⟩, b1⟩
  go_wp2
  go_ret
  exact ⟨⟨m, rfl⟩, next b0 b1⟩
set_option maxHeartbeats 2000000 in
theorem szOrder_big (o : M.Or) (n : Int) (w : World) (h0 : 0 ≤ n) (hn : n ≤ 1048576) (hnm : o.deed.name.size ≤ maxLen) (hp : o.deed.page.size ≤ maxLen) (h : n < (o.deed.name.size + o.deed.page.size : Int)) :
    Calls Try.prog 11 #[orV o, .int .i64 n] w fun r w' => r = .returned (.int .i64 (-1)) ∧ Below w.heap.size w w' := by
  have b0 := (Below.refl w.heap.size w).alloc (Nat.le_refl _) (.cells (orC o) 27)
  go_enter Try.func11, Try.ntmps11
  go_wp2_with fail
  refine (szDeed_bigN o.deed n _ h0 hn hnm hp h).mono ?_
  rintro r w1 ⟨rfl, b1⟩
  go_wp2
  go_ret
  exact ⟨rfl, next b0 b1⟩

abbrev edC (e : M.Ed) : Array Value := #[.int .i64 e.ma, .int .i64 e.mi, .int .i64 e.pa]
/-- Where toDeed leaves the world. -/
abbrev ddMade (d : M.Dd) (w : World) : World := (((((w.alloc (.cells (ddC d) 25)).alloc (.cells (ddC d) 34)).alloc (.cells (ddC d) 34)).alloc (.cells (edC d.ed) 23)).alloc (.cells (edC d.ed) 32)).alloc (.cells (edC d.ed) 32)
set_option maxHeartbeats 1000000 in
theorem toDeed_at (d : M.Dd) (w : World) :
    Calls Try.prog 22 #[ddV d] w fun r w' => r = .returned (ddV d) ∧ w' = ddMade d w := by
  go_enter Try.func22, Try.ntmps22
  go_wp2_with fail
  refine (toEdition_at d.ed _).mono ?_
  rintro r w1 ⟨rfl, rfl⟩
  go_wp2
  exact bodyPost_ret (v := ddV d) (by simp [results, Try.results22, go_sem]) rfl ⟨rfl, rfl⟩
set_option maxHeartbeats 4000000 in
theorem toOrder_any (o : M.Or) (w : World) :
    Calls Try.prog 14 #[orV o] w fun r w' => r = .returned (orV o) ∧ Below w.heap.size w w' := by
  go_enter Try.func14, Try.ntmps14
  go_wp2_with fail
  refine (toDeed_at o.deed _).mono ?_
  rintro r w1 ⟨rfl, rfl⟩
  go_wp2
  refine bodyPost_ret (v := orV o) (by simp [results, Try.results14, go_sem]) rfl ⟨rfl, ?_⟩
  repeat (first | exact Below.refl _ _ | refine Below.alloc ?_ (by simp <;> omega) _)
end Go.Proofs.Ytblcgbgcccjpcaa
namespace Go.Proofs.Ytblcgbgcccjpcaa
open Go Go.RowKit
theorem wpList_run {P : Program} {ops : Array Oper} {Q : Exit → Act → World → Prop} {o : Oper} {rest : List Oper} {a : Act} {w : World} {v : Value} (hw : Region.wanted o (yielded ops a.tmps) = true) (hr : (execOp a.eval o).run P w = .ok (.value v) w) (h : wpList P ops Q rest (a.put o.dst v) w) : wpList P ops Q (o :: rest) a w :=
  wpList_step fun K hK => by
    rw [if_pos hw]
    show o.upon P a K Q ((execOp a.eval o).run P w)
    rw [hr]
    exact hK _ _ h
end Go.Proofs.Ytblcgbgcccjpcaa
namespace Go.Proofs.Ytblcgbgcccjpcaa
open Go.RowKit
set_option maxRecDepth 20000
namespace M
def or0 : Or := ⟨0, 0, zeroDd⟩
def entryOk (e : En) : Bool := inI e.reign 1 1000 && (orEq e.order or0 || orderOk e.order)
theorem or0_not {o : Or} (h : orEq o or0 = true) : orderOk o = false := by
  simp only [orEq, Bool.and_eq_true, beq_iff_eq, decide_eq_true_eq] at h
  have h1 : o.seq = 0 := h.2.1
  simp [orderOk, inI, h1]
end M
theorem l7Reign_any (n : Int) (w : World) : Calls Try.prog 12 #[.int .i64 n] w fun e w' => e = .returned (.bool (M.inI n 1 1000)) ∧ w = w' := by
  go_enter Try.func12, Try.ntmps12
  go_wp2_with fail
  refine (in_i _ _ _ _).mono ?_
  rintro e w' ⟨rfl, rfl⟩
  go_wp2
  go_ret
  exact ⟨rfl, rfl⟩
theorem reignOk_any (n : Int) (w : World) : Calls Try.prog 17 #[.int .i64 n] w fun e w' => e = .returned (.bool (M.inI n 1 1000)) ∧ w = w' := by
  by_cases h1 : 1 ≤ n
  · go_enter Try.func17, Try.ntmps17
    go_wp2
    go_ret
    exact ⟨by simp [M.inI, h1], rfl⟩
  · go_enter Try.func17, Try.ntmps17
    go_wp2
    go_ret
    exact ⟨by simp [M.inI]; omega, rfl⟩
/-- Which kind the program takes an entry for. -/
def kindI (e : M.En) : Int := if M.orEq e.order M.or0 then 0 else 1
set_option maxHeartbeats 4000000 in
theorem kindOf_any (e : M.En) (w : World) : Calls Try.prog 15 #[enV e] w fun r w' => r = .returned (.int .i64 (kindI e)) ∧ Below w.heap.size w w' := by
  have b0 := (Below.refl w.heap.size w).alloc (Nat.le_refl _) (.cells (enC e) 38)
  unfold kindI
  rcases hb : M.orEq e.order M.or0 with _ | _
  · go_enter Try.func15, Try.ntmps15
    go_wp2_with (refine wpList_run (by rfl) (oreql_read (a := e.order) (b := M.or0) rfl rfl rfl _) ?_; simp only [hb])
    go_ret
    exact ⟨rfl, b0⟩
  · go_enter Try.func15, Try.ntmps15
    go_wp2_with (refine wpList_run (by rfl) (oreql_read (a := e.order) (b := M.or0) rfl rfl rfl _) ?_; simp only [hb])
    go_ret
    exact ⟨rfl, b0⟩
set_option maxHeartbeats 4000000 in
theorem implEntryOk (e : M.En) (w : World) (hn : e.order.deed.name.size ≤ maxLen) (hp : e.order.deed.page.size ≤ maxLen) :
    Calls Try.prog 8 #[enV e] w fun r w' => r = .returned (.bool (M.entryOk e)) ∧ Below w.heap.size w w' := by
  have b0 := (Below.refl w.heap.size w).alloc (Nat.le_refl _) (.cells (enC e) 38)
  have h0 := holds_new w (enC e) 38
  rcases hb : M.orEq e.order M.or0 with _ | _
  · have hk : kindI e = 1 := by simp [kindI, hb]
    rcases ho : M.orderOk e.order with _ | _
    · have HE : Hid (M.entryOk e = false) := Lib.hid (by simp [M.entryOk, hb, ho])
      go_enter Try.func8, Try.ntmps8
      go_wp2_with fail
      have hc := kindOf_any e (w.alloc (.cells (enC e) 38))
      rw [hk] at hc
      refine hc.mono ?_
      rintro r w1 ⟨rfl, b1⟩
      replace h0 := h0.below b1
      replace b0 := next b0 b1
      obtain ⟨p0, p1, p2, p3, p4, p5, p6, p7, p8, p9⟩ := h0.ten
      clear hc b1 hk hb
      go_wp2_with fail
      have hc := implOrderOk e.order w1 hn hp
      rw [ho] at hc
      refine hc.mono ?_
      rintro r w2 ⟨rfl, b2⟩
      clear hc ho
      replace b0 := next b0 b2
      go_wp2
      go_ret
      exact ⟨(by first | (rw [HE.out]; done) | (rw [HE.out]; rfl)), b0⟩
    · have HE : Hid (M.entryOk e = M.inI e.reign 1 1000) := Lib.hid (by simp [M.entryOk, hb, ho])
      go_enter Try.func8, Try.ntmps8
      go_wp2_with fail
      have hc := kindOf_any e (w.alloc (.cells (enC e) 38))
      rw [hk] at hc
      refine hc.mono ?_
      rintro r w1 ⟨rfl, b1⟩
      replace h0 := h0.below b1
      replace b0 := next b0 b1
      obtain ⟨p0, p1, p2, p3, p4, p5, p6, p7, p8, p9⟩ := h0.ten
      clear hc b1 hk hb
      go_wp2_with fail
      have hc := implOrderOk e.order w1 hn hp
      rw [ho] at hc
      refine hc.mono ?_
      rintro r w2 ⟨rfl, b2⟩
      replace h0 := h0.below b2
      clear hc ho p0 p1 p2 p3 p4 p5 p6 p7 p8 p9
      obtain ⟨p0, -⟩ := h0.ten
      replace b0 := next b0 b2
      go_wp2_with fail
      refine (reignOk_any e.reign _).mono ?_
      rintro r w3 ⟨rfl, rfl⟩
      go_wp2
      go_ret
      exact ⟨(by first | (rw [HE.out]; done) | (rw [HE.out]; rfl)), b0⟩
  · have hk : kindI e = 0 := by simp [kindI, hb]
    have HE : Hid (M.entryOk e = M.inI e.reign 1 1000) := Lib.hid (by simp [M.entryOk, hb])
    go_enter Try.func8, Try.ntmps8
    go_wp2_with fail
    have hc := kindOf_any e (w.alloc (.cells (enC e) 38))
    rw [hk] at hc
    refine hc.mono ?_
    rintro r w1 ⟨rfl, b1⟩
    replace h0 := h0.below b1
    replace b0 := next b0 b1
    obtain ⟨p0, -⟩ := h0.ten
    clear hc b1 hk hb
    go_wp2_with fail
    refine (reignOk_any e.reign _).mono ?_
    rintro r w3 ⟨rfl, rfl⟩
    go_wp2
    go_ret
    exact ⟨(by first | (rw [HE.out]; done) | (rw [HE.out]; rfl)), b0⟩
set_option maxHeartbeats 4000000 in
theorem specEntryOk (e : M.En) (w : World) (hn : e.order.deed.name.size ≤ maxLen) (hp : e.order.deed.page.size ≤ maxLen) :
    Calls Try.prog 6 #[enV e] w fun r w' => r = .returned (.bool (M.entryOk e)) ∧ Below w.heap.size w w' := by
  have b0 := (Below.refl w.heap.size w).alloc (Nat.le_refl _) (.cells (enC e) 38)
  rcases hr : M.inI e.reign 1 1000 with _ | _
  · have HE : Hid (M.entryOk e = false) := Lib.hid (by simp [M.entryOk, hr])
    go_enter Try.func6, Try.ntmps6
    go_wp2_with fail
    have hc := l7Reign_any e.reign (w.alloc (.cells (enC e) 38))
    rw [hr] at hc
    refine hc.mono ?_
    rintro r w1 ⟨rfl, rfl⟩
    clear hc hr
    go_wp2
    go_ret
    exact ⟨(by first | (rw [HE.out]; done) | (rw [HE.out]; rfl)), b0⟩
  · rcases hb : M.orEq e.order M.or0 with _ | _
    · have HE : Hid (M.entryOk e = M.orderOk e.order) := Lib.hid (by simp [M.entryOk, hr, hb])
      go_enter Try.func6, Try.ntmps6
      go_wp2_with fail
      have hc := l7Reign_any e.reign (w.alloc (.cells (enC e) 38))
      rw [hr] at hc
      refine hc.mono ?_
      rintro r w1 ⟨rfl, rfl⟩
      clear hc hr
      go_wp2_with (refine wpList_run (by rfl) (oreql_read (a := e.order) (b := M.or0) rfl rfl rfl _) ?_; simp only [hb])
      clear hb
      refine (specOrderOk e.order _ hn hp).mono ?_
      rintro r w2 ⟨rfl, b2⟩
      replace b0 := next b0 b2
      go_wp2
      go_ret
      exact ⟨(by first | (rw [HE.out]; done) | (rw [HE.out]; rfl)), b0⟩
    · have HE : Hid (M.entryOk e = true) := Lib.hid (by simp [M.entryOk, hr, hb])
      go_enter Try.func6, Try.ntmps6
      go_wp2_with fail
      have hc := l7Reign_any e.reign (w.alloc (.cells (enC e) 38))
      rw [hr] at hc
      refine hc.mono ?_
      rintro r w1 ⟨rfl, rfl⟩
      clear hc hr
      go_wp2_with (refine wpList_run (by rfl) (oreql_read (a := e.order) (b := M.or0) rfl rfl rfl _) ?_; simp only [hb])
      go_ret
      exact ⟨(by first | (rw [HE.out]; done) | (rw [HE.out]; rfl)), b0⟩
end Go.Proofs.Ytblcgbgcccjpcaa
namespace Go.Proofs.Ytblcgbgcccjpcaa
open Go.RowKit
set_option maxRecDepth 20000
/-- Where toOrder leaves the world. -/
abbrev orMade (o : M.Or) (w : World) : World := ddMade o.deed (((w.alloc (.cells (orC o) 27)).alloc (.cells (orC o) 36)).alloc (.cells (orC o) 36))
set_option maxHeartbeats 4000000 in
theorem toOrder_at (o : M.Or) (w : World) :
    Calls Try.prog 14 #[orV o] w fun r w' => r = .returned (orV o) ∧ w' = orMade o w := by
  go_enter Try.func14, Try.ntmps14
  go_wp2_with fail
  refine (toDeed_at o.deed _).mono ?_
  rintro r w1 ⟨rfl, rfl⟩
  go_wp2
  exact bodyPost_ret (v := orV o) (by simp [results, Try.results14, go_sem]) rfl ⟨rfl, rfl⟩
end Go.Proofs.Ytblcgbgcccjpcaa
namespace Go.Proofs.Ytblcgbgcccjpcaa
open Go.RowKit
set_option maxRecDepth 20000

end Go.Proofs.Ytblcgbgcccjpcaa
namespace Go.Proofs.Ytblcgbgcccjpcaa
open Go.RowKit
set_option maxRecDepth 20000

end Go.Proofs.Ytblcgbgcccjpcaa
namespace Go.Proofs.Ytblcgbgcccjpcaa
open Go.RowKit
set_option maxRecDepth 20000
abbrev orL (o : M.Or) : List Value := [.int .i64 o.client, .int .i64 o.seq, .int .i64 o.deed.kind, .string o.deed.name, .int .i64 o.deed.ed.ma, .int .i64 o.deed.ed.mi, .int .i64 o.deed.ed.pa, .string o.deed.page, .int .i64 o.deed.who]
abbrev orA (o : M.Or) : Array Value := orC o
theorem orL_len (o : M.Or) : (orL o).length = 9 := rfl
abbrev orIn (n : Nat) (o : M.Or) : Prop := o.deed.name.size ≤ n ∧ o.deed.page.size ≤ n
set_option maxHeartbeats 1000000 in
theorem szDeed_is (d : M.Dd) (n : Int) (w : World) (hn : n ≤ 1048576) (h : (d.name.size + d.page.size : Int) ≤ n) :
    Calls Try.prog 18 #[ddV d, .int .i64 n] w fun r w' => r = .returned (.int .i64 (n - d.name.size - d.page.size)) ∧ Below w.heap.size w w' := by
  go_enter Try.func18, Try.ntmps18
  go_wp2
  go_ret
  exact ⟨ret_int (by omega), (Below.refl _ _).alloc (Nat.le_refl _) _⟩
set_option maxHeartbeats 1000000 in
theorem orSz_small (o : M.Or) (n : Int) (w : World) (h1 : n ≤ 1048576) (h : ((o.deed.name.size + o.deed.page.size : Nat) : Int) ≤ n) :
    Calls Try.prog 11 #[orV o, .int .i64 n] w fun r w' => r = .returned (.int .i64 (n - ((o.deed.name.size + o.deed.page.size : Nat) : Int))) ∧ Below w.heap.size w w' := by
  have b0 := (Below.refl w.heap.size w).alloc (Nat.le_refl _) (.cells (orC o) 27)
  have h0 : 0 ≤ n - (o.deed.name.size : Int) - (o.deed.page.size : Int) := by omega
  go_enter Try.func11, Try.ntmps11
  go_wp2_with fail
  refine (szDeed_is o.deed n _ h1 (by omega)).mono ?_
  rintro r w1 ⟨rfl, b1⟩
  go_wp2
  go_ret
  exact ⟨ret_int (by omega), next b0 b1⟩
set_option maxHeartbeats 1000000 in
theorem orSz_big (o : M.Or) (n : Int) (w : World) (h0 : 0 ≤ n) (h1 : n ≤ 1048576) (hp : orIn maxLen o) (h : n < ((o.deed.name.size + o.deed.page.size : Nat) : Int)) :
    Calls Try.prog 11 #[orV o, .int .i64 n] w fun r w' => r = .returned (.int .i64 (-1)) ∧ Below w.heap.size w w' :=
  szOrder_big o n w h0 h1 hp.1 hp.2 (by omega)
theorem orTo_any (o : M.Or) (w : World) :
    Calls Try.prog 14 #[orV o] w fun r w' => r = .returned (orV o) ∧ Below w.heap.size w w' := toOrder_any o w
end Go.Proofs.Ytblcgbgcccjpcaa
namespace Go.Proofs.Ytblcgbgcccjpcaa
open Go.RowKit
set_option maxRecDepth 20000
set_option maxHeartbeats 1000000 in
theorem enSz_small (e : M.En) (n : Int) (w : World) (h1 : n ≤ 1048576) (h : ((e.order.deed.name.size + e.order.deed.page.size : Nat) : Int) ≤ n) :
    Calls Try.prog 5 #[enV e, .int .i64 n] w fun r w' => r = .returned (.int .i64 (n - ((e.order.deed.name.size + e.order.deed.page.size : Nat) : Int))) ∧ Below w.heap.size w w' := by
  have b0 := (Below.refl w.heap.size w).alloc (Nat.le_refl _) (.cells (enC e) 29)
  have h0 : 0 ≤ n - ((e.order.deed.name.size + e.order.deed.page.size : Nat) : Int) := by omega
  go_enter Try.func5, Try.ntmps5
  go_wp2_with fail
  refine (orSz_small e.order n _ h1 h).mono ?_
  rintro r w1 ⟨rfl, b1⟩
  go_wp2
  go_ret
  exact ⟨rfl, next b0 b1⟩
set_option maxHeartbeats 1000000 in
theorem enSz_big (e : M.En) (n : Int) (w : World) (h0 : 0 ≤ n) (h1 : n ≤ 1048576) (hp : enIn maxLen e) (h : n < ((e.order.deed.name.size + e.order.deed.page.size : Nat) : Int)) :
    Calls Try.prog 5 #[enV e, .int .i64 n] w fun r w' => r = .returned (.int .i64 (-1)) ∧ Below w.heap.size w w' := by
  have b0 := (Below.refl w.heap.size w).alloc (Nat.le_refl _) (.cells (enC e) 29)
  go_enter Try.func5, Try.ntmps5
  go_wp2_with fail
  refine (orSz_big e.order n _ h0 h1 hp h).mono ?_
  rintro r w1 ⟨rfl, b1⟩
  go_wp2
  go_ret
  exact ⟨rfl, next b0 b1⟩
set_option maxHeartbeats 4000000 in
theorem enTo_any (e : M.En) (w : World) :
    Calls Try.prog 7 #[enV e] w fun r w' => r = .returned (enV e) ∧ Below w.heap.size w w' := by
  go_enter Try.func7, Try.ntmps7
  go_wp2_with fail
  refine (toOrder_at e.order _).mono ?_
  rintro r w1 ⟨rfl, rfl⟩
  go_wp2
  refine bodyPost_ret (v := enV e) (by simp [results, Try.results7, go_sem]) rfl ⟨rfl, ?_⟩
  repeat (first | exact Below.refl _ _ | refine Below.alloc ?_ (by simp <;> omega) _)
end Go.Proofs.Ytblcgbgcccjpcaa
