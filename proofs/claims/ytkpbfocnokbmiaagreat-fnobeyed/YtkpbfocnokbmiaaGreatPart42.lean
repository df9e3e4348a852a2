/- Proved, in parts: Proved: the laws' helpers on lists of records of the type Order (their size, their copy, their likeness) answer plain Lean functions; they write nothing that was there. Condition: lists of at most a million. Proved: the cells of a made list are those of a list of zero records; no program is named here; no condition. Proved: what the model draws for the laws on orders: a small book in new memory, orders with short texts; nothing that was there is written. No condition. Proved: what the law on an order that is given twice asks of the plain function; a drawn book can be read; no program is named here; no condition. Proved: the laws' own test tells a reply like itself; it writes nothing that was there. No condition. Proved: the laws' helpers on lists of records of the type Reply (their size, their copy, their likeness) answer plain Lean functions; they write nothing that was there. Condition: lists of at most a million. Proved: how many orders' answer stands in memory; a book of the program's own stays where a list apart from it grows. No program's function is named here; no condition. Proved: the program's AllOrdered answers a plain Lean function, its book and its replies in new memory; nothing that was there is written. Condition: texts and lists of at most a million. Proved: the model's AllOrdered answers the plain Lean function that the program's answers; nothing that was there is written. Condition: texts and lists of at most a million. Proved: the laws' helpers that write marks into a list of records of the type Order, and look whether they are there, do so and write nothing else. Condition: at most two million records. Proved: the laws' helpers that write marks into a list of records of the type Reply, and look whether they are there, do so and write nothing else. Condition: at most two million records. Proved: the contracts of AllOrdered at arguments that were copied; what many orders leave is small. Condition: texts and lists of at most a million. Proved: what the law on many orders asks of the plain function; no program is named here; no condition. Proved: the language's own test whether two orders are alike is whether they are alike in each field; no condition. Proved: how an entry stands in memory; no program is named here; no condition. Proved: an operation whose run is told walks on with its value; no program is named here; no condition. Proved: the model's and the program's tests of an entry answer a plain Lean function; nothing that was there is written. Condition: texts of at most what memory has. Proved: plain facts on what an entry does to a book, and many of them; no program is named here; no condition. Proved: where the laws' copy of an order leaves the world. No condition. Proved: the laws' helpers on one entry (its size, its copy, its likeness) answer plain Lean functions; they write nothing that was there. Condition: texts of at most a million where the size is told. Proved: the laws' helpers on lists of records of the type Entry (their size, their copy, their likeness) answer plain Lean functions; they write nothing that was there. Condition: lists of at most a million. Proved: how many entries' answer stands in memory. No program's function is named here; no condition. -/
import Derived.Test.YtkpbfocnokbmiaaGreatPart40
import Derived.Test.YtkpbfocnokbmiaaGreatPart19
import Derived.Test.YtkpbfocnokbmiaaGreatPart01
import Derived.Laws.MakeOwn
import Derived.Test.YtkpbfocnokbmiaaGreatPart38
import Derived.Test.YtkpbfocnokbmiaaGreatPart41
import Derived.Test.YtkpbfocnokbmiaaGreatPart24
import Derived.Test.YtkpbfocnokbmiaaGreatPart35
import Derived.Test.YtkpbfocnokbmiaaGreatPart14
import Derived.Test.YtkpbfocnokbmiaaGreatPart21
import Derived.Test.YtkpbfocnokbmiaaGreatPart16
import Derived.Calls
import Derived.KernelRfl
namespace Go.Proofs.YtkpbfocnokbmiaaGreat
open Go.RowKit
set_option maxRecDepth 20000
/-- v is a list of these in memory of one's own from block B on. -/
abbrev OrsOwn (B : Nat) (w : World) (v : Value) (l : List M.Or) : Prop := w.ownsRow B 33 9 v l.length (cellsOf orL l)
end Go.Proofs.YtkpbfocnokbmiaaGreat
namespace Go.Proofs.YtkpbfocnokbmiaaGreat
open Go Go.RowKit
theorem made_flat {α : Type} (enc : α → List Value) (x : α) (k : Nat) (hk : (enc x).length = k) (n : Nat) : (madeCells (enc x).toArray (n * k)).toList = cellsOf enc (List.replicate n x) := by
  have key : ∀ n, (List.range (n * k)).map (fun i => (enc x).toArray[i % (enc x).toArray.size]!) = cellsOf enc (List.replicate n x) := by
    intro n
    induction n with
    | zero => simp [cellsOf]
    | succ n ih =>
      rw [show (n + 1) * k = k + n * k by rw [Nat.succ_mul, Nat.add_comm], List.range_add, List.map_append, List.map_map, List.replicate_succ]
      show _ = enc x ++ cellsOf enc (List.replicate n x)
      congr 1
      · refine List.ext_getElem (by simp [hk]) fun i h1 h2 => ?_
        have hi : i < (enc x).length := h2
        rw [List.getElem_map, List.getElem_range]
        simp only [List.size_toArray]
        rw [Nat.mod_eq_of_lt hi, getElem!_pos _ i (by simpa using hi)]
        simp
      · rw [← ih]
        refine List.map_congr_left fun i _ => ?_
        simp [hk]
  have := key n
  simpa [madeCells] using this
end Go.Proofs.YtkpbfocnokbmiaaGreat
namespace Go.Proofs.YtkpbfocnokbmiaaGreat
open Go.RowKit
set_option maxRecDepth 20000
set_option linter.unusedVariables false
/-- A drawn book, right or not. -/
def BkTop (w w' : World) (v : Value) : Prop :=
  ∃ (A1 : Option Addr) (c1 : Nat) (A2 : Option Addr) (c2 : Nat) (rs : List Wr) (ls : List M.La), v = bkV A1 rs.length c1 A2 ls.length c2 ∧ SfOwn w.heap.size w' (.slice A1 rs.length c1) rs ∧ LasOwn w.heap.size w' (.slice A2 ls.length c2) ls ∧ (rs.length ≤ 6 ∧ WrsIn 64 rs) ∧ (ls.length ≤ 7 ∧ ∀ x ∈ ls, laIn 64 x)
theorem DrT.byRow {w0 : World} {g : Nat} {bx : List (Nat × Array Value)} {x y : World} {row : Option Nat} (h : DrT w0 g bx x) (hg : x.grownBy y row) (hr : ∀ k, row = some k → w0.heap.size ≤ k ∧ k ≠ g ∧ ∀ p ∈ bx, p.1 ≠ k) : DrT w0 g bx y := by
  refine ⟨h.low, h.below.grown hg h.below.size (fun k e => (hr k e).1), h.cur.kept hg (fun k e => ⟨fun e' => (hr k e).2.1 e'.symm, (hr k e).1⟩), fun p hp => ?_⟩
  obtain ⟨h1, h0, h2, h3⟩ := h.box p hp
  have hb : y.heap[p.1]? = x.heap[p.1]? := hg.block p.1 h2.1 (fun e => (hr p.1 e.symm).2.2 p hp rfl)
  exact ⟨h1, h0, ⟨Nat.lt_of_lt_of_le h2.1 hg.size, fun j v hj => (World.cell?_of_block (a := ⟨p.1, j, none⟩) hb).trans (h2.2 j v hj)⟩, fun j => (World.frozen?_of_block (a := ⟨p.1, j, none⟩) hb).trans (h3 j)⟩
theorem DrT.belowB {w0 : World} {g : Nat} {bx : List (Nat × Array Value)} {x y : World} (h : DrT w0 g bx x) (hb : Below x.heap.size x y) : DrT w0 g bx y := h.by (grown_of_below hb _) (h.cur.kept (grown_of_below hb none) (by simp))
/-- What is known while the list is drawn. -/
structure DrawAllOrderedNow (w : World) (g b0 b1 : Nat) (A1 : Option Addr) (c1 : Nat) (A2 : Option Addr) (c2 : Nat) (rs : List Wr) (ls : List M.La) (v : Value) (l : List M.Or) (x : World) : Prop where
  mem : DrT w g [(b1, (bkA A1 rs.length c1 A2 ls.length c2)), (w.heap.size, (bkA none 0 0 none 0 0))] x
  sf : SfOwn b0 x (.slice A1 rs.length c1) rs
  la : LasOwn b0 x (.slice A2 ls.length c2) ls
  own : OrsOwn (b1 + 1) x v l
  ok : ∀ y ∈ l, orIn 64 y
end Go.Proofs.YtkpbfocnokbmiaaGreat
namespace Go.Proofs.YtkpbfocnokbmiaaGreat
open Go.RowKit
set_option maxRecDepth 20000
namespace M
theorem ordered_bad {b : Bk} {o : Or} (h : bkOk b.1 b.2 = false ∨ orderOk o = false) : (ordered b o).2.1 = 7 := by
  unfold ordered
  split
  · rename_i hb
    rcases h with h | h
    · rw [h] at hb; cases hb
    · unfold ordI
      rw [if_neg (by simp [h])]
  · rfl
end M
/-- A book that can be read. -/
def BkR (x : World) (A1 : Option Addr) (rs : List Wr) (A2 : Option Addr) (ls : List M.La) : Prop := Wks x A1 rs ∧ Las x A2 ls
theorem BkR.below {x y : World} {A1 A2 : Option Addr} {rs : List Wr} {ls : List M.La} (h : BkR x A1 rs A2 ls) (hb : Below x.heap.size x y) : BkR y A1 rs A2 ls := ⟨h.1.below hb, h.2.below hb⟩
theorem BkR.alloc {x : World} {A1 A2 : Option Addr} {rs : List Wr} {ls : List M.La} (h : BkR x A1 rs A2 ls) (o : Obj) : BkR (x.alloc o) A1 rs A2 ls := h.below ((Below.refl _ _).alloc (Nat.le_refl _) o)
theorem BkTop.open {w x : World} {v : Value} (h : BkTop w x v) : ∃ A1 c1 A2 c2 rs ls, v = bkV A1 rs.length c1 A2 ls.length c2 ∧ BkR x A1 rs A2 ls ∧ (∀ r ∈ rs, r.ad = none → r.cap = 0) ∧ (A2 = none → c2 = 0) ∧ (rs.length ≤ 6 ∧ WrsIn 64 rs) ∧ (ls.length ≤ 7 ∧ ∀ y ∈ ls, laIn 64 y) := by
  obtain ⟨A1, c1, A2, c2, rs, ls, e, h1, h2, h3, h4⟩ := h
  exact ⟨A1, c1, A2, c2, rs, ls, e, ⟨h1.wks.1, las_of h2⟩, fun r hr k => (h1.2.1 r hr).nilc k, row_nilc h2, h3, h4⟩
/-- OrRet, to be read. -/
theorem OrRet.read {w y : World} {q : M.Bk × M.Rp} {e : Ending} (h : OrRet w q e y) : ∃ A1 c1 A2 c2 rs, e = .returned (.tuple #[bkV A1 rs.length c1 A2 q.1.2.length c2, rpV q.2.1 q.2.2]) ∧ BkR y A1 rs A2 q.1.2 ∧ rs.map Wr.wk = q.1.1 ∧ (∀ r ∈ rs, r.ad = none → r.cap = 0) ∧ (A2 = none → c2 = 0) ∧ Below w.heap.size w y := by
  obtain ⟨v1, v2, rs, e', h1, h2, h3, -, h5⟩ := h
  obtain ⟨A1, c1, rfl, -, -⟩ := h1.open
  obtain ⟨A2, c2, rfl, -, -⟩ := LasOwn.open h3
  exact ⟨A1, c1, A2, c2, rs, e', ⟨h1.wks.1, las_of h3⟩, h2, fun r hr k => (h1.2.1 r hr).nilc k, row_nilc h3, h5⟩
end Go.Proofs.YtkpbfocnokbmiaaGreat
namespace Go.Proofs.YtkpbfocnokbmiaaGreat
open Go.RowKit
set_option maxRecDepth 20000
abbrev rpL (c : M.Rp) : List Value := [.int .i64 c.1, .string c.2]
end Go.Proofs.YtkpbfocnokbmiaaGreat
namespace Go.Proofs.YtkpbfocnokbmiaaGreat
open Go.RowKit
set_option maxRecDepth 20000
/-- v is a list of these in memory of one's own from block B on. -/
abbrev RpsOwn (B : Nat) (w : World) (v : Value) (l : List M.Rp) : Prop := w.ownsRow B 39 2 v l.length (cellsOf rpL l)
end Go.Proofs.YtkpbfocnokbmiaaGreat
namespace Go.Proofs.YtkpbfocnokbmiaaGreat
open Go.RowKit
set_option maxRecDepth 20000
theorem RpsOwn.nil (B : Nat) (w : World) : RpsOwn B w (.slice none 0 0) [] := World.ownsRow_nil _ _ _ _
theorem BkSt.kept {w w' : World} {W B b : Nat} {rs : List Wr} {G : Nat} {v : Value} {ls : List M.La} {row : Option Nat} (h : BkSt w W B b rs G v ls) (hg : w.grownBy w' row) (hne : ∀ g, row = some g → ¬ bkS b G v g ∧ ∀ r ∈ rs, r.sl.ownBlock ≠ some g) : BkSt w' W B b rs G v ls :=
  { h with map := h.map.kept hg (fun e => (hne b e.symm).1 (.inl rfl)), own := ⟨fun r hr => World.ownsRow.kept (h.own.1 r hr) hg (own_two (fun z hz e => (hne z e).2 r hr hz)), h.own.2⟩, top := Nat.le_trans h.top hg.size, box := grown_holds h.box hg (fun e => (hne G e.symm).1 (.inr (.inl rfl))), loose := grown_loose h.loose h.box.1 hg (fun e => (hne G e.symm).1 (.inr (.inl rfl))), las := World.ownsRow.kept h.las hg (own_two (fun z hz e => (hne z e).1 (.inr (.inr hz)))) }
/-- What AllOrdered answers. -/
def AllRet (w : World) (q : M.Bk × List M.Rp) (e : Ending) (w' : World) : Prop :=
  ∃ v1 v2 v3 rs', e = .returned (.tuple #[.agg #[v1, v2], v3]) ∧ SfOwn w.heap.size w' v1 rs' ∧ rs'.map Wr.wk = q.1.1 ∧ LasOwn w.heap.size w' v2 q.1.2 ∧ (∀ g, v2.ownBlock = some g → ¬ blocksS v1 rs' g) ∧ RpsOwn w.heap.size w' v3 q.2 ∧ (∀ g, v3.ownBlock = some g → ¬ blocksB v1 v2 rs' g) ∧ Below w.heap.size w w'
/-- Between two orders of the program's loop. -/
structure AllSt (w0 : World) (W : Nat) (p : Nat) (b0 : M.Bk) (os : List M.Or) (G b : Nat) (j : Nat) (v7 : Value) (wr : World) : Prop where
  book : ∃ rs v, rs.map Wr.wk = (M.ordTo b0 (os.take j)).1.1 ∧ BkSt wr W (b + 1) b rs G v (M.ordTo b0 (os.take j)).1.2 ∧ ∀ k, v7.ownBlock = some k → ¬ bkS b G v k ∧ ∀ r ∈ rs, r.sl.ownBlock ≠ some k
  reps : RpsOwn W wr v7 (M.ordTo b0 (os.take j)).2
  below : Below w0.heap.size w0 wr
  box : Holds wr p (bkA none 0 0 none 0 0)
  loose : Loose wr p
/-- Between two orders of the model's loop. -/
structure AllSp (w0 : World) (B p0 p : Nat) (b0 : M.Bk) (os : List M.Or) (j : Nat) (v6 : Value) (wr : World) : Prop where
  book : ∃ A1 c1 A2 c2 rs, BB B wr p0 A1 c1 A2 c2 rs (M.ordTo b0 (os.take j)).1.2 ∧ rs.map Wr.wk = (M.ordTo b0 (os.take j)).1.1 ∧ (∀ g, (Value.slice A2 (M.ordTo b0 (os.take j)).1.2.length c2).ownBlock = some g → ¬ blocksS (.slice A1 rs.length c1) rs g) ∧ ∀ g, v6.ownBlock = some g → ¬ blocksB (.slice A1 rs.length c1) (.slice A2 (M.ordTo b0 (os.take j)).1.2.length c2) rs g
  reps : RpsOwn B wr v6 (M.ordTo b0 (os.take j)).2
  below : Below w0.heap.size w0 wr
  box : Holds wr p (bkA none 0 0 none 0 0)
  loose : Loose wr p
  loose0 : Loose wr p0
end Go.Proofs.YtkpbfocnokbmiaaGreat
namespace Go.Proofs.YtkpbfocnokbmiaaGreat
open Go.RowKit
set_option maxRecDepth 20000
end Go.Proofs.YtkpbfocnokbmiaaGreat
namespace Go.Proofs.YtkpbfocnokbmiaaGreat
open Go.RowKit
set_option maxRecDepth 20000
end Go.Proofs.YtkpbfocnokbmiaaGreat
namespace Go.Proofs.YtkpbfocnokbmiaaGreat
open Go.RowKit
set_option maxRecDepth 20000
end Go.Proofs.YtkpbfocnokbmiaaGreat
namespace Go.Proofs.YtkpbfocnokbmiaaGreat
open Go.RowKit
set_option maxRecDepth 20000
end Go.Proofs.YtkpbfocnokbmiaaGreat
namespace Go.Proofs.YtkpbfocnokbmiaaGreat
open Go.RowKit
set_option maxRecDepth 20000
namespace M
end M
/-- AllRet, its values opened. -/
theorem AllRet.open {w y : World} {q : M.Bk × List M.Rp} {r : Ending} (h : AllRet w q r y) : ∃ A1 c1 A2 c2 A3 c3 rs, r = .returned (.tuple #[bkV A1 rs.length c1 A2 q.1.2.length c2, .slice A3 q.2.length c3]) ∧ SfOwn w.heap.size y (.slice A1 rs.length c1) rs ∧ rs.map Wr.wk = q.1.1 ∧ LasOwn w.heap.size y (.slice A2 q.1.2.length c2) q.1.2 ∧ (∀ g, (Value.slice A2 q.1.2.length c2).ownBlock = some g → ¬ blocksS (.slice A1 rs.length c1) rs g) ∧ RpsOwn w.heap.size y (.slice A3 q.2.length c3) q.2 ∧ (∀ g, (Value.slice A3 q.2.length c3).ownBlock = some g → ¬ blocksB (.slice A1 rs.length c1) (.slice A2 q.1.2.length c2) rs g) ∧ Below w.heap.size w y := by
  obtain ⟨v1, v2, v3, rs, e, h1, h2, h3, h4, h5, h6, h7⟩ := h
  obtain ⟨A1, c1, rfl, -, -⟩ := h1.open
  obtain ⟨A2, c2, rfl, -, -⟩ := LasOwn.open h3
  obtain ⟨A3, c3, rfl⟩ := row_form h5
  exact ⟨A1, c1, A2, c2, A3, c3, rs, e, h1, h2, h3, h4, h5, h6, h7⟩
end Go.Proofs.YtkpbfocnokbmiaaGreat
namespace Go.Proofs.YtkpbfocnokbmiaaGreat
open Go.RowKit
set_option maxRecDepth 20000
namespace M
end M
/-- A book of one's own. -/
def BkO (B : Nat) (x : World) (A1 : Option Addr) (c1 : Nat) (rs : List Wr) (A2 : Option Addr) (c2 : Nat) (ls : List M.La) : Prop := SfOwn B x (.slice A1 rs.length c1) rs ∧ LasOwn B x (.slice A2 ls.length c2) ls
theorem BkO.below {B c1 c2 : Nat} {x y : World} {A1 A2 : Option Addr} {rs : List Wr} {ls : List M.La} (h : BkO B x A1 c1 rs A2 c2 ls) (hb : Below x.heap.size x y) : BkO B y A1 c1 rs A2 c2 ls := ⟨h.1.below hb, LasOwn.below h.2 hb⟩
theorem BkO.alloc {B c1 c2 : Nat} {x : World} {A1 A2 : Option Addr} {rs : List Wr} {ls : List M.La} (h : BkO B x A1 c1 rs A2 c2 ls) (o : Obj) : BkO B (x.alloc o) A1 c1 rs A2 c2 ls := h.below ((Below.refl _ _).alloc (Nat.le_refl _) o)
theorem BkO.read {B c1 c2 : Nat} {x : World} {A1 A2 : Option Addr} {rs : List Wr} {ls : List M.La} (h : BkO B x A1 c1 rs A2 c2 ls) : BkR x A1 rs A2 ls := ⟨h.1.wks.1, las_of h.2⟩
end Go.Proofs.YtkpbfocnokbmiaaGreat
namespace Go.Proofs.YtkpbfocnokbmiaaGreat
open Go.RowKit
set_option maxRecDepth 20000
namespace M
def orEq (a b : Or) : Bool := ((a.client == b.client) && ((a.seq == b.seq) && ((a.deed.kind == b.deed.kind) && (decide (a.deed.name = b.deed.name) && ((a.deed.ed.ma == b.deed.ed.ma) && ((a.deed.ed.mi == b.deed.ed.mi) && ((a.deed.ed.pa == b.deed.ed.pa) && (decide (a.deed.page = b.deed.page) && (a.deed.who == b.deed.who)))))))))
end M
set_option maxHeartbeats 8000000 in
theorem or_eql (a b : M.Or) (w : World) : (binOp .eql 33 (orV a) (orV b)).run Tryz.prog w = .ok (.bool (M.orEq a b)) w := by
  rcases h0 : (a.client == b.client) with _ | _
  · have e : M.orEq a b = false := by simp [M.orEq, h0]
    rw [e]
    simp [go_sem, h0]
  · rcases h1 : (a.seq == b.seq) with _ | _
    · have e : M.orEq a b = false := by simp [M.orEq, h1]
      rw [e]
      simp [go_sem, h0, h1]
    · rcases h2 : (a.deed.kind == b.deed.kind) with _ | _
      · have e : M.orEq a b = false := by simp [M.orEq, h2]
        rw [e]
        simp [go_sem, h0, h1, h2]
      · by_cases h3 : a.deed.name = b.deed.name
        · rcases h4 : (a.deed.ed.ma == b.deed.ed.ma) with _ | _
          · have e : M.orEq a b = false := by simp [M.orEq, h4]
            rw [e]
            simp [go_sem, h0, h1, h2, h3, h4]
          · rcases h5 : (a.deed.ed.mi == b.deed.ed.mi) with _ | _
            · have e : M.orEq a b = false := by simp [M.orEq, h5]
              rw [e]
              simp [go_sem, h0, h1, h2, h3, h4, h5]
            · rcases h6 : (a.deed.ed.pa == b.deed.ed.pa) with _ | _
              · have e : M.orEq a b = false := by simp [M.orEq, h6]
                rw [e]
                simp [go_sem, h0, h1, h2, h3, h4, h5, h6]
              · by_cases h7 : a.deed.page = b.deed.page
                · have e : M.orEq a b = (a.deed.who == b.deed.who) := by simp [M.orEq, h0, h1, h2, h3, h4, h5, h6, h7]
                  rcases h8 : (a.deed.who == b.deed.who) with _ | _ <;> rw [e, h8] <;> simp [go_sem, h0, h1, h2, h3, h4, h5, h6, h7, h8, Tryz.underlying33, Tryz.underlying31, Tryz.underlying29, Tryz.underlying2, Tryz.underlying9]
                · have e : M.orEq a b = false := by simp [M.orEq, h7]
                  have h7' := txt_other h7
                  rw [e]
                  simp [go_sem, h0, h1, h2, h3, h4, h5, h6, h7']
        · have e : M.orEq a b = false := by simp [M.orEq, h3]
          have h3' := txt_other h3
          rw [e]
          simp [go_sem, h0, h1, h2, h3']
theorem oreql_read {A : Act} {o : Oper} {x y : Operand} {a b : M.Or} (ho : o.op = .binOp .eql 33 x y 33) (hx : A.eval x = orV a) (hy : A.eval y = orV b) (w : World) :
    (execOp A.eval o).run Tryz.prog w = .ok (.value (.bool (M.orEq a b))) w := by
  unfold execOp
  rw [ho]
  have hg := fun (op : BinOp) (x y : Operand) (xs ys : Array Value) (w : World) => run_eqGuard_agg (P := Tryz.prog) w op 33 x y xs ys (by kernel_rfl)
  have he := fun w => or_eql a b w
  simp only [orV] at he hx hy
  simp only [hx, hy, Sem.run_bind, hg, he, Result.andThen_ok, Sem.run_pure]
end Go.Proofs.YtkpbfocnokbmiaaGreat
namespace Go.Proofs.YtkpbfocnokbmiaaGreat
open Go.RowKit
namespace M
structure En where
  reign : Int
  order : Or
end M
abbrev enC (e : M.En) : Array Value := #[.int .i64 e.reign, .int .i64 e.order.client, .int .i64 e.order.seq, .int .i64 e.order.deed.kind, .string e.order.deed.name, .int .i64 e.order.deed.ed.ma, .int .i64 e.order.deed.ed.mi, .int .i64 e.order.deed.ed.pa, .string e.order.deed.page, .int .i64 e.order.deed.who]
abbrev enV (e : M.En) : Value := .agg (enC e)
abbrev enL (e : M.En) : List Value := [.int .i64 e.reign, .int .i64 e.order.client, .int .i64 e.order.seq, .int .i64 e.order.deed.kind, .string e.order.deed.name, .int .i64 e.order.deed.ed.ma, .int .i64 e.order.deed.ed.mi, .int .i64 e.order.deed.ed.pa, .string e.order.deed.page, .int .i64 e.order.deed.who]
theorem enL_len (e : M.En) : (enL e).length = 10 := rfl
abbrev enIn (n : Nat) (e : M.En) : Prop := e.order.deed.name.size ≤ n ∧ e.order.deed.page.size ≤ n
theorem Holds.ten {w : World} {g : Nat} {a0 a1 a2 a3 a4 a5 a6 a7 a8 a9 : Value} (h : Holds w g #[a0, a1, a2, a3, a4, a5, a6, a7, a8, a9]) : w.cell? ⟨g, 0, none⟩ = some a0 ∧ w.cell? ⟨g, 1, none⟩ = some a1 ∧ w.cell? ⟨g, 2, none⟩ = some a2 ∧ w.cell? ⟨g, 3, none⟩ = some a3 ∧ w.cell? ⟨g, 4, none⟩ = some a4 ∧ w.cell? ⟨g, 5, none⟩ = some a5 ∧ w.cell? ⟨g, 6, none⟩ = some a6 ∧ w.cell? ⟨g, 7, none⟩ = some a7 ∧ w.cell? ⟨g, 8, none⟩ = some a8 ∧ w.cell? ⟨g, 9, none⟩ = some a9 :=
  ⟨h.2 0 _ rfl, h.2 1 _ rfl, h.2 2 _ rfl, h.2 3 _ rfl, h.2 4 _ rfl, h.2 5 _ rfl, h.2 6 _ rfl, h.2 7 _ rfl, h.2 8 _ rfl, h.2 9 _ rfl⟩
end Go.Proofs.YtkpbfocnokbmiaaGreat
namespace Go.Proofs.YtkpbfocnokbmiaaGreat
open Go Go.RowKit
theorem wpList_run {P : Program} {ops : Array Oper} {Q : Exit → Act → World → Prop} {o : Oper} {rest : List Oper} {a : Act} {w : World} {v : Value} (hw : Region.wanted o (yielded ops a.tmps) = true) (hr : (execOp a.eval o).run P w = .ok (.value v) w) (h : wpList P ops Q rest (a.put o.dst v) w) : wpList P ops Q (o :: rest) a w :=
  wpList_step fun K hK => by
    rw [if_pos hw]
    show o.upon P a K Q ((execOp a.eval o).run P w)
    rw [hr]
    exact hK _ _ h
end Go.Proofs.YtkpbfocnokbmiaaGreat
namespace Go.Proofs.YtkpbfocnokbmiaaGreat
open Go.RowKit
set_option maxRecDepth 20000
namespace M
def or0 : Or := ⟨0, 0, zeroDd⟩
def entryOk (e : En) : Bool := inI e.reign 1 1000 && (orEq e.order or0 || orderOk e.order)
end M
theorem l7Reign_any (n : Int) (w : World) : Calls Tryz.prog 34 #[.int .i64 n] w fun e w' => e = .returned (.bool (M.inI n 1 1000)) ∧ w = w' := by
  go_enter Tryz.func34, Tryz.ntmps34
  go_wp2_with fail
  refine (in_i _ _ _ _).mono ?_
  rintro e w' ⟨rfl, rfl⟩
  go_wp2
  go_ret
  exact ⟨rfl, rfl⟩
theorem reignOk_any (n : Int) (w : World) : Calls Tryz.prog 33 #[.int .i64 n] w fun e w' => e = .returned (.bool (M.inI n 1 1000)) ∧ w = w' := by
  by_cases h1 : 1 ≤ n
  · go_enter Tryz.func33, Tryz.ntmps33
    go_wp2
    go_ret
    exact ⟨by simp [M.inI, h1], rfl⟩
  · go_enter Tryz.func33, Tryz.ntmps33
    go_wp2
    go_ret
    exact ⟨by simp [M.inI]; omega, rfl⟩
/-- Which kind the program takes an entry for. -/
def kindI (e : M.En) : Int := if M.orEq e.order M.or0 then 0 else 1
set_option maxHeartbeats 4000000 in
theorem kindOf_any (e : M.En) (w : World) : Calls Tryz.prog 31 #[enV e] w fun r w' => r = .returned (.int .i64 (kindI e)) ∧ Below w.heap.size w w' := by
  have b0 := (Below.refl w.heap.size w).alloc (Nat.le_refl _) (.cells (enC e) 35)
  unfold kindI
  rcases hb : M.orEq e.order M.or0 with _ | _
  · go_enter Tryz.func31, Tryz.ntmps31
    go_wp2_with (refine wpList_run (by rfl) (oreql_read (a := e.order) (b := M.or0) rfl rfl rfl _) ?_; simp only [hb])
    go_ret
    exact ⟨rfl, b0⟩
  · go_enter Tryz.func31, Tryz.ntmps31
    go_wp2_with (refine wpList_run (by rfl) (oreql_read (a := e.order) (b := M.or0) rfl rfl rfl _) ?_; simp only [hb])
    go_ret
    exact ⟨rfl, b0⟩
set_option maxHeartbeats 4000000 in
theorem implEntryOk (e : M.En) (w : World) (hn : e.order.deed.name.size ≤ maxLen) (hp : e.order.deed.page.size ≤ maxLen) :
    Calls Tryz.prog 12 #[enV e] w fun r w' => r = .returned (.bool (M.entryOk e)) ∧ Below w.heap.size w w' := by
  have b0 := (Below.refl w.heap.size w).alloc (Nat.le_refl _) (.cells (enC e) 35)
  have h0 := holds_new w (enC e) 35
  rcases hb : M.orEq e.order M.or0 with _ | _
  · have hk : kindI e = 1 := by simp [kindI, hb]
    rcases ho : M.orderOk e.order with _ | _
    · have HE : Hid (M.entryOk e = false) := Lib.hid (by simp [M.entryOk, hb, ho])
      go_enter Tryz.func12, Tryz.ntmps12
      go_wp2_with fail
      have hc := kindOf_any e (w.alloc (.cells (enC e) 35))
      rw [hk] at hc
      refine hc.mono ?_
      rintro r w1 ⟨rfl, b1⟩
      replace h0 := h0.below b1
      replace b0 := next b0 b1
      obtain ⟨p0, p1, p2, p3, p4, p5, p6, p7, p8, p9⟩ := h0.ten
      clear hc b1 hk hb
      go_wp2_with fail
      have hc := implOrderOk e.order w1 hn hp
      rw [ho] at hc
      refine hc.mono ?_
      rintro r w2 ⟨rfl, b2⟩
      clear hc ho
      replace b0 := next b0 b2
      go_wp2
      go_ret
      exact ⟨(by first | (rw [HE.out]; done) | (rw [HE.out]; rfl)), b0⟩
    · have HE : Hid (M.entryOk e = M.inI e.reign 1 1000) := Lib.hid (by simp [M.entryOk, hb, ho])
      go_enter Tryz.func12, Tryz.ntmps12
      go_wp2_with fail
      have hc := kindOf_any e (w.alloc (.cells (enC e) 35))
      rw [hk] at hc
      refine hc.mono ?_
      rintro r w1 ⟨rfl, b1⟩
      replace h0 := h0.below b1
      replace b0 := next b0 b1
      obtain ⟨p0, p1, p2, p3, p4, p5, p6, p7, p8, p9⟩ := h0.ten
      clear hc b1 hk hb
      go_wp2_with fail
      have hc := implOrderOk e.order w1 hn hp
      rw [ho] at hc
      refine hc.mono ?_
      rintro r w2 ⟨rfl, b2⟩
      replace h0 := h0.below b2
      clear hc ho p0 p1 p2 p3 p4 p5 p6 p7 p8 p9
      obtain ⟨p0, -⟩ := h0.ten
      replace b0 := next b0 b2
      go_wp2_with fail
      refine (reignOk_any e.reign _).mono ?_
      rintro r w3 ⟨rfl, rfl⟩
      go_wp2
      go_ret
      exact ⟨(by first | (rw [HE.out]; done) | (rw [HE.out]; rfl)), b0⟩
  · have hk : kindI e = 0 := by simp [kindI, hb]
    have HE : Hid (M.entryOk e = M.inI e.reign 1 1000) := Lib.hid (by simp [M.entryOk, hb])
    go_enter Tryz.func12, Tryz.ntmps12
    go_wp2_with fail
    have hc := kindOf_any e (w.alloc (.cells (enC e) 35))
    rw [hk] at hc
    refine hc.mono ?_
    rintro r w1 ⟨rfl, b1⟩
    replace h0 := h0.below b1
    replace b0 := next b0 b1
    obtain ⟨p0, -⟩ := h0.ten
    clear hc b1 hk hb
    go_wp2_with fail
    refine (reignOk_any e.reign _).mono ?_
    rintro r w3 ⟨rfl, rfl⟩
    go_wp2
    go_ret
    exact ⟨(by first | (rw [HE.out]; done) | (rw [HE.out]; rfl)), b0⟩
set_option maxHeartbeats 4000000 in
theorem specEntryOk (e : M.En) (w : World) (hn : e.order.deed.name.size ≤ maxLen) (hp : e.order.deed.page.size ≤ maxLen) :
    Calls Tryz.prog 13 #[enV e] w fun r w' => r = .returned (.bool (M.entryOk e)) ∧ Below w.heap.size w w' := by
  have b0 := (Below.refl w.heap.size w).alloc (Nat.le_refl _) (.cells (enC e) 35)
  rcases hr : M.inI e.reign 1 1000 with _ | _
  · have HE : Hid (M.entryOk e = false) := Lib.hid (by simp [M.entryOk, hr])
    go_enter Tryz.func13, Tryz.ntmps13
    go_wp2_with fail
    have hc := l7Reign_any e.reign (w.alloc (.cells (enC e) 35))
    rw [hr] at hc
    refine hc.mono ?_
    rintro r w1 ⟨rfl, rfl⟩
    clear hc hr
    go_wp2
    go_ret
    exact ⟨(by first | (rw [HE.out]; done) | (rw [HE.out]; rfl)), b0⟩
  · rcases hb : M.orEq e.order M.or0 with _ | _
    · have HE : Hid (M.entryOk e = M.orderOk e.order) := Lib.hid (by simp [M.entryOk, hr, hb])
      go_enter Tryz.func13, Tryz.ntmps13
      go_wp2_with fail
      have hc := l7Reign_any e.reign (w.alloc (.cells (enC e) 35))
      rw [hr] at hc
      refine hc.mono ?_
      rintro r w1 ⟨rfl, rfl⟩
      clear hc hr
      go_wp2_with (refine wpList_run (by rfl) (oreql_read (a := e.order) (b := M.or0) rfl rfl rfl _) ?_; simp only [hb])
      clear hb
      refine (specOrderOk e.order _ hn hp).mono ?_
      rintro r w2 ⟨rfl, b2⟩
      replace b0 := next b0 b2
      go_wp2
      go_ret
      exact ⟨(by first | (rw [HE.out]; done) | (rw [HE.out]; rfl)), b0⟩
    · have HE : Hid (M.entryOk e = true) := Lib.hid (by simp [M.entryOk, hr, hb])
      go_enter Tryz.func13, Tryz.ntmps13
      go_wp2_with fail
      have hc := l7Reign_any e.reign (w.alloc (.cells (enC e) 35))
      rw [hr] at hc
      refine hc.mono ?_
      rintro r w1 ⟨rfl, rfl⟩
      clear hc hr
      go_wp2_with (refine wpList_run (by rfl) (oreql_read (a := e.order) (b := M.or0) rfl rfl rfl _) ?_; simp only [hb])
      go_ret
      exact ⟨(by first | (rw [HE.out]; done) | (rw [HE.out]; rfl)), b0⟩
end Go.Proofs.YtkpbfocnokbmiaaGreat
namespace Go.Proofs.YtkpbfocnokbmiaaGreat
open Go.RowKit
set_option maxRecDepth 20000
namespace M
def obeyI (b : Bk) (e : En) : Bk × Rp := if entryOk e then (if orEq e.order or0 then (b, (0, nilB)) else ordI b e.order) else (b, (7, nilB))
def obeyed (b : Bk) (e : En) : Bk × Rp := if bkOk b.1 b.2 then obeyI b e else (([], []), (7, nilB))
theorem obeyI_ok {b : Bk} {e : En} (hb : bkOk b.1 b.2 = true) : bkOk (obeyI b e).1.1 (obeyI b e).1.2 = true := by
  unfold obeyI
  split
  · split
    · exact hb
    · exact ordI_ok hb
  · exact hb
theorem obeyed_ok {b : Bk} {e : En} (hb : bkOk b.1 b.2 = true) : obeyed b e = obeyI b e := if_pos hb
/-- Many entries, one after the other. -/
def obeyTo (b : Bk) (l : List En) : Bk := l.foldl (fun b e => (obeyI b e).1) b
theorem obeyTo_ok {b : Bk} (hb : bkOk b.1 b.2 = true) (l : List En) : bkOk (obeyTo b l).1 (obeyTo b l).2 = true := by
  induction l generalizing b with
  | nil => exact hb
  | cons e l ih => exact ih (obeyI_ok (e := e) hb)
theorem obeyTo_succ (b : Bk) (l : List En) (j : Nat) (hj : j < l.length) : obeyTo b (l.take (j + 1)) = (obeyI (obeyTo b (l.take j)) l[j]).1 := by
  unfold obeyTo
  rw [List.take_succ_eq_append_getElem hj, List.foldl_append]
  rfl
theorem obeyTo_append (b : Bk) (l k : List En) : obeyTo b (l ++ k) = obeyTo (obeyTo b l) k := List.foldl_append
def obeyedAll (b : Bk) (l : List En) : Bk := if bkOk b.1 b.2 && decide (l.length ≤ 400) then obeyTo b l else ([], [])
theorem obey_ok (b : Bk) (e : En) : sfOk (obeyed b e).1.1 = true ∧ (obeyed b e).1.2.length ≤ 5 := by
  unfold obeyed
  split
  · rename_i h
    have h2 := obeyI_ok (e := e) h
    simp only [bkOk, Bool.and_eq_true] at h2
    have := lasOk_len h2.2
    exact ⟨h2.1, by omega⟩
  · exact ⟨rfl, Nat.zero_le _⟩
theorem obeyAll_ok (b : Bk) (l : List En) : sfOk (obeyedAll b l).1 = true ∧ (obeyedAll b l).2.length ≤ 5 := by
  unfold obeyedAll
  split
  · rename_i h
    have h2 := obeyTo_ok (by simp only [Bool.and_eq_true] at h; exact h.1) l
    simp only [bkOk, Bool.and_eq_true] at h2
    have := lasOk_len h2.2
    exact ⟨h2.1, by omega⟩
  · exact ⟨rfl, Nat.zero_le _⟩
end M
end Go.Proofs.YtkpbfocnokbmiaaGreat
namespace Go.Proofs.YtkpbfocnokbmiaaGreat
open Go.RowKit
set_option maxRecDepth 20000
end Go.Proofs.YtkpbfocnokbmiaaGreat
namespace Go.Proofs.YtkpbfocnokbmiaaGreat
open Go.RowKit
set_option maxRecDepth 20000
end Go.Proofs.YtkpbfocnokbmiaaGreat
namespace Go.Proofs.YtkpbfocnokbmiaaGreat
open Go.RowKit
set_option maxRecDepth 20000
abbrev Ens (w : World) (A : Option Addr) (l : List M.En) : Prop := Flat enL 10 w A l
theorem Ens_at {w : World} {A : Option Addr} {l : List M.En} {i : Nat} (h : Ens w A l) (hi : i < l.length) : ∃ b o, A = some ⟨b, o, none⟩ ∧ b < w.heap.size ∧
    w.cell? ⟨b, o + i * 10, none⟩ = some (.int .i64 l[i].reign) ∧ w.cell? ⟨b, o + i * 10 + 1, none⟩ = some (.int .i64 l[i].order.client) ∧ w.cell? ⟨b, o + i * 10 + 2, none⟩ = some (.int .i64 l[i].order.seq) ∧ w.cell? ⟨b, o + i * 10 + 3, none⟩ = some (.int .i64 l[i].order.deed.kind) ∧ w.cell? ⟨b, o + i * 10 + 4, none⟩ = some (.string l[i].order.deed.name) ∧ w.cell? ⟨b, o + i * 10 + 5, none⟩ = some (.int .i64 l[i].order.deed.ed.ma) ∧ w.cell? ⟨b, o + i * 10 + 6, none⟩ = some (.int .i64 l[i].order.deed.ed.mi) ∧ w.cell? ⟨b, o + i * 10 + 7, none⟩ = some (.int .i64 l[i].order.deed.ed.pa) ∧ w.cell? ⟨b, o + i * 10 + 8, none⟩ = some (.string l[i].order.deed.page) ∧ w.cell? ⟨b, o + i * 10 + 9, none⟩ = some (.int .i64 l[i].order.deed.who) := by
  obtain ⟨b, o, rfl, hb, h⟩ := h.at hi
  exact ⟨b, o, rfl, hb, h 0 _ rfl, h 1 _ rfl, h 2 _ rfl, h 3 _ rfl, h 4 _ rfl, h 5 _ rfl, h 6 _ rfl, h 7 _ rfl, h 8 _ rfl, h 9 _ rfl⟩
theorem infoEns : (Tryz.prog.info? 35).map (fun i => (i.zero, i.size, i.bytes)) = some (some (.agg #[.int .i64 0, .int .i64 0, .int .i64 0, .int .i64 0, .string ⟨#[]⟩, .int .i64 0, .int .i64 0, .int .i64 0, .string ⟨#[]⟩, .int .i64 0]), 10, 96) := by kernel_rfl
/-- v is a list of these in memory of one's own from block B on. -/
abbrev EnsOwn (B : Nat) (w : World) (v : Value) (l : List M.En) : Prop := w.ownsRow B 35 10 v l.length (cellsOf enL l)
end Go.Proofs.YtkpbfocnokbmiaaGreat
namespace Go.Proofs.YtkpbfocnokbmiaaGreat
open Go.RowKit
set_option maxRecDepth 20000
/-- What ObeyedAll answers. -/
def BkRet (w : World) (q : M.Bk) (e : Ending) (w' : World) : Prop :=
  ∃ v1 v2 rs', e = .returned (.agg #[v1, v2]) ∧ SfOwn w.heap.size w' v1 rs' ∧ rs'.map Wr.wk = q.1 ∧ LasOwn w.heap.size w' v2 q.2 ∧ (∀ g, v2.ownBlock = some g → ¬ blocksS v1 rs' g) ∧ Below w.heap.size w w'
/-- Between two entries of the program's loop. -/
structure EnSt (w0 : World) (W p : Nat) (b0 : M.Bk) (es : List M.En) (G b : Nat) (j : Nat) (wr : World) : Prop where
  book : ∃ rs v, rs.map Wr.wk = (M.obeyTo b0 (es.take j)).1 ∧ BkSt wr W (b + 1) b rs G v (M.obeyTo b0 (es.take j)).2
  below : Below w0.heap.size w0 wr
  box : Holds wr p (bkA none 0 0 none 0 0)
  loose : Loose wr p
/-- Between two entries of the model's loop. -/
structure EnSp (w0 : World) (B p0 p : Nat) (b0 : M.Bk) (es : List M.En) (j : Nat) (wr : World) : Prop where
  book : ∃ A1 c1 A2 c2 rs, BB B wr p0 A1 c1 A2 c2 rs (M.obeyTo b0 (es.take j)).2 ∧ rs.map Wr.wk = (M.obeyTo b0 (es.take j)).1 ∧ ∀ g, (Value.slice A2 (M.obeyTo b0 (es.take j)).2.length c2).ownBlock = some g → ¬ blocksS (.slice A1 rs.length c1) rs g
  below : Below w0.heap.size w0 wr
  box : Holds wr p (bkA none 0 0 none 0 0)
  loose : Loose wr p
  loose0 : Loose wr p0
end Go.Proofs.YtkpbfocnokbmiaaGreat
