/- Proved, in parts: Proved: a statement that leaves its order open is walked operation by operation under one invariant that speaks of which operations have come up; no program is named here. Condition: each operation waits for earlier ones alone. Proved: the program's functions on editions that compare answer the same plain Lean functions as the model's, at every edition; they write nothing that was there. No condition. Proved: the laws' helpers on copies and works (their size, their copy, their likeness) answer plain Lean functions; they write nothing that was there. Proved: what a list of works in memory is, and that it stays behind calls and new blocks; no program's function is named here; no condition. Proved: a scope of code holds what it must where every jump to one of its labels keeps a relation and lowers a measure; no condition.
   A scope through which the run jumps to any of its labels: what holds at each label's jump, and a measure that every pass from a label lowers. Proved: NameOk and PageOk, of the program and of its model, answer one and the same Lean function at every text of at most maxLen bytes, and leave the world as it is. Proved: the functions on deeds that tell whether one is right, of the program and of its model, answer one plain Lean function at every deed; they write nothing that was there. Condition: texts of at most maxLen bytes. -/
import Derived.OrdersHeld
import Derived.Deep.RegionHeld3
import Derived.WalkKit
import Derived.Test.YtdoeiphnalbinaaPart01
import Derived.Deep.QuietTactic
import Derived.Deep.RegionWith
import Derived.BigQuiet
import Derived.KernelRfl
import Derived.Deep.DeepCutAuto
import Derived.Scope
import Derived.Lib.Hide
import Derived.WalkMore
import Derived.ScopeJumps
namespace Go.Proofs.Ytdoeiphnalbinaa
open Go

/-! ### One order for all: what only reads is taken in the order of the list; what calls or writes is the only one that may come up. -/

/-- May the operations be gone through in this order? (i, true): number i may be taken now, all others wait for it or are apart from it; (i, false): number i is the only one that may come up. -/
def okSeq (ops : Array Oper) : Array Bool → List (Nat × Bool) → Bool
  | listed, [] => (Region.ready .any ops listed).isEmpty
  | listed, (i, true) :: σ => Region.free .any ops listed i && (Region.ready .any ops listed).contains i && okSeq ops (listed.setIfInBounds i true) σ
  | listed, (i, false) :: σ => (Region.ready .any ops listed == [i]) && okSeq ops (listed.setIfInBounds i true) σ

def SeqH (P : Program) (ops : Array Oper) (Q : Exit → Act → World → Prop) (S : World → Prop) : List (Nat × Bool) → Act → World → Prop
  | [], a, w => Q .normal a w
  | (i, true) :: σ, a, w => ∃ o v, ops[i]? = some o ∧ YieldsIf P ops S o v a ∧ SeqH P ops Q S σ (a.put o.dst v) w
  | (i, false) :: σ, a, w => ∃ o, ops[i]? = some o ∧ ∀ K : Act → World → Prop, Shut (∀ a' w', S w' → (S w' → SeqH P ops Q S σ a' w') → K a' w') → if Region.wanted o (yielded ops a.tmps) = true then Oper.wp P o a w K Q else K (a.put o.dst undef) w

theorem seq_anyH {P : Program} {ops : Array Oper} {Q : Exit → Act → World → Prop} {S : World → Prop} (hns : Region.noSelect ops = true)
    (hQ : ∀ c a d v w, Q (.panic c) (Act.put a (some d) v) w → Q (.panic c) a w) :
    ∀ (σ : List (Nat × Bool)) (listed : Array Bool) (a : Act) (w : World) (fuel : Nat), okSeq ops listed σ = true → σ.length ≤ fuel → S w → SeqH P ops Q S σ a w → wpAnyH P .any ops Q S fuel listed a w
  | [], listed, a, w, fuel, hok, _, _, h => by
    refine wpAnyH_done ?_ h fuel
    simpa [okSeq] using hok
  | (i, true) :: σ, listed, a, w, 0, _, hl, _, _ => by simp at hl
  | (i, true) :: σ, listed, a, w, fuel + 1, hok, hl, hS, ⟨o, v, ho, hy, h⟩ => by
    simp only [okSeq, Bool.and_eq_true] at hok
    refine wpAnyH_take ho hns hok.1.1 hok.1.2 (fun c a w hq => by
      cases hd : o.dst with
      | none => rw [hd] at hq; exact hq
      | some d => rw [hd] at hq; exact hQ c a d v w hq) hy hS (seq_anyH hns hQ σ _ _ w fuel hok.2 (by simpa using hl) hS h)
  | (i, false) :: σ, listed, a, w, 0, _, hl, _, _ => by simp at hl
  | (i, false) :: σ, listed, a, w, fuel + 1, hok, hl, hS, ⟨o, ho, h⟩ => by
    simp only [okSeq, Bool.and_eq_true, beq_iff_eq] at hok
    refine wpAnyH_ready hok.1 (by simp) (AllReadyH.cons ho (fun K hK => ?_) AllReadyH.nil)
    exact h K (fun a' w' hS' hw => hK.out a' w' hS' (fun hS'' => seq_anyH hns hQ σ _ a' w' fuel hok.2 (by simpa using hl) hS'' (hw hS'')))

/-- THE LAW: a statement that draws its order, gone through in one order. -/
theorem wp_region_seq {P : Program} {id : Nat} {ops : Array Oper} {Q : Exit → Act → World → Prop} {a : Act} {w : World} (S : World → Prop) (σ : List (Nat × Bool))
    (hm : P.follows .mixedOrders = true) (hns : Region.noSelect ops = true) (hQ : ∀ c a d v w, Q (.panic c) (Act.put a (some d) v) w → Q (.panic c) a w)
    (hok : okSeq ops (Array.replicate ops.size false) σ = true) (hlen : σ.length ≤ ops.size) (hS : S w.drew) (h : S w.drew → SeqH P ops Q S σ a w.drew) : (Code.region id ops true).wp P Q a w :=
  wp_region_held hm (seq_anyH hns hQ σ _ a _ _ hok hlen hS (h hS))

theorem seq_end {P : Program} {ops : Array Oper} {Q : Exit → Act → World → Prop} {S : World → Prop} {a : Act} {w : World} (h : Q .normal a w) : SeqH P ops Q S [] a w := h
/-- An operation that is not wanted. -/
theorem seq_skip {P : Program} {ops : Array Oper} {Q : Exit → Act → World → Prop} {S : World → Prop} {i : Nat} {o : Oper} {σ : List (Nat × Bool)} {a : Act} {w : World} (ho : ops[i]? = some o)
    (hw : Region.wanted o (yielded ops a.tmps) = false) (h : SeqH P ops Q S σ (a.put o.dst undef) w) : SeqH P ops Q S ((i, true) :: σ) a w := ⟨o, undef, ho, .inr ⟨hw, rfl⟩, h⟩
/-- An operation that only reads. -/
theorem seq_read {P : Program} {ops : Array Oper} {Q : Exit → Act → World → Prop} {S : World → Prop} {i : Nat} {o : Oper} {σ : List (Nat × Bool)} {a : Act} {w : World} {v : Value} (ho : ops[i]? = some o)
    (hw : Region.wanted o (yielded ops a.tmps) = true) (hv : ∀ w, S w → (execOp a.eval o).run P w = .ok (.value v) w) (h : SeqH P ops Q S σ (a.put o.dst v) w) : SeqH P ops Q S ((i, true) :: σ) a w := ⟨o, v, ho, .inl ⟨hw, hv⟩, h⟩
theorem seq_reads {P : Program} {ops : Array Oper} {Q : Exit → Act → World → Prop} {S : World → Prop} {i : Nat} {o : Oper} {σ : List (Nat × Bool)} {a : Act} {w : World} (ho : ops[i]? = some o)
    (hw : Region.wanted o (yielded ops a.tmps) = true) (h : ∃ v, (∀ w, S w → (execOp a.eval o).run P w = .ok (.value v) w) ∧ SeqH P ops Q S σ (a.put o.dst v) w) : SeqH P ops Q S ((i, true) :: σ) a w :=
  h.elim fun _ h => seq_read ho hw h.1 h.2
/-- An operation that calls or writes. -/
theorem seq_call {P : Program} {ops : Array Oper} {Q : Exit → Act → World → Prop} {S : World → Prop} {i : Nat} {o : Oper} {σ : List (Nat × Bool)} {a : Act} {w : World} (ho : ops[i]? = some o)
    (hw : Region.wanted o (yielded ops a.tmps) = true) (h : ∀ K : Act → World → Prop, Shut (∀ a' w', S w' → (S w' → SeqH P ops Q S σ a' w') → K a' w') → Oper.wp P o a w K Q) : SeqH P ops Q S ((i, false) :: σ) a w :=
  ⟨o, ho, fun K hK => by rw [if_pos hw]; exact h K hK⟩
/-- One that is not wanted. -/
theorem seq_pass {P : Program} {ops : Array Oper} {Q : Exit → Act → World → Prop} {S : World → Prop} {i : Nat} {o : Oper} {σ : List (Nat × Bool)} {a : Act} {w : World} (ho : ops[i]? = some o)
    (hw : Region.wanted o (yielded ops a.tmps) = false) (hS : S w) (h : S w → SeqH P ops Q S σ (a.put o.dst undef) w) : SeqH P ops Q S ((i, false) :: σ) a w :=
  ⟨o, ho, fun K hK => by rw [if_neg (by rw [hw]; simp)]; exact hK.out _ _ hS h⟩
end Go.Proofs.Ytdoeiphnalbinaa
namespace Go.Proofs.Ytdoeiphnalbinaa
open Go.RowKit

/-- Block g holds e's three numbers. -/
def Three (w : World) (g : Nat) (e : M.Ed) : Prop :=
  w.cell? ⟨g, 0, none⟩ = some (.int .i64 e.ma) ∧ w.cell? ⟨g, 1, none⟩ = some (.int .i64 e.mi) ∧ w.cell? ⟨g, 2, none⟩ = some (.int .i64 e.pa)

theorem Three.lt {w : World} {g : Nat} {e : M.Ed} (h : Three w g e) : g < w.heap.size := World.block_lt_of_cell? w _ h.1
theorem Three.below {w w' : World} {g : Nat} {e : M.Ed} (h : Three w g e) (hb : Below w.heap.size w w') : Three w' g e :=
  ⟨(hb.cell (p := ⟨g, 0, none⟩) h.lt).trans h.1, (hb.cell (p := ⟨g, 1, none⟩) h.lt).trans h.2.1, (hb.cell (p := ⟨g, 2, none⟩) h.lt).trans h.2.2⟩
theorem Three.alloc {w : World} {g : Nat} {e : M.Ed} (h : Three w g e) (o : Obj) : Three (w.alloc o) g e := by
  obtain ⟨h0, h1, h2⟩ := h
  have hl := World.block_lt_of_cell? w _ h0
  refine ⟨?_, ?_, ?_⟩
  · rw [World.cell?_alloc_lt (a := ⟨g, 0, none⟩) (h := hl)]; exact h0
  · rw [World.cell?_alloc_lt (a := ⟨g, 1, none⟩) (h := hl)]; exact h1
  · rw [World.cell?_alloc_lt (a := ⟨g, 2, none⟩) (h := hl)]; exact h2

/-- Block g has room for three numbers. -/
def Room (w : World) (g : Nat) : Prop :=
  ((w.cell? ⟨g, 0, none⟩).isSome = true ∧ (w.cell? ⟨g, 1, none⟩).isSome = true ∧ (w.cell? ⟨g, 2, none⟩).isSome = true) ∧ w.frozen? ⟨g, 0, none⟩ = false ∧ w.frozen? ⟨g, 1, none⟩ = false ∧ w.frozen? ⟨g, 2, none⟩ = false

theorem Room.put {w : World} {g : Nat} (h : Room w g) (e : M.Ed) : Three (((w.setCell ⟨g, 0, none⟩ (.int .i64 e.ma)).setCell ⟨g, 1, none⟩ (.int .i64 e.mi)).setCell ⟨g, 2, none⟩ (.int .i64 e.pa)) g e ∧ Room (((w.setCell ⟨g, 0, none⟩ (.int .i64 e.ma)).setCell ⟨g, 1, none⟩ (.int .i64 e.mi)).setCell ⟨g, 2, none⟩ (.int .i64 e.pa)) g := by
  obtain ⟨⟨h0, h1, h2⟩, h3, h4, h5⟩ := h
  have hT : Three (((w.setCell ⟨g, 0, none⟩ (.int .i64 e.ma)).setCell ⟨g, 1, none⟩ (.int .i64 e.mi)).setCell ⟨g, 2, none⟩ (.int .i64 e.pa)) g e := by
    refine ⟨?_, ?_, ?_⟩ <;> simp [go_sem, h0, h1, h2]
  refine ⟨hT, ⟨by rw [hT.1]; rfl, by rw [hT.2.1]; rfl, by rw [hT.2.2]; rfl⟩, ?_, ?_, ?_⟩ <;> simp [World.frozen?_setCell, h3, h4, h5]
end Go.Proofs.Ytdoeiphnalbinaa
namespace Go.Proofs.Ytdoeiphnalbinaa
open Go.RowKit

abbrev cpL (c : M.Cp) : List Value := [.int .i64 c.ed.ma, .int .i64 c.ed.mi, .int .i64 c.ed.pa, .string c.page, .bool c.hidden]
abbrev cpV (c : M.Cp) : Value := .agg #[.int .i64 c.ed.ma, .int .i64 c.ed.mi, .int .i64 c.ed.pa, .string c.page, .bool c.hidden]
theorem cpL_len (c : M.Cp) : (cpL c).length = 5 := rfl
abbrev Cps (w : World) (A : Option Addr) (l : List M.Cp) : Prop := Flat cpL 5 w A l

theorem Cps_at {w : World} {A : Option Addr} {l : List M.Cp} {i : Nat} (h : Cps w A l) (hi : i < l.length) : ∃ b o, A = some ⟨b, o, none⟩ ∧ b < w.heap.size ∧
    w.cell? ⟨b, o + i * 5, none⟩ = some (.int .i64 l[i].ed.ma) ∧ w.cell? ⟨b, o + i * 5 + 1, none⟩ = some (.int .i64 l[i].ed.mi) ∧ w.cell? ⟨b, o + i * 5 + 2, none⟩ = some (.int .i64 l[i].ed.pa) ∧ w.cell? ⟨b, o + i * 5 + 3, none⟩ = some (.string l[i].page) ∧ w.cell? ⟨b, o + i * 5 + 4, none⟩ = some (.bool l[i].hidden) := by
  obtain ⟨b, o, rfl, hb, h⟩ := h.at hi
  exact ⟨b, o, rfl, hb, h 0 _ rfl, h 1 _ rfl, h 2 _ rfl, h 3 _ rfl, h 4 _ rfl⟩

theorem addr_add (b o n : Nat) : (⟨b, o, none⟩ : Addr).add n = ⟨b, o + n, none⟩ := by
  unfold Addr.add; split
  · subst_vars; rfl
  · rfl

set_option maxHeartbeats 400000 in
theorem szCopy_small (c : M.Cp) (n : Int) (w : World) (h1 : n ≤ 1048576) (h : (c.page.size : Int) ≤ n) :
    Calls Try.prog 53 #[cpV c, .int .i64 n] w fun r w' => r = .returned (.int .i64 (n - c.page.size)) ∧ Below w.heap.size w w' := by
  go_enter Try.func53, Try.ntmps53
  go_wp2
  go_ret
  exact ⟨rfl, (Below.refl _ _).alloc (Nat.le_refl _) _⟩
set_option maxHeartbeats 400000 in
theorem szCopy_big (c : M.Cp) (n : Int) (w : World) (h0 : 0 ≤ n) (hp : c.page.size ≤ maxLen) (h : n < (c.page.size : Int)) :
    Calls Try.prog 53 #[cpV c, .int .i64 n] w fun r w' => r = .returned (.int .i64 (-1)) ∧ Below w.heap.size w w' := by
  unfold maxLen at hp
  go_enter Try.func53, Try.ntmps53
  go_wp2
  go_ret
  exact ⟨rfl, (Below.refl _ _).alloc (Nat.le_refl _) _⟩

set_option maxHeartbeats 1000000 in
theorem szCopyS_small (A : Option Addr) (l : List M.Cp) (cap : Nat) (n : Int) (w : World) (h1 : n ≤ 1048576) (hl : Cps w A l) (h : (l.length + M.szPages l : Int) ≤ n) :
    Calls Try.prog 45 #[.slice A l.length cap, .int .i64 n] w fun r w' => r = .returned (.int .i64 (n - l.length - M.szPages l)) ∧ Below w.heap.size w w' := by
  go_enter Try.func45, Try.ntmps45
  go_wp2
  go_loopw [1, 5] (fun x i wr => ∃ j : Nat, i = .int .i64 j ∧ j ≤ l.length ∧ x = .int .i64 (n - l.length - M.szPages (l.take j)) ∧ Cps wr A l ∧ Below w.heap.size w wr) (fun _ i _ => l.length - (intOf i).toNat)
  case atStart => exact ⟨0, rfl, Nat.zero_le _, by simp [M.szPages], hl, Below.refl _ _⟩
  case round =>
    obtain ⟨j, rfl, hj, rfl, hl', hb⟩ := hrel
    have hle := M.szPages_take_le l j
    by_cases hlt : j < l.length
    · have hs := M.szPages_take l j hlt
      have hle' := M.szPages_take_le l (j + 1)
      have HS := Lib.hid hs
      have hp : (l[j].page.size : Int) ≤ n - l.length - M.szPages (l.take j) := by omega
      have HP := Lib.hid hp
      clear hs hp
      obtain ⟨b, o, rfl, hbl, c0, c1, c2, c3, c4⟩ := Cps_at hl' hlt
      go_wp2_with fail
      refine (szCopy_small l[j] _ _ (by omega) HP.out).mono ?_
      rintro r w1 ⟨rfl, b1⟩
      have h0 : 0 ≤ n - (l.length : Int) - (M.szPages (l.take j) : Int) - (l[j].page.size : Int) := by have := HP.out; omega
      go_wp2
      go_roundw
      case rel => exact ⟨j + 1, by go_num, by omega, by rw [HS.out]; go_num, hl'.below b1, next hb b1⟩
      case measure => simp [intOf]; omega
    · have hj' : j = l.length := by omega
      subst hj'
      go_wp2
      go_ret
      exact ⟨ret_int (by rw [List.take_length]), hb⟩

set_option maxHeartbeats 1000000 in
theorem szCopyS_big (A : Option Addr) (l : List M.Cp) (cap : Nat) (n : Int) (w : World) (h0 : 0 ≤ n) (h1 : n ≤ 1048576) (hl : Cps w A l) (hlen : l.length ≤ maxLen) (hp : ∀ c ∈ l, c.page.size ≤ maxLen) (h : n < (l.length + M.szPages l : Int)) :
    Calls Try.prog 45 #[.slice A l.length cap, .int .i64 n] w fun r w' => r = .returned (.int .i64 (-1)) ∧ Below w.heap.size w w' := by
  unfold maxLen at hlen
  by_cases hshort : n < l.length
  · go_enter Try.func45, Try.ntmps45
    go_wp2
    go_ret
    exact ⟨rfl, Below.refl _ _⟩
  · go_enter Try.func45, Try.ntmps45
    go_wp2
    go_loopw [1, 5] (fun x i wr => ∃ j : Nat, i = .int .i64 j ∧ j ≤ l.length ∧ (M.szPages (l.take j) : Int) ≤ n - l.length ∧ x = .int .i64 (n - l.length - M.szPages (l.take j)) ∧ Cps wr A l ∧ Below w.heap.size w wr) (fun _ i _ => l.length - (intOf i).toNat)
    case atStart => exact ⟨0, rfl, Nat.zero_le _, by simp [M.szPages]; omega, by simp [M.szPages], hl, Below.refl _ _⟩
    case round =>
      obtain ⟨j, rfl, hj, hle, rfl, hl', hb⟩ := hrel
      by_cases hlt : j < l.length
      · have HS := Lib.hid (M.szPages_take l j hlt)
        have hpj := hp l[j] (List.getElem_mem hlt)
        obtain ⟨b, o, rfl, hbl, c0, c1, c2, c3, c4⟩ := Cps_at hl' hlt
        by_cases hfit : (l[j].page.size : Int) ≤ n - l.length - M.szPages (l.take j)
        · have HP := Lib.hid hfit
          clear hfit hpj
          go_wp2_with fail
          refine (szCopy_small l[j] _ _ (by omega) HP.out).mono ?_
          rintro r w1 ⟨rfl, b1⟩
          have h0 : 0 ≤ n - (l.length : Int) - (M.szPages (l.take j) : Int) - (l[j].page.size : Int) := by have := HP.out; omega
          go_wp2
          go_roundw
          case rel => exact ⟨j + 1, by go_num, by omega, by rw [HS.out]; simp; omega, by rw [HS.out]; go_num, hl'.below b1, next hb b1⟩
          case measure => simp [intOf]; omega
        · have HP : Hid (n - l.length - M.szPages (l.take j) < (l[j].page.size : Int)) := Lib.hid (by omega)
          clear hfit
          go_wp2_with fail
          refine (szCopy_big l[j] _ _ (by omega) hpj HP.out).mono ?_
          rintro r w1 ⟨rfl, b1⟩
          go_wp2
          go_ret
          exact ⟨rfl, next hb b1⟩
      · have hj' : j = l.length := by omega
        subst hj'
        rw [List.take_length] at hle
        omega

abbrev wkL (name : ByteArray) (owner : Int) (A : Option Addr) (n c : Nat) : Array Value := #[.string name, .int .i64 owner, .slice A n c]
abbrev wkV (name : ByteArray) (owner : Int) (A : Option Addr) (n c : Nat) : Value := .agg (wkL name owner A n c)

set_option maxHeartbeats 1000000 in
theorem szWork_small (name : ByteArray) (owner : Int) (A : Option Addr) (l : List M.Cp) (cap : Nat) (n : Int) (w : World) (h1 : n ≤ 1048576) (hl : Cps w A l) (h : (name.size + (l.length + M.szPages l) : Int) ≤ n) :
    Calls Try.prog 35 #[wkV name owner A l.length cap, .int .i64 n] w fun r w' => r = .returned (.int .i64 (n - name.size - l.length - M.szPages l)) ∧ Below w.heap.size w w' := by
  have b0 : Below w.heap.size w (w.alloc (.cells (wkL name owner A l.length cap) 89)) := (Below.refl _ _).alloc (Nat.le_refl _) _
  go_enter Try.func35, Try.ntmps35
  go_wp2_with fail
  refine (szCopyS_small A l cap _ _ (by omega) (hl.alloc _) (by omega)).mono ?_
  rintro r w1 ⟨rfl, b1⟩
  have h0 : 0 ≤ n - (name.size : Int) - (l.length : Int) - (M.szPages l : Int) := by omega
  go_wp2
  go_ret
  exact ⟨rfl, next b0 b1⟩
set_option maxHeartbeats 1000000 in
theorem szWork_big (name : ByteArray) (owner : Int) (A : Option Addr) (l : List M.Cp) (cap : Nat) (n : Int) (w : World) (h0 : 0 ≤ n) (h1 : n ≤ 1048576) (hl : Cps w A l) (hn : name.size ≤ maxLen) (hlen : l.length ≤ maxLen) (hp : ∀ c ∈ l, c.page.size ≤ maxLen) (h : n < (name.size + (l.length + M.szPages l) : Int)) :
    Calls Try.prog 35 #[wkV name owner A l.length cap, .int .i64 n] w fun r w' => r = .returned (.int .i64 (-1)) ∧ Below w.heap.size w w' := by
  have b0 : Below w.heap.size w (w.alloc (.cells (wkL name owner A l.length cap) 89)) := (Below.refl _ _).alloc (Nat.le_refl _) _
  have hn' := hn
  unfold maxLen at hn'
  by_cases hshort : n < (name.size : Int)
  · go_enter Try.func35, Try.ntmps35
    go_wp2
    go_ret
    exact ⟨rfl, b0⟩
  · go_enter Try.func35, Try.ntmps35
    go_wp2_with fail
    refine (szCopyS_big A l cap _ _ (by omega) (by omega) (hl.alloc _) hlen hp (by omega)).mono ?_
    rintro r w1 ⟨rfl, b1⟩
    go_wp2
    go_ret
    exact ⟨rfl, next b0 b1⟩
end Go.Proofs.Ytdoeiphnalbinaa
namespace Go.Proofs.Ytdoeiphnalbinaa
open Go.RowKit

/-- A work as it stands in memory: its copies lie at ad. -/
structure Wr where
  name : ByteArray
  owner : Int
  ad : Option Addr
  cap : Nat
  cps : List M.Cp
def Wr.wk (r : Wr) : M.Wk := ⟨r.name, r.owner, r.cps⟩
abbrev wrL (r : Wr) : List Value := [.string r.name, .int .i64 r.owner, .slice r.ad r.cps.length r.cap]
theorem wrL_len (r : Wr) : (wrL r).length = 3 := rfl
instance : Inhabited Wr := ⟨⟨⟨#[]⟩, 0, none, 0, []⟩⟩

/-- A slice at A holds the works of l. -/
def Wks (w : World) (A : Option Addr) (l : List Wr) : Prop := Flat wrL 3 w A l ∧ ∀ r ∈ l, Cps w r.ad r.cps
theorem Wks.below {w w' : World} {A : Option Addr} {l : List Wr} (h : Wks w A l) (hb : Below w.heap.size w w') : Wks w' A l := ⟨h.1.below hb, fun r hr => (h.2 r hr).below hb⟩
theorem Wks.alloc {w : World} {A : Option Addr} {l : List Wr} (h : Wks w A l) (o : Obj) : Wks (w.alloc o) A l := h.below ((Below.refl _ _).alloc (Nat.le_refl _) o)
theorem Wks.drew {w : World} {A : Option Addr} {l : List Wr} (h : Wks w A l) : Wks w.drew A l := h
theorem Wks_at {w : World} {A : Option Addr} {l : List Wr} {i : Nat} (h : Wks w A l) (hi : i < l.length) : ∃ b o, A = some ⟨b, o, none⟩ ∧ b < w.heap.size ∧
    w.cell? ⟨b, o + i * 3, none⟩ = some (.string l[i].name) ∧ w.cell? ⟨b, o + i * 3 + 1, none⟩ = some (.int .i64 l[i].owner) ∧ w.cell? ⟨b, o + i * 3 + 2, none⟩ = some (.slice l[i].ad l[i].cps.length l[i].cap) ∧ Cps w l[i].ad l[i].cps := by
  obtain ⟨b, o, rfl, hb, h'⟩ := h.1.at hi
  exact ⟨b, o, rfl, hb, h' 0 _ rfl, h' 1 _ rfl, h' 2 _ rfl, h.2 _ (List.getElem_mem hi)⟩
theorem Wks.nil (w : World) (A : Option Addr) : Wks w A [] := ⟨.inl rfl, by simp⟩

/-- How much the bounds of the laws count of a work. -/
def szWr (r : Wr) : Nat := r.name.size + (r.cps.length + M.szPages r.cps)
def szWrs : List Wr → Nat
  | [] => 0
  | r :: l => szWr r + szWrs l
theorem szWrs_take (l : List Wr) (i : Nat) (h : i < l.length) : szWrs (l.take (i + 1)) = szWrs (l.take i) + szWr l[i] := by
  induction l generalizing i with
  | nil => simp at h
  | cons c l ih =>
    cases i with
    | zero => simp [szWrs]
    | succ i => simp [szWrs, ih i (by simpa using h)]; omega
theorem szWrs_take_le (l : List Wr) (i : Nat) : szWrs (l.take i) ≤ szWrs l := by
  induction l generalizing i with
  | nil => simp [szWrs]
  | cons c l ih =>
    cases i with
    | zero => simp [szWrs]
    | succ i => have := ih i; simp [szWrs]; omega
theorem szWrs_mem (l : List Wr) (c : Wr) (h : c ∈ l) : szWr c ≤ szWrs l := by
  induction l with
  | nil => simp at h
  | cons d l ih =>
    rcases List.mem_cons.1 h with rfl | h
    · simp [szWrs]
    · have := ih h; simp [szWrs]; omega
/-- Each text and list of l is such that Go can hold it. -/
def WrsIn (n : Nat) (l : List Wr) : Prop := ∀ r ∈ l, r.name.size ≤ n ∧ r.cps.length ≤ n ∧ ∀ c ∈ r.cps, c.page.size ≤ n
theorem WrsIn.of_sz {l : List Wr} {n : Nat} (h : szWrs l ≤ n) : WrsIn n l := fun r hr => by
  have := szWrs_mem l r hr
  unfold szWr at this
  exact ⟨by omega, by omega, fun c hc => by have := M.szPages_mem _ c hc; omega⟩
theorem WrsIn.mono {l : List Wr} {n m : Nat} (h : WrsIn n l) (hm : n ≤ m) : WrsIn m l := fun r hr =>
  ⟨Nat.le_trans (h r hr).1 hm, Nat.le_trans (h r hr).2.1 hm, fun c hc => Nat.le_trans ((h r hr).2.2 c hc) hm⟩
/-! ### The order of names. -/
namespace M
def nameLt (a b : ByteArray) : Bool := Op.bytesLess a.toList b.toList
def risesN : List Wk → Bool
  | a :: b :: l => nameLt a.name b.name && risesN (b :: l)
  | _ => true
theorem risesN_iff : ∀ l : List Wk, risesN l = true ↔ ∀ (i : Nat) (h : i + 1 < l.length), nameLt l[i].name l[i + 1].name = true
  | [] => by simp [risesN]
  | [a] => by simp [risesN]
  | a :: b :: l => by
    have ih := risesN_iff (b :: l)
    simp only [risesN, Bool.and_eq_true, ih]
    constructor
    · rintro ⟨h0, h⟩ i hi
      cases i with
      | zero => exact h0
      | succ i => exact h i (by simpa using hi)
    · intro h
      exact ⟨h 0 (by simp), fun i hi => h (i + 1) (by simpa using hi)⟩
end M
end Go.Proofs.Ytdoeiphnalbinaa
namespace Go.Proofs.Ytdoeiphnalbinaa
open Go

/-- As Q; by a goto to label l: J l. -/
def jumpsTo (J : Nat → Act → World → Prop) (Q : Exit → Act → World → Prop) : Exit → Act → World → Prop
  | .goto l, a, w => J l a w
  | e, a, w => Q e a w

section
variable {J : Nat → Act → World → Prop} {Q : Exit → Act → World → Prop} {a : Act} {w : World}
theorem jumpsTo_normal : jumpsTo J Q .normal a w = Q .normal a w := rfl
theorem jumpsTo_exit (id : Nat) : jumpsTo J Q (.exit id) a w = Q (.exit id) a w := rfl
theorem jumpsTo_ret : jumpsTo J Q .ret a w = Q .ret a w := rfl
end
attribute [go_sem] jumpsTo_normal jumpsTo_exit jumpsTo_ret
end Go.Proofs.Ytdoeiphnalbinaa
namespace Go.Proofs.Ytdoeiphnalbinaa
open Go.RowKit

end Go.Proofs.Ytdoeiphnalbinaa
namespace Go.Proofs.Ytdoeiphnalbinaa
open Go.RowKit
set_option maxRecDepth 20000

abbrev ddC (d : M.Dd) : Array Value := #[.int .i64 d.kind, .string d.name, .int .i64 d.ed.ma, .int .i64 d.ed.mi, .int .i64 d.ed.pa, .string d.page, .int .i64 d.who]
abbrev ddV (d : M.Dd) : Value := .agg #[.int .i64 d.kind, .string d.name, .int .i64 d.ed.ma, .int .i64 d.ed.mi, .int .i64 d.ed.pa, .string d.page, .int .i64 d.who]
theorem far {w w1 : World} {B g : Nat} (h : Below B w w1) (hg : B ≤ g) (j : Nat) (v : Value) : Below B w (w1.setCell ⟨g, j, none⟩ v) := h.setCell hg v

theorem toEdition_at (e : M.Ed) (w : World) :
    Calls Try.prog 54 #[edV e] w fun r w' => r = .returned (edV e) ∧ w' = ((w.alloc (.cells #[.int .i64 e.ma, .int .i64 e.mi, .int .i64 e.pa] 59)).alloc (.cells #[.int .i64 e.ma, .int .i64 e.mi, .int .i64 e.pa] 51)).alloc (.cells #[.int .i64 e.ma, .int .i64 e.mi, .int .i64 e.pa] 51) := by
  go_enter Try.func54, Try.ntmps54
  go_wp2
  exact bodyPost_ret (v := edV e) (by simp [results, Try.results54, go_sem]) rfl ⟨rfl, rfl⟩

end Go.Proofs.Ytdoeiphnalbinaa
