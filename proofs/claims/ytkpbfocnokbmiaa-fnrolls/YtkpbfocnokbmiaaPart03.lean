/- Proved, in parts: Proved: a statement that leaves its order open is walked operation by operation under one invariant that speaks of which operations have come up; no program is named here. Condition: each operation waits for earlier ones alone. Proved: the program's functions on editions that compare answer the same plain Lean functions as the model's, at every edition; they write nothing that was there. No condition. Proved: a number that is read is written so, and what is written is read; likewise an edition; no program is named here; no condition. Proved: a text that is cut is its parts joined; an edition that is read is shown so, and what is shown is read; no program is named here; no condition. Proved: what deeds are, in plain Lean; no program is named here; no condition. Proved: facts on blocks that hold given cells: they stay behind calls and new blocks; no program's function is named here; no condition. -/
import Derived.OrdersHeld
import Derived.Deep.RegionHeld3
import Derived.WalkKit
import Derived.Test.YtkpbfocnokbmiaaPart02
import Derived.Deep.QuietTactic
import Derived.Deep.RegionWith
import Derived.BigQuiet
import Derived.KernelRfl
import Derived.Deep.DeepCutAuto
import Derived.Test.YtkpbfocnokbmiaaPart01
namespace Go.Proofs.Ytkpbfocnokbmiaa
open Go

/-! ### One order for all: what only reads is taken in the order of the list; what calls or writes is the only one that may come up. -/

/-- May the operations be gone through in this order? (i, true): number i may be taken now, all others wait for it or are apart from it; (i, false): number i is the only one that may come up. -/
def okSeq (ops : Array Oper) : Array Bool → List (Nat × Bool) → Bool
  | listed, [] => (Region.ready .any ops listed).isEmpty
  | listed, (i, true) :: σ => Region.free .any ops listed i && (Region.ready .any ops listed).contains i && okSeq ops (listed.setIfInBounds i true) σ
  | listed, (i, false) :: σ => (Region.ready .any ops listed == [i]) && okSeq ops (listed.setIfInBounds i true) σ

def SeqH (P : Program) (ops : Array Oper) (Q : Exit → Act → World → Prop) (S : World → Prop) : List (Nat × Bool) → Act → World → Prop
  | [], a, w => Q .normal a w
  | (i, true) :: σ, a, w => ∃ o v, ops[i]? = some o ∧ YieldsIf P ops S o v a ∧ SeqH P ops Q S σ (a.put o.dst v) w
  | (i, false) :: σ, a, w => ∃ o, ops[i]? = some o ∧ ∀ K : Act → World → Prop, Shut (∀ a' w', S w' → (S w' → SeqH P ops Q S σ a' w') → K a' w') → if Region.wanted o (yielded ops a.tmps) = true then Oper.wp P o a w K Q else K (a.put o.dst undef) w

theorem seq_anyH {P : Program} {ops : Array Oper} {Q : Exit → Act → World → Prop} {S : World → Prop} (hns : Region.noSelect ops = true)
    (hQ : ∀ c a d v w, Q (.panic c) (Act.put a (some d) v) w → Q (.panic c) a w) :
    ∀ (σ : List (Nat × Bool)) (listed : Array Bool) (a : Act) (w : World) (fuel : Nat), okSeq ops listed σ = true → σ.length ≤ fuel → S w → SeqH P ops Q S σ a w → wpAnyH P .any ops Q S fuel listed a w
  | [], listed, a, w, fuel, hok, _, _, h => by
    refine wpAnyH_done ?_ h fuel
    simpa [okSeq] using hok
  | (i, true) :: σ, listed, a, w, 0, _, hl, _, _ => by simp at hl
  | (i, true) :: σ, listed, a, w, fuel + 1, hok, hl, hS, ⟨o, v, ho, hy, h⟩ => by
    simp only [okSeq, Bool.and_eq_true] at hok
    refine wpAnyH_take ho hns hok.1.1 hok.1.2 (fun c a w hq => by
      cases hd : o.dst with
      | none => rw [hd] at hq; exact hq
      | some d => rw [hd] at hq; exact hQ c a d v w hq) hy hS (seq_anyH hns hQ σ _ _ w fuel hok.2 (by simpa using hl) hS h)
  | (i, false) :: σ, listed, a, w, 0, _, hl, _, _ => by simp at hl
  | (i, false) :: σ, listed, a, w, fuel + 1, hok, hl, hS, ⟨o, ho, h⟩ => by
    simp only [okSeq, Bool.and_eq_true, beq_iff_eq] at hok
    refine wpAnyH_ready hok.1 (by simp) (AllReadyH.cons ho (fun K hK => ?_) AllReadyH.nil)
    exact h K (fun a' w' hS' hw => hK.out a' w' hS' (fun hS'' => seq_anyH hns hQ σ _ a' w' fuel hok.2 (by simpa using hl) hS'' (hw hS'')))

/-- THE LAW: a statement that draws its order, gone through in one order. -/
theorem wp_region_seq {P : Program} {id : Nat} {ops : Array Oper} {Q : Exit → Act → World → Prop} {a : Act} {w : World} (S : World → Prop) (σ : List (Nat × Bool))
    (hm : P.follows .mixedOrders = true) (hns : Region.noSelect ops = true) (hQ : ∀ c a d v w, Q (.panic c) (Act.put a (some d) v) w → Q (.panic c) a w)
    (hok : okSeq ops (Array.replicate ops.size false) σ = true) (hlen : σ.length ≤ ops.size) (hS : S w.drew) (h : S w.drew → SeqH P ops Q S σ a w.drew) : (Code.region id ops true).wp P Q a w :=
  wp_region_held hm (seq_anyH hns hQ σ _ a _ _ hok hlen hS (h hS))

theorem seq_end {P : Program} {ops : Array Oper} {Q : Exit → Act → World → Prop} {S : World → Prop} {a : Act} {w : World} (h : Q .normal a w) : SeqH P ops Q S [] a w := h
/-- An operation that is not wanted. -/
theorem seq_skip {P : Program} {ops : Array Oper} {Q : Exit → Act → World → Prop} {S : World → Prop} {i : Nat} {o : Oper} {σ : List (Nat × Bool)} {a : Act} {w : World} (ho : ops[i]? = some o)
    (hw : Region.wanted o (yielded ops a.tmps) = false) (h : SeqH P ops Q S σ (a.put o.dst undef) w) : SeqH P ops Q S ((i, true) :: σ) a w := ⟨o, undef, ho, .inr ⟨hw, rfl⟩, h⟩
/-- An operation that only reads. -/
theorem seq_read {P : Program} {ops : Array Oper} {Q : Exit → Act → World → Prop} {S : World → Prop} {i : Nat} {o : Oper} {σ : List (Nat × Bool)} {a : Act} {w : World} {v : Value} (ho : ops[i]? = some o)
    (hw : Region.wanted o (yielded ops a.tmps) = true) (hv : ∀ w, S w → (execOp a.eval o).run P w = .ok (.value v) w) (h : SeqH P ops Q S σ (a.put o.dst v) w) : SeqH P ops Q S ((i, true) :: σ) a w := ⟨o, v, ho, .inl ⟨hw, hv⟩, h⟩
theorem seq_reads {P : Program} {ops : Array Oper} {Q : Exit → Act → World → Prop} {S : World → Prop} {i : Nat} {o : Oper} {σ : List (Nat × Bool)} {a : Act} {w : World} (ho : ops[i]? = some o)
    (hw : Region.wanted o (yielded ops a.tmps) = true) (h : ∃ v, (∀ w, S w → (execOp a.eval o).run P w = .ok (.value v) w) ∧ SeqH P ops Q S σ (a.put o.dst v) w) : SeqH P ops Q S ((i, true) :: σ) a w :=
  h.elim fun _ h => seq_read ho hw h.1 h.2
/-- An operation that calls or writes. -/
theorem seq_call {P : Program} {ops : Array Oper} {Q : Exit → Act → World → Prop} {S : World → Prop} {i : Nat} {o : Oper} {σ : List (Nat × Bool)} {a : Act} {w : World} (ho : ops[i]? = some o)
    (hw : Region.wanted o (yielded ops a.tmps) = true) (h : ∀ K : Act → World → Prop, Shut (∀ a' w', S w' → (S w' → SeqH P ops Q S σ a' w') → K a' w') → Oper.wp P o a w K Q) : SeqH P ops Q S ((i, false) :: σ) a w :=
  ⟨o, ho, fun K hK => by rw [if_pos hw]; exact h K hK⟩
/-- One that is not wanted. -/
theorem seq_pass {P : Program} {ops : Array Oper} {Q : Exit → Act → World → Prop} {S : World → Prop} {i : Nat} {o : Oper} {σ : List (Nat × Bool)} {a : Act} {w : World} (ho : ops[i]? = some o)
    (hw : Region.wanted o (yielded ops a.tmps) = false) (hS : S w) (h : S w → SeqH P ops Q S σ (a.put o.dst undef) w) : SeqH P ops Q S ((i, false) :: σ) a w :=
  ⟨o, ho, fun K hK => by rw [if_neg (by rw [hw]; simp)]; exact hK.out _ _ hS h⟩
end Go.Proofs.Ytkpbfocnokbmiaa
namespace Go.Proofs.Ytkpbfocnokbmiaa
open Go.RowKit

theorem partsOf_at (e : M.Ed) (w : World) :
    Calls Try.prog 124 #[edV e] w fun r w' => r = .returned (edV e) ∧ w' = ((w.alloc (.cells #[.int .i64 e.ma, .int .i64 e.mi, .int .i64 e.pa] 31)).alloc (.cells #[.int .i64 e.ma, .int .i64 e.mi, .int .i64 e.pa] 145)) := by
  go_enter Try.func124, Try.ntmps124
  go_wp2
  exact bodyPost_ret (v := edV e) (by simp [results, Try.results124, go_sem]) rfl ⟨rfl, rfl⟩

theorem partsOf_any (e : M.Ed) (w : World) :
    Calls Try.prog 124 #[edV e] w fun r w' => r = .returned (edV e) ∧ Below w.heap.size w w' :=
  (partsOf_at e w).mono fun _ _ ⟨he, hw⟩ => ⟨he, hw ▸ ((Below.refl _ _).alloc (Nat.le_refl _) _).alloc (by simp) _⟩

theorem part_at (a b c : Int) (w : World) :
    (Instr.index 145 (.agg #[.int .i64 a, .int .i64 b, .int .i64 c]) (.int .i64 0)).run Try.prog w = .ok (.int .i64 a) w ∧
    (Instr.index 145 (.agg #[.int .i64 a, .int .i64 b, .int .i64 c]) (.int .i64 1)).run Try.prog w = .ok (.int .i64 b) w ∧
    (Instr.index 145 (.agg #[.int .i64 a, .int .i64 b, .int .i64 c]) (.int .i64 2)).run Try.prog w = .ok (.int .i64 c) w :=
  ⟨by kernel_rfl, by kernel_rfl, by kernel_rfl⟩

theorem inI_true {x : Int} (h : M.inI x 0 99 = true) : 0 ≤ x ∧ x ≤ 99 := by simpa [M.inI] using h
theorem inI_false {x : Int} (h : M.inI x 0 99 = false) : x < 0 ∨ (0 ≤ x ∧ 99 < x) := by simp [M.inI] at h; omega

set_option maxRecDepth 20000 in
set_option maxHeartbeats 1000000 in
theorem implEditionOk (e : M.Ed) (w : World) :
    Calls Try.prog 116 #[edV e] w fun r w' => r = .returned (.bool (M.edOk e)) ∧ Below w.heap.size w w' := by
  have b0 : Below w.heap.size w (w.alloc (.cells #[.int .i64 e.ma, .int .i64 e.mi, .int .i64 e.pa] 31)) := (Below.refl _ _).alloc (Nat.le_refl _) _
  have p0 := fun w => (part_at e.ma e.mi e.pa w).1
  have p1 := fun w => (part_at e.ma e.mi e.pa w).2.1
  have p2 := fun w => (part_at e.ma e.mi e.pa w).2.2
  go_enter Try.func116, Try.ntmps116
  go_wp2_with fail
  refine (partsOf_any e _).mono ?_
  rintro r w1 ⟨rfl, b1⟩
  have bb := next b0 b1
  clear b0 b1
  go_wp2
  go_loop [7] (fun i => i = .int .i64 0 ∨ (i = .int .i64 1 ∧ M.inI e.ma 0 99 = true) ∨ (i = .int .i64 2 ∧ M.inI e.ma 0 99 = true ∧ M.inI e.mi 0 99 = true) ∨ (i = .int .i64 3 ∧ M.edOk e = true)) (fun i => 3 - (intOf i).toNat)
  case atStart => exact .inl rfl
  case round =>
    rcases hrel with rfl | ⟨rfl, h1⟩ | ⟨rfl, h1, h2⟩ | ⟨rfl, h1⟩
    · rcases h : M.inI e.ma 0 99 with _ | _
      · have HE := Lib.hid (show M.edOk e = false by simp [M.edOk, h])
        rcases inI_false h with k | ⟨k0, k⟩
        all_goals
          go_wp2
          go_ret
          exact ⟨ret_bool HE.out.symm, bb⟩
      · obtain ⟨k0, k1⟩ := inI_true h
        have H := Lib.hid h
        clear h
        go_wp2
        go_round
        case rel => exact .inr (.inl ⟨rfl, by trivial⟩)
        case measure => simp [intOf]
    · rcases h : M.inI e.mi 0 99 with _ | _
      · have HE := Lib.hid (show M.edOk e = false by simp [M.edOk, h])
        rcases inI_false h with k | ⟨k0, k⟩
        all_goals
          go_wp2
          go_ret
          exact ⟨ret_bool HE.out.symm, bb⟩
      · obtain ⟨k0, k1⟩ := inI_true h
        have H := Lib.hid h
        clear h
        go_wp2
        go_round
        case rel => exact .inr (.inr (.inl ⟨rfl, h1, by trivial⟩))
        case measure => simp [intOf]
    · rcases h : M.inI e.pa 0 99 with _ | _
      · have HE := Lib.hid (show M.edOk e = false by simp [M.edOk, h])
        rcases inI_false h with k | ⟨k0, k⟩
        all_goals
          go_wp2
          go_ret
          exact ⟨ret_bool HE.out.symm, bb⟩
      · obtain ⟨k0, k1⟩ := inI_true h
        have H := Lib.hid h
        clear h
        go_wp2
        go_round
        case rel => exact .inr (.inr (.inr ⟨rfl, by simp [M.edOk, H.out, h1, h2]⟩))
        case measure => simp [intOf]
    · have HE := Lib.hid h1
      clear h1
      go_wp2
      go_ret
      exact ⟨ret_bool HE.out.symm, bb⟩

/-- Block g holds e's three numbers. -/
def Three (w : World) (g : Nat) (e : M.Ed) : Prop :=
  w.cell? ⟨g, 0, none⟩ = some (.int .i64 e.ma) ∧ w.cell? ⟨g, 1, none⟩ = some (.int .i64 e.mi) ∧ w.cell? ⟨g, 2, none⟩ = some (.int .i64 e.pa)

theorem Three.lt {w : World} {g : Nat} {e : M.Ed} (h : Three w g e) : g < w.heap.size := World.block_lt_of_cell? w _ h.1
theorem Three.below {w w' : World} {g : Nat} {e : M.Ed} (h : Three w g e) (hb : Below w.heap.size w w') : Three w' g e :=
  ⟨(hb.cell (p := ⟨g, 0, none⟩) h.lt).trans h.1, (hb.cell (p := ⟨g, 1, none⟩) h.lt).trans h.2.1, (hb.cell (p := ⟨g, 2, none⟩) h.lt).trans h.2.2⟩
theorem Three.alloc {w : World} {g : Nat} {e : M.Ed} (h : Three w g e) (o : Obj) : Three (w.alloc o) g e := by
  obtain ⟨h0, h1, h2⟩ := h
  have hl := World.block_lt_of_cell? w _ h0
  refine ⟨?_, ?_, ?_⟩
  · rw [World.cell?_alloc_lt (a := ⟨g, 0, none⟩) (h := hl)]; exact h0
  · rw [World.cell?_alloc_lt (a := ⟨g, 1, none⟩) (h := hl)]; exact h1
  · rw [World.cell?_alloc_lt (a := ⟨g, 2, none⟩) (h := hl)]; exact h2

/-- Block g has room for three numbers. -/
def Room (w : World) (g : Nat) : Prop :=
  ((w.cell? ⟨g, 0, none⟩).isSome = true ∧ (w.cell? ⟨g, 1, none⟩).isSome = true ∧ (w.cell? ⟨g, 2, none⟩).isSome = true) ∧ w.frozen? ⟨g, 0, none⟩ = false ∧ w.frozen? ⟨g, 1, none⟩ = false ∧ w.frozen? ⟨g, 2, none⟩ = false

theorem Three.later {w w' : World} {g : Nat} {e : M.Ed} (h : Three w g e) (hb : w'.heap[g]? = w.heap[g]?) : Three w' g e :=
  ⟨(World.cell?_of_block (a := ⟨g, 0, none⟩) hb).trans h.1, (World.cell?_of_block (a := ⟨g, 1, none⟩) hb).trans h.2.1, (World.cell?_of_block (a := ⟨g, 2, none⟩) hb).trans h.2.2⟩
theorem Room.later {w w' : World} {g : Nat} (h : Room w g) (hb : w'.heap[g]? = w.heap[g]?) : Room w' g := by
  obtain ⟨⟨h0, h1, h2⟩, h3, h4, h5⟩ := h
  refine ⟨⟨?_, ?_, ?_⟩, ?_, ?_, ?_⟩
  · rw [World.cell?_of_block (a := ⟨g, 0, none⟩) hb]; exact h0
  · rw [World.cell?_of_block (a := ⟨g, 1, none⟩) hb]; exact h1
  · rw [World.cell?_of_block (a := ⟨g, 2, none⟩) hb]; exact h2
  · rw [World.frozen?_of_block (a := ⟨g, 0, none⟩) hb]; exact h3
  · rw [World.frozen?_of_block (a := ⟨g, 1, none⟩) hb]; exact h4
  · rw [World.frozen?_of_block (a := ⟨g, 2, none⟩) hb]; exact h5

/-- What is so of the memory between the operations of 'x, y := partsOf(a), partsOf(b)', whatever has come up. -/
def OlderW (a b : M.Ed) (w : World) (l : Nat → Bool) (u5 u6 : Value) (wx : World) : Prop :=
  (Below w.heap.size w wx ∧ w.heap.size + 1 < wx.heap.size ∧ Three wx w.heap.size a ∧ Three wx (w.heap.size + 1) b) ∧
    (l 4 = true → ∃ g, u5 = .pointer (some ⟨g, 0, none⟩) ∧ w.heap.size + 1 < g ∧ g < wx.heap.size ∧ Room wx g ∧ (l 6 = true → Three wx g a) ∧ (l 5 = true → u6 ≠ .pointer (some ⟨g, 0, none⟩))) ∧
    (l 5 = true → ∃ h, u6 = .pointer (some ⟨h, 0, none⟩) ∧ w.heap.size + 1 < h ∧ h < wx.heap.size ∧ Room wx h ∧ (l 7 = true → Three wx h b)) ∧ (l 4 = false → l 6 = false) ∧ (l 5 = false → l 7 = false)
theorem OlderW.later {a b : M.Ed} {w : World} {l l' : Nat → Bool} {u5 u6 : Value} {wx w1 : World} (h : OlderW a b w l u5 u6 wx) (hb : Below wx.heap.size wx w1) (h4 : l' 4 = l 4) (h5 : l' 5 = l 5) (h6 : l' 6 = l 6) (h7 : l' 7 = l 7) : OlderW a b w l' u5 u6 w1 := by
  obtain ⟨⟨h0, hz, ha, hb'⟩, hg, hh, hx, hy⟩ := h
  have hblk : ∀ k, k < wx.heap.size → w1.heap[k]? = wx.heap[k]? := fun k hk => hb.block k hk
  have hs := hb.size
  unfold OlderW
  rw [h4, h5, h6, h7]
  refine ⟨⟨next h0 (by exact hb), by omega, ha.later (hblk _ (by omega)), hb'.later (hblk _ hz)⟩, fun k => ?_, fun k => ?_, hx, hy⟩
  · obtain ⟨g, e, q1, q2, q3, q4, q5⟩ := hg k
    exact ⟨g, e, q1, by omega, q3.later (hblk _ q2), fun z => (q4 z).later (hblk _ q2), q5⟩
  · obtain ⟨g, e, q1, q2, q3, q4⟩ := hh k
    exact ⟨g, e, q1, by omega, q3.later (hblk _ q2), fun z => (q4 z).later (hblk _ q2)⟩

theorem Room.put {w : World} {g : Nat} (h : Room w g) (e : M.Ed) : Three (((w.setCell ⟨g, 0, none⟩ (.int .i64 e.ma)).setCell ⟨g, 1, none⟩ (.int .i64 e.mi)).setCell ⟨g, 2, none⟩ (.int .i64 e.pa)) g e ∧ Room (((w.setCell ⟨g, 0, none⟩ (.int .i64 e.ma)).setCell ⟨g, 1, none⟩ (.int .i64 e.mi)).setCell ⟨g, 2, none⟩ (.int .i64 e.pa)) g := by
  obtain ⟨⟨h0, h1, h2⟩, h3, h4, h5⟩ := h
  have hT : Three (((w.setCell ⟨g, 0, none⟩ (.int .i64 e.ma)).setCell ⟨g, 1, none⟩ (.int .i64 e.mi)).setCell ⟨g, 2, none⟩ (.int .i64 e.pa)) g e := by
    refine ⟨?_, ?_, ?_⟩ <;> simp [go_sem, h0, h1, h2]
  refine ⟨hT, ⟨by rw [hT.1]; rfl, by rw [hT.2.1]; rfl, by rw [hT.2.2]; rfl⟩, ?_, ?_, ?_⟩ <;> simp [World.frozen?_setCell, h3, h4, h5]
end Go.Proofs.Ytkpbfocnokbmiaa
namespace Go.Proofs.Ytkpbfocnokbmiaa
namespace M

end M
end Go.Proofs.Ytkpbfocnokbmiaa
namespace Go.Proofs.Ytkpbfocnokbmiaa
namespace M

theorem edOk_iff (e : Ed) : edOk e = true ↔ (0 ≤ e.ma ∧ e.ma ≤ 99) ∧ (0 ≤ e.mi ∧ e.mi ≤ 99) ∧ (0 ≤ e.pa ∧ e.pa ≤ 99) := by
  simp [edOk, inI]; omega
end M
end Go.Proofs.Ytkpbfocnokbmiaa
namespace Go.Proofs.Ytkpbfocnokbmiaa
namespace M

structure Dd where
  kind : Int
  name : ByteArray
  ed : Ed
  page : ByteArray
  who : Int
deriving DecidableEq

def nilB : ByteArray := ⟨#[]⟩
def zeroDd : Dd := ⟨0, nilB, zeroEd, nilB, 0⟩

def deedOk (d : Dd) : Bool :=
  nameOk d.name.data.toList && edOk d.ed && pageOk d.page.data.toList && inI d.who 0 3 && (decide (d.kind = 2) || decide (d.page.size = 0)) &&
    (if d.kind = 1 then decide (d.ed = zeroEd) else if d.kind = 5 then decide (d.who = 0) else if d.kind = 6 then decide (d.ed.mi = 0) && decide (d.ed.pa = 0) else inI d.kind 2 4)

theorem size0 {s : ByteArray} (h : s.size = 0) : s = nilB := by
  apply ByteArray.ext; exact Array.eq_empty_of_size_eq_zero h

/-- What a right deed is, kind by kind. -/
theorem deedOk_iff (d : Dd) : deedOk d = true ↔ nameOk d.name.data.toList = true ∧ edOk d.ed = true ∧ pageOk d.page.data.toList = true ∧ (0 ≤ d.who ∧ d.who ≤ 3) ∧ (d.kind = 2 ∨ d.page.size = 0) ∧
    ((d.kind = 1 ∧ d.ed = zeroEd) ∨ d.kind = 2 ∨ d.kind = 3 ∨ d.kind = 4 ∨ (d.kind = 5 ∧ d.who = 0) ∨ (d.kind = 6 ∧ d.ed.mi = 0 ∧ d.ed.pa = 0)) := by
  simp only [deedOk, inI, Bool.and_eq_true, Bool.or_eq_true, decide_eq_true_eq, and_assoc]
  refine and_congr_right fun _ => and_congr_right fun _ => and_congr_right fun _ => and_congr_right fun _ => and_congr_right fun _ => and_congr_right fun _ => ?_
  by_cases h1 : d.kind = 1
  · rw [if_pos h1]; simp [h1]
  · rw [if_neg h1]
    by_cases h5 : d.kind = 5
    · rw [if_pos h5]; simp [h5]
    · rw [if_neg h5]
      by_cases h6 : d.kind = 6
      · rw [if_pos h6]; simp [h6]
      · rw [if_neg h6]; simp [h1, h5, h6]; omega

end M
end Go.Proofs.Ytkpbfocnokbmiaa
namespace Go.Proofs.Ytkpbfocnokbmiaa
open Go.RowKit

/-- Block g holds the cells C. -/
def Holds (w : World) (g : Nat) (C : Array Value) : Prop := g < w.heap.size ∧ ∀ j v, C[j]? = some v → w.cell? ⟨g, j, none⟩ = some v
theorem holds_new (w : World) (C : Array Value) (t : TypeId) : Holds (w.alloc (.cells C t)) w.heap.size C :=
  ⟨by simp, fun j v h => by rw [World.cell?_alloc_mark]; exact h⟩
theorem Holds.below {w w' : World} {g : Nat} {C : Array Value} (h : Holds w g C) (hb : Below w.heap.size w w') : Holds w' g C :=
  ⟨Nat.lt_of_lt_of_le h.1 hb.size, fun j v hj => (hb.cell (p := ⟨g, j, none⟩) h.1).trans (h.2 j v hj)⟩
theorem Holds.alloc {w : World} {g : Nat} {C : Array Value} (h : Holds w g C) (o : Obj) : Holds (w.alloc o) g C := h.below ((Below.refl _ _).alloc (Nat.le_refl _) o)
theorem Holds.one {w : World} {g : Nat} {a0 : Value} (h : Holds w g #[a0]) : w.cell? ⟨g, 0, none⟩ = some a0 := h.2 0 _ rfl
theorem Holds.two {w : World} {g : Nat} {a0 a1 : Value} (h : Holds w g #[a0, a1]) : w.cell? ⟨g, 0, none⟩ = some a0 ∧ w.cell? ⟨g, 1, none⟩ = some a1 := ⟨h.2 0 _ rfl, h.2 1 _ rfl⟩
theorem Holds.three {w : World} {g : Nat} {a0 a1 a2 : Value} (h : Holds w g #[a0, a1, a2]) : w.cell? ⟨g, 0, none⟩ = some a0 ∧ w.cell? ⟨g, 1, none⟩ = some a1 ∧ w.cell? ⟨g, 2, none⟩ = some a2 := ⟨h.2 0 _ rfl, h.2 1 _ rfl, h.2 2 _ rfl⟩
theorem Holds.six {w : World} {g : Nat} {a0 a1 a2 a3 a4 a5 : Value} (h : Holds w g #[a0, a1, a2, a3, a4, a5]) : w.cell? ⟨g, 0, none⟩ = some a0 ∧ w.cell? ⟨g, 1, none⟩ = some a1 ∧ w.cell? ⟨g, 2, none⟩ = some a2 ∧ w.cell? ⟨g, 3, none⟩ = some a3 ∧ w.cell? ⟨g, 4, none⟩ = some a4 ∧ w.cell? ⟨g, 5, none⟩ = some a5 :=
  ⟨h.2 0 _ rfl, h.2 1 _ rfl, h.2 2 _ rfl, h.2 3 _ rfl, h.2 4 _ rfl, h.2 5 _ rfl⟩
theorem Holds.seven {w : World} {g : Nat} {a0 a1 a2 a3 a4 a5 a6 : Value} (h : Holds w g #[a0, a1, a2, a3, a4, a5, a6]) : w.cell? ⟨g, 0, none⟩ = some a0 ∧ w.cell? ⟨g, 1, none⟩ = some a1 ∧ w.cell? ⟨g, 2, none⟩ = some a2 ∧ w.cell? ⟨g, 3, none⟩ = some a3 ∧ w.cell? ⟨g, 4, none⟩ = some a4 ∧ w.cell? ⟨g, 5, none⟩ = some a5 ∧ w.cell? ⟨g, 6, none⟩ = some a6 :=
  ⟨h.2 0 _ rfl, h.2 1 _ rfl, h.2 2 _ rfl, h.2 3 _ rfl, h.2 4 _ rfl, h.2 5 _ rfl, h.2 6 _ rfl⟩

/-- Block g may be written. -/
def Loose (w : World) (g : Nat) : Prop := ∀ j, w.frozen? ⟨g, j, none⟩ = false
theorem loose_new (w : World) (C : Array Value) (t : TypeId) : Loose (w.alloc (.cells C t)) w.heap.size := fun j => by
  rw [World.frozen?_alloc_mark]; simp
theorem Loose.below {w w' : World} {g : Nat} (h : Loose w g) (hg : g < w.heap.size) (hb : Below w.heap.size w w') : Loose w' g := fun j => (hb.frozen (p := ⟨g, j, none⟩) hg).trans (h j)
theorem Loose.alloc {w : World} {g : Nat} (h : Loose w g) (hg : g < w.heap.size) (o : Obj) : Loose (w.alloc o) g := h.below hg ((Below.refl _ _).alloc (Nat.le_refl _) o)
theorem Loose.seven {w : World} {g : Nat} (h : Loose w g) : w.frozen? ⟨g, 0, none⟩ = false ∧ w.frozen? ⟨g, 1, none⟩ = false ∧ w.frozen? ⟨g, 2, none⟩ = false ∧ w.frozen? ⟨g, 3, none⟩ = false ∧ w.frozen? ⟨g, 4, none⟩ = false ∧ w.frozen? ⟨g, 5, none⟩ = false ∧ w.frozen? ⟨g, 6, none⟩ = false :=
  ⟨h 0, h 1, h 2, h 3, h 4, h 5, h 6⟩
end Go.Proofs.Ytkpbfocnokbmiaa
