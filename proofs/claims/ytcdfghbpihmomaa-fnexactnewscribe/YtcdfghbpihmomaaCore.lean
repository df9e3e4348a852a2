/- Proved: small facts that every walk uses, and that the model's l1In asks whether a number lies between two others; no condition. -/
import Derived.Test.YtcdfghbpihmomaaChecked
import Derived.WalkKit
import Derived.WalkSpells
import Derived.WalkLawsBesides
import Derived.Lib.Hide
import Derived.Laws.IdiomStrings
namespace Go.Proofs.Ytcdfghbpihmomaa
open Go.RowKit

theorem ret_bool {a b : Bool} (h : a = b) : Ending.returned (.bool a) = .returned (.bool b) := by rw [h]

theorem ret_int {k : IntKind} {a b : Int} (h : a = b) : Ending.returned (.int k a) = .returned (.int k b) := by rw [h]

theorem bcell {W w1 : World} (hb : Below W.heap.size W w1) : (∀ b o, b < W.heap.size → w1.cell? ⟨b, o, none⟩ = W.cell? ⟨b, o, none⟩) ∧ (∀ b o, b < W.heap.size → w1.frozen? ⟨b, o, none⟩ = W.frozen? ⟨b, o, none⟩) :=
  ⟨fun b o h => hb.cell (p := ⟨b, o, none⟩) h, fun b o h => hb.frozen (p := ⟨b, o, none⟩) h⟩

/-- Two texts joined: the joined one under a name of its own. -/
theorem cat_ex (P : Program) (a b : ByteArray) (h : a.size + b.size ≤ 1048576000) :
    ∃ r : ByteArray, r.size = a.size + b.size ∧ r.data.toList = a.data.toList ++ b.data.toList ∧ ∀ w, (Op.stringOp .add a b).run P w = .ok (.string r) w :=
  ⟨a ++ b, by simp, by simp, fun w => run_string_add_sum w a b (by omega)⟩
theorem ba_ext {a b : ByteArray} (h : a.data.toList = b.data.toList) : a = b := by
  cases a; cases b; rw [Array.toList_inj] at h; exact congrArg _ h
theorem ret_ba {a b : ByteArray} (h : a.data.toList = b.data.toList) : Ending.returned (.string a) = .returned (.string b) := by rw [ba_ext h]

/-- A block that was made stays as it was made. -/
theorem box_cells {w w2 : World} {C : Array Value} {t : TypeId} (h : Below (w.alloc (.cells C t)).heap.size (w.alloc (.cells C t)) w2) (j : Nat) : w2.cell? ⟨w.heap.size, j, none⟩ = C[j]? := by
  rw [h.cell (p := ⟨w.heap.size, j, none⟩) (by simp), World.cell?_alloc_mark]

theorem next {w w1 w2 : World} (h : Below w.heap.size w w1) (k : Below w1.heap.size w1 w2) : Below w.heap.size w w2 := h.trans (k.mono h.size)

/-- A call that writes nothing old keeps every cell, and what was so since an elder world. -/
theorem keeps {P : Program} {f : FuncId} {args : Array Value} {w W0 : World} {R : Ending → World → Prop} (h : Calls P f args w fun r w' => R r w' ∧ Below w.heap.size w w') (h0 : Below W0.heap.size W0 w) :
    Calls P f args w fun r w' => R r w' ∧ Below W0.heap.size W0 w' ∧ ∀ b o v, w.cell? ⟨b, o, none⟩ = some v → w'.cell? ⟨b, o, none⟩ = some v :=
  h.mono fun _ _ ⟨hr, hb⟩ => ⟨hr, next h0 hb, fun b o v hc => by rw [hb.cell (p := ⟨b, o, none⟩) (World.block_lt_of_cell? w _ hc)]; exact hc⟩

end Go.Proofs.Ytcdfghbpihmomaa
