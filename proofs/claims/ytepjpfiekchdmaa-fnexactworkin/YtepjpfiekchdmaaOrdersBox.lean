/- Proved: a new block inside a statement that leaves its order open: what holds of it; and a box that a statement has made; no program is named here. -/
import Derived.Test.YtepjpfiekchdmaaOrders4
import Derived.Test.YtepjpfiekchdmaaPuts
import Derived.Below
namespace Go.Proofs.Ytepjpfiekchdmaa
open Go Go.RowKit

theorem tq_alloc {P : Program} {ops : Array Oper} {Q : Exit → Act → World → Prop} {S : World → Prop} {t : Tq} {a : Act} {W : World} {C : Array Value} {ty : TypeId}
    (h : ∀ x, Below W.heap.size W x → Holds x W.heap.size C → Loose x W.heap.size → S x → TqV P ops Q t S a x) (hS : S (W.alloc (.cells C ty))) : TqV P ops Q t S a (W.alloc (.cells C ty)) :=
  h _ ((Below.refl _ _).alloc (Nat.le_refl _) _) (holds_new W C ty) (loose_new W C ty) hS

/-- s is a pointer to a block that is new since W0 and holds C; nothing old has changed. -/
def BoxAt (W0 : World) (C : Array Value) (s : Value) (wx : World) : Prop :=
  ∃ G, s = .pointer (some ⟨G, 0, none⟩) ∧ W0.heap.size ≤ G ∧ Below W0.heap.size W0 wx ∧ Holds wx G C ∧ Loose wx G
end Go.Proofs.Ytepjpfiekchdmaa
