/- Proved: what the model draws of editions' texts: some text of at most 100 bytes; nothing that was there is written. -/
import Derived.Test.YtbojeblefgogcaaDoorBend
namespace Go.Proofs.YtbojeblefgogcaaDoor
open Go.RowKit

/-- A short text; nothing that was there is written. -/
def TextTop (w : World) (r : Ending) (w' : World) : Prop := ∃ s : ByteArray, s.size ≤ 1000 ∧ r = .returned (.string s) ∧ Below w.heap.size w w'

theorem strOf_size (l : List UInt8) : (⟨l.toArray⟩ : ByteArray).size = l.length := rfl

set_option maxRecDepth 20000 in
set_option maxHeartbeats 1000000 in
theorem DrawReadEdition_any (w : World) (a : Option Addr) (len cap : Nat) (hl : len ≤ 4096) (hc : CodeOk w.heap.size w a len) :
    Calls Tryd.prog 9 #[.slice a len cap] w (TextTop w) := by
  go_enter Tryd.func9, Tryd.ntmps9
  go_wp2_with fail
  refine (l1New_any w.heap.size _ a len cap (Nat.le_refl _) hl hc).mono ?_
  rintro e w1 ⟨rfl, hc1, hg1⟩
  have b1 := below_of hg1
  go_wp2_with fail
  refine (l2Draw_any _ _ _ hc1).mono ?_
  rintro r w2 ⟨e, he, rfl, hc2, hg2⟩
  have b2 := below_by b1 hg2
  have hz2 := hc2.2.1
  go_wp2_with fail
  refine (l2Show_any e _ he).mono ?_
  rintro r w3 ⟨rfl, b3⟩
  have hlen := M.edText_len e he
  have hc3 : Cur w.heap.size w3 w.heap.size := hc2.kept (row := none) ⟨b3.os, b3.tape, b3.output, b3.size, fun k hk _ => b3.block k hk⟩ (by simp)
  have b13 := next b2 b3
  clear he b1 b2 hg1 hg2 b3 hc2
  go_wp2_with fail
  refine (l1Once_any _ _ _ hc3 2 (by omega) (by omega)).mono ?_
  rintro r w4 ⟨b, rfl, hc4, hg4⟩
  have b4 := below_by b13 hg4
  cases b
  · go_wp2
    go_ret
    exact ⟨_, by rw [strOf_size]; omega, rfl, b4⟩
  · go_wp2_with fail
    refine (l1Bend_any _ _ _ hc4 ⟨(M.edText e).toArray⟩ ⟨#[48, 46, 49, 45, 57]⟩ (by rw [strOf_size]; omega) (by decide) (by decide)).mono ?_
    rintro r w5 ⟨s, hs, rfl, hc5, hg5⟩
    have hs' : s.size ≤ (M.edText e).length + 2 := hs
    go_wp2
    go_ret
    exact ⟨s, by omega, rfl, below_by b4 hg5⟩
end Go.Proofs.YtbojeblefgogcaaDoor
