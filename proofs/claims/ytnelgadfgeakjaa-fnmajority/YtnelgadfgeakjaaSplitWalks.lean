/- Proved: the model's l1Split cuts a text of at most a million bytes at a byte; its list lies in new memory; it writes nothing that was there. -/
import Derived.Test.YtnelgadfgeakjaaTextWalks
import Derived.Test.YtnelgadfgeakjaaSplit
import Derived.Lib.Strings
namespace Go.Proofs.Ytnelgadfgeakjaa
open Go.RowKit

def strOf (l : List UInt8) : Value := .string ⟨l.toArray⟩
/-- v is a list of the texts ls, in memory of the call's own, from block B on. -/
def StrRow (B : Nat) (w : World) (v : Value) (ls : List (List UInt8)) : Prop :=
  w.ownsRow B 9 1 v ls.length (ls.map strOf)

theorem Try.infoStr : (Try.prog.info? 9).map (fun i => (i.zero, i.size, i.bytes)) = some (some (.string ⟨#[]⟩), 1, 16) := by kernel_rfl

theorem extract_str (s : ByteArray) (f k : Nat) : Value.string (s.extract f k) = strOf ((s.data.toList.take k).drop f) := by
  unfold strOf
  congr 1
  apply ByteArray.ext
  apply Array.toList_inj.1
  rw [Lib.extract_data, List.drop_take]

theorem strRow_snoc {B : Nat} {w : World} {v : Value} {P : List (List UInt8)} {s : ByteArray} {fn k : Nat} {x : List UInt8} (h : w.ownsRow B 9 1 v (P.length + 1) (P.map strOf ++ [.string (s.extract fn k)])) (hx : (s.data.toList.take k).drop fn = x) : StrRow B w v (P ++ [x]) := by
  unfold StrRow
  rw [List.length_append, List.length_singleton, List.map_append, List.map_singleton, ← hx, ← extract_str]
  exact h

theorem below_grow {B e n size : Nat} {w wr w1 : World} {v : Value} {xs : List Value} {o : Obj} (hb : Below w.heap.size w wr) (ho : wr.ownsRow B e size v n xs) (hg : (wr.alloc o).grownBy w1 v.ownBlock) (hB : w.heap.size ≤ B := by exact Nat.le_refl _) : Below w.heap.size w w1 :=
  (hb.alloc hb.size o).grown hg (by have := hb.size; simp; omega) (fun k hk => Nat.le_trans hB (ho.lt k hk).1)

theorem StrRow.open {B : Nat} {w : World} {v : Value} {ls : List (List UInt8)} (h : StrRow B w v ls) (hne : ls ≠ []) :
    ∃ g cap, v = .slice (some ⟨g, 0, none⟩) ls.length cap ∧ B ≤ g ∧ g < w.heap.size ∧ ∀ j (hj : j < ls.length), w.cell? ⟨g, j, none⟩ = some (strOf ls[j]) := by
  have h0 := h
  unfold StrRow at h
  rcases h.2 with ⟨_, hn⟩ | ⟨g, cap, cur, rfl, hB, hg, _⟩
  · exact absurd (List.eq_nil_of_length_eq_zero hn) hne
  · refine ⟨g, cap, rfl, hB, (Array.getElem?_eq_some_iff.1 hg).1, fun j hj => ?_⟩
    rw [World.ownsRow.cellAt h j (by omega)]
    simp [hj]

end Go.Proofs.Ytnelgadfgeakjaa
