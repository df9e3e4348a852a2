/- Proved: the functions on deeds that tell whether one is right, of the program and of its model, answer one plain Lean function at every deed; they write nothing that was there. Condition: texts of at most maxLen bytes. -/
import Derived.Test.YtpbgnbalmflleaaDoorNameWalks
import Derived.Test.YtpbgnbalmflleaaDoorEdImpl
import Derived.Test.YtpbgnbalmflleaaDoorDeedDefs
import Derived.Test.YtpbgnbalmflleaaDoorBoxes
namespace Go.Proofs.YtpbgnbalmflleaaDoor
open Go.RowKit
set_option maxRecDepth 20000

abbrev ddC (d : M.Dd) : Array Value := #[.int .i64 d.kind, .string d.name, .int .i64 d.ed.ma, .int .i64 d.ed.mi, .int .i64 d.ed.pa, .string d.page, .int .i64 d.who]
abbrev ddV (d : M.Dd) : Value := .agg #[.int .i64 d.kind, .string d.name, .int .i64 d.ed.ma, .int .i64 d.ed.mi, .int .i64 d.ed.pa, .string d.page, .int .i64 d.who]
abbrev zC : Array Value := #[.int .i64 0, .string ⟨#[]⟩, .int .i64 0, .int .i64 0, .int .i64 0, .string ⟨#[]⟩, .int .i64 0]

theorem far {w w1 : World} {B g : Nat} (h : Below B w w1) (hg : B ≤ g) (j : Nat) (v : Value) : Below B w (w1.setCell ⟨g, j, none⟩ v) := h.setCell hg v

theorem toEdition_at (e : M.Ed) (w : World) :
    Calls Tryd.prog 51 #[edV e] w fun r w' => r = .returned (edV e) ∧ w' = ((w.alloc (.cells #[.int .i64 e.ma, .int .i64 e.mi, .int .i64 e.pa] 67)).alloc (.cells #[.int .i64 e.ma, .int .i64 e.mi, .int .i64 e.pa] 40)).alloc (.cells #[.int .i64 e.ma, .int .i64 e.mi, .int .i64 e.pa] 40) := by
  go_enter Tryd.func51, Tryd.ntmps51
  go_wp2
  exact bodyPost_ret (v := edV e) (by simp [results, Tryd.results51, go_sem]) rfl ⟨rfl, rfl⟩

theorem l3Who_any (n : Int) (w : World) : Calls Tryd.prog 36 #[.int .i64 n] w fun e w' => e = .returned (.bool (M.inI n 0 3)) ∧ w = w' := by
  go_enter Tryd.func36, Tryd.ntmps36
  go_wp2_with fail
  refine (in_i _ _ _ _).mono ?_
  rintro e w' ⟨rfl, rfl⟩
  go_wp2
  go_ret
  exact ⟨rfl, rfl⟩
theorem whoOk_any (n : Int) (w : World) : Calls Tryd.prog 41 #[.int .i64 n] w fun e w' => e = .returned (.bool (M.inI n 0 3)) ∧ w = w' := by
  by_cases h1 : 0 ≤ n
  · go_enter Tryd.func41, Tryd.ntmps41
    go_wp2
    go_ret
    exact ⟨by simp [M.inI, h1], rfl⟩
  · go_enter Tryd.func41, Tryd.ntmps41
    go_wp2
    go_ret
    exact ⟨by simp [M.inI]; omega, rfl⟩

theorem no_text {s : ByteArray} (h : s.size = 0) : (s.toList == []) = true ∧ (s.toList != []) = false := by
  have e : s.toList = [] := by rw [ByteArray.toList_eq]; exact List.eq_nil_of_length_eq_zero (by simpa using h)
  rw [e]; exact ⟨rfl, rfl⟩
theorem some_text {s : ByteArray} (h : s.size ≠ 0) : (s.toList == []) = false ∧ (s.toList != []) = true := by
  have e : s.toList ≠ [] := by rw [ByteArray.toList_eq]; intro e; exact h (by have := congrArg List.length e; simpa using this)
  exact ⟨by simpa using e, by simpa using e⟩

end Go.Proofs.YtpbgnbalmflleaaDoor
