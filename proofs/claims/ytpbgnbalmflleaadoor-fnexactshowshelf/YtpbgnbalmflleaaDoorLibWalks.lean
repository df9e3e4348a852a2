/- Proved: what the program takes of the library's texts and numbers: a number as it is written, a number that is read; they write nothing that was there. Conditions: the library's own table and its two errors lie as their initialisers lay them ('Laid'). -/
import Derived.Test.YtpbgnbalmflleaaDoorShelf
import Derived.Test.YtpbgnbalmflleaaDoorNumText
import Derived.Test.YtpbgnbalmflleaaDoorCore
import Derived.Lib.ParseIntBTie
import Derived.Lib.AtoiErrMem
import Derived.WalkSmall
namespace Go.Proofs.YtpbgnbalmflleaaDoor
open Go.RowKit
set_option maxRecDepth 20000

/-- The library's variables that these ways read lie as they should. -/
def Laid (w : World) : Prop :=
  Lib.TabIs Tryd.prog w "internal/strconv.uint64pow10" .u64 Lib.pow10Tab ∧ (∃ tp p, w.var? Tryd.prog "strconv.ErrSyntax" = some #[.iface tp p]) ∧ (∃ tp p, w.var? Tryd.prog "strconv.ErrRange" = some #[.iface tp p]) ∧
    ∃ m : Int, w.cell? ⟨0, 0, none⟩ = some (.int .i64 m)

theorem var_below {w w' : World} {n : String} {cs : Array Value} (hv : w.var? Tryd.prog n = some cs) (h : Below w.heap.size w w') : w'.var? Tryd.prog n = some cs := by
  unfold World.var? at hv ⊢
  cases hg : Tryd.prog.globalNamed n with
  | none => rw [hg] at hv; cases hv
  | some g =>
    rw [hg] at hv
    simp only [Option.bind_some] at hv ⊢
    have hlt : g < w.heap.size := by
      rcases Nat.lt_or_ge g w.heap.size with h' | h'
      · exact h'
      · rw [Array.getElem?_eq_none h'] at hv; cases hv
    rw [h.block g hlt]; exact hv

theorem Laid.below {w w' : World} (hl : Laid w) (h : Below w.heap.size w w') : Laid w' := by
  obtain ⟨h0, ⟨t1, p1, h1⟩, ⟨t2, p2, h2⟩, m, h3⟩ := hl
  exact ⟨var_below h0 h, ⟨t1, p1, var_below h1 h⟩, ⟨t2, p2, var_below h2 h⟩, m, (h.cell (p := ⟨_, 0, none⟩) (World.block_lt_of_cell? w _ h3)).trans h3⟩
theorem Laid.alloc {w : World} (hl : Laid w) (o : Obj) : Laid (w.alloc o) := hl.below ((Below.refl _ _).alloc (Nat.le_refl _) o)

theorem formatInt_any (n : Int) (h0 : -9223372036854775808 ≤ n) (h1 : n ≤ 9223372036854775807) (w : World) (hl : Laid w) :
    Calls Tryd.prog 43 #[.int .i64 n, .int .i64 10] w fun e w' => e = .returned (.string ⟨(M.intText n).toArray⟩) ∧ Below w.heap.size w w' := by
  rw [← M.itoa_eq n h0 h1]
  refine (Tryd.strconv_FormatInt_10 n h0 h1 w hl.1).mono ?_
  rintro e w' ⟨rfl, k, os, rfl⟩
  refine ⟨rfl, ⟨rfl, rfl, rfl, ?_, fun i hi => ?_⟩⟩
  · show w.heap.size ≤ (w.heap ++ os).size
    simp
  · show (w.heap ++ os)[i]? = w.heap[i]?
    rw [Array.getElem?_append_left hi]

/-- A number below 100: no table is read. -/
theorem formatInt_small (n : Int) (h0 : 0 ≤ n) (h1 : n ≤ 99) (w : World) :
    Calls Tryd.prog 43 #[.int .i64 n, .int .i64 10] w fun e w' => e = .returned (.string ⟨(M.intText n).toArray⟩) ∧ w = w' := by
  obtain ⟨i, rfl⟩ := Int.eq_ofNat_of_zero_le h0
  have e : Lib.decDigits i = M.intText i := by
    rw [← M.itoa_eq _ (by omega) (by omega)]
    unfold Lib.itoa
    rw [if_neg (by omega)]; rfl
  refine (Tryd.strconv_FormatInt_10_small i (by omega) w).mono ?_
  rintro r w' ⟨rfl, rfl⟩
  exact ⟨by rw [e], rfl⟩

/-- What is no number, or too great a one: an error that is not nil. -/
def ErrOut (w : World) (e : Ending) (w' : World) : Prop := ∃ (v : Int) (tp : TypeId) (p : Value), e = .returned (.tuple #[.int .i64 v, .iface tp p]) ∧ Below w.heap.size w w'
end Go.Proofs.YtpbgnbalmflleaaDoor
