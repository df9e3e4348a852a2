/- Proved: how an entry stands in memory; no program is named here; no condition. -/
import Derived.Test.YtkpbfocnokbmiaaBookDefs
namespace Go.Proofs.Ytkpbfocnokbmiaa
open Go.RowKit
namespace M
structure En where
  reign : Int
  order : Or
end M
abbrev enC (e : M.En) : Array Value := #[.int .i64 e.reign, .int .i64 e.order.client, .int .i64 e.order.seq, .int .i64 e.order.deed.kind, .string e.order.deed.name, .int .i64 e.order.deed.ed.ma, .int .i64 e.order.deed.ed.mi, .int .i64 e.order.deed.ed.pa, .string e.order.deed.page, .int .i64 e.order.deed.who]
abbrev enV (e : M.En) : Value := .agg (enC e)
abbrev enL (e : M.En) : List Value := [.int .i64 e.reign, .int .i64 e.order.client, .int .i64 e.order.seq, .int .i64 e.order.deed.kind, .string e.order.deed.name, .int .i64 e.order.deed.ed.ma, .int .i64 e.order.deed.ed.mi, .int .i64 e.order.deed.ed.pa, .string e.order.deed.page, .int .i64 e.order.deed.who]
abbrev enA (e : M.En) : Array Value := enC e
theorem enL_len (e : M.En) : (enL e).length = 10 := rfl
abbrev enIn (n : Nat) (e : M.En) : Prop := e.order.deed.name.size ≤ n ∧ e.order.deed.page.size ≤ n
theorem Holds.ten {w : World} {g : Nat} {a0 a1 a2 a3 a4 a5 a6 a7 a8 a9 : Value} (h : Holds w g #[a0, a1, a2, a3, a4, a5, a6, a7, a8, a9]) : w.cell? ⟨g, 0, none⟩ = some a0 ∧ w.cell? ⟨g, 1, none⟩ = some a1 ∧ w.cell? ⟨g, 2, none⟩ = some a2 ∧ w.cell? ⟨g, 3, none⟩ = some a3 ∧ w.cell? ⟨g, 4, none⟩ = some a4 ∧ w.cell? ⟨g, 5, none⟩ = some a5 ∧ w.cell? ⟨g, 6, none⟩ = some a6 ∧ w.cell? ⟨g, 7, none⟩ = some a7 ∧ w.cell? ⟨g, 8, none⟩ = some a8 ∧ w.cell? ⟨g, 9, none⟩ = some a9 :=
  ⟨h.2 0 _ rfl, h.2 1 _ rfl, h.2 2 _ rfl, h.2 3 _ rfl, h.2 4 _ rfl, h.2 5 _ rfl, h.2 6 _ rfl, h.2 7 _ rfl, h.2 8 _ rfl, h.2 9 _ rfl⟩
end Go.Proofs.Ytkpbfocnokbmiaa
