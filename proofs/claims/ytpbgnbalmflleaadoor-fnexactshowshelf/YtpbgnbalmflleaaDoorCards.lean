/-
  DERIVED. GIVEN WITH THE SEED: THE CARDS: each row of YtpbgnbalmflleaaDoorRows.lean that lists a variable, with what it lists TIED to the program's text (the seventh form; the later family's looks); each row that meets fmt, with fmt's text TOLD by the authors' own Lean function (tested against real Go, not proved from fmt's source: count such statements apart). THE CARD IS WHAT COUNTS. Prove the row's statement (the work); the ties are given (YtpbgnbalmflleaaDoorTie.lean); close each card by the builder's one call (the guide's Derived/Test/ToyasCard.lean, 'card_holds'). Laid BY PROGRAM, IN A SANDBOX (cutbox-door.mjs). By AI agents, Wed Nov 11 2026. No macro, syntax, notation, axiom, sorry.
-/
import Derived.Test.YtpbgnbalmflleaaDoorRows
import GoSem.ClaimSeven
namespace Go.Proofs.YtpbgnbalmflleaaDoor
namespace Rows

/-- THE TIED CARD OF 'laws.FnExactShowShelf'. -/
def fnExactShowShelfCard : Claim7 := { stood := { row := fnExactShowShelfRow, standIns := [], harness := (true, "3d4191efd2a44779d7de82e5248801a183699afb73e4164003a63a2499c92ce9"), looks := false }, kinds := [], alts := [], laidByText := true, laidKinds := [.data, .data, .data], laidTests := true, laidLooks := .later }
def FnExactShowShelfCardSaid : Prop := Claim7.holds Tryd.pinned (.plain (OpenSpec.ofChange fnExactShowShelfSpec)) fnExactShowShelfCard

/-- THE SECOND FORM's CARD OF 'laws.FnExactShowShelf'. -/
def fnExactShowShelfUptoCard : Claim7 := { stood := { row := fnExactShowShelfUptoRow, standIns := [], harness := (true, "3d4191efd2a44779d7de82e5248801a183699afb73e4164003a63a2499c92ce9"), looks := false }, kinds := [], alts := [], laidByText := true, laidKinds := [.data, .data, .data], laidTests := true, laidLooks := .later }
def FnExactShowShelfUptoCardSaid : Prop := Claim7.holds Tryd.pinned (.plain (OpenSpec.upto fnExactShowShelfSpec)) fnExactShowShelfUptoCard
end Rows
end Go.Proofs.YtpbgnbalmflleaaDoor
