/-
  DERIVED. GIVEN WITH THE SEED: THE CARDS: each row of YtdcdalbbjfjadaaGreatDoorRows.lean that lists a variable, with what it lists TIED to the program's text (the seventh form; the later family's looks); each row that meets fmt, with fmt's text TOLD by the authors' own Lean function (tested against real Go, not proved from fmt's source: count such statements apart). THE CARD IS WHAT COUNTS. Prove the row's statement (the work); the ties are given (YtdcdalbbjfjadaaGreatDoorTie.lean); close each card by the builder's one call (the guide's Derived/Test/ToyasCard.lean, 'card_holds'). Laid BY PROGRAM, IN A SANDBOX (cutbox-door.mjs). By AI agents, Wed Nov 11 2026. No macro, syntax, notation, axiom, sorry.
-/
import Derived.Test.YtdcdalbbjfjadaaGreatDoorRows
import GoSem.ClaimSeven
namespace Go.Proofs.YtdcdalbbjfjadaaGreatDoor
namespace Rows

/-- THE TIED CARD OF 'laws.FnShelf'. -/
def fnShelfCard : Claim7 := { stood := { row := fnShelfRow, standIns := [], harness := (true, "dc7fe7e95a2156fe7b430cfcbb469d7709e70c79cd017ee57e34cc779d814562"), looks := true }, kinds := [], alts := [], laidByText := true, laidKinds := [.data, .data, .data], laidTests := true, laidLooks := .later }
def FnShelfCardSaid : Prop := Claim7.holds Tryz.pinned (.plain (OpenSpec.ofChange fnShelfSpec)) fnShelfCard

/-- THE SECOND FORM's CARD OF 'laws.FnShelf'. -/
def fnShelfUptoCard : Claim7 := { stood := { row := fnShelfUptoRow, standIns := [], harness := (true, "dc7fe7e95a2156fe7b430cfcbb469d7709e70c79cd017ee57e34cc779d814562"), looks := true }, kinds := [], alts := [], laidByText := true, laidKinds := [.data, .data, .data], laidTests := true, laidLooks := .later }
def FnShelfUptoCardSaid : Prop := Claim7.holds Tryz.pinned (.plain (OpenSpec.upto fnShelfSpec)) fnShelfUptoCard
end Rows
end Go.Proofs.YtdcdalbbjfjadaaGreatDoor
