/-
  DERIVED. GIVEN WITH THE SEED: THE CARDS: each row of YtbojeblefgogcaaDoorRows.lean that lists a variable, with what it lists TIED to the program's text (the seventh form; the later family's looks); each row that meets fmt, with fmt's text TOLD by the authors' own Lean function (tested against real Go, not proved from fmt's source: count such statements apart). THE CARD IS WHAT COUNTS. Prove the row's statement (the work); the ties are given (YtbojeblefgogcaaDoorTie.lean); close each card by the builder's one call (the guide's Derived/Test/ToyasCard.lean, 'card_holds'). Laid BY PROGRAM, IN A SANDBOX (cutbox-door.mjs). By AI agents, Wed Nov 11 2026. No macro, syntax, notation, axiom, sorry.
-/
import Derived.Test.YtbojeblefgogcaaDoorRows
import GoSem.ClaimSeven
namespace Go.Proofs.YtbojeblefgogcaaDoor
namespace Rows

/-- THE TIED CARD OF 'laws.FnEditions'. -/
def fnEditionsCard : Claim7 := { stood := { row := fnEditionsRow, standIns := [], harness := (true, "080cb4001b1922b937291c88701213f93f9bec70713935c758c8297674a0e9ac"), looks := true }, kinds := [], alts := [], laidByText := true, laidKinds := [.data, .data, .data, .data, .sentinel, .sentinel, .pinned], laidTests := true, laidLooks := .later }
def FnEditionsCardSaid : Prop := Claim7.holds Tryd.pinned (.plain (OpenSpec.ofChange fnEditionsSpec)) fnEditionsCard

/-- THE TIED CARD OF 'laws.FnExactShowEdition'. -/
def fnExactShowEditionCard : Claim7 := { stood := { row := fnExactShowEditionRow, standIns := [], harness := (true, "080cb4001b1922b937291c88701213f93f9bec70713935c758c8297674a0e9ac"), looks := true }, kinds := [], alts := [], laidByText := true, laidKinds := [.data, .data, .data], laidTests := true, laidLooks := .later }
def FnExactShowEditionCardSaid : Prop := Claim7.holds Tryd.pinned (.plain (OpenSpec.ofChange fnExactShowEditionSpec)) fnExactShowEditionCard

/-- THE TIED CARD OF 'laws.FnExactReadEdition'. -/
def fnExactReadEditionCard : Claim7 := { stood := { row := fnExactReadEditionRow, standIns := [], harness := (true, "080cb4001b1922b937291c88701213f93f9bec70713935c758c8297674a0e9ac"), looks := true }, kinds := [], alts := [], laidByText := true, laidKinds := [.data, .data, .data, .data, .sentinel, .sentinel, .pinned], laidTests := true, laidLooks := .later }
def FnExactReadEditionCardSaid : Prop := Claim7.holds Tryd.pinned (.plain (OpenSpec.ofChange fnExactReadEditionSpec)) fnExactReadEditionCard

/-- THE SECOND FORM's CARD OF 'laws.FnEditions'. -/
def fnEditionsUptoCard : Claim7 := { stood := { row := fnEditionsUptoRow, standIns := [], harness := (true, "080cb4001b1922b937291c88701213f93f9bec70713935c758c8297674a0e9ac"), looks := true }, kinds := [], alts := [], laidByText := true, laidKinds := [.data, .data, .data, .data, .sentinel, .sentinel, .pinned], laidTests := true, laidLooks := .later }
def FnEditionsUptoCardSaid : Prop := Claim7.holds Tryd.pinned (.plain (OpenSpec.upto fnEditionsSpec)) fnEditionsUptoCard

/-- THE SECOND FORM's CARD OF 'laws.FnExactShowEdition'. -/
def fnExactShowEditionUptoCard : Claim7 := { stood := { row := fnExactShowEditionUptoRow, standIns := [], harness := (true, "080cb4001b1922b937291c88701213f93f9bec70713935c758c8297674a0e9ac"), looks := true }, kinds := [], alts := [], laidByText := true, laidKinds := [.data, .data, .data], laidTests := true, laidLooks := .later }
def FnExactShowEditionUptoCardSaid : Prop := Claim7.holds Tryd.pinned (.plain (OpenSpec.upto fnExactShowEditionSpec)) fnExactShowEditionUptoCard

/-- THE SECOND FORM's CARD OF 'laws.FnExactReadEdition'. -/
def fnExactReadEditionUptoCard : Claim7 := { stood := { row := fnExactReadEditionUptoRow, standIns := [], harness := (true, "080cb4001b1922b937291c88701213f93f9bec70713935c758c8297674a0e9ac"), looks := true }, kinds := [], alts := [], laidByText := true, laidKinds := [.data, .data, .data, .data, .sentinel, .sentinel, .pinned], laidTests := true, laidLooks := .later }
def FnExactReadEditionUptoCardSaid : Prop := Claim7.holds Tryd.pinned (.plain (OpenSpec.upto fnExactReadEditionSpec)) fnExactReadEditionUptoCard
end Rows
end Go.Proofs.YtbojeblefgogcaaDoor
