/-
  No cell of these rows narrows 'for every input' (looked for: loops, veiled, ifaces, maps, wideKeys, modest, calm, conditions, laid).
  DERIVED. THE GIVEN ROWS OF THIS SEAT. 10 by the template 'for every input the law returns true; each argument reads behind the call as it read before'; 0 by the template 'total and deterministic' (their statements: YtkpbfocnokbmiaaTotals.lean).
  GIVEN WITH THE SEED: the statements are not yours to turn. If you find one false, say at which input.
  Laid BY PROGRAM, IN A SANDBOX (cutbox-rows.mjs): the forced cells as the released guide's own fill.sh prints them over the translation a3c513c3f761a160… (all of the seat's roots in one cut). By AI agents, Wed Nov 11 2026. No macro, syntax, notation, axiom, sorry.
-/
import Derived.Test.YtkpbfocnokbmiaaChecked
import GoSem.Claim
import GoSem.ClaimJoined
import GoSem.ClaimMapViews
import Derived.JoinedTies
import Derived.KernelRfl
namespace Go.Proofs.Ytkpbfocnokbmiaa
/- THE CELL 'sum', in the pinned program and in every row, IS THE sha256 OF THE DUMP (.gsa) THAT YtkpbfocnokbmiaaProg.lean LOADS. Nothing in Lean hashes anything: it is a label: what it is worth is what the hold of that sum in a sandbox is worth. -/
noncomputable def Try.pinned : Pinned := { name := "ytkpbfocnokbmiaa", sum := "a3c513c3f761a160097908ad6640fe1b4ff2438222baad0c37f39e1f5a21cb1e", checked := Try.checked }
namespace Rows
def none {H : Type} : Left H := { results := [], args := [] }

/-- 'laws.FnRolls': WHATEVER THE INPUT: true; the input reads as it did. -/
def fnRollsSpec : ChangeSpec := { name := "fnRolls", fn := fun _ => fun
  | [d] => { results := [.lit (.bool true)], args := [d] }
  | _ => none }
def fnRollsRow : OpenClaim := { program := "ytkpbfocnokbmiaa", sum := "a3c513c3f761a160097908ad6640fe1b4ff2438222baad0c37f39e1f5a21cb1e", func := "loop.example/g00572/laws.FnRolls", spec := "fnRolls", unfollowed := true, recurses := true, apart := false }
def FnRollsSaid : Prop := fnRollsRow.holds Try.pinned (OpenSpec.ofChange fnRollsSpec)

/-- ITS FALSE NEIGHBOUR: 'it returns false'. Refute it at one input. -/
def fnRollsWrong : ChangeSpec := { name := "fnRolls", fn := fun _ => fun
  | [d] => { results := [.lit (.bool false)], args := [d] }
  | _ => none }
def FnRollsWrongFalsely : Prop := fnRollsRow.holds Try.pinned (OpenSpec.ofChange fnRollsWrong)

/-- 'laws.FnJoined': WHATEVER THE INPUT: true; the input reads as it did. -/
def fnJoinedSpec : ChangeSpec := { name := "fnJoined", fn := fun _ => fun
  | [d] => { results := [.lit (.bool true)], args := [d] }
  | _ => none }
def fnJoinedRow : OpenClaim := { program := "ytkpbfocnokbmiaa", sum := "a3c513c3f761a160097908ad6640fe1b4ff2438222baad0c37f39e1f5a21cb1e", func := "loop.example/g00572/laws.FnJoined", spec := "fnJoined", unfollowed := true, recurses := true, apart := false }
def FnJoinedSaid : Prop := fnJoinedRow.holds Try.pinned (OpenSpec.ofChange fnJoinedSpec)

/-- ITS FALSE NEIGHBOUR: 'it returns false'. Refute it at one input. -/
def fnJoinedWrong : ChangeSpec := { name := "fnJoined", fn := fun _ => fun
  | [d] => { results := [.lit (.bool false)], args := [d] }
  | _ => none }
def FnJoinedWrongFalsely : Prop := fnJoinedRow.holds Try.pinned (OpenSpec.ofChange fnJoinedWrong)

/-- 'laws.FnCut': WHATEVER THE INPUT: true; the input reads as it did. -/
def fnCutSpec : ChangeSpec := { name := "fnCut", fn := fun _ => fun
  | [d] => { results := [.lit (.bool true)], args := [d] }
  | _ => none }
def fnCutRow : OpenClaim := { program := "ytkpbfocnokbmiaa", sum := "a3c513c3f761a160097908ad6640fe1b4ff2438222baad0c37f39e1f5a21cb1e", func := "loop.example/g00572/laws.FnCut", spec := "fnCut", unfollowed := true, recurses := true, apart := false }
def FnCutSaid : Prop := fnCutRow.holds Try.pinned (OpenSpec.ofChange fnCutSpec)

/-- ITS FALSE NEIGHBOUR: 'it returns false'. Refute it at one input. -/
def fnCutWrong : ChangeSpec := { name := "fnCut", fn := fun _ => fun
  | [d] => { results := [.lit (.bool false)], args := [d] }
  | _ => none }
def FnCutWrongFalsely : Prop := fnCutRow.holds Try.pinned (OpenSpec.ofChange fnCutWrong)

/-- 'laws.FnExactRollOk': WHATEVER THE INPUT: true; the input reads as it did. -/
def fnExactRollOkSpec : ChangeSpec := { name := "fnExactRollOk", fn := fun _ => fun
  | [d] => { results := [.lit (.bool true)], args := [d] }
  | _ => none }
def fnExactRollOkRow : OpenClaim := { program := "ytkpbfocnokbmiaa", sum := "a3c513c3f761a160097908ad6640fe1b4ff2438222baad0c37f39e1f5a21cb1e", func := "loop.example/g00572/laws.FnExactRollOk", spec := "fnExactRollOk", unfollowed := true, recurses := true, apart := false }
def FnExactRollOkSaid : Prop := fnExactRollOkRow.holds Try.pinned (OpenSpec.ofChange fnExactRollOkSpec)

/-- ITS FALSE NEIGHBOUR: 'it returns false'. Refute it at one input. -/
def fnExactRollOkWrong : ChangeSpec := { name := "fnExactRollOk", fn := fun _ => fun
  | [d] => { results := [.lit (.bool false)], args := [d] }
  | _ => none }
def FnExactRollOkWrongFalsely : Prop := fnExactRollOkRow.holds Try.pinned (OpenSpec.ofChange fnExactRollOkWrong)

/-- 'laws.FnExactLastIn': WHATEVER THE INPUT: true; the input reads as it did. -/
def fnExactLastInSpec : ChangeSpec := { name := "fnExactLastIn", fn := fun _ => fun
  | [d] => { results := [.lit (.bool true)], args := [d] }
  | _ => none }
def fnExactLastInRow : OpenClaim := { program := "ytkpbfocnokbmiaa", sum := "a3c513c3f761a160097908ad6640fe1b4ff2438222baad0c37f39e1f5a21cb1e", func := "loop.example/g00572/laws.FnExactLastIn", spec := "fnExactLastIn", unfollowed := true, recurses := true, apart := false }
def FnExactLastInSaid : Prop := fnExactLastInRow.holds Try.pinned (OpenSpec.ofChange fnExactLastInSpec)

/-- ITS FALSE NEIGHBOUR: 'it returns false'. Refute it at one input. -/
def fnExactLastInWrong : ChangeSpec := { name := "fnExactLastIn", fn := fun _ => fun
  | [d] => { results := [.lit (.bool false)], args := [d] }
  | _ => none }
def FnExactLastInWrongFalsely : Prop := fnExactLastInRow.holds Try.pinned (OpenSpec.ofChange fnExactLastInWrong)

/-- 'laws.FnExactReignAt': WHATEVER THE INPUT: true; the input reads as it did. -/
def fnExactReignAtSpec : ChangeSpec := { name := "fnExactReignAt", fn := fun _ => fun
  | [d1, d2] => { results := [.lit (.bool true)], args := [d1, d2] }
  | _ => none }
def fnExactReignAtRow : OpenClaim := { program := "ytkpbfocnokbmiaa", sum := "a3c513c3f761a160097908ad6640fe1b4ff2438222baad0c37f39e1f5a21cb1e", func := "loop.example/g00572/laws.FnExactReignAt", spec := "fnExactReignAt", unfollowed := true, recurses := true, apart := false }
def FnExactReignAtSaid : Prop := fnExactReignAtRow.holds Try.pinned (OpenSpec.ofChange fnExactReignAtSpec)

/-- ITS FALSE NEIGHBOUR: 'it returns false'. Refute it at one input. -/
def fnExactReignAtWrong : ChangeSpec := { name := "fnExactReignAt", fn := fun _ => fun
  | [d1, d2] => { results := [.lit (.bool false)], args := [d1, d2] }
  | _ => none }
def FnExactReignAtWrongFalsely : Prop := fnExactReignAtRow.holds Try.pinned (OpenSpec.ofChange fnExactReignAtWrong)

/-- 'laws.FnExactEntryAt': WHATEVER THE INPUT: true; the input reads as it did. -/
def fnExactEntryAtSpec : ChangeSpec := { name := "fnExactEntryAt", fn := fun _ => fun
  | [d1, d2] => { results := [.lit (.bool true)], args := [d1, d2] }
  | _ => none }
def fnExactEntryAtRow : OpenClaim := { program := "ytkpbfocnokbmiaa", sum := "a3c513c3f761a160097908ad6640fe1b4ff2438222baad0c37f39e1f5a21cb1e", func := "loop.example/g00572/laws.FnExactEntryAt", spec := "fnExactEntryAt", unfollowed := true, recurses := true, apart := false }
def FnExactEntryAtSaid : Prop := fnExactEntryAtRow.holds Try.pinned (OpenSpec.ofChange fnExactEntryAtSpec)

/-- ITS FALSE NEIGHBOUR: 'it returns false'. Refute it at one input. -/
def fnExactEntryAtWrong : ChangeSpec := { name := "fnExactEntryAt", fn := fun _ => fun
  | [d1, d2] => { results := [.lit (.bool false)], args := [d1, d2] }
  | _ => none }
def FnExactEntryAtWrongFalsely : Prop := fnExactEntryAtRow.holds Try.pinned (OpenSpec.ofChange fnExactEntryAtWrong)

/-- 'laws.FnExactTail': WHATEVER THE INPUT: true; the input reads as it did. -/
def fnExactTailSpec : ChangeSpec := { name := "fnExactTail", fn := fun _ => fun
  | [d1, d2] => { results := [.lit (.bool true)], args := [d1, d2] }
  | _ => none }
def fnExactTailRow : OpenClaim := { program := "ytkpbfocnokbmiaa", sum := "a3c513c3f761a160097908ad6640fe1b4ff2438222baad0c37f39e1f5a21cb1e", func := "loop.example/g00572/laws.FnExactTail", spec := "fnExactTail", unfollowed := true, recurses := true, apart := false }
def FnExactTailSaid : Prop := fnExactTailRow.holds Try.pinned (OpenSpec.ofChange fnExactTailSpec)

/-- ITS FALSE NEIGHBOUR: 'it returns false'. Refute it at one input. -/
def fnExactTailWrong : ChangeSpec := { name := "fnExactTail", fn := fun _ => fun
  | [d1, d2] => { results := [.lit (.bool false)], args := [d1, d2] }
  | _ => none }
def FnExactTailWrongFalsely : Prop := fnExactTailRow.holds Try.pinned (OpenSpec.ofChange fnExactTailWrong)

/-- 'laws.FnExactCut': WHATEVER THE INPUT: true; the input reads as it did. -/
def fnExactCutSpec : ChangeSpec := { name := "fnExactCut", fn := fun _ => fun
  | [d1, d2] => { results := [.lit (.bool true)], args := [d1, d2] }
  | _ => none }
def fnExactCutRow : OpenClaim := { program := "ytkpbfocnokbmiaa", sum := "a3c513c3f761a160097908ad6640fe1b4ff2438222baad0c37f39e1f5a21cb1e", func := "loop.example/g00572/laws.FnExactCut", spec := "fnExactCut", unfollowed := true, recurses := true, apart := false }
def FnExactCutSaid : Prop := fnExactCutRow.holds Try.pinned (OpenSpec.ofChange fnExactCutSpec)

/-- ITS FALSE NEIGHBOUR: 'it returns false'. Refute it at one input. -/
def fnExactCutWrong : ChangeSpec := { name := "fnExactCut", fn := fun _ => fun
  | [d1, d2] => { results := [.lit (.bool false)], args := [d1, d2] }
  | _ => none }
def FnExactCutWrongFalsely : Prop := fnExactCutRow.holds Try.pinned (OpenSpec.ofChange fnExactCutWrong)

/-- 'laws.FnExactNewer': WHATEVER THE INPUT: true; the input reads as it did. -/
def fnExactNewerSpec : ChangeSpec := { name := "fnExactNewer", fn := fun _ => fun
  | [d1, d2, d3, d4] => { results := [.lit (.bool true)], args := [d1, d2, d3, d4] }
  | _ => none }
def fnExactNewerRow : OpenClaim := { program := "ytkpbfocnokbmiaa", sum := "a3c513c3f761a160097908ad6640fe1b4ff2438222baad0c37f39e1f5a21cb1e", func := "loop.example/g00572/laws.FnExactNewer", spec := "fnExactNewer", apart := false }
def FnExactNewerSaid : Prop := fnExactNewerRow.holds Try.pinned (OpenSpec.ofChange fnExactNewerSpec)

/-- ITS FALSE NEIGHBOUR: 'it returns false'. Refute it at one input. -/
def fnExactNewerWrong : ChangeSpec := { name := "fnExactNewer", fn := fun _ => fun
  | [d1, d2, d3, d4] => { results := [.lit (.bool false)], args := [d1, d2, d3, d4] }
  | _ => none }
def FnExactNewerWrongFalsely : Prop := fnExactNewerRow.holds Try.pinned (OpenSpec.ofChange fnExactNewerWrong)

/- THE SECOND FORM. 'bulk': how many values and letters a reading holds, each counted each time it is reached (what is shared counts as often as it is met; a slice's spare places count too). A statement '..UptoSaid' is the law's where the arguments, and the package variables that the reading takes, are together of bulk at most 1048576: NARROWER than '..Said'. Prove '..Said' where nothing that the law and all that it calls make is longer than what came in: it says more and counts as full. Else prove '..UptoSaid'. A law counts once. -/
mutual
def uptoBulk {H : Type} : DataW H → Nat
  | .lit (.string bytes) => bytes.length + 1
  | .lit _ => 1
  | .nil => 1
  | .ptr d => uptoBulk d + 1
  | .slice elems spare => uptoBulkAll elems + uptoBulkAll spare + 1
  | .agg parts => uptoBulkAll parts + 1
  | .iface _ d => uptoBulk d + 1
  | .map entries => uptoBulkEntries entries + 1
  | .held _ => 1
def uptoBulkAll {H : Type} : List (DataW H) → Nat
  | [] => 0
  | d :: r => uptoBulk d + uptoBulkAll r
def uptoBulkEntries {H : Type} : List (Lit × DataW H) → Nat
  | [] => 0
  | x :: r => uptoBulkEntry x + uptoBulkEntries r
def uptoBulkEntry {H : Type} : Lit × DataW H → Nat
  | (.string bytes, d) => bytes.length + uptoBulk d + 1
  | (_, d) => uptoBulk d + 1
 end
def uptoSmall : (H : Type) → List (DataW H) → Bool := fun _ ds => decide (uptoBulkAll ds ≤ 1048576)
def OpenSpec.upto (s : _root_.Go.ChangeSpec) : _root_.Go.OpenSpec := { _root_.Go.OpenSpec.ofChange s with cond := some uptoSmall }

/-- 'laws.FnRolls', WHERE WHAT IT READS IS OF BULK AT MOST 1048576: true; the input reads as it did. -/
def fnRollsUptoRow : OpenClaim := { program := "ytkpbfocnokbmiaa", sum := "a3c513c3f761a160097908ad6640fe1b4ff2438222baad0c37f39e1f5a21cb1e", func := "loop.example/g00572/laws.FnRolls", spec := "fnRolls", unfollowed := true, recurses := true, apart := false, narrowed := true }
def FnRollsUptoSaid : Prop := fnRollsUptoRow.holds Try.pinned (OpenSpec.upto fnRollsSpec)

/-- 'laws.FnJoined', WHERE WHAT IT READS IS OF BULK AT MOST 1048576: true; the input reads as it did. -/
def fnJoinedUptoRow : OpenClaim := { program := "ytkpbfocnokbmiaa", sum := "a3c513c3f761a160097908ad6640fe1b4ff2438222baad0c37f39e1f5a21cb1e", func := "loop.example/g00572/laws.FnJoined", spec := "fnJoined", unfollowed := true, recurses := true, apart := false, narrowed := true }
def FnJoinedUptoSaid : Prop := fnJoinedUptoRow.holds Try.pinned (OpenSpec.upto fnJoinedSpec)

/-- 'laws.FnCut', WHERE WHAT IT READS IS OF BULK AT MOST 1048576: true; the input reads as it did. -/
def fnCutUptoRow : OpenClaim := { program := "ytkpbfocnokbmiaa", sum := "a3c513c3f761a160097908ad6640fe1b4ff2438222baad0c37f39e1f5a21cb1e", func := "loop.example/g00572/laws.FnCut", spec := "fnCut", unfollowed := true, recurses := true, apart := false, narrowed := true }
def FnCutUptoSaid : Prop := fnCutUptoRow.holds Try.pinned (OpenSpec.upto fnCutSpec)

/-- 'laws.FnExactRollOk', WHERE WHAT IT READS IS OF BULK AT MOST 1048576: true; the input reads as it did. -/
def fnExactRollOkUptoRow : OpenClaim := { program := "ytkpbfocnokbmiaa", sum := "a3c513c3f761a160097908ad6640fe1b4ff2438222baad0c37f39e1f5a21cb1e", func := "loop.example/g00572/laws.FnExactRollOk", spec := "fnExactRollOk", unfollowed := true, recurses := true, apart := false, narrowed := true }
def FnExactRollOkUptoSaid : Prop := fnExactRollOkUptoRow.holds Try.pinned (OpenSpec.upto fnExactRollOkSpec)

/-- 'laws.FnExactLastIn', WHERE WHAT IT READS IS OF BULK AT MOST 1048576: true; the input reads as it did. -/
def fnExactLastInUptoRow : OpenClaim := { program := "ytkpbfocnokbmiaa", sum := "a3c513c3f761a160097908ad6640fe1b4ff2438222baad0c37f39e1f5a21cb1e", func := "loop.example/g00572/laws.FnExactLastIn", spec := "fnExactLastIn", unfollowed := true, recurses := true, apart := false, narrowed := true }
def FnExactLastInUptoSaid : Prop := fnExactLastInUptoRow.holds Try.pinned (OpenSpec.upto fnExactLastInSpec)

/-- 'laws.FnExactReignAt', WHERE WHAT IT READS IS OF BULK AT MOST 1048576: true; the input reads as it did. -/
def fnExactReignAtUptoRow : OpenClaim := { program := "ytkpbfocnokbmiaa", sum := "a3c513c3f761a160097908ad6640fe1b4ff2438222baad0c37f39e1f5a21cb1e", func := "loop.example/g00572/laws.FnExactReignAt", spec := "fnExactReignAt", unfollowed := true, recurses := true, apart := false, narrowed := true }
def FnExactReignAtUptoSaid : Prop := fnExactReignAtUptoRow.holds Try.pinned (OpenSpec.upto fnExactReignAtSpec)

/-- 'laws.FnExactEntryAt', WHERE WHAT IT READS IS OF BULK AT MOST 1048576: true; the input reads as it did. -/
def fnExactEntryAtUptoRow : OpenClaim := { program := "ytkpbfocnokbmiaa", sum := "a3c513c3f761a160097908ad6640fe1b4ff2438222baad0c37f39e1f5a21cb1e", func := "loop.example/g00572/laws.FnExactEntryAt", spec := "fnExactEntryAt", unfollowed := true, recurses := true, apart := false, narrowed := true }
def FnExactEntryAtUptoSaid : Prop := fnExactEntryAtUptoRow.holds Try.pinned (OpenSpec.upto fnExactEntryAtSpec)

/-- 'laws.FnExactTail', WHERE WHAT IT READS IS OF BULK AT MOST 1048576: true; the input reads as it did. -/
def fnExactTailUptoRow : OpenClaim := { program := "ytkpbfocnokbmiaa", sum := "a3c513c3f761a160097908ad6640fe1b4ff2438222baad0c37f39e1f5a21cb1e", func := "loop.example/g00572/laws.FnExactTail", spec := "fnExactTail", unfollowed := true, recurses := true, apart := false, narrowed := true }
def FnExactTailUptoSaid : Prop := fnExactTailUptoRow.holds Try.pinned (OpenSpec.upto fnExactTailSpec)

/-- 'laws.FnExactCut', WHERE WHAT IT READS IS OF BULK AT MOST 1048576: true; the input reads as it did. -/
def fnExactCutUptoRow : OpenClaim := { program := "ytkpbfocnokbmiaa", sum := "a3c513c3f761a160097908ad6640fe1b4ff2438222baad0c37f39e1f5a21cb1e", func := "loop.example/g00572/laws.FnExactCut", spec := "fnExactCut", unfollowed := true, recurses := true, apart := false, narrowed := true }
def FnExactCutUptoSaid : Prop := fnExactCutUptoRow.holds Try.pinned (OpenSpec.upto fnExactCutSpec)

/-- 'laws.FnExactNewer', WHERE WHAT IT READS IS OF BULK AT MOST 1048576: true; the input reads as it did. -/
def fnExactNewerUptoRow : OpenClaim := { program := "ytkpbfocnokbmiaa", sum := "a3c513c3f761a160097908ad6640fe1b4ff2438222baad0c37f39e1f5a21cb1e", func := "loop.example/g00572/laws.FnExactNewer", spec := "fnExactNewer", apart := false, narrowed := true }
def FnExactNewerUptoSaid : Prop := fnExactNewerUptoRow.holds Try.pinned (OpenSpec.upto fnExactNewerSpec)

end Rows
end Go.Proofs.Ytkpbfocnokbmiaa
