/-
  No cell of these rows narrows 'for every input' (looked for: loops, veiled, ifaces, maps, wideKeys, modest, calm, conditions, laid).
  DERIVED. THE GIVEN ROWS OF THIS SEAT. 6 by the template 'for every input the law returns true; each argument reads behind the call as it read before'; 0 by the template 'total and deterministic' (their statements: YtblcgbgcccjpcaaGreatTotals.lean).
  GIVEN WITH THE SEED: the statements are not yours to turn. If you find one false, say at which input.
  Laid BY PROGRAM, IN A SANDBOX (cutbox-rows.mjs): the forced cells as the released guide's own fill.sh prints them over the translation 201a89838ff7c97c… (all of the seat's roots in one cut). By AI agents, Wed Nov 11 2026. No macro, syntax, notation, axiom, sorry.
-/
import Derived.Test.YtblcgbgcccjpcaaGreatChecked
import GoSem.Claim
import GoSem.ClaimJoined
import GoSem.ClaimMapViews
import Derived.JoinedTies
import Derived.KernelRfl
namespace Go.Proofs.YtblcgbgcccjpcaaGreat
/- THE CELL 'sum', in the pinned program and in every row, IS THE sha256 OF THE DUMP (.gsa) THAT YtblcgbgcccjpcaaGreatProg.lean LOADS. Nothing in Lean hashes anything: it is a label: what it is worth is what the hold of that sum in a sandbox is worth. -/
noncomputable def Tryz.pinned : Pinned := { name := "ytblcgbgcccjpcaagreat", sum := "201a89838ff7c97cc324a2f6dc58fb919340cbe8ef22c84d6e5363c1e640db77", checked := Tryz.checked }
namespace Rows
def none {H : Type} : Left H := { results := [], args := [] }

/-- 'laws.FnPagesStay': WHATEVER THE INPUT: true; the input reads as it did. -/
def fnPagesStaySpec : ChangeSpec := { name := "fnPagesStay", fn := fun _ => fun
  | [d] => { results := [.lit (.bool true)], args := [d] }
  | _ => none }
def fnPagesStayRow : OpenClaim := { program := "ytblcgbgcccjpcaagreat", sum := "201a89838ff7c97cc324a2f6dc58fb919340cbe8ef22c84d6e5363c1e640db77", func := "loop.example/g00572/laws.FnPagesStay", spec := "fnPagesStay", unfollowed := true, recurses := true, apart := false }
def FnPagesStaySaid : Prop := fnPagesStayRow.holds Tryz.pinned (OpenSpec.ofChange fnPagesStaySpec)

/-- ITS FALSE NEIGHBOUR: 'it returns false'. Refute it at one input. -/
def fnPagesStayWrong : ChangeSpec := { name := "fnPagesStay", fn := fun _ => fun
  | [d] => { results := [.lit (.bool false)], args := [d] }
  | _ => none }
def FnPagesStayWrongFalsely : Prop := fnPagesStayRow.holds Tryz.pinned (OpenSpec.ofChange fnPagesStayWrong)

/-- 'laws.FnOnce': WHATEVER THE INPUT: true; the input reads as it did. -/
def fnOnceSpec : ChangeSpec := { name := "fnOnce", fn := fun _ => fun
  | [d] => { results := [.lit (.bool true)], args := [d] }
  | _ => none }
def fnOnceRow : OpenClaim := { program := "ytblcgbgcccjpcaagreat", sum := "201a89838ff7c97cc324a2f6dc58fb919340cbe8ef22c84d6e5363c1e640db77", func := "loop.example/g00572/laws.FnOnce", spec := "fnOnce", unfollowed := true, recurses := true, apart := false }
def FnOnceSaid : Prop := fnOnceRow.holds Tryz.pinned (OpenSpec.ofChange fnOnceSpec)

/-- ITS FALSE NEIGHBOUR: 'it returns false'. Refute it at one input. -/
def fnOnceWrong : ChangeSpec := { name := "fnOnce", fn := fun _ => fun
  | [d] => { results := [.lit (.bool false)], args := [d] }
  | _ => none }
def FnOnceWrongFalsely : Prop := fnOnceRow.holds Tryz.pinned (OpenSpec.ofChange fnOnceWrong)

/-- 'laws.FnOrders': WHATEVER THE INPUT: true; the input reads as it did. -/
def fnOrdersSpec : ChangeSpec := { name := "fnOrders", fn := fun _ => fun
  | [d] => { results := [.lit (.bool true)], args := [d] }
  | _ => none }
def fnOrdersRow : OpenClaim := { program := "ytblcgbgcccjpcaagreat", sum := "201a89838ff7c97cc324a2f6dc58fb919340cbe8ef22c84d6e5363c1e640db77", func := "loop.example/g00572/laws.FnOrders", spec := "fnOrders", unfollowed := true, recurses := true, apart := false }
def FnOrdersSaid : Prop := fnOrdersRow.holds Tryz.pinned (OpenSpec.ofChange fnOrdersSpec)

/-- ITS FALSE NEIGHBOUR: 'it returns false'. Refute it at one input. -/
def fnOrdersWrong : ChangeSpec := { name := "fnOrders", fn := fun _ => fun
  | [d] => { results := [.lit (.bool false)], args := [d] }
  | _ => none }
def FnOrdersWrongFalsely : Prop := fnOrdersRow.holds Tryz.pinned (OpenSpec.ofChange fnOrdersWrong)

/-- 'laws.FnObeyed': WHATEVER THE INPUT: true; the input reads as it did. -/
def fnObeyedSpec : ChangeSpec := { name := "fnObeyed", fn := fun _ => fun
  | [d] => { results := [.lit (.bool true)], args := [d] }
  | _ => none }
def fnObeyedRow : OpenClaim := { program := "ytblcgbgcccjpcaagreat", sum := "201a89838ff7c97cc324a2f6dc58fb919340cbe8ef22c84d6e5363c1e640db77", func := "loop.example/g00572/laws.FnObeyed", spec := "fnObeyed", unfollowed := true, recurses := true, apart := false }
def FnObeyedSaid : Prop := fnObeyedRow.holds Tryz.pinned (OpenSpec.ofChange fnObeyedSpec)

/-- ITS FALSE NEIGHBOUR: 'it returns false'. Refute it at one input. -/
def fnObeyedWrong : ChangeSpec := { name := "fnObeyed", fn := fun _ => fun
  | [d] => { results := [.lit (.bool false)], args := [d] }
  | _ => none }
def FnObeyedWrongFalsely : Prop := fnObeyedRow.holds Tryz.pinned (OpenSpec.ofChange fnObeyedWrong)

/-- 'laws.FnExactObeyed': WHATEVER THE INPUT: true; the input reads as it did. -/
def fnExactObeyedSpec : ChangeSpec := { name := "fnExactObeyed", fn := fun _ => fun
  | [d1, d2] => { results := [.lit (.bool true)], args := [d1, d2] }
  | _ => none }
def fnExactObeyedRow : OpenClaim := { program := "ytblcgbgcccjpcaagreat", sum := "201a89838ff7c97cc324a2f6dc58fb919340cbe8ef22c84d6e5363c1e640db77", func := "loop.example/g00572/laws.FnExactObeyed", spec := "fnExactObeyed", unfollowed := true, recurses := true, apart := false }
def FnExactObeyedSaid : Prop := fnExactObeyedRow.holds Tryz.pinned (OpenSpec.ofChange fnExactObeyedSpec)

/-- ITS FALSE NEIGHBOUR: 'it returns false'. Refute it at one input. -/
def fnExactObeyedWrong : ChangeSpec := { name := "fnExactObeyed", fn := fun _ => fun
  | [d1, d2] => { results := [.lit (.bool false)], args := [d1, d2] }
  | _ => none }
def FnExactObeyedWrongFalsely : Prop := fnExactObeyedRow.holds Tryz.pinned (OpenSpec.ofChange fnExactObeyedWrong)

/-- 'laws.FnExactObeyedAll': WHATEVER THE INPUT: true; the input reads as it did. -/
def fnExactObeyedAllSpec : ChangeSpec := { name := "fnExactObeyedAll", fn := fun _ => fun
  | [d1, d2] => { results := [.lit (.bool true)], args := [d1, d2] }
  | _ => none }
def fnExactObeyedAllRow : OpenClaim := { program := "ytblcgbgcccjpcaagreat", sum := "201a89838ff7c97cc324a2f6dc58fb919340cbe8ef22c84d6e5363c1e640db77", func := "loop.example/g00572/laws.FnExactObeyedAll", spec := "fnExactObeyedAll", unfollowed := true, recurses := true, apart := false }
def FnExactObeyedAllSaid : Prop := fnExactObeyedAllRow.holds Tryz.pinned (OpenSpec.ofChange fnExactObeyedAllSpec)

/-- ITS FALSE NEIGHBOUR: 'it returns false'. Refute it at one input. -/
def fnExactObeyedAllWrong : ChangeSpec := { name := "fnExactObeyedAll", fn := fun _ => fun
  | [d1, d2] => { results := [.lit (.bool false)], args := [d1, d2] }
  | _ => none }
def FnExactObeyedAllWrongFalsely : Prop := fnExactObeyedAllRow.holds Tryz.pinned (OpenSpec.ofChange fnExactObeyedAllWrong)

/- THE SECOND FORM. 'bulk': how many values and letters a reading holds, each counted each time it is reached (what is shared counts as often as it is met; a slice's spare places count too). A statement '..UptoSaid' is the law's where the arguments, and the package variables that the reading takes, are together of bulk at most 1048576: NARROWER than '..Said'. Prove '..Said' where nothing that the law and all that it calls make is longer than what came in: it says more and counts as full. Else prove '..UptoSaid'. A law counts once. -/
mutual
def uptoBulk {H : Type} : DataW H → Nat
  | .lit (.string bytes) => bytes.length + 1
  | .lit _ => 1
  | .nil => 1
  | .ptr d => uptoBulk d + 1
  | .slice elems spare => uptoBulkAll elems + uptoBulkAll spare + 1
  | .agg parts => uptoBulkAll parts + 1
  | .iface _ d => uptoBulk d + 1
  | .map entries => uptoBulkEntries entries + 1
  | .held _ => 1
def uptoBulkAll {H : Type} : List (DataW H) → Nat
  | [] => 0
  | d :: r => uptoBulk d + uptoBulkAll r
def uptoBulkEntries {H : Type} : List (Lit × DataW H) → Nat
  | [] => 0
  | x :: r => uptoBulkEntry x + uptoBulkEntries r
def uptoBulkEntry {H : Type} : Lit × DataW H → Nat
  | (.string bytes, d) => bytes.length + uptoBulk d + 1
  | (_, d) => uptoBulk d + 1
 end
def uptoSmall : (H : Type) → List (DataW H) → Bool := fun _ ds => decide (uptoBulkAll ds ≤ 1048576)
def OpenSpec.upto (s : _root_.Go.ChangeSpec) : _root_.Go.OpenSpec := { _root_.Go.OpenSpec.ofChange s with cond := some uptoSmall }

/-- 'laws.FnPagesStay', WHERE WHAT IT READS IS OF BULK AT MOST 1048576: true; the input reads as it did. -/
def fnPagesStayUptoRow : OpenClaim := { program := "ytblcgbgcccjpcaagreat", sum := "201a89838ff7c97cc324a2f6dc58fb919340cbe8ef22c84d6e5363c1e640db77", func := "loop.example/g00572/laws.FnPagesStay", spec := "fnPagesStay", unfollowed := true, recurses := true, apart := false, narrowed := true }
def FnPagesStayUptoSaid : Prop := fnPagesStayUptoRow.holds Tryz.pinned (OpenSpec.upto fnPagesStaySpec)

/-- 'laws.FnOnce', WHERE WHAT IT READS IS OF BULK AT MOST 1048576: true; the input reads as it did. -/
def fnOnceUptoRow : OpenClaim := { program := "ytblcgbgcccjpcaagreat", sum := "201a89838ff7c97cc324a2f6dc58fb919340cbe8ef22c84d6e5363c1e640db77", func := "loop.example/g00572/laws.FnOnce", spec := "fnOnce", unfollowed := true, recurses := true, apart := false, narrowed := true }
def FnOnceUptoSaid : Prop := fnOnceUptoRow.holds Tryz.pinned (OpenSpec.upto fnOnceSpec)

/-- 'laws.FnOrders', WHERE WHAT IT READS IS OF BULK AT MOST 1048576: true; the input reads as it did. -/
def fnOrdersUptoRow : OpenClaim := { program := "ytblcgbgcccjpcaagreat", sum := "201a89838ff7c97cc324a2f6dc58fb919340cbe8ef22c84d6e5363c1e640db77", func := "loop.example/g00572/laws.FnOrders", spec := "fnOrders", unfollowed := true, recurses := true, apart := false, narrowed := true }
def FnOrdersUptoSaid : Prop := fnOrdersUptoRow.holds Tryz.pinned (OpenSpec.upto fnOrdersSpec)

/-- 'laws.FnObeyed', WHERE WHAT IT READS IS OF BULK AT MOST 1048576: true; the input reads as it did. -/
def fnObeyedUptoRow : OpenClaim := { program := "ytblcgbgcccjpcaagreat", sum := "201a89838ff7c97cc324a2f6dc58fb919340cbe8ef22c84d6e5363c1e640db77", func := "loop.example/g00572/laws.FnObeyed", spec := "fnObeyed", unfollowed := true, recurses := true, apart := false, narrowed := true }
def FnObeyedUptoSaid : Prop := fnObeyedUptoRow.holds Tryz.pinned (OpenSpec.upto fnObeyedSpec)

/-- 'laws.FnExactObeyed', WHERE WHAT IT READS IS OF BULK AT MOST 1048576: true; the input reads as it did. -/
def fnExactObeyedUptoRow : OpenClaim := { program := "ytblcgbgcccjpcaagreat", sum := "201a89838ff7c97cc324a2f6dc58fb919340cbe8ef22c84d6e5363c1e640db77", func := "loop.example/g00572/laws.FnExactObeyed", spec := "fnExactObeyed", unfollowed := true, recurses := true, apart := false, narrowed := true }
def FnExactObeyedUptoSaid : Prop := fnExactObeyedUptoRow.holds Tryz.pinned (OpenSpec.upto fnExactObeyedSpec)

/-- 'laws.FnExactObeyedAll', WHERE WHAT IT READS IS OF BULK AT MOST 1048576: true; the input reads as it did. -/
def fnExactObeyedAllUptoRow : OpenClaim := { program := "ytblcgbgcccjpcaagreat", sum := "201a89838ff7c97cc324a2f6dc58fb919340cbe8ef22c84d6e5363c1e640db77", func := "loop.example/g00572/laws.FnExactObeyedAll", spec := "fnExactObeyedAll", unfollowed := true, recurses := true, apart := false, narrowed := true }
def FnExactObeyedAllUptoSaid : Prop := fnExactObeyedAllUptoRow.holds Tryz.pinned (OpenSpec.upto fnExactObeyedAllSpec)

end Rows
end Go.Proofs.YtblcgbgcccjpcaaGreat
