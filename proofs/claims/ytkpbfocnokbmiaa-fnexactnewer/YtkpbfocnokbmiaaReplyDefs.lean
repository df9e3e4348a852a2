/- Proved: nothing; what a reply's cells are. -/
import Derived.Test.YtkpbfocnokbmiaaCore
namespace Go.Proofs.Ytkpbfocnokbmiaa
open Go.RowKit
abbrev rpA (c : Int) (p : ByteArray) : Array Value := #[.int .i64 c, .string p]
abbrev rpV (c : Int) (p : ByteArray) : Value := .agg (rpA c p)
abbrev noP : ByteArray := ⟨#[]⟩
end Go.Proofs.Ytkpbfocnokbmiaa
