/- Proved: the model's l1Int writes a number's digits, at every number of 64 bits; it writes nothing that was there. -/
import Derived.Test.YtnelgadfgeakjaaCore
import Derived.Test.YtnelgadfgeakjaaDigits
import Derived.Test.YtnelgadfgeakjaaBytes
namespace Go.Proofs.Ytnelgadfgeakjaa
open Go.RowKit

theorem one_byte (w : World) (d : Nat) (hd : d < 10) (x : Int) (hx : x = 48 + (d : Int)) :
    (convert 22 9 (.slice (some ⟨w.heap.size, 0, none⟩) 1 1)).run Try.prog (w.alloc (.cells #[.int .u8 x] 5)) = .ok (.string ⟨#[M.dig d]⟩) (w.alloc (.cells #[.int .u8 x] 5)) := by
  refine run_convert_bytes_back _ 22 9 5 ⟨w.heap.size, 0, none⟩ 1 [M.dig d] Try.underlying22 Try.underlying5 Try.underlying9 ?_
  intro j hj
  have hj0 : j = 0 := by simpa using hj
  subst hj0
  show (w.alloc _).cell? ⟨w.heap.size, 0, none⟩ = _
  rw [World.cell?_alloc_mark]
  simp [M.dig_toNat d hd, hx]

theorem cat_mk (a b : List UInt8) : (⟨a.toArray⟩ ++ ⟨b.toArray⟩ : ByteArray) = ⟨(a ++ b).toArray⟩ := by
  apply ByteArray.ext; simp

def blank : Value → Nat
  | .string s => if s.size = 0 then 1 else 0
  | _ => 0

theorem blank_nil : blank (.string ⟨#[]⟩) = 1 := rfl
theorem blank_cons (c : UInt8) (r : List UInt8) : blank (.string ⟨(c :: r).toArray⟩) = 0 := rfl
theorem ret_str {a b : List UInt8} (h : a = b) : Ending.returned (.string ⟨a.toArray⟩) = .returned (.string ⟨b.toArray⟩) := by rw [h]

theorem nonempty_of (s : ByteArray) (h : 0 < s.size) : s.toList.isEmpty = false := by
  rw [ByteArray.toList_eq, List.isEmpty_eq_false_iff]
  intro e
  have := congrArg List.length e
  simp at this
  have hz : s.size = 0 := by rw [← ByteArray.size_data, this]; rfl
  omega
theorem ret_rd {p : Int × Bool} {a : Int} {b : Bool} (h : p = (a, b)) : Ending.returned (.tuple #[.int .i64 a, .bool b]) = .returned (.tuple #[.int .i64 p.1, .bool p.2]) := by rw [h]

end Go.Proofs.Ytnelgadfgeakjaa
