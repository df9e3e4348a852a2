/- Proved: the model's l1Int writes a number's digits, at every number of 64 bits; it writes nothing that was there. -/
import Derived.Test.YtpbgnbalmflleaaDoorCore
import Derived.Test.YtpbgnbalmflleaaDoorDigits
import Derived.Test.YtpbgnbalmflleaaDoorBytes
namespace Go.Proofs.YtpbgnbalmflleaaDoor
open Go.RowKit

theorem one_byte (w : World) (d : Nat) (hd : d < 10) (x : Int) (hx : x = 48 + (d : Int)) :
    (convert 50 9 (.slice (some ⟨w.heap.size, 0, none⟩) 1 1)).run Tryd.prog (w.alloc (.cells #[.int .u8 x] 5)) = .ok (.string ⟨#[M.dig d]⟩) (w.alloc (.cells #[.int .u8 x] 5)) := by
  refine run_convert_bytes_back _ 50 9 5 ⟨w.heap.size, 0, none⟩ 1 [M.dig d] Tryd.underlying50 Tryd.underlying5 Tryd.underlying9 ?_
  intro j hj
  have hj0 : j = 0 := by simpa using hj
  subst hj0
  show (w.alloc _).cell? ⟨w.heap.size, 0, none⟩ = _
  rw [World.cell?_alloc_mark]
  simp [M.dig_toNat d hd, hx]

theorem cat_mk (a b : List UInt8) : (⟨a.toArray⟩ ++ ⟨b.toArray⟩ : ByteArray) = ⟨(a ++ b).toArray⟩ := by
  apply ByteArray.ext; simp

def blank : Value → Nat
  | .string s => if s.size = 0 then 1 else 0
  | _ => 0

theorem blank_nil : blank (.string ⟨#[]⟩) = 1 := rfl
theorem blank_cons (c : UInt8) (r : List UInt8) : blank (.string ⟨(c :: r).toArray⟩) = 0 := rfl
theorem ret_str {a b : List UInt8} (h : a = b) : Ending.returned (.string ⟨a.toArray⟩) = .returned (.string ⟨b.toArray⟩) := by rw [h]

set_option maxRecDepth 20000 in
set_option maxHeartbeats 1000000 in
theorem l1Int_pos (N : Nat) (hN : N < 9223372036854775808) (w : World) :
    Calls Tryd.prog 11 #[.int .i64 N] w fun e w' => e = .returned (.string ⟨(M.digs N).toArray⟩) ∧ Below w.heap.size w w' := by
  go_enter Tryd.func11, Tryd.ntmps11
  go_wp2
  go_loopw [0, 3] (fun n s wr => ∃ (m : Nat) (l : List UInt8), n = .int .i64 m ∧ s = .string ⟨l.toArray⟩ ∧ m ≤ N ∧ M.Irel N m l ∧ Below w.heap.size w wr) (fun n s _ => 2 * (intOf n).toNat + blank s)
  case atStart => exact ⟨N, [], rfl, rfl, Nat.le_refl _, M.Irel_start N, Below.refl _ _⟩
  case round =>
    obtain ⟨m, l, rfl, rfl, hm, hir, hbel⟩ := hrel
    have hlen := hir.1
    have HI := Lib.hid hir
    clear hir
    rcases l with _ | ⟨c, r⟩
    · have HS := Lib.hid (M.Irel_step (by omega) hm HI.out (.inl rfl))
      have hb1 := one_byte wr (m % 10) (by omega) (48 + (m : Int) % 10) (by omega)
      go_wp2
      go_roundw
      case rel =>
        refine ⟨m / 10, _, ?_, ?_, ?_, HS.out, ?_⟩
        · go_num
        · exact congrArg Value.string (cat_mk [M.dig (m % 10)] [])
        · omega
        · exact hbel.alloc hbel.size _
      case measure =>
        rw [show (⟨#[M.dig (m % 10)]⟩ ++ ⟨#[]⟩ : ByteArray) = _ from cat_mk [M.dig (m % 10)] [], List.append_nil, blank_cons, blank_nil]
        simp [intOf]
        omega
    · have hrl : r.length ≤ 19 := by simpa using hlen
      by_cases h0 : m = 0
      · have HE := Lib.hid (M.Irel_end (h0 ▸ HI.out) (by simp))
        have h0' : ((m : Int) == 0) = true := by simp; omega
        have h0'' : ((m : Int) != 0) = false := by simp; omega
        go_wp2
        go_ret
        exact ⟨ret_str HE.out, hbel⟩
      · have h0' : ((m : Int) == 0) = false := by simp; omega
        have h0'' : ((m : Int) != 0) = true := by simp; omega
        have HS := Lib.hid (M.Irel_step (by omega) hm HI.out (.inr h0))
        have hb1 := one_byte wr (m % 10) (by omega) (48 + (m : Int) % 10) (by omega)
        go_wp2
        go_roundw
        case rel =>
          refine ⟨m / 10, _, ?_, ?_, ?_, HS.out, ?_⟩
          · go_num
          · exact congrArg Value.string (cat_mk [M.dig (m % 10)] (c :: r))
          · omega
          · exact hbel.alloc hbel.size _
        case measure =>
          rw [show (⟨#[M.dig (m % 10)]⟩ ++ ⟨(c :: r).toArray⟩ : ByteArray) = _ from cat_mk [M.dig (m % 10)] (c :: r), List.singleton_append, blank_cons, blank_cons]
          simp [intOf]
          omega

theorem nonempty_of (s : ByteArray) (h : 0 < s.size) : s.toList.isEmpty = false := by
  rw [ByteArray.toList_eq, List.isEmpty_eq_false_iff]
  intro e
  have := congrArg List.length e
  simp at this
  have hz : s.size = 0 := by rw [← ByteArray.size_data, this]; rfl
  omega
theorem ret_rd {p : Int × Bool} {a : Int} {b : Bool} (h : p = (a, b)) : Ending.returned (.tuple #[.int .i64 a, .bool b]) = .returned (.tuple #[.int .i64 p.1, .bool p.2]) := by rw [h]

end Go.Proofs.YtpbgnbalmflleaaDoor
