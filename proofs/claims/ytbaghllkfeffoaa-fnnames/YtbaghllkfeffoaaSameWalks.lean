/- Proved: SameName, of the program and of its model, answers one and the same Lean function at every two texts of at most maxLen bytes, and writes nothing that was there. -/
import Derived.Test.YtbaghllkfeffoaaPlainWalks
namespace Go.Proofs.Ytbaghllkfeffoaa
open Go.RowKit

theorem plainS_size (s : ByteArray) : (plainS s).size = s.size := by
  show (M.plain s.data.toList).toArray.size = s.size
  rw [List.size_toArray, M.plain_length]; simp

def sameS (a b : ByteArray) : Bool := M.nameOk (plainS a).data.toList && ((plainS a).toList == (plainS b).toList)

set_option maxHeartbeats 400000 in
theorem implSameName (a b : ByteArray) (w : World) (ha : a.size ≤ maxLen) (hb : b.size ≤ maxLen) :
    Calls Try.prog 18 #[.string a, .string b] w fun e w' => e = .returned (.bool (sameS a b)) ∧ Below w.heap.size w w' := by
  rcases hn : M.nameOk (plainS a).data.toList with _ | _
  · have HS : Hid (sameS a b = false) := Lib.hid (by unfold sameS; rw [hn]; rfl)
    go_enter Try.func18, Try.ntmps18
    go_wp2_with fail
    refine (implPlain a _ ha).mono ?_
    rintro e w1 ⟨rfl, hb1⟩
    go_wp2_with fail
    refine (implNameOk _ _ (by rw [plainS_size]; exact ha)).mono ?_
    rintro e w' ⟨rfl, rfl⟩
    go_wp2
    go_ret
    exact ⟨ret_bool HS.out.symm, hb1⟩
  · have HS : Hid (sameS a b = ((plainS a).toList == (plainS b).toList)) := Lib.hid (by unfold sameS; rw [hn]; rfl)
    go_enter Try.func18, Try.ntmps18
    go_wp2_with fail
    refine (implPlain a _ ha).mono ?_
    rintro e w1 ⟨rfl, hb1⟩
    go_wp2_with fail
    refine (implNameOk _ _ (by rw [plainS_size]; exact ha)).mono ?_
    rintro e w' ⟨rfl, rfl⟩
    go_wp2_with fail
    refine (implPlain b _ hb).mono ?_
    rintro e w2 ⟨rfl, hb2⟩
    go_wp2
    go_ret
    exact ⟨ret_bool HS.out.symm, hb1.trans (hb2.mono hb1.size)⟩

set_option maxHeartbeats 400000 in
theorem specSameName (a b : ByteArray) (w : World) (ha : a.size ≤ maxLen) (hb : b.size ≤ maxLen) :
    Calls Try.prog 19 #[.string a, .string b] w fun e w' => e = .returned (.bool (sameS a b)) ∧ Below w.heap.size w w' := by
  rcases hn : M.nameOk (plainS a).data.toList with _ | _
  · have HS : Hid (sameS a b = false) := Lib.hid (by unfold sameS; rw [hn]; rfl)
    go_enter Try.func19, Try.ntmps19
    go_wp2_with fail
    refine (specPlain a _ ha).mono ?_
    rintro e w1 ⟨rfl, hb1⟩
    go_wp2_with fail
    refine (specNameOk _ _ (by rw [plainS_size]; exact ha)).mono ?_
    rintro e w' ⟨rfl, rfl⟩
    go_wp2
    go_ret
    exact ⟨ret_bool HS.out.symm, hb1⟩
  · have HS : Hid (sameS a b = ((plainS a).toList == (plainS b).toList)) := Lib.hid (by unfold sameS; rw [hn]; rfl)
    go_enter Try.func19, Try.ntmps19
    go_wp2_with fail
    refine (specPlain a _ ha).mono ?_
    rintro e w1 ⟨rfl, hb1⟩
    go_wp2_with fail
    refine (specNameOk _ _ (by rw [plainS_size]; exact ha)).mono ?_
    rintro e w' ⟨rfl, rfl⟩
    go_wp2_with fail
    refine (specPlain a _ ha).mono ?_
    rintro e w2 ⟨rfl, hb2⟩
    go_wp2_with fail
    refine (specPlain b _ hb).mono ?_
    rintro e w3 ⟨rfl, hb3⟩
    go_wp2
    go_ret
    exact ⟨ret_bool HS.out.symm, (hb1.trans (hb2.mono hb1.size)).trans (hb3.mono (Nat.le_trans hb1.size hb2.size))⟩
end Go.Proofs.Ytbaghllkfeffoaa
