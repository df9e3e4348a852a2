/- Proved: the program's readNumber reads just the numbers that the document reads; it writes nothing that was there. Condition: 'Laid', and a text of at most 1048576 bytes. -/
import Derived.Test.YtiibklhalgookaaGreatDoorLibWalks
namespace Go.Proofs.YtiibklhalgookaaGreatDoor
open Go.RowKit
set_option maxRecDepth 20000

theorem ret_rd' {p : Int × Bool} {a : Int} {b : Bool} (h : p = (a, b)) : Ending.returned (.tuple #[.int .i64 a, .bool b]) = .returned (.tuple #[.int .i64 p.1, .bool p.2]) := by rw [h]
theorem txt_eq {l : List UInt8} {s : ByteArray} (h : l = s.data.toList) : (l == s.toList) = true := by
  rw [ByteArray.toList_eq]; simp [h]
theorem txt_ne {l : List UInt8} {s : ByteArray} (h : l ≠ s.data.toList) : (l == s.toList) = false := by
  rw [ByteArray.toList_eq]; simpa using h

set_option maxHeartbeats 1000000 in
theorem implReadNumber (s : ByteArray) (w : World) (hs : s.size ≤ 1048576) (hl : Laid w) :
    Calls Tryz.prog 67 #[.string s] w fun r w' => r = .returned (.tuple #[.int .i64 (M.rd s.data.toList).1, .bool (M.rd s.data.toList).2]) ∧ Below w.heap.size w w' := by
  by_cases hp : ∃ v, Lib.parseIntB 64 s.data.toList = .ok v
  · obtain ⟨v, hv⟩ := hp
    have hbd := Lib.parseIntB_bounds hv
    have e63 : ((2 ^ (64 - 1) : Nat) : Int) = 9223372036854775808 := by decide
    rw [e63] at hbd
    have h0 : -9223372036854775808 ≤ v := hbd.1
    have h1 : v ≤ 9223372036854775807 := by omega
    have HB : Hid (-9223372036854775808 ≤ v ∧ v ≤ 9223372036854775807) := Lib.hid ⟨h0, h1⟩
    clear hbd e63 h0 h1
    have HV := Lib.hid hv
    clear hv
    by_cases ht : M.intText v = s.data.toList
    · have t1 := txt_eq ht
      by_cases hlo : v < -999999999
      · have HE : Hid (M.rd s.data.toList = (0, false)) := Lib.hid (M.rd_out HV.out (.inl hlo))
        clear ht
        go_enter Tryz.func67, Tryz.ntmps67
        go_wp2_with fail
        refine (parseInt_ok s v _ hs HV.out).mono ?_
        rintro e w1 ⟨rfl, b1⟩
        go_wp2_with fail
        refine (formatInt_any v HB.out.1 HB.out.2 _ (hl.below b1)).mono ?_
        rintro e w2 ⟨rfl, b2⟩
        go_wp2
        go_ret2
        exact ⟨ret_rd' HE.out, next b1 b2⟩
      · by_cases hhi : 999999999 < v
        · have HE : Hid (M.rd s.data.toList = (0, false)) := Lib.hid (M.rd_out HV.out (.inr hhi))
          clear ht
          go_enter Tryz.func67, Tryz.ntmps67
          go_wp2_with fail
          refine (parseInt_ok s v _ hs HV.out).mono ?_
          rintro e w1 ⟨rfl, b1⟩
          go_wp2_with fail
          refine (formatInt_any v HB.out.1 HB.out.2 _ (hl.below b1)).mono ?_
          rintro e w2 ⟨rfl, b2⟩
          go_wp2
          go_ret2
          exact ⟨ret_rd' HE.out, next b1 b2⟩
        · have HE : Hid (M.rd s.data.toList = (v, true)) := Lib.hid (M.rd_ok (by omega) (by omega) ht)
          clear ht
          go_enter Tryz.func67, Tryz.ntmps67
          go_wp2_with fail
          refine (parseInt_ok s v _ hs HV.out).mono ?_
          rintro e w1 ⟨rfl, b1⟩
          go_wp2_with fail
          refine (formatInt_any v HB.out.1 HB.out.2 _ (hl.below b1)).mono ?_
          rintro e w2 ⟨rfl, b2⟩
          go_wp2
          go_ret2
          exact ⟨ret_rd' HE.out, next b1 b2⟩
    · have t1 := txt_ne ht
      have HE : Hid (M.rd s.data.toList = (0, false)) := Lib.hid (M.rd_other HV.out ht)
      clear ht
      go_enter Tryz.func67, Tryz.ntmps67
      go_wp2_with fail
      refine (parseInt_ok s v _ hs HV.out).mono ?_
      rintro e w1 ⟨rfl, b1⟩
      go_wp2_with fail
      refine (formatInt_any v HB.out.1 HB.out.2 _ (hl.below b1)).mono ?_
      rintro e w2 ⟨rfl, b2⟩
      go_wp2
      go_ret2
      exact ⟨ret_rd' HE.out, next b1 b2⟩
  · have HE : Hid (M.rd s.data.toList = (0, false)) := Lib.hid (M.rd_not_ok (fun u hu _ _ => absurd ⟨u, hu⟩ hp))
    have HP := Lib.hid hp
    clear hp
    go_enter Tryz.func67, Tryz.ntmps67
    go_wp2_with fail
    refine (parseInt_err s _ hs hl (fun v hv => HP.out ⟨v, hv⟩)).mono ?_
    rintro e w1 ⟨v, tp, p, rfl, b1⟩
    go_wp2
    go_ret2
    exact ⟨ret_rd' HE.out, b1⟩
end Go.Proofs.YtiibklhalgookaaGreatDoor
