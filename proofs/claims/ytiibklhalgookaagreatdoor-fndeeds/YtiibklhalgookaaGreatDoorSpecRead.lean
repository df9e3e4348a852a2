/- Proved: what the model's ReadDeed takes of the list of words: the kind that a first word tells; the words lie in new memory. No condition but a text of at most 1048576 bytes. -/
import Derived.Test.YtiibklhalgookaaGreatDoorDeedShow
import Derived.Test.YtiibklhalgookaaGreatDoorReadDd
import Derived.Deep.RegionWith
import Derived.Deep.DeepCutAuto
namespace Go.Proofs.YtiibklhalgookaaGreatDoor
open Go.RowKit
set_option maxRecDepth 20000
set_option linter.unusedVariables false

/-- The kind that a first word tells, 0 where it tells none. -/
def kd (x : ByteArray) : Int := if x.data.toList = M.wClaim then 1 else if x.data.toList = M.wPut then 2 else if x.data.toList = M.wHide then 3 else if x.data.toList = M.wShow then 4 else if x.data.toList = M.wFetch then 5 else if x.data.toList = M.wGive then 6 else 0

theorem key_back {l : List UInt8} {x : ByteArray} : (l == x.toList) = decide (x.data.toList = l) := by
  rw [ByteArray.toList_eq, Bool.eq_iff_iff]
  simp only [beq_iff_eq, decide_eq_true_eq]
  exact ⟨fun h => h.symm, fun h => h.symm⟩

set_option maxHeartbeats 2000000 in
theorem l1At_words (g : Nat) (x : ByteArray) (w : World) (h : Holds w g wordsC) : Calls Tryz.prog 25 #[.slice (some ⟨g, 0, none⟩) 6 6, .string x] w fun r w' => r = .returned (.int .i64 (kd x - 1)) ∧ w = w' := by
  obtain ⟨p0, p1, p2, p3, p4, p5⟩ := h.six
  have k0 : ([99, 108, 97, 105, 109] == x.toList) = decide (x.data.toList = M.wClaim) := key_back
  have k1 : ([112, 117, 116] == x.toList) = decide (x.data.toList = M.wPut) := key_back
  have k2 : ([104, 105, 100, 101] == x.toList) = decide (x.data.toList = M.wHide) := key_back
  have k3 : ([115, 104, 111, 119] == x.toList) = decide (x.data.toList = M.wShow) := key_back
  have k4 : ([102, 101, 116, 99, 104] == x.toList) = decide (x.data.toList = M.wFetch) := key_back
  have k5 : ([103, 105, 118, 101] == x.toList) = decide (x.data.toList = M.wGive) := key_back
  clear h
  go_enter Tryz.func25, Tryz.ntmps25
  go_wp2
  go_loop [5] (fun i => i = .int .i64 0 ∨ (i = .int .i64 1 ∧ x.data.toList ≠ M.wClaim) ∨ (i = .int .i64 2 ∧ x.data.toList ≠ M.wClaim ∧ x.data.toList ≠ M.wPut) ∨ (i = .int .i64 3 ∧ x.data.toList ≠ M.wClaim ∧ x.data.toList ≠ M.wPut ∧ x.data.toList ≠ M.wHide) ∨
    (i = .int .i64 4 ∧ x.data.toList ≠ M.wClaim ∧ x.data.toList ≠ M.wPut ∧ x.data.toList ≠ M.wHide ∧ x.data.toList ≠ M.wShow) ∨ (i = .int .i64 5 ∧ x.data.toList ≠ M.wClaim ∧ x.data.toList ≠ M.wPut ∧ x.data.toList ≠ M.wHide ∧ x.data.toList ≠ M.wShow ∧ x.data.toList ≠ M.wFetch) ∨
    (i = .int .i64 6 ∧ x.data.toList ≠ M.wClaim ∧ x.data.toList ≠ M.wPut ∧ x.data.toList ≠ M.wHide ∧ x.data.toList ≠ M.wShow ∧ x.data.toList ≠ M.wFetch ∧ x.data.toList ≠ M.wGive)) (fun i => 6 - (intOf i).toNat)
  case atStart => exact .inl rfl
  case round =>
    rcases hrel with rfl | ⟨rfl, n0⟩ | ⟨rfl, n0, n1⟩ | ⟨rfl, n0, n1, n2⟩ | ⟨rfl, n0, n1, n2, n3⟩ | ⟨rfl, n0, n1, n2, n3, n4⟩ | ⟨rfl, n0, n1, n2, n3, n4, n5⟩
    · by_cases e : x.data.toList = M.wClaim
      · have HE : Hid (kd x - 1 = 0) := Lib.hid (by
          unfold kd
          rw [if_pos e]; rfl)
        have k0' : ([99, 108, 97, 105, 109] == x.toList) = true := by rw [k0]; simpa using e
        clear k0 k1 k2 k3 k4 k5
        go_wp2
        go_ret
        exact ⟨ret_int HE.out.symm, rfl⟩
      · have k0' : ([99, 108, 97, 105, 109] == x.toList) = false := by rw [k0]; simpa using e
        have HN := Lib.hid (show x.data.toList ≠ M.wClaim from e)
        clear k0 k1 k2 k3 k4 k5
        go_wp2
        go_round
        case rel => exact .inr (.inl ⟨rfl, HN.out⟩)
        case measure => simp [intOf]
    · by_cases e : x.data.toList = M.wPut
      · have HE : Hid (kd x - 1 = 1) := Lib.hid (by
          unfold kd
          rw [if_neg n0, if_pos e]; rfl)
        have k1' : ([112, 117, 116] == x.toList) = true := by rw [k1]; simpa using e
        clear k0 k1 k2 k3 k4 k5
        go_wp2
        go_ret
        exact ⟨ret_int HE.out.symm, rfl⟩
      · have k1' : ([112, 117, 116] == x.toList) = false := by rw [k1]; simpa using e
        have HN := Lib.hid (show x.data.toList ≠ M.wClaim ∧ x.data.toList ≠ M.wPut from ⟨n0, e⟩)
        clear k0 k1 k2 k3 k4 k5
        go_wp2
        go_round
        case rel => exact .inr (.inr (.inl ⟨rfl, HN.out⟩))
        case measure => simp [intOf]
    · by_cases e : x.data.toList = M.wHide
      · have HE : Hid (kd x - 1 = 2) := Lib.hid (by
          unfold kd
          rw [if_neg n0, if_neg n1, if_pos e]; rfl)
        have k2' : ([104, 105, 100, 101] == x.toList) = true := by rw [k2]; simpa using e
        clear k0 k1 k2 k3 k4 k5
        go_wp2
        go_ret
        exact ⟨ret_int HE.out.symm, rfl⟩
      · have k2' : ([104, 105, 100, 101] == x.toList) = false := by rw [k2]; simpa using e
        have HN := Lib.hid (show x.data.toList ≠ M.wClaim ∧ x.data.toList ≠ M.wPut ∧ x.data.toList ≠ M.wHide from ⟨n0, n1, e⟩)
        clear k0 k1 k2 k3 k4 k5
        go_wp2
        go_round
        case rel => exact .inr (.inr (.inr (.inl ⟨rfl, HN.out⟩)))
        case measure => simp [intOf]
    · by_cases e : x.data.toList = M.wShow
      · have HE : Hid (kd x - 1 = 3) := Lib.hid (by
          unfold kd
          rw [if_neg n0, if_neg n1, if_neg n2, if_pos e]; rfl)
        have k3' : ([115, 104, 111, 119] == x.toList) = true := by rw [k3]; simpa using e
        clear k0 k1 k2 k3 k4 k5
        go_wp2
        go_ret
        exact ⟨ret_int HE.out.symm, rfl⟩
      · have k3' : ([115, 104, 111, 119] == x.toList) = false := by rw [k3]; simpa using e
        have HN := Lib.hid (show x.data.toList ≠ M.wClaim ∧ x.data.toList ≠ M.wPut ∧ x.data.toList ≠ M.wHide ∧ x.data.toList ≠ M.wShow from ⟨n0, n1, n2, e⟩)
        clear k0 k1 k2 k3 k4 k5
        go_wp2
        go_round
        case rel => exact .inr (.inr (.inr (.inr (.inl ⟨rfl, HN.out⟩))))
        case measure => simp [intOf]
    · by_cases e : x.data.toList = M.wFetch
      · have HE : Hid (kd x - 1 = 4) := Lib.hid (by
          unfold kd
          rw [if_neg n0, if_neg n1, if_neg n2, if_neg n3, if_pos e]; rfl)
        have k4' : ([102, 101, 116, 99, 104] == x.toList) = true := by rw [k4]; simpa using e
        clear k0 k1 k2 k3 k4 k5
        go_wp2
        go_ret
        exact ⟨ret_int HE.out.symm, rfl⟩
      · have k4' : ([102, 101, 116, 99, 104] == x.toList) = false := by rw [k4]; simpa using e
        have HN := Lib.hid (show x.data.toList ≠ M.wClaim ∧ x.data.toList ≠ M.wPut ∧ x.data.toList ≠ M.wHide ∧ x.data.toList ≠ M.wShow ∧ x.data.toList ≠ M.wFetch from ⟨n0, n1, n2, n3, e⟩)
        clear k0 k1 k2 k3 k4 k5
        go_wp2
        go_round
        case rel => exact .inr (.inr (.inr (.inr (.inr (.inl ⟨rfl, HN.out⟩)))))
        case measure => simp [intOf]
    · by_cases e : x.data.toList = M.wGive
      · have HE : Hid (kd x - 1 = 5) := Lib.hid (by
          unfold kd
          rw [if_neg n0, if_neg n1, if_neg n2, if_neg n3, if_neg n4, if_pos e]; rfl)
        have k5' : ([103, 105, 118, 101] == x.toList) = true := by rw [k5]; simpa using e
        clear k0 k1 k2 k3 k4 k5
        go_wp2
        go_ret
        exact ⟨ret_int HE.out.symm, rfl⟩
      · have k5' : ([103, 105, 118, 101] == x.toList) = false := by rw [k5]; simpa using e
        have HN := Lib.hid (show x.data.toList ≠ M.wClaim ∧ x.data.toList ≠ M.wPut ∧ x.data.toList ≠ M.wHide ∧ x.data.toList ≠ M.wShow ∧ x.data.toList ≠ M.wFetch ∧ x.data.toList ≠ M.wGive from ⟨n0, n1, n2, n3, n4, e⟩)
        clear k0 k1 k2 k3 k4 k5
        go_wp2
        go_round
        case rel => exact .inr (.inr (.inr (.inr (.inr (.inr (⟨rfl, HN.out⟩))))))
        case measure => simp [intOf]
    · have HE : Hid (kd x - 1 = -1) := Lib.hid (by
        unfold kd
        rw [if_neg n0, if_neg n1, if_neg n2, if_neg n3, if_neg n4, if_neg n5]; rfl)
      clear k0 k1 k2 k3 k4 k5 n0 n1 n2 n3 n4 n5
      go_wp2
      go_ret
      exact ⟨ret_int HE.out.symm, rfl⟩
end Go.Proofs.YtiibklhalgookaaGreatDoor
