/- Proved: the model's l1Int writes a number's digits, at every number of 64 bits; it writes nothing that was there. -/
import Derived.Test.YtiibklhalgookaaGreatDoorCore
import Derived.Test.YtiibklhalgookaaGreatDoorDigits
import Derived.Test.YtiibklhalgookaaGreatDoorBytes
namespace Go.Proofs.YtiibklhalgookaaGreatDoor
open Go.RowKit

theorem one_byte (w : World) (d : Nat) (hd : d < 10) (x : Int) (hx : x = 48 + (d : Int)) :
    (convert 22 9 (.slice (some ⟨w.heap.size, 0, none⟩) 1 1)).run Tryz.prog (w.alloc (.cells #[.int .u8 x] 5)) = .ok (.string ⟨#[M.dig d]⟩) (w.alloc (.cells #[.int .u8 x] 5)) := by
  refine run_convert_bytes_back _ 22 9 5 ⟨w.heap.size, 0, none⟩ 1 [M.dig d] Tryz.underlying22 Tryz.underlying5 Tryz.underlying9 ?_
  intro j hj
  have hj0 : j = 0 := by simpa using hj
  subst hj0
  show (w.alloc _).cell? ⟨w.heap.size, 0, none⟩ = _
  rw [World.cell?_alloc_mark]
  simp [M.dig_toNat d hd, hx]

theorem cat_mk (a b : List UInt8) : (⟨a.toArray⟩ ++ ⟨b.toArray⟩ : ByteArray) = ⟨(a ++ b).toArray⟩ := by
  apply ByteArray.ext; simp

def blank : Value → Nat
  | .string s => if s.size = 0 then 1 else 0
  | _ => 0

theorem blank_nil : blank (.string ⟨#[]⟩) = 1 := rfl
theorem blank_cons (c : UInt8) (r : List UInt8) : blank (.string ⟨(c :: r).toArray⟩) = 0 := rfl
theorem ret_str {a b : List UInt8} (h : a = b) : Ending.returned (.string ⟨a.toArray⟩) = .returned (.string ⟨b.toArray⟩) := by rw [h]

set_option maxRecDepth 20000 in
set_option maxHeartbeats 1000000 in
theorem l1Int_pos (N : Nat) (hN : N < 9223372036854775808) (w : World) :
    Calls Tryz.prog 32 #[.int .i64 N] w fun e w' => e = .returned (.string ⟨(M.digs N).toArray⟩) ∧ Below w.heap.size w w' := by
  go_enter Tryz.func32, Tryz.ntmps32
  go_wp2
  go_loopw [0, 3] (fun n s wr => ∃ (m : Nat) (l : List UInt8), n = .int .i64 m ∧ s = .string ⟨l.toArray⟩ ∧ m ≤ N ∧ M.Irel N m l ∧ Below w.heap.size w wr) (fun n s _ => 2 * (intOf n).toNat + blank s)
  case atStart => exact ⟨N, [], rfl, rfl, Nat.le_refl _, M.Irel_start N, Below.refl _ _⟩
  case round =>
    obtain ⟨m, l, rfl, rfl, hm, hir, hbel⟩ := hrel
    have hlen := hir.1
    have HI := Lib.hid hir
    clear hir
    rcases l with _ | ⟨c, r⟩
    · have HS := Lib.hid (M.Irel_step (by omega) hm HI.out (.inl rfl))
      have hb1 := one_byte wr (m % 10) (by omega) (48 + (m : Int) % 10) (by omega)
      go_wp2
      go_roundw
      case rel =>
        refine ⟨m / 10, _, ?_, ?_, ?_, HS.out, ?_⟩
        · go_num
        · exact congrArg Value.string (cat_mk [M.dig (m % 10)] [])
        · omega
        · exact hbel.alloc hbel.size _
      case measure =>
        rw [show (⟨#[M.dig (m % 10)]⟩ ++ ⟨#[]⟩ : ByteArray) = _ from cat_mk [M.dig (m % 10)] [], List.append_nil, blank_cons, blank_nil]
        simp [intOf]
        omega
    · have hrl : r.length ≤ 19 := by simpa using hlen
      by_cases h0 : m = 0
      · have HE := Lib.hid (M.Irel_end (h0 ▸ HI.out) (by simp))
        have h0' : ((m : Int) == 0) = true := by simp; omega
        have h0'' : ((m : Int) != 0) = false := by simp; omega
        go_wp2
        go_ret
        exact ⟨ret_str HE.out, hbel⟩
      · have h0' : ((m : Int) == 0) = false := by simp; omega
        have h0'' : ((m : Int) != 0) = true := by simp; omega
        have HS := Lib.hid (M.Irel_step (by omega) hm HI.out (.inr h0))
        have hb1 := one_byte wr (m % 10) (by omega) (48 + (m : Int) % 10) (by omega)
        go_wp2
        go_roundw
        case rel =>
          refine ⟨m / 10, _, ?_, ?_, ?_, HS.out, ?_⟩
          · go_num
          · exact congrArg Value.string (cat_mk [M.dig (m % 10)] (c :: r))
          · omega
          · exact hbel.alloc hbel.size _
        case measure =>
          rw [show (⟨#[M.dig (m % 10)]⟩ ++ ⟨(c :: r).toArray⟩ : ByteArray) = _ from cat_mk [M.dig (m % 10)] (c :: r), List.singleton_append, blank_cons, blank_cons]
          simp [intOf]
          omega

theorem nonempty_of (s : ByteArray) (h : 0 < s.size) : s.toList.isEmpty = false := by
  rw [ByteArray.toList_eq, List.isEmpty_eq_false_iff]
  intro e
  have := congrArg List.length e
  simp at this
  have hz : s.size = 0 := by rw [← ByteArray.size_data, this]; rfl
  omega
theorem ret_rd {p : Int × Bool} {a : Int} {b : Bool} (h : p = (a, b)) : Ending.returned (.tuple #[.int .i64 a, .bool b]) = .returned (.tuple #[.int .i64 p.1, .bool p.2]) := by rw [h]

set_option maxHeartbeats 1000000 in
theorem l1Read_neg (s : ByteArray) (w : World) (h0 : 0 < s.size) (hc : (s[0].toNat : Int) = 45) (hl1 : 2 ≤ s.size) (hl9 : s.size ≤ 10) :
    Calls Tryz.prog 29 #[.string s] w fun e w' => e = .returned (.tuple #[.int .i64 (M.rd s.data.toList).1, .bool (M.rd s.data.toList).2]) ∧ w = w' := by
  have hne : s.toList.isEmpty = false := nonempty_of s h0
  have hc' : ((s[0].toNat : Int) == 45) = true := by simpa using hc
  have HC : Hid (s.data.toList.head?.map UInt8.toNat = some 45) := Lib.hid (by have := M.head_at s 0 h0; rw [List.drop_zero] at this; rw [this]; congr 1; omega)
  clear hc
  go_enter Tryz.func29, Tryz.ntmps29
  go_wp2
  go_loop [6, 7] (fun n k => ∃ j : Nat, j + 1 ≤ s.size ∧ k = .int .i64 ((j : Int) + 1) ∧ n = .int .i64 (M.valAt s 1 j) ∧ M.digAt s 1 j = true) (fun _ k => s.size - (intOf k).toNat)
  case atStart => exact ⟨0, by omega, by go_num, rfl, rfl⟩
  case round =>
    obtain ⟨j, hj, rfl, rfl, hall⟩ := hrel
    have HA := Lib.hid hall
    clear hall
    have hv : M.valAt s 1 j < 1000000000 := Nat.lt_of_lt_of_le (M.valOf_take9 (s.data.toList.drop 1) j HA.out) (Nat.le_trans (Nat.pow_le_pow_right (by omega) (show j ≤ 9 by omega)) (by decide))
    by_cases hlt : j + 1 < s.size
    · have hsn := M.take_drop_snoc s 1 j hlt
      by_cases hd : M.isDig s[j + 1] = true
      · have HV : Hid (M.valAt s 1 (j + 1) = M.valAt s 1 j * 10 + (s[j + 1].toNat - 48)) := Lib.hid (by unfold M.valAt; rw [hsn]; exact M.valOf_snoc _ _)
        have HB : Hid (M.digAt s 1 (j + 1) = true) := Lib.hid (by have ha := HA.out; unfold M.digAt at ha ⊢; rw [hsn, List.all_append, ha]; simp; exact hd)
        have hd1 : 48 ≤ (s[j + 1].toNat : Int) ∧ (s[j + 1].toNat : Int) ≤ 57 := by simp [M.isDig] at hd; omega
        obtain ⟨hd1, hd2⟩ := hd1
        clear hd hsn
        go_wp2
        go_round
        case rel => exact ⟨j + 1, by omega, by go_num, by rw [HV.out]; go_num, HB.out⟩
        case measure => simp [intOf]; omega
      · have HN := Lib.hid (M.rd_neg_none s.data.toList HC.out (.inr (M.natRead_none _ (.inr (.inr (.inl (M.nodig s 1 j hlt (by simpa using hd))))))))
        have hd1 : (s[j + 1].toNat : Int) < 48 ∨ 57 < (s[j + 1].toNat : Int) := by simp [M.isDig] at hd; omega
        clear hd hsn
        rcases hd1 with hd1 | hd1
        · go_wp2
          go_ret2
          exact ⟨ret_rd HN.out, rfl⟩
        · have hd2 : decide ((s[j + 1].toNat : Int) < 48) = false := by simp; omega
          go_wp2
          go_ret2
          exact ⟨ret_rd HN.out, rfl⟩
    · have hj' : j + 1 = s.size := by omega
      have HJ := Lib.hid hj'
      clear hj'
      by_cases hz : (s[1].toNat : Int) = 48
      · have HN := Lib.hid (M.rd_neg_none s.data.toList HC.out (.inl (by rw [M.head_at s 1 (by omega)]; congr 1; omega)))
        have hz' : ((s[1].toNat : Int) == 48) = true := by simpa using hz
        clear hz
        go_wp2
        go_ret2
        exact ⟨ret_rd HN.out, rfl⟩
      · have HN := Lib.hid (M.rd_neg_some s.data.toList HC.out (by rw [M.head_at s 1 (by omega)]; intro e; injection e with e; omega) (M.natRead_some _ (by rw [M.drop_len]; omega) (by rw [M.drop_len]; omega) (M.take_all s 1 j (by omega) ▸ HA.out) (by rw [M.head_at s 1 (by omega)]; rintro ⟨e, _⟩; injection e with e; omega)))
        have hz' : ((s[1].toNat : Int) == 48) = false := by simpa using hz
        clear hz
        have HT : Hid (M.valAt s 1 j = M.valOf (s.data.toList.drop 1)) := Lib.hid (by unfold M.valAt; rw [M.take_all s 1 j (by omega)])
        go_wp2
        go_ret2
        exact ⟨ret_rd (by rw [HN.out, ← HT.out]), rfl⟩

set_option maxHeartbeats 1000000 in
theorem l1Read_pos (s : ByteArray) (w : World) (h0 : 0 < s.size) (hc : (s[0].toNat : Int) ≠ 45) (hl1 : 1 ≤ s.size) (hl9 : s.size ≤ 9) :
    Calls Tryz.prog 29 #[.string s] w fun e w' => e = .returned (.tuple #[.int .i64 (M.rd s.data.toList).1, .bool (M.rd s.data.toList).2]) ∧ w = w' := by
  have hne : s.toList.isEmpty = false := nonempty_of s h0
  have hc' : ((s[0].toNat : Int) == 45) = false := by simpa using hc
  have HC : Hid (s.data.toList.head?.map UInt8.toNat ≠ some 45) := Lib.hid (by have := M.head_at s 0 h0; rw [List.drop_zero] at this; rw [this]; intro e; injection e with e; omega)
  clear hc
  go_enter Tryz.func29, Tryz.ntmps29
  go_wp2
  go_loop [6, 7] (fun n k => ∃ j : Nat, j + 0 ≤ s.size ∧ k = .int .i64 ((j : Int)) ∧ n = .int .i64 (M.valAt s 0 j) ∧ M.digAt s 0 j = true) (fun _ k => s.size - (intOf k).toNat)
  case atStart => exact ⟨0, by omega, by go_num, rfl, rfl⟩
  case round =>
    obtain ⟨j, hj, rfl, rfl, hall⟩ := hrel
    have HA := Lib.hid hall
    clear hall
    have hv : M.valAt s 0 j < 1000000000 := Nat.lt_of_lt_of_le (M.valOf_take9 (s.data.toList.drop 0) j HA.out) (Nat.le_trans (Nat.pow_le_pow_right (by omega) (show j ≤ 9 by omega)) (by decide))
    by_cases hlt : j < s.size
    · have hsn := M.take_drop_snoc s 0 j hlt
      by_cases hd : M.isDig s[j] = true
      · have HV : Hid (M.valAt s 0 (j + 1) = M.valAt s 0 j * 10 + (s[j].toNat - 48)) := Lib.hid (by unfold M.valAt; rw [hsn]; exact M.valOf_snoc _ _)
        have HB : Hid (M.digAt s 0 (j + 1) = true) := Lib.hid (by have ha := HA.out; unfold M.digAt at ha ⊢; rw [hsn, List.all_append, ha]; simp; exact hd)
        have hd1 : 48 ≤ (s[j].toNat : Int) ∧ (s[j].toNat : Int) ≤ 57 := by simp [M.isDig] at hd; omega
        obtain ⟨hd1, hd2⟩ := hd1
        clear hd hsn
        go_wp2
        go_round
        case rel => exact ⟨j + 1, by omega, by go_num, by rw [HV.out]; go_num, HB.out⟩
        case measure => simp [intOf]; omega
      · have HN := Lib.hid (M.rd_pos_none s.data.toList HC.out (M.natRead_none _ (.inr (.inr (.inl (M.nodig s 0 j hlt (by simpa using hd)))))))
        have hd1 : (s[j].toNat : Int) < 48 ∨ 57 < (s[j].toNat : Int) := by simp [M.isDig] at hd; omega
        clear hd hsn
        rcases hd1 with hd1 | hd1
        · go_wp2
          go_ret2
          exact ⟨ret_rd HN.out, rfl⟩
        · have hd2 : decide ((s[j].toNat : Int) < 48) = false := by simp; omega
          go_wp2
          go_ret2
          exact ⟨ret_rd HN.out, rfl⟩
    · have hj' : j + 0 = s.size := by omega
      have HJ := Lib.hid hj'
      clear hj'
      by_cases hz : (s[0].toNat : Int) = 48 ∧ 1 < s.size
      · have HN := Lib.hid (M.rd_pos_none s.data.toList HC.out (M.natRead_none _ (.inr (.inr (.inr ⟨by have := M.head_at s 0 h0; rw [List.drop_zero] at this; rw [this]; congr 1; omega, by rw [M.len0]; exact hz.2⟩)))))
        have hz' : ((s[0].toNat : Int) == 48) = true := by simpa using hz.1
        have hz2 := hz.2
        clear hz
        go_wp2
        go_ret2
        exact ⟨ret_rd HN.out, rfl⟩
      · have HN := Lib.hid (M.rd_pos_some s.data.toList HC.out (M.natRead_some _ (by rw [M.len0]; omega) (by rw [M.len0]; omega) (by have := M.take_all s 0 j (by omega); rw [List.drop_zero] at this; rw [← this]; exact HA.out) (by have := M.head_at s 0 h0; rw [List.drop_zero] at this; rw [this, M.len0]; rintro ⟨e, e2⟩; injection e with e; omega)))
        have HT : Hid (M.valAt s 0 j = M.valOf s.data.toList) := Lib.hid (by unfold M.valAt; rw [M.take_all s 0 j (by omega), List.drop_zero])
        by_cases hz1 : (s[0].toNat : Int) = 48
        · have hz' : ((s[0].toNat : Int) == 48) = true := by simpa using hz1
          have hz2 : s.size ≤ 1 := by omega
          clear hz hz1
          go_wp2
          go_ret2
          exact ⟨ret_rd (by rw [HN.out, ← HT.out]), rfl⟩
        · have hz' : ((s[0].toNat : Int) == 48) = false := by simpa using hz1
          clear hz hz1
          go_wp2
          go_ret2
          exact ⟨ret_rd (by rw [HN.out, ← HT.out]), rfl⟩

set_option maxHeartbeats 1000000 in
theorem l1Read_any (s : ByteArray) (w : World) (hs : s.size ≤ maxLen) :
    Calls Tryz.prog 29 #[.string s] w fun e w' => e = .returned (.tuple #[.int .i64 (M.rd s.data.toList).1, .bool (M.rd s.data.toList).2]) ∧ w = w' := by
  unfold maxLen at hs
  by_cases h0 : 0 < s.size
  · have hne : s.toList.isEmpty = false := nonempty_of s h0
    by_cases hc : (s[0].toNat : Int) = 45
    · by_cases hl : 2 ≤ s.size ∧ s.size ≤ 10
      · exact l1Read_neg s w h0 hc hl.1 hl.2
      · have hc' : ((s[0].toNat : Int) == 45) = true := by simpa using hc
        have HN := Lib.hid (M.rd_neg_none s.data.toList (by have := M.head_at s 0 h0; rw [List.drop_zero] at this; rw [this]; congr 1; omega) (.inr (M.natRead_none _ (by rw [M.drop_len]; omega))))
        clear hc
        by_cases h2 : s.size = 1
        · have h2' : s.size ≤ 1 := by omega
          clear h2 hl
          go_enter Tryz.func29, Tryz.ntmps29
          go_wp2
          go_ret2
          exact ⟨ret_rd HN.out, rfl⟩
        · have h2' : 10 < s.size := by omega
          clear h2 hl
          go_enter Tryz.func29, Tryz.ntmps29
          go_wp2
          go_ret2
          exact ⟨ret_rd HN.out, rfl⟩
    · by_cases hl : s.size ≤ 9
      · exact l1Read_pos s w h0 hc (by omega) hl
      · have hc' : ((s[0].toNat : Int) == 45) = false := by simpa using hc
        have HN := Lib.hid (M.rd_pos_none s.data.toList (by have := M.head_at s 0 h0; rw [List.drop_zero] at this; rw [this]; intro e; injection e with e; omega) (M.natRead_none _ (by rw [M.len0]; omega)))
        clear hc
        go_enter Tryz.func29, Tryz.ntmps29
        go_wp2
        go_ret2
        exact ⟨ret_rd HN.out, rfl⟩
  · have hz : s.size = 0 := by omega
    have hl : s.data.toList = [] := List.eq_nil_of_length_eq_zero (by rw [M.len0]; exact hz)
    have HN : Hid (M.rd s.data.toList = (0, false)) := Lib.hid (by rw [hl]; rfl)
    have hne : s.toList.isEmpty = true := by rw [ByteArray.toList_eq, hl]; rfl
    clear hl
    go_enter Tryz.func29, Tryz.ntmps29
    go_wp2
    go_ret2
    exact ⟨ret_rd HN.out, rfl⟩
end Go.Proofs.YtiibklhalgookaaGreatDoor
