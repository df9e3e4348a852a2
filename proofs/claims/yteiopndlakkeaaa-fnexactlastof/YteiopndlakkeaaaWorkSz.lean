/- Proved: the laws' helpers on copies and works (their size, their copy, their likeness) answer plain Lean functions; they write nothing that was there. -/
import Derived.Test.YteiopndlakkeaaaFlat
import Derived.Test.YteiopndlakkeaaaWorkDefs
import Derived.Test.YteiopndlakkeaaaEdImpl
namespace Go.Proofs.Yteiopndlakkeaaa
open Go.RowKit

abbrev cpL (c : M.Cp) : List Value := [.int .i64 c.ed.ma, .int .i64 c.ed.mi, .int .i64 c.ed.pa, .string c.page, .bool c.hidden]
abbrev cpV (c : M.Cp) : Value := .agg #[.int .i64 c.ed.ma, .int .i64 c.ed.mi, .int .i64 c.ed.pa, .string c.page, .bool c.hidden]
theorem cpL_len (c : M.Cp) : (cpL c).length = 5 := rfl
abbrev Cps (w : World) (A : Option Addr) (l : List M.Cp) : Prop := Flat cpL 5 w A l

theorem Cps_at {w : World} {A : Option Addr} {l : List M.Cp} {i : Nat} (h : Cps w A l) (hi : i < l.length) : ∃ b o, A = some ⟨b, o, none⟩ ∧ b < w.heap.size ∧
    w.cell? ⟨b, o + i * 5, none⟩ = some (.int .i64 l[i].ed.ma) ∧ w.cell? ⟨b, o + i * 5 + 1, none⟩ = some (.int .i64 l[i].ed.mi) ∧ w.cell? ⟨b, o + i * 5 + 2, none⟩ = some (.int .i64 l[i].ed.pa) ∧ w.cell? ⟨b, o + i * 5 + 3, none⟩ = some (.string l[i].page) ∧ w.cell? ⟨b, o + i * 5 + 4, none⟩ = some (.bool l[i].hidden) := by
  obtain ⟨b, o, rfl, hb, h⟩ := h.at hi
  exact ⟨b, o, rfl, hb, h 0 _ rfl, h 1 _ rfl, h 2 _ rfl, h 3 _ rfl, h 4 _ rfl⟩

theorem addr_add (b o n : Nat) : (⟨b, o, none⟩ : Addr).add n = ⟨b, o + n, none⟩ := by
  unfold Addr.add; split
  · subst_vars; rfl
  · rfl

set_option maxHeartbeats 400000 in
theorem szCopy_small (c : M.Cp) (n : Int) (w : World) (h1 : n ≤ 1048576) (h : (c.page.size : Int) ≤ n) :
    Calls Try.prog 80 #[cpV c, .int .i64 n] w fun r w' => r = .returned (.int .i64 (n - c.page.size)) ∧ Below w.heap.size w w' := by
  go_enter Try.func80, Try.ntmps80
  go_wp2
  go_ret
  exact ⟨rfl, (Below.refl _ _).alloc (Nat.le_refl _) _⟩
set_option maxHeartbeats 400000 in
theorem szCopy_big (c : M.Cp) (n : Int) (w : World) (h0 : 0 ≤ n) (hp : c.page.size ≤ maxLen) (h : n < (c.page.size : Int)) :
    Calls Try.prog 80 #[cpV c, .int .i64 n] w fun r w' => r = .returned (.int .i64 (-1)) ∧ Below w.heap.size w w' := by
  unfold maxLen at hp
  go_enter Try.func80, Try.ntmps80
  go_wp2
  go_ret
  exact ⟨rfl, (Below.refl _ _).alloc (Nat.le_refl _) _⟩

set_option maxHeartbeats 1000000 in
theorem szCopyS_small (A : Option Addr) (l : List M.Cp) (cap : Nat) (n : Int) (w : World) (h1 : n ≤ 1048576) (hl : Cps w A l) (h : (l.length + M.szPages l : Int) ≤ n) :
    Calls Try.prog 66 #[.slice A l.length cap, .int .i64 n] w fun r w' => r = .returned (.int .i64 (n - l.length - M.szPages l)) ∧ Below w.heap.size w w' := by
  go_enter Try.func66, Try.ntmps66
  go_wp2
  go_loopw [1, 5] (fun x i wr => ∃ j : Nat, i = .int .i64 j ∧ j ≤ l.length ∧ x = .int .i64 (n - l.length - M.szPages (l.take j)) ∧ Cps wr A l ∧ Below w.heap.size w wr) (fun _ i _ => l.length - (intOf i).toNat)
  case atStart => exact ⟨0, rfl, Nat.zero_le _, by simp [M.szPages], hl, Below.refl _ _⟩
  case round =>
    obtain ⟨j, rfl, hj, rfl, hl', hb⟩ := hrel
    have hle := M.szPages_take_le l j
    by_cases hlt : j < l.length
    · have hs := M.szPages_take l j hlt
      have hle' := M.szPages_take_le l (j + 1)
      have HS := Lib.hid hs
      have hp : (l[j].page.size : Int) ≤ n - l.length - M.szPages (l.take j) := by omega
      have HP := Lib.hid hp
      clear hs hp
      obtain ⟨b, o, rfl, hbl, c0, c1, c2, c3, c4⟩ := Cps_at hl' hlt
      go_wp2_with fail
      refine (szCopy_small l[j] _ _ (by omega) HP.out).mono ?_
      rintro r w1 ⟨rfl, b1⟩
      have h0 : 0 ≤ n - (l.length : Int) - (M.szPages (l.take j) : Int) - (l[j].page.size : Int) := by have := HP.out; omega
      go_wp2
      go_roundw
      case rel => exact ⟨j + 1, by go_num, by omega, by rw [HS.out]; go_num, hl'.below b1, next hb b1⟩
      case measure => simp [intOf]; omega
    · have hj' : j = l.length := by omega
      subst hj'
      go_wp2
      go_ret
      exact ⟨ret_int (by rw [List.take_length]), hb⟩

set_option maxHeartbeats 1000000 in
theorem szCopyS_big (A : Option Addr) (l : List M.Cp) (cap : Nat) (n : Int) (w : World) (h0 : 0 ≤ n) (h1 : n ≤ 1048576) (hl : Cps w A l) (hlen : l.length ≤ maxLen) (hp : ∀ c ∈ l, c.page.size ≤ maxLen) (h : n < (l.length + M.szPages l : Int)) :
    Calls Try.prog 66 #[.slice A l.length cap, .int .i64 n] w fun r w' => r = .returned (.int .i64 (-1)) ∧ Below w.heap.size w w' := by
  unfold maxLen at hlen
  by_cases hshort : n < l.length
  · go_enter Try.func66, Try.ntmps66
    go_wp2
    go_ret
    exact ⟨rfl, Below.refl _ _⟩
  · go_enter Try.func66, Try.ntmps66
    go_wp2
    go_loopw [1, 5] (fun x i wr => ∃ j : Nat, i = .int .i64 j ∧ j ≤ l.length ∧ (M.szPages (l.take j) : Int) ≤ n - l.length ∧ x = .int .i64 (n - l.length - M.szPages (l.take j)) ∧ Cps wr A l ∧ Below w.heap.size w wr) (fun _ i _ => l.length - (intOf i).toNat)
    case atStart => exact ⟨0, rfl, Nat.zero_le _, by simp [M.szPages]; omega, by simp [M.szPages], hl, Below.refl _ _⟩
    case round =>
      obtain ⟨j, rfl, hj, hle, rfl, hl', hb⟩ := hrel
      by_cases hlt : j < l.length
      · have HS := Lib.hid (M.szPages_take l j hlt)
        have hpj := hp l[j] (List.getElem_mem hlt)
        obtain ⟨b, o, rfl, hbl, c0, c1, c2, c3, c4⟩ := Cps_at hl' hlt
        by_cases hfit : (l[j].page.size : Int) ≤ n - l.length - M.szPages (l.take j)
        · have HP := Lib.hid hfit
          clear hfit hpj
          go_wp2_with fail
          refine (szCopy_small l[j] _ _ (by omega) HP.out).mono ?_
          rintro r w1 ⟨rfl, b1⟩
          have h0 : 0 ≤ n - (l.length : Int) - (M.szPages (l.take j) : Int) - (l[j].page.size : Int) := by have := HP.out; omega
          go_wp2
          go_roundw
          case rel => exact ⟨j + 1, by go_num, by omega, by rw [HS.out]; simp; omega, by rw [HS.out]; go_num, hl'.below b1, next hb b1⟩
          case measure => simp [intOf]; omega
        · have HP : Hid (n - l.length - M.szPages (l.take j) < (l[j].page.size : Int)) := Lib.hid (by omega)
          clear hfit
          go_wp2_with fail
          refine (szCopy_big l[j] _ _ (by omega) hpj HP.out).mono ?_
          rintro r w1 ⟨rfl, b1⟩
          go_wp2
          go_ret
          exact ⟨rfl, next hb b1⟩
      · have hj' : j = l.length := by omega
        subst hj'
        rw [List.take_length] at hle
        omega

abbrev wkL (name : ByteArray) (owner : Int) (A : Option Addr) (n c : Nat) : Array Value := #[.string name, .int .i64 owner, .slice A n c]
abbrev wkV (name : ByteArray) (owner : Int) (A : Option Addr) (n c : Nat) : Value := .agg (wkL name owner A n c)

set_option maxHeartbeats 1000000 in
theorem szWork_small (name : ByteArray) (owner : Int) (A : Option Addr) (l : List M.Cp) (cap : Nat) (n : Int) (w : World) (h1 : n ≤ 1048576) (hl : Cps w A l) (h : (name.size + (l.length + M.szPages l) : Int) ≤ n) :
    Calls Try.prog 50 #[wkV name owner A l.length cap, .int .i64 n] w fun r w' => r = .returned (.int .i64 (n - name.size - l.length - M.szPages l)) ∧ Below w.heap.size w w' := by
  have b0 : Below w.heap.size w (w.alloc (.cells (wkL name owner A l.length cap) 89)) := (Below.refl _ _).alloc (Nat.le_refl _) _
  go_enter Try.func50, Try.ntmps50
  go_wp2_with fail
  refine (szCopyS_small A l cap _ _ (by omega) (hl.alloc _) (by omega)).mono ?_
  rintro r w1 ⟨rfl, b1⟩
  have h0 : 0 ≤ n - (name.size : Int) - (l.length : Int) - (M.szPages l : Int) := by omega
  go_wp2
  go_ret
  exact ⟨rfl, next b0 b1⟩
set_option maxHeartbeats 1000000 in
theorem szWork_big (name : ByteArray) (owner : Int) (A : Option Addr) (l : List M.Cp) (cap : Nat) (n : Int) (w : World) (h0 : 0 ≤ n) (h1 : n ≤ 1048576) (hl : Cps w A l) (hn : name.size ≤ maxLen) (hlen : l.length ≤ maxLen) (hp : ∀ c ∈ l, c.page.size ≤ maxLen) (h : n < (name.size + (l.length + M.szPages l) : Int)) :
    Calls Try.prog 50 #[wkV name owner A l.length cap, .int .i64 n] w fun r w' => r = .returned (.int .i64 (-1)) ∧ Below w.heap.size w w' := by
  have b0 : Below w.heap.size w (w.alloc (.cells (wkL name owner A l.length cap) 89)) := (Below.refl _ _).alloc (Nat.le_refl _) _
  have hn' := hn
  unfold maxLen at hn'
  by_cases hshort : n < (name.size : Int)
  · go_enter Try.func50, Try.ntmps50
    go_wp2
    go_ret
    exact ⟨rfl, b0⟩
  · go_enter Try.func50, Try.ntmps50
    go_wp2_with fail
    refine (szCopyS_big A l cap _ _ (by omega) (by omega) (hl.alloc _) hlen hp (by omega)).mono ?_
    rintro r w1 ⟨rfl, b1⟩
    go_wp2
    go_ret
    exact ⟨rfl, next b0 b1⟩
end Go.Proofs.Yteiopndlakkeaaa
