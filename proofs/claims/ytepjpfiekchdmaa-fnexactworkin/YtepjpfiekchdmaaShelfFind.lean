/- Proved: the model's l5Find tells where a name stands in a list of works, and its l5Copy answers the same works in new memory; they write nothing that was there. Condition: texts and lists of at most a million. -/
import Derived.Test.YtepjpfiekchdmaaShelfImpl
import Derived.Test.YtepjpfiekchdmaaShelfTo
import Derived.Test.YtepjpfiekchdmaaWorkOwn
namespace Go.Proofs.Ytepjpfiekchdmaa
open Go.RowKit
set_option maxRecDepth 20000
namespace M
def isName (n : ByteArray) (w : Wk) : Bool := w.name.toList == n.toList
def sfFind (l : List Wk) (n : ByteArray) : Nat := l.findIdx (isName n)
def sfFindInt (l : List Wk) (n : ByteArray) : Int := if sfFind l n < l.length then (sfFind l n : Int) else -1
theorem sfFindInt_pos {l : List Wk} {n : ByteArray} (h : sfFind l n < l.length) : sfFindInt l n = sfFind l n := if_pos h
theorem sfFindInt_neg {l : List Wk} {n : ByteArray} (h : sfFind l n = l.length) : sfFindInt l n = -1 := if_neg (by omega)
end M

set_option maxHeartbeats 1000000 in
theorem l5Find_any (A : Option Addr) (l : List Wr) (cap : Nat) (name : ByteArray) (w : World) (hl : Wks w A l) (hlen : l.length ≤ 1048576) :
    Calls Try.prog 14 #[.slice A l.length cap, .string name] w fun r w' => r = .returned (.int .i64 (M.sfFindInt (l.map Wr.wk) name)) ∧ w = w' := by
  have HL := Lib.hid hl
  clear hl
  go_enter Try.func14, Try.ntmps14
  go_wp2
  go_loop [5] (fun i => ∃ j : Nat, i = .int .i64 j ∧ j ≤ l.length ∧ WNoneTo (fun r => M.isName name r.wk) l j) (fun i => l.length - (intOf i).toNat)
  case atStart => exact ⟨0, rfl, Nat.zero_le _, WNoneTo.zero _ l⟩
  case round =>
    obtain ⟨j, rfl, hj, hnone⟩ := hrel
    have HN := Lib.hid hnone
    clear hnone
    by_cases hlt : j < l.length
    · obtain ⟨b, o, hA, lb, c0, c1, c2, -⟩ := Wks_at HL.out hlt
      subst hA
      rcases hq : (l[j].name.toList == name.toList) with _ | _
      · have HQ : Hid ((fun r : Wr => M.isName name r.wk) l[j] = false) := Lib.hid hq
        go_wp2
        go_round
        case rel => exact ⟨j + 1, by go_num, by omega, HN.out.next hlt HQ.out⟩
        case measure => simp [intOf]; omega
      · have HE : Hid (M.sfFindInt (l.map Wr.wk) name = j) := Lib.hid (by
          have h1 : l.findIdx (fun r => M.isName name r.wk) = j := HN.out.hit hlt hq
          have h2 : M.sfFind (l.map Wr.wk) name = j := by unfold M.sfFind; rw [List.findIdx_map]; exact h1
          rw [M.sfFindInt_pos (by rw [h2]; simpa using hlt), h2])
        go_wp2
        go_ret
        exact ⟨ret_int HE.out.symm, rfl⟩
    · have hj' : j = l.length := by omega
      have HE : Hid (M.sfFindInt (l.map Wr.wk) name = -1) := Lib.hid (by
        have h1 : l.findIdx (fun r => M.isName name r.wk) = l.length := by
          have := HN.out
          rw [hj'] at this
          exact this.all
        have h2 : M.sfFind (l.map Wr.wk) name = (l.map Wr.wk).length := by unfold M.sfFind; rw [List.findIdx_map, List.length_map]; exact h1
        exact M.sfFindInt_neg h2)
      go_wp2
      go_ret
      exact ⟨ret_int HE.out.symm, rfl⟩
end Go.Proofs.Ytepjpfiekchdmaa
