/- Proved: small facts that the law FnNames rests on; no condition. -/
import Derived.Test.YtbaghllkfeffoaaSameWalks
import Derived.Test.YtbaghllkfeffoaaMathB
import Derived.Test.YtbaghllkfeffoaaDraw
namespace Go.Proofs.Ytbaghllkfeffoaa
open Go.RowKit

theorem plainS_idem (s : ByteArray) : plainS (plainS s) = plainS s := by
  show (⟨(M.plain (M.plain s.data.toList).toArray.toList).toArray⟩ : ByteArray) = _
  rw [List.toList_toArray, M.plain_idem]; rfl

theorem plainS_name (s : ByteArray) (h : M.nameOk s.data.toList = true) : plainS s = s := by
  show (⟨(M.plain s.data.toList).toArray⟩ : ByteArray) = s
  rw [M.name_plain _ h]

theorem toList_inj {a b : ByteArray} (h : a.toList = b.toList) : a = b := by
  rw [ByteArray.toList_eq, ByteArray.toList_eq] at h
  cases a; cases b
  rw [Array.toList_inj] at h
  exact congrArg _ h

theorem big_any (a : Option Addr) (len cap : Nat) (w : World) : Calls Try.prog 8 #[.slice a len cap] w fun e w' => e = .returned (.bool (decide (4096 < len))) ∧ w = w' := by
  by_cases h : 4096 < len
  · go_enter Try.func8, Try.ntmps8
    go_wp2
    go_ret
    exact ⟨ret_bool (decide_eq_decide.2 (by omega)), rfl⟩
  · go_enter Try.func8, Try.ntmps8
    go_wp2
    go_ret
    exact ⟨ret_bool (decide_eq_decide.2 (by omega)), rfl⟩

theorem sameS_comm (a b : ByteArray) : sameS a b = sameS b a := by
  unfold sameS
  by_cases h : (plainS a).toList = (plainS b).toList
  · have e := toList_inj h
    rw [e]
  · rw [beq_eq_false_iff_ne.2 h, beq_eq_false_iff_ne.2 (Ne.symm h)]; simp

theorem sameS_true {a b : ByteArray} (h : sameS a b = true) : M.nameOk (plainS a).data.toList = true ∧ ((plainS a).toList == (plainS b).toList) = true := by
  unfold sameS at h; simpa using h

theorem implPlain_again (s : ByteArray) (w : World) (hs : s.size ≤ maxLen) :
    Calls Try.prog 10 #[.string (plainS s)] w fun e w' => e = .returned (.string (plainS s)) ∧ Below w.heap.size w w' := by
  have h := implPlain (plainS s) w (by rw [plainS_size]; exact hs)
  rw [plainS_idem] at h
  exact h

theorem CodeOk.later {w w' : World} {a : Option Addr} {len : Nat} (h : CodeOk w.heap.size w a len) (hb : Below w.heap.size w w') : CodeOk w'.heap.size w' a len := by
  intro j hj
  obtain ⟨b, off, n, ha, hlt, h0, h1, hc⟩ := h.kept hb.block j hj
  exact ⟨b, off, n, ha, Nat.lt_of_lt_of_le hlt hb.size, h0, h1, hc⟩

theorem next {w w1 w2 : World} (h : Below w.heap.size w w1) (k : Below w1.heap.size w1 w2) : Below w.heap.size w w2 := h.trans (k.mono h.size)
end Go.Proofs.Ytbaghllkfeffoaa
