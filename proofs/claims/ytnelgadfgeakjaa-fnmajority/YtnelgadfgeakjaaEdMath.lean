/- Proved: plain facts on editions; no program is named here; no condition. -/
import Derived.Test.YtnelgadfgeakjaaDigits
import Derived.Test.YtnelgadfgeakjaaSplit
namespace Go.Proofs.Ytnelgadfgeakjaa
namespace M

structure Ed where
  ma : Int
  mi : Int
  pa : Int
deriving DecidableEq

def inI (x lo hi : Int) : Bool := decide (lo ≤ x) && decide (x ≤ hi)
def edOk (e : Ed) : Bool := inI e.ma 0 99 && inI e.mi 0 99 && inI e.pa 0 99
def edText (e : Ed) : List UInt8 := intText e.ma ++ ([46] ++ (intText e.mi ++ ([46] ++ intText e.pa)))
def edShow (e : Ed) : List UInt8 := if edOk e then edText e else []
def older (a b : Ed) : Bool := if a.ma ≠ b.ma then decide (a.ma < b.ma) else if a.mi ≠ b.mi then decide (a.mi < b.mi) else decide (a.pa < b.pa)
def fits (h w : Ed) : Bool := edOk h && edOk w && decide (h.ma = w.ma) && !older h w
def zeroEd : Ed := ⟨0, 0, 0⟩
def edRead (l : List UInt8) : Ed × Bool :=
  match split 46 l with
  | [a, b, c] => if (rd a).2 && (rd b).2 && (rd c).2 && edOk ⟨(rd a).1, (rd b).1, (rd c).1⟩ then (⟨(rd a).1, (rd b).1, (rd c).1⟩, true) else (zeroEd, false)
  | _ => (zeroEd, false)

theorem older_iff (a b : Ed) : older a b = true ↔ a.ma < b.ma ∨ a.ma = b.ma ∧ (a.mi < b.mi ∨ a.mi = b.mi ∧ a.pa < b.pa) := by
  unfold older
  by_cases h1 : a.ma = b.ma
  · rw [if_neg (by simpa using h1)]
    by_cases h2 : a.mi = b.mi
    · rw [if_neg (by simpa using h2)]; simp; omega
    · rw [if_pos h2]; simp; omega
  · rw [if_pos h1]; simp; omega
theorem older_iff_f (a b : Ed) : older a b = false ↔ ¬ (a.ma < b.ma ∨ a.ma = b.ma ∧ (a.mi < b.mi ∨ a.mi = b.mi ∧ a.pa < b.pa)) := by
  rw [← older_iff]; simp
theorem ed_ext (a b : Ed) : a = b ↔ a.ma = b.ma ∧ a.mi = b.mi ∧ a.pa = b.pa := by
  cases a; cases b; simp
theorem older_irrefl (a : Ed) : older a a = false := by rw [older_iff_f]; omega
theorem older_asymm (a b : Ed) (h : older a b = true) : older b a = false := by rw [older_iff] at h; rw [older_iff_f]; omega
theorem older_trans (a b c : Ed) (h : older a b = true) (k : older b c = true) : older a c = true := by rw [older_iff] at h k ⊢; omega
theorem older_total (a b : Ed) (h : older a b = false) (k : older b a = false) : a = b := by rw [older_iff_f] at h k; rw [ed_ext]; omega
end M
end Go.Proofs.Ytnelgadfgeakjaa
