/- Proved: what deeds are, in plain Lean; no program is named here; no condition. -/
import Derived.Test.YtnelgadfgeakjaaMath
import Derived.Test.YtnelgadfgeakjaaEdMath
import Derived.Test.YtnelgadfgeakjaaEdMathB
namespace Go.Proofs.Ytnelgadfgeakjaa
namespace M

structure Dd where
  kind : Int
  name : ByteArray
  ed : Ed
  page : ByteArray
  who : Int
deriving DecidableEq

def nilB : ByteArray := ⟨#[]⟩
def mkB (l : List UInt8) : ByteArray := ⟨l.toArray⟩
def zeroDd : Dd := ⟨0, nilB, zeroEd, nilB, 0⟩

def deedOk (d : Dd) : Bool :=
  nameOk d.name.data.toList && edOk d.ed && pageOk d.page.data.toList && inI d.who 0 3 && (decide (d.kind = 2) || decide (d.page.size = 0)) &&
    (if d.kind = 1 then decide (d.ed = zeroEd) else if d.kind = 5 then decide (d.who = 0) else if d.kind = 6 then decide (d.ed.mi = 0) && decide (d.ed.pa = 0) else inI d.kind 2 4)

def wClaim : List UInt8 := [99, 108, 97, 105, 109]
def wPut : List UInt8 := [112, 117, 116]
def wHide : List UInt8 := [104, 105, 100, 101]
def wShow : List UInt8 := [115, 104, 111, 119]
def wFetch : List UInt8 := [102, 101, 116, 99, 104]
def wGive : List UInt8 := [103, 105, 118, 101]
def pageText (p : ByteArray) : List UInt8 := if p.size = 0 then [45] else p.data.toList
def pageRead (l : List UInt8) : ByteArray := if l = [45] then nilB else mkB l

def deedWords (d : Dd) : List (List UInt8) :=
  if d.kind = 1 then [wClaim, d.name.data.toList, intText d.who]
  else if d.kind = 2 then [wPut, d.name.data.toList, edText d.ed, pageText d.page, intText d.who]
  else if d.kind = 3 then [wHide, d.name.data.toList, edText d.ed, intText d.who]
  else if d.kind = 4 then [wShow, d.name.data.toList, edText d.ed, intText d.who]
  else if d.kind = 5 then [wFetch, d.name.data.toList, edText d.ed]
  else [wGive, d.name.data.toList, intText d.who, intText d.ed.ma]
def deedText (d : Dd) : List UInt8 := join 32 (deedWords d)
def deedShow (d : Dd) : List UInt8 := if deedOk d then deedText d else []

/-- The deed that some words tell, and whether each of them is of its form. -/
def deedShape : List (List UInt8) → Option (Dd × Bool)
  | [k, n, a] => if k = wClaim then some (⟨1, mkB n, zeroEd, nilB, (rd a).1⟩, (rd a).2)
      else if k = wFetch then some (⟨5, mkB n, (edRead a).1, nilB, 0⟩, (edRead a).2) else none
  | [k, n, a, b] => if k = wHide then some (⟨3, mkB n, (edRead a).1, nilB, (rd b).1⟩, (edRead a).2 && (rd b).2)
      else if k = wShow then some (⟨4, mkB n, (edRead a).1, nilB, (rd b).1⟩, (edRead a).2 && (rd b).2)
      else if k = wGive then some (⟨6, mkB n, ⟨(rd b).1, 0, 0⟩, nilB, (rd a).1⟩, (rd a).2 && (rd b).2) else none
  | [k, n, a, b, c] => if k = wPut then some (⟨2, mkB n, (edRead a).1, pageRead b, (rd c).1⟩, (edRead a).2 && decide (b ≠ []) && (rd c).2) else none
  | _ => none
def deedRead (l : List UInt8) : Dd × Bool := match deedShape (split 32 l) with
  | none => (zeroDd, false)
  | some (d, g) => if g && deedOk d then (d, true) else (zeroDd, false)
theorem size0 {s : ByteArray} (h : s.size = 0) : s = nilB := by
  apply ByteArray.ext; exact Array.eq_empty_of_size_eq_zero h

/-- What a right deed is, kind by kind. -/
theorem deedOk_iff (d : Dd) : deedOk d = true ↔ nameOk d.name.data.toList = true ∧ edOk d.ed = true ∧ pageOk d.page.data.toList = true ∧ (0 ≤ d.who ∧ d.who ≤ 3) ∧ (d.kind = 2 ∨ d.page.size = 0) ∧
    ((d.kind = 1 ∧ d.ed = zeroEd) ∨ d.kind = 2 ∨ d.kind = 3 ∨ d.kind = 4 ∨ (d.kind = 5 ∧ d.who = 0) ∨ (d.kind = 6 ∧ d.ed.mi = 0 ∧ d.ed.pa = 0)) := by
  simp only [deedOk, inI, Bool.and_eq_true, Bool.or_eq_true, decide_eq_true_eq, and_assoc]
  refine and_congr_right fun _ => and_congr_right fun _ => and_congr_right fun _ => and_congr_right fun _ => and_congr_right fun _ => and_congr_right fun _ => ?_
  by_cases h1 : d.kind = 1
  · rw [if_pos h1]; simp [h1]
  · rw [if_neg h1]
    by_cases h5 : d.kind = 5
    · rw [if_pos h5]; simp [h5]
    · rw [if_neg h5]
      by_cases h6 : d.kind = 6
      · rw [if_pos h6]; simp [h6]
      · rw [if_neg h6]; simp [h1, h5, h6]; omega

end M
end Go.Proofs.Ytnelgadfgeakjaa
