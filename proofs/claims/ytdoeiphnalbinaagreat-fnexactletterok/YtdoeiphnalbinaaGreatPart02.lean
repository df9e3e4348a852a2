/- Proved, in parts: Proved: what deeds are, in plain Lean; no program is named here; no condition. Proved: what copies and works are, in plain Lean; no program is named here; no condition. Proved: facts on a row of bytes that a call has made for itself: read, stored into, turned back into a text; no condition. Proved: the model's l1Int writes a number's digits, at every number of 64 bits; it writes nothing that was there. Proved: the model's l1Split cuts a text of at most a million bytes at a byte; its list lies in new memory; it writes nothing that was there. Proved: the model's functions on editions answer plain Lean functions, at every edition; they write nothing that was there. -/
import Derived.Test.YtdoeiphnalbinaaGreatPart01
import Derived.WalkKit
import Derived.Laws.IdiomStrings
import Derived.Lib.Hide
import Derived.Lib.Strings
import Derived.Deep.RegionHeld3
import Derived.Deep.DeepCutAuto
namespace Go.Proofs.YtdoeiphnalbinaaGreat
namespace M

structure Dd where
  kind : Int
  name : ByteArray
  ed : Ed
  page : ByteArray
  who : Int
deriving DecidableEq

def nilB : ByteArray := ⟨#[]⟩
def zeroDd : Dd := ⟨0, nilB, zeroEd, nilB, 0⟩

def deedOk (d : Dd) : Bool :=
  nameOk d.name.data.toList && edOk d.ed && pageOk d.page.data.toList && inI d.who 0 3 && (decide (d.kind = 2) || decide (d.page.size = 0)) &&
    (if d.kind = 1 then decide (d.ed = zeroEd) else if d.kind = 5 then decide (d.who = 0) else if d.kind = 6 then decide (d.ed.mi = 0) && decide (d.ed.pa = 0) else inI d.kind 2 4)

theorem size0 {s : ByteArray} (h : s.size = 0) : s = nilB := by
  apply ByteArray.ext; exact Array.eq_empty_of_size_eq_zero h

/-- What a right deed is, kind by kind. -/
theorem deedOk_iff (d : Dd) : deedOk d = true ↔ nameOk d.name.data.toList = true ∧ edOk d.ed = true ∧ pageOk d.page.data.toList = true ∧ (0 ≤ d.who ∧ d.who ≤ 3) ∧ (d.kind = 2 ∨ d.page.size = 0) ∧
    ((d.kind = 1 ∧ d.ed = zeroEd) ∨ d.kind = 2 ∨ d.kind = 3 ∨ d.kind = 4 ∨ (d.kind = 5 ∧ d.who = 0) ∨ (d.kind = 6 ∧ d.ed.mi = 0 ∧ d.ed.pa = 0)) := by
  simp only [deedOk, inI, Bool.and_eq_true, Bool.or_eq_true, decide_eq_true_eq, and_assoc]
  refine and_congr_right fun _ => and_congr_right fun _ => and_congr_right fun _ => and_congr_right fun _ => and_congr_right fun _ => and_congr_right fun _ => ?_
  by_cases h1 : d.kind = 1
  · rw [if_pos h1]; simp [h1]
  · rw [if_neg h1]
    by_cases h5 : d.kind = 5
    · rw [if_pos h5]; simp [h5]
    · rw [if_neg h5]
      by_cases h6 : d.kind = 6
      · rw [if_pos h6]; simp [h6]
      · rw [if_neg h6]; simp [h1, h5, h6]; omega

end M
end Go.Proofs.YtdoeiphnalbinaaGreat
namespace Go.Proofs.YtdoeiphnalbinaaGreat
namespace M

structure Cp where
  ed : Ed
  page : ByteArray
  hidden : Bool
deriving DecidableEq
structure Wk where
  name : ByteArray
  owner : Int
  copies : List Cp
deriving DecidableEq

def cpOk (c : Cp) : Bool := edOk c.ed && pageOk c.page.data.toList
/-- Each is older than the next one. -/
def risesB : List Cp → Bool
  | a :: b :: l => older a.ed b.ed && risesB (b :: l)
  | _ => true
def cpsOk (l : List Cp) : Bool := l.all cpOk && risesB l
def wkOk (w : Wk) : Bool := nameOk w.name.data.toList && inI w.owner 0 3 && decide (w.copies.length ≤ 8) && cpsOk w.copies
def zeroCp : Cp := ⟨zeroEd, nilB, false⟩
/-- How much the bounds of the laws count of a list of copies. -/
def szPages : List Cp → Nat
  | [] => 0
  | c :: l => c.page.size + szPages l
theorem szPages_take (l : List Cp) (i : Nat) (h : i < l.length) : szPages (l.take (i + 1)) = szPages (l.take i) + l[i].page.size := by
  induction l generalizing i with
  | nil => simp at h
  | cons c l ih =>
    cases i with
    | zero => simp [szPages]
    | succ i => simp [szPages, ih i (by simpa using h)]; omega
theorem szPages_take_le (l : List Cp) (i : Nat) : szPages (l.take i) ≤ szPages l := by
  induction l generalizing i with
  | nil => simp [szPages]
  | cons c l ih =>
    cases i with
    | zero => simp [szPages]
    | succ i => have := ih i; simp [szPages]; omega
theorem szPages_mem (l : List Cp) (c : Cp) (h : c ∈ l) : c.page.size ≤ szPages l := by
  induction l with
  | nil => simp at h
  | cons d l ih =>
    rcases List.mem_cons.1 h with rfl | h
    · simp [szPages]
    · have := ih h; simp [szPages]; omega

/-! ### All are right and each is older than the next: seen place by place. -/
theorem risesB_iff : ∀ l : List Cp, risesB l = true ↔ ∀ (i : Nat) (h : i + 1 < l.length), older l[i].ed l[i + 1].ed = true
  | [] => by simp [risesB]
  | [a] => by simp [risesB]
  | a :: b :: l => by
    have ih := risesB_iff (b :: l)
    simp only [risesB, Bool.and_eq_true, ih]
    constructor
    · rintro ⟨h0, h⟩ i hi
      cases i with
      | zero => exact h0
      | succ i => exact h i (by simpa using hi)
    · intro h
      exact ⟨h 0 (by simp), fun i hi => h (i + 1) (by simpa using hi)⟩
theorem cpsOk_iff (l : List Cp) : cpsOk l = true ↔ ∀ (i : Nat) (h : i < l.length), cpOk l[i] = true ∧ (∀ j (e : i = j + 1), older (l[j]'(by omega)).ed l[i].ed = true) := by
  unfold cpsOk
  rw [Bool.and_eq_true, risesB_iff, List.all_eq_true]
  constructor
  · rintro ⟨h1, h2⟩ i hi
    exact ⟨h1 _ (List.getElem_mem hi), fun j e => by subst e; exact h2 j hi⟩
  · intro h
    exact ⟨fun c hc => by
      obtain ⟨i, hi, rfl⟩ := List.mem_iff_getElem.1 hc
      exact (h i hi).1, fun i hi => (h (i + 1) hi).2 i rfl⟩
/-- Up to here all is right. -/
def upTo (l : List Cp) (k : Nat) : Prop := ∀ (i : Nat) (h : i < l.length), i < k → cpOk l[i] = true ∧ (∀ j (e : i = j + 1), older (l[j]'(by omega)).ed l[i].ed = true)
theorem upTo_zero (l : List Cp) : upTo l 0 := fun _ _ h => absurd h (by omega)
theorem upTo_all (l : List Cp) (h : upTo l l.length) : cpsOk l = true := (cpsOk_iff l).2 fun i hi => h i hi hi
theorem upTo_first {l : List Cp} (h : 0 < l.length) (h0 : cpOk l[0] = true) : upTo l 1 := fun i hi hk => by
  obtain rfl : i = 0 := by omega
  exact ⟨h0, fun j e => by omega⟩
theorem upTo_next {l : List Cp} {k : Nat} (h : upTo l (k + 1)) (hk : k + 1 < l.length) (h0 : cpOk l[k + 1] = true) (h1 : older l[k].ed l[k + 1].ed = true) : upTo l (k + 2) := fun i hi hk' => by
  by_cases e : i = k + 1
  · subst e; exact ⟨h0, fun j e => by obtain rfl : j = k := by omega
                                      exact h1⟩
  · exact h i hi (by omega)
theorem cpsOk_not_copy {l : List Cp} {k : Nat} (h : k < l.length) (h0 : cpOk l[k] = false) : cpsOk l = false := by
  rcases hc : cpsOk l with _ | _
  · rfl
  · have := ((cpsOk_iff l).1 hc k h).1; rw [h0] at this; cases this
theorem cpsOk_not_older {l : List Cp} {k : Nat} (h : k + 1 < l.length) (h0 : older l[k].ed l[k + 1].ed = false) : cpsOk l = false := by
  rcases hc : cpsOk l with _ | _
  · rfl
  · have := ((cpsOk_iff l).1 hc (k + 1) h).2 k rfl; rw [h0] at this; cases this
end M
end Go.Proofs.YtdoeiphnalbinaaGreat
namespace Go.Proofs.YtdoeiphnalbinaaGreat
open Go.RowKit

/-- Block g holds the bytes l, and none of these cells is frozen. -/
def BRow (w : World) (g : Nat) (l : List UInt8) : Prop :=
  g < w.heap.size ∧ ∀ j (hj : j < l.length), w.cell? ⟨g, j, none⟩ = some (.int .u8 (l[j].toNat : Int)) ∧ w.frozen? ⟨g, j, none⟩ = false

theorem BRow.drew {w : World} {g : Nat} {l : List UInt8} (h : BRow w g l) : BRow w.drew g l := h

theorem BRow.kept {w w' : World} {g : Nat} {l : List UInt8} {row : Option Nat} (h : BRow w g l) (hg : w.grownBy w' row) (hne : some g ≠ row) : BRow w' g l := by
  have hb := hg.block g h.1 hne
  refine ⟨Nat.lt_of_lt_of_le h.1 hg.size, fun j hj => ⟨?_, ?_⟩⟩
  · exact (World.cell?_of_block (a := ⟨g, j, none⟩) hb).trans (h.2 j hj).1
  · exact (World.frozen?_of_block (a := ⟨g, j, none⟩) hb).trans (h.2 j hj).2

theorem BRow.back {P : Program} {w : World} {g : Nat} {l : List UInt8} (h : BRow w g l) (src dst e : TypeId) (cap n : Nat) (hn : l.length = n)
    (hs : P.underlying src = some (.slice e)) (he : P.underlying e = some (.int .u8)) (hd : P.underlying dst = some .string) :
    (convert src dst (.slice (some ⟨g, 0, none⟩) n cap)).run P w = .ok (.string ⟨l.toArray⟩) w := by
  subst hn
  exact run_convert_bytes_back w src dst e ⟨g, 0, none⟩ cap l hs he hd (fun j hj => by rw [show (⟨g, 0, none⟩ : Addr).add j = ⟨g, j, none⟩ from by unfold Addr.add; split <;> simp_all]; exact (h.2 j hj).1)
end Go.Proofs.YtdoeiphnalbinaaGreat
namespace Go.Proofs.YtdoeiphnalbinaaGreat
open Go.RowKit

end Go.Proofs.YtdoeiphnalbinaaGreat
namespace Go.Proofs.YtdoeiphnalbinaaGreat
open Go.RowKit

def strOf (l : List UInt8) : Value := .string ⟨l.toArray⟩
/-- v is a list of the texts ls, in memory of the call's own, from block B on. -/
def StrRow (B : Nat) (w : World) (v : Value) (ls : List (List UInt8)) : Prop :=
  w.ownsRow B 9 1 v ls.length (ls.map strOf)

theorem StrRow.open {B : Nat} {w : World} {v : Value} {ls : List (List UInt8)} (h : StrRow B w v ls) (hne : ls ≠ []) :
    ∃ g cap, v = .slice (some ⟨g, 0, none⟩) ls.length cap ∧ B ≤ g ∧ g < w.heap.size ∧ ∀ j (hj : j < ls.length), w.cell? ⟨g, j, none⟩ = some (strOf ls[j]) := by
  have h0 := h
  unfold StrRow at h
  rcases h.2 with ⟨_, hn⟩ | ⟨g, cap, cur, rfl, hB, hg, _⟩
  · exact absurd (List.eq_nil_of_length_eq_zero hn) hne
  · refine ⟨g, cap, rfl, hB, (Array.getElem?_eq_some_iff.1 hg).1, fun j hj => ?_⟩
    rw [World.ownsRow.cellAt h j (by omega)]
    simp [hj]

end Go.Proofs.YtdoeiphnalbinaaGreat
namespace Go.Proofs.YtdoeiphnalbinaaGreat
open Go.RowKit

abbrev edV (e : M.Ed) : Value := .agg #[.int .i64 e.ma, .int .i64 e.mi, .int .i64 e.pa]

theorem in_i (x lo hi : Int) (w : World) : Calls Tryz.prog 12 #[.int .i64 x, .int .i64 lo, .int .i64 hi] w fun e w' => e = .returned (.bool (M.inI x lo hi)) ∧ w = w' := in_any x lo hi w

set_option maxHeartbeats 1000000 in
theorem specEditionOk (e : M.Ed) (w : World) :
    Calls Tryz.prog 120 #[edV e] w fun r w' => r = .returned (.bool (M.edOk e)) ∧ Below w.heap.size w w' := by
  rcases h1 : M.inI e.ma 0 99 with _ | _
  · have HE : Hid (M.edOk e = false) := Lib.hid (by simp [M.edOk, h1])
    go_enter Tryz.func120, Tryz.ntmps120
    go_wp2_with (go_at_call 12; refine (in_i _ _ _ _).mono ?_; rintro e w' ⟨rfl, rfl⟩)
    go_ret
    exact ⟨ret_bool HE.out.symm, (Below.refl _ _).alloc (Nat.le_refl _) _⟩
  · rcases h2 : M.inI e.mi 0 99 with _ | _
    · have HE : Hid (M.edOk e = false) := Lib.hid (by simp [M.edOk, h2])
      go_enter Tryz.func120, Tryz.ntmps120
      go_wp2_with (go_at_call 12; refine (in_i _ _ _ _).mono ?_; rintro e w' ⟨rfl, rfl⟩)
      go_ret
      exact ⟨ret_bool HE.out.symm, (Below.refl _ _).alloc (Nat.le_refl _) _⟩
    · have HE : Hid (M.edOk e = M.inI e.pa 0 99) := Lib.hid (by simp [M.edOk, h1, h2])
      go_enter Tryz.func120, Tryz.ntmps120
      go_wp2_with (go_at_call 12; refine (in_i _ _ _ _).mono ?_; rintro e w' ⟨rfl, rfl⟩)
      go_ret
      exact ⟨ret_bool HE.out.symm, (Below.refl _ _).alloc (Nat.le_refl _) _⟩

set_option maxHeartbeats 1000000 in
theorem specOlder (a b : M.Ed) (w : World) :
    Calls Tryz.prog 103 #[edV a, edV b] w fun r w' => r = .returned (.bool (M.older a b)) ∧ Below w.heap.size w w' := by
  by_cases h1 : a.ma = b.ma
  · have h1' : (a.ma != b.ma) = false := by simpa using h1
    have h1'' : (a.ma == b.ma) = true := by simpa using h1
    by_cases h2 : a.mi = b.mi
    · have h2' : (a.mi != b.mi) = false := by simpa using h2
      have HE : Hid (M.older a b = decide (a.pa < b.pa)) := Lib.hid (by unfold M.older; rw [if_neg (by simpa using h1), if_neg (by simpa using h2)])
      clear h1 h2
      go_enter Tryz.func103, Tryz.ntmps103
      go_wp2
      go_ret
      exact ⟨ret_bool HE.out.symm, ((Below.refl _ _).alloc (Nat.le_refl _) _).alloc (by simp) _⟩
    · have h2' : (a.mi != b.mi) = true := by simpa using h2
      have HE : Hid (M.older a b = decide (a.mi < b.mi)) := Lib.hid (by unfold M.older; rw [if_neg (by simpa using h1), if_pos h2])
      clear h1 h2
      go_enter Tryz.func103, Tryz.ntmps103
      go_wp2
      go_ret
      exact ⟨ret_bool HE.out.symm, ((Below.refl _ _).alloc (Nat.le_refl _) _).alloc (by simp) _⟩
  · have h1' : (a.ma != b.ma) = true := by simpa using h1
    have HE : Hid (M.older a b = decide (a.ma < b.ma)) := Lib.hid (by unfold M.older; rw [if_pos h1])
    clear h1
    go_enter Tryz.func103, Tryz.ntmps103
    go_wp2
    go_ret
    exact ⟨ret_bool HE.out.symm, ((Below.refl _ _).alloc (Nat.le_refl _) _).alloc (by simp) _⟩

end Go.Proofs.YtdoeiphnalbinaaGreat
