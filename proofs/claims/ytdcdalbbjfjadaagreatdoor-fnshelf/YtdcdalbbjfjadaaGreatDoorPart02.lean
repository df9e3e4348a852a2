/- Proved, in parts: Proved: plain facts on numbers written in decimal digits, and read from them; no program is named here; no condition. Proved: plain facts on a text cut at a byte; no program is named here; no condition. Proved: plain facts on editions; no program is named here; no condition. Proved: a number that is read is written so, and what is written is read; likewise an edition; no program is named here; no condition. Proved: a text that is cut is its parts joined; an edition that is read is shown so, and what is shown is read; no program is named here; no condition. Proved: what deeds are, in plain Lean; no program is named here; no condition. Proved: what copies and works are, in plain Lean; no program is named here; no condition. Proved: facts on a row of bytes that a call has made for itself: read, stored into, turned back into a text; no condition. Proved: the model's l1Int writes a number's digits, at every number of 64 bits; it writes nothing that was there. Proved: the model's l1Split cuts a text of at most a million bytes at a byte; its list lies in new memory; it writes nothing that was there. -/
import Derived.Test.YtdcdalbbjfjadaaGreatDoorPart01
import Derived.WalkKit
import Derived.Laws.IdiomStrings
import Derived.Lib.Hide
import Derived.Lib.Strings
namespace Go.Proofs.YtdcdalbbjfjadaaGreatDoor
namespace M

/-- The digit d as a byte. -/
def dig (d : Nat) : UInt8 := (48 + d).toUInt8
theorem dig_toNat (d : Nat) (h : d < 10) : (dig d).toNat = 48 + d := by
  unfold dig; rw [Nat.toUInt8_eq, UInt8.toNat_ofNat_of_lt' (by simp only [UInt8.size]; omega)]

/-- The decimal digits of n, by fuel. -/
def digsF : Nat → Nat → List UInt8
  | 0, _ => []
  | f + 1, n => if n < 10 then [dig n] else digsF f (n / 10) ++ [dig (n % 10)]
def digs (n : Nat) : List UInt8 := digsF 20 n
/-- The same, nothing for 0. -/
def digs0 (n : Nat) : List UInt8 := if n = 0 then [] else digs n
/-- A number as it is written. -/
def intText (n : Int) : List UInt8 := if n < 0 then 45 :: digs n.natAbs else digs n.natAbs

theorem digsF_more : ∀ (f n : Nat), n < 10 ^ (f + 1) → digsF (f + 2) n = digsF (f + 1) n
  | 0, n, h => by
    have : n < 10 := by simpa using h
    simp [digsF, this]
  | f + 1, n, h => by
    have hd : n / 10 < 10 ^ (f + 1) := by rw [Nat.pow_succ] at h; omega
    have ih := digsF_more f (n / 10) hd
    by_cases h10 : n < 10
    · simp [h10, digsF]
    · have e1 : digsF (f + 1 + 2) n = digsF (f + 2) (n / 10) ++ [dig (n % 10)] := by rw [digsF, if_neg h10]
      have e2 : digsF (f + 1 + 1) n = digsF (f + 1) (n / 10) ++ [dig (n % 10)] := by rw [digsF, if_neg h10]
      rw [e1, e2, ih]

theorem digs_step (n : Nat) (h : n < 10 ^ 20) (h10 : ¬ n < 10) : digs n = digs (n / 10) ++ [dig (n % 10)] := by
  unfold digs
  rw [digsF, if_neg h10, ← digsF_more 18 (n / 10) (by omega)]

theorem digs_small (n : Nat) (h10 : n < 10) : digs n = [dig n] := by
  unfold digs; rw [digsF, if_pos h10]

theorem digs_last (n : Nat) (h : n < 10 ^ 20) : digs n = digs0 (n / 10) ++ [dig (n % 10)] := by
  unfold digs0
  by_cases h10 : n < 10
  · rw [digs_small n h10, if_pos (by omega), Nat.mod_eq_of_lt h10]; rfl
  · rw [digs_step n h h10, if_neg (by omega)]

theorem digsF_length : ∀ (f n : Nat), (digsF f n).length ≤ f
  | 0, _ => by simp [digsF]
  | f + 1, n => by
    unfold digsF; split
    · simp
    · have := digsF_length f (n / 10); simp; omega

theorem digs_length (n : Nat) : (digs n).length ≤ 20 := digsF_length 20 n
theorem intText_length (n : Int) : (intText n).length ≤ 21 := by
  have := digs_length n.natAbs; unfold intText; split <;> simp <;> omega

/-- What has been written, and what is left, of N: the head of each round. -/
def Irel (N m : Nat) (l : List UInt8) : Prop := l.length ≤ 20 ∧ (l = [] ∧ m = N ∨ l ≠ [] ∧ digs0 m ++ l = digs N)
theorem Irel_start (N : Nat) : Irel N N [] := ⟨by simp, .inl ⟨rfl, rfl⟩⟩
theorem Irel_step {N m : Nat} {l : List UInt8} (hN : N < 10 ^ 20) (hm : m ≤ N) (h : Irel N m l) (hgo : l = [] ∨ m ≠ 0) : Irel N (m / 10) (dig (m % 10) :: l) := by
  have key : digs0 (m / 10) ++ dig (m % 10) :: l = digs N := by
    rcases h.2 with ⟨rfl, rfl⟩ | ⟨hl, h⟩
    · rw [digs_last m hN]
    · have hm0 : m ≠ 0 := by rcases hgo with h1 | h1; exact absurd h1 hl; exact h1
      have e : digs0 m = digs m := by unfold digs0; rw [if_neg hm0]
      rw [← h, e, digs_last m (by omega)]; simp
  refine ⟨?_, .inr ⟨by simp, key⟩⟩
  have hl := digs_length N
  rw [← key] at hl
  simp at hl ⊢; omega
theorem Irel_end {N : Nat} {l : List UInt8} (h : Irel N 0 l) (hl : l ≠ []) : l = digs N := by
  rcases h.2 with ⟨h1, _⟩ | ⟨_, h⟩
  · exact absurd h1 hl
  · simpa [digs0] using h

theorem len0 (s : ByteArray) : s.data.toList.length = s.size := by simp
end M
end Go.Proofs.YtdcdalbbjfjadaaGreatDoor
namespace Go.Proofs.YtdcdalbbjfjadaaGreatDoor
namespace M

def glue (cur : List UInt8) : List (List UInt8) → List (List UInt8)
  | [] => [cur]
  | h :: t => (cur ++ h) :: t
/-- The parts of a text between the bytes b. -/
def split (b : UInt8) : List UInt8 → List (List UInt8)
  | [] => [[]]
  | c :: r => if c = b then [] :: split b r else glue [c] (split b r)
end M
end Go.Proofs.YtdcdalbbjfjadaaGreatDoor
namespace Go.Proofs.YtdcdalbbjfjadaaGreatDoor
namespace M

structure Ed where
  ma : Int
  mi : Int
  pa : Int
deriving DecidableEq

def inI (x lo hi : Int) : Bool := decide (lo ≤ x) && decide (x ≤ hi)
def edOk (e : Ed) : Bool := inI e.ma 0 99 && inI e.mi 0 99 && inI e.pa 0 99
def edText (e : Ed) : List UInt8 := intText e.ma ++ ([46] ++ (intText e.mi ++ ([46] ++ intText e.pa)))
def edShow (e : Ed) : List UInt8 := if edOk e then edText e else []
def older (a b : Ed) : Bool := if a.ma ≠ b.ma then decide (a.ma < b.ma) else if a.mi ≠ b.mi then decide (a.mi < b.mi) else decide (a.pa < b.pa)
def fits (h w : Ed) : Bool := edOk h && edOk w && decide (h.ma = w.ma) && !older h w
def zeroEd : Ed := ⟨0, 0, 0⟩
theorem older_iff (a b : Ed) : older a b = true ↔ a.ma < b.ma ∨ a.ma = b.ma ∧ (a.mi < b.mi ∨ a.mi = b.mi ∧ a.pa < b.pa) := by
  unfold older
  by_cases h1 : a.ma = b.ma
  · rw [if_neg (by simpa using h1)]
    by_cases h2 : a.mi = b.mi
    · rw [if_neg (by simpa using h2)]; simp; omega
    · rw [if_pos h2]; simp; omega
  · rw [if_pos h1]; simp; omega
theorem older_iff_f (a b : Ed) : older a b = false ↔ ¬ (a.ma < b.ma ∨ a.ma = b.ma ∧ (a.mi < b.mi ∨ a.mi = b.mi ∧ a.pa < b.pa)) := by
  rw [← older_iff]; simp
theorem ed_ext (a b : Ed) : a = b ↔ a.ma = b.ma ∧ a.mi = b.mi ∧ a.pa = b.pa := by
  cases a; cases b; simp
theorem older_irrefl (a : Ed) : older a a = false := by rw [older_iff_f]; omega
theorem older_trans (a b c : Ed) (h : older a b = true) (k : older b c = true) : older a c = true := by rw [older_iff] at h k ⊢; omega
theorem older_total (a b : Ed) (h : older a b = false) (k : older b a = false) : a = b := by rw [older_iff_f] at h k; rw [ed_ext]; omega
end M
end Go.Proofs.YtdcdalbbjfjadaaGreatDoor
namespace Go.Proofs.YtdcdalbbjfjadaaGreatDoor
namespace M

end M
end Go.Proofs.YtdcdalbbjfjadaaGreatDoor
namespace Go.Proofs.YtdcdalbbjfjadaaGreatDoor
namespace M

def join (b : UInt8) : List (List UInt8) → List UInt8
  | [] => []
  | [x] => x
  | x :: y :: r => x ++ b :: join b (y :: r)
theorem join_nil (b : UInt8) {l : List (List UInt8)} (h : l ≠ []) : join b ([] :: l) = b :: join b l := by
  match l, h with
  | x :: r, _ => rfl
theorem edOk_iff (e : Ed) : edOk e = true ↔ (0 ≤ e.ma ∧ e.ma ≤ 99) ∧ (0 ≤ e.mi ∧ e.mi ≤ 99) ∧ (0 ≤ e.pa ∧ e.pa ≤ 99) := by
  simp [edOk, inI]; omega
theorem intText_pos {x : Int} (h : 0 ≤ x) : intText x = digs x.toNat := by
  unfold intText; rw [if_neg (by omega)]; congr 1; omega

theorem edText_len (e : Ed) (h : edOk e = true) : (edText e).length ≤ 62 := by
  have := intText_length e.ma; have := intText_length e.mi; have := intText_length e.pa
  have h' := (edOk_iff e).1 h
  have l1 := digs_length e.ma.toNat; have l2 := digs_length e.mi.toNat; have l3 := digs_length e.pa.toNat
  unfold edText
  rw [intText_pos h'.1.1, intText_pos h'.2.1.1, intText_pos h'.2.2.1]
  simp; omega

end M
end Go.Proofs.YtdcdalbbjfjadaaGreatDoor
namespace Go.Proofs.YtdcdalbbjfjadaaGreatDoor
namespace M

structure Dd where
  kind : Int
  name : ByteArray
  ed : Ed
  page : ByteArray
  who : Int
deriving DecidableEq

def nilB : ByteArray := ⟨#[]⟩
def zeroDd : Dd := ⟨0, nilB, zeroEd, nilB, 0⟩

def deedOk (d : Dd) : Bool :=
  nameOk d.name.data.toList && edOk d.ed && pageOk d.page.data.toList && inI d.who 0 3 && (decide (d.kind = 2) || decide (d.page.size = 0)) &&
    (if d.kind = 1 then decide (d.ed = zeroEd) else if d.kind = 5 then decide (d.who = 0) else if d.kind = 6 then decide (d.ed.mi = 0) && decide (d.ed.pa = 0) else inI d.kind 2 4)

theorem size0 {s : ByteArray} (h : s.size = 0) : s = nilB := by
  apply ByteArray.ext; exact Array.eq_empty_of_size_eq_zero h

/-- What a right deed is, kind by kind. -/
theorem deedOk_iff (d : Dd) : deedOk d = true ↔ nameOk d.name.data.toList = true ∧ edOk d.ed = true ∧ pageOk d.page.data.toList = true ∧ (0 ≤ d.who ∧ d.who ≤ 3) ∧ (d.kind = 2 ∨ d.page.size = 0) ∧
    ((d.kind = 1 ∧ d.ed = zeroEd) ∨ d.kind = 2 ∨ d.kind = 3 ∨ d.kind = 4 ∨ (d.kind = 5 ∧ d.who = 0) ∨ (d.kind = 6 ∧ d.ed.mi = 0 ∧ d.ed.pa = 0)) := by
  simp only [deedOk, inI, Bool.and_eq_true, Bool.or_eq_true, decide_eq_true_eq, and_assoc]
  refine and_congr_right fun _ => and_congr_right fun _ => and_congr_right fun _ => and_congr_right fun _ => and_congr_right fun _ => and_congr_right fun _ => ?_
  by_cases h1 : d.kind = 1
  · rw [if_pos h1]; simp [h1]
  · rw [if_neg h1]
    by_cases h5 : d.kind = 5
    · rw [if_pos h5]; simp [h5]
    · rw [if_neg h5]
      by_cases h6 : d.kind = 6
      · rw [if_pos h6]; simp [h6]
      · rw [if_neg h6]; simp [h1, h5, h6]; omega

end M
end Go.Proofs.YtdcdalbbjfjadaaGreatDoor
namespace Go.Proofs.YtdcdalbbjfjadaaGreatDoor
namespace M

structure Cp where
  ed : Ed
  page : ByteArray
  hidden : Bool
deriving DecidableEq
structure Wk where
  name : ByteArray
  owner : Int
  copies : List Cp
deriving DecidableEq

def cpOk (c : Cp) : Bool := edOk c.ed && pageOk c.page.data.toList
/-- Each is older than the next one. -/
def risesB : List Cp → Bool
  | a :: b :: l => older a.ed b.ed && risesB (b :: l)
  | _ => true
def cpsOk (l : List Cp) : Bool := l.all cpOk && risesB l
def wkOk (w : Wk) : Bool := nameOk w.name.data.toList && inI w.owner 0 3 && decide (w.copies.length ≤ 8) && cpsOk w.copies
def zeroCp : Cp := ⟨zeroEd, nilB, false⟩
def zeroWk : Wk := ⟨nilB, 0, []⟩

/-! ### All are right and each is older than the next: seen place by place. -/
theorem risesB_iff : ∀ l : List Cp, risesB l = true ↔ ∀ (i : Nat) (h : i + 1 < l.length), older l[i].ed l[i + 1].ed = true
  | [] => by simp [risesB]
  | [a] => by simp [risesB]
  | a :: b :: l => by
    have ih := risesB_iff (b :: l)
    simp only [risesB, Bool.and_eq_true, ih]
    constructor
    · rintro ⟨h0, h⟩ i hi
      cases i with
      | zero => exact h0
      | succ i => exact h i (by simpa using hi)
    · intro h
      exact ⟨h 0 (by simp), fun i hi => h (i + 1) (by simpa using hi)⟩
theorem cpsOk_iff (l : List Cp) : cpsOk l = true ↔ ∀ (i : Nat) (h : i < l.length), cpOk l[i] = true ∧ (∀ j (e : i = j + 1), older (l[j]'(by omega)).ed l[i].ed = true) := by
  unfold cpsOk
  rw [Bool.and_eq_true, risesB_iff, List.all_eq_true]
  constructor
  · rintro ⟨h1, h2⟩ i hi
    exact ⟨h1 _ (List.getElem_mem hi), fun j e => by subst e; exact h2 j hi⟩
  · intro h
    exact ⟨fun c hc => by
      obtain ⟨i, hi, rfl⟩ := List.mem_iff_getElem.1 hc
      exact (h i hi).1, fun i hi => (h (i + 1) hi).2 i rfl⟩
/-- Up to here all is right. -/
def upTo (l : List Cp) (k : Nat) : Prop := ∀ (i : Nat) (h : i < l.length), i < k → cpOk l[i] = true ∧ (∀ j (e : i = j + 1), older (l[j]'(by omega)).ed l[i].ed = true)
theorem upTo_zero (l : List Cp) : upTo l 0 := fun _ _ h => absurd h (by omega)
theorem upTo_all (l : List Cp) (h : upTo l l.length) : cpsOk l = true := (cpsOk_iff l).2 fun i hi => h i hi hi
theorem upTo_first {l : List Cp} (h : 0 < l.length) (h0 : cpOk l[0] = true) : upTo l 1 := fun i hi hk => by
  obtain rfl : i = 0 := by omega
  exact ⟨h0, fun j e => by omega⟩
theorem upTo_next {l : List Cp} {k : Nat} (h : upTo l (k + 1)) (hk : k + 1 < l.length) (h0 : cpOk l[k + 1] = true) (h1 : older l[k].ed l[k + 1].ed = true) : upTo l (k + 2) := fun i hi hk' => by
  by_cases e : i = k + 1
  · subst e; exact ⟨h0, fun j e => by obtain rfl : j = k := by omega
                                      exact h1⟩
  · exact h i hi (by omega)
theorem cpsOk_not_copy {l : List Cp} {k : Nat} (h : k < l.length) (h0 : cpOk l[k] = false) : cpsOk l = false := by
  rcases hc : cpsOk l with _ | _
  · rfl
  · have := ((cpsOk_iff l).1 hc k h).1; rw [h0] at this; cases this
theorem cpsOk_not_older {l : List Cp} {k : Nat} (h : k + 1 < l.length) (h0 : older l[k].ed l[k + 1].ed = false) : cpsOk l = false := by
  rcases hc : cpsOk l with _ | _
  · rfl
  · have := ((cpsOk_iff l).1 hc (k + 1) h).2 k rfl; rw [h0] at this; cases this
end M
end Go.Proofs.YtdcdalbbjfjadaaGreatDoor
namespace Go.Proofs.YtdcdalbbjfjadaaGreatDoor
open Go.RowKit

/-- Block g holds the bytes l, and none of these cells is frozen. -/
def BRow (w : World) (g : Nat) (l : List UInt8) : Prop :=
  g < w.heap.size ∧ ∀ j (hj : j < l.length), w.cell? ⟨g, j, none⟩ = some (.int .u8 (l[j].toNat : Int)) ∧ w.frozen? ⟨g, j, none⟩ = false

theorem BRow.drew {w : World} {g : Nat} {l : List UInt8} (h : BRow w g l) : BRow w.drew g l := h

theorem BRow.kept {w w' : World} {g : Nat} {l : List UInt8} {row : Option Nat} (h : BRow w g l) (hg : w.grownBy w' row) (hne : some g ≠ row) : BRow w' g l := by
  have hb := hg.block g h.1 hne
  refine ⟨Nat.lt_of_lt_of_le h.1 hg.size, fun j hj => ⟨?_, ?_⟩⟩
  · exact (World.cell?_of_block (a := ⟨g, j, none⟩) hb).trans (h.2 j hj).1
  · exact (World.frozen?_of_block (a := ⟨g, j, none⟩) hb).trans (h.2 j hj).2

end Go.Proofs.YtdcdalbbjfjadaaGreatDoor
namespace Go.Proofs.YtdcdalbbjfjadaaGreatDoor
open Go.RowKit

theorem one_byte (w : World) (d : Nat) (hd : d < 10) (x : Int) (hx : x = 48 + (d : Int)) :
    (convert 22 9 (.slice (some ⟨w.heap.size, 0, none⟩) 1 1)).run Tryz.prog (w.alloc (.cells #[.int .u8 x] 5)) = .ok (.string ⟨#[M.dig d]⟩) (w.alloc (.cells #[.int .u8 x] 5)) := by
  refine run_convert_bytes_back _ 22 9 5 ⟨w.heap.size, 0, none⟩ 1 [M.dig d] Tryz.underlying22 Tryz.underlying5 Tryz.underlying9 ?_
  intro j hj
  have hj0 : j = 0 := by simpa using hj
  subst hj0
  show (w.alloc _).cell? ⟨w.heap.size, 0, none⟩ = _
  rw [World.cell?_alloc_mark]
  simp [M.dig_toNat d hd, hx]

theorem cat_mk (a b : List UInt8) : (⟨a.toArray⟩ ++ ⟨b.toArray⟩ : ByteArray) = ⟨(a ++ b).toArray⟩ := by
  apply ByteArray.ext; simp

def blank : Value → Nat
  | .string s => if s.size = 0 then 1 else 0
  | _ => 0

theorem blank_nil : blank (.string ⟨#[]⟩) = 1 := rfl
theorem blank_cons (c : UInt8) (r : List UInt8) : blank (.string ⟨(c :: r).toArray⟩) = 0 := rfl
theorem ret_str {a b : List UInt8} (h : a = b) : Ending.returned (.string ⟨a.toArray⟩) = .returned (.string ⟨b.toArray⟩) := by rw [h]

set_option maxRecDepth 20000 in
set_option maxHeartbeats 1000000 in
theorem l1Int_pos (N : Nat) (hN : N < 9223372036854775808) (w : World) :
    Calls Tryz.prog 40 #[.int .i64 N] w fun e w' => e = .returned (.string ⟨(M.digs N).toArray⟩) ∧ Below w.heap.size w w' := by
  go_enter Tryz.func40, Tryz.ntmps40
  go_wp2
  go_loopw [0, 3] (fun n s wr => ∃ (m : Nat) (l : List UInt8), n = .int .i64 m ∧ s = .string ⟨l.toArray⟩ ∧ m ≤ N ∧ M.Irel N m l ∧ Below w.heap.size w wr) (fun n s _ => 2 * (intOf n).toNat + blank s)
  case atStart => exact ⟨N, [], rfl, rfl, Nat.le_refl _, M.Irel_start N, Below.refl _ _⟩
  case round =>
    obtain ⟨m, l, rfl, rfl, hm, hir, hbel⟩ := hrel
    have hlen := hir.1
    have HI := Lib.hid hir
    clear hir
    rcases l with _ | ⟨c, r⟩
    · have HS := Lib.hid (M.Irel_step (by omega) hm HI.out (.inl rfl))
      have hb1 := one_byte wr (m % 10) (by omega) (48 + (m : Int) % 10) (by omega)
      go_wp2
      go_roundw
      case rel =>
        refine ⟨m / 10, _, ?_, ?_, ?_, HS.out, ?_⟩
        · go_num
        · exact congrArg Value.string (cat_mk [M.dig (m % 10)] [])
        · omega
        · exact hbel.alloc hbel.size _
      case measure =>
        rw [show (⟨#[M.dig (m % 10)]⟩ ++ ⟨#[]⟩ : ByteArray) = _ from cat_mk [M.dig (m % 10)] [], List.append_nil, blank_cons, blank_nil]
        simp [intOf]
        omega
    · have hrl : r.length ≤ 19 := by simpa using hlen
      by_cases h0 : m = 0
      · have HE := Lib.hid (M.Irel_end (h0 ▸ HI.out) (by simp))
        have h0' : ((m : Int) == 0) = true := by simp; omega
        have h0'' : ((m : Int) != 0) = false := by simp; omega
        go_wp2
        go_ret
        exact ⟨ret_str HE.out, hbel⟩
      · have h0' : ((m : Int) == 0) = false := by simp; omega
        have h0'' : ((m : Int) != 0) = true := by simp; omega
        have HS := Lib.hid (M.Irel_step (by omega) hm HI.out (.inr h0))
        have hb1 := one_byte wr (m % 10) (by omega) (48 + (m : Int) % 10) (by omega)
        go_wp2
        go_roundw
        case rel =>
          refine ⟨m / 10, _, ?_, ?_, ?_, HS.out, ?_⟩
          · go_num
          · exact congrArg Value.string (cat_mk [M.dig (m % 10)] (c :: r))
          · omega
          · exact hbel.alloc hbel.size _
        case measure =>
          rw [show (⟨#[M.dig (m % 10)]⟩ ++ ⟨(c :: r).toArray⟩ : ByteArray) = _ from cat_mk [M.dig (m % 10)] (c :: r), List.singleton_append, blank_cons, blank_cons]
          simp [intOf]
          omega

end Go.Proofs.YtdcdalbbjfjadaaGreatDoor
namespace Go.Proofs.YtdcdalbbjfjadaaGreatDoor
open Go.RowKit

def strOf (l : List UInt8) : Value := .string ⟨l.toArray⟩
/-- v is a list of the texts ls, in memory of the call's own, from block B on. -/
def StrRow (B : Nat) (w : World) (v : Value) (ls : List (List UInt8)) : Prop :=
  w.ownsRow B 9 1 v ls.length (ls.map strOf)

theorem Tryz.infoStr : (Tryz.prog.info? 9).map (fun i => (i.zero, i.size, i.bytes)) = some (some (.string ⟨#[]⟩), 1, 16) := by kernel_rfl

theorem below_grow {B e n size : Nat} {w wr w1 : World} {v : Value} {xs : List Value} {o : Obj} (hb : Below w.heap.size w wr) (ho : wr.ownsRow B e size v n xs) (hg : (wr.alloc o).grownBy w1 v.ownBlock) (hB : w.heap.size ≤ B := by exact Nat.le_refl _) : Below w.heap.size w w1 :=
  (hb.alloc hb.size o).grown hg (by have := hb.size; simp; omega) (fun k hk => Nat.le_trans hB (ho.lt k hk).1)

theorem StrRow.open {B : Nat} {w : World} {v : Value} {ls : List (List UInt8)} (h : StrRow B w v ls) (hne : ls ≠ []) :
    ∃ g cap, v = .slice (some ⟨g, 0, none⟩) ls.length cap ∧ B ≤ g ∧ g < w.heap.size ∧ ∀ j (hj : j < ls.length), w.cell? ⟨g, j, none⟩ = some (strOf ls[j]) := by
  have h0 := h
  unfold StrRow at h
  rcases h.2 with ⟨_, hn⟩ | ⟨g, cap, cur, rfl, hB, hg, _⟩
  · exact absurd (List.eq_nil_of_length_eq_zero hn) hne
  · refine ⟨g, cap, rfl, hB, (Array.getElem?_eq_some_iff.1 hg).1, fun j hj => ?_⟩
    rw [World.ownsRow.cellAt h j (by omega)]
    simp [hj]

end Go.Proofs.YtdcdalbbjfjadaaGreatDoor
