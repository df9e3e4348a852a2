/- Proved, in parts: Proved: the laws' helpers on copies and works (their size, their copy, their likeness) answer plain Lean functions; they write nothing that was there. Proved: the laws' helpers that make a work of the program's own types out of the laws' answer the same work, in new memory; they write nothing that was there. Proved: the laws' own tests tell a copy, a list of copies and a work like themselves; they write nothing that was there. No condition. Proved: the laws' helpers on lists of records of the type Entry (their size, their copy, their likeness) answer plain Lean functions; they write nothing that was there. Condition: lists of at most a million. Proved: plain facts on the first place of a list at which something is so; no program is named here; no condition. Proved: how a roll stands in memory, and what is asked of one, as plain Lean functions; no program is named here; no condition. Proved: append of a slice of records onto a row of the call's own, the source nil, empty or not; cuts of such a row; no program's function is named here. Condition: the bytes fit. -/
import Derived.Test.YtkpbfocnokbmiaaPart07
import Derived.Test.YtkpbfocnokbmiaaPart03
import Derived.Test.YtkpbfocnokbmiaaPart04
import Derived.OwnWalk
import Derived.Deep.Onto
import Derived.StillTailTactics
import Derived.Test.YtkpbfocnokbmiaaPart01
namespace Go.Proofs.Ytkpbfocnokbmiaa
open Go.RowKit

theorem addr_add (b o n : Nat) : (⟨b, o, none⟩ : Addr).add n = ⟨b, o + n, none⟩ := by
  unfold Addr.add; split
  · subst_vars; rfl
  · rfl

end Go.Proofs.Ytkpbfocnokbmiaa
namespace Go.Proofs.Ytkpbfocnokbmiaa
open Go.RowKit

theorem Own.below {w w' : World} {base e k n : Nat} {v : Value} {xs : List Value} (h : w.ownsRow base e k v n xs) (hb : Below w.heap.size w w') : w'.ownsRow base e k v n xs := by
  obtain ⟨hl, h | ⟨g, cap, cur, hv, h1, hh, h2⟩⟩ := h
  · exact ⟨hl, .inl h⟩
  · exact ⟨hl, .inr ⟨g, cap, cur, hv, h1, (hb.block g (Array.getElem?_eq_some_iff.1 hh).1).trans hh, h2⟩⟩

end Go.Proofs.Ytkpbfocnokbmiaa
namespace Go.Proofs.Ytkpbfocnokbmiaa
open Go.RowKit
set_option maxRecDepth 20000

end Go.Proofs.Ytkpbfocnokbmiaa
namespace Go.Proofs.Ytkpbfocnokbmiaa
open Go.RowKit
set_option maxRecDepth 20000
abbrev Ens (w : World) (A : Option Addr) (l : List M.En) : Prop := Flat enL 10 w A l
theorem Ens_at {w : World} {A : Option Addr} {l : List M.En} {i : Nat} (h : Ens w A l) (hi : i < l.length) : ∃ b o, A = some ⟨b, o, none⟩ ∧ b < w.heap.size ∧
    w.cell? ⟨b, o + i * 10, none⟩ = some (.int .i64 l[i].reign) ∧ w.cell? ⟨b, o + i * 10 + 1, none⟩ = some (.int .i64 l[i].order.client) ∧ w.cell? ⟨b, o + i * 10 + 2, none⟩ = some (.int .i64 l[i].order.seq) ∧ w.cell? ⟨b, o + i * 10 + 3, none⟩ = some (.int .i64 l[i].order.deed.kind) ∧ w.cell? ⟨b, o + i * 10 + 4, none⟩ = some (.string l[i].order.deed.name) ∧ w.cell? ⟨b, o + i * 10 + 5, none⟩ = some (.int .i64 l[i].order.deed.ed.ma) ∧ w.cell? ⟨b, o + i * 10 + 6, none⟩ = some (.int .i64 l[i].order.deed.ed.mi) ∧ w.cell? ⟨b, o + i * 10 + 7, none⟩ = some (.int .i64 l[i].order.deed.ed.pa) ∧ w.cell? ⟨b, o + i * 10 + 8, none⟩ = some (.string l[i].order.deed.page) ∧ w.cell? ⟨b, o + i * 10 + 9, none⟩ = some (.int .i64 l[i].order.deed.who) := by
  obtain ⟨b, o, rfl, hb, h⟩ := h.at hi
  exact ⟨b, o, rfl, hb, h 0 _ rfl, h 1 _ rfl, h 2 _ rfl, h 3 _ rfl, h 4 _ rfl, h 5 _ rfl, h 6 _ rfl, h 7 _ rfl, h 8 _ rfl, h 9 _ rfl⟩
theorem infoEns : (Try.prog.info? 37).map (fun i => (i.zero, i.size, i.bytes)) = some (some (.agg #[.int .i64 0, .int .i64 0, .int .i64 0, .int .i64 0, .string ⟨#[]⟩, .int .i64 0, .int .i64 0, .int .i64 0, .string ⟨#[]⟩, .int .i64 0]), 10, 96) := by kernel_rfl
/-- v is a list of these in memory of one's own from block B on. -/
abbrev EnsOwn (B : Nat) (w : World) (v : Value) (l : List M.En) : Prop := w.ownsRow B 37 10 v l.length (cellsOf enL l)
theorem own_atEns {w : World} {base e g c : Nat} {l : List M.En} (h : w.ownsRow base e 10 (.slice (some ⟨g, 0, none⟩) l.length c) l.length (cellsOf enL l)) : Ens w (some ⟨g, 0, none⟩) l := by
  obtain ⟨A, c', hv, _, hf⟩ := own_flat enL_len h
  have hA : some ⟨g, 0, none⟩ = A := by injection hv
  rw [hA]; exact hf

end Go.Proofs.Ytkpbfocnokbmiaa
namespace Go.Proofs.Ytkpbfocnokbmiaa
def GNoneTo {α : Type} (p : α → Bool) (l : List α) (j : Nat) : Prop := ∀ (i : Nat) (h : i < l.length), i < j → p l[i] = false
theorem GNoneTo.zero {α : Type} (p : α → Bool) (l : List α) : GNoneTo p l 0 := fun _ _ h => absurd h (by omega)
theorem GNoneTo.next {α : Type} {p : α → Bool} {l : List α} {j : Nat} (h : GNoneTo p l j) (hj : j < l.length) (hp : p l[j] = false) : GNoneTo p l (j + 1) := fun i hi hij => by
  by_cases e : i = j
  · subst e; exact hp
  · exact h i hi (by omega)
theorem GNoneTo.hit {α : Type} {p : α → Bool} {l : List α} {j : Nat} (h : GNoneTo p l j) (hj : j < l.length) (hp : p l[j] = true) : l.findIdx p = j :=
  (List.findIdx_eq hj).2 ⟨hp, fun i hi => by simpa using h i (by omega) hi⟩
theorem GNoneTo.all {α : Type} {p : α → Bool} {l : List α} (h : GNoneTo p l l.length) : l.findIdx p = l.length :=
  List.findIdx_eq_length.2 fun x hx => by
    obtain ⟨i, hi, rfl⟩ := List.mem_iff_getElem.1 hx
    simp [h i hi hi]
theorem all_findIdxG {α : Type} (q : α → Bool) (l : List α) : ((l.findIdx (fun c => !q c) : Int) == (l.length : Int)) = l.all q := by
  rcases h : l.all q with _ | _
  · have : ¬ l.findIdx (fun c => !q c) = l.length := fun e => by
      have h1 := List.findIdx_eq_length.1 e
      have h2 : l.all q = true := List.all_eq_true.2 fun x hx => by simpa using h1 x hx
      rw [h] at h2; cases h2
    simp only [beq_eq_false_iff_ne]
    omega
  · have : l.findIdx (fun c => !q c) = l.length := List.findIdx_eq_length.2 fun x hx => by simp [List.all_eq_true.1 h x hx]
    rw [this]; simp
/-- Each of the first j is ahead of the next. -/
def GRisesTo {α : Type} (lt : α → α → Bool) (l : List α) (j : Nat) : Prop := ∀ (i : Nat) (h : i + 1 < l.length), i + 1 < j → lt l[i] l[i + 1] = true
def grises {α : Type} (lt : α → α → Bool) : List α → Bool
  | a :: b :: l => lt a b && grises lt (b :: l)
  | _ => true
theorem grises_iff {α : Type} (lt : α → α → Bool) : ∀ l : List α, grises lt l = true ↔ ∀ (i : Nat) (h : i + 1 < l.length), lt l[i] l[i + 1] = true
  | [] => by simp [grises]
  | [a] => by simp [grises]
  | a :: b :: l => by
    have ih := grises_iff lt (b :: l)
    simp only [grises, Bool.and_eq_true, ih]
    constructor
    · rintro ⟨h1, h2⟩ i hi
      cases i with
      | zero => exact h1
      | succ i => exact h2 i (by simpa using hi)
    · intro h
      exact ⟨h 0 (by simp), fun i hi => h (i + 1) (by simpa using hi)⟩
theorem GRisesTo.one {α : Type} (lt : α → α → Bool) (l : List α) : GRisesTo lt l 1 := fun _ _ h => absurd h (by omega)
theorem GRisesTo.next {α : Type} {lt : α → α → Bool} {l : List α} {k : Nat} (h : GRisesTo lt l (k + 1)) (hk : k + 1 < l.length) (ho : lt l[k] l[k + 1] = true) : GRisesTo lt l (k + 2) := fun i hi hij => by
  by_cases e : i = k
  · subst e; exact ho
  · exact h i hi (by omega)
theorem GRisesTo.all {α : Type} {lt : α → α → Bool} {l : List α} {j : Nat} (h : GRisesTo lt l j) (hj : l.length ≤ j) : grises lt l = true := (grises_iff lt l).2 fun i hi => h i hi (by omega)
end Go.Proofs.Ytkpbfocnokbmiaa
namespace Go.Proofs.Ytkpbfocnokbmiaa
open Go.RowKit
abbrev roA (b r : Int) (A : Option Addr) (n c : Nat) : Array Value := #[.int .i64 b, .int .i64 r, .slice A n c]
abbrev roV (b r : Int) (A : Option Addr) (n c : Nat) : Value := .agg (roA b r A n c)
namespace M
/-- No reign is less than the one ahead. -/
def upFrom : Int → List En → Bool
  | _, [] => true
  | k, e :: l => decide (k ≤ e.reign) && upFrom e.reign l
def baseOk (b r : Int) : Bool := inI b 0 300 && (inI r 0 1000 && (decide (b = 0) == decide (r = 0)))
def rollOk (b r : Int) (l : List En) : Bool := baseOk b r && (decide (l.length ≤ 100) && (l.all entryOk && upFrom r l))
theorem baseOk_zero (r : Int) : baseOk 0 r = decide (r = 0) := by
  by_cases h : r = 0
  · subst h; rfl
  · simp [baseOk, inI, h]
theorem baseOk_pos {b r : Int} (h1 : 0 < b) (h2 : b ≤ 300) : baseOk b r = inI r 1 1000 := by
  have e0 : (b = 0) = False := by simp; omega
  by_cases h : r = 0
  · subst h; simp [baseOk, inI, e0]
  · have e1 : decide (0 ≤ r) = decide (1 ≤ r) := by simp; omega
    have e2 : decide (0 ≤ b) = true := by simp; omega
    simp [baseOk, inI, e0, e1, e2, h, h2]
theorem baseOk_out {b r : Int} (h : b < 0 ∨ 300 < b) : baseOk b r = false := by
  have e : inI b 0 300 = false := by simp [inI]; omega
  simp [baseOk, e]
/-- The reign of which the walk asks next, behind the first j. -/
def reignAhead (r : Int) (l : List En) (j : Nat) : Int := match j with
  | 0 => r
  | j + 1 => match l[j]? with
    | some e => e.reign
    | none => r
theorem reignAhead_succ {r : Int} {l : List En} {j : Nat} (h : j < l.length) : reignAhead r l (j + 1) = l[j].reign := by
  unfold reignAhead
  simp [List.getElem?_eq_getElem h]
theorem reignAhead_cons {r : Int} {e : En} {l : List En} {j : Nat} (h : j ≤ l.length) : reignAhead r (e :: l) (j + 1) = reignAhead e.reign l j := by
  cases j with
  | zero => rfl
  | succ j => rw [reignAhead_succ (by simp; omega), reignAhead_succ (by omega)]; simp
theorem upFrom_iff (r : Int) (l : List En) : upFrom r l = true ↔ ∀ (j : Nat) (h : j < l.length), reignAhead r l j ≤ l[j].reign := by
  induction l generalizing r with
  | nil => simp [upFrom]
  | cons e l ih =>
    simp only [upFrom, Bool.and_eq_true, decide_eq_true_eq, ih]
    constructor
    · rintro ⟨h1, h2⟩ j hj
      cases j with
      | zero => exact h1
      | succ j =>
        have hj' : j < l.length := by simpa using hj
        rw [reignAhead_cons (by omega)]
        exact h2 j hj'
    · intro h
      refine ⟨h 0 (by simp), fun j hj => ?_⟩
      have := h (j + 1) (by simpa using hj)
      rw [reignAhead_cons (by omega)] at this
      exact this
/-- The first j are not less than the one ahead. -/
def UpTo (r : Int) (l : List En) (j : Nat) : Prop := ∀ (i : Nat) (h : i < l.length), i < j → reignAhead r l i ≤ l[i].reign
theorem UpTo.zero (r : Int) (l : List En) : UpTo r l 0 := fun _ _ h => absurd h (by omega)
theorem UpTo.next {r : Int} {l : List En} {j : Nat} (h : UpTo r l j) (hj : j < l.length) (hr : reignAhead r l j ≤ l[j].reign) : UpTo r l (j + 1) := fun i hi hij => by
  by_cases e : i = j
  · subst e; exact hr
  · exact h i hi (by omega)
theorem UpTo.all {r : Int} {l : List En} (h : UpTo r l l.length) : upFrom r l = true := (upFrom_iff r l).2 fun i hi => h i hi hi
theorem up_not {r : Int} {l : List En} {j : Nat} (hj : j < l.length) (hr : ¬ reignAhead r l j ≤ l[j].reign) : upFrom r l = false := by
  rcases hc : upFrom r l with _ | _
  · rfl
  · exact absurd ((upFrom_iff r l).1 hc j hj) hr
/-- What the model asks of a list's entries, one by one. -/
def listOk (r : Int) (l : List En) : Bool := l.all entryOk && upFrom r l
/-- The first j are right and not less than the one ahead. -/
def OkTo (r : Int) (l : List En) (j : Nat) : Prop := ∀ (i : Nat) (h : i < l.length), i < j → entryOk l[i] = true ∧ reignAhead r l i ≤ l[i].reign
theorem OkTo.zero (r : Int) (l : List En) : OkTo r l 0 := fun _ _ h => absurd h (by omega)
theorem OkTo.next {r : Int} {l : List En} {j : Nat} (h : OkTo r l j) (hj : j < l.length) (he : entryOk l[j] = true) (hr : reignAhead r l j ≤ l[j].reign) : OkTo r l (j + 1) := fun i hi hij => by
  by_cases e : i = j
  · subst e; exact ⟨he, hr⟩
  · exact h i hi (by omega)
theorem OkTo.all {r : Int} {l : List En} (h : OkTo r l l.length) : listOk r l = true := by
  simp only [listOk, Bool.and_eq_true]
  exact ⟨List.all_eq_true.2 fun x hx => by obtain ⟨i, hi, rfl⟩ := List.mem_iff_getElem.1 hx; exact (h i hi hi).1, (upFrom_iff r l).2 fun i hi => (h i hi hi).2⟩
theorem list_not {r : Int} {l : List En} {j : Nat} (hj : j < l.length) (h : entryOk l[j] = false ∨ ¬ reignAhead r l j ≤ l[j].reign) : listOk r l = false := by
  rcases hc : listOk r l with _ | _
  · rfl
  · simp only [listOk, Bool.and_eq_true] at hc
    rcases h with h | h
    · have := List.all_eq_true.1 hc.1 l[j] (List.getElem_mem hj)
      rw [h] at this; cases this
    · exact absurd ((upFrom_iff r l).1 hc.2 j hj) h
theorem rollOk_list (b r : Int) (l : List En) : rollOk b r l = (baseOk b r && (decide (l.length ≤ 100) && listOk r l)) := rfl
/-- The number of the last entry. -/
def lastIn (b r : Int) (l : List En) : Int := if rollOk b r l then b + l.length else -1
/-- The reign of entry i of a right roll. -/
def reignIn (b r : Int) (l : List En) (i : Int) : Int := if i = b then r else if b < i ∧ i ≤ b + l.length then (match l[(i - b - 1).toNat]? with | some e => e.reign | none => -1) else -1
def reignAt (b r : Int) (l : List En) (i : Int) : Int := if rollOk b r l then reignIn b r l i else -1
theorem reignIn_base (b r : Int) (l : List En) : reignIn b r l b = r := by simp [reignIn]
theorem reignIn_at {b r : Int} {l : List En} {k : Nat} (h : k < l.length) : reignIn b r l (b + k + 1) = l[k].reign := by
  have e : (b + (k : Int) + 1 - b - 1).toNat = k := by omega
  unfold reignIn
  rw [if_neg (by omega), if_pos (by omega), e, List.getElem?_eq_getElem h]
theorem reignIn_out {b r : Int} {l : List En} {i : Int} (h : i < b ∨ b + l.length < i) : reignIn b r l i = -1 := by
  unfold reignIn
  rw [if_neg (by omega), if_neg (by omega)]
/-- Entry i of a roll, where it is there. -/
def entryAt (b r : Int) (l : List En) (i : Int) : Option En := if rollOk b r l && (decide (b < i) && decide (i ≤ b + l.length)) then l[(i - b - 1).toNat]? else none
theorem entryAt_at {b r : Int} {l : List En} {k : Nat} (h : k < l.length) (hok : rollOk b r l = true) : entryAt b r l (b + k + 1) = some l[k] := by
  have e : (b + (k : Int) + 1 - b - 1).toNat = k := by omega
  unfold entryAt
  rw [if_pos (by simp [hok]; omega), e, List.getElem?_eq_getElem h]
theorem entryAt_none {b r : Int} {l : List En} {i : Int} (h : rollOk b r l = false ∨ i ≤ b ∨ b + l.length < i) : entryAt b r l i = none := by
  unfold entryAt
  rw [if_neg]
  simp only [Bool.and_eq_true, decide_eq_true_eq]
  rintro ⟨h1, h2, h3⟩
  rcases h with h | h | h
  · rw [h1] at h; cases h
  · omega
  · omega
/-- All that is behind. -/
def tail (b r : Int) (l : List En) (i : Int) : List En := if rollOk b r l && (decide (b < i) && decide (i ≤ b + l.length + 1)) then l.drop (i - b - 1).toNat else []
theorem tail_at {b r : Int} {l : List En} {k : Nat} (h : k ≤ l.length) (hok : rollOk b r l = true) : tail b r l (b + k + 1) = l.drop k := by
  have e : (b + (k : Int) + 1 - b - 1).toNat = k := by omega
  unfold tail
  rw [if_pos (by simp [hok]; omega), e]
theorem tail_none {b r : Int} {l : List En} {i : Int} (h : rollOk b r l = false ∨ i ≤ b ∨ b + l.length + 1 < i) : tail b r l i = [] := by
  unfold tail
  rw [if_neg]
  simp only [Bool.and_eq_true, decide_eq_true_eq]
  rintro ⟨h1, h2, h3⟩
  rcases h with h | h | h
  · rw [h1] at h; cases h
  · omega
  · omega
/-- A roll cut: its base, its reign, its list, and whether it was. -/
def cut (b r : Int) (l : List En) (i : Int) : (Int × Int × List En) × Bool :=
  if rollOk b r l then (if b ≤ i ∧ i ≤ b + l.length ∧ i ≤ 300 then ((i, reignIn b r l i, l.drop (i - b).toNat), true) else ((b, r, l), false)) else ((0, 0, []), false)
theorem rollOk_parts {b r : Int} {l : List En} (h : rollOk b r l = true) : 0 ≤ b ∧ b ≤ 300 ∧ 0 ≤ r ∧ r ≤ 1000 ∧ l.length ≤ 100 ∧ ∀ e ∈ l, entryOk e = true := by
  simp only [rollOk, baseOk, inI, Bool.and_eq_true, decide_eq_true_eq] at h
  exact ⟨h.1.1.1, h.1.1.2, h.1.2.1.1, h.1.2.1.2, h.2.1, fun e he => List.all_eq_true.1 h.2.2.1 e he⟩
end M
end Go.Proofs.Ytkpbfocnokbmiaa
namespace Go.Proofs.Ytkpbfocnokbmiaa
open Go.RowKit

/-- A goal at which a walk stands still. -/
def Stop (p : Prop) : Prop := p
theorem stop_mk {p : Prop} (h : Stop p) : p := h
theorem stop_un {p : Prop} (h : p) : Stop p := h

section
variable {α : Type} {enc : α → List Value} {k : Nat} {w w' : World} {l : List α}
theorem flat_news {ad : Addr} (hk : ∀ x, (enc x).length = k) (hk0 : 0 < k) (h : Flat enc k w (some ad) l) : ∀ j u, (cellsOf enc l)[j]? = some u → w.cell? (ad.add j) = some u := by
  intro j u hu
  rcases h with rfl | ⟨b, o, hA, hlt, h⟩
  · simp [cellsOf] at hu
  · obtain rfl : ad = ⟨b, o, none⟩ := by injection hA
    have hj : j < l.length * k := by
      have := (List.getElem?_eq_some_iff.1 hu).1
      rwa [cellsOf_len hk] at this
    have hi : j / k < l.length := Nat.div_lt_of_lt_mul (by rw [Nat.mul_comm]; exact hj)
    have ht : j % k < k := Nat.mod_lt _ hk0
    have hd : j / k * k + j % k = j := by rw [Nat.mul_comm]; exact Nat.div_add_mod j k
    have h1 := cellsOf_at hk l (j / k) (j % k) l[j / k] (List.getElem?_eq_getElem hi) ht
    rw [hd, hu] at h1
    have := h (j / k) (j % k) l[j / k] u (List.getElem?_eq_getElem hi) h1.symm
    rw [Nat.add_assoc, hd] at this
    rw [addr_add]; exact this
theorem flat_none (h : Flat enc k w none l) : l = [] := by
  rcases h with h | ⟨b, o, hA, _⟩
  · exact h
  · cases hA

/-- What a slice cut from place m on points to. -/
def cutAt (A : Option Addr) (cap m k : Nat) : Option Addr := if cap = m then A else A.map (·.add (m * k))
theorem Flat.cutDrop {A : Option Addr} {cap : Nat} (h : Flat enc k w A l) (m : Nat) (hc : l.length ≤ cap) : Flat enc k w (cutAt A cap m k) (l.drop m) := by
  by_cases hm : m < l.length
  · rcases h with rfl | ⟨b, o, rfl, hlt, h⟩
    · simp at hm
    · unfold cutAt
      rw [if_neg (by omega)]
      refine .inr ⟨b, o + m * k, ?_, hlt, fun i t x u hi hu => ?_⟩
      · simp [addr_add]
      · rw [List.getElem?_drop] at hi
        have := h (m + i) t x u hi hu
        rw [Nat.add_mul, ← Nat.add_assoc] at this
        exact this
  · exact .inl (List.drop_eq_nil_of_le (by omega))
/-- append of a slice of records. -/
theorem wp_append_flat {P : Program} {o : Oper} {a : Act} {K : Act → World → Prop} {Q : Exit → Act → World → Prop} (s x : Operand) (t : TypeId)
    (ho : o.op = .call { callee := .builtin .append, args := #[s, x], argTypes := #[t, t] })
    (base : Nat) (e : TypeId) (i : TypeInfo) (z : Value) (bytes : Nat) (ht : P.underlying t = some (.slice e)) (hi : P.info? e = some i) (hz : i.zero = some z)
    (hsize : i.size = k) (hby : i.bytes = bytes) (hzs : z.cells.size = k) (hsz : 0 < k)
    (v : Value) (n : Nat) (xs : List Value) (hs : a.eval s = v) (hown : w.ownsRow base e k v n xs)
    (A : Option Addr) (c : Nat) (hx : a.eval x = .slice A l.length c) (hA : A = none → c = 0) (hfl : Flat enc k w A l) (hk : ∀ x, (enc x).length = k) (h1 : ∀ u ∈ cellsOf enc l, u.oneCell' = true)
    (h63 : n + l.length ≤ maxLen) (hbytes : (n + l.length) * bytes ≤ 140737488355328) (hbase : base ≤ w.heap.size)
    (h : ∀ v' w', w'.ownsRow base e k v' (n + l.length) (xs ++ cellsOf enc l) → w.grownBy w' v.ownBlock → K (a.put o.dst v') w') : o.wp P a w K Q := by
  rcases A with _ | ad
  · have hl := flat_none hfl
    have hc := hA rfl
    subst hl hc
    have hrun := run_append_owned_none (P := P) w base t o.type e i k ht hi v n xs hown
    unfold Oper.wp execOp
    simp only [List.length_nil] at hx
    simp only [ho, resolve, invoke, builtin, Sem.run_bind, Sem.run_pure, Result.andThen_ok, List.map_toArray, List.map_cons, List.map_nil, hs, hx, hrun]
    refine h v w ?_ ⟨rfl, rfl, rfl, Nat.le_refl _, fun _ _ _ => rfl⟩
    simpa [cellsOf] using hown
  · exact wp_append_own w s x t ho base e i z k bytes ht hi hz hsize hby hzs hsz v n xs hs hown ad l.length c (cellsOf enc l) hx (cellsOf_len hk l) (flat_news hk hsz hfl) h1 h63 hbytes hbase fun v' w' h2 h3 _ => h v' w' h2 h3
theorem wpList_append_flat {P : Program} {ops : Array Oper} {rest : List Oper} {o : Oper} {a : Act} {Q : Exit → Act → World → Prop} (hgd : o.guard = none) (s x : Operand) (t : TypeId)
    (ho : o.op = .call { callee := .builtin .append, args := #[s, x], argTypes := #[t, t] })
    (base : Nat) (e : TypeId) (i : TypeInfo) (z : Value) (bytes : Nat) (ht : P.underlying t = some (.slice e)) (hi : P.info? e = some i) (hz : i.zero = some z)
    (hsize : i.size = k) (hby : i.bytes = bytes) (hzs : z.cells.size = k) (hsz : 0 < k)
    (v : Value) (n : Nat) (xs : List Value) (hs : a.eval s = v) (hown : w.ownsRow base e k v n xs)
    (A : Option Addr) (c : Nat) (hx : a.eval x = .slice A l.length c) (hA : A = none → c = 0) (hfl : Flat enc k w A l) (hk : ∀ x, (enc x).length = k) (h1 : ∀ u ∈ cellsOf enc l, u.oneCell' = true)
    (h63 : n + l.length ≤ maxLen) (hbytes : (n + l.length) * bytes ≤ 140737488355328) (hbase : base ≤ w.heap.size)
    (h : ∀ v' w', w'.ownsRow base e k v' (n + l.length) (xs ++ cellsOf enc l) → w.grownBy w' v.ownBlock → wpList P ops Q rest (a.put o.dst v') w') : wpList P ops Q (o :: rest) a w :=
  wpList_plain hgd fun _ hK => wp_append_flat s x t ho base e i z bytes ht hi hz hsize hby hzs hsz v n xs hs hown A c hx hA hfl hk h1 h63 hbytes hbase fun v' w' h2 h3 => hK _ _ (h v' w' h2 h3)

theorem grown_holds {g : Nat} {C : Array Value} {row : Option Nat} (h : Holds w g C) (hg : w.grownBy w' row) (hne : some g ≠ row) : Holds w' g C :=
  ⟨Nat.lt_of_lt_of_le h.1 hg.size, fun j v hj => (World.cell?_of_block (a := ⟨g, j, none⟩) (hg.block g h.1 hne)).trans (h.2 j v hj)⟩
theorem grown_loose {g : Nat} {row : Option Nat} (h : Loose w g) (hlt : g < w.heap.size) (hg : w.grownBy w' row) (hne : some g ≠ row) : Loose w' g := fun j => by
  have := hg.block g hlt hne
  have h' := h j
  unfold World.frozen? at h' ⊢
  rw [this]; exact h'
end

end Go.Proofs.Ytkpbfocnokbmiaa
