/- Proved: what a list of works in memory is, and that it stays behind calls and new blocks; no program's function is named here; no condition. -/
import Derived.Test.YteiopndlakkeaaaWorkSz
namespace Go.Proofs.Yteiopndlakkeaaa
open Go.RowKit

/-- A work as it stands in memory: its copies lie at ad. -/
structure Wr where
  name : ByteArray
  owner : Int
  ad : Option Addr
  cap : Nat
  cps : List M.Cp
def Wr.wk (r : Wr) : M.Wk := ⟨r.name, r.owner, r.cps⟩
abbrev wrL (r : Wr) : List Value := [.string r.name, .int .i64 r.owner, .slice r.ad r.cps.length r.cap]
theorem wrL_len (r : Wr) : (wrL r).length = 3 := rfl
instance : Inhabited Wr := ⟨⟨⟨#[]⟩, 0, none, 0, []⟩⟩

/-- A slice at A holds the works of l. -/
def Wks (w : World) (A : Option Addr) (l : List Wr) : Prop := Flat wrL 3 w A l ∧ ∀ r ∈ l, Cps w r.ad r.cps
theorem Wks.below {w w' : World} {A : Option Addr} {l : List Wr} (h : Wks w A l) (hb : Below w.heap.size w w') : Wks w' A l := ⟨h.1.below hb, fun r hr => (h.2 r hr).below hb⟩
theorem Wks.alloc {w : World} {A : Option Addr} {l : List Wr} (h : Wks w A l) (o : Obj) : Wks (w.alloc o) A l := h.below ((Below.refl _ _).alloc (Nat.le_refl _) o)
theorem Wks.drew {w : World} {A : Option Addr} {l : List Wr} (h : Wks w A l) : Wks w.drew A l := h
theorem Wks_at {w : World} {A : Option Addr} {l : List Wr} {i : Nat} (h : Wks w A l) (hi : i < l.length) : ∃ b o, A = some ⟨b, o, none⟩ ∧ b < w.heap.size ∧
    w.cell? ⟨b, o + i * 3, none⟩ = some (.string l[i].name) ∧ w.cell? ⟨b, o + i * 3 + 1, none⟩ = some (.int .i64 l[i].owner) ∧ w.cell? ⟨b, o + i * 3 + 2, none⟩ = some (.slice l[i].ad l[i].cps.length l[i].cap) ∧ Cps w l[i].ad l[i].cps := by
  obtain ⟨b, o, rfl, hb, h'⟩ := h.1.at hi
  exact ⟨b, o, rfl, hb, h' 0 _ rfl, h' 1 _ rfl, h' 2 _ rfl, h.2 _ (List.getElem_mem hi)⟩
theorem Wks.nil (w : World) (A : Option Addr) : Wks w A [] := ⟨.inl rfl, by simp⟩

/-- How much the bounds of the laws count of a work. -/
def szWr (r : Wr) : Nat := r.name.size + (r.cps.length + M.szPages r.cps)
def szWrs : List Wr → Nat
  | [] => 0
  | r :: l => szWr r + szWrs l
theorem szWrs_take (l : List Wr) (i : Nat) (h : i < l.length) : szWrs (l.take (i + 1)) = szWrs (l.take i) + szWr l[i] := by
  induction l generalizing i with
  | nil => simp at h
  | cons c l ih =>
    cases i with
    | zero => simp [szWrs]
    | succ i => simp [szWrs, ih i (by simpa using h)]; omega
theorem szWrs_take_le (l : List Wr) (i : Nat) : szWrs (l.take i) ≤ szWrs l := by
  induction l generalizing i with
  | nil => simp [szWrs]
  | cons c l ih =>
    cases i with
    | zero => simp [szWrs]
    | succ i => have := ih i; simp [szWrs]; omega
theorem szWrs_mem (l : List Wr) (c : Wr) (h : c ∈ l) : szWr c ≤ szWrs l := by
  induction l with
  | nil => simp at h
  | cons d l ih =>
    rcases List.mem_cons.1 h with rfl | h
    · simp [szWrs]
    · have := ih h; simp [szWrs]; omega
/-- Each text and list of l is such that Go can hold it. -/
def WrsIn (n : Nat) (l : List Wr) : Prop := ∀ r ∈ l, r.name.size ≤ n ∧ r.cps.length ≤ n ∧ ∀ c ∈ r.cps, c.page.size ≤ n
theorem WrsIn.of_sz {l : List Wr} {n : Nat} (h : szWrs l ≤ n) : WrsIn n l := fun r hr => by
  have := szWrs_mem l r hr
  unfold szWr at this
  exact ⟨by omega, by omega, fun c hc => by have := M.szPages_mem _ c hc; omega⟩
theorem WrsIn.mono {l : List Wr} {n m : Nat} (h : WrsIn n l) (hm : n ≤ m) : WrsIn m l := fun r hr =>
  ⟨Nat.le_trans (h r hr).1 hm, Nat.le_trans (h r hr).2.1 hm, fun c hc => Nat.le_trans ((h r hr).2.2 c hc) hm⟩
theorem WrsIn.of_map {l m : List Wr} {n : Nat} (h : WrsIn n l) (he : m.map Wr.wk = l.map Wr.wk) : WrsIn n m := fun r hr => by
  have : r.wk ∈ l.map Wr.wk := by rw [← he]; exact List.mem_map_of_mem hr
  obtain ⟨x, hx, e⟩ := List.mem_map.1 this
  have := h x hx
  unfold Wr.wk at e
  injection e with e1 e2 e3
  rw [e1, e3] at this
  exact this

/-! ### The order of names. -/
theorem bytesLess_tri : ∀ a b : List UInt8, Op.bytesLess a b = !(Op.bytesLess b a || b == a)
  | [], [] => by simp [Op.bytesLess]
  | [], b :: y => by simp [Op.bytesLess]
  | a :: x, [] => by simp [Op.bytesLess]
  | a :: x, b :: y => by
    have ih := bytesLess_tri x y
    simp only [Op.bytesLess, List.cons_beq_cons]
    rw [ih]
    by_cases h1 : a < b
    · have h2 : ¬ b < a := by
        rw [UInt8.lt_iff_toNat_lt] at *; omega
      have h3 : (b == a) = false := by
        rw [beq_eq_false_iff_ne]; intro e; subst e; exact absurd h1 (UInt8.lt_irrefl _)
      simp [h1, h2, h3]
    · by_cases h2 : b < a
      · have h3 : (a == b) = false := by
          rw [beq_eq_false_iff_ne]; intro e; subst e; exact absurd h2 (UInt8.lt_irrefl _)
        simp [h1, h2, h3]
      · have h3 : a = b := by
          apply UInt8.toNat_inj.1
          rw [UInt8.lt_iff_toNat_lt] at h1 h2; omega
        subst h3
        simp [UInt8.lt_irrefl]
namespace M
def nameLt (a b : ByteArray) : Bool := Op.bytesLess a.toList b.toList
def risesN : List Wk → Bool
  | a :: b :: l => nameLt a.name b.name && risesN (b :: l)
  | _ => true
def sfOk (l : List Wk) : Bool := decide (l.length ≤ 5) && (l.all wkOk && risesN l)
theorem risesN_iff : ∀ l : List Wk, risesN l = true ↔ ∀ (i : Nat) (h : i + 1 < l.length), nameLt l[i].name l[i + 1].name = true
  | [] => by simp [risesN]
  | [a] => by simp [risesN]
  | a :: b :: l => by
    have ih := risesN_iff (b :: l)
    simp only [risesN, Bool.and_eq_true, ih]
    constructor
    · rintro ⟨h0, h⟩ i hi
      cases i with
      | zero => exact h0
      | succ i => exact h i (by simpa using hi)
    · intro h
      exact ⟨h 0 (by simp), fun i hi => h (i + 1) (by simpa using hi)⟩
/-- Up to here all is right. -/
def sfTo (l : List Wk) (k : Nat) : Prop := (∀ (i : Nat) (h : i < l.length), i < k → wkOk l[i] = true) ∧ ∀ (i : Nat) (h : i + 1 < l.length), i + 1 < k → nameLt l[i].name l[i + 1].name = true
theorem sfTo_zero (l : List Wk) : sfTo l 0 := ⟨fun _ _ h => absurd h (by omega), fun _ _ h => absurd h (by omega)⟩
theorem sfTo_all {l : List Wk} {k : Nat} (h : sfTo l k) (hk : l.length ≤ k) : sfOk l = decide (l.length ≤ 5) := by
  have h1 : l.all wkOk = true := List.all_eq_true.2 fun x hx => by
    obtain ⟨i, hi, rfl⟩ := List.mem_iff_getElem.1 hx
    exact h.1 i hi (by omega)
  have h2 := (risesN_iff l).2 fun i hi => h.2 i hi (by omega)
  simp [sfOk, h1, h2]
theorem sfTo_first {l : List Wk} (h : 0 < l.length) (h0 : wkOk l[0] = true) : sfTo l 1 :=
  ⟨fun i hi hk => by obtain rfl : i = 0 := by omega
                     exact h0, fun i hi hk => absurd hk (by omega)⟩
theorem sfTo_next {l : List Wk} {k : Nat} (h : sfTo l (k + 1)) (hk : k + 1 < l.length) (h0 : wkOk l[k + 1] = true) (h1 : nameLt l[k].name l[k + 1].name = true) : sfTo l (k + 2) := by
  refine ⟨fun i hi hk' => ?_, fun i hi hk' => ?_⟩
  · by_cases e : i = k + 1
    · subst e; exact h0
    · exact h.1 i hi (by omega)
  · by_cases e : i = k
    · subst e; exact h1
    · exact h.2 i hi (by omega)
theorem sfOk_not_work {l : List Wk} {k : Nat} (h : k < l.length) (h0 : wkOk l[k] = false) : sfOk l = false := by
  rcases hc : sfOk l with _ | _
  · rfl
  · unfold sfOk at hc
    simp only [Bool.and_eq_true] at hc
    have := List.all_eq_true.1 hc.2.1 _ (List.getElem_mem h)
    rw [h0] at this; cases this
theorem sfOk_not_rise {l : List Wk} {k : Nat} (h : k + 1 < l.length) (h0 : nameLt l[k].name l[k + 1].name = false) : sfOk l = false := by
  rcases hc : sfOk l with _ | _
  · rfl
  · unfold sfOk at hc
    simp only [Bool.and_eq_true] at hc
    have := (risesN_iff l).1 hc.2.2 k h
    rw [h0] at this; cases this
end M
end Go.Proofs.Yteiopndlakkeaaa
