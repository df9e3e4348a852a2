/- Proved, in parts: Proved: the laws' helpers on copies and works (their size, their copy, their likeness) answer plain Lean functions; they write nothing that was there. Proved: what a list of works in memory is, and that it stays behind calls and new blocks; no program's function is named here; no condition. Proved: a scope of code holds what it must where every jump to one of its labels keeps a relation and lowers a measure; no condition.
   A scope through which the run jumps to any of its labels: what holds at each label's jump, and a measure that every pass from a label lowers. -/
import Derived.Test.YtdoeiphnalbinaaGreatPart01
import Derived.Test.YtdoeiphnalbinaaGreatPart02
import Derived.Test.YtdoeiphnalbinaaGreatPart04
import Derived.Scope
namespace Go.Proofs.YtdoeiphnalbinaaGreat
open Go.RowKit

abbrev cpL (c : M.Cp) : List Value := [.int .i64 c.ed.ma, .int .i64 c.ed.mi, .int .i64 c.ed.pa, .string c.page, .bool c.hidden]
abbrev cpV (c : M.Cp) : Value := .agg #[.int .i64 c.ed.ma, .int .i64 c.ed.mi, .int .i64 c.ed.pa, .string c.page, .bool c.hidden]
theorem cpL_len (c : M.Cp) : (cpL c).length = 5 := rfl
abbrev Cps (w : World) (A : Option Addr) (l : List M.Cp) : Prop := Flat cpL 5 w A l

theorem Cps_at {w : World} {A : Option Addr} {l : List M.Cp} {i : Nat} (h : Cps w A l) (hi : i < l.length) : ∃ b o, A = some ⟨b, o, none⟩ ∧ b < w.heap.size ∧
    w.cell? ⟨b, o + i * 5, none⟩ = some (.int .i64 l[i].ed.ma) ∧ w.cell? ⟨b, o + i * 5 + 1, none⟩ = some (.int .i64 l[i].ed.mi) ∧ w.cell? ⟨b, o + i * 5 + 2, none⟩ = some (.int .i64 l[i].ed.pa) ∧ w.cell? ⟨b, o + i * 5 + 3, none⟩ = some (.string l[i].page) ∧ w.cell? ⟨b, o + i * 5 + 4, none⟩ = some (.bool l[i].hidden) := by
  obtain ⟨b, o, rfl, hb, h⟩ := h.at hi
  exact ⟨b, o, rfl, hb, h 0 _ rfl, h 1 _ rfl, h 2 _ rfl, h 3 _ rfl, h 4 _ rfl⟩

theorem addr_add (b o n : Nat) : (⟨b, o, none⟩ : Addr).add n = ⟨b, o + n, none⟩ := by
  unfold Addr.add; split
  · subst_vars; rfl
  · rfl

set_option maxHeartbeats 400000 in
theorem szCopy_small (c : M.Cp) (n : Int) (w : World) (h1 : n ≤ 1048576) (h : (c.page.size : Int) ≤ n) :
    Calls Tryz.prog 100 #[cpV c, .int .i64 n] w fun r w' => r = .returned (.int .i64 (n - c.page.size)) ∧ Below w.heap.size w w' := by
  go_enter Tryz.func100, Tryz.ntmps100
  go_wp2
  go_ret
  exact ⟨rfl, (Below.refl _ _).alloc (Nat.le_refl _) _⟩
set_option maxHeartbeats 400000 in
theorem szCopy_big (c : M.Cp) (n : Int) (w : World) (h0 : 0 ≤ n) (hp : c.page.size ≤ maxLen) (h : n < (c.page.size : Int)) :
    Calls Tryz.prog 100 #[cpV c, .int .i64 n] w fun r w' => r = .returned (.int .i64 (-1)) ∧ Below w.heap.size w w' := by
  unfold maxLen at hp
  go_enter Tryz.func100, Tryz.ntmps100
  go_wp2
  go_ret
  exact ⟨rfl, (Below.refl _ _).alloc (Nat.le_refl _) _⟩

set_option maxHeartbeats 1000000 in
theorem szCopyS_small (A : Option Addr) (l : List M.Cp) (cap : Nat) (n : Int) (w : World) (h1 : n ≤ 1048576) (hl : Cps w A l) (h : (l.length + M.szPages l : Int) ≤ n) :
    Calls Tryz.prog 82 #[.slice A l.length cap, .int .i64 n] w fun r w' => r = .returned (.int .i64 (n - l.length - M.szPages l)) ∧ Below w.heap.size w w' := by
  go_enter Tryz.func82, Tryz.ntmps82
  go_wp2
  go_loopw [1, 5] (fun x i wr => ∃ j : Nat, i = .int .i64 j ∧ j ≤ l.length ∧ x = .int .i64 (n - l.length - M.szPages (l.take j)) ∧ Cps wr A l ∧ Below w.heap.size w wr) (fun _ i _ => l.length - (intOf i).toNat)
  case atStart => exact ⟨0, rfl, Nat.zero_le _, by simp [M.szPages], hl, Below.refl _ _⟩
  case round =>
    obtain ⟨j, rfl, hj, rfl, hl', hb⟩ := hrel
    have hle := M.szPages_take_le l j
    by_cases hlt : j < l.length
    · have hs := M.szPages_take l j hlt
      have hle' := M.szPages_take_le l (j + 1)
      have HS := Lib.hid hs
      have hp : (l[j].page.size : Int) ≤ n - l.length - M.szPages (l.take j) := by omega
      have HP := Lib.hid hp
      clear hs hp
      obtain ⟨b, o, rfl, hbl, c0, c1, c2, c3, c4⟩ := Cps_at hl' hlt
      go_wp2_with fail
      refine (szCopy_small l[j] _ _ (by omega) HP.out).mono ?_
      rintro r w1 ⟨rfl, b1⟩
      have h0 : 0 ≤ n - (l.length : Int) - (M.szPages (l.take j) : Int) - (l[j].page.size : Int) := by have := HP.out; omega
      go_wp2
      go_roundw
      case rel => exact ⟨j + 1, by go_num, by omega, by rw [HS.out]; go_num, hl'.below b1, next hb b1⟩
      case measure => simp [intOf]; omega
    · have hj' : j = l.length := by omega
      subst hj'
      go_wp2
      go_ret
      exact ⟨ret_int (by rw [List.take_length]), hb⟩

set_option maxHeartbeats 1000000 in
theorem szCopyS_big (A : Option Addr) (l : List M.Cp) (cap : Nat) (n : Int) (w : World) (h0 : 0 ≤ n) (h1 : n ≤ 1048576) (hl : Cps w A l) (hlen : l.length ≤ maxLen) (hp : ∀ c ∈ l, c.page.size ≤ maxLen) (h : n < (l.length + M.szPages l : Int)) :
    Calls Tryz.prog 82 #[.slice A l.length cap, .int .i64 n] w fun r w' => r = .returned (.int .i64 (-1)) ∧ Below w.heap.size w w' := by
  unfold maxLen at hlen
  by_cases hshort : n < l.length
  · go_enter Tryz.func82, Tryz.ntmps82
    go_wp2
    go_ret
    exact ⟨rfl, Below.refl _ _⟩
  · go_enter Tryz.func82, Tryz.ntmps82
    go_wp2
    go_loopw [1, 5] (fun x i wr => ∃ j : Nat, i = .int .i64 j ∧ j ≤ l.length ∧ (M.szPages (l.take j) : Int) ≤ n - l.length ∧ x = .int .i64 (n - l.length - M.szPages (l.take j)) ∧ Cps wr A l ∧ Below w.heap.size w wr) (fun _ i _ => l.length - (intOf i).toNat)
    case atStart => exact ⟨0, rfl, Nat.zero_le _, by simp [M.szPages]; omega, by simp [M.szPages], hl, Below.refl _ _⟩
    case round =>
      obtain ⟨j, rfl, hj, hle, rfl, hl', hb⟩ := hrel
      by_cases hlt : j < l.length
      · have HS := Lib.hid (M.szPages_take l j hlt)
        have hpj := hp l[j] (List.getElem_mem hlt)
        obtain ⟨b, o, rfl, hbl, c0, c1, c2, c3, c4⟩ := Cps_at hl' hlt
        by_cases hfit : (l[j].page.size : Int) ≤ n - l.length - M.szPages (l.take j)
        · have HP := Lib.hid hfit
          clear hfit hpj
          go_wp2_with fail
          refine (szCopy_small l[j] _ _ (by omega) HP.out).mono ?_
          rintro r w1 ⟨rfl, b1⟩
          have h0 : 0 ≤ n - (l.length : Int) - (M.szPages (l.take j) : Int) - (l[j].page.size : Int) := by have := HP.out; omega
          go_wp2
          go_roundw
          case rel => exact ⟨j + 1, by go_num, by omega, by rw [HS.out]; simp; omega, by rw [HS.out]; go_num, hl'.below b1, next hb b1⟩
          case measure => simp [intOf]; omega
        · have HP : Hid (n - l.length - M.szPages (l.take j) < (l[j].page.size : Int)) := Lib.hid (by omega)
          clear hfit
          go_wp2_with fail
          refine (szCopy_big l[j] _ _ (by omega) hpj HP.out).mono ?_
          rintro r w1 ⟨rfl, b1⟩
          go_wp2
          go_ret
          exact ⟨rfl, next hb b1⟩
      · have hj' : j = l.length := by omega
        subst hj'
        rw [List.take_length] at hle
        omega

abbrev wkL (name : ByteArray) (owner : Int) (A : Option Addr) (n c : Nat) : Array Value := #[.string name, .int .i64 owner, .slice A n c]
abbrev wkV (name : ByteArray) (owner : Int) (A : Option Addr) (n c : Nat) : Value := .agg (wkL name owner A n c)

set_option maxHeartbeats 1000000 in
theorem szWork_small (name : ByteArray) (owner : Int) (A : Option Addr) (l : List M.Cp) (cap : Nat) (n : Int) (w : World) (h1 : n ≤ 1048576) (hl : Cps w A l) (h : (name.size + (l.length + M.szPages l) : Int) ≤ n) :
    Calls Tryz.prog 56 #[wkV name owner A l.length cap, .int .i64 n] w fun r w' => r = .returned (.int .i64 (n - name.size - l.length - M.szPages l)) ∧ Below w.heap.size w w' := by
  have b0 : Below w.heap.size w (w.alloc (.cells (wkL name owner A l.length cap) 98)) := (Below.refl _ _).alloc (Nat.le_refl _) _
  go_enter Tryz.func56, Tryz.ntmps56
  go_wp2_with fail
  refine (szCopyS_small A l cap _ _ (by omega) (hl.alloc _) (by omega)).mono ?_
  rintro r w1 ⟨rfl, b1⟩
  have h0 : 0 ≤ n - (name.size : Int) - (l.length : Int) - (M.szPages l : Int) := by omega
  go_wp2
  go_ret
  exact ⟨rfl, next b0 b1⟩
set_option maxHeartbeats 1000000 in
theorem szWork_big (name : ByteArray) (owner : Int) (A : Option Addr) (l : List M.Cp) (cap : Nat) (n : Int) (w : World) (h0 : 0 ≤ n) (h1 : n ≤ 1048576) (hl : Cps w A l) (hn : name.size ≤ maxLen) (hlen : l.length ≤ maxLen) (hp : ∀ c ∈ l, c.page.size ≤ maxLen) (h : n < (name.size + (l.length + M.szPages l) : Int)) :
    Calls Tryz.prog 56 #[wkV name owner A l.length cap, .int .i64 n] w fun r w' => r = .returned (.int .i64 (-1)) ∧ Below w.heap.size w w' := by
  have b0 : Below w.heap.size w (w.alloc (.cells (wkL name owner A l.length cap) 98)) := (Below.refl _ _).alloc (Nat.le_refl _) _
  have hn' := hn
  unfold maxLen at hn'
  by_cases hshort : n < (name.size : Int)
  · go_enter Tryz.func56, Tryz.ntmps56
    go_wp2
    go_ret
    exact ⟨rfl, b0⟩
  · go_enter Tryz.func56, Tryz.ntmps56
    go_wp2_with fail
    refine (szCopyS_big A l cap _ _ (by omega) (by omega) (hl.alloc _) hlen hp (by omega)).mono ?_
    rintro r w1 ⟨rfl, b1⟩
    go_wp2
    go_ret
    exact ⟨rfl, next b0 b1⟩
end Go.Proofs.YtdoeiphnalbinaaGreat
namespace Go.Proofs.YtdoeiphnalbinaaGreat
open Go.RowKit

/-- A work as it stands in memory: its copies lie at ad. -/
structure Wr where
  name : ByteArray
  owner : Int
  ad : Option Addr
  cap : Nat
  cps : List M.Cp
def Wr.wk (r : Wr) : M.Wk := ⟨r.name, r.owner, r.cps⟩
abbrev wrL (r : Wr) : List Value := [.string r.name, .int .i64 r.owner, .slice r.ad r.cps.length r.cap]
theorem wrL_len (r : Wr) : (wrL r).length = 3 := rfl
instance : Inhabited Wr := ⟨⟨⟨#[]⟩, 0, none, 0, []⟩⟩

/-- A slice at A holds the works of l. -/
def Wks (w : World) (A : Option Addr) (l : List Wr) : Prop := Flat wrL 3 w A l ∧ ∀ r ∈ l, Cps w r.ad r.cps
theorem Wks.below {w w' : World} {A : Option Addr} {l : List Wr} (h : Wks w A l) (hb : Below w.heap.size w w') : Wks w' A l := ⟨h.1.below hb, fun r hr => (h.2 r hr).below hb⟩
theorem Wks.alloc {w : World} {A : Option Addr} {l : List Wr} (h : Wks w A l) (o : Obj) : Wks (w.alloc o) A l := h.below ((Below.refl _ _).alloc (Nat.le_refl _) o)
theorem Wks.drew {w : World} {A : Option Addr} {l : List Wr} (h : Wks w A l) : Wks w.drew A l := h
theorem Wks_at {w : World} {A : Option Addr} {l : List Wr} {i : Nat} (h : Wks w A l) (hi : i < l.length) : ∃ b o, A = some ⟨b, o, none⟩ ∧ b < w.heap.size ∧
    w.cell? ⟨b, o + i * 3, none⟩ = some (.string l[i].name) ∧ w.cell? ⟨b, o + i * 3 + 1, none⟩ = some (.int .i64 l[i].owner) ∧ w.cell? ⟨b, o + i * 3 + 2, none⟩ = some (.slice l[i].ad l[i].cps.length l[i].cap) ∧ Cps w l[i].ad l[i].cps := by
  obtain ⟨b, o, rfl, hb, h'⟩ := h.1.at hi
  exact ⟨b, o, rfl, hb, h' 0 _ rfl, h' 1 _ rfl, h' 2 _ rfl, h.2 _ (List.getElem_mem hi)⟩
theorem Wks.nil (w : World) (A : Option Addr) : Wks w A [] := ⟨.inl rfl, by simp⟩

/-- How much the bounds of the laws count of a work. -/
def szWr (r : Wr) : Nat := r.name.size + (r.cps.length + M.szPages r.cps)
def szWrs : List Wr → Nat
  | [] => 0
  | r :: l => szWr r + szWrs l
theorem szWrs_take (l : List Wr) (i : Nat) (h : i < l.length) : szWrs (l.take (i + 1)) = szWrs (l.take i) + szWr l[i] := by
  induction l generalizing i with
  | nil => simp at h
  | cons c l ih =>
    cases i with
    | zero => simp [szWrs]
    | succ i => simp [szWrs, ih i (by simpa using h)]; omega
theorem szWrs_take_le (l : List Wr) (i : Nat) : szWrs (l.take i) ≤ szWrs l := by
  induction l generalizing i with
  | nil => simp [szWrs]
  | cons c l ih =>
    cases i with
    | zero => simp [szWrs]
    | succ i => have := ih i; simp [szWrs]; omega
theorem szWrs_mem (l : List Wr) (c : Wr) (h : c ∈ l) : szWr c ≤ szWrs l := by
  induction l with
  | nil => simp at h
  | cons d l ih =>
    rcases List.mem_cons.1 h with rfl | h
    · simp [szWrs]
    · have := ih h; simp [szWrs]; omega
/-- Each text and list of l is such that Go can hold it. -/
def WrsIn (n : Nat) (l : List Wr) : Prop := ∀ r ∈ l, r.name.size ≤ n ∧ r.cps.length ≤ n ∧ ∀ c ∈ r.cps, c.page.size ≤ n
theorem WrsIn.of_sz {l : List Wr} {n : Nat} (h : szWrs l ≤ n) : WrsIn n l := fun r hr => by
  have := szWrs_mem l r hr
  unfold szWr at this
  exact ⟨by omega, by omega, fun c hc => by have := M.szPages_mem _ c hc; omega⟩
theorem WrsIn.mono {l : List Wr} {n m : Nat} (h : WrsIn n l) (hm : n ≤ m) : WrsIn m l := fun r hr =>
  ⟨Nat.le_trans (h r hr).1 hm, Nat.le_trans (h r hr).2.1 hm, fun c hc => Nat.le_trans ((h r hr).2.2 c hc) hm⟩
/-! ### The order of names. -/
theorem bytesLess_tri : ∀ a b : List UInt8, Op.bytesLess a b = !(Op.bytesLess b a || b == a)
  | [], [] => by simp [Op.bytesLess]
  | [], b :: y => by simp [Op.bytesLess]
  | a :: x, [] => by simp [Op.bytesLess]
  | a :: x, b :: y => by
    have ih := bytesLess_tri x y
    simp only [Op.bytesLess, List.cons_beq_cons]
    rw [ih]
    by_cases h1 : a < b
    · have h2 : ¬ b < a := by
        rw [UInt8.lt_iff_toNat_lt] at *; omega
      have h3 : (b == a) = false := by
        rw [beq_eq_false_iff_ne]; intro e; subst e; exact absurd h1 (UInt8.lt_irrefl _)
      simp [h1, h2, h3]
    · by_cases h2 : b < a
      · have h3 : (a == b) = false := by
          rw [beq_eq_false_iff_ne]; intro e; subst e; exact absurd h2 (UInt8.lt_irrefl _)
        simp [h1, h2, h3]
      · have h3 : a = b := by
          apply UInt8.toNat_inj.1
          rw [UInt8.lt_iff_toNat_lt] at h1 h2; omega
        subst h3
        simp [UInt8.lt_irrefl]
namespace M
def nameLt (a b : ByteArray) : Bool := Op.bytesLess a.toList b.toList
def risesN : List Wk → Bool
  | a :: b :: l => nameLt a.name b.name && risesN (b :: l)
  | _ => true
def sfOk (l : List Wk) : Bool := decide (l.length ≤ 5) && (l.all wkOk && risesN l)
theorem risesN_iff : ∀ l : List Wk, risesN l = true ↔ ∀ (i : Nat) (h : i + 1 < l.length), nameLt l[i].name l[i + 1].name = true
  | [] => by simp [risesN]
  | [a] => by simp [risesN]
  | a :: b :: l => by
    have ih := risesN_iff (b :: l)
    simp only [risesN, Bool.and_eq_true, ih]
    constructor
    · rintro ⟨h0, h⟩ i hi
      cases i with
      | zero => exact h0
      | succ i => exact h i (by simpa using hi)
    · intro h
      exact ⟨h 0 (by simp), fun i hi => h (i + 1) (by simpa using hi)⟩
/-- Up to here all is right. -/
def sfTo (l : List Wk) (k : Nat) : Prop := (∀ (i : Nat) (h : i < l.length), i < k → wkOk l[i] = true) ∧ ∀ (i : Nat) (h : i + 1 < l.length), i + 1 < k → nameLt l[i].name l[i + 1].name = true
theorem sfTo_zero (l : List Wk) : sfTo l 0 := ⟨fun _ _ h => absurd h (by omega), fun _ _ h => absurd h (by omega)⟩
theorem sfTo_all {l : List Wk} {k : Nat} (h : sfTo l k) (hk : l.length ≤ k) : sfOk l = decide (l.length ≤ 5) := by
  have h1 : l.all wkOk = true := List.all_eq_true.2 fun x hx => by
    obtain ⟨i, hi, rfl⟩ := List.mem_iff_getElem.1 hx
    exact h.1 i hi (by omega)
  have h2 := (risesN_iff l).2 fun i hi => h.2 i hi (by omega)
  simp [sfOk, h1, h2]
theorem sfTo_first {l : List Wk} (h : 0 < l.length) (h0 : wkOk l[0] = true) : sfTo l 1 :=
  ⟨fun i hi hk => by obtain rfl : i = 0 := by omega
                     exact h0, fun i hi hk => absurd hk (by omega)⟩
theorem sfTo_next {l : List Wk} {k : Nat} (h : sfTo l (k + 1)) (hk : k + 1 < l.length) (h0 : wkOk l[k + 1] = true) (h1 : nameLt l[k].name l[k + 1].name = true) : sfTo l (k + 2) := by
  refine ⟨fun i hi hk' => ?_, fun i hi hk' => ?_⟩
  · by_cases e : i = k + 1
    · subst e; exact h0
    · exact h.1 i hi (by omega)
  · by_cases e : i = k
    · subst e; exact h1
    · exact h.2 i hi (by omega)
theorem sfOk_not_work {l : List Wk} {k : Nat} (h : k < l.length) (h0 : wkOk l[k] = false) : sfOk l = false := by
  rcases hc : sfOk l with _ | _
  · rfl
  · unfold sfOk at hc
    simp only [Bool.and_eq_true] at hc
    have := List.all_eq_true.1 hc.2.1 _ (List.getElem_mem h)
    rw [h0] at this; cases this
theorem sfOk_not_rise {l : List Wk} {k : Nat} (h : k + 1 < l.length) (h0 : nameLt l[k].name l[k + 1].name = false) : sfOk l = false := by
  rcases hc : sfOk l with _ | _
  · rfl
  · unfold sfOk at hc
    simp only [Bool.and_eq_true] at hc
    have := (risesN_iff l).1 hc.2.2 k h
    rw [h0] at this; cases this
end M
end Go.Proofs.YtdoeiphnalbinaaGreat
namespace Go.Proofs.YtdoeiphnalbinaaGreat
open Go

/-- As Q; by a goto to label l: J l. -/
def jumpsTo (J : Nat → Act → World → Prop) (Q : Exit → Act → World → Prop) : Exit → Act → World → Prop
  | .goto l, a, w => J l a w
  | e, a, w => Q e a w

theorem jumpsTo_mono {J J' : Nat → Act → World → Prop} {Q : Exit → Act → World → Prop} (h : ∀ l a w, J l a w → J' l a w) : ∀ e a w, jumpsTo J Q e a w → jumpsTo J' Q e a w := by
  intro e a w hq
  cases e <;> first | exact h _ _ _ hq | exact hq

theorem wp_scope_labels {P : Program} {a : Act} {w : World} {Q : Exit → Act → World → Prop} {c : Code} (J : Nat → Act → World → Prop) (mu : Nat → Act → World → Nat)
    (pass0 : ∀ l a w, J l a w → ∃ rest, findLabel c l = some (.seq .skip rest) ∧ rest.wp P (jumpsTo (fun l' a' w' => J l' a' w' ∧ mu l' a' w' < mu l a w) Q) a w)
    (first0 : (∀ l a w rest, findLabel c l = some (.seq .skip rest) → J l a w → rest.wp P (jumpsTo J Q) a w) → c.wp P (jumpsTo J Q) a w) :
    (Code.scope c).wp P Q a w := by
  have pass : ∀ l a w, J l a w → ∃ rest, findLabel c l = some rest ∧ rest.wp P (jumpsTo (fun l' a' w' => J l' a' w' ∧ mu l' a' w' < mu l a w) Q) a w := by
    intro l a w hJ
    obtain ⟨rest, hr, hp⟩ := pass0 l a w hJ
    exact ⟨_, hr, wp_seq (wp_skip hp)⟩
  have first : c.wp P (jumpsTo J Q) a w := by
    refine first0 fun l a w rest hr hJ => ?_
    obtain ⟨rest', hr', hp⟩ := pass0 l a w hJ
    have er : rest = rest' := by rw [hr] at hr'; injection hr' with h1; injection h1
    subst er
    exact wp_mono hp (jumpsTo_mono fun _ _ _ h => h.1)
  intro b k cs
  have key : ∀ n l a w rest, mu l a w = n → J l a w → findLabel c l = some rest →
      ∃ e a' w', Q e a' w' ∧ Arrives P (lone (b.at a (.code rest :: .inScope c :: k)) cs w) b k cs e a' w' := by
    intro n
    induction n using Nat.strongRecOn with
    | _ n ih =>
      intro l a w rest hn hJ hr
      obtain ⟨rest', hr', hp⟩ := pass l a w hJ
      have er : rest = rest' := by rw [hr] at hr'; exact Option.some.inj hr'
      subst er
      obtain ⟨e, a1, w1, hq, harr⟩ := hp b (.inScope c :: k) cs
      cases e with
      | normal => exact ⟨.normal, a1, w1, hq, Steps.trans harr (.one step_inScope)⟩
      | exit id => exact ⟨.exit id, a1, w1, hq, fun k' hk => harr k' (by simp [exitTo, hk])⟩
      | goto l' =>
        obtain ⟨hJ', hlt⟩ := hq
        obtain ⟨rest2, hr2, _⟩ := pass l' a1 w1 hJ'
        obtain ⟨e2, a2, w2, hq2, harr2⟩ := ih _ (by omega) l' a1 w1 rest2 rfl hJ' hr2
        exact ⟨e2, a2, w2, hq2, .of_steps (harr _ (by simp [gotoIn, hr2])) harr2⟩
      | ret => exact ⟨_, a1, w1, hq, harr⟩
      | panic ch => exact ⟨_, a1, w1, hq, harr⟩
      | outgrown => exact ⟨_, a1, w1, hq, harr⟩
  obtain ⟨e, a1, w1, hq, harr⟩ := first b (.inScope c :: k) cs
  cases e with
  | normal => exact ⟨.normal, a1, w1, hq, .head step_scope (Steps.trans harr (.one step_inScope))⟩
  | exit id => exact ⟨.exit id, a1, w1, hq, fun k' hk => .head step_scope (harr k' (by simp [exitTo, hk]))⟩
  | goto l' =>
    obtain ⟨rest2, hr2, _⟩ := pass l' a1 w1 hq
    obtain ⟨e2, a2, w2, hq2, harr2⟩ := key _ l' a1 w1 rest2 rfl hq hr2
    exact ⟨e2, a2, w2, hq2, .of_steps (.head step_scope (harr _ (by simp [gotoIn, hr2]))) harr2⟩
  | ret => exact ⟨_, a1, w1, hq, .of_steps (.one step_scope) harr⟩
  | panic ch => exact ⟨_, a1, w1, hq, .of_steps (.one step_scope) harr⟩
  | outgrown => exact ⟨_, a1, w1, hq, .of_steps (.one step_scope) harr⟩

section
variable {J : Nat → Act → World → Prop} {Q : Exit → Act → World → Prop} {a : Act} {w : World}
theorem jumpsTo_normal : jumpsTo J Q .normal a w = Q .normal a w := rfl
theorem jumpsTo_exit (id : Nat) : jumpsTo J Q (.exit id) a w = Q (.exit id) a w := rfl
theorem jumpsTo_ret : jumpsTo J Q .ret a w = Q .ret a w := rfl
end
attribute [go_sem] jumpsTo_normal jumpsTo_exit jumpsTo_ret
end Go.Proofs.YtdoeiphnalbinaaGreat
