/- Proved, in parts: Proved: the laws' helpers on copies and works (their size, their copy, their likeness) answer plain Lean functions; they write nothing that was there. Proved: what a list of works in memory is, and that it stays behind calls and new blocks; no program's function is named here; no condition. Proved: the laws' helpers that make a work of the program's own types out of the laws' answer the same work, in new memory; they write nothing that was there. Proved: facts on a list of copies that lies in memory of one's own; no program's function is named here; no condition. -/
import Derived.Test.YtblcgbgcccjpcaaGreatPart07
import Derived.Test.YtblcgbgcccjpcaaGreatPart03
import Derived.Test.YtblcgbgcccjpcaaGreatPart04
import Derived.OwnWalk
import Derived.Deep.Onto
namespace Go.Proofs.YtblcgbgcccjpcaaGreat
open Go.RowKit

abbrev cpL (c : M.Cp) : List Value := [.int .i64 c.ed.ma, .int .i64 c.ed.mi, .int .i64 c.ed.pa, .string c.page, .bool c.hidden]
abbrev cpV (c : M.Cp) : Value := .agg #[.int .i64 c.ed.ma, .int .i64 c.ed.mi, .int .i64 c.ed.pa, .string c.page, .bool c.hidden]
theorem cpL_len (c : M.Cp) : (cpL c).length = 5 := rfl
abbrev Cps (w : World) (A : Option Addr) (l : List M.Cp) : Prop := Flat cpL 5 w A l

theorem Cps_at {w : World} {A : Option Addr} {l : List M.Cp} {i : Nat} (h : Cps w A l) (hi : i < l.length) : ∃ b o, A = some ⟨b, o, none⟩ ∧ b < w.heap.size ∧
    w.cell? ⟨b, o + i * 5, none⟩ = some (.int .i64 l[i].ed.ma) ∧ w.cell? ⟨b, o + i * 5 + 1, none⟩ = some (.int .i64 l[i].ed.mi) ∧ w.cell? ⟨b, o + i * 5 + 2, none⟩ = some (.int .i64 l[i].ed.pa) ∧ w.cell? ⟨b, o + i * 5 + 3, none⟩ = some (.string l[i].page) ∧ w.cell? ⟨b, o + i * 5 + 4, none⟩ = some (.bool l[i].hidden) := by
  obtain ⟨b, o, rfl, hb, h⟩ := h.at hi
  exact ⟨b, o, rfl, hb, h 0 _ rfl, h 1 _ rfl, h 2 _ rfl, h 3 _ rfl, h 4 _ rfl⟩

theorem addr_add (b o n : Nat) : (⟨b, o, none⟩ : Addr).add n = ⟨b, o + n, none⟩ := by
  unfold Addr.add; split
  · subst_vars; rfl
  · rfl

set_option maxHeartbeats 400000 in
theorem szCopy_small (c : M.Cp) (n : Int) (w : World) (h1 : n ≤ 1048576) (h : (c.page.size : Int) ≤ n) :
    Calls Tryz.prog 202 #[cpV c, .int .i64 n] w fun r w' => r = .returned (.int .i64 (n - c.page.size)) ∧ Below w.heap.size w w' := by
  go_enter Tryz.func202, Tryz.ntmps202
  go_wp2
  go_ret
  exact ⟨rfl, (Below.refl _ _).alloc (Nat.le_refl _) _⟩
set_option maxHeartbeats 400000 in
theorem szCopy_big (c : M.Cp) (n : Int) (w : World) (h0 : 0 ≤ n) (hp : c.page.size ≤ maxLen) (h : n < (c.page.size : Int)) :
    Calls Tryz.prog 202 #[cpV c, .int .i64 n] w fun r w' => r = .returned (.int .i64 (-1)) ∧ Below w.heap.size w w' := by
  unfold maxLen at hp
  go_enter Tryz.func202, Tryz.ntmps202
  go_wp2
  go_ret
  exact ⟨rfl, (Below.refl _ _).alloc (Nat.le_refl _) _⟩

set_option maxHeartbeats 1000000 in
theorem szCopyS_small (A : Option Addr) (l : List M.Cp) (cap : Nat) (n : Int) (w : World) (h1 : n ≤ 1048576) (hl : Cps w A l) (h : (l.length + M.szPages l : Int) ≤ n) :
    Calls Tryz.prog 171 #[.slice A l.length cap, .int .i64 n] w fun r w' => r = .returned (.int .i64 (n - l.length - M.szPages l)) ∧ Below w.heap.size w w' := by
  go_enter Tryz.func171, Tryz.ntmps171
  go_wp2
  go_loopw [1, 5] (fun x i wr => ∃ j : Nat, i = .int .i64 j ∧ j ≤ l.length ∧ x = .int .i64 (n - l.length - M.szPages (l.take j)) ∧ Cps wr A l ∧ Below w.heap.size w wr) (fun _ i _ => l.length - (intOf i).toNat)
  case atStart => exact ⟨0, rfl, Nat.zero_le _, by simp [M.szPages], hl, Below.refl _ _⟩
  case round =>
    obtain ⟨j, rfl, hj, rfl, hl', hb⟩ := hrel
    have hle := M.szPages_take_le l j
    by_cases hlt : j < l.length
    · have hs := M.szPages_take l j hlt
      have hle' := M.szPages_take_le l (j + 1)
      have HS := Lib.hid hs
      have hp : (l[j].page.size : Int) ≤ n - l.length - M.szPages (l.take j) := by omega
      have HP := Lib.hid hp
      clear hs hp
      obtain ⟨b, o, rfl, hbl, c0, c1, c2, c3, c4⟩ := Cps_at hl' hlt
      go_wp2_with fail
      refine (szCopy_small l[j] _ _ (by omega) HP.out).mono ?_
      rintro r w1 ⟨rfl, b1⟩
      have h0 : 0 ≤ n - (l.length : Int) - (M.szPages (l.take j) : Int) - (l[j].page.size : Int) := by have := HP.out; omega
      go_wp2
      go_roundw
      case rel => exact ⟨j + 1, by go_num, by omega, by rw [HS.out]; go_num, hl'.below b1, next hb b1⟩
      case measure => simp [intOf]; omega
    · have hj' : j = l.length := by omega
      subst hj'
      go_wp2
      go_ret
      exact ⟨ret_int (by rw [List.take_length]), hb⟩

set_option maxHeartbeats 1000000 in
theorem szCopyS_big (A : Option Addr) (l : List M.Cp) (cap : Nat) (n : Int) (w : World) (h0 : 0 ≤ n) (h1 : n ≤ 1048576) (hl : Cps w A l) (hlen : l.length ≤ maxLen) (hp : ∀ c ∈ l, c.page.size ≤ maxLen) (h : n < (l.length + M.szPages l : Int)) :
    Calls Tryz.prog 171 #[.slice A l.length cap, .int .i64 n] w fun r w' => r = .returned (.int .i64 (-1)) ∧ Below w.heap.size w w' := by
  unfold maxLen at hlen
  by_cases hshort : n < l.length
  · go_enter Tryz.func171, Tryz.ntmps171
    go_wp2
    go_ret
    exact ⟨rfl, Below.refl _ _⟩
  · go_enter Tryz.func171, Tryz.ntmps171
    go_wp2
    go_loopw [1, 5] (fun x i wr => ∃ j : Nat, i = .int .i64 j ∧ j ≤ l.length ∧ (M.szPages (l.take j) : Int) ≤ n - l.length ∧ x = .int .i64 (n - l.length - M.szPages (l.take j)) ∧ Cps wr A l ∧ Below w.heap.size w wr) (fun _ i _ => l.length - (intOf i).toNat)
    case atStart => exact ⟨0, rfl, Nat.zero_le _, by simp [M.szPages]; omega, by simp [M.szPages], hl, Below.refl _ _⟩
    case round =>
      obtain ⟨j, rfl, hj, hle, rfl, hl', hb⟩ := hrel
      by_cases hlt : j < l.length
      · have HS := Lib.hid (M.szPages_take l j hlt)
        have hpj := hp l[j] (List.getElem_mem hlt)
        obtain ⟨b, o, rfl, hbl, c0, c1, c2, c3, c4⟩ := Cps_at hl' hlt
        by_cases hfit : (l[j].page.size : Int) ≤ n - l.length - M.szPages (l.take j)
        · have HP := Lib.hid hfit
          clear hfit hpj
          go_wp2_with fail
          refine (szCopy_small l[j] _ _ (by omega) HP.out).mono ?_
          rintro r w1 ⟨rfl, b1⟩
          have h0 : 0 ≤ n - (l.length : Int) - (M.szPages (l.take j) : Int) - (l[j].page.size : Int) := by have := HP.out; omega
          go_wp2
          go_roundw
          case rel => exact ⟨j + 1, by go_num, by omega, by rw [HS.out]; simp; omega, by rw [HS.out]; go_num, hl'.below b1, next hb b1⟩
          case measure => simp [intOf]; omega
        · have HP : Hid (n - l.length - M.szPages (l.take j) < (l[j].page.size : Int)) := Lib.hid (by omega)
          clear hfit
          go_wp2_with fail
          refine (szCopy_big l[j] _ _ (by omega) hpj HP.out).mono ?_
          rintro r w1 ⟨rfl, b1⟩
          go_wp2
          go_ret
          exact ⟨rfl, next hb b1⟩
      · have hj' : j = l.length := by omega
        subst hj'
        rw [List.take_length] at hle
        omega

abbrev wkL (name : ByteArray) (owner : Int) (A : Option Addr) (n c : Nat) : Array Value := #[.string name, .int .i64 owner, .slice A n c]
abbrev wkV (name : ByteArray) (owner : Int) (A : Option Addr) (n c : Nat) : Value := .agg (wkL name owner A n c)

set_option maxHeartbeats 1000000 in
theorem szWork_small (name : ByteArray) (owner : Int) (A : Option Addr) (l : List M.Cp) (cap : Nat) (n : Int) (w : World) (h1 : n ≤ 1048576) (hl : Cps w A l) (h : (name.size + (l.length + M.szPages l) : Int) ≤ n) :
    Calls Tryz.prog 136 #[wkV name owner A l.length cap, .int .i64 n] w fun r w' => r = .returned (.int .i64 (n - name.size - l.length - M.szPages l)) ∧ Below w.heap.size w w' := by
  have b0 : Below w.heap.size w (w.alloc (.cells (wkL name owner A l.length cap) 191)) := (Below.refl _ _).alloc (Nat.le_refl _) _
  go_enter Tryz.func136, Tryz.ntmps136
  go_wp2_with fail
  refine (szCopyS_small A l cap _ _ (by omega) (hl.alloc _) (by omega)).mono ?_
  rintro r w1 ⟨rfl, b1⟩
  have h0 : 0 ≤ n - (name.size : Int) - (l.length : Int) - (M.szPages l : Int) := by omega
  go_wp2
  go_ret
  exact ⟨rfl, next b0 b1⟩
set_option maxHeartbeats 1000000 in
theorem szWork_big (name : ByteArray) (owner : Int) (A : Option Addr) (l : List M.Cp) (cap : Nat) (n : Int) (w : World) (h0 : 0 ≤ n) (h1 : n ≤ 1048576) (hl : Cps w A l) (hn : name.size ≤ maxLen) (hlen : l.length ≤ maxLen) (hp : ∀ c ∈ l, c.page.size ≤ maxLen) (h : n < (name.size + (l.length + M.szPages l) : Int)) :
    Calls Tryz.prog 136 #[wkV name owner A l.length cap, .int .i64 n] w fun r w' => r = .returned (.int .i64 (-1)) ∧ Below w.heap.size w w' := by
  have b0 : Below w.heap.size w (w.alloc (.cells (wkL name owner A l.length cap) 191)) := (Below.refl _ _).alloc (Nat.le_refl _) _
  have hn' := hn
  unfold maxLen at hn'
  by_cases hshort : n < (name.size : Int)
  · go_enter Tryz.func136, Tryz.ntmps136
    go_wp2
    go_ret
    exact ⟨rfl, b0⟩
  · go_enter Tryz.func136, Tryz.ntmps136
    go_wp2_with fail
    refine (szCopyS_big A l cap _ _ (by omega) (by omega) (hl.alloc _) hlen hp (by omega)).mono ?_
    rintro r w1 ⟨rfl, b1⟩
    go_wp2
    go_ret
    exact ⟨rfl, next b0 b1⟩
end Go.Proofs.YtblcgbgcccjpcaaGreat
namespace Go.Proofs.YtblcgbgcccjpcaaGreat
open Go.RowKit

/-- A work as it stands in memory: its copies lie at ad. -/
structure Wr where
  name : ByteArray
  owner : Int
  ad : Option Addr
  cap : Nat
  cps : List M.Cp
def Wr.wk (r : Wr) : M.Wk := ⟨r.name, r.owner, r.cps⟩
abbrev wrL (r : Wr) : List Value := [.string r.name, .int .i64 r.owner, .slice r.ad r.cps.length r.cap]
theorem wrL_len (r : Wr) : (wrL r).length = 3 := rfl
instance : Inhabited Wr := ⟨⟨⟨#[]⟩, 0, none, 0, []⟩⟩

/-- A slice at A holds the works of l. -/
def Wks (w : World) (A : Option Addr) (l : List Wr) : Prop := Flat wrL 3 w A l ∧ ∀ r ∈ l, Cps w r.ad r.cps
theorem Wks.below {w w' : World} {A : Option Addr} {l : List Wr} (h : Wks w A l) (hb : Below w.heap.size w w') : Wks w' A l := ⟨h.1.below hb, fun r hr => (h.2 r hr).below hb⟩
theorem Wks.alloc {w : World} {A : Option Addr} {l : List Wr} (h : Wks w A l) (o : Obj) : Wks (w.alloc o) A l := h.below ((Below.refl _ _).alloc (Nat.le_refl _) o)
theorem Wks.drew {w : World} {A : Option Addr} {l : List Wr} (h : Wks w A l) : Wks w.drew A l := h
theorem Wks_at {w : World} {A : Option Addr} {l : List Wr} {i : Nat} (h : Wks w A l) (hi : i < l.length) : ∃ b o, A = some ⟨b, o, none⟩ ∧ b < w.heap.size ∧
    w.cell? ⟨b, o + i * 3, none⟩ = some (.string l[i].name) ∧ w.cell? ⟨b, o + i * 3 + 1, none⟩ = some (.int .i64 l[i].owner) ∧ w.cell? ⟨b, o + i * 3 + 2, none⟩ = some (.slice l[i].ad l[i].cps.length l[i].cap) ∧ Cps w l[i].ad l[i].cps := by
  obtain ⟨b, o, rfl, hb, h'⟩ := h.1.at hi
  exact ⟨b, o, rfl, hb, h' 0 _ rfl, h' 1 _ rfl, h' 2 _ rfl, h.2 _ (List.getElem_mem hi)⟩
theorem Wks.nil (w : World) (A : Option Addr) : Wks w A [] := ⟨.inl rfl, by simp⟩

/-- How much the bounds of the laws count of a work. -/
def szWr (r : Wr) : Nat := r.name.size + (r.cps.length + M.szPages r.cps)
def szWrs : List Wr → Nat
  | [] => 0
  | r :: l => szWr r + szWrs l
theorem szWrs_take (l : List Wr) (i : Nat) (h : i < l.length) : szWrs (l.take (i + 1)) = szWrs (l.take i) + szWr l[i] := by
  induction l generalizing i with
  | nil => simp at h
  | cons c l ih =>
    cases i with
    | zero => simp [szWrs]
    | succ i => simp [szWrs, ih i (by simpa using h)]; omega
theorem szWrs_take_le (l : List Wr) (i : Nat) : szWrs (l.take i) ≤ szWrs l := by
  induction l generalizing i with
  | nil => simp [szWrs]
  | cons c l ih =>
    cases i with
    | zero => simp [szWrs]
    | succ i => have := ih i; simp [szWrs]; omega
theorem szWrs_mem (l : List Wr) (c : Wr) (h : c ∈ l) : szWr c ≤ szWrs l := by
  induction l with
  | nil => simp at h
  | cons d l ih =>
    rcases List.mem_cons.1 h with rfl | h
    · simp [szWrs]
    · have := ih h; simp [szWrs]; omega
/-- Each text and list of l is such that Go can hold it. -/
def WrsIn (n : Nat) (l : List Wr) : Prop := ∀ r ∈ l, r.name.size ≤ n ∧ r.cps.length ≤ n ∧ ∀ c ∈ r.cps, c.page.size ≤ n
theorem WrsIn.of_sz {l : List Wr} {n : Nat} (h : szWrs l ≤ n) : WrsIn n l := fun r hr => by
  have := szWrs_mem l r hr
  unfold szWr at this
  exact ⟨by omega, by omega, fun c hc => by have := M.szPages_mem _ c hc; omega⟩
theorem WrsIn.mono {l : List Wr} {n m : Nat} (h : WrsIn n l) (hm : n ≤ m) : WrsIn m l := fun r hr =>
  ⟨Nat.le_trans (h r hr).1 hm, Nat.le_trans (h r hr).2.1 hm, fun c hc => Nat.le_trans ((h r hr).2.2 c hc) hm⟩
/-! ### The order of names. -/
theorem bytesLess_tri : ∀ a b : List UInt8, Op.bytesLess a b = !(Op.bytesLess b a || b == a)
  | [], [] => by simp [Op.bytesLess]
  | [], b :: y => by simp [Op.bytesLess]
  | a :: x, [] => by simp [Op.bytesLess]
  | a :: x, b :: y => by
    have ih := bytesLess_tri x y
    simp only [Op.bytesLess, List.cons_beq_cons]
    rw [ih]
    by_cases h1 : a < b
    · have h2 : ¬ b < a := by
        rw [UInt8.lt_iff_toNat_lt] at *; omega
      have h3 : (b == a) = false := by
        rw [beq_eq_false_iff_ne]; intro e; subst e; exact absurd h1 (UInt8.lt_irrefl _)
      simp [h1, h2, h3]
    · by_cases h2 : b < a
      · have h3 : (a == b) = false := by
          rw [beq_eq_false_iff_ne]; intro e; subst e; exact absurd h2 (UInt8.lt_irrefl _)
        simp [h1, h2, h3]
      · have h3 : a = b := by
          apply UInt8.toNat_inj.1
          rw [UInt8.lt_iff_toNat_lt] at h1 h2; omega
        subst h3
        simp [UInt8.lt_irrefl]
namespace M
def nameLt (a b : ByteArray) : Bool := Op.bytesLess a.toList b.toList
def risesN : List Wk → Bool
  | a :: b :: l => nameLt a.name b.name && risesN (b :: l)
  | _ => true
def sfOk (l : List Wk) : Bool := decide (l.length ≤ 5) && (l.all wkOk && risesN l)
theorem risesN_iff : ∀ l : List Wk, risesN l = true ↔ ∀ (i : Nat) (h : i + 1 < l.length), nameLt l[i].name l[i + 1].name = true
  | [] => by simp [risesN]
  | [a] => by simp [risesN]
  | a :: b :: l => by
    have ih := risesN_iff (b :: l)
    simp only [risesN, Bool.and_eq_true, ih]
    constructor
    · rintro ⟨h0, h⟩ i hi
      cases i with
      | zero => exact h0
      | succ i => exact h i (by simpa using hi)
    · intro h
      exact ⟨h 0 (by simp), fun i hi => h (i + 1) (by simpa using hi)⟩
/-- Up to here all is right. -/
def sfTo (l : List Wk) (k : Nat) : Prop := (∀ (i : Nat) (h : i < l.length), i < k → wkOk l[i] = true) ∧ ∀ (i : Nat) (h : i + 1 < l.length), i + 1 < k → nameLt l[i].name l[i + 1].name = true
theorem sfTo_zero (l : List Wk) : sfTo l 0 := ⟨fun _ _ h => absurd h (by omega), fun _ _ h => absurd h (by omega)⟩
theorem sfTo_all {l : List Wk} {k : Nat} (h : sfTo l k) (hk : l.length ≤ k) : sfOk l = decide (l.length ≤ 5) := by
  have h1 : l.all wkOk = true := List.all_eq_true.2 fun x hx => by
    obtain ⟨i, hi, rfl⟩ := List.mem_iff_getElem.1 hx
    exact h.1 i hi (by omega)
  have h2 := (risesN_iff l).2 fun i hi => h.2 i hi (by omega)
  simp [sfOk, h1, h2]
theorem sfTo_first {l : List Wk} (h : 0 < l.length) (h0 : wkOk l[0] = true) : sfTo l 1 :=
  ⟨fun i hi hk => by obtain rfl : i = 0 := by omega
                     exact h0, fun i hi hk => absurd hk (by omega)⟩
theorem sfTo_next {l : List Wk} {k : Nat} (h : sfTo l (k + 1)) (hk : k + 1 < l.length) (h0 : wkOk l[k + 1] = true) (h1 : nameLt l[k].name l[k + 1].name = true) : sfTo l (k + 2) := by
  refine ⟨fun i hi hk' => ?_, fun i hi hk' => ?_⟩
  · by_cases e : i = k + 1
    · subst e; exact h0
    · exact h.1 i hi (by omega)
  · by_cases e : i = k
    · subst e; exact h1
    · exact h.2 i hi (by omega)
theorem sfOk_not_work {l : List Wk} {k : Nat} (h : k < l.length) (h0 : wkOk l[k] = false) : sfOk l = false := by
  rcases hc : sfOk l with _ | _
  · rfl
  · unfold sfOk at hc
    simp only [Bool.and_eq_true] at hc
    have := List.all_eq_true.1 hc.2.1 _ (List.getElem_mem h)
    rw [h0] at this; cases this
theorem sfOk_not_rise {l : List Wk} {k : Nat} (h : k + 1 < l.length) (h0 : nameLt l[k].name l[k + 1].name = false) : sfOk l = false := by
  rcases hc : sfOk l with _ | _
  · rfl
  · unfold sfOk at hc
    simp only [Bool.and_eq_true] at hc
    have := (risesN_iff l).1 hc.2.2 k h
    rw [h0] at this; cases this
end M
end Go.Proofs.YtblcgbgcccjpcaaGreat
namespace Go.Proofs.YtblcgbgcccjpcaaGreat
open Go.RowKit

theorem Own.below {w w' : World} {base e k n : Nat} {v : Value} {xs : List Value} (h : w.ownsRow base e k v n xs) (hb : Below w.heap.size w w') : w'.ownsRow base e k v n xs := by
  obtain ⟨hl, h | ⟨g, cap, cur, hv, h1, hh, h2⟩⟩ := h
  · exact ⟨hl, .inl h⟩
  · exact ⟨hl, .inr ⟨g, cap, cur, hv, h1, (hb.block g (Array.getElem?_eq_some_iff.1 hh).1).trans hh, h2⟩⟩

theorem infoCp : (Tryz.prog.info? 48).map (fun i => (i.zero, i.size, i.bytes)) = some (some (.agg #[.int .i64 0, .int .i64 0, .int .i64 0, .string ⟨#[]⟩, .bool false]), 5, 48) := by kernel_rfl

set_option maxHeartbeats 1000000 in
theorem toCopy_any (c : M.Cp) (w : World) :
    Calls Tryz.prog 203 #[cpV c] w fun r w' => r = .returned (cpV c) ∧ Below w.heap.size w w' := by
  go_enter Tryz.func203, Tryz.ntmps203
  go_wp2_with fail
  refine (toEdition_at c.ed _).mono ?_
  rintro r w1 ⟨rfl, rfl⟩
  go_wp2
  refine bodyPost_ret (v := cpV c) (by simp [results, Tryz.results203, go_sem]) rfl ⟨rfl, ?_⟩
  repeat (first | exact Below.refl _ _ | refine Below.alloc ?_ (by simp <;> omega) _)

theorem set5 (xs ys : List Value) (a b c d e f0 f1 f2 f3 f4 : Value) (n : Nat) (hn : n = xs.length) :
    (((((xs ++ a :: b :: c :: d :: e :: ys).set n f0).set (n + 1) f1).set (n + 2) f2).set (n + 3) f3).set (n + 4) f4 = xs ++ f0 :: f1 :: f2 :: f3 :: f4 :: ys := by
  subst hn; simp
theorem five_of {l : List Value} {n : Nat} (h : l.length = (n + 1) * 5) : ∃ a b c d e r, l = a :: b :: c :: d :: e :: r ∧ r.length = n * 5 := by
  match l, h with
  | a :: b :: c :: d :: e :: r, h => exact ⟨a, b, c, d, e, r, rfl, by simp at h; omega⟩
  | [], h => simp at h
  | [_], h => simp at h; omega
  | [_, _], h => simp at h; omega
  | [_, _, _], h => simp at h; omega
  | [_, _, _, _], h => simp at h; omega

/-- Five stores into a row. -/
theorem own_put5 {w : World} {base e g n cap j : Nat} {xs ys : List Value} {f0 f1 f2 f3 f4 : Value} {a b c d r : Value} (h : w.ownsRow base e 5 (.slice (some ⟨g, 0, none⟩) n cap) n (xs ++ a :: b :: c :: d :: r :: ys)) (hj : j = xs.length) :
    (((((w.setCell ⟨g, j, none⟩ f0).setCell ⟨g, j + 1, none⟩ f1).setCell ⟨g, j + 2, none⟩ f2).setCell ⟨g, j + 3, none⟩ f3).setCell ⟨g, j + 4, none⟩ f4).ownsRow base e 5 (.slice (some ⟨g, 0, none⟩) n cap) n (xs ++ f0 :: f1 :: f2 :: f3 :: f4 :: ys) := by
  have := ((((h.stored j f0).1.stored (j + 1) f1).1.stored (j + 2) f2).1.stored (j + 3) f3).1.stored (j + 4) f4
  rw [set5 xs ys a b c d r f0 f1 f2 f3 f4 j hj] at this
  exact this.1
theorem own_cells5 {w : World} {base e g n cap j : Nat} {xs ys : List Value} {a b c d r : Value} (h : w.ownsRow base e 5 (.slice (some ⟨g, 0, none⟩) n cap) n (xs ++ a :: b :: c :: d :: r :: ys)) (hj : j = xs.length) :
    (w.cell? ⟨g, j, none⟩ = some a ∧ w.cell? ⟨g, j + 1, none⟩ = some b ∧ w.cell? ⟨g, j + 2, none⟩ = some c ∧ w.cell? ⟨g, j + 3, none⟩ = some d ∧ w.cell? ⟨g, j + 4, none⟩ = some r) ∧
    (w.frozen? ⟨g, j, none⟩ = false ∧ w.frozen? ⟨g, j + 1, none⟩ = false ∧ w.frozen? ⟨g, j + 2, none⟩ = false ∧ w.frozen? ⟨g, j + 3, none⟩ = false ∧ w.frozen? ⟨g, j + 4, none⟩ = false) := by
  have hl := h.1
  simp at hl
  subst hj
  refine ⟨⟨?_, ?_, ?_, ?_, ?_⟩, h.frozenAt _, h.frozenAt _, h.frozenAt _, h.frozenAt _, h.frozenAt _⟩ <;> (rw [h.cellAt _ (by omega)]; simp)

set_option maxHeartbeats 1000000 in
theorem toCopyS_any (A : Option Addr) (l : List M.Cp) (cap : Nat) (w : World) (hl : Cps w A l) (hlen : l.length ≤ 1048576) :
    Calls Tryz.prog 173 #[.slice A l.length cap] w fun r w' => r = .returned (.slice (some ⟨w.heap.size, 0, none⟩) l.length l.length) ∧ w'.ownsRow w.heap.size 48 5 (.slice (some ⟨w.heap.size, 0, none⟩) l.length l.length) l.length (cellsOf cpL l) ∧ Below w.heap.size w w' := by
  obtain ⟨i0, hi, hz0, hz1, hz2⟩ := info_parts infoCp
  go_enter Tryz.func173, Tryz.ntmps173
  go_wp2_with (refine wpList_make_full _ rfl _ _ 42 rfl w.heap.size 48 i0 _ 5 Tryz.underlying42 hi hz0 hz1 .i64 .i64 _ _ l.length rfl rfl rfl rfl (by rw [hz2]; omega) (by unfold maxLen; omega) (Nat.le_refl _) ?_; intro w1 hown hgrow)
  have b1 : Below w.heap.size w w1 := (Below.refl _ _).grown hgrow (Nat.le_refl _) (fun k hk => by cases hk)
  go_loopw [4] (fun i wr => ∃ (j : Nat) (rest : List Value), i = .int .i64 j ∧ j ≤ l.length ∧ rest.length = (l.length - j) * 5 ∧ wr.ownsRow w.heap.size 48 5 (.slice (some ⟨w.heap.size, 0, none⟩) l.length l.length) l.length (cellsOf cpL (l.take j) ++ rest) ∧ Below w.heap.size w wr) (fun i _ => l.length - (intOf i).toNat)
  case atStart => exact ⟨0, _, rfl, Nat.zero_le _, hown.1, hown, b1⟩
  case round =>
    obtain ⟨j, rest, rfl, hj, hr, hown', hb⟩ := hrel
    by_cases hlt : j < l.length
    · obtain ⟨e0, e1, e2, e3, e4, rs, rfl, hrs⟩ := five_of (n := l.length - j - 1) (l := rest) (by rw [hr]; omega)
      have hz : j * 5 = (cellsOf cpL (l.take j)).length := by rw [cellsOf_len cpL_len, List.length_take, Nat.min_eq_left (by omega)]
      obtain ⟨b, o, rfl, hbl, c0, c1, c2, c3, c4⟩ := Cps_at (hl.below hb) hlt
      have HO := Lib.hid hown'
      have HL := Lib.hid hl
      have HZ := Lib.hid hz
      have HR := Lib.hid hrs
      clear hown hown' hl hz hrs hr
      go_wp2_with fail
      refine (toCopy_any l[j] _).mono ?_
      rintro r w2 ⟨rfl, b2⟩
      have ho2 := Own.below HO.out b2
      obtain ⟨⟨k0, k1, k2, k3, k4⟩, f0, f1, f2, f3, f4⟩ := own_cells5 ho2 HZ.out
      have HO2 := Lib.hid ho2
      clear ho2
      go_wp2
      go_roundw
      case rel =>
        refine ⟨j + 1, rs, by go_num, by omega, by rw [HR.out]; omega, ?_, ?_⟩
        · rw [List.take_succ_eq_append_getElem hlt, cellsOf_append, List.append_assoc]
          exact own_put5 HO2.out HZ.out
        · exact ((((((next hb b2).setCell (Nat.le_refl _) _).setCell (Nat.le_refl _) _).setCell (Nat.le_refl _) _).setCell (Nat.le_refl _) _).setCell (Nat.le_refl _) _)
      case measure => simp [intOf]; omega
    · have hj' : j = l.length := by omega
      subst hj'
      have hr0 : rest = [] := List.length_eq_zero_iff.1 (by rw [hr]; omega)
      subst hr0
      rw [List.take_length, List.append_nil] at hown'
      have HO := Lib.hid hown'
      clear hown hown' hr
      go_wp2
      go_ret
      exact ⟨rfl, HO.out, hb⟩

set_option maxHeartbeats 1000000 in
theorem toWork_any (name : ByteArray) (owner : Int) (A : Option Addr) (l : List M.Cp) (cap : Nat) (w : World) (hl : Cps w A l) (hlen : l.length ≤ 1048576) :
    Calls Tryz.prog 139 #[wkV name owner A l.length cap] w fun r w' => ∃ g, r = .returned (wkV name owner (some ⟨g, 0, none⟩) l.length l.length) ∧ w'.ownsRow w.heap.size 48 5 (.slice (some ⟨g, 0, none⟩) l.length l.length) l.length (cellsOf cpL l) ∧ Below w.heap.size w w' := by
  have b0 := (((Below.refl w.heap.size w).alloc (Nat.le_refl _) (.cells (wkL name owner A l.length cap) 191)).alloc (by simp) (.cells (wkL ⟨#[]⟩ 0 none 0 0) 44)).alloc (by simp; omega) (.cells (wkL name owner none 0 0) 44)
  go_enter Tryz.func139, Tryz.ntmps139
  go_wp2_with fail
  refine (toCopyS_any A l cap _ (((hl.alloc _).alloc _).alloc _) hlen).mono ?_
  rintro r w1 ⟨rfl, ho, b1⟩
  obtain ⟨c1, f1⟩ := bcell b1
  have HO := Lib.hid ho
  clear ho
  go_wp2
  have ho := HO.out
  simp only [World.size_alloc] at ho
  refine bodyPost_ret (v := wkV name owner (some ⟨w.heap.size + 1 + 1 + 1, 0, none⟩) l.length l.length) (by simp [results, Tryz.results139, go_sem, c1]) rfl ⟨_, rfl, ?_, ?_⟩
  · exact (ownsRow_setCell_below (ownsRow_setCell_below (ownsRow_setCell_below (ownsRow_setCell_below ho (by simp) _) (by simp) _) (by simp) _) (by simp) _).mono (by omega)
  · exact ((((next b0 b1).setCell (by simp; omega) _).setCell (by simp) _).setCell (by simp) _).setCell (by simp) _
end Go.Proofs.YtblcgbgcccjpcaaGreat
namespace Go.Proofs.YtblcgbgcccjpcaaGreat
open Go.RowKit

/-- v is a list of the copies l, in memory of one's own from block B on. -/
def CpOwn (B : Nat) (w : World) (v : Value) (l : List M.Cp) : Prop := w.ownsRow B 48 5 v l.length (cellsOf cpL l)
theorem CpOwn.below {B : Nat} {w w' : World} {v : Value} {l : List M.Cp} (h : CpOwn B w v l) (hb : Below w.heap.size w w') : CpOwn B w' v l := Own.below h hb
theorem CpOwn.nil (B : Nat) (w : World) : CpOwn B w (.slice none 0 0) [] := World.ownsRow_nil _ _ _ _
theorem CpOwn.open {B : Nat} {w : World} {v : Value} {l : List M.Cp} (h : CpOwn B w v l) : ∃ A c, v = .slice A l.length c ∧ Cps w A l ∧ (A = none → c = 0) := by
  obtain ⟨hl, ⟨rfl, h0⟩ | ⟨g, cap, cur, rfl, hr⟩⟩ := h
  · have : l = [] := List.length_eq_zero_iff.1 h0
    subst this
    exact ⟨none, 0, rfl, .inl rfl, fun _ => rfl⟩
  · obtain ⟨A, c, hv, _, hf⟩ := own_flat (l := l) cpL_len (show w.ownsRow B 48 5 (.slice (some ⟨g, 0, none⟩) l.length cap) l.length (cellsOf cpL l) from ⟨hl, .inr ⟨g, cap, cur, rfl, hr⟩⟩)
    injection hv with hA _ hc
    subst hA hc
    exact ⟨_, _, rfl, hf, fun h => by cases h⟩
theorem CpOwn.off {B : Nat} {w : World} {v : Value} {l : List M.Cp} (h : CpOwn B w v l) {a : Addr} (ha : a.block < B) (u : Value) : CpOwn B (w.setCell a u) v l := ownsRow_setCell_below h ha u
theorem CpOwn.mono {B B' : Nat} {w : World} {v : Value} {l : List M.Cp} (h : CpOwn B w v l) (hb : B' ≤ B) : CpOwn B' w v l := World.ownsRow.mono h hb
theorem CpOwn.cps {B : Nat} {w : World} {A : Option Addr} {n c : Nat} {l : List M.Cp} (h : CpOwn B w (.slice A n c) l) : Cps w A l ∧ n = l.length := by
  obtain ⟨A', c', hv, hf, _⟩ := h.open
  injection hv with hA hn _
  subst hA
  exact ⟨hf, hn⟩
theorem own_differ {u v : Value} {B : Nat} (hu : ∀ k, u.ownBlock = some k → k < B) (hv : ∀ k, v.ownBlock = some k → B ≤ k) : u.ownBlock = none ∨ u.ownBlock ≠ v.ownBlock := by
  rcases h : u.ownBlock with _ | k
  · exact .inl rfl
  · refine .inr fun e => ?_
    have h1 := hu k h
    have h2 := hv k e.symm
    omega
end Go.Proofs.YtblcgbgcccjpcaaGreat
