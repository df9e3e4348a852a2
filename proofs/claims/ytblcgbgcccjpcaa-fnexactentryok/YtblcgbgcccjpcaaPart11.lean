/- Proved, in parts: Proved: an argument that is a slice of records is a list of them, and an argument that is a work is its name, owner and copies; no program is named here. Proved: what a list of works in memory is, and that it stays behind calls and new blocks; no program's function is named here; no condition. Proved: an argument that is a slice of works is a list of them, each with its copies; no program is named here. Proved: the laws' helpers that make a work of the program's own types out of the laws' answer the same work, in new memory; they write nothing that was there. -/
import Derived.Test.YtblcgbgcccjpcaaPart10
import Derived.WalkKit
import Derived.Lib.SmallJoins
import Derived.Deep.Slices
import Derived.ChangeSame
import Derived.Test.YtblcgbgcccjpcaaPart06
import Derived.OwnWalk
import Derived.Deep.Onto
namespace Go.Proofs.Ytblcgbgcccjpcaa
open Go.ChangeShapes Go.WideShapes Go.ChangeAt Go.RowKit Go.Joins Go.Deep

theorem cell_spot {w : World} {a : Addr} {v : Value} (h : w.cell? a = some v) : a = ⟨a.block, a.off, none⟩ := by
  unfold World.cell? at h
  rcases a with ⟨b, o, _ | s⟩
  · rfl
  · split at h <;> simp at h

section
variable {H : Type} {enc : TypeId × Value → H} {P : Program} {w : World} {base : Nat} {spare : Nat → Bool} {held : Bool}

theorem open_rows {α : Type} [Inhabited α] {en : α → List Value} {k : Nat} {Q : α → Prop} {t e : TypeId} {fuel : Nat} {cs : List Value} {x : DataW H × List MemPlace} (ht : P.underlying t = some (.slice e)) (hk : P.cellsOf e = k) (hk0 : 0 < k)
    (hlen : ∀ x, (en x).length = k) (op : ∀ (n : Nat) (cs : List Value) (x : DataW H × List MemPlace), DataW.trod enc P w base spare held n e cs = some x → ∃ c, cs = en c ∧ Q c)
    (h : DataW.trod enc P w base spare held fuel t cs = some x) : ∃ (A : Option Addr) (l : List α) (c : Nat), cs = [.slice A l.length c] ∧ Flat en k w A l ∧ l.length ≤ c ∧ c ≤ maxLen ∧ ∀ x ∈ l, Q x := by
  subst hk
  rcases open_slice ht h with ⟨rfl, _⟩ | ⟨a, len, cap, m, n, D, Pl, rfl, hb, hl, hm, hmm, hx, hi⟩
  · exact ⟨none, [], 0, rfl, .inl rfl, Nat.le_refl _, Nat.zero_le _, by simp⟩
  · have hlm : len ≤ m := by rw [hmm]; split <;> omega
    have hall : ∀ i, i < len → ∃ c, Q c ∧ ∀ t u, (en c)[t]? = some u → w.cell? (a.add (i * P.cellsOf e + t)) = some u := by
      intro i hil
      obtain ⟨cs', hc, ht'⟩ := hi i (by omega)
      obtain ⟨c, rfl, hq⟩ := op n cs' _ ht'
      obtain ⟨_, hcl, hat⟩ := World.cells?_some hc
      refine ⟨c, hq, fun t u hu => ?_⟩
      have htl : t < P.cellsOf e := by
        rcases Nat.lt_or_ge t (en c).length with h' | h'
        · rw [hlen] at h'; exact h'
        · rw [List.getElem?_eq_none h'] at hu; cases hu
      have := hat t htl
      rw [← Go.Deep.add_add, this, hu]
    obtain ⟨F, hF⟩ : ∃ F : Nat → α, ∀ i, i < len → Q (F i) ∧ ∀ t u, (en (F i))[t]? = some u → w.cell? (a.add (i * P.cellsOf e + t)) = some u := by
      refine ⟨fun i => if h : i < len then Classical.choose (hall i h) else default, fun i hil => ?_⟩
      simp only [dif_pos hil]
      exact Classical.choose_spec (hall i hil)
    refine ⟨some a, (List.range len).map F, cap, by simp, ?_, by simpa using hl, hm, fun y hy => ?_⟩
    · rcases Nat.eq_zero_or_pos len with h0 | h0
      · subst h0; exact .inl rfl
      · have h1 : (en (F 0))[0]? = some ((en (F 0))[0]'(by rw [hlen]; exact hk0)) := List.getElem?_eq_getElem _
        have h2 := (hF 0 h0).2 0 _ h1
        have h3 : a.add (0 * P.cellsOf e + 0) = a := by simp [Addr.add]
        rw [h3] at h2
        have ha := cell_spot h2
        rw [ha]
        refine .inr ⟨a.block, a.off, rfl, World.block_lt_of_cell? w _ h2, fun i t x u hi hu => ?_⟩
        rw [List.getElem?_map] at hi
        have hil : i < len := by
          rcases Nat.lt_or_ge i len with h' | h'
          · exact h'
          · rw [List.getElem?_eq_none (by simpa using h')] at hi; cases hi
        rw [List.getElem?_range hil] at hi
        simp at hi
        subst hi
        have := (hF i hil).2 t u hu
        rw [ha, addr_add, ← Nat.add_assoc] at this
        exact this
    · simp at hy
      obtain ⟨i, hil, rfl⟩ := hy
      exact (hF i hil).1

theorem cells_ed {t : TypeId} {g0 g1 g2 : Field} {n : Nat} {cs : List Value} {x : DataW H × List MemPlace} (hs : P.underlying t = some (.struct #[g0, g1, g2])) (hC : P.cellsOf t = 3)
    (po : [g0.offset, g1.offset, g2.offset] = [0, 1, 2]) (pk : [P.cellsOf g0.type, P.cellsOf g1.type, P.cellsOf g2.type] = [1, 1, 1])
    (x0 : P.underlying g0.type = some (.int .i64)) (x1 : P.underlying g1.type = some (.int .i64)) (x2 : P.underlying g2.type = some (.int .i64))
    (h : DataW.trod enc P w base spare held n t cs = some x) : ∃ e : M.Ed, cs = [.int .i64 e.ma, .int .i64 e.mi, .int .i64 e.pa] := by
  obtain ⟨zs, m, _, _, hl, hlen', hfld'⟩ := DataW.trod_struct hs h
  simp only [List.cons.injEq, and_true] at po pk
  obtain ⟨p0, p1, p2⟩ := po
  obtain ⟨q0, q1, q2⟩ := pk
  match cs, hl.trans hC with
  | [c0, c1, c2], _ =>
    match zs, hlen' with
    | [z0, z1, z2], _ =>
      have i0 := hfld' 0 g0 rfl
      have i1 := hfld' 1 g1 rfl
      have i2 := hfld' 2 g2 rfl
      simp only [p0, p1, p2, q0, q1, q2, List.drop_zero, List.drop_succ_cons, List.take_succ_cons, List.take_zero, List.getElem?_cons_zero, List.getElem?_cons_succ] at i0 i1 i2
      obtain ⟨b0, j0, _⟩ := DataW.trod_int x0 i0
      obtain ⟨b1, j1, _⟩ := DataW.trod_int x1 i1
      obtain ⟨b2, j2, _⟩ := DataW.trod_int x2 i2
      simp only [List.cons.injEq, and_true] at j0 j1 j2
      subst j0 j1 j2
      exact ⟨⟨b0, b1, b2⟩, rfl⟩

theorem cells_cp {t : TypeId} {f0 f1 f2 g0 g1 g2 : Field} {n : Nat} {cs : List Value} {x : DataW H × List MemPlace} (hs : P.underlying t = some (.struct #[f0, f1, f2])) (hC : P.cellsOf t = 5)
    (ho : [f0.offset, f1.offset, f2.offset] = [0, 3, 4]) (hk : [P.cellsOf f0.type, P.cellsOf f1.type, P.cellsOf f2.type] = [3, 1, 1])
    (u0 : P.underlying f0.type = some (.struct #[g0, g1, g2])) (u1 : P.underlying f1.type = some .string) (u2 : P.underlying f2.type = some .bool)
    (po : [g0.offset, g1.offset, g2.offset] = [0, 1, 2]) (pk : [P.cellsOf g0.type, P.cellsOf g1.type, P.cellsOf g2.type] = [1, 1, 1])
    (x0 : P.underlying g0.type = some (.int .i64)) (x1 : P.underlying g1.type = some (.int .i64)) (x2 : P.underlying g2.type = some (.int .i64))
    (h : DataW.trod enc P w base spare held n t cs = some x) : ∃ c : M.Cp, cs = cpL c ∧ c.page.size ≤ maxLen := by
  obtain ⟨zs, m, _, _, hl, hlen', hfld'⟩ := DataW.trod_struct hs h
  simp only [List.cons.injEq, and_true] at ho hk
  obtain ⟨p0, p1, p2⟩ := ho
  obtain ⟨q0, q1, q2⟩ := hk
  match cs, hl.trans hC with
  | [c0, c1, c2, c3, c4], _ =>
    match zs, hlen' with
    | [z0, z1, z2], _ =>
      have i0 := hfld' 0 f0 rfl
      have i1 := hfld' 1 f1 rfl
      have i2 := hfld' 2 f2 rfl
      simp only [p0, p1, p2, q0, q1, q2, List.drop_zero, List.drop_succ_cons, List.take_succ_cons, List.take_zero, List.getElem?_cons_zero, List.getElem?_cons_succ] at i0 i1 i2
      obtain ⟨e, j0⟩ := cells_ed u0 q0 po pk x0 x1 x2 i0
      obtain ⟨s, j1, _, hsz⟩ := DataW.trod_string u1 i1
      obtain ⟨b, j2, _⟩ := DataW.trod_bool u2 i2
      simp only [List.cons.injEq, and_true] at j0 j1 j2
      obtain ⟨rfl, rfl, rfl⟩ := j0
      subst j1 j2
      exact ⟨⟨e, s, b⟩, rfl, hsz⟩

theorem open_wk {r : Reach} {b0 : Nat} {t tc te : TypeId} {h0 h1 h2 f0 f1 f2 g0 g1 g2 : Field} {v : Value} {d : DataW H} {p : List MemPlace} (hs : P.underlying t = some (.struct #[h0, h1, h2])) (hC : P.cellsOf t = 3)
    (so : [h0.offset, h1.offset, h2.offset] = [0, 1, 2]) (sk : [P.cellsOf h0.type, P.cellsOf h1.type, P.cellsOf h2.type] = [1, 1, 1])
    (y0 : P.underlying h0.type = some .string) (y1 : P.underlying h1.type = some (.int .i64)) (y2 : h2.type = tc) (y3 : P.underlying tc = some (.slice te))
    (hcs : P.underlying te = some (.struct #[f0, f1, f2])) (hcC : P.cellsOf te = 5)
    (ho : [f0.offset, f1.offset, f2.offset] = [0, 3, 4]) (hk : [P.cellsOf f0.type, P.cellsOf f1.type, P.cellsOf f2.type] = [3, 1, 1])
    (u0 : P.underlying f0.type = some (.struct #[g0, g1, g2])) (u1 : P.underlying f1.type = some .string) (u2 : P.underlying f2.type = some .bool)
    (po : [g0.offset, g1.offset, g2.offset] = [0, 1, 2]) (pk : [P.cellsOf g0.type, P.cellsOf g1.type, P.cellsOf g2.type] = [1, 1, 1])
    (x0 : P.underlying g0.type = some (.int .i64)) (x1 : P.underlying g1.type = some (.int .i64)) (x2 : P.underlying g2.type = some (.int .i64))
    (hv : Value.okWide P w r b0 t v) (h : DataW.Trod enc P w base spare held t v d p) :
    ∃ (name : ByteArray) (owner : Int) (A : Option Addr) (l : List M.Cp) (c : Nat), v = wkV name owner A l.length c ∧ name.size ≤ maxLen ∧ Cps w A l ∧ l.length ≤ maxLen ∧ ∀ x ∈ l, x.page.size ≤ maxLen := by
  obtain ⟨cs, rfl, hsz⟩ := okWide_struct hs hv
  obtain ⟨l⟩ := cs
  match l, hsz.trans hC with
  | [c0, c1, c2], _ =>
    obtain ⟨fuel, hf⟩ := h
    obtain ⟨xs, n, _, hx, _, hlen, hg⟩ := DataW.trod_struct hs hf
    simp only [List.cons.injEq, and_true] at so sk
    obtain ⟨p0, p1, p2⟩ := so
    obtain ⟨q0, q1, q2⟩ := sk
    match xs, hlen with
    | [z0, z1, z2], _ =>
      have i0 := hg 0 h0 rfl
      have i1 := hg 1 h1 rfl
      have i2 := hg 2 h2 rfl
      simp only [Value.cells, p0, p1, p2, q0, q1, q2, List.drop_zero, List.drop_succ_cons, List.take_succ_cons, List.take_zero, List.getElem?_cons_zero, List.getElem?_cons_succ] at i0 i1 i2
      obtain ⟨s, j0, _, hss⟩ := DataW.trod_string y0 i0
      obtain ⟨b, j1, _⟩ := DataW.trod_int y1 i1
      rw [y2] at i2
      haveI : Inhabited M.Cp := ⟨M.zeroCp⟩
      obtain ⟨A, l, c, j2, hfl, hlc, hcm, hq⟩ := open_rows (en := cpL) (Q := fun c => c.page.size ≤ maxLen) y3 hcC (by omega) cpL_len (fun n cs x hx => cells_cp hcs hcC ho hk u0 u1 u2 po pk x0 x1 x2 hx) i2
      simp only [List.cons.injEq, and_true] at j0 j1 j2
      subst j0 j1 j2
      exact ⟨s, b, A, l, c, rfl, hss, hfl, by omega, hq⟩
end
end Go.Proofs.Ytblcgbgcccjpcaa
namespace Go.Proofs.Ytblcgbgcccjpcaa
open Go.RowKit

/-- A work as it stands in memory: its copies lie at ad. -/
structure Wr where
  name : ByteArray
  owner : Int
  ad : Option Addr
  cap : Nat
  cps : List M.Cp
def Wr.wk (r : Wr) : M.Wk := ⟨r.name, r.owner, r.cps⟩
abbrev wrL (r : Wr) : List Value := [.string r.name, .int .i64 r.owner, .slice r.ad r.cps.length r.cap]
theorem wrL_len (r : Wr) : (wrL r).length = 3 := rfl
instance : Inhabited Wr := ⟨⟨⟨#[]⟩, 0, none, 0, []⟩⟩

/-- A slice at A holds the works of l. -/
def Wks (w : World) (A : Option Addr) (l : List Wr) : Prop := Flat wrL 3 w A l ∧ ∀ r ∈ l, Cps w r.ad r.cps
theorem Wks.below {w w' : World} {A : Option Addr} {l : List Wr} (h : Wks w A l) (hb : Below w.heap.size w w') : Wks w' A l := ⟨h.1.below hb, fun r hr => (h.2 r hr).below hb⟩
theorem Wks.alloc {w : World} {A : Option Addr} {l : List Wr} (h : Wks w A l) (o : Obj) : Wks (w.alloc o) A l := h.below ((Below.refl _ _).alloc (Nat.le_refl _) o)
theorem Wks.drew {w : World} {A : Option Addr} {l : List Wr} (h : Wks w A l) : Wks w.drew A l := h
theorem Wks_at {w : World} {A : Option Addr} {l : List Wr} {i : Nat} (h : Wks w A l) (hi : i < l.length) : ∃ b o, A = some ⟨b, o, none⟩ ∧ b < w.heap.size ∧
    w.cell? ⟨b, o + i * 3, none⟩ = some (.string l[i].name) ∧ w.cell? ⟨b, o + i * 3 + 1, none⟩ = some (.int .i64 l[i].owner) ∧ w.cell? ⟨b, o + i * 3 + 2, none⟩ = some (.slice l[i].ad l[i].cps.length l[i].cap) ∧ Cps w l[i].ad l[i].cps := by
  obtain ⟨b, o, rfl, hb, h'⟩ := h.1.at hi
  exact ⟨b, o, rfl, hb, h' 0 _ rfl, h' 1 _ rfl, h' 2 _ rfl, h.2 _ (List.getElem_mem hi)⟩
theorem Wks.nil (w : World) (A : Option Addr) : Wks w A [] := ⟨.inl rfl, by simp⟩

/-- How much the bounds of the laws count of a work. -/
def szWr (r : Wr) : Nat := r.name.size + (r.cps.length + M.szPages r.cps)
def szWrs : List Wr → Nat
  | [] => 0
  | r :: l => szWr r + szWrs l
theorem szWrs_take (l : List Wr) (i : Nat) (h : i < l.length) : szWrs (l.take (i + 1)) = szWrs (l.take i) + szWr l[i] := by
  induction l generalizing i with
  | nil => simp at h
  | cons c l ih =>
    cases i with
    | zero => simp [szWrs]
    | succ i => simp [szWrs, ih i (by simpa using h)]; omega
theorem szWrs_take_le (l : List Wr) (i : Nat) : szWrs (l.take i) ≤ szWrs l := by
  induction l generalizing i with
  | nil => simp [szWrs]
  | cons c l ih =>
    cases i with
    | zero => simp [szWrs]
    | succ i => have := ih i; simp [szWrs]; omega
theorem szWrs_mem (l : List Wr) (c : Wr) (h : c ∈ l) : szWr c ≤ szWrs l := by
  induction l with
  | nil => simp at h
  | cons d l ih =>
    rcases List.mem_cons.1 h with rfl | h
    · simp [szWrs]
    · have := ih h; simp [szWrs]; omega
/-- Each text and list of l is such that Go can hold it. -/
def WrsIn (n : Nat) (l : List Wr) : Prop := ∀ r ∈ l, r.name.size ≤ n ∧ r.cps.length ≤ n ∧ ∀ c ∈ r.cps, c.page.size ≤ n
theorem WrsIn.of_sz {l : List Wr} {n : Nat} (h : szWrs l ≤ n) : WrsIn n l := fun r hr => by
  have := szWrs_mem l r hr
  unfold szWr at this
  exact ⟨by omega, by omega, fun c hc => by have := M.szPages_mem _ c hc; omega⟩
theorem WrsIn.mono {l : List Wr} {n m : Nat} (h : WrsIn n l) (hm : n ≤ m) : WrsIn m l := fun r hr =>
  ⟨Nat.le_trans (h r hr).1 hm, Nat.le_trans (h r hr).2.1 hm, fun c hc => Nat.le_trans ((h r hr).2.2 c hc) hm⟩
theorem WrsIn.of_map {l m : List Wr} {n : Nat} (h : WrsIn n l) (he : m.map Wr.wk = l.map Wr.wk) : WrsIn n m := fun r hr => by
  have : r.wk ∈ l.map Wr.wk := by rw [← he]; exact List.mem_map_of_mem hr
  obtain ⟨x, hx, e⟩ := List.mem_map.1 this
  have := h x hx
  unfold Wr.wk at e
  injection e with e1 e2 e3
  rw [e1, e3] at this
  exact this

/-! ### The order of names. -/
theorem bytesLess_tri : ∀ a b : List UInt8, Op.bytesLess a b = !(Op.bytesLess b a || b == a)
  | [], [] => by simp [Op.bytesLess]
  | [], b :: y => by simp [Op.bytesLess]
  | a :: x, [] => by simp [Op.bytesLess]
  | a :: x, b :: y => by
    have ih := bytesLess_tri x y
    simp only [Op.bytesLess, List.cons_beq_cons]
    rw [ih]
    by_cases h1 : a < b
    · have h2 : ¬ b < a := by
        rw [UInt8.lt_iff_toNat_lt] at *; omega
      have h3 : (b == a) = false := by
        rw [beq_eq_false_iff_ne]; intro e; subst e; exact absurd h1 (UInt8.lt_irrefl _)
      simp [h1, h2, h3]
    · by_cases h2 : b < a
      · have h3 : (a == b) = false := by
          rw [beq_eq_false_iff_ne]; intro e; subst e; exact absurd h2 (UInt8.lt_irrefl _)
        simp [h1, h2, h3]
      · have h3 : a = b := by
          apply UInt8.toNat_inj.1
          rw [UInt8.lt_iff_toNat_lt] at h1 h2; omega
        subst h3
        simp [UInt8.lt_irrefl]
namespace M
def nameLt (a b : ByteArray) : Bool := Op.bytesLess a.toList b.toList
def risesN : List Wk → Bool
  | a :: b :: l => nameLt a.name b.name && risesN (b :: l)
  | _ => true
def sfOk (l : List Wk) : Bool := decide (l.length ≤ 5) && (l.all wkOk && risesN l)
theorem risesN_iff : ∀ l : List Wk, risesN l = true ↔ ∀ (i : Nat) (h : i + 1 < l.length), nameLt l[i].name l[i + 1].name = true
  | [] => by simp [risesN]
  | [a] => by simp [risesN]
  | a :: b :: l => by
    have ih := risesN_iff (b :: l)
    simp only [risesN, Bool.and_eq_true, ih]
    constructor
    · rintro ⟨h0, h⟩ i hi
      cases i with
      | zero => exact h0
      | succ i => exact h i (by simpa using hi)
    · intro h
      exact ⟨h 0 (by simp), fun i hi => h (i + 1) (by simpa using hi)⟩
/-- Up to here all is right. -/
def sfTo (l : List Wk) (k : Nat) : Prop := (∀ (i : Nat) (h : i < l.length), i < k → wkOk l[i] = true) ∧ ∀ (i : Nat) (h : i + 1 < l.length), i + 1 < k → nameLt l[i].name l[i + 1].name = true
theorem sfTo_zero (l : List Wk) : sfTo l 0 := ⟨fun _ _ h => absurd h (by omega), fun _ _ h => absurd h (by omega)⟩
theorem sfTo_all {l : List Wk} {k : Nat} (h : sfTo l k) (hk : l.length ≤ k) : sfOk l = decide (l.length ≤ 5) := by
  have h1 : l.all wkOk = true := List.all_eq_true.2 fun x hx => by
    obtain ⟨i, hi, rfl⟩ := List.mem_iff_getElem.1 hx
    exact h.1 i hi (by omega)
  have h2 := (risesN_iff l).2 fun i hi => h.2 i hi (by omega)
  simp [sfOk, h1, h2]
theorem sfTo_first {l : List Wk} (h : 0 < l.length) (h0 : wkOk l[0] = true) : sfTo l 1 :=
  ⟨fun i hi hk => by obtain rfl : i = 0 := by omega
                     exact h0, fun i hi hk => absurd hk (by omega)⟩
theorem sfTo_next {l : List Wk} {k : Nat} (h : sfTo l (k + 1)) (hk : k + 1 < l.length) (h0 : wkOk l[k + 1] = true) (h1 : nameLt l[k].name l[k + 1].name = true) : sfTo l (k + 2) := by
  refine ⟨fun i hi hk' => ?_, fun i hi hk' => ?_⟩
  · by_cases e : i = k + 1
    · subst e; exact h0
    · exact h.1 i hi (by omega)
  · by_cases e : i = k
    · subst e; exact h1
    · exact h.2 i hi (by omega)
theorem sfOk_not_work {l : List Wk} {k : Nat} (h : k < l.length) (h0 : wkOk l[k] = false) : sfOk l = false := by
  rcases hc : sfOk l with _ | _
  · rfl
  · unfold sfOk at hc
    simp only [Bool.and_eq_true] at hc
    have := List.all_eq_true.1 hc.2.1 _ (List.getElem_mem h)
    rw [h0] at this; cases this
theorem sfOk_not_rise {l : List Wk} {k : Nat} (h : k + 1 < l.length) (h0 : nameLt l[k].name l[k + 1].name = false) : sfOk l = false := by
  rcases hc : sfOk l with _ | _
  · rfl
  · unfold sfOk at hc
    simp only [Bool.and_eq_true] at hc
    have := (risesN_iff l).1 hc.2.2 k h
    rw [h0] at this; cases this
end M
end Go.Proofs.Ytblcgbgcccjpcaa
namespace Go.Proofs.Ytblcgbgcccjpcaa
open Go.ChangeShapes Go.WideShapes Go.ChangeAt Go.RowKit Go.Joins Go.Deep
section
variable {H : Type} {enc : TypeId × Value → H} {P : Program} {w : World} {base : Nat} {spare : Nat → Bool} {held : Bool}

theorem cells_wr {t tc te : TypeId} {h0 h1 h2 f0 f1 f2 g0 g1 g2 : Field} {n : Nat} {cs : List Value} {x : DataW H × List MemPlace} (hs : P.underlying t = some (.struct #[h0, h1, h2])) (hC : P.cellsOf t = 3)
    (so : [h0.offset, h1.offset, h2.offset] = [0, 1, 2]) (sk : [P.cellsOf h0.type, P.cellsOf h1.type, P.cellsOf h2.type] = [1, 1, 1])
    (y0 : P.underlying h0.type = some .string) (y1 : P.underlying h1.type = some (.int .i64)) (y2 : h2.type = tc) (y3 : P.underlying tc = some (.slice te))
    (hcs : P.underlying te = some (.struct #[f0, f1, f2])) (hcC : P.cellsOf te = 5)
    (ho : [f0.offset, f1.offset, f2.offset] = [0, 3, 4]) (hk : [P.cellsOf f0.type, P.cellsOf f1.type, P.cellsOf f2.type] = [3, 1, 1])
    (u0 : P.underlying f0.type = some (.struct #[g0, g1, g2])) (u1 : P.underlying f1.type = some .string) (u2 : P.underlying f2.type = some .bool)
    (po : [g0.offset, g1.offset, g2.offset] = [0, 1, 2]) (pk : [P.cellsOf g0.type, P.cellsOf g1.type, P.cellsOf g2.type] = [1, 1, 1])
    (x0 : P.underlying g0.type = some (.int .i64)) (x1 : P.underlying g1.type = some (.int .i64)) (x2 : P.underlying g2.type = some (.int .i64))
    (h : DataW.trod enc P w base spare held n t cs = some x) :
    ∃ r : Wr, cs = wrL r ∧ Cps w r.ad r.cps ∧ r.name.size ≤ maxLen ∧ r.cps.length ≤ maxLen ∧ ∀ c ∈ r.cps, c.page.size ≤ maxLen := by
  obtain ⟨xs, n, _, hx, hl, hlen, hg⟩ := DataW.trod_struct hs h
  simp only [List.cons.injEq, and_true] at so sk
  obtain ⟨p0, p1, p2⟩ := so
  obtain ⟨q0, q1, q2⟩ := sk
  match cs, hl.trans hC with
  | [c0, c1, c2], _ =>
    match xs, hlen with
    | [z0, z1, z2], _ =>
      have i0 := hg 0 h0 rfl
      have i1 := hg 1 h1 rfl
      have i2 := hg 2 h2 rfl
      simp only [p0, p1, p2, q0, q1, q2, List.drop_zero, List.drop_succ_cons, List.take_succ_cons, List.take_zero, List.getElem?_cons_zero, List.getElem?_cons_succ] at i0 i1 i2
      obtain ⟨s, j0, _, hss⟩ := DataW.trod_string y0 i0
      obtain ⟨b, j1, _⟩ := DataW.trod_int y1 i1
      rw [y2] at i2
      haveI : Inhabited M.Cp := ⟨M.zeroCp⟩
      obtain ⟨A, l, c, j2, hfl, hlc, hcm, hq⟩ := open_rows (en := cpL) (Q := fun c => c.page.size ≤ maxLen) y3 hcC (by omega) cpL_len (fun n cs x hx => cells_cp hcs hcC ho hk u0 u1 u2 po pk x0 x1 x2 hx) i2
      simp only [List.cons.injEq, and_true] at j0 j1 j2
      subst j0 j1 j2
      exact ⟨⟨s, b, A, c, l⟩, rfl, hfl, hss, by simp only; omega, hq⟩

theorem open_sf {r : Reach} {b0 : Nat} {ts t tc te : TypeId} {h0 h1 h2 f0 f1 f2 g0 g1 g2 : Field} {v : Value} {d : DataW H} {p : List MemPlace} (hts : P.underlying ts = some (.slice t)) (hs : P.underlying t = some (.struct #[h0, h1, h2])) (hC : P.cellsOf t = 3)
    (so : [h0.offset, h1.offset, h2.offset] = [0, 1, 2]) (sk : [P.cellsOf h0.type, P.cellsOf h1.type, P.cellsOf h2.type] = [1, 1, 1])
    (y0 : P.underlying h0.type = some .string) (y1 : P.underlying h1.type = some (.int .i64)) (y2 : h2.type = tc) (y3 : P.underlying tc = some (.slice te))
    (hcs : P.underlying te = some (.struct #[f0, f1, f2])) (hcC : P.cellsOf te = 5)
    (ho : [f0.offset, f1.offset, f2.offset] = [0, 3, 4]) (hk : [P.cellsOf f0.type, P.cellsOf f1.type, P.cellsOf f2.type] = [3, 1, 1])
    (u0 : P.underlying f0.type = some (.struct #[g0, g1, g2])) (u1 : P.underlying f1.type = some .string) (u2 : P.underlying f2.type = some .bool)
    (po : [g0.offset, g1.offset, g2.offset] = [0, 1, 2]) (pk : [P.cellsOf g0.type, P.cellsOf g1.type, P.cellsOf g2.type] = [1, 1, 1])
    (x0 : P.underlying g0.type = some (.int .i64)) (x1 : P.underlying g1.type = some (.int .i64)) (x2 : P.underlying g2.type = some (.int .i64))
    (hv : Value.okWide P w r b0 ts v) (h : DataW.Trod enc P w base spare held ts v d p) :
    ∃ (A : Option Addr) (l : List Wr) (c : Nat), v = .slice A l.length c ∧ Wks w A l ∧ l.length ≤ maxLen ∧ WrsIn maxLen l := by
  obtain ⟨a0, len0, cap0, rfl⟩ := okWide_slice hts hv
  obtain ⟨fuel, hf⟩ := h
  obtain ⟨A, l, c, hcell, hfl, hlc, hcm, hq⟩ := open_rows (en := wrL) (Q := fun r => Cps w r.ad r.cps ∧ r.name.size ≤ maxLen ∧ r.cps.length ≤ maxLen ∧ ∀ c ∈ r.cps, c.page.size ≤ maxLen) hts hC (by omega) wrL_len (fun n cs x hx => cells_wr hs hC so sk y0 y1 y2 y3 hcs hcC ho hk u0 u1 u2 po pk x0 x1 x2 hx) hf
  simp [Value.cells] at hcell
  obtain ⟨rfl, rfl, rfl⟩ := hcell
  exact ⟨_, l, _, rfl, ⟨hfl, fun r hr => (hq r hr).1⟩, by omega, fun r hr => (hq r hr).2⟩
end
end Go.Proofs.Ytblcgbgcccjpcaa
namespace Go.Proofs.Ytblcgbgcccjpcaa
open Go.RowKit

theorem Own.below {w w' : World} {base e k n : Nat} {v : Value} {xs : List Value} (h : w.ownsRow base e k v n xs) (hb : Below w.heap.size w w') : w'.ownsRow base e k v n xs := by
  obtain ⟨hl, h | ⟨g, cap, cur, hv, h1, hh, h2⟩⟩ := h
  · exact ⟨hl, .inl h⟩
  · exact ⟨hl, .inr ⟨g, cap, cur, hv, h1, (hb.block g (Array.getElem?_eq_some_iff.1 hh).1).trans hh, h2⟩⟩

theorem set5 (xs ys : List Value) (a b c d e f0 f1 f2 f3 f4 : Value) (n : Nat) (hn : n = xs.length) :
    (((((xs ++ a :: b :: c :: d :: e :: ys).set n f0).set (n + 1) f1).set (n + 2) f2).set (n + 3) f3).set (n + 4) f4 = xs ++ f0 :: f1 :: f2 :: f3 :: f4 :: ys := by
  subst hn; simp
theorem five_of {l : List Value} {n : Nat} (h : l.length = (n + 1) * 5) : ∃ a b c d e r, l = a :: b :: c :: d :: e :: r ∧ r.length = n * 5 := by
  match l, h with
  | a :: b :: c :: d :: e :: r, h => exact ⟨a, b, c, d, e, r, rfl, by simp at h; omega⟩
  | [], h => simp at h
  | [_], h => simp at h; omega
  | [_, _], h => simp at h; omega
  | [_, _, _], h => simp at h; omega
  | [_, _, _, _], h => simp at h; omega

/-- Five stores into a row. -/
theorem own_put5 {w : World} {base e g n cap j : Nat} {xs ys : List Value} {f0 f1 f2 f3 f4 : Value} {a b c d r : Value} (h : w.ownsRow base e 5 (.slice (some ⟨g, 0, none⟩) n cap) n (xs ++ a :: b :: c :: d :: r :: ys)) (hj : j = xs.length) :
    (((((w.setCell ⟨g, j, none⟩ f0).setCell ⟨g, j + 1, none⟩ f1).setCell ⟨g, j + 2, none⟩ f2).setCell ⟨g, j + 3, none⟩ f3).setCell ⟨g, j + 4, none⟩ f4).ownsRow base e 5 (.slice (some ⟨g, 0, none⟩) n cap) n (xs ++ f0 :: f1 :: f2 :: f3 :: f4 :: ys) := by
  have := ((((h.stored j f0).1.stored (j + 1) f1).1.stored (j + 2) f2).1.stored (j + 3) f3).1.stored (j + 4) f4
  rw [set5 xs ys a b c d r f0 f1 f2 f3 f4 j hj] at this
  exact this.1
theorem own_cells5 {w : World} {base e g n cap j : Nat} {xs ys : List Value} {a b c d r : Value} (h : w.ownsRow base e 5 (.slice (some ⟨g, 0, none⟩) n cap) n (xs ++ a :: b :: c :: d :: r :: ys)) (hj : j = xs.length) :
    (w.cell? ⟨g, j, none⟩ = some a ∧ w.cell? ⟨g, j + 1, none⟩ = some b ∧ w.cell? ⟨g, j + 2, none⟩ = some c ∧ w.cell? ⟨g, j + 3, none⟩ = some d ∧ w.cell? ⟨g, j + 4, none⟩ = some r) ∧
    (w.frozen? ⟨g, j, none⟩ = false ∧ w.frozen? ⟨g, j + 1, none⟩ = false ∧ w.frozen? ⟨g, j + 2, none⟩ = false ∧ w.frozen? ⟨g, j + 3, none⟩ = false ∧ w.frozen? ⟨g, j + 4, none⟩ = false) := by
  have hl := h.1
  simp at hl
  subst hj
  refine ⟨⟨?_, ?_, ?_, ?_, ?_⟩, h.frozenAt _, h.frozenAt _, h.frozenAt _, h.frozenAt _, h.frozenAt _⟩ <;> (rw [h.cellAt _ (by omega)]; simp)

end Go.Proofs.Ytblcgbgcccjpcaa
