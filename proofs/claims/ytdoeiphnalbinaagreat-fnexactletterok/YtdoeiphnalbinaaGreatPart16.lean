/- Proved, in parts: Proved: the model's Reached answers the number that more than half have reached, -1 of other lists, and writes nothing that was there; the list holds at most as many numbers as there are. Proved: an argument that is a slice of records is a list of them, and an argument that is a work is its name, owner and copies; no program is named here. Proved: the laws' helpers on lists of numbers: a copy is in new memory, and two lists of the same numbers are alike; an argument that is a slice of numbers is a list of them. Condition: at most 1048576 numbers. Proved: facts on blocks of a few cells: what they hold, that they may be written, and what they hold behind writes into all of their cells; no program's function is named here; no condition. Proved: a box of 15 cells that is written whole, or read whole; no program is named here; no condition. Proved: how a roll, a book and a scribe stand in memory, with the places of their lists, and what they are as plain data; when they can be read. No program's function is named here; no condition. Proved: a roll, a book and a scribe in memory of their own, as components; no program's function is named here; no condition. Proved: what stores into a box leave of components of memory, and how components are told from a lower block on; no program's function is named here; no condition. -/
import Derived.Test.YtdoeiphnalbinaaGreatPart15
import Derived.Deep.Onto
import Derived.Test.YtdoeiphnalbinaaGreatPart05
import Derived.WalkKit
import Derived.Lib.SmallJoins
import Derived.Deep.Slices
import Derived.ChangeSame
import Derived.Test.YtdoeiphnalbinaaGreatPart01
import Derived.Test.YtdoeiphnalbinaaGreatPart08
import Derived.Test.YtdoeiphnalbinaaGreatPart13
import Derived.Test.YtdoeiphnalbinaaGreatPart09
namespace Go.Proofs.YtdoeiphnalbinaaGreat
open Go.RowKit

abbrev inL (x : Int) : List Value := [.int .i64 x]
abbrev Ints (w : World) (A : Option Addr) (l : List Int) : Prop := Flat inL 1 w A l
end Go.Proofs.YtdoeiphnalbinaaGreat
namespace Go.Proofs.YtdoeiphnalbinaaGreat
open Go.ChangeShapes Go.WideShapes Go.ChangeAt Go.RowKit Go.Joins Go.Deep

theorem cell_spot {w : World} {a : Addr} {v : Value} (h : w.cell? a = some v) : a = ⟨a.block, a.off, none⟩ := by
  unfold World.cell? at h
  rcases a with ⟨b, o, _ | s⟩
  · rfl
  · split at h <;> simp at h

section
variable {H : Type} {enc : TypeId × Value → H} {P : Program} {w : World} {base : Nat} {spare : Nat → Bool} {held : Bool}

theorem open_rows {α : Type} [Inhabited α] {en : α → List Value} {k : Nat} {Q : α → Prop} {t e : TypeId} {fuel : Nat} {cs : List Value} {x : DataW H × List MemPlace} (ht : P.underlying t = some (.slice e)) (hk : P.cellsOf e = k) (hk0 : 0 < k)
    (hlen : ∀ x, (en x).length = k) (op : ∀ (n : Nat) (cs : List Value) (x : DataW H × List MemPlace), DataW.trod enc P w base spare held n e cs = some x → ∃ c, cs = en c ∧ Q c)
    (h : DataW.trod enc P w base spare held fuel t cs = some x) : ∃ (A : Option Addr) (l : List α) (c : Nat), cs = [.slice A l.length c] ∧ Flat en k w A l ∧ l.length ≤ c ∧ c ≤ maxLen ∧ ∀ x ∈ l, Q x := by
  subst hk
  rcases open_slice ht h with ⟨rfl, _⟩ | ⟨a, len, cap, m, n, D, Pl, rfl, hb, hl, hm, hmm, hx, hi⟩
  · exact ⟨none, [], 0, rfl, .inl rfl, Nat.le_refl _, Nat.zero_le _, by simp⟩
  · have hlm : len ≤ m := by rw [hmm]; split <;> omega
    have hall : ∀ i, i < len → ∃ c, Q c ∧ ∀ t u, (en c)[t]? = some u → w.cell? (a.add (i * P.cellsOf e + t)) = some u := by
      intro i hil
      obtain ⟨cs', hc, ht'⟩ := hi i (by omega)
      obtain ⟨c, rfl, hq⟩ := op n cs' _ ht'
      obtain ⟨_, hcl, hat⟩ := World.cells?_some hc
      refine ⟨c, hq, fun t u hu => ?_⟩
      have htl : t < P.cellsOf e := by
        rcases Nat.lt_or_ge t (en c).length with h' | h'
        · rw [hlen] at h'; exact h'
        · rw [List.getElem?_eq_none h'] at hu; cases hu
      have := hat t htl
      rw [← Go.Deep.add_add, this, hu]
    obtain ⟨F, hF⟩ : ∃ F : Nat → α, ∀ i, i < len → Q (F i) ∧ ∀ t u, (en (F i))[t]? = some u → w.cell? (a.add (i * P.cellsOf e + t)) = some u := by
      refine ⟨fun i => if h : i < len then Classical.choose (hall i h) else default, fun i hil => ?_⟩
      simp only [dif_pos hil]
      exact Classical.choose_spec (hall i hil)
    refine ⟨some a, (List.range len).map F, cap, by simp, ?_, by simpa using hl, hm, fun y hy => ?_⟩
    · rcases Nat.eq_zero_or_pos len with h0 | h0
      · subst h0; exact .inl rfl
      · have h1 : (en (F 0))[0]? = some ((en (F 0))[0]'(by rw [hlen]; exact hk0)) := List.getElem?_eq_getElem _
        have h2 := (hF 0 h0).2 0 _ h1
        have h3 : a.add (0 * P.cellsOf e + 0) = a := by simp [Addr.add]
        rw [h3] at h2
        have ha := cell_spot h2
        rw [ha]
        refine .inr ⟨a.block, a.off, rfl, World.block_lt_of_cell? w _ h2, fun i t x u hi hu => ?_⟩
        rw [List.getElem?_map] at hi
        have hil : i < len := by
          rcases Nat.lt_or_ge i len with h' | h'
          · exact h'
          · rw [List.getElem?_eq_none (by simpa using h')] at hi; cases hi
        rw [List.getElem?_range hil] at hi
        simp at hi
        subst hi
        have := (hF i hil).2 t u hu
        rw [ha, addr_add, ← Nat.add_assoc] at this
        exact this
    · simp at hy
      obtain ⟨i, hil, rfl⟩ := hy
      exact (hF i hil).1

theorem cells_ed {t : TypeId} {g0 g1 g2 : Field} {n : Nat} {cs : List Value} {x : DataW H × List MemPlace} (hs : P.underlying t = some (.struct #[g0, g1, g2])) (hC : P.cellsOf t = 3)
    (po : [g0.offset, g1.offset, g2.offset] = [0, 1, 2]) (pk : [P.cellsOf g0.type, P.cellsOf g1.type, P.cellsOf g2.type] = [1, 1, 1])
    (x0 : P.underlying g0.type = some (.int .i64)) (x1 : P.underlying g1.type = some (.int .i64)) (x2 : P.underlying g2.type = some (.int .i64))
    (h : DataW.trod enc P w base spare held n t cs = some x) : ∃ e : M.Ed, cs = [.int .i64 e.ma, .int .i64 e.mi, .int .i64 e.pa] := by
  obtain ⟨zs, m, _, _, hl, hlen', hfld'⟩ := DataW.trod_struct hs h
  simp only [List.cons.injEq, and_true] at po pk
  obtain ⟨p0, p1, p2⟩ := po
  obtain ⟨q0, q1, q2⟩ := pk
  match cs, hl.trans hC with
  | [c0, c1, c2], _ =>
    match zs, hlen' with
    | [z0, z1, z2], _ =>
      have i0 := hfld' 0 g0 rfl
      have i1 := hfld' 1 g1 rfl
      have i2 := hfld' 2 g2 rfl
      simp only [p0, p1, p2, q0, q1, q2, List.drop_zero, List.drop_succ_cons, List.take_succ_cons, List.take_zero, List.getElem?_cons_zero, List.getElem?_cons_succ] at i0 i1 i2
      obtain ⟨b0, j0, _⟩ := DataW.trod_int x0 i0
      obtain ⟨b1, j1, _⟩ := DataW.trod_int x1 i1
      obtain ⟨b2, j2, _⟩ := DataW.trod_int x2 i2
      simp only [List.cons.injEq, and_true] at j0 j1 j2
      subst j0 j1 j2
      exact ⟨⟨b0, b1, b2⟩, rfl⟩

theorem cells_cp {t : TypeId} {f0 f1 f2 g0 g1 g2 : Field} {n : Nat} {cs : List Value} {x : DataW H × List MemPlace} (hs : P.underlying t = some (.struct #[f0, f1, f2])) (hC : P.cellsOf t = 5)
    (ho : [f0.offset, f1.offset, f2.offset] = [0, 3, 4]) (hk : [P.cellsOf f0.type, P.cellsOf f1.type, P.cellsOf f2.type] = [3, 1, 1])
    (u0 : P.underlying f0.type = some (.struct #[g0, g1, g2])) (u1 : P.underlying f1.type = some .string) (u2 : P.underlying f2.type = some .bool)
    (po : [g0.offset, g1.offset, g2.offset] = [0, 1, 2]) (pk : [P.cellsOf g0.type, P.cellsOf g1.type, P.cellsOf g2.type] = [1, 1, 1])
    (x0 : P.underlying g0.type = some (.int .i64)) (x1 : P.underlying g1.type = some (.int .i64)) (x2 : P.underlying g2.type = some (.int .i64))
    (h : DataW.trod enc P w base spare held n t cs = some x) : ∃ c : M.Cp, cs = cpL c ∧ c.page.size ≤ maxLen := by
  obtain ⟨zs, m, _, _, hl, hlen', hfld'⟩ := DataW.trod_struct hs h
  simp only [List.cons.injEq, and_true] at ho hk
  obtain ⟨p0, p1, p2⟩ := ho
  obtain ⟨q0, q1, q2⟩ := hk
  match cs, hl.trans hC with
  | [c0, c1, c2, c3, c4], _ =>
    match zs, hlen' with
    | [z0, z1, z2], _ =>
      have i0 := hfld' 0 f0 rfl
      have i1 := hfld' 1 f1 rfl
      have i2 := hfld' 2 f2 rfl
      simp only [p0, p1, p2, q0, q1, q2, List.drop_zero, List.drop_succ_cons, List.take_succ_cons, List.take_zero, List.getElem?_cons_zero, List.getElem?_cons_succ] at i0 i1 i2
      obtain ⟨e, j0⟩ := cells_ed u0 q0 po pk x0 x1 x2 i0
      obtain ⟨s, j1, _, hsz⟩ := DataW.trod_string u1 i1
      obtain ⟨b, j2, _⟩ := DataW.trod_bool u2 i2
      simp only [List.cons.injEq, and_true] at j0 j1 j2
      obtain ⟨rfl, rfl, rfl⟩ := j0
      subst j1 j2
      exact ⟨⟨e, s, b⟩, rfl, hsz⟩

end
end Go.Proofs.YtdoeiphnalbinaaGreat
namespace Go.Proofs.YtdoeiphnalbinaaGreat
open Go.ChangeShapes Go.WideShapes Go.ChangeAt Go.RowKit Go.Joins Go.Deep

/-- v is a list of numbers in memory of one's own from block B on. -/
abbrev IntsOwn (B : Nat) (w : World) (v : Value) (l : List Int) : Prop := w.ownsRow B 2 1 v l.length (cellsOf inL l)
section
variable {H : Type} {enc : TypeId × Value → H} {P : Program} {w : World} {base : Nat} {spare : Nat → Bool} {held : Bool}
end

end Go.Proofs.YtdoeiphnalbinaaGreat
namespace Go.Proofs.YtdoeiphnalbinaaGreat
open Go.RowKit

theorem Loose.fz11 {w : World} {g : Nat} (h : Loose w g) : w.frozen? ⟨g, 0, none⟩ = false ∧ w.frozen? ⟨g, 1, none⟩ = false ∧ w.frozen? ⟨g, 2, none⟩ = false ∧ w.frozen? ⟨g, 3, none⟩ = false ∧ w.frozen? ⟨g, 4, none⟩ = false ∧ w.frozen? ⟨g, 5, none⟩ = false ∧ w.frozen? ⟨g, 6, none⟩ = false ∧ w.frozen? ⟨g, 7, none⟩ = false ∧ w.frozen? ⟨g, 8, none⟩ = false ∧ w.frozen? ⟨g, 9, none⟩ = false ∧ w.frozen? ⟨g, 10, none⟩ = false := ⟨h 0, h 1, h 2, h 3, h 4, h 5, h 6, h 7, h 8, h 9, h 10⟩
theorem Holds.at11 {w : World} {g : Nat} {c0 c1 c2 c3 c4 c5 c6 c7 c8 c9 c10 : Value} (h : Holds w g #[c0, c1, c2, c3, c4, c5, c6, c7, c8, c9, c10]) : w.cell? ⟨g, 0, none⟩ = some c0 ∧ w.cell? ⟨g, 1, none⟩ = some c1 ∧ w.cell? ⟨g, 2, none⟩ = some c2 ∧ w.cell? ⟨g, 3, none⟩ = some c3 ∧ w.cell? ⟨g, 4, none⟩ = some c4 ∧ w.cell? ⟨g, 5, none⟩ = some c5 ∧ w.cell? ⟨g, 6, none⟩ = some c6 ∧ w.cell? ⟨g, 7, none⟩ = some c7 ∧ w.cell? ⟨g, 8, none⟩ = some c8 ∧ w.cell? ⟨g, 9, none⟩ = some c9 ∧ w.cell? ⟨g, 10, none⟩ = some c10 := ⟨h.2 0 _ rfl, h.2 1 _ rfl, h.2 2 _ rfl, h.2 3 _ rfl, h.2 4 _ rfl, h.2 5 _ rfl, h.2 6 _ rfl, h.2 7 _ rfl, h.2 8 _ rfl, h.2 9 _ rfl, h.2 10 _ rfl⟩

theorem Loose.putM {w : World} {g k j : Nat} (h : Loose w k) (v : Value) : Loose (w.setCell ⟨g, j, none⟩ v) k := fun i => by rw [World.frozen?_setCell]; exact h i
end Go.Proofs.YtdoeiphnalbinaaGreat
namespace Go.Proofs.YtdoeiphnalbinaaGreat
open Go.RowKit
end Go.Proofs.YtdoeiphnalbinaaGreat
namespace Go.Proofs.YtdoeiphnalbinaaGreat
open Go.RowKit

/-- A list as it stands in memory. -/
structure Sl (α : Type) where
  ad : Option Addr
  cap : Nat
  l : List α
abbrev Sl.v {α : Type} (s : Sl α) : Value := .slice s.ad s.l.length s.cap
def Sl.none {α : Type} : Sl α := ⟨Option.none, 0, []⟩
structure LRo where
  b : Int
  r : Int
  en : Sl M.En
structure LBk where
  sf : Sl Wr
  la : Sl M.La
structure LSc where
  reign : Int
  vote : Int
  ro : LRo
  kept : LBk
  awake : Bool
  role : Int
  commit : Int
  votes : Int
  next : Sl Int
  mat : Sl Int
  now : LBk
namespace M
structure Ro where
  b : Int
  r : Int
  l : List En
structure Sc where
  reign : Int
  vote : Int
  ro : Ro
  kept : Bk
  awake : Bool
  role : Int
  commit : Int
  votes : Int
  next : List Int
  mat : List Int
  now : Bk
end M
def LRo.d (r : LRo) : M.Ro := ⟨r.b, r.r, r.en.l⟩
def LBk.d (b : LBk) : M.Bk := (b.sf.l.map Wr.wk, b.la.l)
def LSc.d (s : LSc) : M.Sc := ⟨s.reign, s.vote, s.ro.d, s.kept.d, s.awake, s.role, s.commit, s.votes, s.next.l, s.mat.l, s.now.d⟩

abbrev LRo.v (r : LRo) : Value := roV r.b r.r r.en.ad r.en.l.length r.en.cap
abbrev LBk.v (b : LBk) : Value := bkV b.sf.ad b.sf.l.length b.sf.cap b.la.ad b.la.l.length b.la.cap
/-- A list can be read, and is of at most n. -/
structure RoIn (n : Nat) (w : World) (r : LRo) : Prop where
  en : Ens w r.en.ad r.en.l
  len : r.en.l.length ≤ n
  cap : r.en.l.length ≤ r.en.cap
  none : r.en.ad = .none → r.en.cap = 0
  txt : ∀ e ∈ r.en.l, enIn n e
structure BkIn (n : Nat) (w : World) (b : LBk) : Prop where
  sf : Wks w b.sf.ad b.sf.l
  sfn : ∀ r ∈ b.sf.l, r.ad = .none → r.cap = 0
  sfl : b.sf.l.length ≤ n
  sft : WrsIn n b.sf.l
  la : Las w b.la.ad b.la.l
  lan : b.la.ad = .none → b.la.cap = 0
  lal : b.la.l.length ≤ n
  lat : ∀ c ∈ b.la.l, laIn n c
structure IsIn (n : Nat) (w : World) (s : Sl Int) : Prop where
  is : Ints w s.ad s.l
  none : s.ad = .none → s.cap = 0
  len : s.l.length ≤ n
structure ScIn (n : Nat) (w : World) (s : LSc) : Prop where
  ro : RoIn n w s.ro
  kept : BkIn n w s.kept
  next : IsIn n w s.next
  mat : IsIn n w s.mat
  now : BkIn n w s.now
theorem RoIn.below {n : Nat} {w w' : World} {r : LRo} (h : RoIn n w r) (hb : Below w.heap.size w w') : RoIn n w' r := { h with en := h.en.below hb }
theorem BkIn.below {n : Nat} {w w' : World} {b : LBk} (h : BkIn n w b) (hb : Below w.heap.size w w') : BkIn n w' b := { h with sf := h.sf.below hb, la := h.la.below hb }
theorem IsIn.below {n : Nat} {w w' : World} {s : Sl Int} (h : IsIn n w s) (hb : Below w.heap.size w w') : IsIn n w' s := { h with is := h.is.below hb }
theorem ScIn.below {n : Nat} {w w' : World} {s : LSc} (h : ScIn n w s) (hb : Below w.heap.size w w') : ScIn n w' s := ⟨h.ro.below hb, h.kept.below hb, h.next.below hb, h.mat.below hb, h.now.below hb⟩
theorem ScIn.alloc {n : Nat} {w : World} {s : LSc} (h : ScIn n w s) (o : Obj) : ScIn n (w.alloc o) s := h.below ((Below.refl _ _).alloc (Nat.le_refl _) o)
theorem ScIn.drew {n : Nat} {w : World} {s : LSc} (h : ScIn n w s) : ScIn n w.drew s := h.below (Below.refl _ _).drew

end Go.Proofs.YtdoeiphnalbinaaGreat
namespace Go.Proofs.YtdoeiphnalbinaaGreat
open Go.RowKit
/-- The components of a roll, of a book, of a list of numbers, of a scribe. -/
def enCmp (B : Nat) (s : Sl M.En) : Cmp := Cmp.row B 53 10 s.v s.l.length (cellsOf enL s.l)
def laCmp (B : Nat) (s : Sl M.La) : Cmp := Cmp.row B 85 4 s.v s.l.length (cellsOf laL s.l)
def inCmp (B : Nat) (s : Sl Int) : Cmp := Cmp.row B 2 1 s.v s.l.length (cellsOf inL s.l)
def sfCmp (B : Nat) (s : Sl Wr) : Cmp := Cmp.sf B s.v s.l
def bkCs (B : Nat) (b : LBk) : List Cmp := [sfCmp B b.sf, laCmp B b.la]
def scCs (B : Nat) (s : LSc) : List Cmp := [enCmp B s.ro.en, sfCmp B s.kept.sf, laCmp B s.kept.la, inCmp B s.next, inCmp B s.mat, sfCmp B s.now.sf, laCmp B s.now.la]
/-- The scribe s in memory of its own from block B on. -/
abbrev ScOwn (B : Nat) (w : World) (s : LSc) : Prop := Has (scCs B s) w
structure ScParts (B : Nat) (w : World) (s : LSc) : Prop where
  en : EnsOwn B w s.ro.en.v s.ro.en.l
  ksf : SfOwn B w s.kept.sf.v s.kept.sf.l
  kla : LasOwn B w s.kept.la.v s.kept.la.l
  next : IntsOwn B w s.next.v s.next.l
  mat : IntsOwn B w s.mat.v s.mat.l
  nsf : SfOwn B w s.now.sf.v s.now.sf.l
  nla : LasOwn B w s.now.la.v s.now.la.l
theorem ScOwn.parts {B : Nat} {w : World} {s : LSc} (h : ScOwn B w s) : ScParts B w s :=
  ⟨h.all (enCmp B s.ro.en) (by simp [scCs]), h.all (sfCmp B s.kept.sf) (by simp [scCs]), h.all (laCmp B s.kept.la) (by simp [scCs]), h.all (inCmp B s.next) (by simp [scCs]), h.all (inCmp B s.mat) (by simp [scCs]), h.all (sfCmp B s.now.sf) (by simp [scCs]), h.all (laCmp B s.now.la) (by simp [scCs])⟩
theorem row_nil {B : Nat} {w : World} {t : TypeId} {k n c : Nat} {A : Option Addr} {C : List Value} (h : w.ownsRow B t k (.slice A n c) n C) : (A = none → c = 0) ∧ n ≤ c := by
  rcases h.2 with ⟨h0, h1⟩ | ⟨g, cap, cur, hv, _, _, hn, _⟩
  · injection h0 with a b c; subst c; exact ⟨fun _ => rfl, by omega⟩
  · injection hv with a b c; subst a c; exact ⟨fun e => (by cases e), hn⟩
/-- How large the texts and lists of a scribe are. -/
structure ScSmall (n : Nat) (s : M.Sc) : Prop where
  rol : s.ro.l.length ≤ n
  rot : ∀ e ∈ s.ro.l, enIn n e
  kl : s.kept.1.length ≤ n
  kt : ∀ k ∈ s.kept.1, k.name.size ≤ n ∧ k.copies.length ≤ n ∧ ∀ c ∈ k.copies, c.page.size ≤ n
  kal : s.kept.2.length ≤ n
  kat : ∀ c ∈ s.kept.2, laIn n c
  nx : s.next.length ≤ n
  ma : s.mat.length ≤ n
  nl : s.now.1.length ≤ n
  nt : ∀ k ∈ s.now.1, k.name.size ≤ n ∧ k.copies.length ≤ n ∧ ∀ c ∈ k.copies, c.page.size ≤ n
  nal : s.now.2.length ≤ n
  nat : ∀ c ∈ s.now.2, laIn n c
theorem wrsIn_of {n : Nat} {l : List Wr} (h : ∀ k ∈ l.map Wr.wk, k.name.size ≤ n ∧ k.copies.length ≤ n ∧ ∀ c ∈ k.copies, c.page.size ≤ n) : WrsIn n l := fun r hr => h r.wk (List.mem_map_of_mem hr)
theorem SfOwn.in {B n : Nat} {w : World} {s : Sl Wr} (h : SfOwn B w s.v s.l) (hl : (s.l.map Wr.wk).length ≤ n) (ht : ∀ k ∈ s.l.map Wr.wk, k.name.size ≤ n ∧ k.copies.length ≤ n ∧ ∀ c ∈ k.copies, c.page.size ≤ n) : Wks w s.ad s.l ∧ (∀ r ∈ s.l, r.ad = none → r.cap = 0) ∧ s.l.length ≤ n ∧ WrsIn n s.l :=
  ⟨h.wks.1, fun r hr => by
    obtain ⟨A, c, hv, _, hn⟩ := (h.2.1 r hr).open
    injection hv with a b c'
    rw [a, c']; exact hn, by simpa using hl, wrsIn_of ht⟩
theorem ScOwn.in {B n : Nat} {w : World} {s : LSc} (h : ScOwn B w s) (hs : ScSmall n s.d) : ScIn n w s := by
  obtain ⟨h1, h2, h3, h4, h5, h6, h7⟩ := h.parts
  obtain ⟨k1, k2, k3, k4⟩ := SfOwn.in h2 hs.kl hs.kt
  obtain ⟨n1, n2, n3, n4⟩ := SfOwn.in h6 hs.nl hs.nt
  have f1 := (own_flat (k := 10) (enc := enL) (fun _ => rfl) h1)
  have f3 := (own_flat (k := 4) (enc := laL) (fun _ => rfl) h3)
  have f4 := (own_flat (k := 1) (enc := inL) (fun _ => rfl) h4)
  have f5 := (own_flat (k := 1) (enc := inL) (fun _ => rfl) h5)
  have f7 := (own_flat (k := 4) (enc := laL) (fun _ => rfl) h7)
  obtain ⟨A1, c1, e1, -, g1⟩ := f1
  obtain ⟨A3, c3, e3, -, g3⟩ := f3
  obtain ⟨A4, c4, e4, -, g4⟩ := f4
  obtain ⟨A5, c5, e5, -, g5⟩ := f5
  obtain ⟨A7, c7, e7, -, g7⟩ := f7
  injection e1 with a1; injection e3 with a3; injection e4 with a4; injection e5 with a5; injection e7 with a7
  rw [← a1] at g1; rw [← a3] at g3; rw [← a4] at g4; rw [← a5] at g5; rw [← a7] at g7
  exact ⟨⟨g1, hs.rol, (row_nil h1).2, (row_nil h1).1, hs.rot⟩, ⟨k1, k2, k3, k4, g3, (row_nil h3).1, hs.kal, hs.kat⟩, ⟨g4, (row_nil h4).1, hs.nx⟩, ⟨g5, (row_nil h5).1, hs.ma⟩, ⟨n1, n2, n3, n4, g7, (row_nil h7).1, hs.nal, hs.nat⟩⟩
theorem wks_small {n : Nat} {l : List Wr} (h : WrsIn n l) : ∀ k ∈ l.map Wr.wk, k.name.size ≤ n ∧ k.copies.length ≤ n ∧ ∀ c ∈ k.copies, c.page.size ≤ n := fun k hk => by
  obtain ⟨r, hr, rfl⟩ := List.mem_map.1 hk
  exact h r hr
theorem ScIn.small {n : Nat} {w : World} {s : LSc} (h : ScIn n w s) : ScSmall n s.d :=
  ⟨h.ro.len, h.ro.txt, by show (s.kept.sf.l.map Wr.wk).length ≤ n; rw [List.length_map]; exact h.kept.sfl, wks_small h.kept.sft, h.kept.lal, h.kept.lat, h.next.len, h.mat.len, by show (s.now.sf.l.map Wr.wk).length ≤ n; rw [List.length_map]; exact h.now.sfl, wks_small h.now.sft, h.now.lal, h.now.lat⟩
def BkOut (w : World) (q : M.Bk) (e : Ending) (w' : World) : Prop := ∃ b : LBk, e = .returned b.v ∧ Has (bkCs w.heap.size b) w' ∧ b.d = q ∧ Below w.heap.size w w'
theorem book_laid {B : Nat} {w' : World} {q : M.Bk} {e : Ending} {v1 v2 : Value} {rs : List Wr} (he : e = .returned (.agg #[v1, v2])) (h1 : SfOwn B w' v1 rs) (h2 : rs.map Wr.wk = q.1) (h3 : LasOwn B w' v2 q.2) (h4 : ∀ g, v2.ownBlock = some g → ¬ blocksS v1 rs g) : ∃ b : LBk, e = .returned b.v ∧ Has (bkCs B b) w' ∧ b.d = q := by
  obtain ⟨A1, c1, rfl, -, -⟩ := h1.open
  obtain ⟨A2, c2, rfl, -, -⟩ := LasOwn.open h3
  refine ⟨⟨⟨A1, c1, rs⟩, ⟨A2, c2, q.2⟩⟩, he, Has.cons (c := sfCmp B ⟨A1, c1, rs⟩) h1 (Has.one (c := laCmp B ⟨A2, c2, q.2⟩) h3) (fun g hg hf => ?_), ?_⟩
  · rcases foot_cons.1 hf with hf | hf
    · exact h4 g hf hg
    · exact foot_nil hf
  · show (rs.map Wr.wk, q.2) = q
    rw [h2]
end Go.Proofs.YtdoeiphnalbinaaGreat
namespace Go.Proofs.YtdoeiphnalbinaaGreat
open Go.RowKit
set_option maxRecDepth 20000
/-- d asks no more than c. -/
structure Cmp.Le (c d : Cmp) : Prop where
  p : ∀ w, c.P w → d.P w
  e : ∀ g, d.E g → c.E g
/-- One by one. -/
def Les : List Cmp → List Cmp → Prop
  | [], [] => True
  | c :: cs, d :: ds => Cmp.Le c d ∧ Les cs ds
  | _, _ => False
theorem Les.mem : ∀ {cs ds : List Cmp}, Les cs ds → ∀ d ∈ ds, ∃ c ∈ cs, Cmp.Le c d
  | [], [], _ => by simp
  | c :: cs, d :: ds, h => by
    intro y hy
    rcases List.mem_cons.1 hy with rfl | hy
    · exact ⟨c, by simp, h.1⟩
    · obtain ⟨x, hx, hxy⟩ := Les.mem h.2 y hy
      exact ⟨x, List.mem_cons_of_mem _ hx, hxy⟩
  | [], _ :: _, h => h.elim
  | _ :: _, [], h => h.elim
theorem Les.off : ∀ {cs ds : List Cmp}, Les cs ds → cs.Pairwise Off → ds.Pairwise Off
  | [], [], _, _ => .nil
  | c :: cs, d :: ds, h, hp => by
    rw [List.pairwise_cons] at hp ⊢
    refine ⟨fun y hy g hg hyg => ?_, Les.off h.2 hp.2⟩
    obtain ⟨x, hx, hxy⟩ := Les.mem h.2 y hy
    exact hp.1 x hx g (h.1.e g hg) (hxy.e g hyg)
  | [], _ :: _, h, _ => h.elim
  | _ :: _, [], h, _ => h.elim
theorem Has.le {cs ds : List Cmp} {w : World} (h : Has cs w) (hl : Les cs ds) : Has ds w :=
  ⟨fun d hd => by
    obtain ⟨c, hc, hcd⟩ := hl.mem d hd
    exact hcd.p w (h.all c hc), hl.off h.off⟩
theorem row_le {B B' : Nat} (hB : B' ≤ B) (t : TypeId) (k : Nat) (v : Value) (n : Nat) (C : List Value) : Cmp.Le (Cmp.row B t k v n C) (Cmp.row B' t k v n C) := ⟨fun _ h => World.ownsRow.mono h hB, fun _ h => h⟩
theorem en_le {B B' : Nat} (hB : B' ≤ B) (s : Sl M.En) : Cmp.Le (enCmp B s) (enCmp B' s) := row_le hB _ _ _ _ _
theorem la_le {B B' : Nat} (hB : B' ≤ B) (s : Sl M.La) : Cmp.Le (laCmp B s) (laCmp B' s) := row_le hB _ _ _ _ _
theorem in_le {B B' : Nat} (hB : B' ≤ B) (s : Sl Int) : Cmp.Le (inCmp B s) (inCmp B' s) := row_le hB _ _ _ _ _
theorem sf_le {B B' : Nat} (hB : B' ≤ B) (s : Sl Wr) : Cmp.Le (sfCmp B s) (sfCmp B' s) := ⟨fun _ h => SfOwn.mono h hB, fun _ h => h⟩
theorem bk_le {B B' : Nat} (hB : B' ≤ B) (b : LBk) : Les (bkCs B b) (bkCs B' b) := ⟨sf_le hB _, la_le hB _, trivial⟩
theorem sc_le {B B' : Nat} (hB : B' ≤ B) (s : LSc) : Les (scCs B s) (scCs B' s) :=
  ⟨en_le hB _, sf_le hB _, la_le hB _, in_le hB _, in_le hB _, sf_le hB _, la_le hB _, trivial⟩
theorem ScOwn.mono {B B' : Nat} {w : World} {s : LSc} (h : ScOwn B w s) (hB : B' ≤ B) : ScOwn B' w s := Has.le h (sc_le hB s)
theorem bkCs_base (B : Nat) (b : LBk) : ∀ c ∈ bkCs B b, B ≤ c.base := by
  intro c hc
  simp only [bkCs, List.mem_cons, List.not_mem_nil, or_false] at hc
  rcases hc with rfl | rfl <;> exact Nat.le_refl _

/-- All from block B on. -/
def From (B : Nat) (cs : List Cmp) : Prop := ∀ c ∈ cs, B ≤ c.base
theorem From.append {B : Nat} {cs ds : List Cmp} (h : From B cs) (k : From B ds) : From B (cs ++ ds) := fun c hc => (List.mem_append.1 hc).elim (h c) (k c)
theorem From.mono {B B' : Nat} {cs : List Cmp} (h : From B cs) (hB : B' ≤ B) : From B' cs := fun c hc => Nat.le_trans hB (h c hc)

theorem from_en (B : Nat) (s : Sl M.En) : From B [enCmp B s] := fun c hc => by simp at hc; subst hc; exact Nat.le_refl _
theorem from_bk (B : Nat) (b : LBk) : From B (bkCs B b) := bkCs_base B b
theorem Les.foot {cs ds : List Cmp} (h : Les cs ds) {g : Nat} (hg : foot ds g) : foot cs g := by
  obtain ⟨d, hd, he⟩ := hg
  obtain ⟨c, hc, hcd⟩ := h.mem d hd
  exact ⟨c, hc, hcd.e g he⟩
/-- What is there, and what a call has made, told from a lower block on. -/
theorem Has.join {cs ds ds' : List Cmp} {w w' : World} (h : Has cs w) (hb : Below w.heap.size w w') (k : Has ds w') (hk : From w.heap.size ds) (hl : Les ds ds') : Has (cs ++ ds') w' :=
  (h.below hb).append (k.le hl) (fun g h1 h2 => by have := h.lt h1; have := k.ge hk (hl.foot h2); omega)
theorem Has.set1 {cs : List Cmp} {w : World} {g B : Nat} (h : Has cs w) (hB : From B cs) (hg : g < B) (i : Nat) (a : Value) : Has cs (w.setCell ⟨g, i, none⟩ a) := h.setLow hB hg i a
theorem Has.set2 {cs : List Cmp} {w : World} {g B : Nat} (h : Has cs w) (hB : From B cs) (hg : g < B) (i j : Nat) (a b : Value) : Has cs ((w.setCell ⟨g, i, none⟩ a).setCell ⟨g, j, none⟩ b) := (h.setLow hB hg i a).setLow hB hg j b
section
variable {w0 x : World} {R : Nat} {s : LSc} {hs : List (Nat × Array Value)} {ls : List Nat}
end
theorem mem_swap {w0 x : World} {a b : Nat × Array Value} {hs : List (Nat × Array Value)} {ls : List Nat} (h : Mem w0 (a :: b :: hs) ls x) : Mem w0 (b :: a :: hs) ls x :=
  ⟨h.1, fun p hp => h.2.1 p (by
    rcases List.mem_cons.1 hp with rfl | hp
    · simp
    · rcases List.mem_cons.1 hp with rfl | hp
      · simp
      · simp [hp]), h.2.2⟩
end Go.Proofs.YtdoeiphnalbinaaGreat
