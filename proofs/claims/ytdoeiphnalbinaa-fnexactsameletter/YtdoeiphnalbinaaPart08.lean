/- Proved, in parts: Proved: a roll, a book and a scribe in memory of their own, as components; no program's function is named here; no condition. Proved: what stores into a box leave of components of memory, and how components are told from a lower block on; no program's function is named here; no condition. Proved: how a letter stands in memory, with the places of its lists, and what it is as plain data; when it can be read, and when its memory is its own. No program's function is named here; no condition. Proved: what a block's write leaves of rows that lie elsewhere. No program is named here; no condition. Proved: the laws' helper counts a list of works as the plain Lean function does; it writes nothing that was there. Proved: the laws' own test tells two lists of works alike that are; it writes nothing that was there. No condition. -/
import Derived.Test.YtdoeiphnalbinaaPart04
import Derived.Test.YtdoeiphnalbinaaPart07
import Derived.Test.YtdoeiphnalbinaaPart01
import Derived.Test.YtdoeiphnalbinaaPart03
import Derived.Test.YtdoeiphnalbinaaPart02
namespace Go.Proofs.Ytdoeiphnalbinaa
open Go.RowKit
/-- The components of a roll, of a book, of a list of numbers, of a scribe. -/
def enCmp (B : Nat) (s : Sl M.En) : Cmp := Cmp.row B 57 10 s.v s.l.length (cellsOf enL s.l)
def laCmp (B : Nat) (s : Sl M.La) : Cmp := Cmp.row B 77 4 s.v s.l.length (cellsOf laL s.l)
def inCmp (B : Nat) (s : Sl Int) : Cmp := Cmp.row B 2 1 s.v s.l.length (cellsOf inL s.l)
def sfCmp (B : Nat) (s : Sl Wr) : Cmp := Cmp.sf B s.v s.l
def bkCs (B : Nat) (b : LBk) : List Cmp := [sfCmp B b.sf, laCmp B b.la]
def scCs (B : Nat) (s : LSc) : List Cmp := [enCmp B s.ro.en, sfCmp B s.kept.sf, laCmp B s.kept.la, inCmp B s.next, inCmp B s.mat, sfCmp B s.now.sf, laCmp B s.now.la]
/-- The scribe s in memory of its own from block B on. -/
abbrev ScOwn (B : Nat) (w : World) (s : LSc) : Prop := Has (scCs B s) w
structure ScParts (B : Nat) (w : World) (s : LSc) : Prop where
  en : EnsOwn B w s.ro.en.v s.ro.en.l
  ksf : SfOwn B w s.kept.sf.v s.kept.sf.l
  kla : LasOwn B w s.kept.la.v s.kept.la.l
  next : IntsOwn B w s.next.v s.next.l
  mat : IntsOwn B w s.mat.v s.mat.l
  nsf : SfOwn B w s.now.sf.v s.now.sf.l
  nla : LasOwn B w s.now.la.v s.now.la.l
theorem ScOwn.parts {B : Nat} {w : World} {s : LSc} (h : ScOwn B w s) : ScParts B w s :=
  ⟨h.all (enCmp B s.ro.en) (by simp [scCs]), h.all (sfCmp B s.kept.sf) (by simp [scCs]), h.all (laCmp B s.kept.la) (by simp [scCs]), h.all (inCmp B s.next) (by simp [scCs]), h.all (inCmp B s.mat) (by simp [scCs]), h.all (sfCmp B s.now.sf) (by simp [scCs]), h.all (laCmp B s.now.la) (by simp [scCs])⟩
theorem row_nil {B : Nat} {w : World} {t : TypeId} {k n c : Nat} {A : Option Addr} {C : List Value} (h : w.ownsRow B t k (.slice A n c) n C) : (A = none → c = 0) ∧ n ≤ c := by
  rcases h.2 with ⟨h0, h1⟩ | ⟨g, cap, cur, hv, _, _, hn, _⟩
  · injection h0 with a b c; subst c; exact ⟨fun _ => rfl, by omega⟩
  · injection hv with a b c; subst a c; exact ⟨fun e => (by cases e), hn⟩
/-- How large the texts and lists of a scribe are. -/
structure ScSmall (n : Nat) (s : M.Sc) : Prop where
  rol : s.ro.l.length ≤ n
  rot : ∀ e ∈ s.ro.l, enIn n e
  kl : s.kept.1.length ≤ n
  kt : ∀ k ∈ s.kept.1, k.name.size ≤ n ∧ k.copies.length ≤ n ∧ ∀ c ∈ k.copies, c.page.size ≤ n
  kal : s.kept.2.length ≤ n
  kat : ∀ c ∈ s.kept.2, laIn n c
  nx : s.next.length ≤ n
  ma : s.mat.length ≤ n
  nl : s.now.1.length ≤ n
  nt : ∀ k ∈ s.now.1, k.name.size ≤ n ∧ k.copies.length ≤ n ∧ ∀ c ∈ k.copies, c.page.size ≤ n
  nal : s.now.2.length ≤ n
  nat : ∀ c ∈ s.now.2, laIn n c
theorem wrsIn_of {n : Nat} {l : List Wr} (h : ∀ k ∈ l.map Wr.wk, k.name.size ≤ n ∧ k.copies.length ≤ n ∧ ∀ c ∈ k.copies, c.page.size ≤ n) : WrsIn n l := fun r hr => h r.wk (List.mem_map_of_mem hr)
theorem SfOwn.in {B n : Nat} {w : World} {s : Sl Wr} (h : SfOwn B w s.v s.l) (hl : (s.l.map Wr.wk).length ≤ n) (ht : ∀ k ∈ s.l.map Wr.wk, k.name.size ≤ n ∧ k.copies.length ≤ n ∧ ∀ c ∈ k.copies, c.page.size ≤ n) : Wks w s.ad s.l ∧ (∀ r ∈ s.l, r.ad = none → r.cap = 0) ∧ s.l.length ≤ n ∧ WrsIn n s.l :=
  ⟨h.wks.1, fun r hr => by
    obtain ⟨A, c, hv, _, hn⟩ := (h.2.1 r hr).open
    injection hv with a b c'
    rw [a, c']; exact hn, by simpa using hl, wrsIn_of ht⟩
theorem ScOwn.in {B n : Nat} {w : World} {s : LSc} (h : ScOwn B w s) (hs : ScSmall n s.d) : ScIn n w s := by
  obtain ⟨h1, h2, h3, h4, h5, h6, h7⟩ := h.parts
  obtain ⟨k1, k2, k3, k4⟩ := SfOwn.in h2 hs.kl hs.kt
  obtain ⟨n1, n2, n3, n4⟩ := SfOwn.in h6 hs.nl hs.nt
  have f1 := (own_flat (k := 10) (enc := enL) (fun _ => rfl) h1)
  have f3 := (own_flat (k := 4) (enc := laL) (fun _ => rfl) h3)
  have f4 := (own_flat (k := 1) (enc := inL) (fun _ => rfl) h4)
  have f5 := (own_flat (k := 1) (enc := inL) (fun _ => rfl) h5)
  have f7 := (own_flat (k := 4) (enc := laL) (fun _ => rfl) h7)
  obtain ⟨A1, c1, e1, -, g1⟩ := f1
  obtain ⟨A3, c3, e3, -, g3⟩ := f3
  obtain ⟨A4, c4, e4, -, g4⟩ := f4
  obtain ⟨A5, c5, e5, -, g5⟩ := f5
  obtain ⟨A7, c7, e7, -, g7⟩ := f7
  injection e1 with a1; injection e3 with a3; injection e4 with a4; injection e5 with a5; injection e7 with a7
  rw [← a1] at g1; rw [← a3] at g3; rw [← a4] at g4; rw [← a5] at g5; rw [← a7] at g7
  exact ⟨⟨g1, hs.rol, (row_nil h1).2, (row_nil h1).1, hs.rot⟩, ⟨k1, k2, k3, k4, g3, (row_nil h3).1, hs.kal, hs.kat⟩, ⟨g4, (row_nil h4).1, hs.nx⟩, ⟨g5, (row_nil h5).1, hs.ma⟩, ⟨n1, n2, n3, n4, g7, (row_nil h7).1, hs.nal, hs.nat⟩⟩
theorem wks_small {n : Nat} {l : List Wr} (h : WrsIn n l) : ∀ k ∈ l.map Wr.wk, k.name.size ≤ n ∧ k.copies.length ≤ n ∧ ∀ c ∈ k.copies, c.page.size ≤ n := fun k hk => by
  obtain ⟨r, hr, rfl⟩ := List.mem_map.1 hk
  exact h r hr
theorem ScIn.small {n : Nat} {w : World} {s : LSc} (h : ScIn n w s) : ScSmall n s.d :=
  ⟨h.ro.len, h.ro.txt, by show (s.kept.sf.l.map Wr.wk).length ≤ n; rw [List.length_map]; exact h.kept.sfl, wks_small h.kept.sft, h.kept.lal, h.kept.lat, h.next.len, h.mat.len, by show (s.now.sf.l.map Wr.wk).length ≤ n; rw [List.length_map]; exact h.now.sfl, wks_small h.now.sft, h.now.lal, h.now.lat⟩
def BkOut (w : World) (q : M.Bk) (e : Ending) (w' : World) : Prop := ∃ b : LBk, e = .returned b.v ∧ Has (bkCs w.heap.size b) w' ∧ b.d = q ∧ Below w.heap.size w w'
theorem book_laid {B : Nat} {w' : World} {q : M.Bk} {e : Ending} {v1 v2 : Value} {rs : List Wr} (he : e = .returned (.agg #[v1, v2])) (h1 : SfOwn B w' v1 rs) (h2 : rs.map Wr.wk = q.1) (h3 : LasOwn B w' v2 q.2) (h4 : ∀ g, v2.ownBlock = some g → ¬ blocksS v1 rs g) : ∃ b : LBk, e = .returned b.v ∧ Has (bkCs B b) w' ∧ b.d = q := by
  obtain ⟨A1, c1, rfl, -, -⟩ := h1.open
  obtain ⟨A2, c2, rfl, -, -⟩ := LasOwn.open h3
  refine ⟨⟨⟨A1, c1, rs⟩, ⟨A2, c2, q.2⟩⟩, he, Has.cons (c := sfCmp B ⟨A1, c1, rs⟩) h1 (Has.one (c := laCmp B ⟨A2, c2, q.2⟩) h3) (fun g hg hf => ?_), ?_⟩
  · rcases foot_cons.1 hf with hf | hf
    · exact h4 g hf hg
    · exact foot_nil hf
  · show (rs.map Wr.wk, q.2) = q
    rw [h2]
end Go.Proofs.Ytdoeiphnalbinaa
namespace Go.Proofs.Ytdoeiphnalbinaa
open Go.RowKit
set_option maxRecDepth 20000
/-- d asks no more than c. -/
structure Cmp.Le (c d : Cmp) : Prop where
  p : ∀ w, c.P w → d.P w
  e : ∀ g, d.E g → c.E g
/-- One by one. -/
def Les : List Cmp → List Cmp → Prop
  | [], [] => True
  | c :: cs, d :: ds => Cmp.Le c d ∧ Les cs ds
  | _, _ => False
theorem Les.mem : ∀ {cs ds : List Cmp}, Les cs ds → ∀ d ∈ ds, ∃ c ∈ cs, Cmp.Le c d
  | [], [], _ => by simp
  | c :: cs, d :: ds, h => by
    intro y hy
    rcases List.mem_cons.1 hy with rfl | hy
    · exact ⟨c, by simp, h.1⟩
    · obtain ⟨x, hx, hxy⟩ := Les.mem h.2 y hy
      exact ⟨x, List.mem_cons_of_mem _ hx, hxy⟩
  | [], _ :: _, h => h.elim
  | _ :: _, [], h => h.elim
theorem Les.off : ∀ {cs ds : List Cmp}, Les cs ds → cs.Pairwise Off → ds.Pairwise Off
  | [], [], _, _ => .nil
  | c :: cs, d :: ds, h, hp => by
    rw [List.pairwise_cons] at hp ⊢
    refine ⟨fun y hy g hg hyg => ?_, Les.off h.2 hp.2⟩
    obtain ⟨x, hx, hxy⟩ := Les.mem h.2 y hy
    exact hp.1 x hx g (h.1.e g hg) (hxy.e g hyg)
  | [], _ :: _, h, _ => h.elim
  | _ :: _, [], h, _ => h.elim
theorem Has.le {cs ds : List Cmp} {w : World} (h : Has cs w) (hl : Les cs ds) : Has ds w :=
  ⟨fun d hd => by
    obtain ⟨c, hc, hcd⟩ := hl.mem d hd
    exact hcd.p w (h.all c hc), hl.off h.off⟩
theorem row_le {B B' : Nat} (hB : B' ≤ B) (t : TypeId) (k : Nat) (v : Value) (n : Nat) (C : List Value) : Cmp.Le (Cmp.row B t k v n C) (Cmp.row B' t k v n C) := ⟨fun _ h => World.ownsRow.mono h hB, fun _ h => h⟩
theorem en_le {B B' : Nat} (hB : B' ≤ B) (s : Sl M.En) : Cmp.Le (enCmp B s) (enCmp B' s) := row_le hB _ _ _ _ _
theorem la_le {B B' : Nat} (hB : B' ≤ B) (s : Sl M.La) : Cmp.Le (laCmp B s) (laCmp B' s) := row_le hB _ _ _ _ _
theorem in_le {B B' : Nat} (hB : B' ≤ B) (s : Sl Int) : Cmp.Le (inCmp B s) (inCmp B' s) := row_le hB _ _ _ _ _
theorem sf_le {B B' : Nat} (hB : B' ≤ B) (s : Sl Wr) : Cmp.Le (sfCmp B s) (sfCmp B' s) := ⟨fun _ h => SfOwn.mono h hB, fun _ h => h⟩
theorem bk_le {B B' : Nat} (hB : B' ≤ B) (b : LBk) : Les (bkCs B b) (bkCs B' b) := ⟨sf_le hB _, la_le hB _, trivial⟩
theorem sc_le {B B' : Nat} (hB : B' ≤ B) (s : LSc) : Les (scCs B s) (scCs B' s) :=
  ⟨en_le hB _, sf_le hB _, la_le hB _, in_le hB _, in_le hB _, sf_le hB _, la_le hB _, trivial⟩
theorem ScOwn.mono {B B' : Nat} {w : World} {s : LSc} (h : ScOwn B w s) (hB : B' ≤ B) : ScOwn B' w s := Has.le h (sc_le hB s)
theorem bkCs_base (B : Nat) (b : LBk) : ∀ c ∈ bkCs B b, B ≤ c.base := by
  intro c hc
  simp only [bkCs, List.mem_cons, List.not_mem_nil, or_false] at hc
  rcases hc with rfl | rfl <;> exact Nat.le_refl _

/-- All from block B on. -/
def From (B : Nat) (cs : List Cmp) : Prop := ∀ c ∈ cs, B ≤ c.base
theorem From.append {B : Nat} {cs ds : List Cmp} (h : From B cs) (k : From B ds) : From B (cs ++ ds) := fun c hc => (List.mem_append.1 hc).elim (h c) (k c)
theorem From.mono {B B' : Nat} {cs : List Cmp} (h : From B cs) (hB : B' ≤ B) : From B' cs := fun c hc => Nat.le_trans hB (h c hc)

theorem from_en (B : Nat) (s : Sl M.En) : From B [enCmp B s] := fun c hc => by simp at hc; subst hc; exact Nat.le_refl _
theorem from_bk (B : Nat) (b : LBk) : From B (bkCs B b) := bkCs_base B b
theorem Les.foot {cs ds : List Cmp} (h : Les cs ds) {g : Nat} (hg : foot ds g) : foot cs g := by
  obtain ⟨d, hd, he⟩ := hg
  obtain ⟨c, hc, hcd⟩ := h.mem d hd
  exact ⟨c, hc, hcd.e g he⟩
/-- What is there, and what a call has made, told from a lower block on. -/
theorem Has.join {cs ds ds' : List Cmp} {w w' : World} (h : Has cs w) (hb : Below w.heap.size w w') (k : Has ds w') (hk : From w.heap.size ds) (hl : Les ds ds') : Has (cs ++ ds') w' :=
  (h.below hb).append (k.le hl) (fun g h1 h2 => by have := h.lt h1; have := k.ge hk (hl.foot h2); omega)
theorem Has.set1 {cs : List Cmp} {w : World} {g B : Nat} (h : Has cs w) (hB : From B cs) (hg : g < B) (i : Nat) (a : Value) : Has cs (w.setCell ⟨g, i, none⟩ a) := h.setLow hB hg i a
theorem Has.set2 {cs : List Cmp} {w : World} {g B : Nat} (h : Has cs w) (hB : From B cs) (hg : g < B) (i j : Nat) (a b : Value) : Has cs ((w.setCell ⟨g, i, none⟩ a).setCell ⟨g, j, none⟩ b) := (h.setLow hB hg i a).setLow hB hg j b
section
variable {w0 x : World} {R : Nat} {s : LSc} {hs : List (Nat × Array Value)} {ls : List Nat}
end
theorem mem_swap {w0 x : World} {a b : Nat × Array Value} {hs : List (Nat × Array Value)} {ls : List Nat} (h : Mem w0 (a :: b :: hs) ls x) : Mem w0 (b :: a :: hs) ls x :=
  ⟨h.1, fun p hp => h.2.1 p (by
    rcases List.mem_cons.1 hp with rfl | hp
    · simp
    · rcases List.mem_cons.1 hp with rfl | hp
      · simp
      · simp [hp]), h.2.2⟩
end Go.Proofs.Ytdoeiphnalbinaa
namespace Go.Proofs.Ytdoeiphnalbinaa
open Go.RowKit

structure LLt where
  kind : Int
  frm : Int
  dst : Int
  reign : Int
  index : Int
  mark : Int
  en : Sl M.En
  commit : Int
  yes : Bool
  bk : LBk
namespace M
structure Lt where
  kind : Int
  frm : Int
  dst : Int
  reign : Int
  index : Int
  mark : Int
  list : List En
  commit : Int
  yes : Bool
  book : Bk
end M
def LLt.d (s : LLt) : M.Lt := ⟨s.kind, s.frm, s.dst, s.reign, s.index, s.mark, s.en.l, s.commit, s.yes, s.bk.d⟩
abbrev ltA (s : LLt) : Array Value := #[.int .i64 s.kind, .int .i64 s.frm, .int .i64 s.dst, .int .i64 s.reign, .int .i64 s.index, .int .i64 s.mark, s.en.v, .int .i64 s.commit, .bool s.yes, s.bk.sf.v, s.bk.la.v]
abbrev ltV (s : LLt) : Value := .agg (ltA s)
/-- A list of entries can be read, and is of at most n. -/
structure ErIn (n : Nat) (w : World) (s : Sl M.En) : Prop where
  en : Ens w s.ad s.l
  len : s.l.length ≤ n
  cap : s.l.length ≤ s.cap
  none : s.ad = .none → s.cap = 0
  txt : ∀ e ∈ s.l, enIn n e
structure LtIn (n : Nat) (w : World) (s : LLt) : Prop where
  en : ErIn n w s.en
  bk : BkIn n w s.bk
theorem ErIn.below {n : Nat} {w w' : World} {s : Sl M.En} (h : ErIn n w s) (hb : Below w.heap.size w w') : ErIn n w' s := { h with en := h.en.below hb }
theorem LtIn.below {n : Nat} {w w' : World} {s : LLt} (h : LtIn n w s) (hb : Below w.heap.size w w') : LtIn n w' s := ⟨h.en.below hb, h.bk.below hb⟩
/-- The components of a letter. -/
def ltCs (B : Nat) (s : LLt) : List Cmp := [enCmp B s.en, sfCmp B s.bk.sf, laCmp B s.bk.la]
abbrev LtOwn (B : Nat) (w : World) (s : LLt) : Prop := Has (ltCs B s) w
theorem lt_le {B B' : Nat} (hB : B' ≤ B) (s : LLt) : Les (ltCs B s) (ltCs B' s) := ⟨en_le hB _, sf_le hB _, la_le hB _, trivial⟩
theorem LtOwn.mono {B B' : Nat} {w : World} {s : LLt} (h : LtOwn B w s) (hB : B' ≤ B) : LtOwn B' w s := Has.le h (lt_le hB s)
/-- How large the texts and lists of a letter are. -/
structure LtSmall (n : Nat) (s : M.Lt) : Prop where
  enl : s.list.length ≤ n
  ent : ∀ e ∈ s.list, enIn n e
  kl : s.book.1.length ≤ n
  kt : ∀ k ∈ s.book.1, k.name.size ≤ n ∧ k.copies.length ≤ n ∧ ∀ c ∈ k.copies, c.page.size ≤ n
  kal : s.book.2.length ≤ n
  kat : ∀ c ∈ s.book.2, laIn n c
theorem LtOwn.in {B n : Nat} {w : World} {s : LLt} (h : LtOwn B w s) (hs : LtSmall n s.d) : LtIn n w s := by
  have h1 : EnsOwn B w s.en.v s.en.l := h.all (enCmp B s.en) (by simp [ltCs])
  have h2 : SfOwn B w s.bk.sf.v s.bk.sf.l := h.all (sfCmp B s.bk.sf) (by simp [ltCs])
  have h3 : LasOwn B w s.bk.la.v s.bk.la.l := h.all (laCmp B s.bk.la) (by simp [ltCs])
  obtain ⟨k1, k2, k3, k4⟩ := SfOwn.in h2 hs.kl hs.kt
  have f1 := (own_flat (k := 10) (enc := enL) (fun _ => rfl) h1)
  have f3 := (own_flat (k := 4) (enc := laL) (fun _ => rfl) h3)
  obtain ⟨A1, c1, e1, -, g1⟩ := f1
  obtain ⟨A3, c3, e3, -, g3⟩ := f3
  injection e1 with a1; injection e3 with a3
  rw [← a1] at g1; rw [← a3] at g3
  exact ⟨⟨g1, hs.enl, (row_nil h1).2, (row_nil h1).1, hs.ent⟩, ⟨k1, k2, k3, k4, g3, (row_nil h3).1, hs.kal, hs.kat⟩⟩
theorem LtIn.small {n : Nat} {w : World} {s : LLt} (h : LtIn n w s) : LtSmall n s.d :=
  ⟨h.en.len, h.en.txt, by show (s.bk.sf.l.map Wr.wk).length ≤ n; rw [List.length_map]; exact h.bk.sfl, wks_small h.bk.sft, h.bk.lal, h.bk.lat⟩
/-- What answers a letter. -/
def LtRet (w : World) (q : M.Lt) (e : Ending) (w' : World) : Prop := ∃ s : LLt, e = .returned (ltV s) ∧ LtOwn w.heap.size w' s ∧ s.d = q ∧ Below w.heap.size w w'
theorem Has.set11 {cs : List Cmp} {w : World} {g B : Nat} (h : Has cs w) (hB : From B cs) (hg : g < B) (a0 a1 a2 a3 a4 a5 a6 a7 a8 a9 a10 : Value) : Has cs (((((((((((w.setCell ⟨g, 0, none⟩ a0).setCell ⟨g, 1, none⟩ a1).setCell ⟨g, 2, none⟩ a2).setCell ⟨g, 3, none⟩ a3).setCell ⟨g, 4, none⟩ a4).setCell ⟨g, 5, none⟩ a5).setCell ⟨g, 6, none⟩ a6).setCell ⟨g, 7, none⟩ a7).setCell ⟨g, 8, none⟩ a8).setCell ⟨g, 9, none⟩ a9).setCell ⟨g, 10, none⟩ a10) :=
  (Has.setLow (Has.setLow (Has.setLow (Has.setLow (Has.setLow (Has.setLow (Has.setLow (Has.setLow (Has.setLow (Has.setLow (Has.setLow h hB hg 0 a0) hB hg 1 a1) hB hg 2 a2) hB hg 3 a3) hB hg 4 a4) hB hg 5 a5) hB hg 6 a6) hB hg 7 a7) hB hg 8 a8) hB hg 9 a9) hB hg 10 a10)
theorem Mem.put11 {w0 w : World} {g : Nat} {c0 c1 c2 c3 c4 c5 c6 c7 c8 c9 c10 : Value} {hs : List (Nat × Array Value)} {ls : List Nat} (h : Mem w0 ((g, #[c0, c1, c2, c3, c4, c5, c6, c7, c8, c9, c10]) :: hs) ls w) (hg : w0.heap.size ≤ g) (hn : ∀ p ∈ hs, p.1 ≠ g) (a0 a1 a2 a3 a4 a5 a6 a7 a8 a9 a10 : Value) : Mem w0 ((g, #[a0, a1, a2, a3, a4, a5, a6, a7, a8, a9, a10]) :: hs) ls (((((((((((w.setCell ⟨g, 0, none⟩ a0).setCell ⟨g, 1, none⟩ a1).setCell ⟨g, 2, none⟩ a2).setCell ⟨g, 3, none⟩ a3).setCell ⟨g, 4, none⟩ a4).setCell ⟨g, 5, none⟩ a5).setCell ⟨g, 6, none⟩ a6).setCell ⟨g, 7, none⟩ a7).setCell ⟨g, 8, none⟩ a8).setCell ⟨g, 9, none⟩ a9).setCell ⟨g, 10, none⟩ a10) := by
  have := (Mem.put (Mem.put (Mem.put (Mem.put (Mem.put (Mem.put (Mem.put (Mem.put (Mem.put (Mem.put (Mem.put h hg hn 0 a0) hg hn 1 a1) hg hn 2 a2) hg hn 3 a3) hg hn 4 a4) hg hn 5 a5) hg hn 6 a6) hg hn 7 a7) hg hn 8 a8) hg hn 9 a9) hg hn 10 a10)
  simpa only [List.setIfInBounds_toArray, List.set_cons_zero, List.set_cons_succ] using this
end Go.Proofs.Ytdoeiphnalbinaa
namespace Go.Proofs.Ytdoeiphnalbinaa
open Go.RowKit
theorem own_set {B g : Nat} {w : World} {t : TypeId} {kk n : Nat} {v : Value} {C : List Value} (h : w.ownsRow B t kk v n C) (hg : g < B) (i : Nat) (u : Value) : (w.setCell ⟨g, i, none⟩ u).ownsRow B t kk v n C := by
  obtain ⟨hl, h0 | ⟨k, cap, cur, rfl, hb, hh, hr⟩⟩ := h
  · exact ⟨hl, .inl h0⟩
  · exact ⟨hl, .inr ⟨k, cap, cur, rfl, hb, (Below.heap_setCell _ _ _ _ (by show k ≠ g; omega)).trans hh, hr⟩⟩
theorem SfOwn.set {B g : Nat} {w : World} {v : Value} {l : List Wr} (h : SfOwn B w v l) (hg : g < B) (i : Nat) (u : Value) : SfOwn B (w.setCell ⟨g, i, none⟩ u) v l :=
  ⟨own_set h.1 hg i u, fun r hr => own_set (h.2.1 r hr) hg i u, h.2.2⟩
end Go.Proofs.Ytdoeiphnalbinaa
namespace Go.Proofs.Ytdoeiphnalbinaa
open Go.RowKit

set_option maxHeartbeats 1000000 in
theorem szWorkS_small (A : Option Addr) (l : List Wr) (cap : Nat) (n : Int) (w : World) (h1 : n ≤ 1048576) (hl : Wks w A l) (h : (l.length + szWrs l : Int) ≤ n) :
    Calls Try.prog 23 #[.slice A l.length cap, .int .i64 n] w fun r w' => r = .returned (.int .i64 (n - l.length - szWrs l)) ∧ Below w.heap.size w w' := by
  go_enter Try.func23, Try.ntmps23
  go_wp2
  go_loopw [1, 5] (fun x i wr => ∃ j : Nat, i = .int .i64 j ∧ j ≤ l.length ∧ x = .int .i64 (n - l.length - szWrs (l.take j)) ∧ Wks wr A l ∧ Below w.heap.size w wr) (fun _ i _ => l.length - (intOf i).toNat)
  case atStart => exact ⟨0, rfl, Nat.zero_le _, by simp [szWrs], hl, Below.refl _ _⟩
  case round =>
    obtain ⟨j, rfl, hj, rfl, hl', hb⟩ := hrel
    have hle := szWrs_take_le l j
    by_cases hlt : j < l.length
    · have hs := szWrs_take l j hlt
      have hle' := szWrs_take_le l (j + 1)
      have HS := Lib.hid hs
      have hp : (szWr l[j] : Int) ≤ n - l.length - szWrs (l.take j) := by omega
      have HP := Lib.hid hp
      clear hs hp
      obtain ⟨b, o, rfl, hbl, c0, c1, c2, hc⟩ := Wks_at hl' hlt
      have HC := Lib.hid hc
      clear hc
      go_wp2_with fail
      refine (szWork_small l[j].name l[j].owner l[j].ad l[j].cps l[j].cap _ _ (by omega) HC.out (by have := HP.out; unfold szWr at this; omega)).mono ?_
      rintro r w1 ⟨rfl, b1⟩
      have h0 : 0 ≤ n - (l.length : Int) - (szWrs (l.take j) : Int) - (l[j].name.size : Int) - (l[j].cps.length : Int) - (M.szPages l[j].cps : Int) := by have := HP.out; unfold szWr at this; omega
      go_wp2
      go_roundw
      case rel => exact ⟨j + 1, by go_num, by omega, by rw [HS.out]; unfold szWr; go_num, hl'.below b1, next hb b1⟩
      case measure => simp [intOf]; omega
    · have hj' : j = l.length := by omega
      subst hj'
      go_wp2
      go_ret
      exact ⟨ret_int (by rw [List.take_length]), hb⟩

set_option maxHeartbeats 1000000 in
theorem szWorkS_big (A : Option Addr) (l : List Wr) (cap : Nat) (n : Int) (w : World) (h0 : 0 ≤ n) (h1 : n ≤ 1048576) (hl : Wks w A l) (hlen : l.length ≤ maxLen) (hp : WrsIn maxLen l) (h : n < (l.length + szWrs l : Int)) :
    Calls Try.prog 23 #[.slice A l.length cap, .int .i64 n] w fun r w' => r = .returned (.int .i64 (-1)) ∧ Below w.heap.size w w' := by
  unfold maxLen at hlen
  by_cases hshort : n < l.length
  · go_enter Try.func23, Try.ntmps23
    go_wp2
    go_ret
    exact ⟨rfl, Below.refl _ _⟩
  · go_enter Try.func23, Try.ntmps23
    go_wp2
    go_loopw [1, 5] (fun x i wr => ∃ j : Nat, i = .int .i64 j ∧ j ≤ l.length ∧ (szWrs (l.take j) : Int) ≤ n - l.length ∧ x = .int .i64 (n - l.length - szWrs (l.take j)) ∧ Wks wr A l ∧ Below w.heap.size w wr) (fun _ i _ => l.length - (intOf i).toNat)
    case atStart => exact ⟨0, rfl, Nat.zero_le _, by simp [szWrs]; omega, by simp [szWrs], hl, Below.refl _ _⟩
    case round =>
      obtain ⟨j, rfl, hj, hle, rfl, hl', hb⟩ := hrel
      by_cases hlt : j < l.length
      · have HS := Lib.hid (szWrs_take l j hlt)
        have HPJ := Lib.hid (hp l[j] (List.getElem_mem hlt))
        obtain ⟨b, o, rfl, hbl, c0, c1, c2, hc⟩ := Wks_at hl' hlt
        have HC := Lib.hid hc
        clear hc
        by_cases hfit : (szWr l[j] : Int) ≤ n - l.length - szWrs (l.take j)
        · have HP := Lib.hid hfit
          clear hfit
          go_wp2_with fail
          refine (szWork_small l[j].name l[j].owner l[j].ad l[j].cps l[j].cap _ _ (by omega) HC.out (by have := HP.out; unfold szWr at this; omega)).mono ?_
          rintro r w1 ⟨rfl, b1⟩
          have h0 : 0 ≤ n - (l.length : Int) - (szWrs (l.take j) : Int) - (l[j].name.size : Int) - (l[j].cps.length : Int) - (M.szPages l[j].cps : Int) := by have := HP.out; unfold szWr at this; omega
          go_wp2
          go_roundw
          case rel => exact ⟨j + 1, by go_num, by omega, by have := HP.out; rw [HS.out]; simp; omega, by rw [HS.out]; unfold szWr; go_num, hl'.below b1, next hb b1⟩
          case measure => simp [intOf]; omega
        · have HP : Hid (n - l.length - szWrs (l.take j) < (szWr l[j] : Int)) := Lib.hid (by omega)
          clear hfit
          go_wp2_with fail
          refine (szWork_big l[j].name l[j].owner l[j].ad l[j].cps l[j].cap _ _ (by omega) (by omega) HC.out HPJ.out.1 HPJ.out.2.1 HPJ.out.2.2 (by have := HP.out; unfold szWr at this; omega)).mono ?_
          rintro r w1 ⟨rfl, b1⟩
          go_wp2
          go_ret
          exact ⟨rfl, next hb b1⟩
      · have hj' : j = l.length := by omega
        subst hj'
        rw [List.take_length] at hle
        omega
end Go.Proofs.Ytdoeiphnalbinaa
namespace Go.Proofs.Ytdoeiphnalbinaa
open Go.RowKit
set_option maxRecDepth 20000

theorem wk_at {l m : List Wr} (h : l.map Wr.wk = m.map Wr.wk) {j : Nat} (hl : j < l.length) (hm : j < m.length) : l[j].name = m[j].name ∧ l[j].owner = m[j].owner ∧ l[j].cps = m[j].cps := by
  have h1 : (l.map Wr.wk)[j]'(by simpa using hl) = (m.map Wr.wk)[j]'(by simpa using hm) := by simp only [h]
  simp only [List.getElem_map, Wr.wk] at h1
  injection h1 with a b c
  exact ⟨a, b, c⟩

set_option maxHeartbeats 1000000 in
theorem eqWorkS_same (A B : Option Addr) (l m : List Wr) (ca cb : Nat) (w : World) (ha : Wks w A l) (hb : Wks w B m) (he : l.map Wr.wk = m.map Wr.wk) (hlen : l.length ≤ maxLen) (hp : WrsIn maxLen l) :
    Calls Try.prog 29 #[.slice A l.length ca, .slice B m.length cb] w fun r w' => r = .returned (.bool true) ∧ Below w.heap.size w w' := by
  have hml : m.length = l.length := by have := congrArg List.length he; simpa using this.symm
  rw [hml]
  unfold maxLen at hlen
  have HP := Lib.hid hp
  have HM := Lib.hid hml
  have HE := Lib.hid he
  clear hp hml he
  have he : ((l.length : Int) != (l.length : Int)) = false := by simp
  go_enter Try.func29, Try.ntmps29
  go_wp2
  go_loopw [5] (fun i wr => ∃ j : Nat, i = .int .i64 j ∧ j ≤ l.length ∧ Below w.heap.size w wr) (fun i _ => l.length - (intOf i).toNat)
  case atStart => exact ⟨0, rfl, Nat.zero_le _, Below.refl _ _⟩
  case round =>
    obtain ⟨j, rfl, hj, hbl⟩ := hrel
    by_cases hlt : j < l.length
    · have hltm : j < m.length := by have := HM.out; omega
      obtain ⟨b, o, rfl, _, c0, c1, c2, hc⟩ := Wks_at (ha.below hbl) hlt
      obtain ⟨b', o', rfl, _, d0, d1, d2, hd⟩ := Wks_at (hb.below hbl) hltm
      obtain ⟨e1, e2, e3⟩ := wk_at HE.out hlt hltm
      rw [← e1] at d0
      rw [← e2] at d1
      rw [← e3] at d2 hd
      have HA := Lib.hid ha
      have HB := Lib.hid hb
      have HC := Lib.hid hc
      have HD := Lib.hid hd
      clear ha hb hc hd e1 e2 e3
      go_wp2_with fail
      go_still_tail 8, (by kernel_rfl)
      change wpList _ _ _ _ _ wr.drew
      go_wp2_with fail
      refine (eqWork_same l[j].name l[j].owner l[j].ad m[j].ad l[j].cps l[j].cap m[j].cap _ (show Cps wr.drew _ _ from HC.out) (show Cps wr.drew _ _ from HD.out) (HP.out _ (List.getElem_mem hlt)).2.1).mono ?_
      rintro r w1 ⟨rfl, b1⟩
      go_wp2
      go_roundw
      case rel => exact ⟨j + 1, by go_num, by omega, next hbl.drew b1⟩
      case measure => simp [intOf]; omega
    · have hj' : j = l.length := by omega
      subst hj'
      go_wp2
      go_ret
      exact ⟨rfl, hbl⟩
end Go.Proofs.Ytdoeiphnalbinaa
