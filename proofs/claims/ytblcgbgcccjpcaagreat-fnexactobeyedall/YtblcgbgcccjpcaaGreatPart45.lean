/- Proved, in parts: Proved: how the law on Ordered holds its books in memory, and what writes elsewhere leave of them; what an order leaves is small. No program's function is named here; no condition. Proved: how many entries' answer stands in memory. No program's function is named here; no condition. Proved: the program's obeyed answers a plain Lean function, and leaves the book as it tells; so does its Obeyed, its book in new memory. Condition: texts and lists of at most a million. -/
import Derived.Test.YtblcgbgcccjpcaaGreatPart42
import Derived.Test.YtblcgbgcccjpcaaGreatPart43
import Derived.Test.YtblcgbgcccjpcaaGreatPart44
import Derived.Test.YtblcgbgcccjpcaaGreatPart31
namespace Go.Proofs.YtblcgbgcccjpcaaGreat
open Go.RowKit
set_option maxRecDepth 20000
namespace M
theorem laFor_len (l : List La) (c : Int) : (laFor l c).length ≤ l.length + 1 := by
  unfold laFor
  split
  · omega
  · rw [putLa_len _ _ _ (laPlace_le l c)]
    exact Nat.le_refl _
theorem ord_ok (b : Bk) (o : Or) : sfOk (ordered b o).1.1 = true ∧ (ordered b o).1.2.length ≤ 5 := by
  unfold ordered
  split
  · rename_i h
    simp only [bkOk, Bool.and_eq_true] at h
    have h4 := lasOk_len h.2
    have h5 := laFor_len b.2 o.client
    unfold ordI
    split
    · unfold ordT
      split
      · split
        · exact ⟨h.1, by show (laFor b.2 o.client).length ≤ 5; omega⟩
        · split
          · exact ⟨keptD_ok h.1, by show ((laFor b.2 o.client).set _ _).length ≤ 5; rw [List.length_set]; omega⟩
          · exact ⟨h.1, by show (laFor b.2 o.client).length ≤ 5; omega⟩
      · exact ⟨h.1, by show (laFor b.2 o.client).length ≤ 5; omega⟩
    · exact ⟨h.1, by show b.2.length ≤ 5; omega⟩
  · exact ⟨rfl, by show ([] : List La).length ≤ 5; simp⟩
end M
theorem ord_small {b : M.Bk} {o : M.Or} {r : List Wr} (h : r.map Wr.wk = (M.ordered b o).1.1) : r.length ≤ 5 ∧ WrsIn 12 r := wrs_ok (h ▸ (M.ord_ok b o).1)
/-- A box with a book of one's own. -/
structure BB (B : Nat) (x : World) (G : Nat) (A1 : Option Addr) (c1 : Nat) (A2 : Option Addr) (c2 : Nat) (rs : List Wr) (ls : List M.La) : Prop where
  box : Holds x G (bkA A1 rs.length c1 A2 ls.length c2)
  sf : SfOwn B x (.slice A1 rs.length c1) rs
  la : LasOwn B x (.slice A2 ls.length c2) ls
theorem BB.below {B G c1 c2 : Nat} {x y : World} {A1 A2 : Option Addr} {rs : List Wr} {ls : List M.La} (h : BB B x G A1 c1 A2 c2 rs ls) (hb : Below x.heap.size x y) : BB B y G A1 c1 A2 c2 rs ls := ⟨h.box.below hb, h.sf.below hb, LasOwn.below h.la hb⟩
theorem BB.touch {S : Nat → Prop} {B G c1 c2 : Nat} {x y : World} {A1 A2 : Option Addr} {rs : List Wr} {ls : List M.La} (h : BB B x G A1 c1 A2 c2 rs ls) (ht : TouchS S x y) (hG : ¬ S G) (hne : ∀ g, blocksB (.slice A1 rs.length c1) (.slice A2 ls.length c2) rs g → ¬ S g) : BB B y G A1 c1 A2 c2 rs ls :=
  ⟨ht.holds h.box hG, ht.sf h.sf (fun g hg => hne g (.inl hg)), ht.row h.la (fun g hg => hne g (.inr hg))⟩
theorem BB.ge {B G c1 c2 : Nat} {x : World} {A1 A2 : Option Addr} {rs : List Wr} {ls : List M.La} (h : BB B x G A1 c1 A2 c2 rs ls) {g : Nat} (hg : blocksB (.slice A1 rs.length c1) (.slice A2 ls.length c2) rs g) : B ≤ g ∧ g < x.heap.size := by
  rcases hg with hg | hg
  · exact h.sf.ge hg
  · exact World.ownsRow.lt h.la g hg
theorem BB.las {B G c1 c2 : Nat} {x : World} {A1 A2 : Option Addr} {rs : List Wr} {ls : List M.La} (h : BB B x G A1 c1 A2 c2 rs ls) : Las x A2 ls := las_of h.la
/-- v is a copy of a book, to be given away. -/
def BkArg (l : List Wr) (m : List M.La) (v : Value) (x : World) : Prop :=
  ∃ (rs : List Wr) (g1 g2 : Nat), v = bkV (some ⟨g1, 0, none⟩) rs.length rs.length (some ⟨g2, 0, none⟩) m.length m.length ∧ rs.map Wr.wk = l.map Wr.wk ∧ rs.length = l.length ∧ (∀ r ∈ rs, r.ad ≠ none ∧ r.cap = r.cps.length) ∧ Wks x (some ⟨g1, 0, none⟩) rs ∧ Las x (some ⟨g2, 0, none⟩) m
theorem BkArg.below {l : List Wr} {m : List M.La} {v : Value} {x y : World} (h : BkArg l m v x) (hb : Below x.heap.size x y) : BkArg l m v y := by
  obtain ⟨rs, g1, g2, e, h1, h2, h3, h4, h5⟩ := h
  exact ⟨rs, g1, g2, e, h1, h2, h3, h4.below hb, h5.below hb⟩
/-- v is a book and a reply, E the book's blocks. -/
def BkRes (B : Nat) (q : M.Bk × M.Rp) (v : Value) (E : Nat → Prop) (x : World) : Prop :=
  ∃ A1 c1 A2 c2 rs, v = .tuple #[bkV A1 rs.length c1 A2 q.1.2.length c2, rpV q.2.1 q.2.2] ∧ SfOwn B x (.slice A1 rs.length c1) rs ∧ rs.map Wr.wk = q.1.1 ∧ LasOwn B x (.slice A2 q.1.2.length c2) q.1.2 ∧ (∀ g, (Value.slice A2 q.1.2.length c2).ownBlock = some g → ¬ blocksS (.slice A1 rs.length c1) rs g) ∧ ∀ g, E g ↔ blocksB (.slice A1 rs.length c1) (.slice A2 q.1.2.length c2) rs g
theorem BkRes.below {B : Nat} {q : M.Bk × M.Rp} {v : Value} {E : Nat → Prop} {x y : World} (h : BkRes B q v E x) (hb : Below x.heap.size x y) : BkRes B q v E y := by
  obtain ⟨A1, c1, A2, c2, rs, e, h1, h2, h3, h4, h5⟩ := h
  exact ⟨A1, c1, A2, c2, rs, e, h1.below hb, h2, LasOwn.below h3 hb, h4, h5⟩
/-- s points to a new box that holds C and may be written, E its block. -/
def NewBox (C : Array Value) (v : Value) (E : Nat → Prop) (x : World) : Prop :=
  ∃ g, v = .pointer (some ⟨g, 0, none⟩) ∧ Holds x g C ∧ Loose x g ∧ ∀ k, E k ↔ k = g
theorem NewBox.below {C : Array Value} {v : Value} {E : Nat → Prop} {x y : World} (h : NewBox C v E x) (hb : Below x.heap.size x y) : NewBox C v E y := by
  obtain ⟨g, e, h1, h2, h3⟩ := h
  exact ⟨g, e, h1.below hb, h2.below h1.1 hb, h3⟩
theorem OrRet.res {w y : World} {B : Nat} {q : M.Bk × M.Rp} {r : Ending} (h : OrRet w q r y) (hB : B ≤ w.heap.size) : ∃ v E, r = .returned v ∧ BkRes B q v E y ∧ Below w.heap.size w y ∧ ∀ g, E g → w.heap.size ≤ g ∧ g < y.heap.size := by
  obtain ⟨v1, v2, rs, e, h1, h2, h3, h4, h5⟩ := h
  obtain ⟨A1, c1, rfl, -, -⟩ := h1.open
  obtain ⟨A2, c2, rfl, -, -⟩ := LasOwn.open h3
  refine ⟨_, blocksB (.slice A1 rs.length c1) (.slice A2 q.1.2.length c2) rs, e, ⟨A1, c1, A2, c2, rs, rfl, h1.mono hB, h2, LasOwn.mono h3 hB, h4, fun g => Iff.rfl⟩, h5, fun g hg => ?_⟩
  rcases hg with hg | hg
  · exact h1.ge hg
  · exact World.ownsRow.lt h3 g hg
/-- Where a statement 'b, r := Ordered(..)' leaves its two boxes. -/
def OrdBox (W0 : World) (q : M.Bk × M.Rp) (s t : Value) (x : World) : Prop :=
  ∃ (A1 : Option Addr) (c1 : Nat) (A2 : Option Addr) (c2 : Nat) (rs : List Wr) (G H : Nat), s = .pointer (some ⟨G, 0, none⟩) ∧ t = .pointer (some ⟨H, 0, none⟩) ∧ W0.heap.size ≤ G ∧ W0.heap.size ≤ H ∧ G ≠ H ∧ Below W0.heap.size W0 x ∧ BB W0.heap.size x G A1 c1 A2 c2 rs q.1.2 ∧ Holds x H (rpA q.2.1 q.2.2) ∧ rs.map Wr.wk = q.1.1 ∧ (∀ g, (Value.slice A2 q.1.2.length c2).ownBlock = some g → ¬ blocksS (.slice A1 rs.length c1) rs g) ∧ ¬ blocksB (.slice A1 rs.length c1) (.slice A2 q.1.2.length c2) rs G ∧ ¬ blocksB (.slice A1 rs.length c1) (.slice A2 q.1.2.length c2) rs H
/-- The links between the values of such a statement: what is moved, and its two parts. -/
def relOrd (k : Nat) (i : Nat) (v r : Value) : Prop := if i = k then r = v else if i = k + 1 then ∃ a b, v = .tuple #[a, b] ∧ r = a else ∃ a b, v = .tuple #[a, b] ∧ r = b
def lkOrd (k : Nat) (i : Nat) : Option Nat := if i = k then some (k - 1) else if i = k + 1 then some k else if i = k + 2 then some k else none
theorem implOrdered_at (l : List Wr) (m : List M.La) (o : M.Or) (v : Value) (w : World) (h : BkArg l m v w) (hlen : l.length ≤ 1048576) (hp : WrsIn 1048576 l) (hml : m.length ≤ 1048576) (hmp : ∀ c ∈ m, laIn 1048576 c) (hn : o.deed.name.size ≤ 1048576) (hpg : o.deed.page.size ≤ 1048576) :
    Calls Tryz.prog 17 #[v, orV o] w (OrRet w (M.ordered (l.map Wr.wk, m) o)) := by
  obtain ⟨rs, g1, g2, rfl, h1, h2, h3, h4, h5⟩ := h
  rw [← h1]
  exact implOrdered _ rs _ _ m _ o w h4 (by omega) (wrs_eq h1 hp) h5 hml hmp hn hpg
theorem specOrdered_at (l : List Wr) (m : List M.La) (o : M.Or) (v : Value) (w : World) (h : BkArg l m v w) (hlen : l.length ≤ 1048576) (hp : WrsIn 1048576 l) (hml : m.length ≤ 1048576) (hn : o.deed.name.size ≤ 1048576) (hpg : o.deed.page.size ≤ 1048576) :
    Calls Tryz.prog 20 #[v, orV o] w (OrRet w (M.ordered (l.map Wr.wk, m) o)) := by
  obtain ⟨rs, g1, g2, rfl, h1, h2, h3, h4, h5⟩ := h
  rw [← h1]
  exact specOrdered _ rs _ _ m _ o w h4 (fun r hr e => absurd e (h3 r hr).1) (by omega) (wrs_eq h1 hp) h5 (fun e => by cases e) hml hn hpg
theorem toBook_at (A : Option Addr) (l : List Wr) (cap : Nat) (B : Option Addr) (m : List M.La) (cb : Nat) (w : World) (hl : Wks w A l) (hlen : l.length ≤ 1048576) (hp : WrsIn 1048576 l) (hml : Las w B m) (hmlen : m.length ≤ 1048576) :
    Calls Tryz.prog 44 #[bkV A l.length cap B m.length cb] w fun r w' => ∃ (rs : List Wr) (gA gB : Nat), r = .returned (bkV (some ⟨gA, 0, none⟩) rs.length rs.length (some ⟨gB, 0, none⟩) m.length m.length) ∧ rs.map Wr.wk = l.map Wr.wk ∧ rs.length = l.length ∧ BkArg l m (bkV (some ⟨gA, 0, none⟩) rs.length rs.length (some ⟨gB, 0, none⟩) m.length m.length) w' ∧ SfOwn w.heap.size w' (.slice (some ⟨gA, 0, none⟩) rs.length rs.length) rs ∧ LasOwn w.heap.size w' (.slice (some ⟨gB, 0, none⟩) m.length m.length) m ∧ (∀ g, (Value.slice (some ⟨gB, 0, none⟩) m.length m.length).ownBlock = some g → ¬ blocksS (.slice (some ⟨gA, 0, none⟩) rs.length rs.length) rs g) ∧ Below w.heap.size w w' :=
  (toBook_any A l cap B m cb w hl hlen hp hml hmlen).mono fun r w' ⟨v, rs, e, h1, h2, h3, ⟨gA, gB, e2, h4, h5, h6, h7⟩, h8⟩ => by
    subst e2
    refine ⟨rs, gA, gB, e, h1, h2, ⟨rs, gA, gB, rfl, h1, h2, h3, h4.wks.1, las_of h5⟩, h4, h5, fun g hg hb => ?_, h8⟩
    obtain rfl : gB = g := Option.some.inj hg
    rcases hb with hb | ⟨r, hr, hb⟩
    · have e : gA = gB := Option.some.inj hb
      omega
    · have := h7 r hr _ hb
      omega
/-- What is so of the values of 'b, r := F(toBook(a), toOrder(o))' ahead of its stores. -/
def OrdF8 (bv ov : Value) (l : List Wr) (m : List M.La) (B : Nat) (q : M.Bk × M.Rp) : Nat → Value → (Nat → Prop) → World → Prop
  | 0, v, _, _ => v = bv
  | 1, v, _, x => BkArg l m v x
  | 2, v, _, _ => v = ov
  | 3, v, _, _ => v = ov
  | 4, v, E, x => BkRes B q v E x
  | 5, v, _, _ => ∃ a b, v = .tuple #[a, b]
  | 6, _, _, _ => True
  | 7, _, _, _ => True
  | 8, v, E, x => NewBox (bkA none 0 0 none 0 0) v E x
  | 9, v, E, x => NewBox (rpA 0 noP) v E x
  | _, _, _, _ => True
theorem ordF8_st (bv ov : Value) (l : List Wr) (m : List M.La) (B : Nat) (q : M.Bk × M.Rp) (i : Nat) (v : Value) (E : Nat → Prop) (x y : World) (h : OrdF8 bv ov l m B q i v E x) (hb : Below x.heap.size x y) : OrdF8 bv ov l m B q i v E y := by
  match i, h with
  | 0, h => exact h
  | 1, h => exact BkArg.below h hb
  | 2, h => exact h
  | 3, h => exact h
  | 4, h => exact BkRes.below h hb
  | 5, h => exact h
  | 6, h => exact h
  | 7, h => exact h
  | 8, h => exact NewBox.below h hb
  | 9, h => exact NewBox.below h hb
  | _ + 10, _ => trivial
/-- The same of 'b, r := F(x, toOrder(o))'. -/
def OrdF10 (bv ov : Value) (B : Nat) (q : M.Bk × M.Rp) : Nat → Value → (Nat → Prop) → World → Prop
  | 0, v, _, _ => v = bv
  | 1, v, _, _ => v = ov
  | 2, v, _, _ => v = ov
  | 3, v, E, x => BkRes B q v E x
  | 4, v, _, _ => ∃ a b, v = .tuple #[a, b]
  | 5, _, _, _ => True
  | 6, _, _, _ => True
  | 7, v, E, x => NewBox (bkA none 0 0 none 0 0) v E x
  | 8, v, E, x => NewBox (rpA 0 noP) v E x
  | _, _, _, _ => True
theorem ordF10_st (bv ov : Value) (B : Nat) (q : M.Bk × M.Rp) (i : Nat) (v : Value) (E : Nat → Prop) (x y : World) (h : OrdF10 bv ov B q i v E x) (hb : Below x.heap.size x y) : OrdF10 bv ov B q i v E y := by
  match i, h with
  | 0, h => exact h
  | 1, h => exact h
  | 2, h => exact h
  | 3, h => exact BkRes.below h hb
  | 4, h => exact h
  | 5, h => exact h
  | 6, h => exact h
  | 7, h => exact NewBox.below h hb
  | 8, h => exact NewBox.below h hb
  | _ + 9, _ => trivial
/-- The two boxes behind their stores. -/
theorem ordBox_of {W0 y : World} {q : M.Bk × M.Rp} {A1 A2 : Option Addr} {c1 c2 : Nat} {rs : List Wr} {G H : Nat} (o1 : SfOwn W0.heap.size y (.slice A1 rs.length c1) rs) (hm : rs.map Wr.wk = q.1.1) (o2 : LasOwn W0.heap.size y (.slice A2 q.1.2.length c2) q.1.2)
    (hap : ∀ g, (Value.slice A2 q.1.2.length c2).ownBlock = some g → ¬ blocksS (.slice A1 rs.length c1) rs g) (hG : Holds y G (bkA none 0 0 none 0 0)) (hH : Holds y H (rpA 0 noP)) (hg : W0.heap.size ≤ G) (hh : W0.heap.size ≤ H) (hGH : G ≠ H) (hGB : ¬ blocksB (.slice A1 rs.length c1) (.slice A2 q.1.2.length c2) rs G) (hHB : ¬ blocksB (.slice A1 rs.length c1) (.slice A2 q.1.2.length c2) rs H) (hb : Below W0.heap.size W0 y) :
    OrdBox W0 q (.pointer (some ⟨G, 0, none⟩)) (.pointer (some ⟨H, 0, none⟩)) ((((y.setCell ⟨G, 0, none⟩ (.slice A1 rs.length c1)).setCell ⟨G, 1, none⟩ (.slice A2 q.1.2.length c2)).setCell ⟨H, 0, none⟩ (.int .i64 q.2.1)).setCell ⟨H, 1, none⟩ (.string q.2.2)) :=
  ⟨A1, c1, A2, c2, rs, G, H, rfl, rfl, hg, hh, hGH, far_2 (far_2 hb hg _ _) hh _ _,
    ⟨(hG.wr2 _ _).off2 hGH _ _, (((o1.offN (fun e => hGB (.inl e)) 0 _).offN (fun e => hGB (.inl e)) 1 _).offN (fun e => hHB (.inl e)) 0 _).offN (fun e => hHB (.inl e)) 1 _, own_off (own_off (own_off (own_off o2 (fun e => hGB (.inr e)) 0 _) (fun e => hGB (.inr e)) 1 _) (fun e => hHB (.inr e)) 0 _) (fun e => hHB (.inr e)) 1 _⟩,
    (hH.off2 (fun e => hGH e.symm) _ _).wr2 _ _, hm, hap, hGB, hHB⟩
end Go.Proofs.YtblcgbgcccjpcaaGreat
namespace Go.Proofs.YtblcgbgcccjpcaaGreat
open Go.RowKit
set_option maxRecDepth 20000
/-- What ObeyedAll answers. -/
def BkRet (w : World) (q : M.Bk) (e : Ending) (w' : World) : Prop :=
  ∃ v1 v2 rs', e = .returned (.agg #[v1, v2]) ∧ SfOwn w.heap.size w' v1 rs' ∧ rs'.map Wr.wk = q.1 ∧ LasOwn w.heap.size w' v2 q.2 ∧ (∀ g, v2.ownBlock = some g → ¬ blocksS v1 rs' g) ∧ Below w.heap.size w w'
/-- Between two entries of the program's loop. -/
structure EnSt (w0 : World) (W p : Nat) (b0 : M.Bk) (es : List M.En) (G b : Nat) (j : Nat) (wr : World) : Prop where
  book : ∃ rs v, rs.map Wr.wk = (M.obeyTo b0 (es.take j)).1 ∧ BkSt wr W (b + 1) b rs G v (M.obeyTo b0 (es.take j)).2
  below : Below w0.heap.size w0 wr
  box : Holds wr p (bkA none 0 0 none 0 0)
  loose : Loose wr p
/-- Between two entries of the model's loop. -/
structure EnSp (w0 : World) (B p0 p : Nat) (b0 : M.Bk) (es : List M.En) (j : Nat) (wr : World) : Prop where
  book : ∃ A1 c1 A2 c2 rs, BB B wr p0 A1 c1 A2 c2 rs (M.obeyTo b0 (es.take j)).2 ∧ rs.map Wr.wk = (M.obeyTo b0 (es.take j)).1 ∧ ∀ g, (Value.slice A2 (M.obeyTo b0 (es.take j)).2.length c2).ownBlock = some g → ¬ blocksS (.slice A1 rs.length c1) rs g
  below : Below w0.heap.size w0 wr
  box : Holds wr p (bkA none 0 0 none 0 0)
  loose : Loose wr p
  loose0 : Loose wr p0
end Go.Proofs.YtblcgbgcccjpcaaGreat
namespace Go.Proofs.YtblcgbgcccjpcaaGreat
open Go.RowKit
set_option maxRecDepth 20000
set_option linter.unusedVariables false
theorem results_obey (c : Int) (p : ByteArray) (R : Nat) (W : World) (tmps : Array Value) (h2 : tmps.getD 4 undef = .pointer (some ⟨R, 0, none⟩)) (hW : Holds W R (rpA c p)) :
    (results Tryz.f89 tmps).run Tryz.prog W = .ok (rpV c p) W := by
  obtain ⟨q0, q1⟩ := hW.two
  simp at h2
  simp [results, Tryz.results89, go_sem, h2, q0, q1]
theorem TouchS.join {S : Nat → Prop} {w w1 w2 : World} (h : TouchS S w w1) (h2 : TouchS S w1 w2) : TouchS S w w2 :=
  ⟨Nat.le_trans h.size h2.size, fun B hB hS => (h.low B hB hS).trans (h2.low B (Nat.le_trans hB h.size) hS), fun k hk hne => (h2.block k (Nat.lt_of_lt_of_le hk h.size) hne).trans (h.block k hk hne)⟩
set_option maxHeartbeats 2000000 in
theorem obeyed_bad (W B b : Nat) (rs : List Wr) (G : Nat) (v : Value) (ls : List M.La) (en : M.En) (w : World) (h : BkSt w W B b rs G v ls) (hll : ls.length ≤ 1048575) (hn : en.order.deed.name.size ≤ 1048576) (hpg : en.order.deed.page.size ≤ 1048576) (hok : M.entryOk en = false) :
    Calls Tryz.prog 89 #[.pointer (some ⟨G, 0, none⟩), enV en] w (OrdOut w W B b G v rs (M.obeyI (rs.map Wr.wk, ls) en)) := by
  have HE : Hid (M.obeyI (rs.map Wr.wk, ls) en = ((rs.map Wr.wk, ls), ((7 : Int), M.nilB))) := Lib.hid (by simp [M.obeyI, hok])
  have hM := ((Mem.start w).new (enC en) 70).new (rpA 0 noP) 33
  have hst := h.below (((Below.refl w.heap.size w).alloc (Nat.le_refl _) (.cells (enC en) 70)).alloc (by simp) (.cells (rpA 0 noP) 33))
  simp only [World.size_alloc] at hM
  have hGw : G < w.heap.size := h.box.1
  have hbw : b < w.heap.size := by have := h.low; have := h.top; omega
  have HLOW : Hid (∀ r ∈ rs, ∀ k, r.sl.ownBlock = some k → k < w.heap.size) := Lib.hid (fun r hr k e => ((h.own.1 r hr).lt k e).2)
  have HVL : Hid (∀ k, v.ownBlock = some k → k < w.heap.size) := Lib.hid (fun k e => (World.ownsRow.lt h.las k e).2)
  clear h
  go_enter Tryz.func89, Tryz.ntmps89
  go_wp2_with fail
  have hcall := implEntryOk en ((w.alloc (.cells (enC en) 70)).alloc (.cells (rpA 0 noP) 33)) (by unfold maxLen; omega) (by unfold maxLen; omega)
  rw [hok] at hcall
  refine hcall.mono ?_
  rintro e x1 ⟨rfl, b1⟩
  have hM1 := hM.below b1
  have hst1 := hst.below b1
  clear hcall hM hst b1 hok
  obtain ⟨r0, r1⟩ := (hM1.get (w.heap.size + 1) (rpA 0 noP) (by simp)).two
  have z0 := hM1.loose (w.heap.size + 1) (by simp) 0
  have z1 := hM1.loose (w.heap.size + 1) (by simp) 1
  have HM := Lib.hid hM1
  have HST := Lib.hid hst1
  clear hM1 hst1
  go_wp2
  obtain ⟨e1, e2⟩ := ord_end (TouchS.of_below (S := bkS b G v) HM.out.1) (Nat.le_succ _) HST.out hbw hGw (fun r hr e => by have := HLOW.out r hr _ e; omega) (fun e => by have := HVL.out _ e; omega) (.int .i64 7) (.string noP)
  refine bodyPost_ret (results_obey 7 noP (w.heap.size + 1) _ _ rfl ?_) rfl ⟨by rw [HE.out]; rfl, e1, rs, v, by rw [HE.out], by rw [HE.out]; exact e2, fun k hk => .inr hk⟩
  simpa using (((HM.out.get (w.heap.size + 1) (rpA 0 noP) (by simp)).putM 0 (.int .i64 7)).putM 1 (.string noP))
set_option maxHeartbeats 2000000 in
theorem obeyed_idle (W B b : Nat) (rs : List Wr) (G : Nat) (v : Value) (ls : List M.La) (en : M.En) (w : World) (h : BkSt w W B b rs G v ls) (hll : ls.length ≤ 1048575) (hn : en.order.deed.name.size ≤ 1048576) (hpg : en.order.deed.page.size ≤ 1048576) (hok : M.entryOk en = true) (hz : M.orEq en.order M.or0 = true) :
    Calls Tryz.prog 89 #[.pointer (some ⟨G, 0, none⟩), enV en] w (OrdOut w W B b G v rs (M.obeyI (rs.map Wr.wk, ls) en)) := by
  have HE : Hid (M.obeyI (rs.map Wr.wk, ls) en = ((rs.map Wr.wk, ls), ((0 : Int), M.nilB))) := Lib.hid (by simp [M.obeyI, hok, hz])
  have hk : kindI en = 0 := by simp [kindI, hz]
  clear hz
  have hM := ((Mem.start w).new (enC en) 70).new (rpA 0 noP) 33
  have hst := h.below (((Below.refl w.heap.size w).alloc (Nat.le_refl _) (.cells (enC en) 70)).alloc (by simp) (.cells (rpA 0 noP) 33))
  simp only [World.size_alloc] at hM
  have hGw : G < w.heap.size := h.box.1
  have hbw : b < w.heap.size := by have := h.low; have := h.top; omega
  have HLOW : Hid (∀ r ∈ rs, ∀ k, r.sl.ownBlock = some k → k < w.heap.size) := Lib.hid (fun r hr k e => ((h.own.1 r hr).lt k e).2)
  have HVL : Hid (∀ k, v.ownBlock = some k → k < w.heap.size) := Lib.hid (fun k e => (World.ownsRow.lt h.las k e).2)
  clear h
  go_enter Tryz.func89, Tryz.ntmps89
  go_wp2_with fail
  have hcall := implEntryOk en ((w.alloc (.cells (enC en) 70)).alloc (.cells (rpA 0 noP) 33)) (by unfold maxLen; omega) (by unfold maxLen; omega)
  rw [hok] at hcall
  refine hcall.mono ?_
  rintro e x1 ⟨rfl, b1⟩
  have hM1 := hM.below b1
  have hst1 := hst.below b1
  clear hcall hM hst b1 hok
  obtain ⟨p0, p1, p2, p3, p4, p5, p6, p7, p8, p9⟩ := (hM1.get w.heap.size (enC en) (by simp)).ten
  go_wp2_with fail
  have hcall := kindOf_any en x1
  rw [hk] at hcall
  refine hcall.mono ?_
  rintro e x2 ⟨rfl, b2⟩
  have hM2 := hM1.below b2
  have hst2 := hst1.below b2
  clear hcall hM1 hst1 b2 hk p0 p1 p2 p3 p4 p5 p6 p7 p8 p9
  obtain ⟨r0, r1⟩ := (hM2.get (w.heap.size + 1) (rpA 0 noP) (by simp)).two
  have z0 := hM2.loose (w.heap.size + 1) (by simp) 0
  have z1 := hM2.loose (w.heap.size + 1) (by simp) 1
  have HM := Lib.hid hM2
  have HST := Lib.hid hst2
  clear hM2 hst2
  go_wp2
  obtain ⟨e1, e2⟩ := ord_end (TouchS.of_below (S := bkS b G v) HM.out.1) (Nat.le_succ _) HST.out hbw hGw (fun r hr e => by have := HLOW.out r hr _ e; omega) (fun e => by have := HVL.out _ e; omega) (.int .i64 0) (.string noP)
  refine bodyPost_ret (results_obey 0 noP (w.heap.size + 1) _ _ rfl ?_) rfl ⟨by rw [HE.out]; rfl, e1, rs, v, by rw [HE.out], by rw [HE.out]; exact e2, fun k hk => .inr hk⟩
  simpa using (((HM.out.get (w.heap.size + 1) (rpA 0 noP) (by simp)).putM 0 (.int .i64 0)).putM 1 (.string noP))
set_option maxHeartbeats 4000000 in
theorem obeyed_ord (W B b : Nat) (rs : List Wr) (G : Nat) (v : Value) (ls : List M.La) (en : M.En) (w : World) (h : BkSt w W B b rs G v ls) (hll : ls.length ≤ 1048575) (hn : en.order.deed.name.size ≤ 1048576) (hpg : en.order.deed.page.size ≤ 1048576) (hok : M.entryOk en = true) (hz : M.orEq en.order M.or0 = false) :
    Calls Tryz.prog 89 #[.pointer (some ⟨G, 0, none⟩), enV en] w (OrdOut w W B b G v rs (M.obeyI (rs.map Wr.wk, ls) en)) := by
  have HE : Hid (M.obeyI (rs.map Wr.wk, ls) en = M.ordI (rs.map Wr.wk, ls) en.order) := Lib.hid (by simp [M.obeyI, hok, hz])
  have hk : kindI en = 1 := by simp [kindI, hz]
  clear hz
  have hM := ((Mem.start w).new (enC en) 70).new (rpA 0 noP) 33
  have hst := h.below (((Below.refl w.heap.size w).alloc (Nat.le_refl _) (.cells (enC en) 70)).alloc (by simp) (.cells (rpA 0 noP) 33))
  simp only [World.size_alloc] at hM
  have hGw : G < w.heap.size := h.box.1
  have hbw : b < w.heap.size := by have := h.low; have := h.top; omega
  have HLOW : Hid (∀ r ∈ rs, ∀ k, r.sl.ownBlock = some k → k < w.heap.size) := Lib.hid (fun r hr k e => ((h.own.1 r hr).lt k e).2)
  have HVL : Hid (∀ k, v.ownBlock = some k → k < w.heap.size) := Lib.hid (fun k e => (World.ownsRow.lt h.las k e).2)
  clear h
  go_enter Tryz.func89, Tryz.ntmps89
  go_wp2_with fail
  have hcall := implEntryOk en ((w.alloc (.cells (enC en) 70)).alloc (.cells (rpA 0 noP) 33)) (by unfold maxLen; omega) (by unfold maxLen; omega)
  rw [hok] at hcall
  refine hcall.mono ?_
  rintro e x1 ⟨rfl, b1⟩
  have hM1 := hM.below b1
  have hst1 := hst.below b1
  clear hcall hM hst b1 hok
  obtain ⟨p0, p1, p2, p3, p4, p5, p6, p7, p8, p9⟩ := (hM1.get w.heap.size (enC en) (by simp)).ten
  go_wp2_with fail
  have hcall := kindOf_any en x1
  rw [hk] at hcall
  refine hcall.mono ?_
  rintro e x2 ⟨rfl, b2⟩
  have hM2 := hM1.below b2
  have hst2 := hst1.below b2
  clear hcall hM1 hst1 b2 hk p0 p1 p2 p3 p4 p5 p6 p7 p8 p9
  obtain ⟨p0, p1, p2, p3, p4, p5, p6, p7, p8, p9⟩ := (hM2.get w.heap.size (enC en) (by simp)).ten
  have hx2 : (w.heap.size + 1) < x2.heap.size := (hM2.get (w.heap.size + 1) (rpA 0 noP) (by simp)).1
  go_wp2_with fail
  obtain ⟨q, hq⟩ : ∃ q, M.ordI (rs.map Wr.wk, ls) en.order = q := ⟨_, rfl⟩
  have hcall := ordered_any W B b rs G v ls en.order x2 hst2 hll hn hpg
  rw [hq] at hcall
  have HQ := Lib.hid hq
  refine hcall.mono ?_
  rintro e x3 ⟨rfl, ht, rs', v', hmap, hst3, hfr⟩
  have HS : Hid (∀ g, bkS b G v g → g < w.heap.size) := Lib.hid (fun g hg => by
    rcases hg with rfl | rfl | hg
    · exact hbw
    · exact hGw
    · exact HVL.out g hg)
  have HT := Lib.hid (TouchS.join (TouchS.of_below hM2.1) ht)
  have hR : Holds x3 (w.heap.size + 1) (rpA 0 noP) := ht.holds (hM2.get (w.heap.size + 1) (rpA 0 noP) (by simp)) (fun hg => by have := HS.out _ hg; omega)
  have hRl : Loose x3 (w.heap.size + 1) := ht.loose (hM2.loose (w.heap.size + 1) (by simp)) hx2 (fun hg => by have := HS.out _ hg; omega)
  have HRS : Hid (∀ r ∈ rs', r.sl.ownBlock ≠ some (w.heap.size + 1)) := Lib.hid (fun r hr e => by
    rcases hfr _ (.inr ⟨r, hr, e⟩) with h | h | ⟨y, hy, h⟩
    · omega
    · have := HVL.out _ h; omega
    · have := HLOW.out y hy _ h; omega)
  have HVS : Hid (v'.ownBlock ≠ some (w.heap.size + 1)) := Lib.hid (fun e => by
    rcases hfr _ (.inl e) with h | h | ⟨y, hy, h⟩
    · omega
    · have := HVL.out _ h; omega
    · have := HLOW.out y hy _ h; omega)
  have HFR : Hid (FromB w v rs v' rs') := Lib.hid (fun k hk => (hfr k hk).imp (fun h => by omega) id)
  have HMP := Lib.hid hmap
  have HST := Lib.hid hst3
  have HR := Lib.hid (show _ ∧ _ from ⟨hR, hRl⟩)
  obtain ⟨r0, r1⟩ := hR.two
  have z0 := hRl 0
  have z1 := hRl 1
  have zr := hR.1
  clear hcall hq ht hfr hmap hst3 hR hRl hM2 hst2 p0 p1 p2 p3 p4 p5 p6 p7 p8 p9
  go_wp2
  obtain ⟨e1, e2⟩ := ord_end HT.out (Nat.le_succ _) HST.out hbw hGw HRS.out HVS.out (.int .i64 q.2.1) (.string q.2.2)
  refine bodyPost_ret (results_obey q.2.1 q.2.2 (w.heap.size + 1) _ _ rfl ?_) rfl ⟨by rw [HE.out, HQ.out], e1, rs', v', by rw [HE.out, HQ.out]; exact HMP.out, by rw [HE.out, HQ.out]; exact e2, HFR.out⟩
  simpa using ((HR.out.1.putM 0 (.int .i64 q.2.1)).putM 1 (.string q.2.2))
theorem obeyed_any (W B b : Nat) (rs : List Wr) (G : Nat) (v : Value) (ls : List M.La) (en : M.En) (w : World) (h : BkSt w W B b rs G v ls) (hll : ls.length ≤ 1048575) (hn : en.order.deed.name.size ≤ 1048576) (hpg : en.order.deed.page.size ≤ 1048576) :
    Calls Tryz.prog 89 #[.pointer (some ⟨G, 0, none⟩), enV en] w (OrdOut w W B b G v rs (M.obeyI (rs.map Wr.wk, ls) en)) := by
  rcases hok : M.entryOk en with _ | _
  · exact obeyed_bad W B b rs G v ls en w h hll hn hpg hok
  · rcases hz : M.orEq en.order M.or0 with _ | _
    · exact obeyed_ord W B b rs G v ls en w h hll hn hpg hok hz
    · exact obeyed_idle W B b rs G v ls en w h hll hn hpg hok hz
theorem results_iOb (a b : Value) (c : Int) (p : ByteArray) (R T : Nat) (W : World) (tmps : Array Value) (h4 : tmps.getD 4 undef = .pointer (some ⟨R, 0, none⟩)) (h5 : tmps.getD 5 undef = .pointer (some ⟨T, 0, none⟩)) (hR : Holds W R #[a, b]) (hT : Holds W T (rpA c p)) :
    (results Tryz.f31 tmps).run Tryz.prog W = .ok (.tuple #[.agg #[a, b], rpV c p]) W := by
  obtain ⟨q0, q1⟩ := hR.two
  obtain ⟨r0, r1⟩ := hT.two
  simp at h4 h5
  simp [results, Tryz.results31, go_sem, h4, h5, q0, q1, r0, r1]
set_option maxHeartbeats 4000000 in
theorem implObeyed (A : Option Addr) (l : List Wr) (cap : Nat) (A2 : Option Addr) (m : List M.La) (cb : Nat) (en : M.En) (w : World) (hl : Wks w A l) (hlen : l.length ≤ 1048576) (hp : WrsIn 1048576 l) (hm : Las w A2 m) (hml : m.length ≤ 1048576) (hmp : ∀ c ∈ m, laIn 1048576 c) (hn : en.order.deed.name.size ≤ 1048576) (hpg : en.order.deed.page.size ≤ 1048576) :
    Calls Tryz.prog 31 #[bkV A l.length cap A2 m.length cb, enV en] w (OrRet w (M.obeyed (l.map Wr.wk, m) en)) := by
  have HL := Lib.hid hl
  have HP := Lib.hid hp
  have HM := Lib.hid hm
  have HMP := Lib.hid hmp
  clear hl hp hm hmp
  have hM := ((((Mem.start w).new (bkA A l.length cap A2 m.length cb) 27).new (enC en) 70).new (bkA none 0 0 none 0 0) 27).new (rpA 0 noP) 33
  simp only [World.size_alloc] at hM
  rcases hok : M.bkOk (l.map Wr.wk) m with _ | _
  · have HE : Hid (M.obeyed (l.map Wr.wk, m) en = (([], []), ((7 : Int), M.nilB))) := Lib.hid (by unfold M.obeyed; rw [if_neg (by simp [hok])])
    have HOK := Lib.hid hok
    clear hok
    go_enter Tryz.func31, Tryz.ntmps31
    go_wp2_with fail
    refine (implBookOk A l cap A2 m cb _ (HL.out.below hM.1) (by omega) HP.out (HM.out.below hM.1) (by omega)).mono ?_
    rintro e x1 ⟨rfl, b1⟩
    rw [HOK.out]
    have hM1 := hM.below b1
    clear hM b1
    obtain ⟨q0, q1⟩ := (hM1.get (w.heap.size + 1 + 1) (bkA none 0 0 none 0 0) (by simp)).two
    obtain ⟨r0, r1⟩ := (hM1.get (w.heap.size + 1 + 1 + 1) (rpA 0 noP) (by simp)).two
    have y0 := hM1.loose (w.heap.size + 1 + 1) (by simp) 0
    have y1 := hM1.loose (w.heap.size + 1 + 1) (by simp) 1
    have z0 := hM1.loose (w.heap.size + 1 + 1 + 1) (by simp) 0
    have z1 := hM1.loose (w.heap.size + 1 + 1 + 1) (by simp) 1
    have HM1 := Lib.hid hM1
    clear hM1
    go_wp2
    refine bodyPost_ret (results_iOb (.slice none 0 0) (.slice none 0 0) 7 noP (w.heap.size + 1 + 1) (w.heap.size + 1 + 1 + 1) _ _ rfl rfl ?_ ?_) rfl ⟨.slice none 0 0, .slice none 0 0, [], by rw [HE.out] <;> rfl, ⟨⟨rfl, .inl ⟨rfl, rfl⟩⟩, by simp, by simp, List.Pairwise.nil⟩, by rw [HE.out]; rfl, by rw [HE.out]; exact LasOwn.nil _ _, fun g e => (by cases e), ?_⟩
    · exact ((((HM1.out.get (w.heap.size + 1 + 1) (bkA none 0 0 none 0 0) (by simp)).wr2 _ _).otherM (by omega)).otherM (by omega))
    · exact (((HM1.out.get (w.heap.size + 1 + 1 + 1) (rpA 0 noP) (by simp)).otherM (by omega)).otherM (by omega)).wr2 _ _
    · exact far_2 (far_2 HM1.out.1 (by omega) _ _) (by omega) _ _
  · have HOKL : Hid (M.sfOk (l.map Wr.wk) = true) := Lib.hid (by simp only [M.bkOk, Bool.and_eq_true] at hok; exact hok.1)
    replace hml : m.length ≤ 1048575 := by
      have h := hok
      simp only [M.bkOk, Bool.and_eq_true] at h
      have := M.lasOk_len h.2
      omega
    obtain ⟨q, hq⟩ : ∃ q, M.obeyI (l.map Wr.wk, m) en = q := ⟨_, rfl⟩
    have HQ := Lib.hid hq
    have HE : Hid (M.obeyed (l.map Wr.wk, m) en = q) := Lib.hid (by unfold M.obeyed; rw [if_pos hok]; exact hq)
    have HOK := Lib.hid hok
    clear hok hq
    go_enter Tryz.func31, Tryz.ntmps31
    go_wp2_with fail
    refine (implBookOk A l cap A2 m cb _ (HL.out.below hM.1) (by omega) HP.out (HM.out.below hM.1) (by omega)).mono ?_
    rintro e x1 ⟨rfl, b1⟩
    rw [HOK.out]
    have hM1 := hM.below b1
    clear hM b1
    obtain ⟨p0, p1⟩ := (hM1.get w.heap.size (bkA A l.length cap A2 m.length cb) (by simp)).two
    have hx1 : (w.heap.size + 1 + 1 + 1) < x1.heap.size := (hM1.get (w.heap.size + 1 + 1 + 1) (rpA 0 noP) (by simp)).1
    go_wp2_with fail
    refine (bookOf_any A l cap A2 m cb _ (HL.out.below hM1.1) (sfOk_rise HOKL.out).1 (by omega) HP.out (HM.out.below hM1.1) (by omega) HMP.out).mono ?_
    rintro e x2 ⟨b, rs, v, rfl, hb1, hrs, hmap, hown, hb2, hlas, hblk, b2⟩
    obtain ⟨A3, c3, rfl, -, -⟩ := LasOwn.open hlas
    have hM2 := hM1.below b2
    have hM3 := hM2.alloc (.cells #[.map (some b), .slice A3 m.length c3] 126)
    have bA := (Below.refl x2.heap.size x2).alloc (Nat.le_refl _) (.cells #[.map (some b), .slice A3 m.length c3] 126)
    have hst : BkSt (x2.alloc (.cells #[.map (some b), .slice A3 m.length c3] 126)) x1.heap.size (b + 1) b rs x2.heap.size (.slice A3 m.length c3) m :=
      ⟨(hmap.tight).kept (grown_lw bA none) (by simp), hown.below bA, by rw [hrs]; exact HOKL.out, Nat.lt_succ_self _, by simp; omega, holds_new _ _ _, loose_new _ _ _, LasOwn.below hlas bA, HMP.out, by omega, fun r hr e => by have := ((hown.1 r hr).lt _ e).2; omega, fun e => by have := (hblk _ e).1; omega, fun e => by have := (World.ownsRow.lt hlas _ e).2; omega, fun r hr k e e' => by have := (hblk _ e').2 r hr k e; omega, by omega, by omega⟩
    have HVB : Hid (∀ g, bkS b x2.heap.size (.slice A3 m.length c3) g → x1.heap.size ≤ g) := Lib.hid (fun g hg => by
      rcases hg with rfl | rfl | hg
      · omega
      · omega
      · have := (hblk g hg).1; omega)
    have HRSQ := Lib.hid hrs
    have HST := Lib.hid hst
    clear hM1 hM2 hmap hown hlas hblk b2 bA hst hrs p0 p1
    obtain ⟨p0, p1, p2, p3, p4, p5, p6, p7, p8, p9⟩ := (hM3.get (w.heap.size + 1) (enC en) (by simp)).ten
    go_wp2_with fail
    have hcall := obeyed_any x1.heap.size (b + 1) b rs x2.heap.size (.slice A3 m.length c3) m en _ HST.out hml hn hpg
    rw [HRSQ.out, HQ.out] at hcall
    refine hcall.mono ?_
    rintro e x4 ⟨rfl, ht, rs2, v2, hmp2, hst4, -⟩
    have hM4 := hM3.touch ht (fun g hg => by have := HVB.out g hg; omega) (fun p hp hT => by have := HVB.out _ hT; simp at hp; rcases hp with rfl | rfl | rfl | rfl <;> simp at this <;> omega) (fun g hp hT => by have := HVB.out _ hT; simp at hp; rcases hp with rfl | rfl | rfl | rfl <;> omega)
    clear hcall hM3 p0 p1 p2 p3 p4 p5 p6 p7 p8 p9
    obtain ⟨A4, c4, rfl, -, -⟩ := LasOwn.open hst4.las
    have hV4 := fun g (e : (Value.slice A4 q.1.2.length c4).ownBlock = some g) => show (g ≠ b ∧ g ≠ x2.heap.size ∧ ∀ r ∈ rs2, r.sl.ownBlock ≠ some g) ∧ x1.heap.size ≤ g ∧ g < x4.heap.size from ⟨⟨fun h => hst4.vb (h ▸ e), fun h => hst4.vg (h ▸ e), fun r hr h => hst4.vr r hr g h e⟩, World.ownsRow.lt hst4.las g e⟩
    have h7 := holds_new x4 (rpA q.2.1 q.2.2) 33
    have bA := (Below.refl x4.heap.size x4).alloc (Nat.le_refl _) (.cells (rpA q.2.1 q.2.2) 33)
    have hM5 := hM4.below bA
    have hst5 := hst4.below bA
    have hx4 : x2.heap.size < x4.heap.size := hst4.box.1
    have HMP2 := Lib.hid hmp2
    clear hM4 hst4 hmp2 bA
    have HT := Lib.hid ht
    clear ht
    go_wp2_with fail
    generalize x4.alloc (.cells (rpA q.2.1 q.2.2) 33) = x5 at h7 hM5 hst5 ⊢
    have dr := (Below.refl x5.heap.size x5).drew
    have HSW := Lib.hid (hst5.below dr)
    have HM5 := Lib.hid (hM5.below dr)
    have HH := Lib.hid (show _ ∧ _ from ⟨hst5.box.below dr, h7.below dr⟩)
    have HRS := Lib.hid (show _ ∧ _ ∧ _ ∧ _ from ⟨(hM5.below dr).get (w.heap.size + 1 + 1) (bkA none 0 0 none 0 0) (by simp), (hM5.below dr).get (w.heap.size + 1 + 1 + 1) (rpA 0 noP) (by simp), (hM5.below dr).loose (w.heap.size + 1 + 1) (by simp), (hM5.below dr).loose (w.heap.size + 1 + 1 + 1) (by simp)⟩)
    have hx5 : x4.heap.size < x5.heap.size := h7.1
    clear hM5 hst5 h7 dr
    refine wp_region_seq (fun x => Holds x x2.heap.size #[.map (some b), .slice A4 q.1.2.length c4] ∧ Holds x x4.heap.size (rpA q.2.1 q.2.2)) [(0, true), (2, true), (1, false), (3, false), (4, false)] (by kernel_rfl) (by kernel_rfl) (fun _ _ _ _ _ h => h) (by kernel_rfl) (by decide) ⟨HH.out.1, HH.out.2⟩ ?_
    intro hHeld
    repeat (first
      | (refine seq_skip (by simp only [List.getElem?_toArray, List.getElem?_cons_succ, List.getElem?_cons_zero]; first | done | rfl) (by rfl) ?_; (try simp only [Act.put, List.setIfInBounds_toArray, List.set_cons_zero, List.set_cons_succ]))
      | (refine seq_reads (by simp only [List.getElem?_toArray, List.getElem?_cons_succ, List.getElem?_cons_zero]; first | done | rfl) (by rfl) ?_; apply Exists.intro; apply And.intro; (focus (intro w hSw; (try (obtain ⟨g0, g1⟩ := hSw.1.two)); (try (obtain ⟨r0, r1⟩ := hSw.2.two)); go_simp; (try with_reducible rfl); done)); (try simp only [Act.put, List.setIfInBounds_toArray, List.set_cons_zero, List.set_cons_succ]))
      | (refine seq_pass (by simp only [List.getElem?_toArray, List.getElem?_cons_succ, List.getElem?_cons_zero]; first | done | rfl) (by rfl) hHeld ?_; clear hHeld; intro hHeld; (try simp only [Act.put, List.setIfInBounds_toArray, List.set_cons_zero, List.set_cons_succ]))
      | (refine seq_call (by simp only [List.getElem?_toArray, List.getElem?_cons_succ, List.getElem?_cons_zero]; first | done | rfl) (by rfl) (fun K hK => ?_); go_simp; go_at_call 71; refine (written_any (b + 1) b rs2.length rs2 A4 q.1.2.length c4 _ (HSW.out.map) HSW.out.rise HSW.out.own HSW.out.top (by have := (wrs_ok HSW.out.ok).1; omega) (fun r hr => Nat.le_trans ((wrs_ok HSW.out.ok).2 r hr).1 (by omega))).mono ?_; rintro r w1 ⟨A9, c9, rfl, hs9, hn9, b1⟩; go_simp; refine hK.out _ _ ⟨hHeld.1.below b1, hHeld.2.below b1⟩ ?_; clear hK hHeld; intro hHeld; (have HS9 := Lib.hid hs9); (have HN9 := Lib.hid hn9); (have HB9 := Lib.hid b1); (have HX := Lib.hid (show _ ∧ _ ∧ _ ∧ _ from ⟨HRS.out.1.below b1, HRS.out.2.1.below b1, HRS.out.2.2.1.below HRS.out.1.1 b1, HRS.out.2.2.2.below HRS.out.2.1.1 b1⟩)); clear hs9 hn9 b1; (try simp only [Act.put, List.setIfInBounds_toArray, List.set_cons_zero, List.set_cons_succ]))
      | (refine seq_call (by simp only [List.getElem?_toArray, List.getElem?_cons_succ, List.getElem?_cons_zero]; first | done | rfl) (by rfl) (fun K hK => ?_); (obtain ⟨s0, s1⟩ := HX.out.1.two); (obtain ⟨t0, t1⟩ := HX.out.2.1.two); (have u0 := HX.out.2.2.1 0); (have u1 := HX.out.2.2.1 1); (have v0 := HX.out.2.2.2 0); (have v1 := HX.out.2.2.2 1); (have zs := HX.out.1.1); (have zt := HX.out.2.1.1); go_simp; refine hK.out _ _ ⟨(hHeld.1.otherM (by omega)).otherM (by omega), (hHeld.2.otherM (by omega)).otherM (by omega)⟩ ?_; clear hK hHeld; intro hHeld; clear s0 s1 t0 t1 u0 u1 v0 v1 zs zt; (try simp only [Act.put, List.setIfInBounds_toArray, List.set_cons_zero, List.set_cons_succ])))
    refine seq_end ?_
    go_wp2
    have hlas9 := LasOwn.below HSW.out.las HB9.out
    have hne4 : ∀ g, (Value.slice A4 q.1.2.length c4).ownBlock = some g → (w.heap.size + 1 + 1 + 1) < g := fun g e => by have := (hV4 g e).2.1; omega
    refine bodyPost_ret (results_iOb (.slice A9 rs2.length c9) (.slice A4 q.1.2.length c4) q.2.1 q.2.2 (w.heap.size + 1 + 1) (w.heap.size + 1 + 1 + 1) _ _ rfl rfl ?_ ?_) rfl ⟨.slice A9 rs2.length c9, .slice A4 q.1.2.length c4, rs2, by rw [HE.out], ?_, by rw [HE.out]; exact HMP2.out, ?_, fun g e hg => ?_, ?_⟩
    · exact ((HX.out.1.wr2 _ _).otherM (by omega)).otherM (by omega)
    · exact ((HX.out.2.1.otherM (by omega)).otherM (by omega)).wr2 _ _
    · exact ((((HS9.out.set (by omega) 0 _).set (by omega) 1 _).set (by omega) 0 _).set (by omega) 1 _).mono (by omega)
    · rw [HE.out]
      exact LasOwn.mono (own_off (own_off (own_off (own_off hlas9 (fun e => by have := hne4 _ e; omega) 0 _) (fun e => by have := hne4 _ e; omega) 1 _) (fun e => by have := hne4 _ e; omega) 0 _) (fun e => by have := hne4 _ e; omega) 1 _) (by omega)
    · rcases hg with hg | ⟨r, hr, hg⟩
      · have h1 : x5.heap.size ≤ g := HN9.out g hg
        have := (hV4 g e).2.2
        omega
      · exact (hV4 g e).1.2.2 r hr hg
    · exact far_2 (far_2 (next HM5.out.1 HB9.out) (by omega) _ _) (by omega) _ _
end Go.Proofs.YtblcgbgcccjpcaaGreat
