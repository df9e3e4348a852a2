/- Proved, in parts: Proved: how the law on Ordered holds its books in memory, and what writes elsewhere leave of them; what an order leaves is small. No program's function is named here; no condition. Proved: the contracts of Obeyed at a book that was copied; what an entry leaves is small. Condition: texts and lists of at most a million. Proved: an argument that is a slice of records is a list of them, and an argument that is a work is its name, owner and copies; no program is named here. Proved: an argument that is a slice of works is a list of them, each with its copies; no program is named here. -/
import Derived.Test.YtblcgbgcccjpcaaGreatPart43
import Derived.Test.YtblcgbgcccjpcaaGreatPart44
import Derived.Test.YtblcgbgcccjpcaaGreatPart45
import Derived.Test.YtblcgbgcccjpcaaGreatPart31
import Derived.Test.YtblcgbgcccjpcaaGreatPart42
import Derived.Test.YtblcgbgcccjpcaaGreatPart09
import Derived.WalkKit
import Derived.Lib.SmallJoins
import Derived.Deep.Slices
import Derived.ChangeSame
namespace Go.Proofs.YtblcgbgcccjpcaaGreat
open Go.RowKit
set_option maxRecDepth 20000
namespace M
theorem laFor_len (l : List La) (c : Int) : (laFor l c).length ≤ l.length + 1 := by
  unfold laFor
  split
  · omega
  · rw [putLa_len _ _ _ (laPlace_le l c)]
    exact Nat.le_refl _
theorem ord_ok (b : Bk) (o : Or) : sfOk (ordered b o).1.1 = true ∧ (ordered b o).1.2.length ≤ 5 := by
  unfold ordered
  split
  · rename_i h
    simp only [bkOk, Bool.and_eq_true] at h
    have h4 := lasOk_len h.2
    have h5 := laFor_len b.2 o.client
    unfold ordI
    split
    · unfold ordT
      split
      · split
        · exact ⟨h.1, by show (laFor b.2 o.client).length ≤ 5; omega⟩
        · split
          · exact ⟨keptD_ok h.1, by show ((laFor b.2 o.client).set _ _).length ≤ 5; rw [List.length_set]; omega⟩
          · exact ⟨h.1, by show (laFor b.2 o.client).length ≤ 5; omega⟩
      · exact ⟨h.1, by show (laFor b.2 o.client).length ≤ 5; omega⟩
    · exact ⟨h.1, by show b.2.length ≤ 5; omega⟩
  · exact ⟨rfl, by show ([] : List La).length ≤ 5; simp⟩
end M
theorem ord_small {b : M.Bk} {o : M.Or} {r : List Wr} (h : r.map Wr.wk = (M.ordered b o).1.1) : r.length ≤ 5 ∧ WrsIn 12 r := wrs_ok (h ▸ (M.ord_ok b o).1)
/-- A box with a book of one's own. -/
structure BB (B : Nat) (x : World) (G : Nat) (A1 : Option Addr) (c1 : Nat) (A2 : Option Addr) (c2 : Nat) (rs : List Wr) (ls : List M.La) : Prop where
  box : Holds x G (bkA A1 rs.length c1 A2 ls.length c2)
  sf : SfOwn B x (.slice A1 rs.length c1) rs
  la : LasOwn B x (.slice A2 ls.length c2) ls
theorem BB.below {B G c1 c2 : Nat} {x y : World} {A1 A2 : Option Addr} {rs : List Wr} {ls : List M.La} (h : BB B x G A1 c1 A2 c2 rs ls) (hb : Below x.heap.size x y) : BB B y G A1 c1 A2 c2 rs ls := ⟨h.box.below hb, h.sf.below hb, LasOwn.below h.la hb⟩
theorem BB.touch {S : Nat → Prop} {B G c1 c2 : Nat} {x y : World} {A1 A2 : Option Addr} {rs : List Wr} {ls : List M.La} (h : BB B x G A1 c1 A2 c2 rs ls) (ht : TouchS S x y) (hG : ¬ S G) (hne : ∀ g, blocksB (.slice A1 rs.length c1) (.slice A2 ls.length c2) rs g → ¬ S g) : BB B y G A1 c1 A2 c2 rs ls :=
  ⟨ht.holds h.box hG, ht.sf h.sf (fun g hg => hne g (.inl hg)), ht.row h.la (fun g hg => hne g (.inr hg))⟩
theorem BB.ge {B G c1 c2 : Nat} {x : World} {A1 A2 : Option Addr} {rs : List Wr} {ls : List M.La} (h : BB B x G A1 c1 A2 c2 rs ls) {g : Nat} (hg : blocksB (.slice A1 rs.length c1) (.slice A2 ls.length c2) rs g) : B ≤ g ∧ g < x.heap.size := by
  rcases hg with hg | hg
  · exact h.sf.ge hg
  · exact World.ownsRow.lt h.la g hg
theorem BB.las {B G c1 c2 : Nat} {x : World} {A1 A2 : Option Addr} {rs : List Wr} {ls : List M.La} (h : BB B x G A1 c1 A2 c2 rs ls) : Las x A2 ls := las_of h.la
/-- v is a copy of a book, to be given away. -/
def BkArg (l : List Wr) (m : List M.La) (v : Value) (x : World) : Prop :=
  ∃ (rs : List Wr) (g1 g2 : Nat), v = bkV (some ⟨g1, 0, none⟩) rs.length rs.length (some ⟨g2, 0, none⟩) m.length m.length ∧ rs.map Wr.wk = l.map Wr.wk ∧ rs.length = l.length ∧ (∀ r ∈ rs, r.ad ≠ none ∧ r.cap = r.cps.length) ∧ Wks x (some ⟨g1, 0, none⟩) rs ∧ Las x (some ⟨g2, 0, none⟩) m
theorem BkArg.below {l : List Wr} {m : List M.La} {v : Value} {x y : World} (h : BkArg l m v x) (hb : Below x.heap.size x y) : BkArg l m v y := by
  obtain ⟨rs, g1, g2, e, h1, h2, h3, h4, h5⟩ := h
  exact ⟨rs, g1, g2, e, h1, h2, h3, h4.below hb, h5.below hb⟩
/-- v is a book and a reply, E the book's blocks. -/
def BkRes (B : Nat) (q : M.Bk × M.Rp) (v : Value) (E : Nat → Prop) (x : World) : Prop :=
  ∃ A1 c1 A2 c2 rs, v = .tuple #[bkV A1 rs.length c1 A2 q.1.2.length c2, rpV q.2.1 q.2.2] ∧ SfOwn B x (.slice A1 rs.length c1) rs ∧ rs.map Wr.wk = q.1.1 ∧ LasOwn B x (.slice A2 q.1.2.length c2) q.1.2 ∧ (∀ g, (Value.slice A2 q.1.2.length c2).ownBlock = some g → ¬ blocksS (.slice A1 rs.length c1) rs g) ∧ ∀ g, E g ↔ blocksB (.slice A1 rs.length c1) (.slice A2 q.1.2.length c2) rs g
theorem BkRes.below {B : Nat} {q : M.Bk × M.Rp} {v : Value} {E : Nat → Prop} {x y : World} (h : BkRes B q v E x) (hb : Below x.heap.size x y) : BkRes B q v E y := by
  obtain ⟨A1, c1, A2, c2, rs, e, h1, h2, h3, h4, h5⟩ := h
  exact ⟨A1, c1, A2, c2, rs, e, h1.below hb, h2, LasOwn.below h3 hb, h4, h5⟩
/-- s points to a new box that holds C and may be written, E its block. -/
def NewBox (C : Array Value) (v : Value) (E : Nat → Prop) (x : World) : Prop :=
  ∃ g, v = .pointer (some ⟨g, 0, none⟩) ∧ Holds x g C ∧ Loose x g ∧ ∀ k, E k ↔ k = g
theorem NewBox.below {C : Array Value} {v : Value} {E : Nat → Prop} {x y : World} (h : NewBox C v E x) (hb : Below x.heap.size x y) : NewBox C v E y := by
  obtain ⟨g, e, h1, h2, h3⟩ := h
  exact ⟨g, e, h1.below hb, h2.below h1.1 hb, h3⟩
theorem OrRet.res {w y : World} {B : Nat} {q : M.Bk × M.Rp} {r : Ending} (h : OrRet w q r y) (hB : B ≤ w.heap.size) : ∃ v E, r = .returned v ∧ BkRes B q v E y ∧ Below w.heap.size w y ∧ ∀ g, E g → w.heap.size ≤ g ∧ g < y.heap.size := by
  obtain ⟨v1, v2, rs, e, h1, h2, h3, h4, h5⟩ := h
  obtain ⟨A1, c1, rfl, -, -⟩ := h1.open
  obtain ⟨A2, c2, rfl, -, -⟩ := LasOwn.open h3
  refine ⟨_, blocksB (.slice A1 rs.length c1) (.slice A2 q.1.2.length c2) rs, e, ⟨A1, c1, A2, c2, rs, rfl, h1.mono hB, h2, LasOwn.mono h3 hB, h4, fun g => Iff.rfl⟩, h5, fun g hg => ?_⟩
  rcases hg with hg | hg
  · exact h1.ge hg
  · exact World.ownsRow.lt h3 g hg
/-- Where a statement 'b, r := Ordered(..)' leaves its two boxes. -/
def OrdBox (W0 : World) (q : M.Bk × M.Rp) (s t : Value) (x : World) : Prop :=
  ∃ (A1 : Option Addr) (c1 : Nat) (A2 : Option Addr) (c2 : Nat) (rs : List Wr) (G H : Nat), s = .pointer (some ⟨G, 0, none⟩) ∧ t = .pointer (some ⟨H, 0, none⟩) ∧ W0.heap.size ≤ G ∧ W0.heap.size ≤ H ∧ G ≠ H ∧ Below W0.heap.size W0 x ∧ BB W0.heap.size x G A1 c1 A2 c2 rs q.1.2 ∧ Holds x H (rpA q.2.1 q.2.2) ∧ rs.map Wr.wk = q.1.1 ∧ (∀ g, (Value.slice A2 q.1.2.length c2).ownBlock = some g → ¬ blocksS (.slice A1 rs.length c1) rs g) ∧ ¬ blocksB (.slice A1 rs.length c1) (.slice A2 q.1.2.length c2) rs G ∧ ¬ blocksB (.slice A1 rs.length c1) (.slice A2 q.1.2.length c2) rs H
/-- The links between the values of such a statement: what is moved, and its two parts. -/
def relOrd (k : Nat) (i : Nat) (v r : Value) : Prop := if i = k then r = v else if i = k + 1 then ∃ a b, v = .tuple #[a, b] ∧ r = a else ∃ a b, v = .tuple #[a, b] ∧ r = b
def lkOrd (k : Nat) (i : Nat) : Option Nat := if i = k then some (k - 1) else if i = k + 1 then some k else if i = k + 2 then some k else none
theorem implOrdered_at (l : List Wr) (m : List M.La) (o : M.Or) (v : Value) (w : World) (h : BkArg l m v w) (hlen : l.length ≤ 1048576) (hp : WrsIn 1048576 l) (hml : m.length ≤ 1048576) (hmp : ∀ c ∈ m, laIn 1048576 c) (hn : o.deed.name.size ≤ 1048576) (hpg : o.deed.page.size ≤ 1048576) :
    Calls Tryz.prog 17 #[v, orV o] w (OrRet w (M.ordered (l.map Wr.wk, m) o)) := by
  obtain ⟨rs, g1, g2, rfl, h1, h2, h3, h4, h5⟩ := h
  rw [← h1]
  exact implOrdered _ rs _ _ m _ o w h4 (by omega) (wrs_eq h1 hp) h5 hml hmp hn hpg
theorem specOrdered_at (l : List Wr) (m : List M.La) (o : M.Or) (v : Value) (w : World) (h : BkArg l m v w) (hlen : l.length ≤ 1048576) (hp : WrsIn 1048576 l) (hml : m.length ≤ 1048576) (hn : o.deed.name.size ≤ 1048576) (hpg : o.deed.page.size ≤ 1048576) :
    Calls Tryz.prog 20 #[v, orV o] w (OrRet w (M.ordered (l.map Wr.wk, m) o)) := by
  obtain ⟨rs, g1, g2, rfl, h1, h2, h3, h4, h5⟩ := h
  rw [← h1]
  exact specOrdered _ rs _ _ m _ o w h4 (fun r hr e => absurd e (h3 r hr).1) (by omega) (wrs_eq h1 hp) h5 (fun e => by cases e) hml hn hpg
theorem toBook_at (A : Option Addr) (l : List Wr) (cap : Nat) (B : Option Addr) (m : List M.La) (cb : Nat) (w : World) (hl : Wks w A l) (hlen : l.length ≤ 1048576) (hp : WrsIn 1048576 l) (hml : Las w B m) (hmlen : m.length ≤ 1048576) :
    Calls Tryz.prog 44 #[bkV A l.length cap B m.length cb] w fun r w' => ∃ (rs : List Wr) (gA gB : Nat), r = .returned (bkV (some ⟨gA, 0, none⟩) rs.length rs.length (some ⟨gB, 0, none⟩) m.length m.length) ∧ rs.map Wr.wk = l.map Wr.wk ∧ rs.length = l.length ∧ BkArg l m (bkV (some ⟨gA, 0, none⟩) rs.length rs.length (some ⟨gB, 0, none⟩) m.length m.length) w' ∧ SfOwn w.heap.size w' (.slice (some ⟨gA, 0, none⟩) rs.length rs.length) rs ∧ LasOwn w.heap.size w' (.slice (some ⟨gB, 0, none⟩) m.length m.length) m ∧ (∀ g, (Value.slice (some ⟨gB, 0, none⟩) m.length m.length).ownBlock = some g → ¬ blocksS (.slice (some ⟨gA, 0, none⟩) rs.length rs.length) rs g) ∧ Below w.heap.size w w' :=
  (toBook_any A l cap B m cb w hl hlen hp hml hmlen).mono fun r w' ⟨v, rs, e, h1, h2, h3, ⟨gA, gB, e2, h4, h5, h6, h7⟩, h8⟩ => by
    subst e2
    refine ⟨rs, gA, gB, e, h1, h2, ⟨rs, gA, gB, rfl, h1, h2, h3, h4.wks.1, las_of h5⟩, h4, h5, fun g hg hb => ?_, h8⟩
    obtain rfl : gB = g := Option.some.inj hg
    rcases hb with hb | ⟨r, hr, hb⟩
    · have e : gA = gB := Option.some.inj hb
      omega
    · have := h7 r hr _ hb
      omega
/-- What is so of the values of 'b, r := F(toBook(a), toOrder(o))' ahead of its stores. -/
def OrdF8 (bv ov : Value) (l : List Wr) (m : List M.La) (B : Nat) (q : M.Bk × M.Rp) : Nat → Value → (Nat → Prop) → World → Prop
  | 0, v, _, _ => v = bv
  | 1, v, _, x => BkArg l m v x
  | 2, v, _, _ => v = ov
  | 3, v, _, _ => v = ov
  | 4, v, E, x => BkRes B q v E x
  | 5, v, _, _ => ∃ a b, v = .tuple #[a, b]
  | 6, _, _, _ => True
  | 7, _, _, _ => True
  | 8, v, E, x => NewBox (bkA none 0 0 none 0 0) v E x
  | 9, v, E, x => NewBox (rpA 0 noP) v E x
  | _, _, _, _ => True
theorem ordF8_st (bv ov : Value) (l : List Wr) (m : List M.La) (B : Nat) (q : M.Bk × M.Rp) (i : Nat) (v : Value) (E : Nat → Prop) (x y : World) (h : OrdF8 bv ov l m B q i v E x) (hb : Below x.heap.size x y) : OrdF8 bv ov l m B q i v E y := by
  match i, h with
  | 0, h => exact h
  | 1, h => exact BkArg.below h hb
  | 2, h => exact h
  | 3, h => exact h
  | 4, h => exact BkRes.below h hb
  | 5, h => exact h
  | 6, h => exact h
  | 7, h => exact h
  | 8, h => exact NewBox.below h hb
  | 9, h => exact NewBox.below h hb
  | _ + 10, _ => trivial
/-- The same of 'b, r := F(x, toOrder(o))'. -/
def OrdF10 (bv ov : Value) (B : Nat) (q : M.Bk × M.Rp) : Nat → Value → (Nat → Prop) → World → Prop
  | 0, v, _, _ => v = bv
  | 1, v, _, _ => v = ov
  | 2, v, _, _ => v = ov
  | 3, v, E, x => BkRes B q v E x
  | 4, v, _, _ => ∃ a b, v = .tuple #[a, b]
  | 5, _, _, _ => True
  | 6, _, _, _ => True
  | 7, v, E, x => NewBox (bkA none 0 0 none 0 0) v E x
  | 8, v, E, x => NewBox (rpA 0 noP) v E x
  | _, _, _, _ => True
theorem ordF10_st (bv ov : Value) (B : Nat) (q : M.Bk × M.Rp) (i : Nat) (v : Value) (E : Nat → Prop) (x y : World) (h : OrdF10 bv ov B q i v E x) (hb : Below x.heap.size x y) : OrdF10 bv ov B q i v E y := by
  match i, h with
  | 0, h => exact h
  | 1, h => exact h
  | 2, h => exact h
  | 3, h => exact BkRes.below h hb
  | 4, h => exact h
  | 5, h => exact h
  | 6, h => exact h
  | 7, h => exact NewBox.below h hb
  | 8, h => exact NewBox.below h hb
  | _ + 9, _ => trivial
/-- The two boxes behind their stores. -/
theorem ordBox_of {W0 y : World} {q : M.Bk × M.Rp} {A1 A2 : Option Addr} {c1 c2 : Nat} {rs : List Wr} {G H : Nat} (o1 : SfOwn W0.heap.size y (.slice A1 rs.length c1) rs) (hm : rs.map Wr.wk = q.1.1) (o2 : LasOwn W0.heap.size y (.slice A2 q.1.2.length c2) q.1.2)
    (hap : ∀ g, (Value.slice A2 q.1.2.length c2).ownBlock = some g → ¬ blocksS (.slice A1 rs.length c1) rs g) (hG : Holds y G (bkA none 0 0 none 0 0)) (hH : Holds y H (rpA 0 noP)) (hg : W0.heap.size ≤ G) (hh : W0.heap.size ≤ H) (hGH : G ≠ H) (hGB : ¬ blocksB (.slice A1 rs.length c1) (.slice A2 q.1.2.length c2) rs G) (hHB : ¬ blocksB (.slice A1 rs.length c1) (.slice A2 q.1.2.length c2) rs H) (hb : Below W0.heap.size W0 y) :
    OrdBox W0 q (.pointer (some ⟨G, 0, none⟩)) (.pointer (some ⟨H, 0, none⟩)) ((((y.setCell ⟨G, 0, none⟩ (.slice A1 rs.length c1)).setCell ⟨G, 1, none⟩ (.slice A2 q.1.2.length c2)).setCell ⟨H, 0, none⟩ (.int .i64 q.2.1)).setCell ⟨H, 1, none⟩ (.string q.2.2)) :=
  ⟨A1, c1, A2, c2, rs, G, H, rfl, rfl, hg, hh, hGH, far_2 (far_2 hb hg _ _) hh _ _,
    ⟨(hG.wr2 _ _).off2 hGH _ _, (((o1.offN (fun e => hGB (.inl e)) 0 _).offN (fun e => hGB (.inl e)) 1 _).offN (fun e => hHB (.inl e)) 0 _).offN (fun e => hHB (.inl e)) 1 _, own_off (own_off (own_off (own_off o2 (fun e => hGB (.inr e)) 0 _) (fun e => hGB (.inr e)) 1 _) (fun e => hHB (.inr e)) 0 _) (fun e => hHB (.inr e)) 1 _⟩,
    (hH.off2 (fun e => hGH e.symm) _ _).wr2 _ _, hm, hap, hGB, hHB⟩
end Go.Proofs.YtblcgbgcccjpcaaGreat
namespace Go.Proofs.YtblcgbgcccjpcaaGreat
open Go.RowKit
set_option maxRecDepth 20000
theorem obey_small {b : M.Bk} {en : M.En} {r : List Wr} (h : r.map Wr.wk = (M.obeyed b en).1.1) : r.length ≤ 5 ∧ WrsIn 12 r := wrs_ok (h ▸ (M.obey_ok b en).1)
theorem szEntry_small (en : M.En) (n : Int) (w : World) (hn : n ≤ 1048576) (h : (en.order.deed.name.size + en.order.deed.page.size : Int) ≤ n) :
    Calls Tryz.prog 43 #[enV en, .int .i64 n] w fun r w' => (∃ m : Nat, r = .returned (.int .i64 m)) ∧ Below w.heap.size w w' :=
  (enSz_small en n w hn (by omega)).mono fun r w' ⟨e, b⟩ => ⟨⟨(n - ((en.order.deed.name.size + en.order.deed.page.size : Nat) : Int)).toNat, by rw [e, Int.toNat_of_nonneg (by omega)]⟩, b⟩
theorem szEntry_big (en : M.En) (n : Int) (w : World) (h0 : 0 ≤ n) (hn : n ≤ 1048576) (hnm : en.order.deed.name.size ≤ maxLen) (hp : en.order.deed.page.size ≤ maxLen) (h : n < (en.order.deed.name.size + en.order.deed.page.size : Int)) :
    Calls Tryz.prog 43 #[enV en, .int .i64 n] w fun r w' => r = .returned (.int .i64 (-1)) ∧ Below w.heap.size w w' :=
  enSz_big en n w h0 hn ⟨hnm, hp⟩ (by omega)
theorem implObeyed_at (l : List Wr) (m : List M.La) (en : M.En) (v : Value) (w : World) (h : BkArg l m v w) (hlen : l.length ≤ 1048576) (hp : WrsIn 1048576 l) (hml : m.length ≤ 1048576) (hmp : ∀ c ∈ m, laIn 1048576 c) (hn : en.order.deed.name.size ≤ 1048576) (hpg : en.order.deed.page.size ≤ 1048576) :
    Calls Tryz.prog 31 #[v, enV en] w (OrRet w (M.obeyed (l.map Wr.wk, m) en)) := by
  obtain ⟨rs, g1, g2, rfl, h1, h2, h3, h4, h5⟩ := h
  rw [← h1]
  exact implObeyed _ rs _ _ m _ en w h4 (by omega) (wrs_eq h1 hp) h5 hml hmp hn hpg
theorem specObeyed_at (l : List Wr) (m : List M.La) (en : M.En) (v : Value) (w : World) (h : BkArg l m v w) (hlen : l.length ≤ 1048576) (hp : WrsIn 1048576 l) (hml : m.length ≤ 1048576) (hn : en.order.deed.name.size ≤ 1048576) (hpg : en.order.deed.page.size ≤ 1048576) :
    Calls Tryz.prog 35 #[v, enV en] w (OrRet w (M.obeyed (l.map Wr.wk, m) en)) := by
  obtain ⟨rs, g1, g2, rfl, h1, h2, h3, h4, h5⟩ := h
  rw [← h1]
  exact specObeyed _ rs _ _ m _ en w h4 (fun r hr e => absurd e (h3 r hr).1) (by omega) (wrs_eq h1 hp) h5 (fun e => by cases e) hml hn hpg
end Go.Proofs.YtblcgbgcccjpcaaGreat
namespace Go.Proofs.YtblcgbgcccjpcaaGreat
open Go.ChangeShapes Go.WideShapes Go.ChangeAt Go.RowKit Go.Joins Go.Deep

theorem cell_spot {w : World} {a : Addr} {v : Value} (h : w.cell? a = some v) : a = ⟨a.block, a.off, none⟩ := by
  unfold World.cell? at h
  rcases a with ⟨b, o, _ | s⟩
  · rfl
  · split at h <;> simp at h

section
variable {H : Type} {enc : TypeId × Value → H} {P : Program} {w : World} {base : Nat} {spare : Nat → Bool} {held : Bool}

theorem open_rows {α : Type} [Inhabited α] {en : α → List Value} {k : Nat} {Q : α → Prop} {t e : TypeId} {fuel : Nat} {cs : List Value} {x : DataW H × List MemPlace} (ht : P.underlying t = some (.slice e)) (hk : P.cellsOf e = k) (hk0 : 0 < k)
    (hlen : ∀ x, (en x).length = k) (op : ∀ (n : Nat) (cs : List Value) (x : DataW H × List MemPlace), DataW.trod enc P w base spare held n e cs = some x → ∃ c, cs = en c ∧ Q c)
    (h : DataW.trod enc P w base spare held fuel t cs = some x) : ∃ (A : Option Addr) (l : List α) (c : Nat), cs = [.slice A l.length c] ∧ Flat en k w A l ∧ l.length ≤ c ∧ c ≤ maxLen ∧ ∀ x ∈ l, Q x := by
  subst hk
  rcases open_slice ht h with ⟨rfl, _⟩ | ⟨a, len, cap, m, n, D, Pl, rfl, hb, hl, hm, hmm, hx, hi⟩
  · exact ⟨none, [], 0, rfl, .inl rfl, Nat.le_refl _, Nat.zero_le _, by simp⟩
  · have hlm : len ≤ m := by rw [hmm]; split <;> omega
    have hall : ∀ i, i < len → ∃ c, Q c ∧ ∀ t u, (en c)[t]? = some u → w.cell? (a.add (i * P.cellsOf e + t)) = some u := by
      intro i hil
      obtain ⟨cs', hc, ht'⟩ := hi i (by omega)
      obtain ⟨c, rfl, hq⟩ := op n cs' _ ht'
      obtain ⟨_, hcl, hat⟩ := World.cells?_some hc
      refine ⟨c, hq, fun t u hu => ?_⟩
      have htl : t < P.cellsOf e := by
        rcases Nat.lt_or_ge t (en c).length with h' | h'
        · rw [hlen] at h'; exact h'
        · rw [List.getElem?_eq_none h'] at hu; cases hu
      have := hat t htl
      rw [← Go.Deep.add_add, this, hu]
    obtain ⟨F, hF⟩ : ∃ F : Nat → α, ∀ i, i < len → Q (F i) ∧ ∀ t u, (en (F i))[t]? = some u → w.cell? (a.add (i * P.cellsOf e + t)) = some u := by
      refine ⟨fun i => if h : i < len then Classical.choose (hall i h) else default, fun i hil => ?_⟩
      simp only [dif_pos hil]
      exact Classical.choose_spec (hall i hil)
    refine ⟨some a, (List.range len).map F, cap, by simp, ?_, by simpa using hl, hm, fun y hy => ?_⟩
    · rcases Nat.eq_zero_or_pos len with h0 | h0
      · subst h0; exact .inl rfl
      · have h1 : (en (F 0))[0]? = some ((en (F 0))[0]'(by rw [hlen]; exact hk0)) := List.getElem?_eq_getElem _
        have h2 := (hF 0 h0).2 0 _ h1
        have h3 : a.add (0 * P.cellsOf e + 0) = a := by simp [Addr.add]
        rw [h3] at h2
        have ha := cell_spot h2
        rw [ha]
        refine .inr ⟨a.block, a.off, rfl, World.block_lt_of_cell? w _ h2, fun i t x u hi hu => ?_⟩
        rw [List.getElem?_map] at hi
        have hil : i < len := by
          rcases Nat.lt_or_ge i len with h' | h'
          · exact h'
          · rw [List.getElem?_eq_none (by simpa using h')] at hi; cases hi
        rw [List.getElem?_range hil] at hi
        simp at hi
        subst hi
        have := (hF i hil).2 t u hu
        rw [ha, addr_add, ← Nat.add_assoc] at this
        exact this
    · simp at hy
      obtain ⟨i, hil, rfl⟩ := hy
      exact (hF i hil).1

theorem cells_ed {t : TypeId} {g0 g1 g2 : Field} {n : Nat} {cs : List Value} {x : DataW H × List MemPlace} (hs : P.underlying t = some (.struct #[g0, g1, g2])) (hC : P.cellsOf t = 3)
    (po : [g0.offset, g1.offset, g2.offset] = [0, 1, 2]) (pk : [P.cellsOf g0.type, P.cellsOf g1.type, P.cellsOf g2.type] = [1, 1, 1])
    (x0 : P.underlying g0.type = some (.int .i64)) (x1 : P.underlying g1.type = some (.int .i64)) (x2 : P.underlying g2.type = some (.int .i64))
    (h : DataW.trod enc P w base spare held n t cs = some x) : ∃ e : M.Ed, cs = [.int .i64 e.ma, .int .i64 e.mi, .int .i64 e.pa] := by
  obtain ⟨zs, m, _, _, hl, hlen', hfld'⟩ := DataW.trod_struct hs h
  simp only [List.cons.injEq, and_true] at po pk
  obtain ⟨p0, p1, p2⟩ := po
  obtain ⟨q0, q1, q2⟩ := pk
  match cs, hl.trans hC with
  | [c0, c1, c2], _ =>
    match zs, hlen' with
    | [z0, z1, z2], _ =>
      have i0 := hfld' 0 g0 rfl
      have i1 := hfld' 1 g1 rfl
      have i2 := hfld' 2 g2 rfl
      simp only [p0, p1, p2, q0, q1, q2, List.drop_zero, List.drop_succ_cons, List.take_succ_cons, List.take_zero, List.getElem?_cons_zero, List.getElem?_cons_succ] at i0 i1 i2
      obtain ⟨b0, j0, _⟩ := DataW.trod_int x0 i0
      obtain ⟨b1, j1, _⟩ := DataW.trod_int x1 i1
      obtain ⟨b2, j2, _⟩ := DataW.trod_int x2 i2
      simp only [List.cons.injEq, and_true] at j0 j1 j2
      subst j0 j1 j2
      exact ⟨⟨b0, b1, b2⟩, rfl⟩

theorem cells_cp {t : TypeId} {f0 f1 f2 g0 g1 g2 : Field} {n : Nat} {cs : List Value} {x : DataW H × List MemPlace} (hs : P.underlying t = some (.struct #[f0, f1, f2])) (hC : P.cellsOf t = 5)
    (ho : [f0.offset, f1.offset, f2.offset] = [0, 3, 4]) (hk : [P.cellsOf f0.type, P.cellsOf f1.type, P.cellsOf f2.type] = [3, 1, 1])
    (u0 : P.underlying f0.type = some (.struct #[g0, g1, g2])) (u1 : P.underlying f1.type = some .string) (u2 : P.underlying f2.type = some .bool)
    (po : [g0.offset, g1.offset, g2.offset] = [0, 1, 2]) (pk : [P.cellsOf g0.type, P.cellsOf g1.type, P.cellsOf g2.type] = [1, 1, 1])
    (x0 : P.underlying g0.type = some (.int .i64)) (x1 : P.underlying g1.type = some (.int .i64)) (x2 : P.underlying g2.type = some (.int .i64))
    (h : DataW.trod enc P w base spare held n t cs = some x) : ∃ c : M.Cp, cs = cpL c ∧ c.page.size ≤ maxLen := by
  obtain ⟨zs, m, _, _, hl, hlen', hfld'⟩ := DataW.trod_struct hs h
  simp only [List.cons.injEq, and_true] at ho hk
  obtain ⟨p0, p1, p2⟩ := ho
  obtain ⟨q0, q1, q2⟩ := hk
  match cs, hl.trans hC with
  | [c0, c1, c2, c3, c4], _ =>
    match zs, hlen' with
    | [z0, z1, z2], _ =>
      have i0 := hfld' 0 f0 rfl
      have i1 := hfld' 1 f1 rfl
      have i2 := hfld' 2 f2 rfl
      simp only [p0, p1, p2, q0, q1, q2, List.drop_zero, List.drop_succ_cons, List.take_succ_cons, List.take_zero, List.getElem?_cons_zero, List.getElem?_cons_succ] at i0 i1 i2
      obtain ⟨e, j0⟩ := cells_ed u0 q0 po pk x0 x1 x2 i0
      obtain ⟨s, j1, _, hsz⟩ := DataW.trod_string u1 i1
      obtain ⟨b, j2, _⟩ := DataW.trod_bool u2 i2
      simp only [List.cons.injEq, and_true] at j0 j1 j2
      obtain ⟨rfl, rfl, rfl⟩ := j0
      subst j1 j2
      exact ⟨⟨e, s, b⟩, rfl, hsz⟩

theorem open_wk {r : Reach} {b0 : Nat} {t tc te : TypeId} {h0 h1 h2 f0 f1 f2 g0 g1 g2 : Field} {v : Value} {d : DataW H} {p : List MemPlace} (hs : P.underlying t = some (.struct #[h0, h1, h2])) (hC : P.cellsOf t = 3)
    (so : [h0.offset, h1.offset, h2.offset] = [0, 1, 2]) (sk : [P.cellsOf h0.type, P.cellsOf h1.type, P.cellsOf h2.type] = [1, 1, 1])
    (y0 : P.underlying h0.type = some .string) (y1 : P.underlying h1.type = some (.int .i64)) (y2 : h2.type = tc) (y3 : P.underlying tc = some (.slice te))
    (hcs : P.underlying te = some (.struct #[f0, f1, f2])) (hcC : P.cellsOf te = 5)
    (ho : [f0.offset, f1.offset, f2.offset] = [0, 3, 4]) (hk : [P.cellsOf f0.type, P.cellsOf f1.type, P.cellsOf f2.type] = [3, 1, 1])
    (u0 : P.underlying f0.type = some (.struct #[g0, g1, g2])) (u1 : P.underlying f1.type = some .string) (u2 : P.underlying f2.type = some .bool)
    (po : [g0.offset, g1.offset, g2.offset] = [0, 1, 2]) (pk : [P.cellsOf g0.type, P.cellsOf g1.type, P.cellsOf g2.type] = [1, 1, 1])
    (x0 : P.underlying g0.type = some (.int .i64)) (x1 : P.underlying g1.type = some (.int .i64)) (x2 : P.underlying g2.type = some (.int .i64))
    (hv : Value.okWide P w r b0 t v) (h : DataW.Trod enc P w base spare held t v d p) :
    ∃ (name : ByteArray) (owner : Int) (A : Option Addr) (l : List M.Cp) (c : Nat), v = wkV name owner A l.length c ∧ name.size ≤ maxLen ∧ Cps w A l ∧ l.length ≤ maxLen ∧ ∀ x ∈ l, x.page.size ≤ maxLen := by
  obtain ⟨cs, rfl, hsz⟩ := okWide_struct hs hv
  obtain ⟨l⟩ := cs
  match l, hsz.trans hC with
  | [c0, c1, c2], _ =>
    obtain ⟨fuel, hf⟩ := h
    obtain ⟨xs, n, _, hx, _, hlen, hg⟩ := DataW.trod_struct hs hf
    simp only [List.cons.injEq, and_true] at so sk
    obtain ⟨p0, p1, p2⟩ := so
    obtain ⟨q0, q1, q2⟩ := sk
    match xs, hlen with
    | [z0, z1, z2], _ =>
      have i0 := hg 0 h0 rfl
      have i1 := hg 1 h1 rfl
      have i2 := hg 2 h2 rfl
      simp only [Value.cells, p0, p1, p2, q0, q1, q2, List.drop_zero, List.drop_succ_cons, List.take_succ_cons, List.take_zero, List.getElem?_cons_zero, List.getElem?_cons_succ] at i0 i1 i2
      obtain ⟨s, j0, _, hss⟩ := DataW.trod_string y0 i0
      obtain ⟨b, j1, _⟩ := DataW.trod_int y1 i1
      rw [y2] at i2
      haveI : Inhabited M.Cp := ⟨M.zeroCp⟩
      obtain ⟨A, l, c, j2, hfl, hlc, hcm, hq⟩ := open_rows (en := cpL) (Q := fun c => c.page.size ≤ maxLen) y3 hcC (by omega) cpL_len (fun n cs x hx => cells_cp hcs hcC ho hk u0 u1 u2 po pk x0 x1 x2 hx) i2
      simp only [List.cons.injEq, and_true] at j0 j1 j2
      subst j0 j1 j2
      exact ⟨s, b, A, l, c, rfl, hss, hfl, by omega, hq⟩
end
end Go.Proofs.YtblcgbgcccjpcaaGreat
namespace Go.Proofs.YtblcgbgcccjpcaaGreat
open Go.ChangeShapes Go.WideShapes Go.ChangeAt Go.RowKit Go.Joins Go.Deep
section
variable {H : Type} {enc : TypeId × Value → H} {P : Program} {w : World} {base : Nat} {spare : Nat → Bool} {held : Bool}

theorem cells_wr {t tc te : TypeId} {h0 h1 h2 f0 f1 f2 g0 g1 g2 : Field} {n : Nat} {cs : List Value} {x : DataW H × List MemPlace} (hs : P.underlying t = some (.struct #[h0, h1, h2])) (hC : P.cellsOf t = 3)
    (so : [h0.offset, h1.offset, h2.offset] = [0, 1, 2]) (sk : [P.cellsOf h0.type, P.cellsOf h1.type, P.cellsOf h2.type] = [1, 1, 1])
    (y0 : P.underlying h0.type = some .string) (y1 : P.underlying h1.type = some (.int .i64)) (y2 : h2.type = tc) (y3 : P.underlying tc = some (.slice te))
    (hcs : P.underlying te = some (.struct #[f0, f1, f2])) (hcC : P.cellsOf te = 5)
    (ho : [f0.offset, f1.offset, f2.offset] = [0, 3, 4]) (hk : [P.cellsOf f0.type, P.cellsOf f1.type, P.cellsOf f2.type] = [3, 1, 1])
    (u0 : P.underlying f0.type = some (.struct #[g0, g1, g2])) (u1 : P.underlying f1.type = some .string) (u2 : P.underlying f2.type = some .bool)
    (po : [g0.offset, g1.offset, g2.offset] = [0, 1, 2]) (pk : [P.cellsOf g0.type, P.cellsOf g1.type, P.cellsOf g2.type] = [1, 1, 1])
    (x0 : P.underlying g0.type = some (.int .i64)) (x1 : P.underlying g1.type = some (.int .i64)) (x2 : P.underlying g2.type = some (.int .i64))
    (h : DataW.trod enc P w base spare held n t cs = some x) :
    ∃ r : Wr, cs = wrL r ∧ Cps w r.ad r.cps ∧ r.name.size ≤ maxLen ∧ r.cps.length ≤ maxLen ∧ ∀ c ∈ r.cps, c.page.size ≤ maxLen := by
  obtain ⟨xs, n, _, hx, hl, hlen, hg⟩ := DataW.trod_struct hs h
  simp only [List.cons.injEq, and_true] at so sk
  obtain ⟨p0, p1, p2⟩ := so
  obtain ⟨q0, q1, q2⟩ := sk
  match cs, hl.trans hC with
  | [c0, c1, c2], _ =>
    match xs, hlen with
    | [z0, z1, z2], _ =>
      have i0 := hg 0 h0 rfl
      have i1 := hg 1 h1 rfl
      have i2 := hg 2 h2 rfl
      simp only [p0, p1, p2, q0, q1, q2, List.drop_zero, List.drop_succ_cons, List.take_succ_cons, List.take_zero, List.getElem?_cons_zero, List.getElem?_cons_succ] at i0 i1 i2
      obtain ⟨s, j0, _, hss⟩ := DataW.trod_string y0 i0
      obtain ⟨b, j1, _⟩ := DataW.trod_int y1 i1
      rw [y2] at i2
      haveI : Inhabited M.Cp := ⟨M.zeroCp⟩
      obtain ⟨A, l, c, j2, hfl, hlc, hcm, hq⟩ := open_rows (en := cpL) (Q := fun c => c.page.size ≤ maxLen) y3 hcC (by omega) cpL_len (fun n cs x hx => cells_cp hcs hcC ho hk u0 u1 u2 po pk x0 x1 x2 hx) i2
      simp only [List.cons.injEq, and_true] at j0 j1 j2
      subst j0 j1 j2
      exact ⟨⟨s, b, A, c, l⟩, rfl, hfl, hss, by simp only; omega, hq⟩

theorem open_sf {r : Reach} {b0 : Nat} {ts t tc te : TypeId} {h0 h1 h2 f0 f1 f2 g0 g1 g2 : Field} {v : Value} {d : DataW H} {p : List MemPlace} (hts : P.underlying ts = some (.slice t)) (hs : P.underlying t = some (.struct #[h0, h1, h2])) (hC : P.cellsOf t = 3)
    (so : [h0.offset, h1.offset, h2.offset] = [0, 1, 2]) (sk : [P.cellsOf h0.type, P.cellsOf h1.type, P.cellsOf h2.type] = [1, 1, 1])
    (y0 : P.underlying h0.type = some .string) (y1 : P.underlying h1.type = some (.int .i64)) (y2 : h2.type = tc) (y3 : P.underlying tc = some (.slice te))
    (hcs : P.underlying te = some (.struct #[f0, f1, f2])) (hcC : P.cellsOf te = 5)
    (ho : [f0.offset, f1.offset, f2.offset] = [0, 3, 4]) (hk : [P.cellsOf f0.type, P.cellsOf f1.type, P.cellsOf f2.type] = [3, 1, 1])
    (u0 : P.underlying f0.type = some (.struct #[g0, g1, g2])) (u1 : P.underlying f1.type = some .string) (u2 : P.underlying f2.type = some .bool)
    (po : [g0.offset, g1.offset, g2.offset] = [0, 1, 2]) (pk : [P.cellsOf g0.type, P.cellsOf g1.type, P.cellsOf g2.type] = [1, 1, 1])
    (x0 : P.underlying g0.type = some (.int .i64)) (x1 : P.underlying g1.type = some (.int .i64)) (x2 : P.underlying g2.type = some (.int .i64))
    (hv : Value.okWide P w r b0 ts v) (h : DataW.Trod enc P w base spare held ts v d p) :
    ∃ (A : Option Addr) (l : List Wr) (c : Nat), v = .slice A l.length c ∧ Wks w A l ∧ l.length ≤ maxLen ∧ WrsIn maxLen l := by
  obtain ⟨a0, len0, cap0, rfl⟩ := okWide_slice hts hv
  obtain ⟨fuel, hf⟩ := h
  obtain ⟨A, l, c, hcell, hfl, hlc, hcm, hq⟩ := open_rows (en := wrL) (Q := fun r => Cps w r.ad r.cps ∧ r.name.size ≤ maxLen ∧ r.cps.length ≤ maxLen ∧ ∀ c ∈ r.cps, c.page.size ≤ maxLen) hts hC (by omega) wrL_len (fun n cs x hx => cells_wr hs hC so sk y0 y1 y2 y3 hcs hcC ho hk u0 u1 u2 po pk x0 x1 x2 hx) hf
  simp [Value.cells] at hcell
  obtain ⟨rfl, rfl, rfl⟩ := hcell
  exact ⟨_, l, _, rfl, ⟨hfl, fun r hr => (hq r hr).1⟩, by omega, fun r hr => (hq r hr).2⟩
end
end Go.Proofs.YtblcgbgcccjpcaaGreat
