/- Proved, in parts: Proved: how the law on Ordered holds its books in memory, and what writes elsewhere leave of them; what an order leaves is small. No program's function is named here; no condition. Proved: how many orders' answer stands in memory; a book of the program's own stays where a list apart from it grows. No program's function is named here; no condition. Proved: the program's AllOrdered answers a plain Lean function, its book and its replies in new memory; nothing that was there is written. Condition: texts and lists of at most a million. -/
import Derived.Test.YtjdaeecmgkhpmaaGreatPart42
import Derived.Test.YtjdaeecmgkhpmaaGreatPart43
import Derived.Test.YtjdaeecmgkhpmaaGreatPart44
import Derived.Test.YtjdaeecmgkhpmaaGreatPart30
import Derived.Test.YtjdaeecmgkhpmaaGreatPart31
namespace Go.Proofs.YtjdaeecmgkhpmaaGreat
open Go.RowKit
set_option maxRecDepth 20000
namespace M
theorem laFor_len (l : List La) (c : Int) : (laFor l c).length ≤ l.length + 1 := by
  unfold laFor
  split
  · omega
  · rw [putLa_len _ _ _ (laPlace_le l c)]
    exact Nat.le_refl _
theorem ord_ok (b : Bk) (o : Or) : sfOk (ordered b o).1.1 = true ∧ (ordered b o).1.2.length ≤ 5 := by
  unfold ordered
  split
  · rename_i h
    simp only [bkOk, Bool.and_eq_true] at h
    have h4 := lasOk_len h.2
    have h5 := laFor_len b.2 o.client
    unfold ordI
    split
    · unfold ordT
      split
      · split
        · exact ⟨h.1, by show (laFor b.2 o.client).length ≤ 5; omega⟩
        · split
          · exact ⟨keptD_ok h.1, by show ((laFor b.2 o.client).set _ _).length ≤ 5; rw [List.length_set]; omega⟩
          · exact ⟨h.1, by show (laFor b.2 o.client).length ≤ 5; omega⟩
      · exact ⟨h.1, by show (laFor b.2 o.client).length ≤ 5; omega⟩
    · exact ⟨h.1, by show b.2.length ≤ 5; omega⟩
  · exact ⟨rfl, by show ([] : List La).length ≤ 5; simp⟩
end M
theorem ord_small {b : M.Bk} {o : M.Or} {r : List Wr} (h : r.map Wr.wk = (M.ordered b o).1.1) : r.length ≤ 5 ∧ WrsIn 12 r := wrs_ok (h ▸ (M.ord_ok b o).1)
/-- A box with a book of one's own. -/
structure BB (B : Nat) (x : World) (G : Nat) (A1 : Option Addr) (c1 : Nat) (A2 : Option Addr) (c2 : Nat) (rs : List Wr) (ls : List M.La) : Prop where
  box : Holds x G (bkA A1 rs.length c1 A2 ls.length c2)
  sf : SfOwn B x (.slice A1 rs.length c1) rs
  la : LasOwn B x (.slice A2 ls.length c2) ls
theorem BB.below {B G c1 c2 : Nat} {x y : World} {A1 A2 : Option Addr} {rs : List Wr} {ls : List M.La} (h : BB B x G A1 c1 A2 c2 rs ls) (hb : Below x.heap.size x y) : BB B y G A1 c1 A2 c2 rs ls := ⟨h.box.below hb, h.sf.below hb, LasOwn.below h.la hb⟩
theorem BB.touch {S : Nat → Prop} {B G c1 c2 : Nat} {x y : World} {A1 A2 : Option Addr} {rs : List Wr} {ls : List M.La} (h : BB B x G A1 c1 A2 c2 rs ls) (ht : TouchS S x y) (hG : ¬ S G) (hne : ∀ g, blocksB (.slice A1 rs.length c1) (.slice A2 ls.length c2) rs g → ¬ S g) : BB B y G A1 c1 A2 c2 rs ls :=
  ⟨ht.holds h.box hG, ht.sf h.sf (fun g hg => hne g (.inl hg)), ht.row h.la (fun g hg => hne g (.inr hg))⟩
theorem BB.ge {B G c1 c2 : Nat} {x : World} {A1 A2 : Option Addr} {rs : List Wr} {ls : List M.La} (h : BB B x G A1 c1 A2 c2 rs ls) {g : Nat} (hg : blocksB (.slice A1 rs.length c1) (.slice A2 ls.length c2) rs g) : B ≤ g ∧ g < x.heap.size := by
  rcases hg with hg | hg
  · exact h.sf.ge hg
  · exact World.ownsRow.lt h.la g hg
theorem BB.las {B G c1 c2 : Nat} {x : World} {A1 A2 : Option Addr} {rs : List Wr} {ls : List M.La} (h : BB B x G A1 c1 A2 c2 rs ls) : Las x A2 ls := las_of h.la
/-- v is a copy of a book, to be given away. -/
def BkArg (l : List Wr) (m : List M.La) (v : Value) (x : World) : Prop :=
  ∃ (rs : List Wr) (g1 g2 : Nat), v = bkV (some ⟨g1, 0, none⟩) rs.length rs.length (some ⟨g2, 0, none⟩) m.length m.length ∧ rs.map Wr.wk = l.map Wr.wk ∧ rs.length = l.length ∧ (∀ r ∈ rs, r.ad ≠ none ∧ r.cap = r.cps.length) ∧ Wks x (some ⟨g1, 0, none⟩) rs ∧ Las x (some ⟨g2, 0, none⟩) m
theorem BkArg.below {l : List Wr} {m : List M.La} {v : Value} {x y : World} (h : BkArg l m v x) (hb : Below x.heap.size x y) : BkArg l m v y := by
  obtain ⟨rs, g1, g2, e, h1, h2, h3, h4, h5⟩ := h
  exact ⟨rs, g1, g2, e, h1, h2, h3, h4.below hb, h5.below hb⟩
/-- v is a book and a reply, E the book's blocks. -/
def BkRes (B : Nat) (q : M.Bk × M.Rp) (v : Value) (E : Nat → Prop) (x : World) : Prop :=
  ∃ A1 c1 A2 c2 rs, v = .tuple #[bkV A1 rs.length c1 A2 q.1.2.length c2, rpV q.2.1 q.2.2] ∧ SfOwn B x (.slice A1 rs.length c1) rs ∧ rs.map Wr.wk = q.1.1 ∧ LasOwn B x (.slice A2 q.1.2.length c2) q.1.2 ∧ (∀ g, (Value.slice A2 q.1.2.length c2).ownBlock = some g → ¬ blocksS (.slice A1 rs.length c1) rs g) ∧ ∀ g, E g ↔ blocksB (.slice A1 rs.length c1) (.slice A2 q.1.2.length c2) rs g
theorem BkRes.below {B : Nat} {q : M.Bk × M.Rp} {v : Value} {E : Nat → Prop} {x y : World} (h : BkRes B q v E x) (hb : Below x.heap.size x y) : BkRes B q v E y := by
  obtain ⟨A1, c1, A2, c2, rs, e, h1, h2, h3, h4, h5⟩ := h
  exact ⟨A1, c1, A2, c2, rs, e, h1.below hb, h2, LasOwn.below h3 hb, h4, h5⟩
/-- s points to a new box that holds C and may be written, E its block. -/
def NewBox (C : Array Value) (v : Value) (E : Nat → Prop) (x : World) : Prop :=
  ∃ g, v = .pointer (some ⟨g, 0, none⟩) ∧ Holds x g C ∧ Loose x g ∧ ∀ k, E k ↔ k = g
theorem NewBox.below {C : Array Value} {v : Value} {E : Nat → Prop} {x y : World} (h : NewBox C v E x) (hb : Below x.heap.size x y) : NewBox C v E y := by
  obtain ⟨g, e, h1, h2, h3⟩ := h
  exact ⟨g, e, h1.below hb, h2.below h1.1 hb, h3⟩
theorem OrRet.res {w y : World} {B : Nat} {q : M.Bk × M.Rp} {r : Ending} (h : OrRet w q r y) (hB : B ≤ w.heap.size) : ∃ v E, r = .returned v ∧ BkRes B q v E y ∧ Below w.heap.size w y ∧ ∀ g, E g → w.heap.size ≤ g ∧ g < y.heap.size := by
  obtain ⟨v1, v2, rs, e, h1, h2, h3, h4, h5⟩ := h
  obtain ⟨A1, c1, rfl, -, -⟩ := h1.open
  obtain ⟨A2, c2, rfl, -, -⟩ := LasOwn.open h3
  refine ⟨_, blocksB (.slice A1 rs.length c1) (.slice A2 q.1.2.length c2) rs, e, ⟨A1, c1, A2, c2, rs, rfl, h1.mono hB, h2, LasOwn.mono h3 hB, h4, fun g => Iff.rfl⟩, h5, fun g hg => ?_⟩
  rcases hg with hg | hg
  · exact h1.ge hg
  · exact World.ownsRow.lt h3 g hg
/-- Where a statement 'b, r := Ordered(..)' leaves its two boxes. -/
def OrdBox (W0 : World) (q : M.Bk × M.Rp) (s t : Value) (x : World) : Prop :=
  ∃ (A1 : Option Addr) (c1 : Nat) (A2 : Option Addr) (c2 : Nat) (rs : List Wr) (G H : Nat), s = .pointer (some ⟨G, 0, none⟩) ∧ t = .pointer (some ⟨H, 0, none⟩) ∧ W0.heap.size ≤ G ∧ W0.heap.size ≤ H ∧ G ≠ H ∧ Below W0.heap.size W0 x ∧ BB W0.heap.size x G A1 c1 A2 c2 rs q.1.2 ∧ Holds x H (rpA q.2.1 q.2.2) ∧ rs.map Wr.wk = q.1.1 ∧ (∀ g, (Value.slice A2 q.1.2.length c2).ownBlock = some g → ¬ blocksS (.slice A1 rs.length c1) rs g) ∧ ¬ blocksB (.slice A1 rs.length c1) (.slice A2 q.1.2.length c2) rs G ∧ ¬ blocksB (.slice A1 rs.length c1) (.slice A2 q.1.2.length c2) rs H
/-- The links between the values of such a statement: what is moved, and its two parts. -/
def relOrd (k : Nat) (i : Nat) (v r : Value) : Prop := if i = k then r = v else if i = k + 1 then ∃ a b, v = .tuple #[a, b] ∧ r = a else ∃ a b, v = .tuple #[a, b] ∧ r = b
def lkOrd (k : Nat) (i : Nat) : Option Nat := if i = k then some (k - 1) else if i = k + 1 then some k else if i = k + 2 then some k else none
theorem implOrdered_at (l : List Wr) (m : List M.La) (o : M.Or) (v : Value) (w : World) (h : BkArg l m v w) (hlen : l.length ≤ 1048576) (hp : WrsIn 1048576 l) (hml : m.length ≤ 1048576) (hmp : ∀ c ∈ m, laIn 1048576 c) (hn : o.deed.name.size ≤ 1048576) (hpg : o.deed.page.size ≤ 1048576) :
    Calls Tryz.prog 10 #[v, orV o] w (OrRet w (M.ordered (l.map Wr.wk, m) o)) := by
  obtain ⟨rs, g1, g2, rfl, h1, h2, h3, h4, h5⟩ := h
  rw [← h1]
  exact implOrdered _ rs _ _ m _ o w h4 (by omega) (wrs_eq h1 hp) h5 hml hmp hn hpg
theorem specOrdered_at (l : List Wr) (m : List M.La) (o : M.Or) (v : Value) (w : World) (h : BkArg l m v w) (hlen : l.length ≤ 1048576) (hp : WrsIn 1048576 l) (hml : m.length ≤ 1048576) (hn : o.deed.name.size ≤ 1048576) (hpg : o.deed.page.size ≤ 1048576) :
    Calls Tryz.prog 7 #[v, orV o] w (OrRet w (M.ordered (l.map Wr.wk, m) o)) := by
  obtain ⟨rs, g1, g2, rfl, h1, h2, h3, h4, h5⟩ := h
  rw [← h1]
  exact specOrdered _ rs _ _ m _ o w h4 (fun r hr e => absurd e (h3 r hr).1) (by omega) (wrs_eq h1 hp) h5 (fun e => by cases e) hml hn hpg
theorem toBook_at (A : Option Addr) (l : List Wr) (cap : Nat) (B : Option Addr) (m : List M.La) (cb : Nat) (w : World) (hl : Wks w A l) (hlen : l.length ≤ 1048576) (hp : WrsIn 1048576 l) (hml : Las w B m) (hmlen : m.length ≤ 1048576) :
    Calls Tryz.prog 8 #[bkV A l.length cap B m.length cb] w fun r w' => ∃ (rs : List Wr) (gA gB : Nat), r = .returned (bkV (some ⟨gA, 0, none⟩) rs.length rs.length (some ⟨gB, 0, none⟩) m.length m.length) ∧ rs.map Wr.wk = l.map Wr.wk ∧ rs.length = l.length ∧ BkArg l m (bkV (some ⟨gA, 0, none⟩) rs.length rs.length (some ⟨gB, 0, none⟩) m.length m.length) w' ∧ SfOwn w.heap.size w' (.slice (some ⟨gA, 0, none⟩) rs.length rs.length) rs ∧ LasOwn w.heap.size w' (.slice (some ⟨gB, 0, none⟩) m.length m.length) m ∧ (∀ g, (Value.slice (some ⟨gB, 0, none⟩) m.length m.length).ownBlock = some g → ¬ blocksS (.slice (some ⟨gA, 0, none⟩) rs.length rs.length) rs g) ∧ Below w.heap.size w w' :=
  (toBook_any A l cap B m cb w hl hlen hp hml hmlen).mono fun r w' ⟨v, rs, e, h1, h2, h3, ⟨gA, gB, e2, h4, h5, h6, h7⟩, h8⟩ => by
    subst e2
    refine ⟨rs, gA, gB, e, h1, h2, ⟨rs, gA, gB, rfl, h1, h2, h3, h4.wks.1, las_of h5⟩, h4, h5, fun g hg hb => ?_, h8⟩
    obtain rfl : gB = g := Option.some.inj hg
    rcases hb with hb | ⟨r, hr, hb⟩
    · have e : gA = gB := Option.some.inj hb
      omega
    · have := h7 r hr _ hb
      omega
/-- What is so of the values of 'b, r := F(toBook(a), toOrder(o))' ahead of its stores. -/
def OrdF8 (bv ov : Value) (l : List Wr) (m : List M.La) (B : Nat) (q : M.Bk × M.Rp) : Nat → Value → (Nat → Prop) → World → Prop
  | 0, v, _, _ => v = bv
  | 1, v, _, x => BkArg l m v x
  | 2, v, _, _ => v = ov
  | 3, v, _, _ => v = ov
  | 4, v, E, x => BkRes B q v E x
  | 5, v, _, _ => ∃ a b, v = .tuple #[a, b]
  | 6, _, _, _ => True
  | 7, _, _, _ => True
  | 8, v, E, x => NewBox (bkA none 0 0 none 0 0) v E x
  | 9, v, E, x => NewBox (rpA 0 noP) v E x
  | _, _, _, _ => True
theorem ordF8_st (bv ov : Value) (l : List Wr) (m : List M.La) (B : Nat) (q : M.Bk × M.Rp) (i : Nat) (v : Value) (E : Nat → Prop) (x y : World) (h : OrdF8 bv ov l m B q i v E x) (hb : Below x.heap.size x y) : OrdF8 bv ov l m B q i v E y := by
  match i, h with
  | 0, h => exact h
  | 1, h => exact BkArg.below h hb
  | 2, h => exact h
  | 3, h => exact h
  | 4, h => exact BkRes.below h hb
  | 5, h => exact h
  | 6, h => exact h
  | 7, h => exact h
  | 8, h => exact NewBox.below h hb
  | 9, h => exact NewBox.below h hb
  | _ + 10, _ => trivial
/-- The same of 'b, r := F(x, toOrder(o))'. -/
def OrdF10 (bv ov : Value) (B : Nat) (q : M.Bk × M.Rp) : Nat → Value → (Nat → Prop) → World → Prop
  | 0, v, _, _ => v = bv
  | 1, v, _, _ => v = ov
  | 2, v, _, _ => v = ov
  | 3, v, E, x => BkRes B q v E x
  | 4, v, _, _ => ∃ a b, v = .tuple #[a, b]
  | 5, _, _, _ => True
  | 6, _, _, _ => True
  | 7, v, E, x => NewBox (bkA none 0 0 none 0 0) v E x
  | 8, v, E, x => NewBox (rpA 0 noP) v E x
  | _, _, _, _ => True
theorem ordF10_st (bv ov : Value) (B : Nat) (q : M.Bk × M.Rp) (i : Nat) (v : Value) (E : Nat → Prop) (x y : World) (h : OrdF10 bv ov B q i v E x) (hb : Below x.heap.size x y) : OrdF10 bv ov B q i v E y := by
  match i, h with
  | 0, h => exact h
  | 1, h => exact h
  | 2, h => exact h
  | 3, h => exact BkRes.below h hb
  | 4, h => exact h
  | 5, h => exact h
  | 6, h => exact h
  | 7, h => exact NewBox.below h hb
  | 8, h => exact NewBox.below h hb
  | _ + 9, _ => trivial
/-- The two boxes behind their stores. -/
theorem ordBox_of {W0 y : World} {q : M.Bk × M.Rp} {A1 A2 : Option Addr} {c1 c2 : Nat} {rs : List Wr} {G H : Nat} (o1 : SfOwn W0.heap.size y (.slice A1 rs.length c1) rs) (hm : rs.map Wr.wk = q.1.1) (o2 : LasOwn W0.heap.size y (.slice A2 q.1.2.length c2) q.1.2)
    (hap : ∀ g, (Value.slice A2 q.1.2.length c2).ownBlock = some g → ¬ blocksS (.slice A1 rs.length c1) rs g) (hG : Holds y G (bkA none 0 0 none 0 0)) (hH : Holds y H (rpA 0 noP)) (hg : W0.heap.size ≤ G) (hh : W0.heap.size ≤ H) (hGH : G ≠ H) (hGB : ¬ blocksB (.slice A1 rs.length c1) (.slice A2 q.1.2.length c2) rs G) (hHB : ¬ blocksB (.slice A1 rs.length c1) (.slice A2 q.1.2.length c2) rs H) (hb : Below W0.heap.size W0 y) :
    OrdBox W0 q (.pointer (some ⟨G, 0, none⟩)) (.pointer (some ⟨H, 0, none⟩)) ((((y.setCell ⟨G, 0, none⟩ (.slice A1 rs.length c1)).setCell ⟨G, 1, none⟩ (.slice A2 q.1.2.length c2)).setCell ⟨H, 0, none⟩ (.int .i64 q.2.1)).setCell ⟨H, 1, none⟩ (.string q.2.2)) :=
  ⟨A1, c1, A2, c2, rs, G, H, rfl, rfl, hg, hh, hGH, far_2 (far_2 hb hg _ _) hh _ _,
    ⟨(hG.wr2 _ _).off2 hGH _ _, (((o1.offN (fun e => hGB (.inl e)) 0 _).offN (fun e => hGB (.inl e)) 1 _).offN (fun e => hHB (.inl e)) 0 _).offN (fun e => hHB (.inl e)) 1 _, own_off (own_off (own_off (own_off o2 (fun e => hGB (.inr e)) 0 _) (fun e => hGB (.inr e)) 1 _) (fun e => hHB (.inr e)) 0 _) (fun e => hHB (.inr e)) 1 _⟩,
    (hH.off2 (fun e => hGH e.symm) _ _).wr2 _ _, hm, hap, hGB, hHB⟩
end Go.Proofs.YtjdaeecmgkhpmaaGreat
namespace Go.Proofs.YtjdaeecmgkhpmaaGreat
open Go.RowKit
set_option maxRecDepth 20000
theorem rp_one (l : List M.Rp) : ∀ u ∈ cellsOf rpL l, u.oneCell' = true := by
  intro u hu
  obtain ⟨c, _, hc⟩ := List.mem_flatMap.1 hu
  simp at hc
  rcases hc with rfl | rfl <;> rfl
theorem one_flatRp (w : World) (c : Int) (p : ByteArray) (t : TypeId) : Rps (w.alloc (.cells (rpA c p) t)) (some ⟨w.heap.size, 0, none⟩) [((c, p) : M.Rp)] := by
  refine .inr ⟨w.heap.size, 0, rfl, by simp, fun i t' x u hi hu => ?_⟩
  have h := (holds_new w (rpA c p) t).2
  rcases i with _ | i
  · simp at hi
    subst hi
    rw [Nat.zero_mul, Nat.add_zero, Nat.zero_add]
    exact h t' u (by simpa using hu)
  · simp at hi
theorem RpsOwn.nil (B : Nat) (w : World) : RpsOwn B w (.slice none 0 0) [] := World.ownsRow_nil _ _ _ _
theorem BkSt.kept {w w' : World} {W B b : Nat} {rs : List Wr} {G : Nat} {v : Value} {ls : List M.La} {row : Option Nat} (h : BkSt w W B b rs G v ls) (hg : w.grownBy w' row) (hne : ∀ g, row = some g → ¬ bkS b G v g ∧ ∀ r ∈ rs, r.sl.ownBlock ≠ some g) : BkSt w' W B b rs G v ls :=
  { h with map := h.map.kept hg (fun e => (hne b e.symm).1 (.inl rfl)), own := ⟨fun r hr => World.ownsRow.kept (h.own.1 r hr) hg (own_two (fun z hz e => (hne z e).2 r hr hz)), h.own.2⟩, top := Nat.le_trans h.top hg.size, box := grown_holds h.box hg (fun e => (hne G e.symm).1 (.inr (.inl rfl))), loose := grown_loose h.loose h.box.1 hg (fun e => (hne G e.symm).1 (.inr (.inl rfl))), las := World.ownsRow.kept h.las hg (own_two (fun z hz e => (hne z e).1 (.inr (.inr hz)))) }
/-- What AllOrdered answers. -/
def AllRet (w : World) (q : M.Bk × List M.Rp) (e : Ending) (w' : World) : Prop :=
  ∃ v1 v2 v3 rs', e = .returned (.tuple #[.agg #[v1, v2], v3]) ∧ SfOwn w.heap.size w' v1 rs' ∧ rs'.map Wr.wk = q.1.1 ∧ LasOwn w.heap.size w' v2 q.1.2 ∧ (∀ g, v2.ownBlock = some g → ¬ blocksS v1 rs' g) ∧ RpsOwn w.heap.size w' v3 q.2 ∧ (∀ g, v3.ownBlock = some g → ¬ blocksB v1 v2 rs' g) ∧ Below w.heap.size w w'
/-- Between two orders of the program's loop. -/
structure AllSt (w0 : World) (W : Nat) (p : Nat) (b0 : M.Bk) (os : List M.Or) (G b : Nat) (j : Nat) (v7 : Value) (wr : World) : Prop where
  book : ∃ rs v, rs.map Wr.wk = (M.ordTo b0 (os.take j)).1.1 ∧ BkSt wr W (b + 1) b rs G v (M.ordTo b0 (os.take j)).1.2 ∧ ∀ k, v7.ownBlock = some k → ¬ bkS b G v k ∧ ∀ r ∈ rs, r.sl.ownBlock ≠ some k
  reps : RpsOwn W wr v7 (M.ordTo b0 (os.take j)).2
  below : Below w0.heap.size w0 wr
  box : Holds wr p (bkA none 0 0 none 0 0)
  loose : Loose wr p
/-- Between two orders of the model's loop. -/
structure AllSp (w0 : World) (B p0 p : Nat) (b0 : M.Bk) (os : List M.Or) (j : Nat) (v6 : Value) (wr : World) : Prop where
  book : ∃ A1 c1 A2 c2 rs, BB B wr p0 A1 c1 A2 c2 rs (M.ordTo b0 (os.take j)).1.2 ∧ rs.map Wr.wk = (M.ordTo b0 (os.take j)).1.1 ∧ (∀ g, (Value.slice A2 (M.ordTo b0 (os.take j)).1.2.length c2).ownBlock = some g → ¬ blocksS (.slice A1 rs.length c1) rs g) ∧ ∀ g, v6.ownBlock = some g → ¬ blocksB (.slice A1 rs.length c1) (.slice A2 (M.ordTo b0 (os.take j)).1.2.length c2) rs g
  reps : RpsOwn B wr v6 (M.ordTo b0 (os.take j)).2
  below : Below w0.heap.size w0 wr
  box : Holds wr p (bkA none 0 0 none 0 0)
  loose : Loose wr p
  loose0 : Loose wr p0
/-- What is so of the values of 'x, r := Ordered(b, list[i])' ahead of its stores. -/
def OrdF13 (bv lv iv av ov : Value) (B : Nat) (q : M.Bk × M.Rp) : Nat → Value → (Nat → Prop) → World → Prop
  | 0, v, _, _ => v = bv
  | 1, v, _, _ => v = lv
  | 2, v, _, _ => v = iv
  | 3, v, _, _ => v = av
  | 4, v, _, _ => v = ov
  | 5, v, E, x => BkRes B q v E x
  | 6, v, _, _ => ∃ a b, v = .tuple #[a, b]
  | 7, _, _, _ => True
  | 8, _, _, _ => True
  | 9, v, E, x => NewBox (bkA none 0 0 none 0 0) v E x
  | 10, v, E, x => NewBox (rpA 0 noP) v E x
  | _, _, _, _ => True
theorem ordF13_st (bv lv iv av ov : Value) (B : Nat) (q : M.Bk × M.Rp) (i : Nat) (v : Value) (E : Nat → Prop) (x y : World) (h : OrdF13 bv lv iv av ov B q i v E x) (hb : Below x.heap.size x y) : OrdF13 bv lv iv av ov B q i v E y := by
  match i, h with
  | 0, h => exact h
  | 1, h => exact h
  | 2, h => exact h
  | 3, h => exact h
  | 4, h => exact h
  | 5, h => exact BkRes.below h hb
  | 6, h => exact h
  | 7, h => exact h
  | 8, h => exact h
  | 9, h => exact NewBox.below h hb
  | 10, h => exact NewBox.below h hb
  | _ + 11, _ => trivial
end Go.Proofs.YtjdaeecmgkhpmaaGreat
namespace Go.Proofs.YtjdaeecmgkhpmaaGreat
open Go.RowKit
set_option maxRecDepth 20000
theorem results_iAll (a b c : Value) (R : Nat) (W : World) (tmps : Array Value) (h4 : tmps.getD 4 undef = .pointer (some ⟨R, 0, none⟩)) (h5 : tmps.getD 5 undef = c) (hR : Holds W R #[a, b]) :
    (results Tryz.f18 tmps).run Tryz.prog W = .ok (.tuple #[.agg #[a, b], c]) W := by
  obtain ⟨q0, q1⟩ := hR.two
  simp at h4 h5
  simp [results, Tryz.results18, go_sem, h4, h5, q0, q1]
set_option maxHeartbeats 8000000 in
theorem implAllOrdered (A : Option Addr) (l : List Wr) (cap : Nat) (A2 : Option Addr) (m : List M.La) (cb : Nat) (AO : Option Addr) (os : List M.Or) (co : Nat) (w : World) (hl : Wks w A l) (hlen : l.length ≤ 1048576) (hp : WrsIn 1048576 l) (hm : Las w A2 m) (hml : m.length ≤ 1048576) (hmp : ∀ c ∈ m, laIn 1048576 c) (ho : Ors w AO os) (hol : os.length ≤ 1048576) (hop : ∀ o ∈ os, orIn 1048576 o) :
    Calls Tryz.prog 18 #[bkV A l.length cap A2 m.length cb, .slice AO os.length co] w (AllRet w (M.allOrdered (l.map Wr.wk, m) os)) := by
  have HL := Lib.hid hl
  have HP := Lib.hid hp
  have HM := Lib.hid hm
  have HMP := Lib.hid hmp
  have HO := Lib.hid ho
  have HOP := Lib.hid hop
  clear hl hp hm hmp ho hop
  have hM := ((Mem.start w).new (bkA A l.length cap A2 m.length cb) 37).new (bkA none 0 0 none 0 0) 37
  simp only [World.size_alloc] at hM
  rcases hok : M.bkOk (l.map Wr.wk) m with _ | _
  · have HE : Hid (M.allOrdered (l.map Wr.wk, m) os = (([], []), [])) := Lib.hid (by unfold M.allOrdered; simp [hok])
    have HOK := Lib.hid hok
    clear hok
    go_enter Tryz.func18, Tryz.ntmps18
    go_wp2_with fail
    refine (implBookOk A l cap A2 m cb _ (HL.out.below hM.1) hlen HP.out (HM.out.below hM.1) hml).mono ?_
    rintro e x1 ⟨rfl, b1⟩
    rw [HOK.out]
    have hM1 := hM.below b1
    clear hM b1
    have HM1 := Lib.hid hM1
    clear hM1
    obtain ⟨q0, q1⟩ := (HM1.out.get (w.heap.size + 1) (bkA none 0 0 none 0 0) (by simp)).two
    have y0 := HM1.out.loose (w.heap.size + 1) (by simp) 0
    have y1 := HM1.out.loose (w.heap.size + 1) (by simp) 1
    go_wp2
    refine bodyPost_ret (results_iAll (.slice none 0 0) (.slice none 0 0) (.slice none 0 0) (w.heap.size + 1) _ _ rfl rfl ((HM1.out.get (w.heap.size + 1) (bkA none 0 0 none 0 0) (by simp)).wr2 _ _)) rfl ⟨.slice none 0 0, .slice none 0 0, .slice none 0 0, [], rfl, ⟨⟨rfl, .inl ⟨rfl, rfl⟩⟩, by simp, by simp, List.Pairwise.nil⟩, by rw [HE.out]; rfl, by rw [HE.out]; exact LasOwn.nil _ _, fun g e => (by cases e), by rw [HE.out]; exact RpsOwn.nil _ _, fun g e => (by cases e), far_2 HM1.out.1 (by omega) _ _⟩
  rcases Nat.lt_or_ge 400 os.length with h4 | h4
  · have HE : Hid (M.allOrdered (l.map Wr.wk, m) os = (([], []), [])) := Lib.hid (by unfold M.allOrdered; rw [if_neg (by simp; omega)])
    have HOK := Lib.hid hok
    clear hok
    go_enter Tryz.func18, Tryz.ntmps18
    go_wp2_with fail
    refine (implBookOk A l cap A2 m cb _ (HL.out.below hM.1) hlen HP.out (HM.out.below hM.1) hml).mono ?_
    rintro e x1 ⟨rfl, b1⟩
    rw [HOK.out]
    have hM1 := hM.below b1
    clear hM b1
    have HM1 := Lib.hid hM1
    clear hM1
    obtain ⟨q0, q1⟩ := (HM1.out.get (w.heap.size + 1) (bkA none 0 0 none 0 0) (by simp)).two
    have y0 := HM1.out.loose (w.heap.size + 1) (by simp) 0
    have y1 := HM1.out.loose (w.heap.size + 1) (by simp) 1
    go_wp2
    refine bodyPost_ret (results_iAll (.slice none 0 0) (.slice none 0 0) (.slice none 0 0) (w.heap.size + 1) _ _ rfl rfl ((HM1.out.get (w.heap.size + 1) (bkA none 0 0 none 0 0) (by simp)).wr2 _ _)) rfl ⟨.slice none 0 0, .slice none 0 0, .slice none 0 0, [], rfl, ⟨⟨rfl, .inl ⟨rfl, rfl⟩⟩, by simp, by simp, List.Pairwise.nil⟩, by rw [HE.out]; rfl, by rw [HE.out]; exact LasOwn.nil _ _, fun g e => (by cases e), by rw [HE.out]; exact RpsOwn.nil _ _, fun g e => (by cases e), far_2 HM1.out.1 (by omega) _ _⟩
  have HE : Hid (M.allOrdered (l.map Wr.wk, m) os = M.ordTo (l.map Wr.wk, m) os) := Lib.hid (by unfold M.allOrdered; simp [hok, h4])
  have HOKL : Hid (M.sfOk (l.map Wr.wk) = true) := Lib.hid (by simp only [M.bkOk, Bool.and_eq_true] at hok; exact hok.1)
  have HKEEP := Lib.hid (fun j => M.ordTo_ok (b := (l.map Wr.wk, m)) hok os j)
  have HOK := Lib.hid hok
  clear hok
  obtain ⟨i0, hi, hz0, hz1, hz2⟩ := info_parts infoRps
  go_enter Tryz.func18, Tryz.ntmps18
  go_wp2_with fail
  refine (implBookOk A l cap A2 m cb _ (HL.out.below hM.1) hlen HP.out (HM.out.below hM.1) hml).mono ?_
  rintro e x1 ⟨rfl, b1⟩
  rw [HOK.out]
  have hM1 := hM.below b1
  clear hM b1
  obtain ⟨p0, p1⟩ := (hM1.get w.heap.size (bkA A l.length cap A2 m.length cb) (by simp)).two
  have hx1 : (w.heap.size + 1) < x1.heap.size := (hM1.get (w.heap.size + 1) (bkA none 0 0 none 0 0) (by simp)).1
  go_wp2_with fail
  refine (bookOf_any A l cap A2 m cb _ (HL.out.below hM1.1) (sfOk_rise HOKL.out).1 hlen HP.out (HM.out.below hM1.1) hml HMP.out).mono ?_
  rintro e x2 ⟨b, rs, v, rfl, hb1, hrs, hmap, hown, hb2, hlas, hblk, b2⟩
  obtain ⟨A3, c3, rfl, -, -⟩ := LasOwn.open hlas
  have hM2 := hM1.below b2
  have hM3 := hM2.alloc (.cells #[.map (some b), .slice A3 m.length c3] 78)
  have bA := (Below.refl x2.heap.size x2).alloc (Nat.le_refl _) (.cells #[.map (some b), .slice A3 m.length c3] 78)
  have hst : BkSt (x2.alloc (.cells #[.map (some b), .slice A3 m.length c3] 78)) x1.heap.size (b + 1) b rs x2.heap.size (.slice A3 m.length c3) m :=
    ⟨(hmap.tight).kept (grown_lw bA none) (by simp), hown.below bA, by rw [hrs]; exact HOKL.out, Nat.lt_succ_self _, by simp; omega, holds_new _ _ _, loose_new _ _ _, LasOwn.below hlas bA, HMP.out, by omega, fun r hr e => by have := ((hown.1 r hr).lt _ e).2; omega, fun e => by have := (hblk _ e).1; omega, fun e => by have := (World.ownsRow.lt hlas _ e).2; omega, fun r hr k e e' => by have := (hblk _ e').2 r hr k e; omega, by omega, by omega⟩
  have HST0 : Hid (AllSt w x1.heap.size (w.heap.size + 1) (l.map Wr.wk, m) os x2.heap.size b 0 (.slice none 0 0) (x2.alloc (.cells #[.map (some b), .slice A3 m.length c3] 78))) := Lib.hid ⟨⟨rs, _, hrs, hst, fun k e => by cases e⟩, RpsOwn.nil _ _, hM3.1, hM3.get (w.heap.size + 1) (bkA none 0 0 none 0 0) (by simp), hM3.loose (w.heap.size + 1) (by simp)⟩
  have HWB : Hid (x1.heap.size ≤ b) := Lib.hid hb1
  have HWG : Hid (x1.heap.size ≤ x2.heap.size) := Lib.hid b2.size
  clear hM1 hM2 hM3 hmap hown hlas hblk b2 bA hst hrs p0 p1 hb1 hb2
  go_wp2_with fail
  go_loopw [7, 23] (fun s7 s23 wr => ∃ (j : Nat) (A7 : Option Addr) (c7 : Nat), s23 = .int .i64 j ∧ j ≤ os.length ∧ s7 = .slice A7 j c7 ∧ AllSt w x1.heap.size (w.heap.size + 1) (l.map Wr.wk, m) os x2.heap.size b j (.slice A7 j c7) wr) (fun _ i _ => os.length - (intOf i).toNat)
  case atStart => exact ⟨0, none, 0, rfl, Nat.zero_le _, rfl, HST0.out⟩
  case round =>
    obtain ⟨j, A7, c7, rfl, hj, rfl, hst⟩ := hrel
    have HS := Lib.hid hst
    clear hst HST0
    by_cases hlt : j < os.length
    · obtain ⟨ob, oo, rfl, zo, c0, c1, c2, c3, c4, c5, c6, c7', c8⟩ := Ors_at (HO.out.below HS.out.below) hlt
      obtain ⟨⟨hn1, hp1⟩, -⟩ : orIn 1048576 os[j] ∧ True := ⟨HOP.out os[j] (List.getElem_mem hlt), trivial⟩
      have HSUC := Lib.hid (M.ordTo_succ (l.map Wr.wk, m) os j hlt)
      have HLEN := Lib.hid (M.ordTo_len (l.map Wr.wk, m) os j (by omega))
      obtain ⟨rs2, v2, hmp, hbk, hap⟩ := HS.out.book
      have ba := (Below.refl wr.heap.size wr).alloc (Nat.le_refl _) (.cells (orC os[j]) 47)
      have HBK := Lib.hid (hbk.below ba)
      have HAP := Lib.hid hap
      have HMP2 := Lib.hid hmp
      have HBA := Lib.hid ba
      have hls : (M.ordTo (l.map Wr.wk, m) (os.take j)).1.2.length ≤ 1048575 := by
        have h := HKEEP.out j
        simp only [M.bkOk, Bool.and_eq_true] at h
        have := M.lasOk_len h.2
        omega
      clear hmp hbk hap ba
      go_wp2_with fail
      have hcall := ordered_any x1.heap.size (b + 1) b rs2 x2.heap.size v2 (M.ordTo (l.map Wr.wk, m) (os.take j)).1.2 os[j] _ HBK.out hls hn1 hp1
      rw [HMP2.out] at hcall
      refine hcall.mono ?_
      rintro e y1 ⟨rfl, ht, rs3, v3, hmp3, hst3, hfr⟩
      obtain ⟨q, hq⟩ : ∃ q, M.ordI (M.ordTo (l.map Wr.wk, m) (os.take j)).1 os[j] = q := ⟨_, rfl⟩
      have hq' : M.ordI ((M.ordTo (l.map Wr.wk, m) (os.take j)).1.1, (M.ordTo (l.map Wr.wk, m) (os.take j)).1.2) os[j] = q := hq
      rw [hq'] at hmp3 hst3 ⊢
      have HQ := Lib.hid hq
      have HT := Lib.hid ht
      have HST3 := Lib.hid hst3
      have HFR := Lib.hid hfr
      have HMP3 := Lib.hid hmp3
      clear hcall hq hq' ht hst3 hfr hmp3 c0 c1 c2 c3 c4 c5 c6 c7' c8
      have HR1 : Hid (RpsOwn x1.heap.size y1 (.slice A7 j c7) (M.ordTo (l.map Wr.wk, m) (os.take j)).2) := Lib.hid (HT.out.row (World.ownsRow.mono (Own.below HS.out.reps HBA.out) (Nat.le_refl _)) (fun g hg hg' => (HAP.out g hg).1 hg'))
      have HSB : Hid (∀ g, bkS b x2.heap.size v2 g → x1.heap.size ≤ g) := Lib.hid (fun g hg => by
        rcases hg with rfl | rfl | hg
        · exact HWB.out
        · exact HWG.out
        · exact (World.ownsRow.lt HBK.out.las g hg).1)
      have HB1 : Hid (Below w.heap.size w y1) := Lib.hid ((HS.out.below.trans (HBA.out.mono HS.out.below.size)).trans (HT.out.low w.heap.size (Nat.le_trans HS.out.below.size HBA.out.size) (fun g hg => by have := HSB.out g hg; omega)))
      have hb1 : Holds y1 (w.heap.size + 1) (bkA none 0 0 none 0 0) := HT.out.holds (HS.out.box.below HBA.out) (fun hg => by have := HSB.out _ hg; omega)
      have hl1 : Loose y1 (w.heap.size + 1) := HT.out.loose (HS.out.loose.below HS.out.box.1 HBA.out) (HS.out.box.below HBA.out).1 (fun hg => by have := HSB.out _ hg; omega)
      have HBX := Lib.hid (show _ ∧ _ from ⟨hb1, hl1⟩)
      have hy1 : x1.heap.size ≤ y1.heap.size := Nat.le_trans (Nat.le_of_lt (show x1.heap.size < y1.heap.size from Nat.lt_of_le_of_lt HWG.out HST3.out.box.1)) (Nat.le_refl _)
      clear hb1 hl1
      have hr1 : World.ownsRow y1 x1.heap.size 39 2 (.slice A7 j c7) j (cellsOf rpL (M.ordTo (l.map Wr.wk, m) (os.take j)).2) := by
        have h := HR1.out
        unfold RpsOwn at h
        rw [HLEN.out] at h
        exact h
      have HR2 := Lib.hid hr1
      clear hr1
      go_wp2_with (at_builtin; refine wpList_append_flat_at (k := 2) (enc := rpL) (l := [((q.2.1, q.2.2) : M.Rp)]) rfl _ _ 55 rfl x1.heap.size 39 i0 _ 24 Tryz.underlying55 hi hz0 hz1 hz2 rfl (by decide) _ j _ rfl (World.ownsRow.alloc HR2.out _) (some ⟨y1.heap.size, 0, none⟩) 1 rfl (fun h => by cases h) (one_flatRp y1 q.2.1 q.2.2 _) rpL_len (rp_one _) (by simp only [List.length_singleton]; unfold maxLen; omega) (by simp only [List.length_singleton]; omega) (by simp; omega) ?_; intro v9 w9 own9 grow9 at9)
      obtain ⟨A9, c9, rfl⟩ := row_form own9
      have HW9 := Lib.hid (show _ ∧ _ ∧ _ from ⟨own9, grow9, at9⟩)
      clear own9 grow9 at9
      go_roundw
      case rel =>
        have bq := (Below.refl y1.heap.size y1).alloc (Nat.le_refl _) (.cells (rpA q.2.1 q.2.2) 39)
        obtain ⟨own9, grow9, at9⟩ := HW9.out
        have hlt9 := fun g (hg : (Value.slice A7 j c7).ownBlock = some g) => World.ownsRow.lt HR2.out g hg
        have hold : ∀ g, (Value.slice A7 j c7).ownBlock = some g → ¬ bkS b x2.heap.size v3 g ∧ ∀ r ∈ rs3, r.sl.ownBlock ≠ some g := fun g hg => by
          have hgo := (World.ownsRow.lt HS.out.reps g hg).2
          have h1 := (HAP.out g hg)
          have hfrom := fun k hk => HFR.out k hk
          have hsz := HBA.out.size
          refine ⟨fun hk => ?_, fun r hr hk => ?_⟩
          · rcases hk with hk | hk | hk
            · exact h1.1 (.inl hk)
            · exact h1.1 (.inr (.inl hk))
            · rcases hfrom g (.inl hk) with h2 | h2 | ⟨x, hx, h2⟩
              · omega
              · exact h1.1 (.inr (.inr h2))
              · exact h1.2 x hx h2
          · rcases hfrom g (.inr ⟨r, hr, hk⟩) with h2 | h2 | ⟨x, hx, h2⟩
            · omega
            · exact h1.1 (.inr (.inr h2))
            · exact h1.2 x hx h2
        have hst4 := (HST3.out.below bq).kept grow9 hold
        have hnew : ∀ g, (Value.slice A9 (j + 1) c9).ownBlock = some g → ¬ bkS b x2.heap.size v3 g ∧ ∀ r ∈ rs3, r.sl.ownBlock ≠ some g := fun g hg => by
          rcases at9 with e | e
          · exact hold g (e ▸ hg)
          · have e' : g = (y1.alloc (.cells (rpA q.2.1 q.2.2) 39)).heap.size := Option.some.inj (hg.symm.trans e)
            simp only [World.size_alloc] at e'
            have := HST3.out.st.top
            refine ⟨fun hk => ?_, fun r hr hk => ?_⟩
            · rcases hk with hk | hk | hk
              · have := HST3.out.low; omega
              · have := HST3.out.box.1; omega
              · have := (World.ownsRow.lt HST3.out.las g hk).2; omega
            · have := ((HST3.out.own.1 r hr).lt g hk).2; omega
        refine ⟨j + 1, A9, c9, by go_num, by omega, rfl, ⟨⟨rs3, v3, ?_, ?_, hnew⟩, ?_, (HB1.out.trans (bq.mono HB1.out.size)).grown grow9 (Nat.le_trans HB1.out.size bq.size) (fun k hk => by have := (hlt9 k hk).1; omega), grown_holds (HBX.out.1.below bq) grow9 (fun e => by have := (hlt9 _ e.symm).1; omega), grown_loose (HBX.out.2.below HBX.out.1.1 bq) (HBX.out.1.below bq).1 grow9 (fun e => by have := (hlt9 _ e.symm).1; omega)⟩⟩
        · rw [HSUC.out, HQ.out]; exact HMP3.out
        · rw [HSUC.out, HQ.out]; exact hst4
        · rw [HSUC.out, HQ.out]
          unfold RpsOwn
          rw [List.length_append, HLEN.out, cellsOf_append]
          exact own9
      case measure => simp [intOf]; omega
    · have hj' : j = os.length := by omega
      subst hj'
      obtain ⟨rs2, v2, hmp, hbk, hap⟩ := HS.out.book
      have hreps := HS.out.reps
      rw [List.take_length] at hmp hbk hreps
      obtain ⟨A4, c4, rfl, -, -⟩ := LasOwn.open hbk.las
      have HBK := Lib.hid hbk
      have HAP := Lib.hid hap
      have HMP2 := Lib.hid hmp
      have HREP := Lib.hid hreps
      obtain ⟨g0, g1⟩ := hbk.box.two
      have zg := hbk.box.1
      clear hmp hbk hap hreps
      go_wp2_with fail
      refine (written_any (b + 1) b rs2.length rs2 A4 _ c4 _ HBK.out.map HBK.out.rise HBK.out.own HBK.out.top (by have := (wrs_ok HBK.out.ok).1; omega) (fun r hr => Nat.le_trans ((wrs_ok HBK.out.ok).2 r hr).1 (by omega))).mono ?_
      rintro e y1 ⟨A9, c9, rfl, hs9, hn9, b1⟩
      have hbx := HS.out.box.below b1
      have hlx := HS.out.loose.below HS.out.box.1 b1
      obtain ⟨q0, q1⟩ := hbx.two
      have y0 := hlx 0
      have y1' := hlx 1
      have zq := hbx.1
      have HBX := Lib.hid hbx
      have HS9 := Lib.hid hs9
      have HN9 := Lib.hid hn9
      have HB1 := Lib.hid b1
      clear hbx hlx hs9 hn9 b1 g0 g1 zg
      go_wp2
      have hWB := HWB.out
      have hgv := fun g (e : (Value.slice A4 (M.ordTo (l.map Wr.wk, m) os).1.2.length c4).ownBlock = some g) => World.ownsRow.lt HBK.out.las g e
      have hgr := fun g (e : (Value.slice A7 os.length c7).ownBlock = some g) => World.ownsRow.lt HREP.out g e
      refine bodyPost_ret (results_iAll (.slice A9 rs2.length c9) (.slice A4 (M.ordTo (l.map Wr.wk, m) os).1.2.length c4) (.slice A7 os.length c7) (w.heap.size + 1) _ _ rfl rfl (HBX.out.wr2 _ _)) rfl ⟨.slice A9 rs2.length c9, .slice A4 (M.ordTo (l.map Wr.wk, m) os).1.2.length c4, .slice A7 os.length c7, rs2, rfl, ((HS9.out.set (by omega) 0 _).set (by omega) 1 _).mono (by omega), by rw [HE.out]; exact HMP2.out, ?_, fun g e hg => ?_, ?_, fun g e hg => ?_, far_2 (next HS.out.below HB1.out) (by omega) _ _⟩
      · rw [HE.out]
        exact LasOwn.mono (own_off (own_off (LasOwn.below HBK.out.las HB1.out) (fun e => by have := (hgv _ e).1; omega) 0 _) (fun e => by have := (hgv _ e).1; omega) 1 _) (by omega)
      · rcases hg with hg | ⟨r, hr, hg⟩
        · have h1 := HN9.out g hg
          have := (hgv g e).2
          omega
        · exact HBK.out.vr r hr g hg e
      · rw [HE.out]
        exact World.ownsRow.mono (own_off (own_off (Own.below HREP.out HB1.out) (fun e => by have := (hgr _ e).1; omega) 0 _) (fun e => by have := (hgr _ e).1; omega) 1 _) (by omega)
      · rcases hg with (hg | ⟨r, hr, hg⟩) | hg
        · have h1 := HN9.out g hg
          have := (hgr g e).2
          omega
        · exact (HAP.out g e).2 r hr hg
        · exact (HAP.out g e).1 (.inr (.inr hg))
end Go.Proofs.YtjdaeecmgkhpmaaGreat
