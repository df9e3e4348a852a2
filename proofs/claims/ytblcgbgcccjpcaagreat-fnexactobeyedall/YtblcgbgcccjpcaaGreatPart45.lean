/- Proved, in parts: Proved: a statement with one chain of calls, beside it operations that wait for nothing, and then stores, is gone through operation by operation, whatever order they come up in: of each of the first is shown what its value is in every later memory and which blocks are its own. No program is named here. Condition: als told by a closed test on the statement. Proved: how the law on Ordered holds its books in memory, and what writes elsewhere leave of them; what an order leaves is small. No program's function is named here; no condition. Proved: how many entries' answer stands in memory. No program's function is named here; no condition. Proved: the program's obeyed answers a plain Lean function, and leaves the book as it tells; so does its Obeyed, its book in new memory. Condition: texts and lists of at most a million. -/
import Derived.Test.YtblcgbgcccjpcaaGreatPart02
import Derived.Test.YtblcgbgcccjpcaaGreatPart01
import Derived.Test.YtblcgbgcccjpcaaGreatPart44
import Derived.Test.YtblcgbgcccjpcaaGreatPart30
import Derived.Test.YtblcgbgcccjpcaaGreatPart31
namespace Go.Proofs.YtblcgbgcccjpcaaGreat
open Go Go.RowKit

def dstAt (ops : Array Oper) (i : Nat) : Option Nat := (ops[i]?).bind fun o => o.dst
def waitsOn (o : Oper) (j : Nat) : Bool := o.after.any fun e => Region.binds .any e && e.on == j
structure PreI (Le : World → World → Prop) (F : Nat → Value → (Nat → Prop) → World → Prop) (lk : Nat → Option Nat) (rel : Nat → Value → Value → Prop) (ops : Array Oper) (n : Nat) (a0 : Act) (w0 : World) (l : Nat → Bool) (a : Act) (w : World) (u : Nat → Value) (e : Nat → Nat → Prop) : Prop where
  val : ∀ i d, i < n → l i = true → dstAt ops i = some d → a.tmps[d]? = some (u i)
  old : ∀ d, (∀ i, i < n → l i = true → dstAt ops i ≠ some d) → a.tmps[d]? = a0.tmps[d]?
  size : a.tmps.size = a0.tmps.size
  defers : a.defers = a0.defers
  fact : ∀ i, i < n → l i = true → F i (u i) (e i) w
  link : ∀ i j, i < n → l i = true → lk i = some j → l j = true ∧ rel i (u j) (u i)
  foot : ∀ i g, i < n → l i = true → e i g → w0.heap.size ≤ g ∧ g < w.heap.size
  apart : ∀ i j g, i < n → j < n → i ≠ j → l i = true → l j = true → e i g → ¬ e j g
  below : Le w0 w
def fillAct (ops : Array Oper) (n : Nat) (u : Nat → Value) (a0 : Act) : Act :=
  ⟨(List.range n).foldl (fun t i => match dstAt ops i with
    | some d => t.setIfInBounds d (u i)
    | none => t) a0.tmps, a0.defers⟩
theorem fill_at (ops : Array Oper) (u : Nat → Value) (t : Array Value) : ∀ n, (((List.range n).foldl (fun t i => match dstAt ops i with
    | some d => t.setIfInBounds d (u i)
    | none => t) t).size = t.size) ∧ ∀ (D : Nat) (_ : D < t.size), (∀ i, i < n → dstAt ops i ≠ some D) → ((List.range n).foldl (fun t i => match dstAt ops i with
    | some d => t.setIfInBounds d (u i)
    | none => t) t)[D]? = t[D]?
  | 0 => ⟨rfl, fun _ _ _ => rfl⟩
  | n + 1 => by
    have ih := fill_at ops u t n
    rw [List.range_succ, List.foldl_append]
    simp only [List.foldl_cons, List.foldl_nil]
    refine ⟨?_, fun D hD hn => ?_⟩
    · split
      · simp [ih.1]
      · exact ih.1
    · split
      · rename_i d hd
        have hne : d ≠ D := fun e => hn n (by omega) (e ▸ hd)
        rw [Array.getElem?_setIfInBounds_ne hne]
        exact ih.2 D hD (fun i hi => hn i (by omega))
      · exact ih.2 D hD (fun i hi => hn i (by omega))
theorem fill_val (ops : Array Oper) (u : Nat → Value) (t : Array Value) : ∀ n, (∀ i j d, i < n → j < n → dstAt ops i = some d → dstAt ops j = some d → i = j) → ∀ i d, i < n → d < t.size → dstAt ops i = some d → ((List.range n).foldl (fun t i => match dstAt ops i with
    | some d => t.setIfInBounds d (u i)
    | none => t) t)[d]? = some (u i)
  | 0, _, _, _, h, _, _ => absurd h (by omega)
  | n + 1, hinj, i, d, hi, hd, hdst => by
    have hsz := (fill_at ops u t n).1
    rw [List.range_succ, List.foldl_append]
    simp only [List.foldl_cons, List.foldl_nil]
    by_cases e : i = n
    · subst e
      rw [hdst]
      simp only
      rw [Array.getElem?_setIfInBounds_self_of_lt (by rw [hsz]; exact hd)]
    · have ih := fill_val ops u t n (fun i j d hi hj => hinj i j d (by omega) (by omega)) i d (by omega) hd hdst
      split
      · rename_i d' hd'
        have hne : d' ≠ d := fun e' => e (hinj i n d hi (by omega) hdst (e' ▸ hd'))
        rw [Array.getElem?_setIfInBounds_ne hne]
        exact ih
      · exact ih


/-- A way for the memory to grow: what the operations may do to it. -/
structure Grows (Le : World → World → Prop) : Prop where
  refl : ∀ w, Le w w
  trans : ∀ a b c, Le a b → Le b c → Le a c
  size : ∀ a b, Le a b → a.heap.size ≤ b.heap.size
structure Laid (ops : Array Oper) (lk : Nat → Option Nat) (n sz : Nat) : Prop where
  dst : ∀ i, i < n → ∃ d, dstAt ops i = some d ∧ d < sz ∧ ∀ j, j < n → dstAt ops j = some d → i = j
  op : ∀ i, i < n → ∃ o, ops[i]? = some o ∧ o.guard = none ∧ ∀ j, lk i = some j → waitsOn o j = true ∧ j < n
/-- One operation more. -/
theorem PreI.put {Le : World → World → Prop} {F : Nat → Value → (Nat → Prop) → World → Prop} {lk : Nat → Option Nat} {rel : Nat → Value → Value → Prop} {ops : Array Oper} {n : Nat} {a0 : Act} {w0 : World} {l : Nat → Bool} {a : Act} {w y : World} {u : Nat → Value} {e0 : Nat → Nat → Prop} {i : Nat} {o : Oper} {v : Value} {E : Nat → Prop}
    (hp : PreI Le F lk rel ops n a0 w0 l a w u e0) (hLe : Grows Le) (hL : Laid ops lk n a0.tmps.size) (hst : ∀ i v E x y, F i v E x → Le x y → F i v E y) (hin : i < n) (ho' : ops[i]? = some o) (hli : l i = false)
    (hF : F i v E y) (hrel : ∀ j, lk i = some j → l j = true ∧ rel i (u j) v) (hb : Le w y) (hft : ∀ g, E g → w.heap.size ≤ g ∧ g < y.heap.size) :
    PreI Le F lk rel ops n a0 w0 (fun j => j == i || l j) (a.put o.dst v) y (fun j => if j = i then v else u j) (fun j => if j = i then E else e0 j) := by
  obtain ⟨d, hd, hdz, hdi⟩ := hL.dst i hin
  have hod : o.dst = some d := by
    unfold dstAt at hd
    rw [ho'] at hd
    exact hd
  have hput : (a.put o.dst v).tmps = a.tmps.setIfInBounds d v := by rw [hod]; rfl
  refine ⟨fun j d' hj hl hd' => ?_, fun d' hd' => ?_, ?_, ?_, fun j hj hl => ?_, fun j k hj hl hjk => ?_, fun j g hj hl hg' => ?_, fun j k g hj hk hne hlj hlk h1 h2 => ?_, hLe.trans _ _ _ hp.below hb⟩
  · rw [hput]
    by_cases e : j = i
    · subst e
      rw [hd] at hd'
      cases hd'
      rw [Array.getElem?_setIfInBounds_self_of_lt (by rw [hp.size]; exact hdz), if_pos rfl]
    · rw [if_neg e]
      have hne : d ≠ d' := fun e' => e (hdi j hj (e' ▸ hd')).symm
      rw [Array.getElem?_setIfInBounds_ne hne]
      exact hp.val j d' hj (by simpa [e] using hl) hd'
  · rw [hput]
    have hne : d ≠ d' := fun e' => hd' i hin (by simp) (e' ▸ hd)
    rw [Array.getElem?_setIfInBounds_ne hne]
    exact hp.old d' fun j hj hl => hd' j hj (by simp [hl])
  · rw [hput, Array.size_setIfInBounds]
    exact hp.size
  · rw [hod]
    exact hp.defers
  · by_cases e : j = i
    · subst e; rw [if_pos rfl, if_pos rfl]; exact hF
    · rw [if_neg e, if_neg e]
      exact hst j _ _ _ _ (hp.fact j hj (by simpa [e] using hl)) hb
  · by_cases e : j = i
    · subst e
      have h1 := (hrel k hjk).1
      have hne : k ≠ j := fun e' => by rw [e', hli] at h1; cases h1
      rw [if_pos rfl, if_neg hne]
      exact ⟨by simp [h1], (hrel k hjk).2⟩
    · have h1 := hp.link j k hj (by simpa [e] using hl) hjk
      have hne : k ≠ i := fun e' => by rw [e', hli] at h1; cases h1.1
      rw [if_neg e, if_neg hne]
      exact ⟨by simp [h1.1], h1.2⟩
  · by_cases e : j = i
    · subst e
      rw [if_pos rfl] at hg'
      have := hft g hg'
      exact ⟨Nat.le_trans (hLe.size _ _ hp.below) this.1, this.2⟩
    · rw [if_neg e] at hg'
      have := hp.foot j g hj (by simpa [e] using hl) hg'
      exact ⟨this.1, Nat.lt_of_lt_of_le this.2 (hLe.size _ _ hb)⟩
  · by_cases e : j = i
    · subst e
      rw [if_pos rfl] at h1
      rw [if_neg (fun e' => hne e'.symm)] at h2
      have ha := (hft g h1).1
      have hb' := (hp.foot k g hk (by simp only [Bool.or_eq_true, beq_iff_eq] at hlk; exact hlk.resolve_left fun e' => hne e'.symm) h2).2
      omega
    · rw [if_neg e] at h1
      by_cases e2 : k = i
      · subst e2
        rw [if_pos rfl] at h2
        have ha := (hft g h2).1
        have hb' := (hp.foot j g hj (by simpa [e] using hlj) h1).2
        omega
      · rw [if_neg e2] at h2
        exact hp.apart j k g hj hk hne (by simpa [e] using hlj) (by simpa [e2] using hlk) h1 h2
theorem PreI.all {Le : World → World → Prop} {F : Nat → Value → (Nat → Prop) → World → Prop} {lk : Nat → Option Nat} {rel : Nat → Value → Value → Prop} {ops : Array Oper} {n : Nat} {a0 : Act} {w0 : World} {l : Nat → Bool} {a : Act} {w : World} {u : Nat → Value} {e0 : Nat → Nat → Prop}
    (hp' : PreI Le F lk rel ops n a0 w0 l a w u e0) (hL : Laid ops lk n a0.tmps.size) (hall : ∀ i, i < n → l i = true) : a = fillAct ops n u a0 := by
  have hf := fill_at ops u a0.tmps n
  have hv := fill_val ops u a0.tmps n (fun p q d hp hq e1 e2 => by
    obtain ⟨d', h1, h2, h3⟩ := hL.dst p hp
    rw [e1] at h1
    cases h1
    exact h3 q hq e2)
  have ht : a.tmps = (fillAct ops n u a0).tmps := by
    refine Array.ext_getElem? fun D => ?_
    by_cases hD : D < a0.tmps.size
    · by_cases hx : ∃ j, j < n ∧ dstAt ops j = some D
      · obtain ⟨j, hj, hjd⟩ := hx
        rw [hp'.val j D hj (hall j hj) hjd]
        exact (hv j D hj hD hjd).symm
      · rw [hp'.old D fun j hj _ e => hx ⟨j, hj, e⟩]
        exact (hf.2 D hD fun j hj e => hx ⟨j, hj, e⟩).symm
    · rw [Array.getElem?_eq_none (by rw [hp'.size]; omega)]
      exact (Array.getElem?_eq_none (by have h1 := hf.1; show Array.size (List.foldl _ _ _) ≤ D; rw [h1]; omega)).symm
  have hdf : a.defers = a0.defers := hp'.defers
  rcases a with ⟨t, df⟩
  simp only at ht hdf
  subst ht hdf
  rfl
section
variable {Le : World → World → Prop} {P : Program} {ops : Array Oper} {Q : Exit → Act → World → Prop} {S : World → Prop} {F : Nat → Value → (Nat → Prop) → World → Prop} {lk : Nat → Option Nat} {rel : Nat → Value → Value → Prop} {n : Nat} {a0 : Act} {w0 : World} {rd : Nat → Bool}

end
end Go.Proofs.YtblcgbgcccjpcaaGreat
namespace Go.Proofs.YtblcgbgcccjpcaaGreat
open Go.RowKit
set_option maxRecDepth 20000
namespace M
end M
/-- A box with a book of one's own. -/
structure BB (B : Nat) (x : World) (G : Nat) (A1 : Option Addr) (c1 : Nat) (A2 : Option Addr) (c2 : Nat) (rs : List Wr) (ls : List M.La) : Prop where
  box : Holds x G (bkA A1 rs.length c1 A2 ls.length c2)
  sf : SfOwn B x (.slice A1 rs.length c1) rs
  la : LasOwn B x (.slice A2 ls.length c2) ls
theorem BB.below {B G c1 c2 : Nat} {x y : World} {A1 A2 : Option Addr} {rs : List Wr} {ls : List M.La} (h : BB B x G A1 c1 A2 c2 rs ls) (hb : Below x.heap.size x y) : BB B y G A1 c1 A2 c2 rs ls := ⟨h.box.below hb, h.sf.below hb, LasOwn.below h.la hb⟩
theorem BB.touch {S : Nat → Prop} {B G c1 c2 : Nat} {x y : World} {A1 A2 : Option Addr} {rs : List Wr} {ls : List M.La} (h : BB B x G A1 c1 A2 c2 rs ls) (ht : TouchS S x y) (hG : ¬ S G) (hne : ∀ g, blocksB (.slice A1 rs.length c1) (.slice A2 ls.length c2) rs g → ¬ S g) : BB B y G A1 c1 A2 c2 rs ls :=
  ⟨ht.holds h.box hG, ht.sf h.sf (fun g hg => hne g (.inl hg)), ht.row h.la (fun g hg => hne g (.inr hg))⟩
theorem BB.ge {B G c1 c2 : Nat} {x : World} {A1 A2 : Option Addr} {rs : List Wr} {ls : List M.La} (h : BB B x G A1 c1 A2 c2 rs ls) {g : Nat} (hg : blocksB (.slice A1 rs.length c1) (.slice A2 ls.length c2) rs g) : B ≤ g ∧ g < x.heap.size := by
  rcases hg with hg | hg
  · exact h.sf.ge hg
  · exact World.ownsRow.lt h.la g hg
theorem BB.las {B G c1 c2 : Nat} {x : World} {A1 A2 : Option Addr} {rs : List Wr} {ls : List M.La} (h : BB B x G A1 c1 A2 c2 rs ls) : Las x A2 ls := las_of h.la
/-- v is a copy of a book, to be given away. -/
def BkArg (l : List Wr) (m : List M.La) (v : Value) (x : World) : Prop :=
  ∃ (rs : List Wr) (g1 g2 : Nat), v = bkV (some ⟨g1, 0, none⟩) rs.length rs.length (some ⟨g2, 0, none⟩) m.length m.length ∧ rs.map Wr.wk = l.map Wr.wk ∧ rs.length = l.length ∧ (∀ r ∈ rs, r.ad ≠ none ∧ r.cap = r.cps.length) ∧ Wks x (some ⟨g1, 0, none⟩) rs ∧ Las x (some ⟨g2, 0, none⟩) m
theorem BkArg.below {l : List Wr} {m : List M.La} {v : Value} {x y : World} (h : BkArg l m v x) (hb : Below x.heap.size x y) : BkArg l m v y := by
  obtain ⟨rs, g1, g2, e, h1, h2, h3, h4, h5⟩ := h
  exact ⟨rs, g1, g2, e, h1, h2, h3, h4.below hb, h5.below hb⟩
/-- v is a book and a reply, E the book's blocks. -/
def BkRes (B : Nat) (q : M.Bk × M.Rp) (v : Value) (E : Nat → Prop) (x : World) : Prop :=
  ∃ A1 c1 A2 c2 rs, v = .tuple #[bkV A1 rs.length c1 A2 q.1.2.length c2, rpV q.2.1 q.2.2] ∧ SfOwn B x (.slice A1 rs.length c1) rs ∧ rs.map Wr.wk = q.1.1 ∧ LasOwn B x (.slice A2 q.1.2.length c2) q.1.2 ∧ (∀ g, (Value.slice A2 q.1.2.length c2).ownBlock = some g → ¬ blocksS (.slice A1 rs.length c1) rs g) ∧ ∀ g, E g ↔ blocksB (.slice A1 rs.length c1) (.slice A2 q.1.2.length c2) rs g
theorem BkRes.below {B : Nat} {q : M.Bk × M.Rp} {v : Value} {E : Nat → Prop} {x y : World} (h : BkRes B q v E x) (hb : Below x.heap.size x y) : BkRes B q v E y := by
  obtain ⟨A1, c1, A2, c2, rs, e, h1, h2, h3, h4, h5⟩ := h
  exact ⟨A1, c1, A2, c2, rs, e, h1.below hb, h2, LasOwn.below h3 hb, h4, h5⟩
/-- s points to a new box that holds C and may be written, E its block. -/
def NewBox (C : Array Value) (v : Value) (E : Nat → Prop) (x : World) : Prop :=
  ∃ g, v = .pointer (some ⟨g, 0, none⟩) ∧ Holds x g C ∧ Loose x g ∧ ∀ k, E k ↔ k = g
theorem NewBox.below {C : Array Value} {v : Value} {E : Nat → Prop} {x y : World} (h : NewBox C v E x) (hb : Below x.heap.size x y) : NewBox C v E y := by
  obtain ⟨g, e, h1, h2, h3⟩ := h
  exact ⟨g, e, h1.below hb, h2.below h1.1 hb, h3⟩
theorem toBook_at (A : Option Addr) (l : List Wr) (cap : Nat) (B : Option Addr) (m : List M.La) (cb : Nat) (w : World) (hl : Wks w A l) (hlen : l.length ≤ 1048576) (hp : WrsIn 1048576 l) (hml : Las w B m) (hmlen : m.length ≤ 1048576) :
    Calls Tryz.prog 44 #[bkV A l.length cap B m.length cb] w fun r w' => ∃ (rs : List Wr) (gA gB : Nat), r = .returned (bkV (some ⟨gA, 0, none⟩) rs.length rs.length (some ⟨gB, 0, none⟩) m.length m.length) ∧ rs.map Wr.wk = l.map Wr.wk ∧ rs.length = l.length ∧ BkArg l m (bkV (some ⟨gA, 0, none⟩) rs.length rs.length (some ⟨gB, 0, none⟩) m.length m.length) w' ∧ SfOwn w.heap.size w' (.slice (some ⟨gA, 0, none⟩) rs.length rs.length) rs ∧ LasOwn w.heap.size w' (.slice (some ⟨gB, 0, none⟩) m.length m.length) m ∧ (∀ g, (Value.slice (some ⟨gB, 0, none⟩) m.length m.length).ownBlock = some g → ¬ blocksS (.slice (some ⟨gA, 0, none⟩) rs.length rs.length) rs g) ∧ Below w.heap.size w w' :=
  (toBook_any A l cap B m cb w hl hlen hp hml hmlen).mono fun r w' ⟨v, rs, e, h1, h2, h3, ⟨gA, gB, e2, h4, h5, h6, h7⟩, h8⟩ => by
    subst e2
    refine ⟨rs, gA, gB, e, h1, h2, ⟨rs, gA, gB, rfl, h1, h2, h3, h4.wks.1, las_of h5⟩, h4, h5, fun g hg hb => ?_, h8⟩
    obtain rfl : gB = g := Option.some.inj hg
    rcases hb with hb | ⟨r, hr, hb⟩
    · have e : gA = gB := Option.some.inj hb
      omega
    · have := h7 r hr _ hb
      omega
end Go.Proofs.YtblcgbgcccjpcaaGreat
namespace Go.Proofs.YtblcgbgcccjpcaaGreat
open Go.RowKit
set_option maxRecDepth 20000
/-- What ObeyedAll answers. -/
def BkRet (w : World) (q : M.Bk) (e : Ending) (w' : World) : Prop :=
  ∃ v1 v2 rs', e = .returned (.agg #[v1, v2]) ∧ SfOwn w.heap.size w' v1 rs' ∧ rs'.map Wr.wk = q.1 ∧ LasOwn w.heap.size w' v2 q.2 ∧ (∀ g, v2.ownBlock = some g → ¬ blocksS v1 rs' g) ∧ Below w.heap.size w w'
/-- Between two entries of the program's loop. -/
structure EnSt (w0 : World) (W p : Nat) (b0 : M.Bk) (es : List M.En) (G b : Nat) (j : Nat) (wr : World) : Prop where
  book : ∃ rs v, rs.map Wr.wk = (M.obeyTo b0 (es.take j)).1 ∧ BkSt wr W (b + 1) b rs G v (M.obeyTo b0 (es.take j)).2
  below : Below w0.heap.size w0 wr
  box : Holds wr p (bkA none 0 0 none 0 0)
  loose : Loose wr p
/-- Between two entries of the model's loop. -/
structure EnSp (w0 : World) (B p0 p : Nat) (b0 : M.Bk) (es : List M.En) (j : Nat) (wr : World) : Prop where
  book : ∃ A1 c1 A2 c2 rs, BB B wr p0 A1 c1 A2 c2 rs (M.obeyTo b0 (es.take j)).2 ∧ rs.map Wr.wk = (M.obeyTo b0 (es.take j)).1 ∧ ∀ g, (Value.slice A2 (M.obeyTo b0 (es.take j)).2.length c2).ownBlock = some g → ¬ blocksS (.slice A1 rs.length c1) rs g
  below : Below w0.heap.size w0 wr
  box : Holds wr p (bkA none 0 0 none 0 0)
  loose : Loose wr p
  loose0 : Loose wr p0
end Go.Proofs.YtblcgbgcccjpcaaGreat
namespace Go.Proofs.YtblcgbgcccjpcaaGreat
open Go.RowKit
set_option maxRecDepth 20000
set_option linter.unusedVariables false
theorem results_obey (c : Int) (p : ByteArray) (R : Nat) (W : World) (tmps : Array Value) (h2 : tmps.getD 4 undef = .pointer (some ⟨R, 0, none⟩)) (hW : Holds W R (rpA c p)) :
    (results Tryz.f89 tmps).run Tryz.prog W = .ok (rpV c p) W := by
  obtain ⟨q0, q1⟩ := hW.two
  simp at h2
  simp [results, Tryz.results89, go_sem, h2, q0, q1]
theorem TouchS.join {S : Nat → Prop} {w w1 w2 : World} (h : TouchS S w w1) (h2 : TouchS S w1 w2) : TouchS S w w2 :=
  ⟨Nat.le_trans h.size h2.size, fun B hB hS => (h.low B hB hS).trans (h2.low B (Nat.le_trans hB h.size) hS), fun k hk hne => (h2.block k (Nat.lt_of_lt_of_le hk h.size) hne).trans (h.block k hk hne)⟩
set_option maxHeartbeats 2000000 in
theorem obeyed_bad (W B b : Nat) (rs : List Wr) (G : Nat) (v : Value) (ls : List M.La) (en : M.En) (w : World) (h : BkSt w W B b rs G v ls) (hll : ls.length ≤ 1048575) (hn : en.order.deed.name.size ≤ 1048576) (hpg : en.order.deed.page.size ≤ 1048576) (hok : M.entryOk en = false) :
    Calls Tryz.prog 89 #[.pointer (some ⟨G, 0, none⟩), enV en] w (OrdOut w W B b G v rs (M.obeyI (rs.map Wr.wk, ls) en)) := by
  have HE : Hid (M.obeyI (rs.map Wr.wk, ls) en = ((rs.map Wr.wk, ls), ((7 : Int), M.nilB))) := Lib.hid (by simp [M.obeyI, hok])
  have hM := ((Mem.start w).new (enC en) 70).new (rpA 0 noP) 33
  have hst := h.below (((Below.refl w.heap.size w).alloc (Nat.le_refl _) (.cells (enC en) 70)).alloc (by simp) (.cells (rpA 0 noP) 33))
  simp only [World.size_alloc] at hM
  have hGw : G < w.heap.size := h.box.1
  have hbw : b < w.heap.size := by have := h.low; have := h.top; omega
  have HLOW : Hid (∀ r ∈ rs, ∀ k, r.sl.ownBlock = some k → k < w.heap.size) := Lib.hid (fun r hr k e => ((h.own.1 r hr).lt k e).2)
  have HVL : Hid (∀ k, v.ownBlock = some k → k < w.heap.size) := Lib.hid (fun k e => (World.ownsRow.lt h.las k e).2)
  clear h
  go_enter Tryz.func89, Tryz.ntmps89
  go_wp2_with fail
  have hcall := implEntryOk en ((w.alloc (.cells (enC en) 70)).alloc (.cells (rpA 0 noP) 33)) (by unfold maxLen; omega) (by unfold maxLen; omega)
  rw [hok] at hcall
  refine hcall.mono ?_
  rintro e x1 ⟨rfl, b1⟩
  have hM1 := hM.below b1
  have hst1 := hst.below b1
  clear hcall hM hst b1 hok
  obtain ⟨r0, r1⟩ := (hM1.get (w.heap.size + 1) (rpA 0 noP) (by simp)).two
  have z0 := hM1.loose (w.heap.size + 1) (by simp) 0
  have z1 := hM1.loose (w.heap.size + 1) (by simp) 1
  have HM := Lib.hid hM1
  have HST := Lib.hid hst1
  clear hM1 hst1
  go_wp2
  obtain ⟨e1, e2⟩ := ord_end (TouchS.of_below (S := bkS b G v) HM.out.1) (Nat.le_succ _) HST.out hbw hGw (fun r hr e => by have := HLOW.out r hr _ e; omega) (fun e => by have := HVL.out _ e; omega) (.int .i64 7) (.string noP)
  refine bodyPost_ret (results_obey 7 noP (w.heap.size + 1) _ _ rfl ?_) rfl ⟨by rw [HE.out]; rfl, e1, rs, v, by rw [HE.out], by rw [HE.out]; exact e2, fun k hk => .inr hk⟩
  simpa using (((HM.out.get (w.heap.size + 1) (rpA 0 noP) (by simp)).putM 0 (.int .i64 7)).putM 1 (.string noP))
set_option maxHeartbeats 2000000 in
theorem obeyed_idle (W B b : Nat) (rs : List Wr) (G : Nat) (v : Value) (ls : List M.La) (en : M.En) (w : World) (h : BkSt w W B b rs G v ls) (hll : ls.length ≤ 1048575) (hn : en.order.deed.name.size ≤ 1048576) (hpg : en.order.deed.page.size ≤ 1048576) (hok : M.entryOk en = true) (hz : M.orEq en.order M.or0 = true) :
    Calls Tryz.prog 89 #[.pointer (some ⟨G, 0, none⟩), enV en] w (OrdOut w W B b G v rs (M.obeyI (rs.map Wr.wk, ls) en)) := by
  have HE : Hid (M.obeyI (rs.map Wr.wk, ls) en = ((rs.map Wr.wk, ls), ((0 : Int), M.nilB))) := Lib.hid (by simp [M.obeyI, hok, hz])
  have hk : kindI en = 0 := by simp [kindI, hz]
  clear hz
  have hM := ((Mem.start w).new (enC en) 70).new (rpA 0 noP) 33
  have hst := h.below (((Below.refl w.heap.size w).alloc (Nat.le_refl _) (.cells (enC en) 70)).alloc (by simp) (.cells (rpA 0 noP) 33))
  simp only [World.size_alloc] at hM
  have hGw : G < w.heap.size := h.box.1
  have hbw : b < w.heap.size := by have := h.low; have := h.top; omega
  have HLOW : Hid (∀ r ∈ rs, ∀ k, r.sl.ownBlock = some k → k < w.heap.size) := Lib.hid (fun r hr k e => ((h.own.1 r hr).lt k e).2)
  have HVL : Hid (∀ k, v.ownBlock = some k → k < w.heap.size) := Lib.hid (fun k e => (World.ownsRow.lt h.las k e).2)
  clear h
  go_enter Tryz.func89, Tryz.ntmps89
  go_wp2_with fail
  have hcall := implEntryOk en ((w.alloc (.cells (enC en) 70)).alloc (.cells (rpA 0 noP) 33)) (by unfold maxLen; omega) (by unfold maxLen; omega)
  rw [hok] at hcall
  refine hcall.mono ?_
  rintro e x1 ⟨rfl, b1⟩
  have hM1 := hM.below b1
  have hst1 := hst.below b1
  clear hcall hM hst b1 hok
  obtain ⟨p0, p1, p2, p3, p4, p5, p6, p7, p8, p9⟩ := (hM1.get w.heap.size (enC en) (by simp)).ten
  go_wp2_with fail
  have hcall := kindOf_any en x1
  rw [hk] at hcall
  refine hcall.mono ?_
  rintro e x2 ⟨rfl, b2⟩
  have hM2 := hM1.below b2
  have hst2 := hst1.below b2
  clear hcall hM1 hst1 b2 hk p0 p1 p2 p3 p4 p5 p6 p7 p8 p9
  obtain ⟨r0, r1⟩ := (hM2.get (w.heap.size + 1) (rpA 0 noP) (by simp)).two
  have z0 := hM2.loose (w.heap.size + 1) (by simp) 0
  have z1 := hM2.loose (w.heap.size + 1) (by simp) 1
  have HM := Lib.hid hM2
  have HST := Lib.hid hst2
  clear hM2 hst2
  go_wp2
  obtain ⟨e1, e2⟩ := ord_end (TouchS.of_below (S := bkS b G v) HM.out.1) (Nat.le_succ _) HST.out hbw hGw (fun r hr e => by have := HLOW.out r hr _ e; omega) (fun e => by have := HVL.out _ e; omega) (.int .i64 0) (.string noP)
  refine bodyPost_ret (results_obey 0 noP (w.heap.size + 1) _ _ rfl ?_) rfl ⟨by rw [HE.out]; rfl, e1, rs, v, by rw [HE.out], by rw [HE.out]; exact e2, fun k hk => .inr hk⟩
  simpa using (((HM.out.get (w.heap.size + 1) (rpA 0 noP) (by simp)).putM 0 (.int .i64 0)).putM 1 (.string noP))
set_option maxHeartbeats 4000000 in
theorem obeyed_ord (W B b : Nat) (rs : List Wr) (G : Nat) (v : Value) (ls : List M.La) (en : M.En) (w : World) (h : BkSt w W B b rs G v ls) (hll : ls.length ≤ 1048575) (hn : en.order.deed.name.size ≤ 1048576) (hpg : en.order.deed.page.size ≤ 1048576) (hok : M.entryOk en = true) (hz : M.orEq en.order M.or0 = false) :
    Calls Tryz.prog 89 #[.pointer (some ⟨G, 0, none⟩), enV en] w (OrdOut w W B b G v rs (M.obeyI (rs.map Wr.wk, ls) en)) := by
  have HE : Hid (M.obeyI (rs.map Wr.wk, ls) en = M.ordI (rs.map Wr.wk, ls) en.order) := Lib.hid (by simp [M.obeyI, hok, hz])
  have hk : kindI en = 1 := by simp [kindI, hz]
  clear hz
  have hM := ((Mem.start w).new (enC en) 70).new (rpA 0 noP) 33
  have hst := h.below (((Below.refl w.heap.size w).alloc (Nat.le_refl _) (.cells (enC en) 70)).alloc (by simp) (.cells (rpA 0 noP) 33))
  simp only [World.size_alloc] at hM
  have hGw : G < w.heap.size := h.box.1
  have hbw : b < w.heap.size := by have := h.low; have := h.top; omega
  have HLOW : Hid (∀ r ∈ rs, ∀ k, r.sl.ownBlock = some k → k < w.heap.size) := Lib.hid (fun r hr k e => ((h.own.1 r hr).lt k e).2)
  have HVL : Hid (∀ k, v.ownBlock = some k → k < w.heap.size) := Lib.hid (fun k e => (World.ownsRow.lt h.las k e).2)
  clear h
  go_enter Tryz.func89, Tryz.ntmps89
  go_wp2_with fail
  have hcall := implEntryOk en ((w.alloc (.cells (enC en) 70)).alloc (.cells (rpA 0 noP) 33)) (by unfold maxLen; omega) (by unfold maxLen; omega)
  rw [hok] at hcall
  refine hcall.mono ?_
  rintro e x1 ⟨rfl, b1⟩
  have hM1 := hM.below b1
  have hst1 := hst.below b1
  clear hcall hM hst b1 hok
  obtain ⟨p0, p1, p2, p3, p4, p5, p6, p7, p8, p9⟩ := (hM1.get w.heap.size (enC en) (by simp)).ten
  go_wp2_with fail
  have hcall := kindOf_any en x1
  rw [hk] at hcall
  refine hcall.mono ?_
  rintro e x2 ⟨rfl, b2⟩
  have hM2 := hM1.below b2
  have hst2 := hst1.below b2
  clear hcall hM1 hst1 b2 hk p0 p1 p2 p3 p4 p5 p6 p7 p8 p9
  obtain ⟨p0, p1, p2, p3, p4, p5, p6, p7, p8, p9⟩ := (hM2.get w.heap.size (enC en) (by simp)).ten
  have hx2 : (w.heap.size + 1) < x2.heap.size := (hM2.get (w.heap.size + 1) (rpA 0 noP) (by simp)).1
  go_wp2_with fail
  obtain ⟨q, hq⟩ : ∃ q, M.ordI (rs.map Wr.wk, ls) en.order = q := ⟨_, rfl⟩
  have hcall := ordered_any W B b rs G v ls en.order x2 hst2 hll hn hpg
  rw [hq] at hcall
  have HQ := Lib.hid hq
  refine hcall.mono ?_
  rintro e x3 ⟨rfl, ht, rs', v', hmap, hst3, hfr⟩
  have HS : Hid (∀ g, bkS b G v g → g < w.heap.size) := Lib.hid (fun g hg => by
    rcases hg with rfl | rfl | hg
    · exact hbw
    · exact hGw
    · exact HVL.out g hg)
  have HT := Lib.hid (TouchS.join (TouchS.of_below hM2.1) ht)
  have hR : Holds x3 (w.heap.size + 1) (rpA 0 noP) := ht.holds (hM2.get (w.heap.size + 1) (rpA 0 noP) (by simp)) (fun hg => by have := HS.out _ hg; omega)
  have hRl : Loose x3 (w.heap.size + 1) := ht.loose (hM2.loose (w.heap.size + 1) (by simp)) hx2 (fun hg => by have := HS.out _ hg; omega)
  have HRS : Hid (∀ r ∈ rs', r.sl.ownBlock ≠ some (w.heap.size + 1)) := Lib.hid (fun r hr e => by
    rcases hfr _ (.inr ⟨r, hr, e⟩) with h | h | ⟨y, hy, h⟩
    · omega
    · have := HVL.out _ h; omega
    · have := HLOW.out y hy _ h; omega)
  have HVS : Hid (v'.ownBlock ≠ some (w.heap.size + 1)) := Lib.hid (fun e => by
    rcases hfr _ (.inl e) with h | h | ⟨y, hy, h⟩
    · omega
    · have := HVL.out _ h; omega
    · have := HLOW.out y hy _ h; omega)
  have HFR : Hid (FromB w v rs v' rs') := Lib.hid (fun k hk => (hfr k hk).imp (fun h => by omega) id)
  have HMP := Lib.hid hmap
  have HST := Lib.hid hst3
  have HR := Lib.hid (show _ ∧ _ from ⟨hR, hRl⟩)
  obtain ⟨r0, r1⟩ := hR.two
  have z0 := hRl 0
  have z1 := hRl 1
  have zr := hR.1
  clear hcall hq ht hfr hmap hst3 hR hRl hM2 hst2 p0 p1 p2 p3 p4 p5 p6 p7 p8 p9
  go_wp2
  obtain ⟨e1, e2⟩ := ord_end HT.out (Nat.le_succ _) HST.out hbw hGw HRS.out HVS.out (.int .i64 q.2.1) (.string q.2.2)
  refine bodyPost_ret (results_obey q.2.1 q.2.2 (w.heap.size + 1) _ _ rfl ?_) rfl ⟨by rw [HE.out, HQ.out], e1, rs', v', by rw [HE.out, HQ.out]; exact HMP.out, by rw [HE.out, HQ.out]; exact e2, HFR.out⟩
  simpa using ((HR.out.1.putM 0 (.int .i64 q.2.1)).putM 1 (.string q.2.2))
theorem obeyed_any (W B b : Nat) (rs : List Wr) (G : Nat) (v : Value) (ls : List M.La) (en : M.En) (w : World) (h : BkSt w W B b rs G v ls) (hll : ls.length ≤ 1048575) (hn : en.order.deed.name.size ≤ 1048576) (hpg : en.order.deed.page.size ≤ 1048576) :
    Calls Tryz.prog 89 #[.pointer (some ⟨G, 0, none⟩), enV en] w (OrdOut w W B b G v rs (M.obeyI (rs.map Wr.wk, ls) en)) := by
  rcases hok : M.entryOk en with _ | _
  · exact obeyed_bad W B b rs G v ls en w h hll hn hpg hok
  · rcases hz : M.orEq en.order M.or0 with _ | _
    · exact obeyed_ord W B b rs G v ls en w h hll hn hpg hok hz
    · exact obeyed_idle W B b rs G v ls en w h hll hn hpg hok hz
end Go.Proofs.YtblcgbgcccjpcaaGreat
