/- Proved, in parts: Proved: the program's deeds on the map of works answer plain Lean functions; they write the map's block alone. Condition: texts of at most a million bytes. -/
import Derived.Test.YtdcdalbbjfjadaaGreatDoorPart16
import Derived.Test.YtdcdalbbjfjadaaGreatDoorPart17
import Derived.Test.YtdcdalbbjfjadaaGreatDoorPart19
import Derived.Test.YtdcdalbbjfjadaaGreatDoorPart14
namespace Go.Proofs.YtdcdalbbjfjadaaGreatDoor
open Go.RowKit
set_option maxRecDepth 20000
namespace M
def insN (w : Wk) : List Wk → List Wk
  | [] => [w]
  | x :: l => if bytesBefore w.name.data.toList x.name.data.toList then w :: x :: l else x :: insN w l
def putN (l : List Wk) (w : Wk) : List Wk := insN w (l.filter fun x => !(x.name.data.toList == w.name.data.toList))
def getN (l : List Wk) (n : ByteArray) : Option Wk := l.find? fun x => x.name.data.toList == n.data.toList
abbrev Rp := Int × ByteArray
def doPut (l : List Wk) (d : Dd) : List Wk × Rp := match getN l d.name with
  | none => (l, (1, nilB))
  | some w => if w.owner = d.who then
      (if (copyIn w d.ed).2 then (l, (2, nilB)) else if (printed w d.ed d.page).2 then (putN l (printed w d.ed d.page).1, (0, nilB)) else (l, (4, nilB)))
    else (l, (3, nilB))
def doVeil (l : List Wk) (d : Dd) (hid : Bool) : List Wk × Rp := match getN l d.name with
  | none => (l, (1, nilB))
  | some w => if w.owner = d.who then
      (if (veiled w d.ed hid).2 then (putN l (veiled w d.ed hid).1, (0, nilB)) else (l, (1, nilB)))
    else (l, (3, nilB))
def doGive (l : List Wk) (d : Dd) : List Wk × Rp := if inI d.ed.ma 0 3 then (match getN l d.name with
  | none => (l, (1, nilB))
  | some w => if w.owner = d.who then (putN l { w with owner := d.ed.ma }, (0, nilB)) else (l, (3, nilB))) else (l, (7, nilB))
def doFetch (l : List Wk) (d : Dd) : List Wk × Rp := match getN l d.name with
  | none => (l, (1, nilB))
  | some w => if (copyIn w d.ed).2 then (if (copyIn w d.ed).1.hidden then (l, (5, nilB)) else (l, (0, (copyIn w d.ed).1.page))) else (l, (1, nilB))
def doClaim (l : List Wk) (d : Dd) : List Wk × Rp := match getN l d.name with
  | some _ => (l, (2, nilB))
  | none => if 5 < l.length + 1 then (l, (4, nilB)) else (putN l ⟨d.name, d.who, []⟩, (0, nilB))
theorem printed_name {w : Wk} {e : Ed} {p : ByteArray} (h : (printed w e p).2 = true) : (printed w e p).1.name = w.name := by
  unfold printed at h ⊢
  split at h
  · rename_i hk
    rw [if_pos hk]
    split
    · rfl
    · rfl
  · cases h
theorem veiled_name {w : Wk} {e : Ed} {p : Bool} (h : (veiled w e p).2 = true) : (veiled w e p).1.name = w.name := by
  unfold veiled at h ⊢
  split at h
  · rename_i hk
    rw [if_pos hk]
    split
    · rfl
    · rfl
  · cases h
end M

theorem insW_wk (r : Wr) : ∀ l : List Wr, (insW r l).map Wr.wk = M.insN r.wk (l.map Wr.wk)
  | [] => rfl
  | x :: l => by
    have ih := insW_wk r l
    unfold insW
    rw [List.map_cons, M.insN]
    by_cases h : bytesBefore (nmL r) (nmL x) = true
    · have h' : bytesBefore r.wk.name.data.toList x.wk.name.data.toList = true := h
      rw [if_pos h, if_pos h']; rfl
    · have h' : ¬ bytesBefore r.wk.name.data.toList x.wk.name.data.toList = true := h
      rw [if_neg h, if_neg h', List.map_cons, ih]
theorem putW_wk (l : List Wr) (r : Wr) : (putW l r).map Wr.wk = M.putN (l.map Wr.wk) r.wk := by
  unfold putW M.putN
  rw [insW_wk, List.filter_map]
  rfl
theorem findW_wk (l : List Wr) (n : ByteArray) : M.getN (l.map Wr.wk) n = (findW l n.data.toList).map Wr.wk := by
  unfold M.getN findW
  rw [List.find?_map]
  rfl
theorem findW_mem {l : List Wr} {n : List UInt8} {r : Wr} (h : findW l n = some r) : r ∈ l ∧ nmL r = n := by
  unfold findW at h
  exact ⟨List.mem_of_find?_eq_some h, by simpa using List.find?_some h⟩

/-- The map stands for the works rs. -/
structure St (w : World) (B b n : Nat) (rs : List Wr) : Prop where
  map : ShM w b n rs
  rise : RiseW rs
  own : RsOwn B w rs
  low : b < B
  top : B ≤ w.heap.size
  room : n ≤ 900
  size : WrsIn 1048576 rs
/-- What a deed leaves. -/
def OpOut (w : World) (B b : Nat) (rs : List Wr) (p : List M.Wk × M.Rp) (e : Ending) (w' : World) : Prop :=
  e = .returned (rpV p.2.1 p.2.2) ∧ w.grownBy w' (some b) ∧ (∃ n D, w'.ownsMap Tryz.prog 9 heldR b n D) ∧ (p.2.1 = 0 → ∃ n rs', ShM w' b n rs' ∧ RiseW rs' ∧ RsOwn B w' rs' ∧ rs'.map Wr.wk = p.1 ∧ ∀ r ∈ rs', ∀ k, r.sl.ownBlock = some k → w.heap.size ≤ k ∨ ∃ x ∈ rs, x.sl.ownBlock = some k)
theorem St.below {w w' : World} {B b n : Nat} {rs : List Wr} (h : St w B b n rs) (hb : Below w.heap.size w w') : St w' B b n rs :=
  ⟨h.map.kept (grown_lw hb none) (by simp), h.rise, h.own.below hb, h.low, Nat.le_trans h.top hb.size, h.room, h.size⟩
theorem St.alloc {w : World} {B b n : Nat} {rs : List Wr} (h : St w B b n rs) (o : Obj) : St (w.alloc o) B b n rs := h.below ((Below.refl _ _).alloc (Nat.le_refl _) o)
theorem St.set {w : World} {B b n g : Nat} {rs : List Wr} (h : St w B b n rs) (hb : b ≠ g) (hne : ∀ r ∈ rs, r.sl.ownBlock ≠ some g) (i : Nat) (v : Value) : St (w.setCell ⟨g, i, none⟩ v) B b n rs :=
  ⟨ShM.set h.map hb, h.rise, h.own.set hne i v, h.low, by simpa using h.top, h.room, h.size⟩
theorem Mem.put3 {w0 : World} {g : Nat} {a b c : Value} {hs : List (Nat × Array Value)} {ls : List Nat} {x : World} (h : Mem w0 ((g, #[a, b, c]) :: hs) ls x) (hg : w0.heap.size ≤ g) (hn : ∀ p ∈ hs, p.1 ≠ g) (a' b' c' : Value) :
    Mem w0 ((g, #[a', b', c']) :: hs) ls (((x.setCell ⟨g, 0, none⟩ a').setCell ⟨g, 1, none⟩ b').setCell ⟨g, 2, none⟩ c') := by
  have := ((h.put hg hn 0 a').put hg hn 1 b').put hg hn 2 c'
  simpa using this
theorem Mem.re {w0 : World} {hs hs' : List (Nat × Array Value)} {ls ls' : List Nat} {x : World} (h : Mem w0 hs ls x) (hb : ∀ p ∈ hs', p ∈ hs) (hl : ∀ g ∈ ls', g ∈ ls) : Mem w0 hs' ls' x := ⟨h.1, fun p hp => h.2.1 p (hb p hp), fun g hg => h.2.2 g (hl g hg)⟩
theorem rp_neq0 (w : World) : (binOp .neq 32 (rpV 0 noP) (rpV 0 noP)).run Tryz.prog w = .ok (.bool false) w := by
  simp [go_sem, Tryz.underlying32, Tryz.underlying2, Tryz.underlying9]
theorem rp_neq1 (w : World) : (binOp .neq 32 (rpV 1 noP) (rpV 0 noP)).run Tryz.prog w = .ok (.bool true) w := by
  simp [go_sem, Tryz.underlying32, Tryz.underlying2, Tryz.underlying9]
theorem rp_neq3 (w : World) : (binOp .neq 32 (rpV 3 noP) (rpV 0 noP)).run Tryz.prog w = .ok (.bool true) w := by
  simp [go_sem, Tryz.underlying32, Tryz.underlying2, Tryz.underlying9]
end Go.Proofs.YtdcdalbbjfjadaaGreatDoor
