/- Proved, in parts: Proved: a value whose lists lie in memory of one's own, no two in one block, told as a list of components: how two such lists are joined, what new memory leaves of them. No program's function is named here; no condition. Proved: plain facts on orders, lasts and books; no program is named here; no condition. Proved: how an entry stands in memory; no program is named here; no condition. Proved: a book as plain data, and when two are the same; numbers in their bounds. No program is named here; no condition. Proved: nothing; what a reply's cells are. Proved: the laws' own test tells two replies alike that are; the laws' helper counts a deed; they write nothing that was there. Proved: the laws' helpers on one reply and one last (its size, its copy, its likeness) answer plain Lean functions; they write nothing that was there. No condition. Proved: the laws' own test tells an edition like itself; it writes nothing that was there. No condition. Proved: the laws' own tests tell a copy, a list of copies and a work like themselves; they write nothing that was there. No condition. -/
import Derived.Test.YtdoeiphnalbinaaPart03
import Derived.Test.YtdoeiphnalbinaaPart02
import Derived.Test.YtdoeiphnalbinaaPart01
import Derived.StillTailTactics
namespace Go.Proofs.Ytdoeiphnalbinaa
open Go.RowKit
/-- A part of memory of one's own: its blocks, and what is so of them. -/
structure Cmp where
  E : Nat → Prop
  P : World → Prop
  base : Nat
  dep : ∀ w w', P w → w.heap.size ≤ w'.heap.size → (∀ g, E g → w'.heap[g]? = w.heap[g]?) → P w'
  low : ∀ w g, P w → E g → base ≤ g ∧ g < w.heap.size

def Cmp.row (B : Nat) (t : TypeId) (k : Nat) (v : Value) (n : Nat) (C : List Value) : Cmp where
  E g := v.ownBlock = some g
  P w := w.ownsRow B t k v n C
  base := B
  dep := fun w w' h hs hb => by
    obtain ⟨hl, h0 | ⟨g, cap, cur, rfl, hB, hh, hr⟩⟩ := h
    · exact ⟨hl, .inl h0⟩
    · exact ⟨hl, .inr ⟨g, cap, cur, rfl, hB, (hb g rfl).trans hh, hr⟩⟩
  low := fun _ g h he => World.ownsRow.lt h g he
def Cmp.sf (B : Nat) (v : Value) (l : List Wr) : Cmp where
  E := blocksS v l
  P w := SfOwn B w v l
  base := B
  dep := fun w w' h hs hb => ⟨(Cmp.row B 80 3 v l.length (cellsOf wrL l)).dep w w' h.1 hs (fun g hg => hb g (.inl hg)), fun r hr => (Cmp.row B 82 5 r.sl r.cps.length (cellsOf cpL r.cps)).dep w w' (h.2.1 r hr) hs (fun g hg => hb g (.inr ⟨r, hr, hg⟩)), h.2.2⟩
  low := fun _ _ h he => h.ge he

def foot (cs : List Cmp) (g : Nat) : Prop := ∃ c ∈ cs, c.E g
def Off (a b : Cmp) : Prop := ∀ g, a.E g → ¬ b.E g
/-- All of them are so, and no two have a block in common. -/
structure Has (cs : List Cmp) (w : World) : Prop where
  all : ∀ c ∈ cs, c.P w
  off : cs.Pairwise Off
theorem Off.symm {a b : Cmp} (h : Off a b) : Off b a := fun g hb ha => h g ha hb
theorem Has.nil (w : World) : Has [] w := ⟨by simp, .nil⟩
theorem Has.dep {cs : List Cmp} {w w' : World} (h : Has cs w) (hs : w.heap.size ≤ w'.heap.size) (hb : ∀ g, foot cs g → w'.heap[g]? = w.heap[g]?) : Has cs w' :=
  ⟨fun c hc => c.dep w w' (h.all c hc) hs (fun g hg => hb g ⟨c, hc, hg⟩), h.off⟩
theorem Has.lt {cs : List Cmp} {w : World} (h : Has cs w) {g : Nat} (hg : foot cs g) : g < w.heap.size := by
  obtain ⟨c, hc, he⟩ := hg
  exact (c.low w g (h.all c hc) he).2
theorem Has.ge {cs : List Cmp} {w : World} {B : Nat} (h : Has cs w) (hB : ∀ c ∈ cs, B ≤ c.base) {g : Nat} (hg : foot cs g) : B ≤ g := by
  obtain ⟨c, hc, he⟩ := hg
  exact Nat.le_trans (hB c hc) (c.low w g (h.all c hc) he).1
theorem Has.below {cs : List Cmp} {w w' : World} (h : Has cs w) (hb : Below w.heap.size w w') : Has cs w' := h.dep hb.size (fun g hg => hb.block g (h.lt hg))
theorem Has.alloc {cs : List Cmp} {w : World} (h : Has cs w) (o : Obj) : Has cs (w.alloc o) := h.below ((Below.refl _ _).alloc (Nat.le_refl _) o)
theorem Has.drew {cs : List Cmp} {w : World} (h : Has cs w) : Has cs w.drew := h.dep (Nat.le_refl _) (fun _ _ => rfl)
theorem Has.set {cs : List Cmp} {w : World} (h : Has cs w) {g : Nat} (hg : ¬ foot cs g) (j : Nat) (v : Value) : Has cs (w.setCell ⟨g, j, none⟩ v) :=
  h.dep (by simp) (fun k hk => Below.heap_setCell _ _ _ _ (fun e => hg (by rw [← show k = g from e]; exact hk)))
theorem Has.setLow {cs : List Cmp} {w : World} (h : Has cs w) {g B : Nat} (hB : ∀ c ∈ cs, B ≤ c.base) (hg : g < B) (j : Nat) (v : Value) : Has cs (w.setCell ⟨g, j, none⟩ v) :=
  h.set (fun hf => by have := h.ge hB hf; omega) j v
theorem Has.grown {cs : List Cmp} {w w' : World} {row : Option Nat} (h : Has cs w) (hg : w.grownBy w' row) (hne : ∀ k, row = some k → ¬ foot cs k) : Has cs w' := h.dep hg.size (fun g hf => hg.block g (h.lt hf) (fun e => hne g e.symm hf))
theorem Has.sub {cs ds : List Cmp} {w : World} (h : Has cs w) (hs : ds.Sublist cs) : Has ds w := ⟨fun c hc => h.all c (hs.subset hc), h.off.sublist hs⟩
theorem foot_cons {c : Cmp} {ds : List Cmp} {g : Nat} : foot (c :: ds) g ↔ c.E g ∨ foot ds g := by
  unfold foot; simp
theorem foot_nil {g : Nat} : ¬ foot [] g := by unfold foot; simp
theorem Has.append {cs ds : List Cmp} {w : World} (h : Has cs w) (k : Has ds w) (hd : ∀ g, foot cs g → ¬ foot ds g) : Has (cs ++ ds) w :=
  ⟨fun c hc => (List.mem_append.1 hc).elim (h.all c) (k.all c), List.pairwise_append.2 ⟨h.off, k.off, fun a ha b hb g hga hgb => hd g ⟨a, ha, hga⟩ ⟨b, hb, hgb⟩⟩⟩
theorem Has.left {cs ds : List Cmp} {w : World} (h : Has (cs ++ ds) w) : Has cs w := h.sub (List.sublist_append_left _ _)
theorem Has.right {cs ds : List Cmp} {w : World} (h : Has (cs ++ ds) w) : Has ds w := h.sub (List.sublist_append_right _ _)
theorem Has.apart {cs ds : List Cmp} {w : World} (h : Has (cs ++ ds) w) {g : Nat} (h1 : foot cs g) : ¬ foot ds g := by
  rintro ⟨b, hb, hgb⟩
  obtain ⟨a, ha, hga⟩ := h1
  exact (List.pairwise_append.1 h.off).2.2 a ha b hb g hga hgb
/-- What is there, and what was made behind it. -/
theorem Has.more {cs ds : List Cmp} {w w' : World} (h : Has cs w) (hb : Below w.heap.size w w') (k : Has ds w') (hk : ∀ c ∈ ds, w.heap.size ≤ c.base) : Has (cs ++ ds) w' :=
  (h.below hb).append k (fun g h1 h2 => by have := h.lt h1; have := k.ge hk h2; omega)
theorem Has.one {c : Cmp} {w : World} (h : c.P w) : Has [c] w := ⟨by simpa using h, List.pairwise_singleton _ _⟩
theorem Has.cons {c : Cmp} {ds : List Cmp} {w : World} (h : c.P w) (k : Has ds w) (hd : ∀ g, c.E g → ¬ foot ds g) : Has (c :: ds) w :=
  (Has.one h).append k (fun g hg => by
    rcases foot_cons.1 hg with hg | hg
    · exact hd g hg
    · exact absurd hg foot_nil)
end Go.Proofs.Ytdoeiphnalbinaa
namespace Go.Proofs.Ytdoeiphnalbinaa
open Go.RowKit
namespace M
structure Or where
  client : Int
  seq : Int
  deed : Dd
structure La where
  client : Int
  seq : Int
  code : Int
  page : ByteArray
def orderOk (o : Or) : Bool := inI o.client 0 3 && inI o.seq 1 1000 && deedOk o.deed
end M
abbrev orC (o : M.Or) : Array Value := #[.int .i64 o.client, .int .i64 o.seq, .int .i64 o.deed.kind, .string o.deed.name, .int .i64 o.deed.ed.ma, .int .i64 o.deed.ed.mi, .int .i64 o.deed.ed.pa, .string o.deed.page, .int .i64 o.deed.who]
abbrev orV (o : M.Or) : Value := .agg #[.int .i64 o.client, .int .i64 o.seq, .int .i64 o.deed.kind, .string o.deed.name, .int .i64 o.deed.ed.ma, .int .i64 o.deed.ed.mi, .int .i64 o.deed.ed.pa, .string o.deed.page, .int .i64 o.deed.who]
end Go.Proofs.Ytdoeiphnalbinaa
namespace Go.Proofs.Ytdoeiphnalbinaa
open Go.RowKit
namespace M
structure En where
  reign : Int
  order : Or
end M
abbrev enC (e : M.En) : Array Value := #[.int .i64 e.reign, .int .i64 e.order.client, .int .i64 e.order.seq, .int .i64 e.order.deed.kind, .string e.order.deed.name, .int .i64 e.order.deed.ed.ma, .int .i64 e.order.deed.ed.mi, .int .i64 e.order.deed.ed.pa, .string e.order.deed.page, .int .i64 e.order.deed.who]
abbrev enV (e : M.En) : Value := .agg (enC e)
abbrev enL (e : M.En) : List Value := [.int .i64 e.reign, .int .i64 e.order.client, .int .i64 e.order.seq, .int .i64 e.order.deed.kind, .string e.order.deed.name, .int .i64 e.order.deed.ed.ma, .int .i64 e.order.deed.ed.mi, .int .i64 e.order.deed.ed.pa, .string e.order.deed.page, .int .i64 e.order.deed.who]
theorem enL_len (e : M.En) : (enL e).length = 10 := rfl
abbrev enIn (n : Nat) (e : M.En) : Prop := e.order.deed.name.size ≤ n ∧ e.order.deed.page.size ≤ n
end Go.Proofs.Ytdoeiphnalbinaa
namespace Go.Proofs.Ytdoeiphnalbinaa
open Go.RowKit
namespace M
abbrev Bk := List Wk × List La
instance : DecidableEq La := fun a b =>
  if h : a.client = b.client ∧ a.seq = b.seq ∧ a.code = b.code ∧ a.page = b.page then isTrue (by cases a; cases b; simp_all) else isFalse (by rintro rfl; simp at h)
instance : DecidableEq Or := fun a b =>
  if h : a.client = b.client ∧ a.seq = b.seq ∧ a.deed = b.deed then isTrue (by cases a; cases b; simp_all) else isFalse (by rintro rfl; simp at h)
instance : DecidableEq En := fun a b =>
  if h : a.reign = b.reign ∧ a.order = b.order then isTrue (by cases a; cases b; simp_all) else isFalse (by rintro rfl; simp at h)
def bkSame (a b : Bk) : Bool := decide (a.1 = b.1) && decide (a.2 = b.2)
end M
end Go.Proofs.Ytdoeiphnalbinaa
namespace Go.Proofs.Ytdoeiphnalbinaa
open Go.RowKit
abbrev rpA (c : Int) (p : ByteArray) : Array Value := #[.int .i64 c, .string p]
abbrev rpV (c : Int) (p : ByteArray) : Value := .agg (rpA c p)
end Go.Proofs.Ytdoeiphnalbinaa
namespace Go.Proofs.Ytdoeiphnalbinaa
open Go.RowKit
set_option maxRecDepth 20000

set_option maxHeartbeats 1000000 in
theorem eqReply_same (c : Int) (p : ByteArray) (w : World) :
    Calls Try.prog 52 #[rpV c p, rpV c p] w fun r w' => r = .returned (.bool true) ∧ Below w.heap.size w w' := by
  have h1 : (c != c) = false := by simp
  have h2 : (p.toList != p.toList) = false := by simp
  have b0 := ((Below.refl w.heap.size w).alloc (Nat.le_refl _) (.cells (rpA c p) 75)).alloc (by simp) (.cells (rpA c p) 75)
  go_enter Try.func52, Try.ntmps52
  go_wp2
  go_ret
  exact ⟨rfl, b0⟩

set_option maxHeartbeats 1000000 in
theorem szDeed_bigN (d : M.Dd) (n : Int) (w : World) (h0 : 0 ≤ n) (hn : n ≤ 1048576) (hnm : d.name.size ≤ maxLen) (hp : d.page.size ≤ maxLen) (h : n < (d.name.size + d.page.size : Int)) :
    Calls Try.prog 44 #[ddV d, .int .i64 n] w fun r w' => r = .returned (.int .i64 (-1)) ∧ Below w.heap.size w w' := by
  unfold maxLen at hnm hp
  by_cases hs : n < (d.name.size : Int)
  · go_enter Try.func44, Try.ntmps44
    go_wp2
    go_ret
    exact ⟨rfl, (Below.refl _ _).alloc (Nat.le_refl _) _⟩
  · go_enter Try.func44, Try.ntmps44
    go_wp2
    go_ret
    exact ⟨rfl, (Below.refl _ _).alloc (Nat.le_refl _) _⟩
end Go.Proofs.Ytdoeiphnalbinaa
namespace Go.Proofs.Ytdoeiphnalbinaa
open Go.RowKit
set_option maxRecDepth 20000
abbrev laL (c : M.La) : List Value := [.int .i64 c.client, .int .i64 c.seq, .int .i64 c.code, .string c.page]
abbrev laA (c : M.La) : Array Value := #[.int .i64 c.client, .int .i64 c.seq, .int .i64 c.code, .string c.page]
abbrev laV (c : M.La) : Value := .agg #[.int .i64 c.client, .int .i64 c.seq, .int .i64 c.code, .string c.page]
theorem laL_len (c : M.La) : (laL c).length = 4 := rfl
abbrev laIn (n : Nat) (c : M.La) : Prop := c.page.size ≤ n

set_option maxHeartbeats 400000 in
theorem rpSz_small (c : Int) (p : ByteArray) (n : Int) (w : World) (h1 : n ≤ 1048576) (h : (p.size : Int) ≤ n) :
    Calls Try.prog 46 #[rpV c p, .int .i64 n] w fun r w' => r = .returned (.int .i64 (n - p.size)) ∧ Below w.heap.size w w' := by
  go_enter Try.func46, Try.ntmps46
  go_wp2
  go_ret
  exact ⟨rfl, (Below.refl _ _).alloc (Nat.le_refl _) _⟩
set_option maxHeartbeats 400000 in
theorem rpSz_big (c : Int) (p : ByteArray) (n : Int) (w : World) (h0 : 0 ≤ n) (h1 : n ≤ 1048576) (hp : p.size ≤ maxLen) (h : n < (p.size : Int)) :
    Calls Try.prog 46 #[rpV c p, .int .i64 n] w fun r w' => r = .returned (.int .i64 (-1)) ∧ Below w.heap.size w w' := by
  unfold maxLen at hp
  go_enter Try.func46, Try.ntmps46
  go_wp2
  go_ret
  exact ⟨rfl, (Below.refl _ _).alloc (Nat.le_refl _) _⟩
set_option maxHeartbeats 400000 in
theorem laSz_small (c : M.La) (n : Int) (w : World) (h1 : n ≤ 1048576) (h : (c.page.size : Int) ≤ n) :
    Calls Try.prog 36 #[laV c, .int .i64 n] w fun r w' => r = .returned (.int .i64 (n - c.page.size)) ∧ Below w.heap.size w w' := by
  have b0 := (Below.refl w.heap.size w).alloc (Nat.le_refl _) (.cells (laA c) 93)
  have h0 : 0 ≤ n - (c.page.size : Int) := by omega
  go_enter Try.func36, Try.ntmps36
  go_wp2_with fail
  refine (rpSz_small c.code c.page n _ h1 h).mono ?_
  rintro r w1 ⟨rfl, b1⟩
  go_wp2
  go_ret
  exact ⟨rfl, next b0 b1⟩
set_option maxHeartbeats 400000 in
theorem laSz_big (c : M.La) (n : Int) (w : World) (h0 : 0 ≤ n) (h1 : n ≤ 1048576) (hp : laIn maxLen c) (h : n < (c.page.size : Int)) :
    Calls Try.prog 36 #[laV c, .int .i64 n] w fun r w' => r = .returned (.int .i64 (-1)) ∧ Below w.heap.size w w' := by
  have b0 := (Below.refl w.heap.size w).alloc (Nat.le_refl _) (.cells (laA c) 93)
  go_enter Try.func36, Try.ntmps36
  go_wp2_with fail
  refine (rpSz_big c.code c.page n _ h0 h1 hp h).mono ?_
  rintro r w1 ⟨rfl, b1⟩
  go_wp2
  go_ret
  exact ⟨rfl, next b0 b1⟩
theorem toReply_at (c : Int) (p : ByteArray) (w : World) :
    Calls Try.prog 49 #[rpV c p] w fun r w' => r = .returned (rpV c p) ∧ w' = ((w.alloc (.cells (rpA c p) 91)).alloc (.cells (rpA c p) 75)).alloc (.cells (rpA c p) 75) := by
  go_enter Try.func49, Try.ntmps49
  go_wp2
  exact bodyPost_ret (v := rpV c p) (by simp [results, Try.results49, go_sem]) rfl ⟨rfl, rfl⟩
set_option maxHeartbeats 1000000 in
theorem laTo_any (c : M.La) (w : World) :
    Calls Try.prog 39 #[laV c] w fun r w' => r = .returned (laV c) ∧ Below w.heap.size w w' := by
  go_enter Try.func39, Try.ntmps39
  go_wp2_with fail
  refine (toReply_at c.code c.page _).mono ?_
  rintro r w1 ⟨rfl, rfl⟩
  go_wp2
  refine bodyPost_ret (v := laV c) (by simp [results, Try.results39, go_sem]) rfl ⟨rfl, ?_⟩
  repeat (first | exact Below.refl _ _ | refine Below.alloc ?_ (by simp <;> omega) _)
set_option maxHeartbeats 1000000 in
theorem laEq_same (c : M.La) (w : World) :
    Calls Try.prog 42 #[laV c, laV c] w fun r w' => r = .returned (.bool true) ∧ Below w.heap.size w w' := by
  have h1 : (c.client != c.client) = false := by simp
  have h2 : (c.seq != c.seq) = false := by simp
  have b0 := ((Below.refl w.heap.size w).alloc (Nat.le_refl _) (.cells (laA c) 77)).alloc (by simp) (.cells (laA c) 77)
  go_enter Try.func42, Try.ntmps42
  go_wp2_with fail
  refine (eqReply_same c.code c.page _).mono ?_
  rintro r w1 ⟨rfl, b1⟩
  go_wp2
  go_ret
  exact ⟨rfl, next b0 b1⟩
end Go.Proofs.Ytdoeiphnalbinaa
namespace Go.Proofs.Ytdoeiphnalbinaa
open Go.RowKit
set_option maxRecDepth 20000

set_option maxHeartbeats 1000000 in
theorem eqEdition_same (a : M.Ed) (w : World) :
    Calls Try.prog 56 #[edV a, edV a] w fun r w' => r = .returned (.bool true) ∧ Below w.heap.size w w' := by
  have h0 : (a.ma != a.ma) = false := by simp
  have h1 : (a.mi != a.mi) = false := by simp
  have h2 : (a.pa != a.pa) = false := by simp
  go_enter Try.func56, Try.ntmps56
  go_wp2
  go_ret
  exact ⟨rfl, ((Below.refl _ _).alloc (Nat.le_refl _) _).alloc (by simp) _⟩
end Go.Proofs.Ytdoeiphnalbinaa
namespace Go.Proofs.Ytdoeiphnalbinaa
open Go.RowKit
set_option maxRecDepth 20000

set_option maxHeartbeats 1000000 in
theorem eqCopy_same (c : M.Cp) (w : World) :
    Calls Try.prog 57 #[cpV c, cpV c] w fun r w' => r = .returned (.bool true) ∧ Below w.heap.size w w' := by
  have h1 : (c.page.toList != c.page.toList) = false := by simp
  have h2 : (c.hidden != c.hidden) = false := by simp
  have b0 := ((Below.refl w.heap.size w).alloc (Nat.le_refl _) (.cells (cpV c).cells 82)).alloc (by simp) (.cells (cpV c).cells 82)
  go_enter Try.func57, Try.ntmps57
  go_wp2_with fail
  refine (eqEdition_same c.ed _).mono ?_
  rintro r w1 ⟨rfl, b1⟩
  obtain ⟨c1, f1⟩ := bcell b1
  go_wp2
  go_ret
  exact ⟨rfl, next b0 b1⟩

set_option maxHeartbeats 1000000 in
theorem eqCopyS_same (A B : Option Addr) (l : List M.Cp) (ca cb : Nat) (w : World) (ha : Cps w A l) (hb : Cps w B l) (hlen : l.length ≤ maxLen) :
    Calls Try.prog 51 #[.slice A l.length ca, .slice B l.length cb] w fun r w' => r = .returned (.bool true) ∧ Below w.heap.size w w' := by
  unfold maxLen at hlen
  have he : ((l.length : Int) != (l.length : Int)) = false := by simp
  go_enter Try.func51, Try.ntmps51
  go_wp2
  go_loopw [5] (fun i wr => ∃ j : Nat, i = .int .i64 j ∧ j ≤ l.length ∧ Below w.heap.size w wr) (fun i _ => l.length - (intOf i).toNat)
  case atStart => exact ⟨0, rfl, Nat.zero_le _, Below.refl _ _⟩
  case round =>
    obtain ⟨j, rfl, hj, hbl⟩ := hrel
    by_cases hlt : j < l.length
    · obtain ⟨b, o, rfl, _, c0, c1, c2, c3, c4⟩ := Cps_at (ha.below hbl) hlt
      obtain ⟨b', o', rfl, _, d0, d1, d2, d3, d4⟩ := Cps_at (hb.below hbl) hlt
      have HA := Lib.hid ha
      have HB := Lib.hid hb
      clear ha hb
      go_wp2_with fail
      go_still_tail 8, (by kernel_rfl)
      change wpList _ _ _ _ _ wr.drew
      go_wp2_with fail
      refine (eqCopy_same l[j] _).mono ?_
      rintro r w1 ⟨rfl, b1⟩
      go_wp2
      go_roundw
      case rel => exact ⟨j + 1, by go_num, by omega, next hbl.drew b1⟩
      case measure => simp [intOf]; omega
    · have hj' : j = l.length := by omega
      subst hj'
      go_wp2
      go_ret
      exact ⟨rfl, hbl⟩

set_option maxHeartbeats 1000000 in
theorem eqWork_same (name : ByteArray) (owner : Int) (A B : Option Addr) (l : List M.Cp) (ca cb : Nat) (w : World) (ha : Cps w A l) (hb : Cps w B l) (hlen : l.length ≤ maxLen) :
    Calls Try.prog 41 #[wkV name owner A l.length ca, wkV name owner B l.length cb] w fun r w' => r = .returned (.bool true) ∧ Below w.heap.size w w' := by
  have h1 : (name.toList != name.toList) = false := by simp
  have h2 : (owner != owner) = false := by simp
  have b0 := ((Below.refl w.heap.size w).alloc (Nat.le_refl _) (.cells (wkL name owner A l.length ca) 80)).alloc (by simp) (.cells (wkL name owner B l.length cb) 80)
  go_enter Try.func41, Try.ntmps41
  go_wp2_with fail
  refine (eqCopyS_same A B l ca cb _ ((ha.alloc _).alloc _) ((hb.alloc _).alloc _) hlen).mono ?_
  rintro r w1 ⟨rfl, b1⟩
  go_wp2
  go_ret
  exact ⟨rfl, next b0 b1⟩
end Go.Proofs.Ytdoeiphnalbinaa
