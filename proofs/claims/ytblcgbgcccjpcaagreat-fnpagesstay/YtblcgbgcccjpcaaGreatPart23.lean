/- Proved, in parts: Proved: the model's and the program's tests of an order answer a plain Lean function; the laws' helpers that count and copy an order; nothing that was there is written. Condition: texts of at most what memory has. Proved: the program's test of a book answers a plain Lean function; nothing that was there is written. Condition: texts and lists of at most a million. Proved: the model's and the program's LastOf answer one plain Lean function; nothing that was there is written. Condition: texts and lists of at most a million. Proved: the program's list of lasts: each of them copied, one more put at a place; in new memory; nothing that was there is written. Condition: lists of at most a million. Proved: plain facts on what an order does to a book, in the program's way and in the model's; a map of works has as many entries as works. No program is named here; no condition. Proved: the program's placeFor tells where a client's last stands, or belongs; nothing that was there is written. Condition: lists of at most a million. Proved: the laws' helper that writes a number as a text, and those that write marks into a list of copies and look whether they are there; nothing but that list is written. Condition: at most a million copies. Proved: what the laws' marks leave as it was, for lists of one's own, nil among them; no condition. Proved: three stores into a row of works put another work at a place; the rest of the shelf is as it was. Condition: the new work's list lies in a block of its own. -/
import Derived.Test.YtblcgbgcccjpcaaGreatPart22
import Derived.Test.YtblcgbgcccjpcaaGreatPart20
import Derived.Test.YtblcgbgcccjpcaaGreatPart06
import Derived.Test.YtblcgbgcccjpcaaGreatPart01
import Derived.Test.YtblcgbgcccjpcaaGreatPart09
import Derived.Test.YtblcgbgcccjpcaaGreatPart07
import Derived.Test.YtblcgbgcccjpcaaGreatPart15
import Derived.Test.YtblcgbgcccjpcaaGreatPart11
import Derived.Test.YtblcgbgcccjpcaaGreatPart02
import Derived.Test.YtblcgbgcccjpcaaGreatPart05
namespace Go.Proofs.YtblcgbgcccjpcaaGreat
open Go.RowKit
set_option maxRecDepth 20000
theorem l6Client_any (n : Int) (w : World) : Calls Tryz.prog 59 #[.int .i64 n] w fun e w' => e = .returned (.bool (M.inI n 0 3)) ∧ w = w' := by
  go_enter Tryz.func59, Tryz.ntmps59
  go_wp2_with fail
  refine (in_i _ _ _ _).mono ?_
  rintro e w' ⟨rfl, rfl⟩
  go_wp2
  go_ret
  exact ⟨rfl, rfl⟩
set_option maxHeartbeats 2000000 in
theorem specOrderOk (o : M.Or) (w : World) (hn : o.deed.name.size ≤ maxLen) (hp : o.deed.page.size ≤ maxLen) :
    Calls Tryz.prog 24 #[orV o] w fun r w' => r = .returned (.bool (M.orderOk o)) ∧ Below w.heap.size w w' := by
  have b0 := (Below.refl w.heap.size w).alloc (Nat.le_refl _) (.cells (orC o) 41)
  rcases h1 : M.inI o.client 0 3 with _ | _
  · have HE : Hid (M.orderOk o = false) := Lib.hid (by simp [M.orderOk, h1])
    go_enter Tryz.func24, Tryz.ntmps24
    go_wp2_with fail
    have hc := l6Client_any o.client (w.alloc (.cells (orC o) 41))
    rw [h1] at hc
    refine hc.mono ?_
    rintro e w' ⟨rfl, rfl⟩
    clear hc h1
    go_wp2
    go_ret
    exact ⟨by rw [HE.out]; rfl, b0⟩
  · rcases h2 : M.inI o.seq 1 1000 with _ | _
    · have HE : Hid (M.orderOk o = false) := Lib.hid (by simp [M.orderOk, h2])
      go_enter Tryz.func24, Tryz.ntmps24
      go_wp2_with fail
      have hc := l6Client_any o.client (w.alloc (.cells (orC o) 41))
      rw [h1] at hc
      refine hc.mono ?_
      rintro e w' ⟨rfl, rfl⟩
      clear hc h1
      go_wp2_with fail
      have hc := in_i o.seq 1 1000 (w.alloc (.cells (orC o) 41))
      rw [h2] at hc
      refine hc.mono ?_
      rintro e w' ⟨rfl, rfl⟩
      clear hc h2
      go_wp2
      go_ret
      exact ⟨by rw [HE.out]; rfl, b0⟩
    · have HE : Hid (M.orderOk o = M.deedOk o.deed) := Lib.hid (by simp [M.orderOk, h1, h2])
      go_enter Tryz.func24, Tryz.ntmps24
      go_wp2_with fail
      have hc := l6Client_any o.client (w.alloc (.cells (orC o) 41))
      rw [h1] at hc
      refine hc.mono ?_
      rintro e w' ⟨rfl, rfl⟩
      clear hc h1
      go_wp2_with fail
      have hc := in_i o.seq 1 1000 (w.alloc (.cells (orC o) 41))
      rw [h2] at hc
      refine hc.mono ?_
      rintro e w' ⟨rfl, rfl⟩
      clear hc h2
      go_wp2_with fail
      refine (specDeedOk o.deed _ hn hp).mono ?_
      rintro e w1 ⟨rfl, b1⟩
      go_wp2
      go_ret
      exact ⟨by rw [HE.out]; rfl, next b0 b1⟩

end Go.Proofs.YtblcgbgcccjpcaaGreat
namespace Go.Proofs.YtblcgbgcccjpcaaGreat
open Go.RowKit
set_option maxRecDepth 20000
namespace M
def laOk (c : La) : Bool := inI c.client 0 3 && inI c.seq 1 1000
def laLt (a b : La) : Bool := decide (a.client < b.client)
def lasOk (l : List La) : Bool := l.all laOk && grises laLt l
def bkOk (s : List Wk) (l : List La) : Bool := sfOk s && lasOk l
end M
/-- A book: its works in memory, its lasts. -/
abbrev bkA (A : Option Addr) (n c : Nat) (B : Option Addr) (m e : Nat) : Array Value := #[.slice A n c, .slice B m e]
abbrev bkV (A : Option Addr) (n c : Nat) (B : Option Addr) (m e : Nat) : Value := .agg (bkA A n c B m e)

end Go.Proofs.YtblcgbgcccjpcaaGreat
namespace Go.Proofs.YtblcgbgcccjpcaaGreat
open Go.RowKit
set_option maxRecDepth 20000
namespace M
def isCl (c : Int) (x : La) : Bool := x.client == c
def laFind (l : List La) (c : Int) : Nat := l.findIdx (isCl c)
def laFindInt (l : List La) (c : Int) : Int := if laFind l c < l.length then (laFind l c : Int) else -1
theorem laFindInt_pos {l : List La} {c : Int} (h : laFind l c < l.length) : laFindInt l c = laFind l c := if_pos h
theorem laFindInt_neg {l : List La} {c : Int} (h : laFind l c = l.length) : laFindInt l c = -1 := if_neg (by omega)
theorem laFind_le (l : List La) (c : Int) : laFind l c ≤ l.length := List.findIdx_le_length
end M

set_option maxHeartbeats 1000000 in
theorem l6Last_any (A : Option Addr) (n cap : Nat) (B : Option Addr) (l : List M.La) (cb : Nat) (c : Int) (w : World) (hm : Las w B l) (hml : l.length ≤ 1048576) :
    Calls Tryz.prog 86 #[bkV A n cap B l.length cb, .int .i64 c] w fun r w' => r = .returned (.int .i64 (M.laFindInt l c)) ∧ Below w.heap.size w w' := by
  have b0 := (Below.refl w.heap.size w).alloc (Nat.le_refl _) (.cells (bkA A n cap B l.length cb) 27)
  have hK := holds_new w (bkA A n cap B l.length cb) 27
  have HL := Lib.hid (hm.below b0)
  clear hm
  go_enter Tryz.func86, Tryz.ntmps86
  go_wp2
  generalize hwB : w.alloc (.cells (bkA A n cap B l.length cb) 27) = wB at b0 hK HL ⊢
  clear hwB
  obtain ⟨k0, k1⟩ := hK.two
  have zk := hK.1
  go_loop [5] (fun i => ∃ j : Nat, i = .int .i64 j ∧ j ≤ l.length ∧ GNoneTo (M.isCl c) l j) (fun i => l.length - (intOf i).toNat)
  case atStart => exact ⟨0, rfl, Nat.zero_le _, GNoneTo.zero _ l⟩
  case round =>
    obtain ⟨j, rfl, hj, hnone⟩ := hrel
    have HN := Lib.hid hnone
    clear hnone
    by_cases hlt : j < l.length
    · obtain ⟨b, o, hA, lb, c0, c1, c2, c3⟩ := Las_at HL.out hlt
      subst hA
      rcases hq : (l[j].client == c) with _ | _
      · have HQ : Hid (M.isCl c l[j] = false) := Lib.hid hq
        go_wp2
        go_round
        case rel => exact ⟨j + 1, by go_num, by omega, HN.out.next hlt HQ.out⟩
        case measure => simp [intOf]; omega
      · have HE : Hid (M.laFindInt l c = j) := Lib.hid (by
          have h1 : M.laFind l c = j := HN.out.hit hlt hq
          rw [M.laFindInt_pos (by rw [h1]; exact hlt), h1])
        go_wp2
        go_ret
        exact ⟨ret_int HE.out.symm, b0⟩
    · have hj' : j = l.length := by omega
      subst hj'
      have HE : Hid (M.laFindInt l c = -1) := Lib.hid (M.laFindInt_neg HN.out.all)
      go_wp2
      go_ret
      exact ⟨ret_int HE.out.symm, b0⟩

theorem Holds.putLa {w : World} {g : Nat} {y : M.La} (h : Holds w g (laA y)) (x : M.La) : Holds ((((w.setCell ⟨g, 0, none⟩ (.int .i64 x.client)).setCell ⟨g, 1, none⟩ (.int .i64 x.seq)).setCell ⟨g, 2, none⟩ (.int .i64 x.code)).setCell ⟨g, 3, none⟩ (.string x.page)) g (laA x) := by
  simpa using (((h.putM 0 (.int .i64 x.client)).putM 1 (.int .i64 x.seq)).putM 2 (.int .i64 x.code)).putM 3 (.string x.page)
end Go.Proofs.YtblcgbgcccjpcaaGreat
namespace Go.Proofs.YtblcgbgcccjpcaaGreat
open Go.RowKit
set_option maxRecDepth 20000
namespace M
def putLa (l : List La) (k : Nat) (c : La) : List La := l.take k ++ c :: l.drop k
theorem putLa_len (l : List La) (k : Nat) (c : La) (hk : k ≤ l.length) : (putLa l k c).length = l.length + 1 := by
  simp [putLa]; omega
end M
theorem LasOwn.nil (B : Nat) (w : World) : LasOwn B w (.slice none 0 0) [] := World.ownsRow_nil _ _ _ _
theorem LasOwn.below {B : Nat} {w w' : World} {v : Value} {l : List M.La} (h : LasOwn B w v l) (hb : Below w.heap.size w w') : LasOwn B w' v l := Own.below h hb
theorem LasOwn.mono {B B' : Nat} {w : World} {v : Value} {l : List M.La} (h : LasOwn B w v l) (hb : B' ≤ B) : LasOwn B' w v l := World.ownsRow.mono h hb
theorem LasOwn.open {B : Nat} {w : World} {v : Value} {l : List M.La} (h : LasOwn B w v l) : ∃ A c, v = .slice A l.length c ∧ Las w A l ∧ (A = none → c = 0) := by
  obtain ⟨A, c, hv, hc, hf⟩ := own_flat laL_len h
  refine ⟨A, c, hv, hf, fun hA => ?_⟩
  subst hA
  obtain ⟨_, ⟨h0, hn⟩ | ⟨g, cap, cur, hv', _⟩⟩ := h
  · rw [hv] at h0
    injection h0
  · rw [hv] at hv'
    injection hv' with h1
    cases h1
theorem la_one (l : List M.La) : ∀ u ∈ cellsOf laL l, u.oneCell' = true := by
  intro u hu
  obtain ⟨c, _, hc⟩ := List.mem_flatMap.1 hu
  simp at hc
  rcases hc with rfl | rfl | rfl | rfl <;> rfl
theorem one_flatLa (w : World) (c : M.La) (t : TypeId) : Las (w.alloc (.cells (laA c) t)) (some ⟨w.heap.size, 0, none⟩) [c] := by
  refine .inr ⟨w.heap.size, 0, rfl, by simp, fun i t' x u hi hu => ?_⟩
  have h := (holds_new w (laA c) t).2
  rcases i with _ | i
  · simp at hi
    subst hi
    rw [Nat.zero_mul, Nat.add_zero, Nat.zero_add]
    exact h t' u (by simpa using hu)
  · simp at hi

end Go.Proofs.YtblcgbgcccjpcaaGreat
namespace Go.Proofs.YtblcgbgcccjpcaaGreat
open Go.RowKit
set_option maxRecDepth 20000
namespace M
def isGe (c : Int) (x : La) : Bool := decide (c ≤ x.client)
def laPlace (l : List La) (c : Int) : Nat := l.findIdx (isGe c)
def laAt (l : List La) (c : Int) : Bool := match l[laPlace l c]? with
  | some x => x.client == c
  | none => false
theorem laPlace_le (l : List La) (c : Int) : laPlace l c ≤ l.length := List.findIdx_le_length
theorem laAt_lt {l : List La} {c : Int} (h : laAt l c = true) : ∃ hk : laPlace l c < l.length, (l[laPlace l c].client == c) = true := by
  unfold laAt at h
  rcases hx : l[laPlace l c]? with _ | x
  · rw [hx] at h; cases h
  · rw [hx] at h
    obtain ⟨hk, e⟩ := List.getElem?_eq_some_iff.1 hx
    exact ⟨hk, by rw [e]; exact h⟩
theorem laAt_not {l : List La} {c : Int} (h : laAt l c = false) (hk : laPlace l c < l.length) : (l[laPlace l c].client == c) = false := by
  unfold laAt at h
  rw [List.getElem?_eq_getElem hk] at h
  exact h
abbrev Bk := List Wk × List La
/-- The last with the reply to an order. -/
def laSet (x : La) (seq : Int) (r : Rp) : La := { x with seq := seq, code := r.1, page := r.2 }
/-- What is done at the client's last. -/
def ordT (b : Bk) (k : Nat) (o : Or) : Bk × Rp := match b.2[k]? with
  | some x => if o.seq < x.seq then (b, (6, nilB)) else if x.seq < o.seq then (((keptD b.1 o.deed).1, b.2.set k (laSet x o.seq (keptD b.1 o.deed).2)), (keptD b.1 o.deed).2) else (b, (x.code, x.page))
  | none => (b, (7, nilB))
/-- The lasts with one for the client. -/
def laFor (l : List La) (c : Int) : List La := if laAt l c then l else putLa l (laPlace l c) ⟨c, 0, 0, nilB⟩
/-- What an order does, as the program goes about it. -/
def ordI (b : Bk) (o : Or) : Bk × Rp := if orderOk o then ordT (b.1, laFor b.2 o.client) (laPlace b.2 o.client) o else (b, (7, nilB))
theorem rises_la {l : List La} (h : grises laLt l = true) : ∀ (j i : Nat) (hi : i < j) (hj : j < l.length), (l[i]'(by omega)).client < l[j].client := by
  intro j
  induction j with
  | zero => intro i hi; omega
  | succ j ih =>
    intro i hi hj
    have h1 := (grises_iff laLt l).1 h j hj
    have h2 : l[j].client < l[j + 1].client := by simpa [laLt] using h1
    by_cases e : i = j
    · subst e; exact h2
    · have := ih i (by omega) (by omega)
      omega
theorem lasOk_len {l : List La} (h : lasOk l = true) : l.length ≤ 4 := by
  simp only [lasOk, Bool.and_eq_true] at h
  obtain ⟨h1, h2⟩ := h
  have hin : ∀ (i : Nat) (hi : i < l.length), 0 ≤ l[i].client ∧ l[i].client ≤ 3 := fun i hi => by
    have := List.all_eq_true.1 h1 l[i] (List.getElem_mem hi)
    simp only [laOk, inI, Bool.and_eq_true, decide_eq_true_eq] at this
    exact this.1
  have hge : ∀ (i : Nat) (hi : i < l.length), (i : Int) ≤ l[i].client := by
    intro i
    induction i with
    | zero => intro hi; exact (hin 0 hi).1
    | succ i ih =>
      intro hi
      have h3 := ih (by omega)
      have h4 := rises_la h2 (i + 1) i (by omega) hi
      omega
  rcases Nat.lt_or_ge 4 l.length with h5 | h5
  · have := hge 4 h5
    have := (hin 4 h5).2
    omega
  · exact h5
theorem ordT_old {b : Bk} {k : Nat} {o : Or} (hk : k < b.2.length) (h : o.seq < b.2[k].seq) : ordT b k o = (b, (6, nilB)) := by
  unfold ordT
  rw [List.getElem?_eq_getElem hk]
  simp [h]
theorem ordT_same {b : Bk} {k : Nat} {o : Or} (hk : k < b.2.length) (h : o.seq = b.2[k].seq) : ordT b k o = (b, (b.2[k].code, b.2[k].page)) := by
  unfold ordT
  rw [List.getElem?_eq_getElem hk]
  simp [h]
theorem ordT_new {b : Bk} {k : Nat} {o : Or} (hk : k < b.2.length) (h : b.2[k].seq < o.seq) : ordT b k o = (((keptD b.1 o.deed).1, b.2.set k (laSet b.2[k] o.seq (keptD b.1 o.deed).2)), (keptD b.1 o.deed).2) := by
  have h' : ¬ o.seq < b.2[k].seq := by omega
  unfold ordT
  rw [List.getElem?_eq_getElem hk]
  simp [h, h']
end M
end Go.Proofs.YtblcgbgcccjpcaaGreat
namespace Go.Proofs.YtblcgbgcccjpcaaGreat
open Go.RowKit
set_option maxRecDepth 20000

end Go.Proofs.YtblcgbgcccjpcaaGreat
namespace Go.Proofs.YtblcgbgcccjpcaaGreat
open Go.RowKit
set_option maxRecDepth 20000

def markB (n : Nat) : ByteArray := ⟨(109 :: M.digs n).toArray⟩
/-- Block g alone, of all that was there, may have changed. -/
structure Touch (g : Nat) (w w' : World) : Prop where
  size : w.heap.size ≤ w'.heap.size
  low : ∀ B, B ≤ g → Below B w w'
  block : ∀ k, k < w.heap.size → k ≠ g → w'.heap[k]? = w.heap[k]?
theorem Touch.refl (g : Nat) (w : World) : Touch g w w := ⟨Nat.le_refl _, fun _ _ => Below.refl _ _, fun _ _ _ => rfl⟩
theorem Touch.below {g : Nat} {w w1 w2 : World} (h : Touch g w w1) (hg : g < w1.heap.size) (hb : Below w1.heap.size w1 w2) : Touch g w w2 :=
  ⟨Nat.le_trans h.size hb.size, fun B hB => (h.low B hB).trans (hb.mono (by omega)), fun k hk hne => (hb.block k (Nat.lt_of_lt_of_le hk h.size)).trans (h.block k hk hne)⟩
theorem Touch.set {g : Nat} {w w1 : World} (h : Touch g w w1) (j : Nat) (v : Value) : Touch g w (w1.setCell ⟨g, j, none⟩ v) :=
  ⟨by simpa using h.size, fun B hB => (h.low B hB).setCell hB v, fun k hk hne => (Below.heap_setCell _ _ _ _ hne).trans (h.block k hk hne)⟩
theorem Touch.holds {g k : Nat} {w w1 : World} {C : Array Value} (h : Touch g w w1) (hC : Holds w k C) (hk : k ≠ g) : Holds w1 k C :=
  ⟨Nat.lt_of_lt_of_le hC.1 h.size, fun j v hj => (World.cell?_of_block (a := ⟨k, j, none⟩) (h.block k hC.1 hk)).trans (hC.2 j v hj)⟩
theorem Touch.own {g B : Nat} {w w1 : World} {v : Value} {l : List M.Cp} (h : Touch g w w1) (ho : CpOwn B w v l) (hne : v.ownBlock ≠ some g) : CpOwn B w1 v l := by
  obtain ⟨hl, h0 | ⟨k, cap, cur, rfl, hb, hh, hr⟩⟩ := ho
  · exact ⟨hl, .inl h0⟩
  · have hk : k ≠ g := fun e => hne (by rw [e]; rfl)
    have hlt : k < w.heap.size := (Array.getElem?_eq_some_iff.1 hh).1
    exact ⟨hl, .inr ⟨k, cap, cur, rfl, hb, (h.block k hlt hk).trans hh, hr⟩⟩

theorem Touch.before {g : Nat} {w w1 w2 : World} (h : Touch g w1 w2) (hb : Below w.heap.size w w1) (hg : g < w.heap.size) : Touch g w w2 :=
  ⟨Nat.le_trans hb.size h.size, fun B hB => (hb.mono (by omega)).trans (h.low B hB), fun k hk hne => (h.block k (Nat.lt_of_lt_of_le hk hb.size) hne).trans (hb.block k hk)⟩

def markCp (k : Nat) : M.Cp := ⟨⟨k, (k : Int) + 1, (k : Int) + 1 + 1⟩, markB (k + 3), ((k : Int) + 1 + 1 + 1 + 1) % 3 == 0⟩
def marks (k : Nat) (j : Nat) : List M.Cp := (List.range j).map fun i => markCp (k + 5 * i)
end Go.Proofs.YtblcgbgcccjpcaaGreat
namespace Go.Proofs.YtblcgbgcccjpcaaGreat
open Go.RowKit
set_option maxRecDepth 20000

theorem CpOwn.apart {B : Nat} {w : World} {v : Value} {l : List M.Cp} (h : CpOwn B w v l) {a : Addr} (ha : v.ownBlock ≠ some a.block) (u : Value) : CpOwn B (w.setCell a u) v l := by
  obtain ⟨hl, h0 | ⟨k, cap, cur, rfl, hb, hh, hr⟩⟩ := h
  · exact ⟨hl, .inl h0⟩
  · exact ⟨hl, .inr ⟨k, cap, cur, rfl, hb, (Below.heap_setCell _ _ _ _ (fun e => ha (by rw [← e]; rfl))).trans hh, hr⟩⟩
theorem CpOwn.ne_low {B g : Nat} {w : World} {v : Value} {l : List M.Cp} (h : CpOwn B w v l) (hg : g < B) : v.ownBlock ≠ some g := fun e => by
  have := (h.lt g e).1; omega
theorem CpOwn.ne_new {B : Nat} {w : World} {v : Value} {l : List M.Cp} (h : CpOwn B w v l) : v.ownBlock ≠ some w.heap.size := fun e => by
  have := (h.lt _ e).2; omega

/-- The block row alone, of all that was there, may have changed. -/
structure TouchO (row : Option Nat) (w w' : World) : Prop where
  size : w.heap.size ≤ w'.heap.size
  low : ∀ B, B ≤ w.heap.size → (∀ g, row = some g → B ≤ g) → Below B w w'
  block : ∀ k, k < w.heap.size → some k ≠ row → w'.heap[k]? = w.heap[k]?
theorem TouchO.holds {row : Option Nat} {k : Nat} {w w1 : World} {C : Array Value} (h : TouchO row w w1) (hC : Holds w k C) (hk : some k ≠ row) : Holds w1 k C :=
  ⟨Nat.lt_of_lt_of_le hC.1 h.size, fun j v hj => (World.cell?_of_block (a := ⟨k, j, none⟩) (h.block k hC.1 hk)).trans (hC.2 j v hj)⟩
theorem TouchO.own {row : Option Nat} {B : Nat} {w w1 : World} {v : Value} {l : List M.Cp} (h : TouchO row w w1) (ho : CpOwn B w v l) (hne : v.ownBlock = none ∨ v.ownBlock ≠ row) : CpOwn B w1 v l := by
  obtain ⟨hl, h0 | ⟨k, cap, cur, rfl, hb, hh, hr⟩⟩ := ho
  · exact ⟨hl, .inl h0⟩
  · have hk : some k ≠ row := by
      rcases hne with hne | hne
      · simp [Value.ownBlock] at hne
      · exact hne
    have hlt : k < w.heap.size := (Array.getElem?_eq_some_iff.1 hh).1
    exact ⟨hl, .inr ⟨k, cap, cur, rfl, hb, (h.block k hlt hk).trans hh, hr⟩⟩

/-- s is a pointer to a new box that holds the work p tells, its copies in new memory of their own; sb is the flag. -/
def WkBox (W0 : World) (p : M.Wk × Bool) (s sb : Value) (wx : World) : Prop :=
  ∃ G A c, sb = .bool p.2 ∧ s = .pointer (some ⟨G, 0, none⟩) ∧ W0.heap.size ≤ G ∧ Below W0.heap.size W0 wx ∧ Holds wx G (wkL p.1.name p.1.owner A p.1.copies.length c) ∧ CpOwn W0.heap.size wx (.slice A p.1.copies.length c) p.1.copies ∧ (Value.slice A p.1.copies.length c).ownBlock ≠ some G
end Go.Proofs.YtblcgbgcccjpcaaGreat
namespace Go.Proofs.YtblcgbgcccjpcaaGreat
open Go.RowKit

theorem cells_parts {l : List Wr} {k : Nat} (hk : k < l.length) : cellsOf wrL l = cellsOf wrL (l.take k) ++ (Value.string l[k].name :: .int .i64 l[k].owner :: l[k].sl :: cellsOf wrL (l.drop (k + 1))) := by
  have h : l = l.take k ++ (l[k] :: l.drop (k + 1)) := by
    rw [List.getElem_cons_drop, List.take_append_drop]
  have h2 : cellsOf wrL l = cellsOf wrL (l.take k ++ (l[k] :: l.drop (k + 1))) := by rw [← h]
  rw [h2, cellsOf_append]
  rfl
theorem cells_set {l : List Wr} {k : Nat} (hk : k < l.length) (r : Wr) : cellsOf wrL (l.set k r) = cellsOf wrL (l.take k) ++ (Value.string r.name :: .int .i64 r.owner :: r.sl :: cellsOf wrL (l.drop (k + 1))) := by
  rw [List.set_eq_take_append_cons_drop, if_pos hk, cellsOf_append]
  rfl
theorem apart_sym {a b : Value} (h : Apart a b) : Apart b a := by
  unfold Apart at h ⊢
  rcases hb : b.ownBlock with _ | k
  · exact .inl rfl
  · refine .inr fun e => ?_
    rcases h with h | h
    · rw [h] at e; cases e
    · exact h (by rw [hb, ← e])
/-- Where a shelf of one's own lies. -/
theorem SfOwn.at {B : Nat} {w : World} {v : Value} {l : List Wr} (h : SfOwn B w v l) (hne : 0 < l.length) : ∃ g c, v = .slice (some ⟨g, 0, none⟩) l.length c ∧ B ≤ g ∧ g < w.heap.size := by
  obtain ⟨g, cc, hv, hb, hg⟩ := World.ownsRow.form h.1 hne
  exact ⟨g, cc, hv, hb, hg⟩
theorem SfOwn.cellsK {B g c : Nat} {w : World} {l : List Wr} (h : SfOwn B w (.slice (some ⟨g, 0, none⟩) l.length c) l) {k : Nat} (hk : k < l.length) :
    (w.cell? ⟨g, k * 3, none⟩ = some (.string l[k].name) ∧ w.cell? ⟨g, k * 3 + 1, none⟩ = some (.int .i64 l[k].owner) ∧ w.cell? ⟨g, k * 3 + 2, none⟩ = some l[k].sl) ∧
    (w.frozen? ⟨g, k * 3, none⟩ = false ∧ w.frozen? ⟨g, k * 3 + 1, none⟩ = false ∧ w.frozen? ⟨g, k * 3 + 2, none⟩ = false) := by
  have h1 := h.1
  rw [cells_parts hk] at h1
  exact own_cells3 h1 (by rw [cellsOf_len wrL_len, List.length_take]; omega)
theorem SfOwn.setK {B g c : Nat} {w : World} {l : List Wr} (h : SfOwn B w (.slice (some ⟨g, 0, none⟩) l.length c) l) {k : Nat} (hk : k < l.length) (r : Wr) (ho : CpOwn B w r.sl r.cps) (hv : r.sl.ownBlock ≠ some g) (hap : ∀ i (hi : i < l.length), i ≠ k → Apart r.sl l[i].sl) :
    SfOwn B (((w.setCell ⟨g, k * 3, none⟩ (.string r.name)).setCell ⟨g, k * 3 + 1, none⟩ (.int .i64 r.owner)).setCell ⟨g, k * 3 + 2, none⟩ r.sl) (.slice (some ⟨g, 0, none⟩) l.length c) (l.set k r) := by
  have h1 := h.1
  rw [cells_parts hk] at h1
  have h2 := own_put3 (f0 := .string r.name) (f1 := .int .i64 r.owner) (f2 := r.sl) h1 (j := k * 3) (by rw [cellsOf_len wrL_len, List.length_take]; omega)
  rw [← cells_set hk] at h2
  have hb : (Value.slice (some ⟨g, 0, none⟩) l.length c).ownBlock = some g := rfl
  have hold : ∀ y ∈ l, y.sl.ownBlock ≠ some g := fun y hy e => by
    rcases h.2.2.1 y hy with h0 | h0
    · rw [h0] at e; cases e
    · exact h0 (e.trans hb.symm)
  have hne : ∀ y : Wr, y.sl.ownBlock ≠ some g → CpOwn B w y.sl y.cps → CpOwn B (((w.setCell ⟨g, k * 3, none⟩ (.string r.name)).setCell ⟨g, k * 3 + 1, none⟩ (.int .i64 r.owner)).setCell ⟨g, k * 3 + 2, none⟩ r.sl) y.sl y.cps := fun y hy ho => ((ho.apartN (a := ⟨g, k * 3, none⟩) hy _).apartN (a := ⟨g, k * 3 + 1, none⟩) hy _).apartN (a := ⟨g, k * 3 + 2, none⟩) hy _
  refine ⟨by rw [List.length_set]; exact h2, fun y hy => ?_, fun y hy => ?_, ?_⟩
  · rcases List.mem_or_eq_of_mem_set hy with hy | rfl
    · exact hne y (hold y hy) (h.2.1 y hy)
    · exact hne y hv ho
  · rcases List.mem_or_eq_of_mem_set hy with hy | rfl
    · exact h.2.2.1 y hy
    · exact .inr fun e => hv (e.trans hb)
  · rw [List.pairwise_iff_getElem]
    intro i j hi hj hij
    rw [List.length_set] at hi hj
    rw [List.getElem_set, List.getElem_set]
    by_cases e1 : k = i
    · rw [if_pos e1, if_neg (by omega)]
      exact hap j hj (by omega)
    · rw [if_neg e1]
      by_cases e2 : k = j
      · rw [if_pos e2]
        exact apart_sym (hap i hi (by omega))
      · rw [if_neg e2]
        exact (List.pairwise_iff_getElem.1 h.2.2.2) i j hi hj hij
theorem SfOwn.setOwner {B g c : Nat} {w : World} {l : List Wr} (h : SfOwn B w (.slice (some ⟨g, 0, none⟩) l.length c) l) {k : Nat} (hk : k < l.length) (o : Int) :
    SfOwn B (w.setCell ⟨g, k * 3 + 1, none⟩ (.int .i64 o)) (.slice (some ⟨g, 0, none⟩) l.length c) (l.set k { l[k] with owner := o }) := by
  have h1 := h.1
  rw [cells_parts hk] at h1
  have h2 := (h1.stored (k * 3 + 1) (.int .i64 o)).1
  have hlen : k * 3 = (cellsOf wrL (l.take k)).length := by rw [cellsOf_len wrL_len, List.length_take]; omega
  have hs : (cellsOf wrL (l.take k) ++ (Value.string l[k].name :: .int .i64 l[k].owner :: l[k].sl :: cellsOf wrL (l.drop (k + 1)))).set (k * 3 + 1) (.int .i64 o) = cellsOf wrL (l.set k { l[k] with owner := o }) := by
    rw [cells_set hk, hlen]
    simp
  rw [hs] at h2
  have hb : (Value.slice (some ⟨g, 0, none⟩) l.length c).ownBlock = some g := rfl
  have hold : ∀ y ∈ l, y.sl.ownBlock ≠ some g := fun y hy e => by
    rcases h.2.2.1 y hy with h0 | h0
    · rw [h0] at e; cases e
    · exact h0 (e.trans hb.symm)
  have hne : ∀ y ∈ l, CpOwn B (w.setCell ⟨g, k * 3 + 1, none⟩ (.int .i64 o)) y.sl y.cps := fun y hy => (h.2.1 y hy).apartN (a := ⟨g, k * 3 + 1, none⟩) (hold y hy) _
  have hkm : l[k] ∈ l := List.getElem_mem hk
  refine ⟨by rw [List.length_set]; exact h2, fun y hy => ?_, fun y hy => ?_, ?_⟩
  · rcases List.mem_or_eq_of_mem_set hy with hy | rfl
    · exact hne y hy
    · exact hne l[k] hkm
  · rcases List.mem_or_eq_of_mem_set hy with hy | rfl
    · exact h.2.2.1 y hy
    · exact h.2.2.1 l[k] hkm
  · rw [List.pairwise_iff_getElem]
    intro i j hi hj hij
    rw [List.length_set] at hi hj
    have hp := (List.pairwise_iff_getElem.1 h.2.2.2) i j hi hj hij
    rw [List.getElem_set, List.getElem_set]
    by_cases e1 : k = i
    · subst e1
      rw [if_pos rfl, if_neg (by omega)]
      exact hp
    · rw [if_neg e1]
      by_cases e2 : k = j
      · subst e2
        rw [if_pos rfl]
        exact hp
      · rw [if_neg e2]
        exact hp
theorem own_far {B g : Nat} {w : World} {t : TypeId} {kk n : Nat} {v : Value} {C : List Value} (h : w.ownsRow B t kk v n C) (hg : v.ownBlock ≠ some g) (i : Nat) (u : Value) : (w.setCell ⟨g, i, none⟩ u).ownsRow B t kk v n C := by
  obtain ⟨hl, h0 | ⟨k, cap, cur, rfl, hb, hh, hr⟩⟩ := h
  · exact ⟨hl, .inl h0⟩
  · exact ⟨hl, .inr ⟨k, cap, cur, rfl, hb, (Below.heap_setCell _ _ _ _ (fun e => hg (congrArg some (show k = g from e)))).trans hh, hr⟩⟩
theorem SfOwn.far {B g : Nat} {w : World} {v : Value} {l : List Wr} (h : SfOwn B w v l) (hv : v.ownBlock ≠ some g) (hr : ∀ r ∈ l, r.sl.ownBlock ≠ some g) (i : Nat) (u : Value) : SfOwn B (w.setCell ⟨g, i, none⟩ u) v l :=
  ⟨own_far h.1 hv i u, fun r hm => own_far (h.2.1 r hm) (hr r hm) i u, h.2.2⟩
end Go.Proofs.YtblcgbgcccjpcaaGreat
