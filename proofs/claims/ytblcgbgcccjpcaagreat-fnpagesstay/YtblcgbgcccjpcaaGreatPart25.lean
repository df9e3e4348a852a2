/- Proved, in parts: Proved: the program's ordered answers a plain Lean function, and leaves the book as it tells. Condition: texts and lists of at most a million. Proved: the program's bookOf lays a book into memory of its own, and written reads it back. Condition: texts and lists of at most a million. Proved: the program's Ordered answers a plain Lean function, its book in new memory; nothing that was there is written. Condition: texts and lists of at most a million. Proved: what the model does with an order is what the program does, where the book and the order are right. No program is named here. Condition: those two. Proved: what an order leaves of a right book is a right book; plain facts on many orders. No program is named here; no condition. Proved: an order that was given changes nothing when it is given again, whatever came between; plain facts, no program is named here; no condition. Proved: the model's l5Find tells where a name stands in a list of works, and its l5Copy answers the same works in new memory; they write nothing that was there. Condition: texts and lists of at most a million. Proved: where a name stands in a list whose names rise; what a put leaves of it, told by places. Condition: none. Proved: the model's deeds on a list, told by places, answer what the program's answer, where the shelf and the deed are right. Condition: those two. -/
import Derived.Test.YtblcgbgcccjpcaaGreatPart24
import Derived.Test.YtblcgbgcccjpcaaGreatPart23
import Derived.Test.YtblcgbgcccjpcaaGreatPart06
import Derived.Test.YtblcgbgcccjpcaaGreatPart05
import Derived.Test.YtblcgbgcccjpcaaGreatPart11
import Derived.Test.YtblcgbgcccjpcaaGreatPart21
namespace Go.Proofs.YtblcgbgcccjpcaaGreat
open Go.RowKit
set_option maxRecDepth 20000
/-- Which blocks an order may write. -/
def bkS (b G : Nat) (v : Value) (g : Nat) : Prop := g = b ∨ g = G ∨ v.ownBlock = some g
end Go.Proofs.YtblcgbgcccjpcaaGreat
namespace Go.Proofs.YtblcgbgcccjpcaaGreat
open Go.RowKit
set_option maxRecDepth 20000
end Go.Proofs.YtblcgbgcccjpcaaGreat
namespace Go.Proofs.YtblcgbgcccjpcaaGreat
open Go.RowKit
set_option maxRecDepth 20000
namespace M
def ordered (b : Bk) (o : Or) : Bk × Rp := if bkOk b.1 b.2 then ordI b o else (([], []), (7, nilB))
end M
/-- What Ordered answers. -/
def OrRet (w : World) (q : M.Bk × M.Rp) (e : Ending) (w' : World) : Prop :=
  ∃ v1 v2 rs', e = .returned (.tuple #[.agg #[v1, v2], rpV q.2.1 q.2.2]) ∧ SfOwn w.heap.size w' v1 rs' ∧ rs'.map Wr.wk = q.1.1 ∧ LasOwn w.heap.size w' v2 q.1.2 ∧ (∀ g, v2.ownBlock = some g → ¬ blocksS v1 rs' g) ∧ Below w.heap.size w w'
end Go.Proofs.YtblcgbgcccjpcaaGreat
namespace Go.Proofs.YtblcgbgcccjpcaaGreat
open Go.RowKit
set_option maxRecDepth 20000
namespace M
/-- What an order does to a right book, as the model goes about it. -/
def ordS (b : Bk) (o : Or) : Bk × Rp := match b.2[laFind b.2 o.client]? with
  | some x => if o.seq = x.seq then (b, (x.code, x.page)) else if o.seq < x.seq then (b, (6, nilB)) else (((does b.1 o.deed).1, b.2.set (laFind b.2 o.client) ⟨o.client, o.seq, (does b.1 o.deed).2.1, (does b.1 o.deed).2.2⟩), (does b.1 o.deed).2)
  | none => (((does b.1 o.deed).1, putLa b.2 (laPlace b.2 o.client) ⟨o.client, o.seq, (does b.1 o.deed).2.1, (does b.1 o.deed).2.2⟩), (does b.1 o.deed).2)
theorem find_at_place {l : List La} {c : Int} (h : laAt l c = true) : laFind l c = laPlace l c := by
  obtain ⟨hk, hc⟩ := laAt_lt h
  refine (List.findIdx_eq hk).2 ⟨hc, fun j hj => ?_⟩
  have h1 : isGe c (l[j]'(by omega)) = false := by
    have := List.not_of_lt_findIdx (xs := l) (p := isGe c) hj
    simpa using this
  simp only [isGe, decide_eq_false_iff_not] at h1
  simp only [isCl, beq_eq_false_iff_ne]
  omega
theorem find_none {l : List La} {c : Int} (hr : grises laLt l = true) (h : laAt l c = false) : laFind l c = l.length := by
  refine List.findIdx_eq_length.2 fun x hx => ?_
  obtain ⟨i, hi, rfl⟩ := List.mem_iff_getElem.1 hx
  rcases hc : isCl c l[i] with _ | _
  · rfl
  · have hc' : l[i].client = c := by simpa [isCl] using hc
    have hge : isGe c l[i] = true := by simp [isGe, hc']
    have hp : laPlace l c ≤ i := by
      rcases Nat.lt_or_ge i (laPlace l c) with h' | h'
      · have := List.not_of_lt_findIdx (xs := l) (p := isGe c) h'
        simp [hge] at this
      · exact h'
    have hpl : laPlace l c < l.length := by omega
    have hpc := laAt_not h hpl
    have hpc' : l[laPlace l c].client ≠ c := by simpa using hpc
    have hpg : isGe c l[laPlace l c] = true := List.findIdx_getElem (w := hpl)
    have hpg' : c ≤ l[laPlace l c].client := by simpa [isGe] using hpg
    by_cases e : laPlace l c = i
    · exact absurd (by simp only [e]; exact hc') hpc'
    · have := rises_la hr i (laPlace l c) (by omega) hi
      omega
theorem does_kept {l : List Wk} {d : Dd} (h : sfOk l = true) : does l d = keptD l d := by
  unfold does keptD
  rw [if_pos h]
theorem putLa_at {l : List La} {k : Nat} (hk : k ≤ l.length) (x : La) : ∃ h : k < (putLa l k x).length, (putLa l k x)[k] = x := by
  have h2 : (putLa l k x)[k]? = some x := by
    unfold putLa
    rw [List.getElem?_append_right (by simp; omega)]
    have : k - (l.take k).length = 0 := by simp; omega
    rw [this]; rfl
  exact List.getElem?_eq_some_iff.1 h2
theorem putLa_set {l : List La} {k : Nat} (hk : k ≤ l.length) (x y : La) : (putLa l k x).set k y = putLa l k y := by
  unfold putLa
  rw [List.set_append_right _ _ (by simp; omega)]
  have : k - (l.take k).length = 0 := by simp; omega
  rw [this, List.set_cons_zero]
theorem ordS_eq {b : Bk} {o : Or} (hb : bkOk b.1 b.2 = true) (ho : orderOk o = true) : ordS b o = ordI b o := by
  simp only [bkOk, lasOk, Bool.and_eq_true] at hb
  have hr := hb.2.2
  have hsq : 1 ≤ o.seq := by
    simp only [orderOk, Bool.and_eq_true, inI] at ho
    simp at ho
    omega
  unfold ordI
  rw [if_pos ho]
  unfold ordS
  rw [does_kept hb.1]
  rcases ha : laAt b.2 o.client with _ | _
  · rw [find_none hr ha, List.getElem?_eq_none (Nat.le_refl _)]
    have hf : laFor b.2 o.client = putLa b.2 (laPlace b.2 o.client) ⟨o.client, 0, 0, nilB⟩ := by unfold laFor; rw [ha]; rfl
    rw [hf]
    obtain ⟨h1, h2⟩ := putLa_at (laPlace_le b.2 o.client) ⟨o.client, 0, 0, nilB⟩
    rw [ordT_new (b := (b.1, putLa b.2 (laPlace b.2 o.client) ⟨o.client, 0, 0, nilB⟩)) h1 (by simp only [h2]; omega)]
    simp only [h2]
    rw [putLa_set (laPlace_le _ _)]
    rfl
  · have hf : laFor b.2 o.client = b.2 := by unfold laFor; rw [ha]; rfl
    obtain ⟨hk, hc⟩ := laAt_lt ha
    have hc' : b.2[laPlace b.2 o.client].client = o.client := by simpa using hc
    rw [hf, find_at_place ha, List.getElem?_eq_getElem hk]
    rcases Int.lt_trichotomy o.seq b.2[laPlace b.2 o.client].seq with h | h | h
    · rw [ordT_old (b := (b.1, b.2)) hk h]
      simp only
      rw [if_neg (by omega), if_pos h]
    · rw [ordT_same (b := (b.1, b.2)) hk h]
      simp only
      rw [if_pos h]
    · rw [ordT_new (b := (b.1, b.2)) hk h]
      simp only
      rw [if_neg (by omega), if_neg (by omega)]
      simp only [laSet, hc']
end M
end Go.Proofs.YtblcgbgcccjpcaaGreat
namespace Go.Proofs.YtblcgbgcccjpcaaGreat
open Go.RowKit
set_option maxRecDepth 20000
namespace M
theorem rises_of {l : List La} (h : ∀ (i : Nat) (hi : i + 1 < l.length), l[i].client < l[i + 1].client) : grises laLt l = true :=
  (grises_iff laLt l).2 fun i hi => by simpa [laLt] using h i hi
theorem lasOk_mk {l : List La} (h1 : ∀ x ∈ l, laOk x = true) (h2 : ∀ (i : Nat) (hi : i + 1 < l.length), l[i].client < l[i + 1].client) : lasOk l = true := by
  simp only [lasOk, Bool.and_eq_true]
  exact ⟨List.all_eq_true.2 h1, rises_of h2⟩
theorem lasOk_step {l : List La} (h : lasOk l = true) {i : Nat} (hi : i + 1 < l.length) : l[i].client < l[i + 1].client := by
  simp only [lasOk, Bool.and_eq_true] at h
  exact rises_la h.2 (i + 1) i (by omega) hi
theorem lasOk_all {l : List La} (h : lasOk l = true) : ∀ x ∈ l, laOk x = true := by
  simp only [lasOk, Bool.and_eq_true] at h
  exact List.all_eq_true.1 h.1
theorem lasOk_set {l : List La} (h : lasOk l = true) {k : Nat} (hk : k < l.length) {x : La} (hx : laOk x = true) (hc : x.client = l[k].client) : lasOk (l.set k x) = true := by
  refine lasOk_mk (fun y hy => ?_) (fun i hi => ?_)
  · rcases List.mem_or_eq_of_mem_set hy with hy | rfl
    · exact lasOk_all h y hy
    · exact hx
  · rw [List.length_set] at hi
    have hs := lasOk_step h hi
    rw [List.getElem_set, List.getElem_set]
    by_cases e1 : k = i
    · subst e1
      rw [if_pos rfl, if_neg (by omega), hc]
      exact hs
    · rw [if_neg e1]
      by_cases e2 : k = i + 1
      · subst e2
        rw [if_pos rfl, hc]
        exact hs
      · rw [if_neg e2]
        exact hs
theorem lasOk_put {l : List La} (h : lasOk l = true) {x : La} (hx : laOk x = true) (hn : laAt l x.client = false) : lasOk (putLa l (laPlace l x.client) x) = true := by
  have hle := laPlace_le l x.client
  have hlo : ∀ (i : Nat) (hi : i < laPlace l x.client), (l[i]'(by omega)).client < x.client := fun i hi => by
    have := List.not_of_lt_findIdx (xs := l) (p := isGe x.client) hi
    simp only [isGe, decide_eq_false_iff_not] at this
    omega
  have hhi : ∀ (hk : laPlace l x.client < l.length), x.client < l[laPlace l x.client].client := fun hk => by
    have h1 : isGe x.client l[laPlace l x.client] = true := List.findIdx_getElem (w := hk)
    have h2 := laAt_not hn hk
    simp only [isGe, decide_eq_true_eq] at h1
    have h2' : l[laPlace l x.client].client ≠ x.client := by simpa using h2
    omega
  obtain ⟨k, hk⟩ : ∃ k, laPlace l x.client = k := ⟨_, rfl⟩
  simp only [hk] at hle hlo hhi ⊢
  have hlen : (putLa l k x).length = l.length + 1 := putLa_len l k x hle
  have g1 : ∀ (i : Nat) (hi : i < k) (h' : i < (putLa l k x).length), (putLa l k x)[i] = l[i]'(by omega) := fun i hi h' => by
    have : (putLa l k x)[i]? = some (l[i]'(by omega)) := by
      unfold putLa
      rw [List.getElem?_append_left (by simp; omega), List.getElem?_take, if_pos hi, List.getElem?_eq_getElem]
    exact (List.getElem?_eq_some_iff.1 this).2
  have g2 : ∀ (h' : k < (putLa l k x).length), (putLa l k x)[k] = x := fun h' => (putLa_at hle x).2
  have g3 : ∀ (i : Nat) (hi : k < i) (h' : i < (putLa l k x).length), (putLa l k x)[i] = l[i - 1]'(by omega) := fun i hi h' => by
    have : (putLa l k x)[i]? = some (l[i - 1]'(by omega)) := by
      unfold putLa
      rw [List.getElem?_append_right (by simp; omega)]
      have e : i - (l.take k).length = (i - k - 1) + 1 := by rw [List.length_take, Nat.min_eq_left hle]; omega
      rw [e, List.getElem?_cons_succ, List.getElem?_drop, show k + (i - k - 1) = i - 1 by omega, List.getElem?_eq_getElem]
    exact (List.getElem?_eq_some_iff.1 this).2
  refine lasOk_mk (fun y hy => ?_) (fun i hi => ?_)
  · unfold putLa at hy
    rcases List.mem_append.1 hy with hy | hy
    · exact lasOk_all h y (List.mem_of_mem_take hy)
    · rcases List.mem_cons.1 hy with rfl | hy
      · exact hx
      · exact lasOk_all h y (List.mem_of_mem_drop hy)
  · rw [hlen] at hi
    rcases Nat.lt_trichotomy (i + 1) k with h1 | h1 | h1
    · rw [g1 i (by omega) (by omega), g1 (i + 1) h1 (by omega)]
      exact lasOk_step h (by omega)
    · rw [g1 i (by omega) (by omega)]
      simp only [h1]
      rw [g2 (by omega)]
      exact hlo i (by omega)
    · rcases Nat.lt_or_ge k i with h2 | h2
      · rw [g3 i h2 (by omega), g3 (i + 1) (by omega) (by omega)]
        have := lasOk_step h (i := i - 1) (by omega)
        simp only [show i - 1 + 1 = i by omega] at this
        exact this
      · have e : i = k := by omega
        subst e
        rw [g2 (by omega), g3 (i + 1) (by omega) (by omega)]
        exact hhi (by omega)
theorem ordS_ok {b : Bk} {o : Or} (hb : bkOk b.1 b.2 = true) (ho : orderOk o = true) : bkOk (ordS b o).1.1 (ordS b o).1.2 = true := by
  have hb' := hb
  simp only [bkOk, Bool.and_eq_true] at hb'
  have hx : laOk ⟨o.client, o.seq, (does b.1 o.deed).2.1, (does b.1 o.deed).2.2⟩ = true := by
    simp only [orderOk, Bool.and_eq_true] at ho
    simp only [laOk, Bool.and_eq_true]
    exact ho.1
  have hd : sfOk (does b.1 o.deed).1 = true := by rw [does_kept hb'.1]; exact keptD_ok hb'.1
  have hr : grises laLt b.2 = true := by
    have h := hb'.2
    simp only [lasOk, Bool.and_eq_true] at h
    exact h.2
  unfold ordS
  split
  · rename_i x hxk
    split
    · exact hb
    · split
      · exact hb
      · obtain ⟨hk, hxe⟩ := List.getElem?_eq_some_iff.1 hxk
        simp only [bkOk, Bool.and_eq_true]
        refine ⟨hd, lasOk_set hb'.2 hk hx ?_⟩
        have : isCl o.client b.2[laFind b.2 o.client] = true := List.findIdx_getElem (w := hk)
        simp only [isCl, beq_iff_eq] at this
        exact this.symm
  · rename_i hxk
    simp only [bkOk, Bool.and_eq_true]
    refine ⟨hd, lasOk_put hb'.2 hx ?_⟩
    rcases ha : laAt b.2 o.client with _ | _
    · rfl
    · obtain ⟨hk, -⟩ := laAt_lt ha
      rw [find_at_place ha, List.getElem?_eq_getElem hk] at hxk
      cases hxk
theorem ordI_ok {b : Bk} {o : Or} (hb : bkOk b.1 b.2 = true) : bkOk (ordI b o).1.1 (ordI b o).1.2 = true := by
  rcases ho : orderOk o with _ | _
  · unfold ordI
    rw [if_neg (by simp [ho])]
    exact hb
  · rw [← ordS_eq hb ho]
    exact ordS_ok hb ho
/-- Many orders, one after the other. -/
def ordTo (b : Bk) (l : List Or) : Bk × List Rp := l.foldl (fun p o => ((ordI p.1 o).1, p.2 ++ [(ordI p.1 o).2])) (b, [])
end M
end Go.Proofs.YtblcgbgcccjpcaaGreat
namespace Go.Proofs.YtblcgbgcccjpcaaGreat
open Go.RowKit
set_option maxRecDepth 20000
namespace M
theorem getIdx_find {α : Type} (p : α → Bool) : ∀ l : List α, l[l.findIdx p]? = l.find? p
  | [] => rfl
  | a :: l => by
    rw [List.findIdx_cons, List.find?_cons]
    cases h : p a with
    | true => simp
    | false => simp [getIdx_find p l]
/-- The last of a client. -/
def laGet (l : List La) (c : Int) : Option La := l.find? (isCl c)
/-- Was this order, or a later one of its client, given, or is it none? -/
def given (b : Bk) (o : Or) : Prop := orderOk o = true → ∃ x, laGet b.2 o.client = some x ∧ o.seq ≤ x.seq
end M
end Go.Proofs.YtblcgbgcccjpcaaGreat
namespace Go.Proofs.YtblcgbgcccjpcaaGreat
open Go.RowKit
set_option maxRecDepth 20000
namespace M
def isName (n : ByteArray) (w : Wk) : Bool := w.name.toList == n.toList
def sfFind (l : List Wk) (n : ByteArray) : Nat := l.findIdx (isName n)
def sfFindInt (l : List Wk) (n : ByteArray) : Int := if sfFind l n < l.length then (sfFind l n : Int) else -1
theorem sfFindInt_pos {l : List Wk} {n : ByteArray} (h : sfFind l n < l.length) : sfFindInt l n = sfFind l n := if_pos h
theorem sfFindInt_neg {l : List Wk} {n : ByteArray} (h : sfFind l n = l.length) : sfFindInt l n = -1 := if_neg (by omega)
end M

set_option maxHeartbeats 1000000 in
theorem l5Find_any (A : Option Addr) (l : List Wr) (cap : Nat) (name : ByteArray) (w : World) (hl : Wks w A l) (hlen : l.length ≤ 1048576) :
    Calls Tryz.prog 65 #[.slice A l.length cap, .string name] w fun r w' => r = .returned (.int .i64 (M.sfFindInt (l.map Wr.wk) name)) ∧ w = w' := by
  have HL := Lib.hid hl
  clear hl
  go_enter Tryz.func65, Tryz.ntmps65
  go_wp2
  go_loop [5] (fun i => ∃ j : Nat, i = .int .i64 j ∧ j ≤ l.length ∧ WNoneTo (fun r => M.isName name r.wk) l j) (fun i => l.length - (intOf i).toNat)
  case atStart => exact ⟨0, rfl, Nat.zero_le _, WNoneTo.zero _ l⟩
  case round =>
    obtain ⟨j, rfl, hj, hnone⟩ := hrel
    have HN := Lib.hid hnone
    clear hnone
    by_cases hlt : j < l.length
    · obtain ⟨b, o, hA, lb, c0, c1, c2, -⟩ := Wks_at HL.out hlt
      subst hA
      rcases hq : (l[j].name.toList == name.toList) with _ | _
      · have HQ : Hid ((fun r : Wr => M.isName name r.wk) l[j] = false) := Lib.hid hq
        go_wp2
        go_round
        case rel => exact ⟨j + 1, by go_num, by omega, HN.out.next hlt HQ.out⟩
        case measure => simp [intOf]; omega
      · have HE : Hid (M.sfFindInt (l.map Wr.wk) name = j) := Lib.hid (by
          have h1 : l.findIdx (fun r => M.isName name r.wk) = j := HN.out.hit hlt hq
          have h2 : M.sfFind (l.map Wr.wk) name = j := by unfold M.sfFind; rw [List.findIdx_map]; exact h1
          rw [M.sfFindInt_pos (by rw [h2]; simpa using hlt), h2])
        go_wp2
        go_ret
        exact ⟨ret_int HE.out.symm, rfl⟩
    · have hj' : j = l.length := by omega
      have HE : Hid (M.sfFindInt (l.map Wr.wk) name = -1) := Lib.hid (by
        have h1 : l.findIdx (fun r => M.isName name r.wk) = l.length := by
          have := HN.out
          rw [hj'] at this
          exact this.all
        have h2 : M.sfFind (l.map Wr.wk) name = (l.map Wr.wk).length := by unfold M.sfFind; rw [List.findIdx_map, List.length_map]; exact h1
        exact M.sfFindInt_neg h2)
      go_wp2
      go_ret
      exact ⟨ret_int HE.out.symm, rfl⟩
end Go.Proofs.YtblcgbgcccjpcaaGreat
namespace Go.Proofs.YtblcgbgcccjpcaaGreat
open Go.RowKit
namespace M
abbrev nmB (w : Wk) : List UInt8 := w.name.data.toList
def RiseN (l : List Wk) : Prop := l.Pairwise fun a b => bytesBefore (nmB a) (nmB b) = true
theorem riseN_of : ∀ {l : List Wk}, risesN l = true → RiseN l
  | [], _ => List.Pairwise.nil
  | [a], _ => List.pairwise_singleton _ _
  | a :: b :: l, h => by
    have h1 : nameLt a.name b.name = true ∧ risesN (b :: l) = true := by
      have h' : (nameLt a.name b.name && risesN (b :: l)) = true := h
      simpa using h'
    have ih := riseN_of (l := b :: l) h1.2
    have hab : bytesBefore (nmB a) (nmB b) = true := (before_name a.name b.name).trans h1.1
    refine List.pairwise_cons.2 ⟨fun x hx => ?_, ih⟩
    rcases List.mem_cons.1 hx with e | hx
    · rw [e]; exact hab
    · exact before_trans hab ((List.pairwise_cons.1 ih).1 x hx)
theorem sfOk_riseN {l : List Wk} (h : sfOk l = true) : RiseN l := by
  unfold sfOk at h
  simp only [Bool.and_eq_true] at h
  exact riseN_of h.2.2
/-- The first name that is behind. -/
def placeN (l : List Wk) (w : Wk) : Nat := l.findIdx fun x => bytesBefore (nmB w) (nmB x)
theorem insN_at (w : Wk) : ∀ l : List Wk, insN w l = l.take (placeN l w) ++ w :: l.drop (placeN l w)
  | [] => rfl
  | x :: l => by
    have ih := insN_at w l
    unfold insN placeN
    rw [List.findIdx_cons]
    by_cases h : bytesBefore (nmB w) (nmB x) = true
    · rw [if_pos h, h]; rfl
    · have h' : bytesBefore (nmB w) (nmB x) = false := by simpa using h
      rw [if_neg h, h', ih]
      rfl
theorem filter_new {l : List Wk} {w : Wk} (h : ∀ x ∈ l, nmB x ≠ nmB w) : (l.filter fun x => !(x.name.data.toList == w.name.data.toList)) = l :=
  List.filter_eq_self.2 fun x hx => by
    have := h x hx
    simpa using this
theorem putN_new {l : List Wk} {w : Wk} (h : ∀ x ∈ l, nmB x ≠ nmB w) : putN l w = l.take (placeN l w) ++ w :: l.drop (placeN l w) := by
  unfold putN
  rw [filter_new h, insN_at]
theorem putN_set : ∀ {l : List Wk} {w : Wk} (_ : RiseN l) {k : Nat} (hk : k < l.length) (_ : nmB l[k] = nmB w), putN l w = l.set k w
  | [], _, _, _, hk, _ => absurd hk (by simp)
  | x :: l, w, hr, 0, _, he => by
    have he' : nmB x = nmB w := he
    obtain ⟨h1, h2⟩ := List.pairwise_cons.1 hr
    have hf : (l.filter fun x => !(x.name.data.toList == w.name.data.toList)) = l := filter_new fun y hy e => by
      have := h1 y hy
      rw [e, ← he'] at this
      exact absurd (before_asymm this).2 (by simp)
    unfold putN
    rw [List.filter_cons, if_neg (by simpa using he'), hf, List.set_cons_zero]
    rcases l with _ | ⟨y, l⟩
    · rfl
    · unfold insN
      have := h1 y (by simp)
      rw [he'] at this
      rw [if_pos this]
  | x :: l, w, hr, k + 1, hk, he => by
    obtain ⟨h1, h2⟩ := List.pairwise_cons.1 hr
    have hk' : k < l.length := by simpa using hk
    have he' : nmB l[k] = nmB w := he
    have hxw : bytesBefore (nmB x) (nmB w) = true := by
      have := h1 l[k] (List.getElem_mem hk')
      rw [he'] at this
      exact this
    have ih := putN_set h2 hk' he'
    have hne : ¬ (nmB x = nmB w) := by
      have := (before_asymm hxw).2
      simpa using this
    unfold putN at ih ⊢
    rw [List.filter_cons, if_pos (by simpa using hne)]
    unfold insN
    rw [if_neg (by rw [(before_asymm hxw).1]; simp), ih, List.set_cons_succ]
theorem getN_find : ∀ (l : List Wk) (n : ByteArray), getN l n = l[l.findIdx fun x => x.name.data.toList == n.data.toList]?
  | [], _ => rfl
  | x :: l, n => by
    have ih := getN_find l n
    unfold getN at ih ⊢
    rw [List.find?_cons, List.findIdx_cons]
    rcases h : (x.name.data.toList == n.data.toList) with _ | _
    · simpa using ih
    · rfl
/-- Where all names are others', the names ahead are those that are not behind. -/
theorem place_count : ∀ {l : List Wk} {w : Wk} (_ : RiseN l) (_ : ∀ x ∈ l, nmB x ≠ nmB w) {k : Nat} (hk : k ≤ l.length) (_ : ∀ i (hi : i < k), bytesBefore (nmB (l[i]'(by omega))) (nmB w) = true) (_ : ∀ h : k < l.length, bytesBefore (nmB l[k]) (nmB w) = false), placeN l w = k
  | [], _, _, _, k, hk, _, _ => by
    have : k = 0 := by simpa using hk
    subst this
    rfl
  | x :: l, w, hr, hne, 0, _, _, h0 => by
    have h := h0 (by simp)
    have hx : bytesBefore (nmB w) (nmB x) = true := by
      rcases Go.WideAt.bytes_total _ _ (hne x (by simp)) with h' | h'
      · exact absurd h' (by rw [show bytesBefore (nmB x) (nmB w) = false from h]; simp)
      · exact h'
    unfold placeN
    rw [List.findIdx_cons, hx]
    rfl
  | x :: l, w, hr, hne, k + 1, hk, hlt, h0 => by
    obtain ⟨h1, h2⟩ := List.pairwise_cons.1 hr
    have hx := hlt 0 (by omega)
    have hx' : bytesBefore (nmB w) (nmB x) = false := (before_asymm hx).1
    have ih := place_count h2 (fun y hy => hne y (List.mem_cons_of_mem _ hy)) (k := k) (by simpa using hk) (fun i hi => by simpa using hlt (i + 1) (by omega)) (fun h => h0 (Nat.succ_lt_succ h))
    unfold placeN at ih ⊢
    rw [List.findIdx_cons, hx', ih]
    rfl
end M
end Go.Proofs.YtblcgbgcccjpcaaGreat
namespace Go.Proofs.YtblcgbgcccjpcaaGreat
open Go.RowKit
namespace M
def sClaim (l : List Wk) (d : Dd) : List Wk × Int := if sfFind l d.name < l.length then (l, 2) else if l.length = 5 then (l, 4)
  else (l.take (placeN l ⟨d.name, d.who, []⟩) ++ ⟨d.name, d.who, []⟩ :: l.drop (placeN l ⟨d.name, d.who, []⟩), 0)
/-- At the work that was found. -/
def sAt (l : List Wk) (d : Dd) (k : Nat) (w : Wk) : List Wk × Rp :=
  if d.kind = 5 then (if (copyIn w d.ed).2 then (if (copyIn w d.ed).1.hidden then (l, (5, nilB)) else (l, (0, (copyIn w d.ed).1.page))) else (l, (1, nilB)))
  else if w.owner = d.who then
    (if d.kind = 2 then (if (printed w d.ed d.page).2 then (l.set k (printed w d.ed d.page).1, (0, nilB)) else if findEd w.copies d.ed < w.copies.length then (l, (2, nilB)) else (l, (4, nilB)))
     else if d.kind = 6 then (l.set k { w with owner := d.ed.ma }, (0, nilB))
     else if (veiled w d.ed (d.kind == 3)).2 then (l.set k (veiled w d.ed (d.kind == 3)).1, (0, nilB)) else (l, (1, nilB)))
  else (l, (3, nilB))
def sDo (l : List Wk) (d : Dd) : List Wk × Rp := if d.kind = 1 then ((sClaim l d).1, ((sClaim l d).2, nilB)) else match l[sfFind l d.name]? with
  | some w => sAt l d (sfFind l d.name) w
  | none => (l, (1, nilB))
theorem find_same (l : List Wk) (n : ByteArray) : (l.findIdx fun x => x.name.data.toList == n.data.toList) = sfFind l n := by
  unfold sfFind isName
  congr 1
  funext x
  rw [ByteArray.toList_eq, ByteArray.toList_eq]
theorem getN_sf (l : List Wk) (n : ByteArray) : getN l n = l[sfFind l n]? := by rw [getN_find, find_same]
theorem getN_name {l : List Wk} {n : ByteArray} {w : Wk} (h : getN l n = some w) : nmB w = n.data.toList := by
  have := List.find?_some h
  simpa using this
theorem getN_none_ne {l : List Wk} {n : ByteArray} (h : getN l n = none) : ∀ x ∈ l, nmB x ≠ n.data.toList := fun x hx => by
  have := List.find?_eq_none.1 h x hx
  simpa using this
/-- What is left where a deed is refused is what was there. -/
def kept (l : List Wk) (p : List Wk × Rp) : List Wk × Rp := (if p.2.1 = 0 then p.1 else l, p.2)
theorem copyIn_there {w : Wk} {e : Ed} (hk : wkOk w = true) : (copyIn w e).2 = decide (findEd w.copies e < w.copies.length) := by
  unfold copyIn
  rw [if_pos hk]
  by_cases h : findEd w.copies e < w.copies.length
  · rw [List.getElem?_eq_getElem h]; simp [h]
  · rw [List.getElem?_eq_none (by omega)]; simp [h]
theorem sDo_eq {l : List Wk} {d : Dd} (hl : sfOk l = true) (hd : deedOk d = true) (hg : d.kind = 6 → inI d.ed.ma 0 3 = true) : sDo l d = kept l (doAll l d) := by
  have hr := sfOk_riseN hl
  have hl5 : l.length ≤ 5 := by
    unfold sfOk at hl
    simp only [Bool.and_eq_true, decide_eq_true_eq] at hl
    exact hl.1
  have hall : ∀ w ∈ l, wkOk w = true := by
    unfold sfOk at hl
    simp only [Bool.and_eq_true, List.all_eq_true] at hl
    exact hl.2.1
  have hkind := deedOk_kind hd
  unfold doAll
  rw [if_pos hd]
  by_cases h1 : d.kind = 1
  · rw [if_pos h1]
    unfold sDo doClaim sClaim kept
    rw [if_pos h1]
    rcases hf : getN l d.name with _ | w
    · have hn : ¬ sfFind l d.name < l.length := by
        rw [getN_sf] at hf
        have := List.getElem?_eq_none_iff.1 hf
        omega
      rw [if_neg hn]
      by_cases h5 : l.length = 5
      · simp [h5]
      · have h5' : ¬ 5 < l.length + 1 := by omega
        simp only [if_neg h5, if_neg h5', if_true]
        rw [putN_new (w := ⟨d.name, d.who, []⟩) (getN_none_ne hf)]
    · have hn : sfFind l d.name < l.length := by
        rw [getN_sf] at hf
        exact (List.getElem?_eq_some_iff.1 hf).1
      simp [hn]
  · rw [if_neg h1]
    unfold sDo
    rw [if_neg h1, ← getN_sf]
    rcases hf : getN l d.name with _ | w
    · rcases hkind with h | h | h | h | h | h
      · exact absurd h h1
      · simp [h, doPut, hf, kept]
      · simp [h, doVeil, hf, kept]
      · simp [h, doVeil, hf, kept]
      · simp [h, doFetch, hf, kept]
      · simp [h, doGive, hf, kept, hg h]
    · have hw := hall w (getN_mem hf)
      have hnm := getN_name hf
      obtain ⟨hk, hkw⟩ : ∃ hk : sfFind l d.name < l.length, l[sfFind l d.name] = w := by
        have h := hf
        rw [getN_sf] at h
        exact List.getElem?_eq_some_iff.1 h
      have hset : ∀ v : Wk, v.name = w.name → putN l v = l.set (sfFind l d.name) v := fun v hv => putN_set hr hk (by rw [hkw]; unfold nmB; rw [hv])
      show sAt l d (sfFind l d.name) w = _
      unfold sAt
      rcases hkind with h | h | h | h | h | h
      · exact absurd h h1
      · have n3 : ¬ d.kind = 3 := by omega
        have n4 : ¬ d.kind = 4 := by omega
        have n5 : ¬ d.kind = 5 := by omega
        have n6 : ¬ d.kind = 6 := by omega
        simp only [if_neg n3, if_neg n4, if_neg n5, if_neg n6, if_pos h]
        by_cases ho : w.owner = d.who
        · rw [if_pos ho]
          unfold doPut kept
          rw [hf]
          simp only [if_pos ho, copyIn_there hw]
          rcases hp : (printed w d.ed d.page).2 with _ | _
          · by_cases he : findEd w.copies d.ed < w.copies.length
            · simp [he]
            · simp [he]
          · have he : ¬ findEd w.copies d.ed < w.copies.length := fun he => by
              rw [printed_there d.page hw he] at hp; cases hp
            simp only [he, decide_false, if_true, Bool.false_eq_true, if_false]
            rw [hset _ (printed_name hp)]
        · rw [if_neg ho]
          simp [doPut, hf, ho, kept]
      · have n2 : ¬ d.kind = 2 := by omega
        have n4 : ¬ d.kind = 4 := by omega
        have n5 : ¬ d.kind = 5 := by omega
        have n6 : ¬ d.kind = 6 := by omega
        simp only [if_neg n2, if_neg n4, if_neg n5, if_neg n6, if_pos h]
        by_cases ho : w.owner = d.who
        · rw [if_pos ho, show (d.kind == 3) = true by simp [h]]
          unfold doVeil kept
          rw [hf]
          simp only [if_pos ho]
          rcases hp : (veiled w d.ed true).2 with _ | _
          · simp
          · simp only [if_true]
            rw [hset _ (veiled_name hp)]
        · rw [if_neg ho]
          simp [doVeil, hf, ho, kept]
      · have n2 : ¬ d.kind = 2 := by omega
        have n3 : ¬ d.kind = 3 := by omega
        have n5 : ¬ d.kind = 5 := by omega
        have n6 : ¬ d.kind = 6 := by omega
        simp only [if_neg n2, if_neg n3, if_neg n5, if_neg n6, if_pos h]
        by_cases ho : w.owner = d.who
        · rw [if_pos ho, show (d.kind == 3) = false by simp [h]]
          unfold doVeil kept
          rw [hf]
          simp only [if_pos ho]
          rcases hp : (veiled w d.ed false).2 with _ | _
          · simp
          · simp only [if_true]
            rw [hset _ (veiled_name hp)]
        · rw [if_neg ho]
          simp [doVeil, hf, ho, kept]
      · have n2 : ¬ d.kind = 2 := by omega
        have n3 : ¬ d.kind = 3 := by omega
        have n4 : ¬ d.kind = 4 := by omega
        have n6 : ¬ d.kind = 6 := by omega
        simp only [if_neg n2, if_neg n3, if_neg n4, if_neg n6, if_pos h]
        unfold doFetch kept
        rw [hf]
        rcases hc : (copyIn w d.ed).2 with _ | _
        · simp [hc]
        · rcases hh : (copyIn w d.ed).1.hidden with _ | _ <;> simp [hc, hh]
      · have n2 : ¬ d.kind = 2 := by omega
        have n3 : ¬ d.kind = 3 := by omega
        have n4 : ¬ d.kind = 4 := by omega
        have n5 : ¬ d.kind = 5 := by omega
        simp only [if_neg n2, if_neg n3, if_neg n4, if_neg n5, if_pos h]
        unfold doGive kept
        rw [if_pos (hg h), hf]
        by_cases ho : w.owner = d.who
        · rw [if_pos ho]
          simp only [if_pos ho, if_true]
          rw [hset { w with owner := d.ed.ma } rfl]
        · rw [if_neg ho]
          simp [ho]
end M
end Go.Proofs.YtblcgbgcccjpcaaGreat
