/- Proved, in parts: Proved: what the plain Lean functions of the deeds leave is near what was there; names that rise; what a block's write leaves of rows that lie elsewhere. Condition: none. Proved: the model's l5Find tells where a name stands in a list of works, and its l5Copy answers the same works in new memory; they write nothing that was there. Condition: texts and lists of at most a million. Proved: where a name stands in a list whose names rise; what a put leaves of it, told by places. Condition: none. Proved: the model's deeds on a list, told by places, answer what the program's answer, where the shelf and the deed are right. Condition: those two. -/
import Derived.Test.YteomdakohlikeaaGreatPart30
import Derived.Test.YteomdakohlikeaaGreatPart11
import Derived.Test.YteomdakohlikeaaGreatPart09
import Derived.Test.YteomdakohlikeaaGreatPart18
namespace Go.Proofs.YteomdakohlikeaaGreat
open Go.RowKit
set_option maxRecDepth 20000
namespace M
/-- What a deed leaves, all as it was where it is refused. -/
def keptD (l : List Wk) (d : Dd) : List Wk × Rp := (if (doAll l d).2.1 = 0 then (doAll l d).1 else l, (doAll l d).2)
def does (s : List Wk) (d : Dd) : List Wk × Rp := if sfOk s then (if (doAll s d).2.1 = 0 then (doAll s d).1 else s, (doAll s d).2) else ([], (7, nilB))
def Near (l : List Wk) (d : Dd) (m : List Wk) : Prop := m.length ≤ l.length + 1 ∧ ∀ x ∈ m, x.name = d.name ∨ ∃ y ∈ l, x.name = y.name
theorem near_self (l : List Wk) (d : Dd) : Near l d l := ⟨Nat.le_succ _, fun x hx => .inr ⟨x, hx, rfl⟩⟩
theorem insN_mem {w x : Wk} : ∀ {l : List Wk}, x ∈ insN w l → x = w ∨ x ∈ l
  | [], h => .inl (by simpa [insN] using h)
  | y :: l, h => by
    unfold insN at h
    split at h
    · rcases List.mem_cons.1 h with h | h
      · exact .inl h
      · exact .inr h
    · rcases List.mem_cons.1 h with h | h
      · exact .inr (by rw [h]; simp)
      · rcases insN_mem h with h | h
        · exact .inl h
        · exact .inr (List.mem_cons_of_mem _ h)
theorem insN_length (w : Wk) : ∀ l : List Wk, (insN w l).length = l.length + 1
  | [] => rfl
  | y :: l => by
    unfold insN
    split
    · rfl
    · simp [insN_length w l]
theorem near_put {l : List Wk} {d : Dd} {w : Wk} (h : w.name = d.name ∨ ∃ y ∈ l, w.name = y.name) : Near l d (putN l w) := by
  refine ⟨?_, fun x hx => ?_⟩
  · unfold putN
    rw [insN_length]
    have := List.length_filter_le (fun x : Wk => !(x.name.data.toList == w.name.data.toList)) l
    omega
  · rcases insN_mem hx with rfl | hx
    · exact h
    · exact .inr ⟨x, (List.mem_filter.1 hx).1, rfl⟩
theorem getN_mem {l : List Wk} {n : ByteArray} {w : Wk} (h : getN l n = some w) : w ∈ l := List.mem_of_find?_eq_some h
theorem near_doPut (l : List Wk) (d : Dd) : Near l d (doPut l d).1 := by
  unfold doPut
  split
  · exact near_self l d
  · rename_i w hw
    split
    · split
      · exact near_self l d
      · split
        · rename_i h
          exact near_put (.inr ⟨w, getN_mem hw, printed_name h⟩)
        · exact near_self l d
    · exact near_self l d
theorem near_doVeil (l : List Wk) (d : Dd) (b : Bool) : Near l d (doVeil l d b).1 := by
  unfold doVeil
  split
  · exact near_self l d
  · rename_i w hw
    split
    · split
      · rename_i h
        exact near_put (.inr ⟨w, getN_mem hw, veiled_name h⟩)
      · exact near_self l d
    · exact near_self l d
theorem near_doGive (l : List Wk) (d : Dd) : Near l d (doGive l d).1 := by
  unfold doGive
  split
  · split
    · exact near_self l d
    · rename_i w hw
      split
      · exact near_put (.inr ⟨w, getN_mem hw, rfl⟩)
      · exact near_self l d
  · exact near_self l d
theorem near_doFetch (l : List Wk) (d : Dd) : Near l d (doFetch l d).1 := by
  unfold doFetch
  split
  · exact near_self l d
  · split
    · split <;> exact near_self l d
    · exact near_self l d
theorem near_doClaim (l : List Wk) (d : Dd) : Near l d (doClaim l d).1 := by
  unfold doClaim
  split
  · exact near_self l d
  · split
    · exact near_self l d
    · exact near_put (.inl rfl)
theorem near_doAll (l : List Wk) (d : Dd) : Near l d (doAll l d).1 := by
  unfold doAll
  split
  · split
    · exact near_doClaim l d
    · split
      · exact near_doPut l d
      · split
        · exact near_doVeil l d true
        · split
          · exact near_doVeil l d false
          · split
            · exact near_doFetch l d
            · exact near_doGive l d
  · exact near_self l d
theorem near_keptD (l : List Wk) (d : Dd) : Near l d (keptD l d).1 := by
  show Near l d (if (doAll l d).2.1 = 0 then (doAll l d).1 else l)
  split
  · exact near_doAll l d
  · exact near_self l d
end M

theorem rise_of : ∀ {l : List Wr}, M.risesN (l.map Wr.wk) = true → RiseW l
  | [], _ => List.Pairwise.nil
  | [a], _ => List.pairwise_singleton _ _
  | a :: b :: l, h => by
    have h1 : M.nameLt a.name b.name = true ∧ M.risesN ((b :: l).map Wr.wk) = true := by
      have h' : (M.nameLt a.name b.name && M.risesN ((b :: l).map Wr.wk)) = true := h
      simpa using h'
    have ih := rise_of (l := b :: l) h1.2
    have hab : bytesBefore (nmL a) (nmL b) = true := (before_name a.name b.name).trans h1.1
    refine List.pairwise_cons.2 ⟨fun x hx => ?_, ih⟩
    rcases List.mem_cons.1 hx with e | hx
    · rw [e]; exact hab
    · exact before_trans hab ((List.pairwise_cons.1 ih).1 x hx)
theorem sfOk_rise {l : List Wr} (h : M.sfOk (l.map Wr.wk) = true) : RiseW l ∧ l.length ≤ 5 := by
  unfold M.sfOk at h
  simp only [Bool.and_eq_true, decide_eq_true_eq, List.length_map] at h
  exact ⟨rise_of h.2.2, h.1⟩
theorem rise_same {l rs : List Wr} (h : rs.map Wr.wk = l.map Wr.wk) (hr : RiseW l) : RiseW rs := by
  have e : rs.map nmL = l.map nmL := by
    have := congrArg (List.map fun k : M.Wk => k.name.data.toList) h
    rw [List.map_map, List.map_map] at this
    exact this
  have h1 : (l.map nmL).Pairwise fun a b => bytesBefore a b = true := List.pairwise_map.2 hr
  rw [← e] at h1
  exact List.pairwise_map.1 h1
theorem wrs_same {l rs : List Wr} {n : Nat} (h : rs.map Wr.wk = l.map Wr.wk) (hp : WrsIn n l) : WrsIn n rs := fun r hr => by
  have h1 : r.wk ∈ l.map Wr.wk := h ▸ List.mem_map_of_mem hr
  obtain ⟨x, hx, e⟩ := List.mem_map.1 h1
  have h2 := hp x hx
  have e1 : x.name = r.name := congrArg M.Wk.name e
  have e2 : x.cps = r.cps := congrArg M.Wk.copies e
  rw [e1, e2] at h2
  exact h2
theorem length_same {l rs : List Wr} (h : rs.map Wr.wk = l.map Wr.wk) : rs.length = l.length := by simpa using congrArg List.length h
theorem near_names {l rs' : List Wr} {d : M.Dd} {m : List M.Wk} (h : M.Near (l.map Wr.wk) d m) (e : rs'.map Wr.wk = m) (hl : l.length ≤ 5) (hp : WrsIn 1048576 l) (hn : d.name.size ≤ 1048576) : rs'.length ≤ 1000 ∧ ∀ r ∈ rs', r.name.size ≤ 1048576 := by
  subst e
  refine ⟨?_, fun r hr => ?_⟩
  · have := h.1
    simp only [List.length_map] at this
    omega
  · rcases h.2 r.wk (List.mem_map_of_mem hr) with e | ⟨y, hy, e⟩
    · rw [show r.name = d.name from e]; exact hn
    · obtain ⟨x, hx, rfl⟩ := List.mem_map.1 hy
      rw [show r.name = x.name from e]
      exact (hp x hx).1

theorem own_set {B g : Nat} {w : World} {t : TypeId} {kk n : Nat} {v : Value} {C : List Value} (h : w.ownsRow B t kk v n C) (hg : g < B) (i : Nat) (u : Value) : (w.setCell ⟨g, i, none⟩ u).ownsRow B t kk v n C := by
  obtain ⟨hl, h0 | ⟨k, cap, cur, rfl, hb, hh, hr⟩⟩ := h
  · exact ⟨hl, .inl h0⟩
  · exact ⟨hl, .inr ⟨k, cap, cur, rfl, hb, (Below.heap_setCell _ _ _ _ (by show k ≠ g; omega)).trans hh, hr⟩⟩
theorem SfOwn.set {B g : Nat} {w : World} {v : Value} {l : List Wr} (h : SfOwn B w v l) (hg : g < B) (i : Nat) (u : Value) : SfOwn B (w.setCell ⟨g, i, none⟩ u) v l :=
  ⟨own_set h.1 hg i u, fun r hr => own_set (h.2.1 r hr) hg i u, h.2.2⟩
theorem own_by {b g : Nat} {x y : World} {t : TypeId} {kk n : Nat} {v : Value} {C : List Value} (h : x.ownsRow b t kk v n C) (hg : x.grownBy y (some g)) (hb : g < b) : y.ownsRow b t kk v n C := by
  obtain ⟨hl, h0 | ⟨k, cap, cur, rfl, hk, hh, hr⟩⟩ := h
  · exact ⟨hl, .inl h0⟩
  · refine ⟨hl, .inr ⟨k, cap, cur, rfl, hk, (hg.block k (Array.getElem?_eq_some_iff.1 hh).1 ?_).trans hh, hr⟩⟩
    intro e
    injection e with e
    omega
theorem SfOwn.by {B g : Nat} {w w' : World} {v : Value} {l : List Wr} (h : SfOwn B w v l) (hg : w.grownBy w' (some g)) (hb : g < B) : SfOwn B w' v l :=
  ⟨own_by h.1 hg hb, fun r hr => cp_by (h.2.1 r hr) hg hb, h.2.2⟩
theorem Mem.by {w0 : World} {b : Nat} {hs : List (Nat × Array Value)} {ls : List Nat} {x y : World} (h : Mem w0 hs ls x) (hg : x.grownBy y (some b)) (hb : w0.heap.size ≤ b) (hne : ∀ p ∈ hs, p.1 ≠ b) (hnl : ∀ g ∈ ls, g ≠ b) : Mem w0 hs ls y :=
  ⟨h.1.grown hg h.1.size (fun k e => by cases e; exact hb), fun p hp => holds_by (h.2.1 p hp) hg (hne p hp), fun g hp => ⟨Nat.lt_of_lt_of_le (h.2.2 g hp).1 hg.size, loose_by (h.2.2 g hp).2 (h.2.2 g hp).1 hg (hnl g hp)⟩⟩
end Go.Proofs.YteomdakohlikeaaGreat
namespace Go.Proofs.YteomdakohlikeaaGreat
open Go.RowKit
set_option maxRecDepth 20000
namespace M
def isName (n : ByteArray) (w : Wk) : Bool := w.name.toList == n.toList
def sfFind (l : List Wk) (n : ByteArray) : Nat := l.findIdx (isName n)
def sfFindInt (l : List Wk) (n : ByteArray) : Int := if sfFind l n < l.length then (sfFind l n : Int) else -1
theorem sfFindInt_pos {l : List Wk} {n : ByteArray} (h : sfFind l n < l.length) : sfFindInt l n = sfFind l n := if_pos h
theorem sfFindInt_neg {l : List Wk} {n : ByteArray} (h : sfFind l n = l.length) : sfFindInt l n = -1 := if_neg (by omega)
end M

set_option maxHeartbeats 1000000 in
theorem l5Find_any (A : Option Addr) (l : List Wr) (cap : Nat) (name : ByteArray) (w : World) (hl : Wks w A l) (hlen : l.length ≤ 1048576) :
    Calls Tryz.prog 52 #[.slice A l.length cap, .string name] w fun r w' => r = .returned (.int .i64 (M.sfFindInt (l.map Wr.wk) name)) ∧ w = w' := by
  have HL := Lib.hid hl
  clear hl
  go_enter Tryz.func52, Tryz.ntmps52
  go_wp2
  go_loop [5] (fun i => ∃ j : Nat, i = .int .i64 j ∧ j ≤ l.length ∧ WNoneTo (fun r => M.isName name r.wk) l j) (fun i => l.length - (intOf i).toNat)
  case atStart => exact ⟨0, rfl, Nat.zero_le _, WNoneTo.zero _ l⟩
  case round =>
    obtain ⟨j, rfl, hj, hnone⟩ := hrel
    have HN := Lib.hid hnone
    clear hnone
    by_cases hlt : j < l.length
    · obtain ⟨b, o, hA, lb, c0, c1, c2, -⟩ := Wks_at HL.out hlt
      subst hA
      rcases hq : (l[j].name.toList == name.toList) with _ | _
      · have HQ : Hid ((fun r : Wr => M.isName name r.wk) l[j] = false) := Lib.hid hq
        go_wp2
        go_round
        case rel => exact ⟨j + 1, by go_num, by omega, HN.out.next hlt HQ.out⟩
        case measure => simp [intOf]; omega
      · have HE : Hid (M.sfFindInt (l.map Wr.wk) name = j) := Lib.hid (by
          have h1 : l.findIdx (fun r => M.isName name r.wk) = j := HN.out.hit hlt hq
          have h2 : M.sfFind (l.map Wr.wk) name = j := by unfold M.sfFind; rw [List.findIdx_map]; exact h1
          rw [M.sfFindInt_pos (by rw [h2]; simpa using hlt), h2])
        go_wp2
        go_ret
        exact ⟨ret_int HE.out.symm, rfl⟩
    · have hj' : j = l.length := by omega
      have HE : Hid (M.sfFindInt (l.map Wr.wk) name = -1) := Lib.hid (by
        have h1 : l.findIdx (fun r => M.isName name r.wk) = l.length := by
          have := HN.out
          rw [hj'] at this
          exact this.all
        have h2 : M.sfFind (l.map Wr.wk) name = (l.map Wr.wk).length := by unfold M.sfFind; rw [List.findIdx_map, List.length_map]; exact h1
        exact M.sfFindInt_neg h2)
      go_wp2
      go_ret
      exact ⟨ret_int HE.out.symm, rfl⟩
end Go.Proofs.YteomdakohlikeaaGreat
namespace Go.Proofs.YteomdakohlikeaaGreat
open Go.RowKit
namespace M
abbrev nmB (w : Wk) : List UInt8 := w.name.data.toList
def RiseN (l : List Wk) : Prop := l.Pairwise fun a b => bytesBefore (nmB a) (nmB b) = true
theorem riseN_of : ∀ {l : List Wk}, risesN l = true → RiseN l
  | [], _ => List.Pairwise.nil
  | [a], _ => List.pairwise_singleton _ _
  | a :: b :: l, h => by
    have h1 : nameLt a.name b.name = true ∧ risesN (b :: l) = true := by
      have h' : (nameLt a.name b.name && risesN (b :: l)) = true := h
      simpa using h'
    have ih := riseN_of (l := b :: l) h1.2
    have hab : bytesBefore (nmB a) (nmB b) = true := (before_name a.name b.name).trans h1.1
    refine List.pairwise_cons.2 ⟨fun x hx => ?_, ih⟩
    rcases List.mem_cons.1 hx with e | hx
    · rw [e]; exact hab
    · exact before_trans hab ((List.pairwise_cons.1 ih).1 x hx)
theorem sfOk_riseN {l : List Wk} (h : sfOk l = true) : RiseN l := by
  unfold sfOk at h
  simp only [Bool.and_eq_true] at h
  exact riseN_of h.2.2
/-- The first name that is behind. -/
def placeN (l : List Wk) (w : Wk) : Nat := l.findIdx fun x => bytesBefore (nmB w) (nmB x)
theorem insN_at (w : Wk) : ∀ l : List Wk, insN w l = l.take (placeN l w) ++ w :: l.drop (placeN l w)
  | [] => rfl
  | x :: l => by
    have ih := insN_at w l
    unfold insN placeN
    rw [List.findIdx_cons]
    by_cases h : bytesBefore (nmB w) (nmB x) = true
    · rw [if_pos h, h]; rfl
    · have h' : bytesBefore (nmB w) (nmB x) = false := by simpa using h
      rw [if_neg h, h', ih]
      rfl
theorem filter_new {l : List Wk} {w : Wk} (h : ∀ x ∈ l, nmB x ≠ nmB w) : (l.filter fun x => !(x.name.data.toList == w.name.data.toList)) = l :=
  List.filter_eq_self.2 fun x hx => by
    have := h x hx
    simpa using this
theorem putN_new {l : List Wk} {w : Wk} (h : ∀ x ∈ l, nmB x ≠ nmB w) : putN l w = l.take (placeN l w) ++ w :: l.drop (placeN l w) := by
  unfold putN
  rw [filter_new h, insN_at]
theorem putN_set : ∀ {l : List Wk} {w : Wk} (_ : RiseN l) {k : Nat} (hk : k < l.length) (_ : nmB l[k] = nmB w), putN l w = l.set k w
  | [], _, _, _, hk, _ => absurd hk (by simp)
  | x :: l, w, hr, 0, _, he => by
    have he' : nmB x = nmB w := he
    obtain ⟨h1, h2⟩ := List.pairwise_cons.1 hr
    have hf : (l.filter fun x => !(x.name.data.toList == w.name.data.toList)) = l := filter_new fun y hy e => by
      have := h1 y hy
      rw [e, ← he'] at this
      exact absurd (before_asymm this).2 (by simp)
    unfold putN
    rw [List.filter_cons, if_neg (by simpa using he'), hf, List.set_cons_zero]
    rcases l with _ | ⟨y, l⟩
    · rfl
    · unfold insN
      have := h1 y (by simp)
      rw [he'] at this
      rw [if_pos this]
  | x :: l, w, hr, k + 1, hk, he => by
    obtain ⟨h1, h2⟩ := List.pairwise_cons.1 hr
    have hk' : k < l.length := by simpa using hk
    have he' : nmB l[k] = nmB w := he
    have hxw : bytesBefore (nmB x) (nmB w) = true := by
      have := h1 l[k] (List.getElem_mem hk')
      rw [he'] at this
      exact this
    have ih := putN_set h2 hk' he'
    have hne : ¬ (nmB x = nmB w) := by
      have := (before_asymm hxw).2
      simpa using this
    unfold putN at ih ⊢
    rw [List.filter_cons, if_pos (by simpa using hne)]
    unfold insN
    rw [if_neg (by rw [(before_asymm hxw).1]; simp), ih, List.set_cons_succ]
theorem getN_find : ∀ (l : List Wk) (n : ByteArray), getN l n = l[l.findIdx fun x => x.name.data.toList == n.data.toList]?
  | [], _ => rfl
  | x :: l, n => by
    have ih := getN_find l n
    unfold getN at ih ⊢
    rw [List.find?_cons, List.findIdx_cons]
    rcases h : (x.name.data.toList == n.data.toList) with _ | _
    · simpa using ih
    · rfl
/-- Where all names are others', the names ahead are those that are not behind. -/
theorem place_count : ∀ {l : List Wk} {w : Wk} (_ : RiseN l) (_ : ∀ x ∈ l, nmB x ≠ nmB w) {k : Nat} (hk : k ≤ l.length) (_ : ∀ i (hi : i < k), bytesBefore (nmB (l[i]'(by omega))) (nmB w) = true) (_ : ∀ h : k < l.length, bytesBefore (nmB l[k]) (nmB w) = false), placeN l w = k
  | [], _, _, _, k, hk, _, _ => by
    have : k = 0 := by simpa using hk
    subst this
    rfl
  | x :: l, w, hr, hne, 0, _, _, h0 => by
    have h := h0 (by simp)
    have hx : bytesBefore (nmB w) (nmB x) = true := by
      rcases Go.WideAt.bytes_total _ _ (hne x (by simp)) with h' | h'
      · exact absurd h' (by rw [show bytesBefore (nmB x) (nmB w) = false from h]; simp)
      · exact h'
    unfold placeN
    rw [List.findIdx_cons, hx]
    rfl
  | x :: l, w, hr, hne, k + 1, hk, hlt, h0 => by
    obtain ⟨h1, h2⟩ := List.pairwise_cons.1 hr
    have hx := hlt 0 (by omega)
    have hx' : bytesBefore (nmB w) (nmB x) = false := (before_asymm hx).1
    have ih := place_count h2 (fun y hy => hne y (List.mem_cons_of_mem _ hy)) (k := k) (by simpa using hk) (fun i hi => by simpa using hlt (i + 1) (by omega)) (fun h => h0 (Nat.succ_lt_succ h))
    unfold placeN at ih ⊢
    rw [List.findIdx_cons, hx', ih]
    rfl
end M
end Go.Proofs.YteomdakohlikeaaGreat
namespace Go.Proofs.YteomdakohlikeaaGreat
open Go.RowKit
namespace M
def sClaim (l : List Wk) (d : Dd) : List Wk × Int := if sfFind l d.name < l.length then (l, 2) else if l.length = 5 then (l, 4)
  else (l.take (placeN l ⟨d.name, d.who, []⟩) ++ ⟨d.name, d.who, []⟩ :: l.drop (placeN l ⟨d.name, d.who, []⟩), 0)
/-- At the work that was found. -/
def sAt (l : List Wk) (d : Dd) (k : Nat) (w : Wk) : List Wk × Rp :=
  if d.kind = 5 then (if (copyIn w d.ed).2 then (if (copyIn w d.ed).1.hidden then (l, (5, nilB)) else (l, (0, (copyIn w d.ed).1.page))) else (l, (1, nilB)))
  else if w.owner = d.who then
    (if d.kind = 2 then (if (printed w d.ed d.page).2 then (l.set k (printed w d.ed d.page).1, (0, nilB)) else if findEd w.copies d.ed < w.copies.length then (l, (2, nilB)) else (l, (4, nilB)))
     else if d.kind = 6 then (l.set k { w with owner := d.ed.ma }, (0, nilB))
     else if (veiled w d.ed (d.kind == 3)).2 then (l.set k (veiled w d.ed (d.kind == 3)).1, (0, nilB)) else (l, (1, nilB)))
  else (l, (3, nilB))
def sDo (l : List Wk) (d : Dd) : List Wk × Rp := if d.kind = 1 then ((sClaim l d).1, ((sClaim l d).2, nilB)) else match l[sfFind l d.name]? with
  | some w => sAt l d (sfFind l d.name) w
  | none => (l, (1, nilB))
theorem find_same (l : List Wk) (n : ByteArray) : (l.findIdx fun x => x.name.data.toList == n.data.toList) = sfFind l n := by
  unfold sfFind isName
  congr 1
  funext x
  rw [ByteArray.toList_eq, ByteArray.toList_eq]
theorem getN_sf (l : List Wk) (n : ByteArray) : getN l n = l[sfFind l n]? := by rw [getN_find, find_same]
theorem getN_name {l : List Wk} {n : ByteArray} {w : Wk} (h : getN l n = some w) : nmB w = n.data.toList := by
  have := List.find?_some h
  simpa using this
theorem getN_none_ne {l : List Wk} {n : ByteArray} (h : getN l n = none) : ∀ x ∈ l, nmB x ≠ n.data.toList := fun x hx => by
  have := List.find?_eq_none.1 h x hx
  simpa using this
/-- What is left where a deed is refused is what was there. -/
def kept (l : List Wk) (p : List Wk × Rp) : List Wk × Rp := (if p.2.1 = 0 then p.1 else l, p.2)
theorem copyIn_there {w : Wk} {e : Ed} (hk : wkOk w = true) : (copyIn w e).2 = decide (findEd w.copies e < w.copies.length) := by
  unfold copyIn
  rw [if_pos hk]
  by_cases h : findEd w.copies e < w.copies.length
  · rw [List.getElem?_eq_getElem h]; simp [h]
  · rw [List.getElem?_eq_none (by omega)]; simp [h]
theorem sDo_eq {l : List Wk} {d : Dd} (hl : sfOk l = true) (hd : deedOk d = true) (hg : d.kind = 6 → inI d.ed.ma 0 3 = true) : sDo l d = kept l (doAll l d) := by
  have hr := sfOk_riseN hl
  have hl5 : l.length ≤ 5 := by
    unfold sfOk at hl
    simp only [Bool.and_eq_true, decide_eq_true_eq] at hl
    exact hl.1
  have hall : ∀ w ∈ l, wkOk w = true := by
    unfold sfOk at hl
    simp only [Bool.and_eq_true, List.all_eq_true] at hl
    exact hl.2.1
  have hkind := deedOk_kind hd
  unfold doAll
  rw [if_pos hd]
  by_cases h1 : d.kind = 1
  · rw [if_pos h1]
    unfold sDo doClaim sClaim kept
    rw [if_pos h1]
    rcases hf : getN l d.name with _ | w
    · have hn : ¬ sfFind l d.name < l.length := by
        rw [getN_sf] at hf
        have := List.getElem?_eq_none_iff.1 hf
        omega
      rw [if_neg hn]
      by_cases h5 : l.length = 5
      · simp [h5]
      · have h5' : ¬ 5 < l.length + 1 := by omega
        simp only [if_neg h5, if_neg h5', if_true]
        rw [putN_new (w := ⟨d.name, d.who, []⟩) (getN_none_ne hf)]
    · have hn : sfFind l d.name < l.length := by
        rw [getN_sf] at hf
        exact (List.getElem?_eq_some_iff.1 hf).1
      simp [hn]
  · rw [if_neg h1]
    unfold sDo
    rw [if_neg h1, ← getN_sf]
    rcases hf : getN l d.name with _ | w
    · rcases hkind with h | h | h | h | h | h
      · exact absurd h h1
      · simp [h, doPut, hf, kept]
      · simp [h, doVeil, hf, kept]
      · simp [h, doVeil, hf, kept]
      · simp [h, doFetch, hf, kept]
      · simp [h, doGive, hf, kept, hg h]
    · have hw := hall w (getN_mem hf)
      have hnm := getN_name hf
      obtain ⟨hk, hkw⟩ : ∃ hk : sfFind l d.name < l.length, l[sfFind l d.name] = w := by
        have h := hf
        rw [getN_sf] at h
        exact List.getElem?_eq_some_iff.1 h
      have hset : ∀ v : Wk, v.name = w.name → putN l v = l.set (sfFind l d.name) v := fun v hv => putN_set hr hk (by rw [hkw]; unfold nmB; rw [hv])
      show sAt l d (sfFind l d.name) w = _
      unfold sAt
      rcases hkind with h | h | h | h | h | h
      · exact absurd h h1
      · have n3 : ¬ d.kind = 3 := by omega
        have n4 : ¬ d.kind = 4 := by omega
        have n5 : ¬ d.kind = 5 := by omega
        have n6 : ¬ d.kind = 6 := by omega
        simp only [if_neg n3, if_neg n4, if_neg n5, if_neg n6, if_pos h]
        by_cases ho : w.owner = d.who
        · rw [if_pos ho]
          unfold doPut kept
          rw [hf]
          simp only [if_pos ho, copyIn_there hw]
          rcases hp : (printed w d.ed d.page).2 with _ | _
          · by_cases he : findEd w.copies d.ed < w.copies.length
            · simp [he]
            · simp [he]
          · have he : ¬ findEd w.copies d.ed < w.copies.length := fun he => by
              rw [printed_there d.page hw he] at hp; cases hp
            simp only [he, decide_false, if_true, Bool.false_eq_true, if_false]
            rw [hset _ (printed_name hp)]
        · rw [if_neg ho]
          simp [doPut, hf, ho, kept]
      · have n2 : ¬ d.kind = 2 := by omega
        have n4 : ¬ d.kind = 4 := by omega
        have n5 : ¬ d.kind = 5 := by omega
        have n6 : ¬ d.kind = 6 := by omega
        simp only [if_neg n2, if_neg n4, if_neg n5, if_neg n6, if_pos h]
        by_cases ho : w.owner = d.who
        · rw [if_pos ho, show (d.kind == 3) = true by simp [h]]
          unfold doVeil kept
          rw [hf]
          simp only [if_pos ho]
          rcases hp : (veiled w d.ed true).2 with _ | _
          · simp
          · simp only [if_true]
            rw [hset _ (veiled_name hp)]
        · rw [if_neg ho]
          simp [doVeil, hf, ho, kept]
      · have n2 : ¬ d.kind = 2 := by omega
        have n3 : ¬ d.kind = 3 := by omega
        have n5 : ¬ d.kind = 5 := by omega
        have n6 : ¬ d.kind = 6 := by omega
        simp only [if_neg n2, if_neg n3, if_neg n5, if_neg n6, if_pos h]
        by_cases ho : w.owner = d.who
        · rw [if_pos ho, show (d.kind == 3) = false by simp [h]]
          unfold doVeil kept
          rw [hf]
          simp only [if_pos ho]
          rcases hp : (veiled w d.ed false).2 with _ | _
          · simp
          · simp only [if_true]
            rw [hset _ (veiled_name hp)]
        · rw [if_neg ho]
          simp [doVeil, hf, ho, kept]
      · have n2 : ¬ d.kind = 2 := by omega
        have n3 : ¬ d.kind = 3 := by omega
        have n4 : ¬ d.kind = 4 := by omega
        have n6 : ¬ d.kind = 6 := by omega
        simp only [if_neg n2, if_neg n3, if_neg n4, if_neg n6, if_pos h]
        unfold doFetch kept
        rw [hf]
        rcases hc : (copyIn w d.ed).2 with _ | _
        · simp [hc]
        · rcases hh : (copyIn w d.ed).1.hidden with _ | _ <;> simp [hc, hh]
      · have n2 : ¬ d.kind = 2 := by omega
        have n3 : ¬ d.kind = 3 := by omega
        have n4 : ¬ d.kind = 4 := by omega
        have n5 : ¬ d.kind = 5 := by omega
        simp only [if_neg n2, if_neg n3, if_neg n4, if_neg n5, if_pos h]
        unfold doGive kept
        rw [if_pos (hg h), hf]
        by_cases ho : w.owner = d.who
        · rw [if_pos ho]
          simp only [if_pos ho, if_true]
          rw [hset { w with owner := d.ed.ma } rfl]
        · rw [if_neg ho]
          simp [ho]
end M
end Go.Proofs.YteomdakohlikeaaGreat
