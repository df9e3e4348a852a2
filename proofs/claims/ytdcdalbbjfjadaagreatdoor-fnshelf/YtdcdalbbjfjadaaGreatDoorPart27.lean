/- Proved, in parts: Proved: where a name stands in a list whose names rise; what a put leaves of it, told by places. Condition: none. Proved: the model's deeds on a list, told by places, answer what the program's answer, where the shelf and the deed are right. Condition: those two. Proved: the model's l5Copy answers the same works in new memory, each list in a block of its own; it writes nothing that was there. Condition: lists of at most a million. -/
import Derived.Test.YtdcdalbbjfjadaaGreatDoorPart25
import Derived.Test.YtdcdalbbjfjadaaGreatDoorPart26
import Derived.Test.YtdcdalbbjfjadaaGreatDoorPart16
import Derived.Test.YtdcdalbbjfjadaaGreatDoorPart18
namespace Go.Proofs.YtdcdalbbjfjadaaGreatDoor
open Go.RowKit
namespace M
abbrev nmB (w : Wk) : List UInt8 := w.name.data.toList
def RiseN (l : List Wk) : Prop := l.Pairwise fun a b => bytesBefore (nmB a) (nmB b) = true
theorem riseN_of : ∀ {l : List Wk}, risesN l = true → RiseN l
  | [], _ => List.Pairwise.nil
  | [a], _ => List.pairwise_singleton _ _
  | a :: b :: l, h => by
    have h1 : nameLt a.name b.name = true ∧ risesN (b :: l) = true := by
      have h' : (nameLt a.name b.name && risesN (b :: l)) = true := h
      simpa using h'
    have ih := riseN_of (l := b :: l) h1.2
    have hab : bytesBefore (nmB a) (nmB b) = true := (before_name a.name b.name).trans h1.1
    refine List.pairwise_cons.2 ⟨fun x hx => ?_, ih⟩
    rcases List.mem_cons.1 hx with e | hx
    · rw [e]; exact hab
    · exact before_trans hab ((List.pairwise_cons.1 ih).1 x hx)
theorem sfOk_riseN {l : List Wk} (h : sfOk l = true) : RiseN l := by
  unfold sfOk at h
  simp only [Bool.and_eq_true] at h
  exact riseN_of h.2.2
/-- The first name that is behind. -/
def placeN (l : List Wk) (w : Wk) : Nat := l.findIdx fun x => bytesBefore (nmB w) (nmB x)
theorem insN_at (w : Wk) : ∀ l : List Wk, insN w l = l.take (placeN l w) ++ w :: l.drop (placeN l w)
  | [] => rfl
  | x :: l => by
    have ih := insN_at w l
    unfold insN placeN
    rw [List.findIdx_cons]
    by_cases h : bytesBefore (nmB w) (nmB x) = true
    · rw [if_pos h, h]; rfl
    · have h' : bytesBefore (nmB w) (nmB x) = false := by simpa using h
      rw [if_neg h, h', ih]
      rfl
theorem filter_new {l : List Wk} {w : Wk} (h : ∀ x ∈ l, nmB x ≠ nmB w) : (l.filter fun x => !(x.name.data.toList == w.name.data.toList)) = l :=
  List.filter_eq_self.2 fun x hx => by
    have := h x hx
    simpa using this
theorem putN_new {l : List Wk} {w : Wk} (h : ∀ x ∈ l, nmB x ≠ nmB w) : putN l w = l.take (placeN l w) ++ w :: l.drop (placeN l w) := by
  unfold putN
  rw [filter_new h, insN_at]
theorem putN_set : ∀ {l : List Wk} {w : Wk} (_ : RiseN l) {k : Nat} (hk : k < l.length) (_ : nmB l[k] = nmB w), putN l w = l.set k w
  | [], _, _, _, hk, _ => absurd hk (by simp)
  | x :: l, w, hr, 0, _, he => by
    have he' : nmB x = nmB w := he
    obtain ⟨h1, h2⟩ := List.pairwise_cons.1 hr
    have hf : (l.filter fun x => !(x.name.data.toList == w.name.data.toList)) = l := filter_new fun y hy e => by
      have := h1 y hy
      rw [e, ← he'] at this
      exact absurd (before_asymm this).2 (by simp)
    unfold putN
    rw [List.filter_cons, if_neg (by simpa using he'), hf, List.set_cons_zero]
    rcases l with _ | ⟨y, l⟩
    · rfl
    · unfold insN
      have := h1 y (by simp)
      rw [he'] at this
      rw [if_pos this]
  | x :: l, w, hr, k + 1, hk, he => by
    obtain ⟨h1, h2⟩ := List.pairwise_cons.1 hr
    have hk' : k < l.length := by simpa using hk
    have he' : nmB l[k] = nmB w := he
    have hxw : bytesBefore (nmB x) (nmB w) = true := by
      have := h1 l[k] (List.getElem_mem hk')
      rw [he'] at this
      exact this
    have ih := putN_set h2 hk' he'
    have hne : ¬ (nmB x = nmB w) := by
      have := (before_asymm hxw).2
      simpa using this
    unfold putN at ih ⊢
    rw [List.filter_cons, if_pos (by simpa using hne)]
    unfold insN
    rw [if_neg (by rw [(before_asymm hxw).1]; simp), ih, List.set_cons_succ]
theorem getN_find : ∀ (l : List Wk) (n : ByteArray), getN l n = l[l.findIdx fun x => x.name.data.toList == n.data.toList]?
  | [], _ => rfl
  | x :: l, n => by
    have ih := getN_find l n
    unfold getN at ih ⊢
    rw [List.find?_cons, List.findIdx_cons]
    rcases h : (x.name.data.toList == n.data.toList) with _ | _
    · simpa using ih
    · rfl
/-- Where all names are others', the names ahead are those that are not behind. -/
theorem place_count : ∀ {l : List Wk} {w : Wk} (_ : RiseN l) (_ : ∀ x ∈ l, nmB x ≠ nmB w) {k : Nat} (hk : k ≤ l.length) (_ : ∀ i (hi : i < k), bytesBefore (nmB (l[i]'(by omega))) (nmB w) = true) (_ : ∀ h : k < l.length, bytesBefore (nmB l[k]) (nmB w) = false), placeN l w = k
  | [], _, _, _, k, hk, _, _ => by
    have : k = 0 := by simpa using hk
    subst this
    rfl
  | x :: l, w, hr, hne, 0, _, _, h0 => by
    have h := h0 (by simp)
    have hx : bytesBefore (nmB w) (nmB x) = true := by
      rcases Go.WideAt.bytes_total _ _ (hne x (by simp)) with h' | h'
      · exact absurd h' (by rw [show bytesBefore (nmB x) (nmB w) = false from h]; simp)
      · exact h'
    unfold placeN
    rw [List.findIdx_cons, hx]
    rfl
  | x :: l, w, hr, hne, k + 1, hk, hlt, h0 => by
    obtain ⟨h1, h2⟩ := List.pairwise_cons.1 hr
    have hx := hlt 0 (by omega)
    have hx' : bytesBefore (nmB w) (nmB x) = false := (before_asymm hx).1
    have ih := place_count h2 (fun y hy => hne y (List.mem_cons_of_mem _ hy)) (k := k) (by simpa using hk) (fun i hi => by simpa using hlt (i + 1) (by omega)) (fun h => h0 (Nat.succ_lt_succ h))
    unfold placeN at ih ⊢
    rw [List.findIdx_cons, hx', ih]
    rfl
end M
end Go.Proofs.YtdcdalbbjfjadaaGreatDoor
namespace Go.Proofs.YtdcdalbbjfjadaaGreatDoor
open Go.RowKit
namespace M
def sClaim (l : List Wk) (d : Dd) : List Wk × Int := if sfFind l d.name < l.length then (l, 2) else if l.length = 5 then (l, 4)
  else (l.take (placeN l ⟨d.name, d.who, []⟩) ++ ⟨d.name, d.who, []⟩ :: l.drop (placeN l ⟨d.name, d.who, []⟩), 0)
/-- At the work that was found. -/
def sAt (l : List Wk) (d : Dd) (k : Nat) (w : Wk) : List Wk × Rp :=
  if d.kind = 5 then (if (copyIn w d.ed).2 then (if (copyIn w d.ed).1.hidden then (l, (5, nilB)) else (l, (0, (copyIn w d.ed).1.page))) else (l, (1, nilB)))
  else if w.owner = d.who then
    (if d.kind = 2 then (if (printed w d.ed d.page).2 then (l.set k (printed w d.ed d.page).1, (0, nilB)) else if findEd w.copies d.ed < w.copies.length then (l, (2, nilB)) else (l, (4, nilB)))
     else if d.kind = 6 then (l.set k { w with owner := d.ed.ma }, (0, nilB))
     else if (veiled w d.ed (d.kind == 3)).2 then (l.set k (veiled w d.ed (d.kind == 3)).1, (0, nilB)) else (l, (1, nilB)))
  else (l, (3, nilB))
def sDo (l : List Wk) (d : Dd) : List Wk × Rp := if d.kind = 1 then ((sClaim l d).1, ((sClaim l d).2, nilB)) else match l[sfFind l d.name]? with
  | some w => sAt l d (sfFind l d.name) w
  | none => (l, (1, nilB))
theorem find_same (l : List Wk) (n : ByteArray) : (l.findIdx fun x => x.name.data.toList == n.data.toList) = sfFind l n := by
  unfold sfFind isName
  congr 1
  funext x
  rw [ByteArray.toList_eq, ByteArray.toList_eq]
theorem getN_sf (l : List Wk) (n : ByteArray) : getN l n = l[sfFind l n]? := by rw [getN_find, find_same]
theorem getN_name {l : List Wk} {n : ByteArray} {w : Wk} (h : getN l n = some w) : nmB w = n.data.toList := by
  have := List.find?_some h
  simpa using this
theorem getN_none_ne {l : List Wk} {n : ByteArray} (h : getN l n = none) : ∀ x ∈ l, nmB x ≠ n.data.toList := fun x hx => by
  have := List.find?_eq_none.1 h x hx
  simpa using this
/-- What is left where a deed is refused is what was there. -/
def kept (l : List Wk) (p : List Wk × Rp) : List Wk × Rp := (if p.2.1 = 0 then p.1 else l, p.2)
theorem copyIn_there {w : Wk} {e : Ed} (hk : wkOk w = true) : (copyIn w e).2 = decide (findEd w.copies e < w.copies.length) := by
  unfold copyIn
  rw [if_pos hk]
  by_cases h : findEd w.copies e < w.copies.length
  · rw [List.getElem?_eq_getElem h]; simp [h]
  · rw [List.getElem?_eq_none (by omega)]; simp [h]
theorem sDo_eq {l : List Wk} {d : Dd} (hl : sfOk l = true) (hd : deedOk d = true) (hg : d.kind = 6 → inI d.ed.ma 0 3 = true) : sDo l d = kept l (doAll l d) := by
  have hr := sfOk_riseN hl
  have hl5 : l.length ≤ 5 := by
    unfold sfOk at hl
    simp only [Bool.and_eq_true, decide_eq_true_eq] at hl
    exact hl.1
  have hall : ∀ w ∈ l, wkOk w = true := by
    unfold sfOk at hl
    simp only [Bool.and_eq_true, List.all_eq_true] at hl
    exact hl.2.1
  have hkind := deedOk_kind hd
  unfold doAll
  rw [if_pos hd]
  by_cases h1 : d.kind = 1
  · rw [if_pos h1]
    unfold sDo doClaim sClaim kept
    rw [if_pos h1]
    rcases hf : getN l d.name with _ | w
    · have hn : ¬ sfFind l d.name < l.length := by
        rw [getN_sf] at hf
        have := List.getElem?_eq_none_iff.1 hf
        omega
      rw [if_neg hn]
      by_cases h5 : l.length = 5
      · simp [h5]
      · have h5' : ¬ 5 < l.length + 1 := by omega
        simp only [if_neg h5, if_neg h5', if_true]
        rw [putN_new (w := ⟨d.name, d.who, []⟩) (getN_none_ne hf)]
    · have hn : sfFind l d.name < l.length := by
        rw [getN_sf] at hf
        exact (List.getElem?_eq_some_iff.1 hf).1
      simp [hn]
  · rw [if_neg h1]
    unfold sDo
    rw [if_neg h1, ← getN_sf]
    rcases hf : getN l d.name with _ | w
    · rcases hkind with h | h | h | h | h | h
      · exact absurd h h1
      · simp [h, doPut, hf, kept]
      · simp [h, doVeil, hf, kept]
      · simp [h, doVeil, hf, kept]
      · simp [h, doFetch, hf, kept]
      · simp [h, doGive, hf, kept, hg h]
    · have hw := hall w (getN_mem hf)
      have hnm := getN_name hf
      obtain ⟨hk, hkw⟩ : ∃ hk : sfFind l d.name < l.length, l[sfFind l d.name] = w := by
        have h := hf
        rw [getN_sf] at h
        exact List.getElem?_eq_some_iff.1 h
      have hset : ∀ v : Wk, v.name = w.name → putN l v = l.set (sfFind l d.name) v := fun v hv => putN_set hr hk (by rw [hkw]; unfold nmB; rw [hv])
      show sAt l d (sfFind l d.name) w = _
      unfold sAt
      rcases hkind with h | h | h | h | h | h
      · exact absurd h h1
      · have n3 : ¬ d.kind = 3 := by omega
        have n4 : ¬ d.kind = 4 := by omega
        have n5 : ¬ d.kind = 5 := by omega
        have n6 : ¬ d.kind = 6 := by omega
        simp only [if_neg n3, if_neg n4, if_neg n5, if_neg n6, if_pos h]
        by_cases ho : w.owner = d.who
        · rw [if_pos ho]
          unfold doPut kept
          rw [hf]
          simp only [if_pos ho, copyIn_there hw]
          rcases hp : (printed w d.ed d.page).2 with _ | _
          · by_cases he : findEd w.copies d.ed < w.copies.length
            · simp [he]
            · simp [he]
          · have he : ¬ findEd w.copies d.ed < w.copies.length := fun he => by
              rw [printed_there d.page hw he] at hp; cases hp
            simp only [he, decide_false, if_true, Bool.false_eq_true, if_false]
            rw [hset _ (printed_name hp)]
        · rw [if_neg ho]
          simp [doPut, hf, ho, kept]
      · have n2 : ¬ d.kind = 2 := by omega
        have n4 : ¬ d.kind = 4 := by omega
        have n5 : ¬ d.kind = 5 := by omega
        have n6 : ¬ d.kind = 6 := by omega
        simp only [if_neg n2, if_neg n4, if_neg n5, if_neg n6, if_pos h]
        by_cases ho : w.owner = d.who
        · rw [if_pos ho, show (d.kind == 3) = true by simp [h]]
          unfold doVeil kept
          rw [hf]
          simp only [if_pos ho]
          rcases hp : (veiled w d.ed true).2 with _ | _
          · simp
          · simp only [if_true]
            rw [hset _ (veiled_name hp)]
        · rw [if_neg ho]
          simp [doVeil, hf, ho, kept]
      · have n2 : ¬ d.kind = 2 := by omega
        have n3 : ¬ d.kind = 3 := by omega
        have n5 : ¬ d.kind = 5 := by omega
        have n6 : ¬ d.kind = 6 := by omega
        simp only [if_neg n2, if_neg n3, if_neg n5, if_neg n6, if_pos h]
        by_cases ho : w.owner = d.who
        · rw [if_pos ho, show (d.kind == 3) = false by simp [h]]
          unfold doVeil kept
          rw [hf]
          simp only [if_pos ho]
          rcases hp : (veiled w d.ed false).2 with _ | _
          · simp
          · simp only [if_true]
            rw [hset _ (veiled_name hp)]
        · rw [if_neg ho]
          simp [doVeil, hf, ho, kept]
      · have n2 : ¬ d.kind = 2 := by omega
        have n3 : ¬ d.kind = 3 := by omega
        have n4 : ¬ d.kind = 4 := by omega
        have n6 : ¬ d.kind = 6 := by omega
        simp only [if_neg n2, if_neg n3, if_neg n4, if_neg n6, if_pos h]
        unfold doFetch kept
        rw [hf]
        rcases hc : (copyIn w d.ed).2 with _ | _
        · simp [hc]
        · rcases hh : (copyIn w d.ed).1.hidden with _ | _ <;> simp [hc, hh]
      · have n2 : ¬ d.kind = 2 := by omega
        have n3 : ¬ d.kind = 3 := by omega
        have n4 : ¬ d.kind = 4 := by omega
        have n5 : ¬ d.kind = 5 := by omega
        simp only [if_neg n2, if_neg n3, if_neg n4, if_neg n5, if_pos h]
        unfold doGive kept
        rw [if_pos (hg h), hf]
        by_cases ho : w.owner = d.who
        · rw [if_pos ho]
          simp only [if_pos ho, if_true]
          rw [hset { w with owner := d.ed.ma } rfl]
        · rw [if_neg ho]
          simp [ho]
end M
end Go.Proofs.YtdcdalbbjfjadaaGreatDoor
namespace Go.Proofs.YtdcdalbbjfjadaaGreatDoor
open Go.RowKit
set_option maxRecDepth 20000

theorem wpList_append_flat_at {α : Type} {enc : α → List Value} {k : Nat} {w : World} {l : List α} {P : Program} {ops : Array Oper} {rest : List Oper} {o : Oper} {a : Act} {Q : Exit → Act → World → Prop} (hgd : o.guard = none) (s x : Operand) (t : TypeId)
    (ho : o.op = .call { callee := .builtin .append, args := #[s, x], argTypes := #[t, t] })
    (base : Nat) (e : TypeId) (i : TypeInfo) (z : Value) (bytes : Nat) (ht : P.underlying t = some (.slice e)) (hi : P.info? e = some i) (hz : i.zero = some z)
    (hsize : i.size = k) (hby : i.bytes = bytes) (hzs : z.cells.size = k) (hsz : 0 < k)
    (v : Value) (n : Nat) (xs : List Value) (hs : a.eval s = v) (hown : w.ownsRow base e k v n xs)
    (A : Option Addr) (c : Nat) (hx : a.eval x = .slice A l.length c) (hA : A = none → c = 0) (hfl : Flat enc k w A l) (hk : ∀ x, (enc x).length = k) (h1 : ∀ u ∈ cellsOf enc l, u.oneCell' = true)
    (h63 : n + l.length ≤ maxLen) (hbytes : (n + l.length) * bytes ≤ 140737488355328) (hbase : base ≤ w.heap.size)
    (h : ∀ v' w', w'.ownsRow base e k v' (n + l.length) (xs ++ cellsOf enc l) → w.grownBy w' v.ownBlock → (v'.ownBlock = v.ownBlock ∨ v'.ownBlock = some w.heap.size) → wpList P ops Q rest (a.put o.dst v') w') : wpList P ops Q (o :: rest) a w :=
  wpList_plain hgd fun _ hK => wp_append_flat_at s x t ho base e i z bytes ht hi hz hsize hby hzs hsz v n xs hs hown A c hx hA hfl hk h1 h63 hbytes hbase fun v' w' h2 h3 h4 => hK _ _ (h v' w' h2 h3 h4)

/-- One work more, its list made in a world of its own. -/
theorem SfOwn.push {B : Nat} {x x2 w4 : World} {v v' : Value} {rs : List Wr} {r : Wr} (h : SfOwn B x v rs) (hB : B ≤ x.heap.size) (b2 : Below x.heap.size x x2) (ho : CpOwn x.heap.size x2 r.sl r.cps) (o : Obj) (hown : w4.ownsRow B 39 3 v' (rs.length + 1) (cellsOf wrL rs ++ cellsOf wrL [r])) (hg : (x2.alloc o).grownBy w4 v.ownBlock) (hat : v'.ownBlock = v.ownBlock ∨ v'.ownBlock = some (x2.alloc o).heap.size) : SfOwn B w4 v' (rs ++ [r]) := by
  have ba : Below x2.heap.size x2 (x2.alloc o) := (Below.refl _ _).alloc (Nat.le_refl _) o
  have hnew : Apart r.sl v := by
    unfold Apart
    rcases hr : r.sl.ownBlock with _ | k
    · exact .inl rfl
    · refine .inr fun e => ?_
      have h1 := (ho.lt k hr).1
      have h2 := (World.ownsRow.lt h.1 k e.symm).2
      omega
  have hfar : ∀ y : Wr, CpOwn B (x2.alloc o) y.sl y.cps → Apart y.sl v → Apart y.sl v' := fun y hy ha => by
    rcases hat with e | e
    · unfold Apart at ha ⊢; rw [e]; exact ha
    · unfold Apart
      rcases hk : y.sl.ownBlock with _ | k
      · exact .inl rfl
      · refine .inr fun e' => ?_
        have h1 := (hy.lt k hk).2
        rw [e] at e'
        have := Option.some.inj e'
        omega
  have hold : ∀ y ∈ rs, CpOwn B (x2.alloc o) y.sl y.cps := fun y hy => ((h.2.1 y hy).below b2).below ba
  have hnw : CpOwn B (x2.alloc o) r.sl r.cps := (ho.mono hB).below ba
  refine ⟨?_, fun y hy => ?_, fun y hy => ?_, ?_⟩
  · rw [cellsOf_append, List.length_append]
    exact hown
  · rcases List.mem_append.1 hy with hy | hy
    · exact World.ownsRow.kept (hold y hy) hg (h.2.2.1 y hy)
    · obtain rfl : y = r := by simpa using hy
      exact World.ownsRow.kept hnw hg hnew
  · rcases List.mem_append.1 hy with hy | hy
    · exact hfar y (hold y hy) (h.2.2.1 y hy)
    · obtain rfl : y = r := by simpa using hy
      exact hfar y hnw hnew
  · rw [List.pairwise_append]
    refine ⟨h.2.2.2, List.pairwise_singleton _ _, fun a ha b hb' => ?_⟩
    obtain rfl : b = r := by simpa using hb'
    exact own_differ (fun k hk => ((h.2.1 a ha).lt k hk).2) (fun k hk => (ho.lt k hk).1)

set_option maxHeartbeats 2000000 in
theorem l5Copy_any (A : Option Addr) (l : List Wr) (cap : Nat) (w : World) (hl : Wks w A l) (hA : ∀ r ∈ l, r.ad = none → r.cap = 0) (hlen : l.length ≤ 1048576) (hp : ∀ r ∈ l, r.cps.length ≤ 1048576) :
    Calls Tryz.prog 31 #[.slice A l.length cap] w fun e w' => ∃ v rs, e = .returned v ∧ rs.map Wr.wk = l.map Wr.wk ∧ SfOwn w.heap.size w' v rs ∧ Below w.heap.size w w' := by
  obtain ⟨i0, hi, hz0, hz1, hz2⟩ := info_parts infoWk
  have HP := Lib.hid hp
  have HA := Lib.hid hA
  have HL := Lib.hid hl
  clear hp hA hl
  have ho0 := World.ownsRow_made (size := 3) (e := 39) w #[] 0 (base := w.heap.size) (Nat.le_refl _) (Nat.zero_le _) rfl
  have HO0 := Lib.hid ho0
  clear ho0
  go_enter Tryz.func31, Tryz.ntmps31
  go_wp2
  go_loopw [3, 4] (fun out i wr => ∃ (j : Nat) (rs : List Wr), i = .int .i64 j ∧ j ≤ l.length ∧ rs.length = j ∧ rs.map Wr.wk = (l.take j).map Wr.wk ∧ SfOwn w.heap.size wr out rs ∧ Below w.heap.size w wr) (fun _ i _ => l.length - (intOf i).toNat)
  case atStart => exact ⟨0, [], rfl, Nat.zero_le _, rfl, rfl, ⟨HO0.out, by simp, by simp, List.Pairwise.nil⟩, (Below.refl _ _).alloc (Nat.le_refl _) _⟩
  case round =>
    obtain ⟨j, rs, rfl, hj, hrl, hrm, hown, hb⟩ := hrel
    have HOW := Lib.hid hown
    have HRM := Lib.hid hrm
    have HRL := Lib.hid hrl
    clear hown hrm hrl
    by_cases hlt : j < l.length
    · obtain ⟨b, o, rfl, hbl, c0, c1, c2, hc⟩ := Wks_at (HL.out.below hb) hlt
      have HC := Lib.hid hc
      have hcl := HP.out l[j] (List.getElem_mem hlt)
      have HCA := Lib.hid (HA.out l[j] (List.getElem_mem hlt))
      have hsz := hb.size
      clear hc
      go_wp2_with fail
      refine (l4Own_any l[j].name l[j].owner l[j].ad l[j].cps l[j].cap _ HC.out HCA.out hcl).mono ?_
      rintro r w2 ⟨A', c', rfl, ho, b2⟩
      have HN := Lib.hid ho
      have HB2 := Lib.hid b2
      have hs2 := b2.size
      clear ho b2
      go_wp2_with (at_builtin; refine wpList_append_flat_at (k := 3) (enc := wrL) (l := [(⟨l[j].name, l[j].owner, A', c', l[j].cps⟩ : Wr)]) rfl _ _ 24 rfl w.heap.size 39 i0 _ 48 Tryz.underlying24 hi hz0 hz1 hz2 rfl (by decide) _ rs.length (cellsOf wrL rs) rfl ((Own.below HOW.out.1 HB2.out).alloc _) (some ⟨w2.heap.size, 0, none⟩) 1 rfl (fun h => by cases h) (one_flatW w2 ⟨l[j].name, l[j].owner, A', c', l[j].cps⟩ _) wrL_len (wr_one _) (by have := HRL.out; simp only [List.length_singleton]; unfold maxLen; omega) (by have := HRL.out; simp only [List.length_singleton]; omega) (by simp; omega) ?_; intro v' w4 hown4 hgrow4 hat4)
      have HOW4 := Lib.hid hown4
      have HGR4 := Lib.hid hgrow4
      have HAT4 := Lib.hid hat4
      clear hown4 hgrow4 hat4
      go_roundw
      case rel =>
        refine ⟨j + 1, rs ++ [⟨l[j].name, l[j].owner, A', c', l[j].cps⟩], by go_num, by omega, by simp [HRL.out], ?_, ?_, ?_⟩
        · rw [List.map_append, HRM.out, List.take_succ_eq_append_getElem hlt, List.map_append]; rfl
        · exact HOW.out.push hb.size HB2.out HN.out _ HOW4.out HGR4.out HAT4.out
        · exact below_grow (next hb HB2.out) (Own.below HOW.out.1 HB2.out) HGR4.out
      case measure => simp [intOf]; omega
    · have hj' : j = l.length := by omega
      have hrm := HRM.out
      rw [hj', List.take_length] at hrm
      have HRM2 := Lib.hid hrm
      clear hrm
      go_wp2
      go_ret
      exact ⟨_, rs, rfl, HRM2.out, HOW.out, hb⟩
end Go.Proofs.YtdcdalbbjfjadaaGreatDoor
