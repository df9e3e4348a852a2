/- Proved, in parts: Proved: the program's ShelfOk answers as the plain Lean function does; it writes nothing that was there. Condition: texts and lists of at most a million. Proved: facts on a map of works by their names: what it holds behind a store, which names it has; no program's function is named here; no condition. -/
import Derived.Test.YtdcdalbbjfjadaaGreatDoorPart05
import Derived.Test.YtdcdalbbjfjadaaGreatDoorPart07
import Derived.Maps.OwnSet
import Derived.Sort.KeysCollected
namespace Go.Proofs.YtdcdalbbjfjadaaGreatDoor
open Go.RowKit
set_option maxRecDepth 20000

abbrev wrV (r : Wr) : Value := wkV r.name r.owner r.ad r.cps.length r.cap
def WNoneTo (p : Wr → Bool) (l : List Wr) (j : Nat) : Prop := ∀ (i : Nat) (h : i < l.length), i < j → p l[i] = false
theorem WNoneTo.zero (p : Wr → Bool) (l : List Wr) : WNoneTo p l 0 := fun _ _ h => absurd h (by omega)
theorem WNoneTo.next {p : Wr → Bool} {l : List Wr} {j : Nat} (h : WNoneTo p l j) (hj : j < l.length) (hp : p l[j] = false) : WNoneTo p l (j + 1) := fun i hi hij => by
  by_cases e : i = j
  · subst e; exact hp
  · exact h i hi (by omega)
theorem WNoneTo.hit {p : Wr → Bool} {l : List Wr} {j : Nat} (h : WNoneTo p l j) (hj : j < l.length) (hp : p l[j] = true) : l.findIdx p = j :=
  (List.findIdx_eq hj).2 ⟨hp, fun i hi => h i (by omega) hi⟩
theorem WNoneTo.all {p : Wr → Bool} {l : List Wr} (h : WNoneTo p l l.length) : l.findIdx p = l.length :=
  List.findIdx_eq_length.2 fun x hx => by
    obtain ⟨i, hi, rfl⟩ := List.mem_iff_getElem.1 hx
    simp [h i hi hi]

set_option maxHeartbeats 1000000 in
theorem wfirst_all (p : Wr → Bool) (A : Option Addr) (l : List Wr) (cap : Nat) (g : Value) (w : World) (hl : Wks w A l) (hlen : l.length ≤ 1048576)
    (hcall : ∀ (c : Wr) (w' : World), c ∈ l → Cps w' c.ad c.cps → Below w.heap.size w w' → Calls Tryz.prog 69 #[wrV c, g] w' fun r w'' => r = .returned (.bool (p c)) ∧ Below w'.heap.size w' w'') :
    Calls Tryz.prog 25 #[.slice A l.length cap, .func (.func 69) #[] #[g]] w fun r w' => r = .returned (.int .i64 (l.findIdx p : Nat)) ∧ Below w.heap.size w w' := by
  have HC := Lib.hid hcall
  clear hcall
  go_enter Tryz.func25, Tryz.ntmps25
  go_wp2
  go_loopw [9] (fun i wr => ∃ j : Nat, i = .int .i64 j ∧ j ≤ l.length ∧ WNoneTo p l j ∧ Below w.heap.size w wr) (fun i _ => l.length - (intOf i).toNat)
  case atStart => exact ⟨0, rfl, Nat.zero_le _, WNoneTo.zero p l, Below.refl _ _⟩
  case round =>
    obtain ⟨j, rfl, hj, hnone, hbl⟩ := hrel
    by_cases hlt : j < l.length
    · obtain ⟨b, o, rfl, -, c0, c1, c2, hc⟩ := Wks_at (hl.below hbl) hlt
      have HA := Lib.hid hl
      have HN := Lib.hid hnone
      have HCC := Lib.hid hc
      have ba := hbl.alloc hbl.size (.cells (wkL l[j].name l[j].owner l[j].ad l[j].cps.length l[j].cap) 39)
      clear hl hnone hc
      rcases hp : p l[j] with _ | _
      · have HP := Lib.hid hp
        go_wp2_with fail
        refine (HC.out l[j] _ (List.getElem_mem hlt) (HCC.out.alloc _) ba).mono ?_
        rintro r w1 ⟨rfl, b1⟩
        clear hp
        have hp := HP.out
        rw [hp]
        clear hp
        go_wp2
        go_roundw
        case rel => exact ⟨j + 1, by go_num, by omega, HN.out.next hlt HP.out, next ba b1⟩
        case measure => simp [intOf]; omega
      · have HP := Lib.hid hp
        go_wp2_with fail
        refine (HC.out l[j] _ (List.getElem_mem hlt) (HCC.out.alloc _) ba).mono ?_
        rintro r w1 ⟨rfl, b1⟩
        clear hp
        have hp := HP.out
        rw [hp]
        clear hp
        go_wp2
        go_ret
        exact ⟨ret_int (by rw [HN.out.hit hlt HP.out]), next ba b1⟩
    · have hj' : j = l.length := by omega
      subst hj'
      have HN := Lib.hid hnone
      clear hnone
      go_wp2
      go_ret
      exact ⟨ret_int (by rw [HN.out.all]), hbl⟩

set_option maxHeartbeats 1000000 in
theorem all1_workOk (c : Wr) (g : Nat) (w : World) (hl : Cps w c.ad c.cps) (hn : c.name.size ≤ 1048576) (hlen : c.cps.length ≤ 1048576) (hp : ∀ x ∈ c.cps, x.page.size ≤ 1048576) (hg : w.cell? ⟨g, 0, none⟩ = some (.func (.func 34) #[] #[])) :
    Calls Tryz.prog 69 #[wrV c, .pointer (some ⟨g, 0, none⟩)] w fun r w' => r = .returned (.bool (!M.wkOk c.wk)) ∧ Below w.heap.size w w' := by
  have b0 := (Below.refl w.heap.size w).alloc (Nat.le_refl _) (.cells (wkL c.name c.owner c.ad c.cps.length c.cap) 39)
  have hgl : g < w.heap.size := World.block_lt_of_cell? w _ hg
  have HP := Lib.hid hp
  have HL := Lib.hid hl
  clear hp hl
  go_enter Tryz.func69, Tryz.ntmps69
  go_wp2_with fail
  refine (implWorkOk c.name c.owner c.ad c.cps c.cap _ (HL.out.alloc _) (by unfold maxLen; omega) hlen (fun x hx => Nat.le_trans (HP.out x hx) (by unfold maxLen; omega))).mono ?_
  rintro r w1 ⟨rfl, b1⟩
  go_wp2
  go_ret
  exact ⟨rfl, next b0 b1⟩

theorem all_findIdxW (l : List Wr) : ((l.findIdx (fun c => !M.wkOk c.wk) : Int) == (l.length : Int)) = (l.map Wr.wk).all M.wkOk := by
  rw [Bool.eq_iff_iff, beq_iff_eq, List.all_eq_true]
  constructor
  · intro h x hx
    obtain ⟨y, hy, rfl⟩ := List.mem_map.1 hx
    have := List.findIdx_eq_length.1 (show l.findIdx (fun c => !M.wkOk c.wk) = l.length by omega) y hy
    simpa using this
  · intro h
    have : l.findIdx (fun c => !M.wkOk c.wk) = l.length := List.findIdx_eq_length.2 fun x hx => by simp [h x.wk (List.mem_map_of_mem hx)]
    omega

set_option maxHeartbeats 1000000 in
theorem all_workOk (A : Option Addr) (l : List Wr) (cap : Nat) (w : World) (hl : Wks w A l) (hlen : l.length ≤ 1048576) (hp : WrsIn 1048576 l) :
    Calls Tryz.prog 33 #[.slice A l.length cap, .func (.func 34) #[] #[]] w fun r w' => r = .returned (.bool ((l.map Wr.wk).all M.wkOk)) ∧ Below w.heap.size w w' := by
  have b0 := (Below.refl w.heap.size w).alloc (Nat.le_refl _) (.cells #[.func (.func 34) #[] #[]] 59)
  have HB : Hid (((l.findIdx (fun c => !M.wkOk c.wk) : Int) == (l.length : Int)) = (l.map Wr.wk).all M.wkOk) := Lib.hid (all_findIdxW l)
  have HP := Lib.hid hp
  have HL := Lib.hid hl
  clear hp hl
  go_enter Tryz.func33, Tryz.ntmps33
  go_wp2_with fail
  refine (wfirst_all (fun c => !M.wkOk c.wk) A l cap _ _ (HL.out.alloc _) hlen (fun c w' hc hw hb => all1_workOk c _ w' hw (HP.out c hc).1 (HP.out c hc).2.1 (HP.out c hc).2.2 (box_cells hb 0))).mono ?_
  rintro r w1 ⟨rfl, b1⟩
  go_wp2
  go_ret
  exact ⟨ret_bool HB.out, next b0 b1⟩

set_option maxHeartbeats 1000000 in
theorem nameAhead_any (c d : Wr) (w : World) :
    Calls Tryz.prog 36 #[wrV c, wrV d] w fun r w' => r = .returned (.bool (M.nameLt c.name d.name)) ∧ Below w.heap.size w w' := by
  have b0 := ((Below.refl w.heap.size w).alloc (Nat.le_refl _) (.cells (wkL c.name c.owner c.ad c.cps.length c.cap) 39)).alloc (by simp) (.cells (wkL d.name d.owner d.ad d.cps.length d.cap) 39)
  go_enter Tryz.func36, Tryz.ntmps36
  go_wp2
  go_ret
  exact ⟨rfl, b0⟩

/-- Each of the first j is ahead of the next. -/
def WRisesTo (l : List Wr) (j : Nat) : Prop := ∀ (i : Nat) (h : i + 1 < l.length), i + 1 < j → M.nameLt l[i].name l[i + 1].name = true
theorem WRisesTo.one (l : List Wr) : WRisesTo l 1 := fun _ _ h => absurd h (by omega)
theorem WRisesTo.next {l : List Wr} {k : Nat} (h : WRisesTo l (k + 1)) (hk : k + 1 < l.length) (ho : M.nameLt l[k].name l[k + 1].name = true) : WRisesTo l (k + 2) := fun i hi hij => by
  by_cases e : i = k
  · subst e; exact ho
  · exact h i hi (by omega)
theorem WRisesTo.all {l : List Wr} {j : Nat} (h : WRisesTo l j) (hj : l.length ≤ j) : M.risesN (l.map Wr.wk) = true := (M.risesN_iff _).2 fun i hi => by
  have hi' : i + 1 < l.length := by simpa using hi
  simpa [Wr.wk] using h i hi' (by omega)
theorem wrises_not {l : List Wr} {k : Nat} (hk : k + 1 < l.length) (ho : M.nameLt l[k].name l[k + 1].name = false) : M.risesN (l.map Wr.wk) = false := by
  rcases hc : M.risesN (l.map Wr.wk) with _ | _
  · rfl
  · have := (M.risesN_iff _).1 hc k (by simpa using hk)
    simp [Wr.wk] at this
    rw [ho] at this; cases this

set_option maxHeartbeats 1000000 in
theorem rises_name (A : Option Addr) (l : List Wr) (cap : Nat) (w : World) (hl : Wks w A l) (hlen : l.length ≤ 1048576) :
    Calls Tryz.prog 35 #[.slice A l.length cap, .func (.func 36) #[] #[]] w fun r w' => r = .returned (.bool (M.risesN (l.map Wr.wk))) ∧ Below w.heap.size w w' := by
  go_enter Tryz.func35, Tryz.ntmps35
  go_wp2
  go_loopw [5] (fun i wr => ∃ j : Nat, i = .int .i64 j ∧ 1 ≤ j ∧ j ≤ l.length + 1 ∧ WRisesTo l j ∧ Below w.heap.size w wr) (fun i _ => l.length + 1 - (intOf i).toNat)
  case atStart => exact ⟨1, rfl, by omega, by omega, WRisesTo.one l, Below.refl _ _⟩
  case round =>
    obtain ⟨j, rfl, hj1, hj, hr, hbl⟩ := hrel
    by_cases hlt : j < l.length
    · obtain ⟨k, hk⟩ : ∃ k, j = k + 1 := ⟨j - 1, by omega⟩
      have hkl : k < l.length := by omega
      obtain ⟨b, o, rfl, -, c0, c1, c2, -⟩ := Wks_at (hl.below hbl) hlt
      obtain ⟨b', o', hbo, -, d0, d1, d2, -⟩ := Wks_at (hl.below hbl) hkl
      obtain ⟨rfl, rfl⟩ : b = b' ∧ o = o' := by simpa using hbo
      have e1 : IntKind.i64.wrap ((j : Int) - 1) = (j : Int) - 1 := IntWalk.i64_in _ (by omega)
      have e2 : ((j : Int) - 1).toNat = k := by omega
      have e3 : (1 : Int) ≤ (j : Int) := by omega
      have e5 : ¬ ((l.length : Int) ≤ (j : Int) - 1) := by omega
      rcases ho : M.nameLt l[k].name l[j].name with _ | _
      · have HE : Hid (M.risesN (l.map Wr.wk) = false) := Lib.hid (by subst hk; exact wrises_not hlt ho)
        have HA := Lib.hid hl
        have HK := Lib.hid hk
        have HO := Lib.hid ho
        clear hl hbo hk hr ho
        go_wp2_with fail
        go_still_tail 10, (by kernel_rfl)
        change wpList _ _ _ _ _ wr.drew
        go_wp2_with fail
        refine (nameAhead_any l[k] l[j] _).mono ?_
        rintro r w1 ⟨rfl, b1⟩
        rw [HO.out]
        go_wp2
        go_ret
        exact ⟨ret_bool HE.out.symm, next hbl.drew b1⟩
      · have HN : Hid (WRisesTo l (j + 1)) := Lib.hid (by subst hk; exact hr.next hlt ho)
        have HA := Lib.hid hl
        have HK := Lib.hid hk
        have HO := Lib.hid ho
        clear hl hbo hk hr ho
        go_wp2_with fail
        go_still_tail 10, (by kernel_rfl)
        change wpList _ _ _ _ _ wr.drew
        go_wp2_with fail
        refine (nameAhead_any l[k] l[j] _).mono ?_
        rintro r w1 ⟨rfl, b1⟩
        rw [HO.out]
        clear e1 e2 e3 e5
        go_wp2
        go_roundw
        case rel => exact ⟨j + 1, by go_num, by omega, by omega, HN.out, next hbl.drew b1⟩
        case measure => simp [intOf]; omega
    · have HE : Hid (M.risesN (l.map Wr.wk) = true) := Lib.hid (hr.all (by omega))
      clear hr
      go_wp2
      go_ret
      exact ⟨ret_bool HE.out.symm, hbl⟩

set_option maxHeartbeats 1000000 in
theorem implShelfOk (A : Option Addr) (l : List Wr) (cap : Nat) (w : World) (hl : Wks w A l) (hlen : l.length ≤ 1048576) (hp : WrsIn 1048576 l) :
    Calls Tryz.prog 12 #[.slice A l.length cap] w fun r w' => r = .returned (.bool (M.sfOk (l.map Wr.wk))) ∧ Below w.heap.size w w' := by
  have HP := Lib.hid hp
  clear hp
  by_cases h5 : l.length ≤ 5
  · rcases ha : (l.map Wr.wk).all M.wkOk with _ | _
    · have HE : Hid (M.sfOk (l.map Wr.wk) = false) := Lib.hid (by simp only [M.sfOk, ha]; simp)
      have HA := Lib.hid ha
      clear ha
      go_enter Tryz.func12, Tryz.ntmps12
      go_wp2_with fail
      refine (all_workOk A l cap _ hl hlen HP.out).mono ?_
      rintro r w1 ⟨rfl, b1⟩
      rw [HA.out]
      go_wp2
      go_ret
      exact ⟨ret_bool HE.out.symm, b1⟩
    · have HE : Hid (M.sfOk (l.map Wr.wk) = M.risesN (l.map Wr.wk)) := Lib.hid (by simp only [M.sfOk, ha]; simp [h5])
      have HA := Lib.hid ha
      clear ha
      go_enter Tryz.func12, Tryz.ntmps12
      go_wp2_with fail
      refine (all_workOk A l cap _ hl hlen HP.out).mono ?_
      rintro r w1 ⟨rfl, b1⟩
      rw [HA.out]
      go_wp2_with fail
      refine (rises_name A l cap _ (hl.below b1) hlen).mono ?_
      rintro r w2 ⟨rfl, b2⟩
      go_wp2
      go_ret
      exact ⟨ret_bool HE.out.symm, next b1 b2⟩
  · have HE : Hid (M.sfOk (l.map Wr.wk) = false) := Lib.hid (by simp [M.sfOk, h5])
    go_enter Tryz.func12, Tryz.ntmps12
    go_wp2
    go_ret
    exact ⟨ret_bool HE.out.symm, Below.refl _ _⟩
end Go.Proofs.YtdcdalbbjfjadaaGreatDoor
namespace Go.Proofs.YtdcdalbbjfjadaaGreatDoor
open Go.RowKit Go.ChangeMaps Go.MapKept Go.WideElems
set_option maxRecDepth 20000

/-- A work in the map reads as itself. -/
def heldR (v : Value) : Option (DataW Value × List MemPlace) := some (.held v, [])
abbrev nmL (r : Wr) : List UInt8 := r.name.data.toList
abbrev ent (r : Wr) : Lit × DataW Value := (.string (nmL r), .held (wrV r))
/-- The map that holds the works l, in this order. -/
def mapD (l : List Wr) : DataW Value := .map (l.map ent)
def insW (r : Wr) : List Wr → List Wr
  | [] => [r]
  | x :: l => if bytesBefore (nmL r) (nmL x) then r :: x :: l else x :: insW r l
def putW (l : List Wr) (r : Wr) : List Wr := insW r (l.filter fun x => !(nmL x == nmL r))
def findW (l : List Wr) (n : List UInt8) : Option Wr := l.find? fun x => nmL x == n

theorem before_less : ∀ a b : List UInt8, bytesBefore a b = Op.bytesLess a b
  | [], [] => rfl
  | [], _ :: _ => rfl
  | _ :: _, [] => rfl
  | a :: x, b :: y => by simp only [bytesBefore, Op.bytesLess, before_less x y]
theorem before_name (a b : ByteArray) : bytesBefore a.data.toList b.data.toList = M.nameLt a b := by
  rw [before_less]
  unfold M.nameLt
  rw [ByteArray.toList_eq, ByteArray.toList_eq]

theorem ent_ins (r : Wr) : ∀ l : List Wr, DataW.insert (ent r) (l.map ent) = (insW r l).map ent
  | [] => rfl
  | x :: l => by
    have ih := ent_ins r l
    by_cases h : bytesBefore (nmL r) (nmL x) = true
    · have h' : (ent r).1.before (ent x).1 = true := h
      rw [List.map_cons, DataW.insert, if_pos h', insW, if_pos h]; rfl
    · have h' : ¬ (ent r).1.before (ent x).1 = true := h
      rw [List.map_cons, DataW.insert, if_neg h', insW, if_neg h, ih]; rfl
theorem mapD_put (l : List Wr) (r : Wr) : (mapD l).put (.string (nmL r)) (.held (wrV r)) = mapD (putW l r) := by
  unfold mapD DataW.put putW
  simp only
  rw [← ent_ins]
  congr 1
  rw [List.filter_map]
  rfl
theorem mapD_size (l : List Wr) : Maps.size (mapD l) = l.length := by simp [mapD, Maps.size]
theorem mapD_has (l : List Wr) (n : List UInt8) : Maps.has (mapD l) (.string n) = (findW l n).isSome := by
  unfold mapD findW
  rw [Maps.has_eq, List.any_map, Bool.eq_iff_iff, List.any_eq_true, List.find?_isSome]
  rfl
theorem mapD_at (l : List Wr) (n : List UInt8) (z : DataW Value) : (mapD l).atKey (.string n) z = match findW l n with
    | some r => .held (wrV r)
    | none => z := by
  unfold mapD findW DataW.atKey
  simp only
  rw [List.find?_map]
  have e : (fun p : Lit × DataW Value => p.1.sameKey (.string n)) ∘ ent = fun x => nmL x == n := rfl
  rw [e]
  rcases l.find? (fun x => nmL x == n) with _ | r <;> rfl
theorem mapD_keys (l : List Wr) : strKeys (mapD l) = l.map nmL := by
  show (l.map ent).map (fun p => Go.strOf p.1) = l.map nmL
  rw [List.map_map]
  rfl

/-- Names rise. -/
def RiseW (l : List Wr) : Prop := l.Pairwise fun a b => bytesBefore (nmL a) (nmL b) = true
theorem insW_snoc (r : Wr) : ∀ l : List Wr, (∀ x ∈ l, bytesBefore (nmL r) (nmL x) = false) → insW r l = l ++ [r]
  | [], _ => rfl
  | x :: l, h => by
    rw [insW, if_neg (by rw [h x (by simp)]; simp), insW_snoc r l fun y hy => h y (List.mem_cons_of_mem _ hy)]
    rfl
theorem before_asymm {a b : List UInt8} (h : bytesBefore a b = true) : bytesBefore b a = false ∧ (a == b) = false := by
  rw [before_less] at h ⊢
  have := bytesLess_tri a b
  rw [h] at this
  have h2 : (Op.bytesLess b a || b == a) = false := by
    rcases hx : (Op.bytesLess b a || b == a) with _ | _
    · rfl
    · rw [hx] at this; cases this
  rw [Bool.or_eq_false_iff] at h2
  refine ⟨h2.1, ?_⟩
  rw [beq_eq_false_iff_ne] at h2 ⊢
  exact fun e => h2.2 e.symm
theorem putW_snoc {l : List Wr} {r : Wr} (h : ∀ x ∈ l, bytesBefore (nmL x) (nmL r) = true) : putW l r = l ++ [r] := by
  unfold putW
  rw [List.filter_eq_self.2 fun x hx => by rw [(before_asymm (h x hx)).2]; rfl]
  exact insW_snoc r l fun x hx => (before_asymm (h x hx)).1

/-- The lists of the works rs lie in memory of one's own, each in a block of its own. -/
def RsOwn (B : Nat) (w : World) (rs : List Wr) : Prop := (∀ r ∈ rs, CpOwn B w r.sl r.cps) ∧ rs.Pairwise fun a b => Apart a.sl b.sl
theorem RsOwn.nil (B : Nat) (w : World) : RsOwn B w [] := ⟨by simp, List.Pairwise.nil⟩
theorem RsOwn.below {B : Nat} {w w' : World} {rs : List Wr} (h : RsOwn B w rs) (hb : Below w.heap.size w w') : RsOwn B w' rs := ⟨fun r hr => (h.1 r hr).below hb, h.2⟩
theorem RsOwn.mono {B B' : Nat} {w : World} {rs : List Wr} (h : RsOwn B w rs) (hb : B' ≤ B) : RsOwn B' w rs := ⟨fun r hr => (h.1 r hr).mono hb, h.2⟩
theorem cp_by {b g : Nat} {x y : World} {v : Value} {l : List M.Cp} (h : CpOwn b x v l) (hg : x.grownBy y (some g)) (hb : g < b) : CpOwn b y v l := by
  obtain ⟨hl, h0 | ⟨k, cap, cur, rfl, hk, hh, hr⟩⟩ := h
  · exact ⟨hl, .inl h0⟩
  · refine ⟨hl, .inr ⟨k, cap, cur, rfl, hk, (hg.block k (Array.getElem?_eq_some_iff.1 hh).1 ?_).trans hh, hr⟩⟩
    intro e
    injection e with e
    omega
theorem RsOwn.by {B g : Nat} {w w' : World} {rs : List Wr} (h : RsOwn B w rs) (hg : w.grownBy w' (some g)) (hb : g < B) : RsOwn B w' rs := ⟨fun r hr => cp_by (h.1 r hr) hg hb, h.2⟩
theorem RsOwn.set {B g : Nat} {w : World} {rs : List Wr} (h : RsOwn B w rs) (hne : ∀ r ∈ rs, r.sl.ownBlock ≠ some g) (i : Nat) (v : Value) : RsOwn B (w.setCell ⟨g, i, none⟩ v) rs := by
  refine ⟨fun r hr => ?_, h.2⟩
  obtain ⟨hl, h0 | ⟨k, cap, cur, hv, hb, hh, hr'⟩⟩ := h.1 r hr
  · exact ⟨hl, .inl h0⟩
  · refine ⟨hl, .inr ⟨k, cap, cur, hv, hb, (Below.heap_setCell _ _ _ _ (fun e => hne r hr ?_)).trans hh, hr'⟩⟩
    rw [hv]
    show some k = some g
    rw [e]
theorem RsOwn.snoc {B : Nat} {w w' : World} {rs : List Wr} (h : RsOwn B w rs) (hb : Below w.heap.size w w') (hB : B ≤ w.heap.size) (r : Wr) (ho : CpOwn w.heap.size w' r.sl r.cps) : RsOwn B w' (rs ++ [r]) := by
  refine ⟨fun x hx => ?_, ?_⟩
  · rcases List.mem_append.1 hx with hx | hx
    · exact (h.1 x hx).below hb
    · obtain rfl : x = r := by simpa using hx
      exact ho.mono hB
  · rw [List.pairwise_append]
    refine ⟨h.2, List.pairwise_singleton _ _, fun a ha b hb' => ?_⟩
    obtain rfl : b = r := by simpa using hb'
    exact own_differ (fun k hk => ((h.1 a ha).lt k hk).2) (fun k hk => (ho.lt k hk).1)

/-! ### The map's block. -/
theorem run_clear {w : World} {b n : Nat} {D : DataW Value} {t k e : TypeId} {P : Program} (h : w.ownsMap P k heldR b n D) (ht : P.underlying t = some (.map k e)) (ty : TypeId) :
    ∃ w', (Builtin.clear_ #[t] ty #[.map (some b)]).run P w = .ok (.tuple #[]) w' ∧ w'.ownsMap P k heldR b 0 (mapD []) ∧ w.grownBy w' (some b) := by
  obtain ⟨es, clock, hb, F, hs, hD⟩ := h
  refine ⟨setBlock w b (.map #[] clock), ?_, ⟨#[], clock, heap_setBlock_same hb _, ⟨by simp, stamped_empty clock, by simp⟩, Nat.le_refl _, rfl⟩, ⟨rfl, rfl, rfl, by simp [setBlock], fun i _ hi => heap_setBlock_other hb _ (fun e => hi (by rw [e]))⟩⟩
  simp [Builtin.clear_, run_underlying ht, MapKept.run_getObj_map hb, MapKept.run_setObj_map _ hb, Result.andThen, setBlock]
/-- clear(m), for the walk. -/
theorem wpList_clear_own {P : Program} {w : World} {ops : Array Oper} {rest : List Oper} {o : Oper} {a : Act} {Q : Exit → Act → World → Prop} (hg : o.guard = none) (m : Operand) (t : TypeId) (hop : o.op = Op.call { callee := Callee.builtin Builtin.clear, args := #[m], argTypes := #[t] })
    (k e : TypeId) (ht : P.underlying t = some (.map k e)) (b n : Nat) (D : DataW Value) (hm : a.eval m = .map (some b)) (hown : w.ownsMap P k heldR b n D)
    (hK : ∀ w', w'.ownsMap P k heldR b 0 (mapD []) → w.grownBy w' (some b) → wpList P ops Q rest (a.put o.dst (.tuple #[])) w') : wpList P ops Q (o :: rest) a w := by
  refine wpList_plain hg fun K' hK' => ?_
  obtain ⟨w', hrun, r1, r2⟩ := run_clear hown ht o.type
  unfold Oper.wp
  simp [execOp, hop, resolve, invoke, builtin, hm, hrun, Result.andThen]
  exact hK' _ _ (hK w' r1 r2)
end Go.Proofs.YtdcdalbbjfjadaaGreatDoor
