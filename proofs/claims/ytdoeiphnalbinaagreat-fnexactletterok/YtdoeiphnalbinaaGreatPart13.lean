/- Proved, in parts: Proved: the program's ShelfOk answers as the plain Lean function does; it writes nothing that was there. Condition: texts and lists of at most a million. Proved: the program's test of a book answers a plain Lean function; nothing that was there is written. Condition: texts and lists of at most a million. -/
import Derived.Test.YtdoeiphnalbinaaGreatPart05
import Derived.Test.YtdoeiphnalbinaaGreatPart12
import Derived.Test.YtdoeiphnalbinaaGreatPart09
namespace Go.Proofs.YtdoeiphnalbinaaGreat
open Go.RowKit
set_option maxRecDepth 20000

abbrev wrV (r : Wr) : Value := wkV r.name r.owner r.ad r.cps.length r.cap
def WNoneTo (p : Wr → Bool) (l : List Wr) (j : Nat) : Prop := ∀ (i : Nat) (h : i < l.length), i < j → p l[i] = false
theorem WNoneTo.zero (p : Wr → Bool) (l : List Wr) : WNoneTo p l 0 := fun _ _ h => absurd h (by omega)
theorem WNoneTo.next {p : Wr → Bool} {l : List Wr} {j : Nat} (h : WNoneTo p l j) (hj : j < l.length) (hp : p l[j] = false) : WNoneTo p l (j + 1) := fun i hi hij => by
  by_cases e : i = j
  · subst e; exact hp
  · exact h i hi (by omega)
theorem WNoneTo.hit {p : Wr → Bool} {l : List Wr} {j : Nat} (h : WNoneTo p l j) (hj : j < l.length) (hp : p l[j] = true) : l.findIdx p = j :=
  (List.findIdx_eq hj).2 ⟨hp, fun i hi => h i (by omega) hi⟩
theorem WNoneTo.all {p : Wr → Bool} {l : List Wr} (h : WNoneTo p l l.length) : l.findIdx p = l.length :=
  List.findIdx_eq_length.2 fun x hx => by
    obtain ⟨i, hi, rfl⟩ := List.mem_iff_getElem.1 hx
    simp [h i hi hi]

set_option maxHeartbeats 1000000 in
theorem wfirst_all (p : Wr → Bool) (A : Option Addr) (l : List Wr) (cap : Nat) (g : Value) (w : World) (hl : Wks w A l) (hlen : l.length ≤ 1048576)
    (hcall : ∀ (c : Wr) (w' : World), c ∈ l → Cps w' c.ad c.cps → Below w.heap.size w w' → Calls Tryz.prog 91 #[wrV c, g] w' fun r w'' => r = .returned (.bool (p c)) ∧ Below w'.heap.size w' w'') :
    Calls Tryz.prog 90 #[.slice A l.length cap, .func (.func 91) #[] #[g]] w fun r w' => r = .returned (.int .i64 (l.findIdx p : Nat)) ∧ Below w.heap.size w w' := by
  have HC := Lib.hid hcall
  clear hcall
  go_enter Tryz.func90, Tryz.ntmps90
  go_wp2
  go_loopw [9] (fun i wr => ∃ j : Nat, i = .int .i64 j ∧ j ≤ l.length ∧ WNoneTo p l j ∧ Below w.heap.size w wr) (fun i _ => l.length - (intOf i).toNat)
  case atStart => exact ⟨0, rfl, Nat.zero_le _, WNoneTo.zero p l, Below.refl _ _⟩
  case round =>
    obtain ⟨j, rfl, hj, hnone, hbl⟩ := hrel
    by_cases hlt : j < l.length
    · obtain ⟨b, o, rfl, -, c0, c1, c2, hc⟩ := Wks_at (hl.below hbl) hlt
      have HA := Lib.hid hl
      have HN := Lib.hid hnone
      have HCC := Lib.hid hc
      have ba := hbl.alloc hbl.size (.cells (wkL l[j].name l[j].owner l[j].ad l[j].cps.length l[j].cap) 106)
      clear hl hnone hc
      rcases hp : p l[j] with _ | _
      · have HP := Lib.hid hp
        go_wp2_with fail
        refine (HC.out l[j] _ (List.getElem_mem hlt) (HCC.out.alloc _) ba).mono ?_
        rintro r w1 ⟨rfl, b1⟩
        clear hp
        have hp := HP.out
        rw [hp]
        clear hp
        go_wp2
        go_roundw
        case rel => exact ⟨j + 1, by go_num, by omega, HN.out.next hlt HP.out, next ba b1⟩
        case measure => simp [intOf]; omega
      · have HP := Lib.hid hp
        go_wp2_with fail
        refine (HC.out l[j] _ (List.getElem_mem hlt) (HCC.out.alloc _) ba).mono ?_
        rintro r w1 ⟨rfl, b1⟩
        clear hp
        have hp := HP.out
        rw [hp]
        clear hp
        go_wp2
        go_ret
        exact ⟨ret_int (by rw [HN.out.hit hlt HP.out]), next ba b1⟩
    · have hj' : j = l.length := by omega
      subst hj'
      have HN := Lib.hid hnone
      clear hnone
      go_wp2
      go_ret
      exact ⟨ret_int (by rw [HN.out.all]), hbl⟩

set_option maxHeartbeats 1000000 in
theorem all1_workOk (c : Wr) (g : Nat) (w : World) (hl : Cps w c.ad c.cps) (hn : c.name.size ≤ 1048576) (hlen : c.cps.length ≤ 1048576) (hp : ∀ x ∈ c.cps, x.page.size ≤ 1048576) (hg : w.cell? ⟨g, 0, none⟩ = some (.func (.func 69) #[] #[])) :
    Calls Tryz.prog 91 #[wrV c, .pointer (some ⟨g, 0, none⟩)] w fun r w' => r = .returned (.bool (!M.wkOk c.wk)) ∧ Below w.heap.size w w' := by
  have b0 := (Below.refl w.heap.size w).alloc (Nat.le_refl _) (.cells (wkL c.name c.owner c.ad c.cps.length c.cap) 106)
  have hgl : g < w.heap.size := World.block_lt_of_cell? w _ hg
  have HP := Lib.hid hp
  have HL := Lib.hid hl
  clear hp hl
  go_enter Tryz.func91, Tryz.ntmps91
  go_wp2_with fail
  refine (implWorkOk c.name c.owner c.ad c.cps c.cap _ (HL.out.alloc _) (by unfold maxLen; omega) hlen (fun x hx => Nat.le_trans (HP.out x hx) (by unfold maxLen; omega))).mono ?_
  rintro r w1 ⟨rfl, b1⟩
  go_wp2
  go_ret
  exact ⟨rfl, next b0 b1⟩

theorem all_findIdxW (l : List Wr) : ((l.findIdx (fun c => !M.wkOk c.wk) : Int) == (l.length : Int)) = (l.map Wr.wk).all M.wkOk := by
  rw [Bool.eq_iff_iff, beq_iff_eq, List.all_eq_true]
  constructor
  · intro h x hx
    obtain ⟨y, hy, rfl⟩ := List.mem_map.1 hx
    have := List.findIdx_eq_length.1 (show l.findIdx (fun c => !M.wkOk c.wk) = l.length by omega) y hy
    simpa using this
  · intro h
    have : l.findIdx (fun c => !M.wkOk c.wk) = l.length := List.findIdx_eq_length.2 fun x hx => by simp [h x.wk (List.mem_map_of_mem hx)]
    omega

set_option maxHeartbeats 1000000 in
theorem all_workOk (A : Option Addr) (l : List Wr) (cap : Nat) (w : World) (hl : Wks w A l) (hlen : l.length ≤ 1048576) (hp : WrsIn 1048576 l) :
    Calls Tryz.prog 68 #[.slice A l.length cap, .func (.func 69) #[] #[]] w fun r w' => r = .returned (.bool ((l.map Wr.wk).all M.wkOk)) ∧ Below w.heap.size w w' := by
  have b0 := (Below.refl w.heap.size w).alloc (Nat.le_refl _) (.cells #[.func (.func 69) #[] #[]] 115)
  have HB : Hid (((l.findIdx (fun c => !M.wkOk c.wk) : Int) == (l.length : Int)) = (l.map Wr.wk).all M.wkOk) := Lib.hid (all_findIdxW l)
  have HP := Lib.hid hp
  have HL := Lib.hid hl
  clear hp hl
  go_enter Tryz.func68, Tryz.ntmps68
  go_wp2_with fail
  refine (wfirst_all (fun c => !M.wkOk c.wk) A l cap _ _ (HL.out.alloc _) hlen (fun c w' hc hw hb => all1_workOk c _ w' hw (HP.out c hc).1 (HP.out c hc).2.1 (HP.out c hc).2.2 (box_cells hb 0))).mono ?_
  rintro r w1 ⟨rfl, b1⟩
  go_wp2
  go_ret
  exact ⟨ret_bool HB.out, next b0 b1⟩

set_option maxHeartbeats 1000000 in
theorem nameAhead_any (c d : Wr) (w : World) :
    Calls Tryz.prog 71 #[wrV c, wrV d] w fun r w' => r = .returned (.bool (M.nameLt c.name d.name)) ∧ Below w.heap.size w w' := by
  have b0 := ((Below.refl w.heap.size w).alloc (Nat.le_refl _) (.cells (wkL c.name c.owner c.ad c.cps.length c.cap) 106)).alloc (by simp) (.cells (wkL d.name d.owner d.ad d.cps.length d.cap) 106)
  go_enter Tryz.func71, Tryz.ntmps71
  go_wp2
  go_ret
  exact ⟨rfl, b0⟩

/-- Each of the first j is ahead of the next. -/
def WRisesTo (l : List Wr) (j : Nat) : Prop := ∀ (i : Nat) (h : i + 1 < l.length), i + 1 < j → M.nameLt l[i].name l[i + 1].name = true
theorem WRisesTo.one (l : List Wr) : WRisesTo l 1 := fun _ _ h => absurd h (by omega)
theorem WRisesTo.next {l : List Wr} {k : Nat} (h : WRisesTo l (k + 1)) (hk : k + 1 < l.length) (ho : M.nameLt l[k].name l[k + 1].name = true) : WRisesTo l (k + 2) := fun i hi hij => by
  by_cases e : i = k
  · subst e; exact ho
  · exact h i hi (by omega)
theorem WRisesTo.all {l : List Wr} {j : Nat} (h : WRisesTo l j) (hj : l.length ≤ j) : M.risesN (l.map Wr.wk) = true := (M.risesN_iff _).2 fun i hi => by
  have hi' : i + 1 < l.length := by simpa using hi
  simpa [Wr.wk] using h i hi' (by omega)
theorem wrises_not {l : List Wr} {k : Nat} (hk : k + 1 < l.length) (ho : M.nameLt l[k].name l[k + 1].name = false) : M.risesN (l.map Wr.wk) = false := by
  rcases hc : M.risesN (l.map Wr.wk) with _ | _
  · rfl
  · have := (M.risesN_iff _).1 hc k (by simpa using hk)
    simp [Wr.wk] at this
    rw [ho] at this; cases this

set_option maxHeartbeats 1000000 in
theorem rises_name (A : Option Addr) (l : List Wr) (cap : Nat) (w : World) (hl : Wks w A l) (hlen : l.length ≤ 1048576) :
    Calls Tryz.prog 70 #[.slice A l.length cap, .func (.func 71) #[] #[]] w fun r w' => r = .returned (.bool (M.risesN (l.map Wr.wk))) ∧ Below w.heap.size w w' := by
  go_enter Tryz.func70, Tryz.ntmps70
  go_wp2
  go_loopw [5] (fun i wr => ∃ j : Nat, i = .int .i64 j ∧ 1 ≤ j ∧ j ≤ l.length + 1 ∧ WRisesTo l j ∧ Below w.heap.size w wr) (fun i _ => l.length + 1 - (intOf i).toNat)
  case atStart => exact ⟨1, rfl, by omega, by omega, WRisesTo.one l, Below.refl _ _⟩
  case round =>
    obtain ⟨j, rfl, hj1, hj, hr, hbl⟩ := hrel
    by_cases hlt : j < l.length
    · obtain ⟨k, hk⟩ : ∃ k, j = k + 1 := ⟨j - 1, by omega⟩
      have hkl : k < l.length := by omega
      obtain ⟨b, o, rfl, -, c0, c1, c2, -⟩ := Wks_at (hl.below hbl) hlt
      obtain ⟨b', o', hbo, -, d0, d1, d2, -⟩ := Wks_at (hl.below hbl) hkl
      obtain ⟨rfl, rfl⟩ : b = b' ∧ o = o' := by simpa using hbo
      have e1 : IntKind.i64.wrap ((j : Int) - 1) = (j : Int) - 1 := IntWalk.i64_in _ (by omega)
      have e2 : ((j : Int) - 1).toNat = k := by omega
      have e3 : (1 : Int) ≤ (j : Int) := by omega
      have e5 : ¬ ((l.length : Int) ≤ (j : Int) - 1) := by omega
      rcases ho : M.nameLt l[k].name l[j].name with _ | _
      · have HE : Hid (M.risesN (l.map Wr.wk) = false) := Lib.hid (by subst hk; exact wrises_not hlt ho)
        have HA := Lib.hid hl
        have HK := Lib.hid hk
        have HO := Lib.hid ho
        clear hl hbo hk hr ho
        go_wp2_with fail
        go_still_tail 10, (by kernel_rfl)
        change wpList _ _ _ _ _ wr.drew
        go_wp2_with fail
        refine (nameAhead_any l[k] l[j] _).mono ?_
        rintro r w1 ⟨rfl, b1⟩
        rw [HO.out]
        go_wp2
        go_ret
        exact ⟨ret_bool HE.out.symm, next hbl.drew b1⟩
      · have HN : Hid (WRisesTo l (j + 1)) := Lib.hid (by subst hk; exact hr.next hlt ho)
        have HA := Lib.hid hl
        have HK := Lib.hid hk
        have HO := Lib.hid ho
        clear hl hbo hk hr ho
        go_wp2_with fail
        go_still_tail 10, (by kernel_rfl)
        change wpList _ _ _ _ _ wr.drew
        go_wp2_with fail
        refine (nameAhead_any l[k] l[j] _).mono ?_
        rintro r w1 ⟨rfl, b1⟩
        rw [HO.out]
        clear e1 e2 e3 e5
        go_wp2
        go_roundw
        case rel => exact ⟨j + 1, by go_num, by omega, by omega, HN.out, next hbl.drew b1⟩
        case measure => simp [intOf]; omega
    · have HE : Hid (M.risesN (l.map Wr.wk) = true) := Lib.hid (hr.all (by omega))
      clear hr
      go_wp2
      go_ret
      exact ⟨ret_bool HE.out.symm, hbl⟩

set_option maxHeartbeats 1000000 in
theorem implShelfOk (A : Option Addr) (l : List Wr) (cap : Nat) (w : World) (hl : Wks w A l) (hlen : l.length ≤ 1048576) (hp : WrsIn 1048576 l) :
    Calls Tryz.prog 40 #[.slice A l.length cap] w fun r w' => r = .returned (.bool (M.sfOk (l.map Wr.wk))) ∧ Below w.heap.size w w' := by
  have HP := Lib.hid hp
  clear hp
  by_cases h5 : l.length ≤ 5
  · rcases ha : (l.map Wr.wk).all M.wkOk with _ | _
    · have HE : Hid (M.sfOk (l.map Wr.wk) = false) := Lib.hid (by simp only [M.sfOk, ha]; simp)
      have HA := Lib.hid ha
      clear ha
      go_enter Tryz.func40, Tryz.ntmps40
      go_wp2_with fail
      refine (all_workOk A l cap _ hl hlen HP.out).mono ?_
      rintro r w1 ⟨rfl, b1⟩
      rw [HA.out]
      go_wp2
      go_ret
      exact ⟨ret_bool HE.out.symm, b1⟩
    · have HE : Hid (M.sfOk (l.map Wr.wk) = M.risesN (l.map Wr.wk)) := Lib.hid (by simp only [M.sfOk, ha]; simp [h5])
      have HA := Lib.hid ha
      clear ha
      go_enter Tryz.func40, Tryz.ntmps40
      go_wp2_with fail
      refine (all_workOk A l cap _ hl hlen HP.out).mono ?_
      rintro r w1 ⟨rfl, b1⟩
      rw [HA.out]
      go_wp2_with fail
      refine (rises_name A l cap _ (hl.below b1) hlen).mono ?_
      rintro r w2 ⟨rfl, b2⟩
      go_wp2
      go_ret
      exact ⟨ret_bool HE.out.symm, next b1 b2⟩
  · have HE : Hid (M.sfOk (l.map Wr.wk) = false) := Lib.hid (by simp [M.sfOk, h5])
    go_enter Tryz.func40, Tryz.ntmps40
    go_wp2
    go_ret
    exact ⟨ret_bool HE.out.symm, Below.refl _ _⟩
end Go.Proofs.YtdoeiphnalbinaaGreat
namespace Go.Proofs.YtdoeiphnalbinaaGreat
open Go.RowKit
set_option maxRecDepth 20000
namespace M
def laOk (c : La) : Bool := inI c.client 0 3 && inI c.seq 1 1000
def laLt (a b : La) : Bool := decide (a.client < b.client)
def lasOk (l : List La) : Bool := l.all laOk && grises laLt l
def bkOk (s : List Wk) (l : List La) : Bool := sfOk s && lasOk l
end M
/-- A book: its works in memory, its lasts. -/
abbrev bkA (A : Option Addr) (n c : Nat) (B : Option Addr) (m e : Nat) : Array Value := #[.slice A n c, .slice B m e]
abbrev bkV (A : Option Addr) (n c : Nat) (B : Option Addr) (m e : Nat) : Value := .agg (bkA A n c B m e)

set_option maxHeartbeats 1000000 in
theorem lastOk_any (c : M.La) (w : World) :
    Calls Tryz.prog 42 #[laV c] w fun r w' => r = .returned (.bool (M.laOk c)) ∧ Below w.heap.size w w' := by
  have b0 := (Below.refl w.heap.size w).alloc (Nat.le_refl _) (.cells (laA c) 85)
  rcases h1 : M.inI c.client 0 3 with _ | _
  · have HE : Hid (M.laOk c = false) := Lib.hid (by simp [M.laOk, h1])
    go_enter Tryz.func42, Tryz.ntmps42
    go_wp2_with fail
    have hc := clientOk_any c.client (w.alloc (.cells (laA c) 85))
    rw [h1] at hc
    refine hc.mono ?_
    rintro e w' ⟨rfl, rfl⟩
    clear hc h1
    go_wp2
    go_ret
    exact ⟨by rw [HE.out]; rfl, b0⟩
  · have HE : Hid (M.laOk c = M.inI c.seq 1 1000) := Lib.hid (by simp [M.laOk, h1])
    go_enter Tryz.func42, Tryz.ntmps42
    go_wp2_with fail
    have hc := clientOk_any c.client (w.alloc (.cells (laA c) 85))
    rw [h1] at hc
    refine hc.mono ?_
    rintro e w' ⟨rfl, rfl⟩
    clear hc h1
    go_wp2_with fail
    refine (seqOk_any c.seq _).mono ?_
    rintro e w' ⟨rfl, rfl⟩
    go_wp2
    go_ret
    exact ⟨by rw [HE.out]; rfl, b0⟩
set_option maxHeartbeats 1000000 in
theorem clientAhead_any (c d : M.La) (w : World) :
    Calls Tryz.prog 44 #[laV c, laV d] w fun r w' => r = .returned (.bool (M.laLt c d)) ∧ Below w.heap.size w w' := by
  have b0 := ((Below.refl w.heap.size w).alloc (Nat.le_refl _) (.cells (laA c) 85)).alloc (by simp) (.cells (laA d) 85)
  go_enter Tryz.func44, Tryz.ntmps44
  go_wp2
  go_ret
  exact ⟨rfl, b0⟩

set_option maxHeartbeats 1000000 in
theorem lfirst_all (p : M.La → Bool) (A : Option Addr) (l : List M.La) (cap : Nat) (g : Value) (w : World) (hl : Las w A l) (hlen : l.length ≤ 1048576)
    (hcall : ∀ (c : M.La) (w' : World), c ∈ l → Below w.heap.size w w' → Calls Tryz.prog 73 #[laV c, g] w' fun r w'' => r = .returned (.bool (p c)) ∧ Below w'.heap.size w' w'') :
    Calls Tryz.prog 72 #[.slice A l.length cap, .func (.func 73) #[] #[g]] w fun r w' => r = .returned (.int .i64 (l.findIdx p : Nat)) ∧ Below w.heap.size w w' := by
  have HC := Lib.hid hcall
  clear hcall
  go_enter Tryz.func72, Tryz.ntmps72
  go_wp2
  go_loopw [9] (fun i wr => ∃ j : Nat, i = .int .i64 j ∧ j ≤ l.length ∧ GNoneTo p l j ∧ Below w.heap.size w wr) (fun i _ => l.length - (intOf i).toNat)
  case atStart => exact ⟨0, rfl, Nat.zero_le _, GNoneTo.zero p l, Below.refl _ _⟩
  case round =>
    obtain ⟨j, rfl, hj, hnone, hbl⟩ := hrel
    by_cases hlt : j < l.length
    · obtain ⟨b, o, rfl, -, c0, c1, c2, c3⟩ := Las_at (hl.below hbl) hlt
      have HA := Lib.hid hl
      have HN := Lib.hid hnone
      have ba := hbl.alloc hbl.size (.cells (laA l[j]) 85)
      clear hl hnone
      rcases hp : p l[j] with _ | _
      · have HP := Lib.hid hp
        go_wp2_with fail
        refine (HC.out l[j] _ (List.getElem_mem hlt) ba).mono ?_
        rintro r w1 ⟨rfl, b1⟩
        clear hp
        have hp := HP.out
        rw [hp]
        clear hp
        go_wp2
        go_roundw
        case rel => exact ⟨j + 1, by go_num, by omega, HN.out.next hlt HP.out, next ba b1⟩
        case measure => simp [intOf]; omega
      · have HP := Lib.hid hp
        go_wp2_with fail
        refine (HC.out l[j] _ (List.getElem_mem hlt) ba).mono ?_
        rintro r w1 ⟨rfl, b1⟩
        clear hp
        have hp := HP.out
        rw [hp]
        clear hp
        go_wp2
        go_ret
        exact ⟨ret_int (by rw [HN.out.hit hlt HP.out]), next ba b1⟩
    · have hj' : j = l.length := by omega
      subst hj'
      have HN := Lib.hid hnone
      clear hnone
      go_wp2
      go_ret
      exact ⟨ret_int (by rw [HN.out.all]), hbl⟩

set_option maxHeartbeats 1000000 in
theorem all1_lastOk (c : M.La) (g : Nat) (w : World) (hg : w.cell? ⟨g, 0, none⟩ = some (.func (.func 42) #[] #[])) :
    Calls Tryz.prog 73 #[laV c, .pointer (some ⟨g, 0, none⟩)] w fun r w' => r = .returned (.bool (!M.laOk c)) ∧ Below w.heap.size w w' := by
  have b0 := (Below.refl w.heap.size w).alloc (Nat.le_refl _) (.cells (laA c) 85)
  have hgl : g < w.heap.size := World.block_lt_of_cell? w _ hg
  go_enter Tryz.func73, Tryz.ntmps73
  go_wp2_with fail
  refine (lastOk_any c _).mono ?_
  rintro r w1 ⟨rfl, b1⟩
  go_wp2
  go_ret
  exact ⟨rfl, next b0 b1⟩
set_option maxHeartbeats 1000000 in
theorem all_lastOk (A : Option Addr) (l : List M.La) (cap : Nat) (w : World) (hl : Las w A l) (hlen : l.length ≤ 1048576) :
    Calls Tryz.prog 41 #[.slice A l.length cap, .func (.func 42) #[] #[]] w fun r w' => r = .returned (.bool (l.all M.laOk)) ∧ Below w.heap.size w w' := by
  have b0 := (Below.refl w.heap.size w).alloc (Nat.le_refl _) (.cells #[.func (.func 42) #[] #[]] 86)
  have HB : Hid (((l.findIdx (fun c => !M.laOk c) : Int) == (l.length : Int)) = l.all M.laOk) := Lib.hid (all_findIdxG _ l)
  have HL := Lib.hid hl
  clear hl
  go_enter Tryz.func41, Tryz.ntmps41
  go_wp2_with fail
  refine (lfirst_all (fun c => !M.laOk c) A l cap _ _ (HL.out.alloc _) hlen (fun c w' _ hb => all1_lastOk c _ w' (box_cells hb 0))).mono ?_
  rintro r w1 ⟨rfl, b1⟩
  go_wp2
  go_ret
  exact ⟨ret_bool HB.out, next b0 b1⟩
set_option maxHeartbeats 1000000 in
theorem rises_last (A : Option Addr) (l : List M.La) (cap : Nat) (w : World) (hl : Las w A l) (hlen : l.length ≤ 1048576) :
    Calls Tryz.prog 43 #[.slice A l.length cap, .func (.func 44) #[] #[]] w fun r w' => r = .returned (.bool (grises M.laLt l)) ∧ Below w.heap.size w w' := by
  go_enter Tryz.func43, Tryz.ntmps43
  go_wp2
  go_loopw [5] (fun i wr => ∃ j : Nat, i = .int .i64 j ∧ 1 ≤ j ∧ j ≤ l.length + 1 ∧ GRisesTo M.laLt l j ∧ Below w.heap.size w wr) (fun i _ => l.length + 1 - (intOf i).toNat)
  case atStart => exact ⟨1, rfl, by omega, by omega, GRisesTo.one _ l, Below.refl _ _⟩
  case round =>
    obtain ⟨j, rfl, hj1, hj, hr, hbl⟩ := hrel
    by_cases hlt : j < l.length
    · obtain ⟨k, hk⟩ : ∃ k, j = k + 1 := ⟨j - 1, by omega⟩
      have hkl : k < l.length := by omega
      obtain ⟨b, o, rfl, -, c0, c1, c2, c3⟩ := Las_at (hl.below hbl) hlt
      obtain ⟨b', o', hbo, -, d0, d1, d2, d3⟩ := Las_at (hl.below hbl) hkl
      obtain ⟨rfl, rfl⟩ : b = b' ∧ o = o' := by simpa using hbo
      have e1 : IntKind.i64.wrap ((j : Int) - 1) = (j : Int) - 1 := IntWalk.i64_in _ (by omega)
      have e2 : ((j : Int) - 1).toNat = k := by omega
      have e3 : (1 : Int) ≤ (j : Int) := by omega
      have e5 : ¬ ((l.length : Int) ≤ (j : Int) - 1) := by omega
      rcases ho : M.laLt l[k] l[j] with _ | _
      · have HE : Hid (grises M.laLt l = false) := Lib.hid (by subst hk; exact grises_not hlt ho)
        have HA := Lib.hid hl
        have HK := Lib.hid hk
        have HO := Lib.hid ho
        clear hl hbo hk hr ho
        go_wp2_with fail
        go_still_tail 10, (by kernel_rfl)
        change wpList _ _ _ _ _ wr.drew
        go_wp2_with fail
        refine (clientAhead_any l[k] l[j] _).mono ?_
        rintro r w1 ⟨rfl, b1⟩
        rw [HO.out]
        go_wp2
        go_ret
        exact ⟨ret_bool HE.out.symm, next hbl.drew b1⟩
      · have HN : Hid (GRisesTo M.laLt l (j + 1)) := Lib.hid (by subst hk; exact hr.next hlt ho)
        have HA := Lib.hid hl
        have HK := Lib.hid hk
        have HO := Lib.hid ho
        clear hl hbo hk hr ho
        go_wp2_with fail
        go_still_tail 10, (by kernel_rfl)
        change wpList _ _ _ _ _ wr.drew
        go_wp2_with fail
        refine (clientAhead_any l[k] l[j] _).mono ?_
        rintro r w1 ⟨rfl, b1⟩
        rw [HO.out]
        clear e1 e2 e3 e5
        go_wp2
        go_roundw
        case rel => exact ⟨j + 1, by go_num, by omega, by omega, HN.out, next hbl.drew b1⟩
        case measure => simp [intOf]; omega
    · have HE : Hid (grises M.laLt l = true) := Lib.hid (hr.all (by omega))
      clear hr
      go_wp2
      go_ret
      exact ⟨ret_bool HE.out.symm, hbl⟩

set_option maxHeartbeats 2000000 in
theorem implBookOk (A : Option Addr) (l : List Wr) (cap : Nat) (B : Option Addr) (m : List M.La) (cb : Nat) (w : World) (hl : Wks w A l) (hlen : l.length ≤ 1048576) (hp : WrsIn 1048576 l) (hm : Las w B m) (hml : m.length ≤ 1048576) :
    Calls Tryz.prog 21 #[bkV A l.length cap B m.length cb] w fun r w' => r = .returned (.bool (M.bkOk (l.map Wr.wk) m)) ∧ Below w.heap.size w w' := by
  have b0 := (Below.refl w.heap.size w).alloc (Nat.le_refl _) (.cells (bkA A l.length cap B m.length cb) 35)
  have HP := Lib.hid hp
  have HL := Lib.hid (hl.alloc (.cells (bkA A l.length cap B m.length cb) 35))
  have HM := Lib.hid (hm.alloc (.cells (bkA A l.length cap B m.length cb) 35))
  clear hp hl hm
  rcases h1 : M.sfOk (l.map Wr.wk) with _ | _
  · have HE : Hid (M.bkOk (l.map Wr.wk) m = false) := Lib.hid (by simp [M.bkOk, h1])
    have H1 := Lib.hid h1
    clear h1
    go_enter Tryz.func21, Tryz.ntmps21
    go_wp2_with fail
    refine (implShelfOk A l cap _ HL.out hlen HP.out).mono ?_
    rintro r w1 ⟨rfl, b1⟩
    rw [H1.out]
    go_wp2
    go_ret
    exact ⟨ret_bool HE.out.symm, next b0 b1⟩
  · rcases h2 : m.all M.laOk with _ | _
    · have HE : Hid (M.bkOk (l.map Wr.wk) m = false) := Lib.hid (by simp only [M.bkOk, M.lasOk, h2]; simp)
      have H1 := Lib.hid h1
      have H2 := Lib.hid h2
      clear h1 h2
      go_enter Tryz.func21, Tryz.ntmps21
      go_wp2_with fail
      refine (implShelfOk A l cap _ HL.out hlen HP.out).mono ?_
      rintro r w1 ⟨rfl, b1⟩
      rw [H1.out]
      go_wp2_with fail
      refine (all_lastOk B m cb _ (HM.out.below b1) hml).mono ?_
      rintro r w2 ⟨rfl, b2⟩
      rw [H2.out]
      go_wp2
      go_ret
      exact ⟨ret_bool HE.out.symm, next (next b0 b1) b2⟩
    · have HE : Hid (M.bkOk (l.map Wr.wk) m = grises M.laLt m) := Lib.hid (by simp only [M.bkOk, M.lasOk, h1, h2]; simp)
      have H1 := Lib.hid h1
      have H2 := Lib.hid h2
      clear h1 h2
      go_enter Tryz.func21, Tryz.ntmps21
      go_wp2_with fail
      refine (implShelfOk A l cap _ HL.out hlen HP.out).mono ?_
      rintro r w1 ⟨rfl, b1⟩
      rw [H1.out]
      go_wp2_with fail
      refine (all_lastOk B m cb _ (HM.out.below b1) hml).mono ?_
      rintro r w2 ⟨rfl, b2⟩
      rw [H2.out]
      go_wp2_with fail
      refine (rises_last B m cb _ ((HM.out.below b1).below b2) hml).mono ?_
      rintro r w3 ⟨rfl, b3⟩
      go_wp2
      go_ret
      exact ⟨ret_bool HE.out.symm, next (next (next b0 b1) b2) b3⟩
end Go.Proofs.YtdoeiphnalbinaaGreat
