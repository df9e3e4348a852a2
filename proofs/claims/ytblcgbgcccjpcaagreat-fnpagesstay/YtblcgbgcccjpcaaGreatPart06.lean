/- Proved, in parts: Proved: the program's WorkOk answers the same plain Lean function as the model's; it writes nothing that was there. Proved: the program's ShelfOk answers as the plain Lean function does; it writes nothing that was there. Condition: texts and lists of at most a million. -/
import Derived.Test.YtblcgbgcccjpcaaGreatPart03
import Derived.Test.YtblcgbgcccjpcaaGreatPart05
import Derived.StillTailTactics
import Derived.IntWalk
import Derived.Test.YtblcgbgcccjpcaaGreatPart04
namespace Go.Proofs.YtblcgbgcccjpcaaGreat
open Go.RowKit
set_option maxRecDepth 20000

set_option maxHeartbeats 1000000 in
theorem copyOk_any (c : M.Cp) (w : World) (hp : c.page.size ≤ maxLen) :
    Calls Tryz.prog 185 #[cpV c] w fun r w' => r = .returned (.bool (M.cpOk c)) ∧ Below w.heap.size w w' := by
  have b0 := (Below.refl w.heap.size w).alloc (Nat.le_refl _) (.cells (cpV c).cells 48)
  rcases h1 : M.edOk c.ed with _ | _
  · have HE : Hid (M.cpOk c = false) := Lib.hid (by simp [M.cpOk, h1])
    go_enter Tryz.func185, Tryz.ntmps185
    go_wp2_with fail
    refine (implEditionOk c.ed _).mono ?_
    rintro r w1 ⟨rfl, b1⟩
    go_wp2
    go_ret
    exact ⟨ret_bool HE.out.symm, next b0 b1⟩
  · have HE : Hid (M.cpOk c = M.pageOk c.page.data.toList) := Lib.hid (by simp [M.cpOk, h1])
    go_enter Tryz.func185, Tryz.ntmps185
    go_wp2_with fail
    refine (implEditionOk c.ed _).mono ?_
    rintro r w1 ⟨rfl, b1⟩
    obtain ⟨c1, f1⟩ := bcell b1
    go_wp2_with fail
    refine (implPageOk c.page _ hp).mono ?_
    rintro r w2 ⟨rfl, rfl⟩
    go_wp2
    go_ret
    exact ⟨ret_bool HE.out.symm, next b0 b1⟩

set_option maxHeartbeats 1000000 in
theorem olderCopy_any (c d : M.Cp) (w : World) :
    Calls Tryz.prog 187 #[cpV c, cpV d] w fun r w' => r = .returned (.bool (M.older c.ed d.ed)) ∧ Below w.heap.size w w' := by
  have b0 := ((Below.refl w.heap.size w).alloc (Nat.le_refl _) (.cells (cpV c).cells 48)).alloc (by simp) (.cells (cpV d).cells 48)
  go_enter Tryz.func187, Tryz.ntmps187
  go_wp2_with fail
  refine (implOlder c.ed d.ed _).mono ?_
  rintro r w1 ⟨rfl, b1⟩
  go_wp2
  go_ret
  exact ⟨rfl, next b0 b1⟩

/-- None of the first j is so. -/
def NoneTo (p : M.Cp → Bool) (l : List M.Cp) (j : Nat) : Prop := ∀ (i : Nat) (h : i < l.length), i < j → p l[i] = false
theorem NoneTo.zero (p : M.Cp → Bool) (l : List M.Cp) : NoneTo p l 0 := fun _ _ h => absurd h (by omega)
theorem NoneTo.next {p : M.Cp → Bool} {l : List M.Cp} {j : Nat} (h : NoneTo p l j) (hj : j < l.length) (hp : p l[j] = false) : NoneTo p l (j + 1) := fun i hi hij => by
  by_cases e : i = j
  · subst e; exact hp
  · exact h i hi (by omega)
theorem NoneTo.hit {p : M.Cp → Bool} {l : List M.Cp} {j : Nat} (h : NoneTo p l j) (hj : j < l.length) (hp : p l[j] = true) : l.findIdx p = j :=
  (List.findIdx_eq hj).2 ⟨hp, fun i hi => h i (by omega) hi⟩
theorem NoneTo.all {p : M.Cp → Bool} {l : List M.Cp} (h : NoneTo p l l.length) : l.findIdx p = l.length :=
  List.findIdx_eq_length.2 fun x hx => by
    obtain ⟨i, hi, rfl⟩ := List.mem_iff_getElem.1 hx
    simp [h i hi hi]

set_option maxHeartbeats 1000000 in
theorem first_all (p : M.Cp → Bool) (A : Option Addr) (l : List M.Cp) (cap : Nat) (g : Value) (w : World) (hl : Cps w A l) (hlen : l.length ≤ 1048576)
    (hcall : ∀ (c : M.Cp) (w' : World), c ∈ l → Below w.heap.size w w' → Calls Tryz.prog 207 #[cpV c, g] w' fun r w'' => r = .returned (.bool (p c)) ∧ Below w'.heap.size w' w'') :
    Calls Tryz.prog 206 #[.slice A l.length cap, .func (.func 207) #[] #[g]] w fun r w' => r = .returned (.int .i64 (l.findIdx p : Nat)) ∧ Below w.heap.size w w' := by
  have HC := Lib.hid hcall
  clear hcall
  go_enter Tryz.func206, Tryz.ntmps206
  go_wp2
  go_loopw [9] (fun i wr => ∃ j : Nat, i = .int .i64 j ∧ j ≤ l.length ∧ NoneTo p l j ∧ Below w.heap.size w wr) (fun i _ => l.length - (intOf i).toNat)
  case atStart => exact ⟨0, rfl, Nat.zero_le _, NoneTo.zero p l, Below.refl _ _⟩
  case round =>
    obtain ⟨j, rfl, hj, hnone, hbl⟩ := hrel
    by_cases hlt : j < l.length
    · obtain ⟨b, o, rfl, -, c0, c1, c2, c3, c4⟩ := Cps_at (hl.below hbl) hlt
      have HA := Lib.hid hl
      have HN := Lib.hid hnone
      have ba := hbl.alloc hbl.size (.cells (cpV l[j]).cells 48)
      clear hl hnone
      rcases hp : p l[j] with _ | _
      · have HP := Lib.hid hp
        go_wp2_with fail
        refine (HC.out l[j] _ (List.getElem_mem hlt) ba).mono ?_
        rintro r w1 ⟨rfl, b1⟩
        clear hp
        have hp := HP.out
        rw [hp]
        clear hp
        go_wp2
        go_roundw
        case rel => exact ⟨j + 1, by go_num, by omega, HN.out.next hlt HP.out, next ba b1⟩
        case measure => simp [intOf]; omega
      · have HP := Lib.hid hp
        go_wp2_with fail
        refine (HC.out l[j] _ (List.getElem_mem hlt) ba).mono ?_
        rintro r w1 ⟨rfl, b1⟩
        clear hp
        have hp := HP.out
        rw [hp]
        clear hp
        go_wp2
        go_ret
        exact ⟨ret_int (by rw [HN.out.hit hlt HP.out]), next ba b1⟩
    · have hj' : j = l.length := by omega
      subst hj'
      have HN := Lib.hid hnone
      clear hnone
      go_wp2
      go_ret
      exact ⟨ret_int (by rw [HN.out.all]), hbl⟩

set_option maxHeartbeats 1000000 in
theorem first_place (p : M.Cp → Bool) (A : Option Addr) (l : List M.Cp) (cap : Nat) (g : Value) (w : World) (hl : Cps w A l) (hlen : l.length ≤ 1048576)
    (hcall : ∀ (c : M.Cp) (w' : World), c ∈ l → Below w.heap.size w w' → Calls Tryz.prog 222 #[cpV c, g] w' fun r w'' => r = .returned (.bool (p c)) ∧ Below w'.heap.size w' w'') :
    Calls Tryz.prog 206 #[.slice A l.length cap, .func (.func 222) #[] #[g]] w fun r w' => r = .returned (.int .i64 (l.findIdx p : Nat)) ∧ Below w.heap.size w w' := by
  have HC := Lib.hid hcall
  clear hcall
  go_enter Tryz.func206, Tryz.ntmps206
  go_wp2
  go_loopw [9] (fun i wr => ∃ j : Nat, i = .int .i64 j ∧ j ≤ l.length ∧ NoneTo p l j ∧ Below w.heap.size w wr) (fun i _ => l.length - (intOf i).toNat)
  case atStart => exact ⟨0, rfl, Nat.zero_le _, NoneTo.zero p l, Below.refl _ _⟩
  case round =>
    obtain ⟨j, rfl, hj, hnone, hbl⟩ := hrel
    by_cases hlt : j < l.length
    · obtain ⟨b, o, rfl, -, c0, c1, c2, c3, c4⟩ := Cps_at (hl.below hbl) hlt
      have HA := Lib.hid hl
      have HN := Lib.hid hnone
      have ba := hbl.alloc hbl.size (.cells (cpV l[j]).cells 48)
      clear hl hnone
      rcases hp : p l[j] with _ | _
      · have HP := Lib.hid hp
        go_wp2_with fail
        refine (HC.out l[j] _ (List.getElem_mem hlt) ba).mono ?_
        rintro r w1 ⟨rfl, b1⟩
        clear hp
        have hp := HP.out
        rw [hp]
        clear hp
        go_wp2
        go_roundw
        case rel => exact ⟨j + 1, by go_num, by omega, HN.out.next hlt HP.out, next ba b1⟩
        case measure => simp [intOf]; omega
      · have HP := Lib.hid hp
        go_wp2_with fail
        refine (HC.out l[j] _ (List.getElem_mem hlt) ba).mono ?_
        rintro r w1 ⟨rfl, b1⟩
        clear hp
        have hp := HP.out
        rw [hp]
        clear hp
        go_wp2
        go_ret
        exact ⟨ret_int (by rw [HN.out.hit hlt HP.out]), next ba b1⟩
    · have hj' : j = l.length := by omega
      subst hj'
      have HN := Lib.hid hnone
      clear hnone
      go_wp2
      go_ret
      exact ⟨ret_int (by rw [HN.out.all]), hbl⟩

set_option maxHeartbeats 1000000 in
theorem all1_copyOk (c : M.Cp) (g : Nat) (w : World) (hp : c.page.size ≤ maxLen) (hg : w.cell? ⟨g, 0, none⟩ = some (.func (.func 185) #[] #[])) :
    Calls Tryz.prog 207 #[cpV c, .pointer (some ⟨g, 0, none⟩)] w fun r w' => r = .returned (.bool (!M.cpOk c)) ∧ Below w.heap.size w w' := by
  have b0 := (Below.refl w.heap.size w).alloc (Nat.le_refl _) (.cells (cpV c).cells 48)
  have hgl : g < w.heap.size := World.block_lt_of_cell? w _ hg
  go_enter Tryz.func207, Tryz.ntmps207
  go_wp2_with fail
  refine (copyOk_any c _ hp).mono ?_
  rintro r w1 ⟨rfl, b1⟩
  go_wp2
  go_ret
  exact ⟨rfl, next b0 b1⟩

theorem all_findIdx (l : List M.Cp) : ((l.findIdx (fun c => !M.cpOk c) : Int) == (l.length : Int)) = l.all M.cpOk := by
  rw [Bool.eq_iff_iff, beq_iff_eq, List.all_eq_true]
  constructor
  · intro h x hx
    have := List.findIdx_eq_length.1 (show l.findIdx (fun c => !M.cpOk c) = l.length by omega) x hx
    simpa using this
  · intro h
    have : l.findIdx (fun c => !M.cpOk c) = l.length := List.findIdx_eq_length.2 fun x hx => by simp [h x hx]
    omega

set_option maxHeartbeats 1000000 in
theorem all_copyOk (A : Option Addr) (l : List M.Cp) (cap : Nat) (w : World) (hl : Cps w A l) (hlen : l.length ≤ 1048576) (hp : ∀ c ∈ l, c.page.size ≤ maxLen) :
    Calls Tryz.prog 184 #[.slice A l.length cap, .func (.func 185) #[] #[]] w fun r w' => r = .returned (.bool (l.all M.cpOk)) ∧ Below w.heap.size w w' := by
  have b0 := (Below.refl w.heap.size w).alloc (Nat.le_refl _) (.cells #[.func (.func 185) #[] #[]] 170)
  have HB : Hid (((l.findIdx (fun c => !M.cpOk c) : Int) == (l.length : Int)) = l.all M.cpOk) := Lib.hid (all_findIdx l)
  have HP := Lib.hid hp
  have HL := Lib.hid hl
  clear hp hl
  go_enter Tryz.func184, Tryz.ntmps184
  go_wp2_with fail
  refine (first_all (fun c => !M.cpOk c) A l cap _ _ (HL.out.alloc _) hlen (fun c w' hc hb => all1_copyOk c _ w' (HP.out c hc) (box_cells hb 0))).mono ?_
  rintro r w1 ⟨rfl, b1⟩
  go_wp2
  go_ret
  exact ⟨ret_bool HB.out, next b0 b1⟩

/-- Each of the first j is older than the next. -/
def RisesTo (l : List M.Cp) (j : Nat) : Prop := ∀ (i : Nat) (h : i + 1 < l.length), i + 1 < j → M.older l[i].ed l[i + 1].ed = true
theorem RisesTo.one (l : List M.Cp) : RisesTo l 1 := fun _ _ h => absurd h (by omega)
theorem RisesTo.next {l : List M.Cp} {k : Nat} (h : RisesTo l (k + 1)) (hk : k + 1 < l.length) (ho : M.older l[k].ed l[k + 1].ed = true) : RisesTo l (k + 2) := fun i hi hij => by
  by_cases e : i = k
  · subst e; exact ho
  · exact h i hi (by omega)
theorem RisesTo.all {l : List M.Cp} {j : Nat} (h : RisesTo l j) (hj : l.length ≤ j) : M.risesB l = true := (M.risesB_iff l).2 fun i hi => h i hi (by omega)
theorem rises_not {l : List M.Cp} {k : Nat} (hk : k + 1 < l.length) (ho : M.older l[k].ed l[k + 1].ed = false) : M.risesB l = false := by
  rcases hc : M.risesB l with _ | _
  · rfl
  · have := (M.risesB_iff l).1 hc k hk; rw [ho] at this; cases this

set_option maxHeartbeats 1000000 in
theorem rises_older (A : Option Addr) (l : List M.Cp) (cap : Nat) (w : World) (hl : Cps w A l) (hlen : l.length ≤ 1048576) :
    Calls Tryz.prog 186 #[.slice A l.length cap, .func (.func 187) #[] #[]] w fun r w' => r = .returned (.bool (M.risesB l)) ∧ Below w.heap.size w w' := by
  go_enter Tryz.func186, Tryz.ntmps186
  go_wp2
  go_loopw [5] (fun i wr => ∃ j : Nat, i = .int .i64 j ∧ 1 ≤ j ∧ j ≤ l.length + 1 ∧ RisesTo l j ∧ Below w.heap.size w wr) (fun i _ => l.length + 1 - (intOf i).toNat)
  case atStart => exact ⟨1, rfl, by omega, by omega, RisesTo.one l, Below.refl _ _⟩
  case round =>
    obtain ⟨j, rfl, hj1, hj, hr, hbl⟩ := hrel
    by_cases hlt : j < l.length
    · obtain ⟨k, hk⟩ : ∃ k, j = k + 1 := ⟨j - 1, by omega⟩
      have hkl : k < l.length := by omega
      obtain ⟨b, o, rfl, -, c0, c1, c2, c3, c4⟩ := Cps_at (hl.below hbl) hlt
      obtain ⟨b', o', hbo, -, d0, d1, d2, d3, d4⟩ := Cps_at (hl.below hbl) hkl
      obtain ⟨rfl, rfl⟩ : b = b' ∧ o = o' := by simpa using hbo
      have e1 : IntKind.i64.wrap ((j : Int) - 1) = (j : Int) - 1 := IntWalk.i64_in _ (by omega)
      have e2 : ((j : Int) - 1).toNat = k := by omega
      have e3 : (1 : Int) ≤ (j : Int) := by omega
      have e5 : ¬ ((l.length : Int) ≤ (j : Int) - 1) := by omega
      rcases ho : M.older l[k].ed l[j].ed with _ | _
      · have HE : Hid (M.risesB l = false) := Lib.hid (by subst hk; exact rises_not hlt ho)
        have HA := Lib.hid hl
        have HK := Lib.hid hk
        have HO := Lib.hid ho
        clear hl hbo hk hr ho
        go_wp2_with fail
        go_still_tail 10, (by kernel_rfl)
        change wpList _ _ _ _ _ wr.drew
        go_wp2_with fail
        refine (olderCopy_any l[k] l[j] _).mono ?_
        rintro r w1 ⟨rfl, b1⟩
        rw [HO.out]
        go_wp2
        go_ret
        exact ⟨ret_bool HE.out.symm, next hbl.drew b1⟩
      · have HN : Hid (RisesTo l (j + 1)) := Lib.hid (by subst hk; exact hr.next hlt ho)
        have HA := Lib.hid hl
        have HK := Lib.hid hk
        have HO := Lib.hid ho
        clear hl hbo hk hr ho
        go_wp2_with fail
        go_still_tail 10, (by kernel_rfl)
        change wpList _ _ _ _ _ wr.drew
        go_wp2_with fail
        refine (olderCopy_any l[k] l[j] _).mono ?_
        rintro r w1 ⟨rfl, b1⟩
        rw [HO.out]
        clear e1 e2 e3 e5
        go_wp2
        go_roundw
        case rel => exact ⟨j + 1, by go_num, by omega, by omega, HN.out, next hbl.drew b1⟩
        case measure => simp [intOf]; omega
    · have HE : Hid (M.risesB l = true) := Lib.hid (hr.all (by omega))
      clear hr
      go_wp2
      go_ret
      exact ⟨ret_bool HE.out.symm, hbl⟩

set_option maxHeartbeats 1000000 in
theorem copiesOk_any (A : Option Addr) (l : List M.Cp) (cap : Nat) (w : World) (hl : Cps w A l) (hlen : l.length ≤ 1048576) (hp : ∀ c ∈ l, c.page.size ≤ maxLen) :
    Calls Tryz.prog 156 #[.slice A l.length cap] w fun r w' => r = .returned (.bool (decide (l.length ≤ 8) && M.cpsOk l)) ∧ Below w.heap.size w w' := by
  have HP := Lib.hid hp
  clear hp
  by_cases h8 : l.length ≤ 8
  · rcases ha : l.all M.cpOk with _ | _
    · have HE : Hid ((decide (l.length ≤ 8) && M.cpsOk l) = false) := Lib.hid (by simp only [M.cpsOk, ha]; simp)
      have HA := Lib.hid ha
      clear ha
      go_enter Tryz.func156, Tryz.ntmps156
      go_wp2_with fail
      refine (all_copyOk A l cap _ hl hlen HP.out).mono ?_
      rintro r w1 ⟨rfl, b1⟩
      rw [HA.out]
      go_wp2
      go_ret
      exact ⟨ret_bool HE.out.symm, b1⟩
    · have HE : Hid ((decide (l.length ≤ 8) && M.cpsOk l) = M.risesB l) := Lib.hid (by simp only [M.cpsOk, ha]; simp [h8])
      have HA := Lib.hid ha
      clear ha
      go_enter Tryz.func156, Tryz.ntmps156
      go_wp2_with fail
      refine (all_copyOk A l cap _ hl hlen HP.out).mono ?_
      rintro r w1 ⟨rfl, b1⟩
      rw [HA.out]
      go_wp2_with fail
      refine (rises_older A l cap _ (hl.below b1) hlen).mono ?_
      rintro r w2 ⟨rfl, b2⟩
      go_wp2
      go_ret
      exact ⟨ret_bool HE.out.symm, next b1 b2⟩
  · go_enter Tryz.func156, Tryz.ntmps156
    go_wp2
    go_ret
    exact ⟨ret_bool (by simp), Below.refl _ _⟩

set_option maxHeartbeats 1000000 in
theorem implWorkOk (name : ByteArray) (owner : Int) (A : Option Addr) (l : List M.Cp) (cap : Nat) (w : World) (hl : Cps w A l) (hn : name.size ≤ maxLen) (hlen : l.length ≤ 1048576) (hp : ∀ c ∈ l, c.page.size ≤ maxLen) :
    Calls Tryz.prog 113 #[wkV name owner A l.length cap] w fun r w' => r = .returned (.bool (M.wkOk ⟨name, owner, l⟩)) ∧ Below w.heap.size w w' := by
  have b0 := (Below.refl w.heap.size w).alloc (Nat.le_refl _) (.cells (wkL name owner A l.length cap) 44)
  have HP := Lib.hid hp
  have HL := Lib.hid hl
  clear hp hl
  rcases h1 : M.nameOk name.data.toList with _ | _
  · have HE : Hid (M.wkOk ⟨name, owner, l⟩ = false) := Lib.hid (by simp [M.wkOk, h1])
    go_enter Tryz.func113, Tryz.ntmps113
    go_wp2_with fail
    refine (implNameOk name _ hn).mono ?_
    rintro r w1 ⟨rfl, rfl⟩
    go_wp2
    go_ret
    exact ⟨ret_bool HE.out.symm, b0⟩
  · rcases h2 : M.inI owner 0 3 with _ | _
    · have HE : Hid (M.wkOk ⟨name, owner, l⟩ = false) := Lib.hid (by simp [M.wkOk, h2])
      go_enter Tryz.func113, Tryz.ntmps113
      go_wp2_with fail
      refine (implNameOk name _ hn).mono ?_
      rintro r w1 ⟨rfl, rfl⟩
      go_wp2_with fail
      refine (whoOk_any owner _).mono ?_
      rintro r w1 ⟨rfl, rfl⟩
      go_wp2
      go_ret
      exact ⟨ret_bool HE.out.symm, b0⟩
    · have HE : Hid (M.wkOk ⟨name, owner, l⟩ = (decide (l.length ≤ 8) && M.cpsOk l)) := Lib.hid (by simp [M.wkOk, h1, h2])
      go_enter Tryz.func113, Tryz.ntmps113
      go_wp2_with fail
      refine (implNameOk name _ hn).mono ?_
      rintro r w1 ⟨rfl, rfl⟩
      go_wp2_with fail
      refine (whoOk_any owner _).mono ?_
      rintro r w1 ⟨rfl, rfl⟩
      go_wp2_with fail
      refine (copiesOk_any A l cap _ (HL.out.alloc _) hlen HP.out).mono ?_
      rintro r w1 ⟨rfl, b1⟩
      go_wp2
      go_ret
      exact ⟨ret_bool HE.out.symm, next b0 b1⟩
end Go.Proofs.YtblcgbgcccjpcaaGreat
namespace Go.Proofs.YtblcgbgcccjpcaaGreat
open Go.RowKit
set_option maxRecDepth 20000

abbrev wrV (r : Wr) : Value := wkV r.name r.owner r.ad r.cps.length r.cap
def WNoneTo (p : Wr → Bool) (l : List Wr) (j : Nat) : Prop := ∀ (i : Nat) (h : i < l.length), i < j → p l[i] = false
theorem WNoneTo.zero (p : Wr → Bool) (l : List Wr) : WNoneTo p l 0 := fun _ _ h => absurd h (by omega)
theorem WNoneTo.next {p : Wr → Bool} {l : List Wr} {j : Nat} (h : WNoneTo p l j) (hj : j < l.length) (hp : p l[j] = false) : WNoneTo p l (j + 1) := fun i hi hij => by
  by_cases e : i = j
  · subst e; exact hp
  · exact h i hi (by omega)
theorem WNoneTo.hit {p : Wr → Bool} {l : List Wr} {j : Nat} (h : WNoneTo p l j) (hj : j < l.length) (hp : p l[j] = true) : l.findIdx p = j :=
  (List.findIdx_eq hj).2 ⟨hp, fun i hi => h i (by omega) hi⟩
theorem WNoneTo.all {p : Wr → Bool} {l : List Wr} (h : WNoneTo p l l.length) : l.findIdx p = l.length :=
  List.findIdx_eq_length.2 fun x hx => by
    obtain ⟨i, hi, rfl⟩ := List.mem_iff_getElem.1 hx
    simp [h i hi hi]

set_option maxHeartbeats 1000000 in
theorem wfirst_all (p : Wr → Bool) (A : Option Addr) (l : List Wr) (cap : Nat) (g : Value) (w : World) (hl : Wks w A l) (hlen : l.length ≤ 1048576)
    (hcall : ∀ (c : Wr) (w' : World), c ∈ l → Cps w' c.ad c.cps → Below w.heap.size w w' → Calls Tryz.prog 153 #[wrV c, g] w' fun r w'' => r = .returned (.bool (p c)) ∧ Below w'.heap.size w' w'') :
    Calls Tryz.prog 152 #[.slice A l.length cap, .func (.func 153) #[] #[g]] w fun r w' => r = .returned (.int .i64 (l.findIdx p : Nat)) ∧ Below w.heap.size w w' := by
  have HC := Lib.hid hcall
  clear hcall
  go_enter Tryz.func152, Tryz.ntmps152
  go_wp2
  go_loopw [9] (fun i wr => ∃ j : Nat, i = .int .i64 j ∧ j ≤ l.length ∧ WNoneTo p l j ∧ Below w.heap.size w wr) (fun i _ => l.length - (intOf i).toNat)
  case atStart => exact ⟨0, rfl, Nat.zero_le _, WNoneTo.zero p l, Below.refl _ _⟩
  case round =>
    obtain ⟨j, rfl, hj, hnone, hbl⟩ := hrel
    by_cases hlt : j < l.length
    · obtain ⟨b, o, rfl, -, c0, c1, c2, hc⟩ := Wks_at (hl.below hbl) hlt
      have HA := Lib.hid hl
      have HN := Lib.hid hnone
      have HCC := Lib.hid hc
      have ba := hbl.alloc hbl.size (.cells (wkL l[j].name l[j].owner l[j].ad l[j].cps.length l[j].cap) 44)
      clear hl hnone hc
      rcases hp : p l[j] with _ | _
      · have HP := Lib.hid hp
        go_wp2_with fail
        refine (HC.out l[j] _ (List.getElem_mem hlt) (HCC.out.alloc _) ba).mono ?_
        rintro r w1 ⟨rfl, b1⟩
        clear hp
        have hp := HP.out
        rw [hp]
        clear hp
        go_wp2
        go_roundw
        case rel => exact ⟨j + 1, by go_num, by omega, HN.out.next hlt HP.out, next ba b1⟩
        case measure => simp [intOf]; omega
      · have HP := Lib.hid hp
        go_wp2_with fail
        refine (HC.out l[j] _ (List.getElem_mem hlt) (HCC.out.alloc _) ba).mono ?_
        rintro r w1 ⟨rfl, b1⟩
        clear hp
        have hp := HP.out
        rw [hp]
        clear hp
        go_wp2
        go_ret
        exact ⟨ret_int (by rw [HN.out.hit hlt HP.out]), next ba b1⟩
    · have hj' : j = l.length := by omega
      subst hj'
      have HN := Lib.hid hnone
      clear hnone
      go_wp2
      go_ret
      exact ⟨ret_int (by rw [HN.out.all]), hbl⟩

set_option maxHeartbeats 1000000 in
theorem all1_workOk (c : Wr) (g : Nat) (w : World) (hl : Cps w c.ad c.cps) (hn : c.name.size ≤ 1048576) (hlen : c.cps.length ≤ 1048576) (hp : ∀ x ∈ c.cps, x.page.size ≤ 1048576) (hg : w.cell? ⟨g, 0, none⟩ = some (.func (.func 113) #[] #[])) :
    Calls Tryz.prog 153 #[wrV c, .pointer (some ⟨g, 0, none⟩)] w fun r w' => r = .returned (.bool (!M.wkOk c.wk)) ∧ Below w.heap.size w w' := by
  have b0 := (Below.refl w.heap.size w).alloc (Nat.le_refl _) (.cells (wkL c.name c.owner c.ad c.cps.length c.cap) 44)
  have hgl : g < w.heap.size := World.block_lt_of_cell? w _ hg
  have HP := Lib.hid hp
  have HL := Lib.hid hl
  clear hp hl
  go_enter Tryz.func153, Tryz.ntmps153
  go_wp2_with fail
  refine (implWorkOk c.name c.owner c.ad c.cps c.cap _ (HL.out.alloc _) (by unfold maxLen; omega) hlen (fun x hx => Nat.le_trans (HP.out x hx) (by unfold maxLen; omega))).mono ?_
  rintro r w1 ⟨rfl, b1⟩
  go_wp2
  go_ret
  exact ⟨rfl, next b0 b1⟩

theorem all_findIdxW (l : List Wr) : ((l.findIdx (fun c => !M.wkOk c.wk) : Int) == (l.length : Int)) = (l.map Wr.wk).all M.wkOk := by
  rw [Bool.eq_iff_iff, beq_iff_eq, List.all_eq_true]
  constructor
  · intro h x hx
    obtain ⟨y, hy, rfl⟩ := List.mem_map.1 hx
    have := List.findIdx_eq_length.1 (show l.findIdx (fun c => !M.wkOk c.wk) = l.length by omega) y hy
    simpa using this
  · intro h
    have : l.findIdx (fun c => !M.wkOk c.wk) = l.length := List.findIdx_eq_length.2 fun x hx => by simp [h x.wk (List.mem_map_of_mem hx)]
    omega

set_option maxHeartbeats 1000000 in
theorem all_workOk (A : Option Addr) (l : List Wr) (cap : Nat) (w : World) (hl : Wks w A l) (hlen : l.length ≤ 1048576) (hp : WrsIn 1048576 l) :
    Calls Tryz.prog 112 #[.slice A l.length cap, .func (.func 113) #[] #[]] w fun r w' => r = .returned (.bool ((l.map Wr.wk).all M.wkOk)) ∧ Below w.heap.size w w' := by
  have b0 := (Below.refl w.heap.size w).alloc (Nat.le_refl _) (.cells #[.func (.func 113) #[] #[]] 123)
  have HB : Hid (((l.findIdx (fun c => !M.wkOk c.wk) : Int) == (l.length : Int)) = (l.map Wr.wk).all M.wkOk) := Lib.hid (all_findIdxW l)
  have HP := Lib.hid hp
  have HL := Lib.hid hl
  clear hp hl
  go_enter Tryz.func112, Tryz.ntmps112
  go_wp2_with fail
  refine (wfirst_all (fun c => !M.wkOk c.wk) A l cap _ _ (HL.out.alloc _) hlen (fun c w' hc hw hb => all1_workOk c _ w' hw (HP.out c hc).1 (HP.out c hc).2.1 (HP.out c hc).2.2 (box_cells hb 0))).mono ?_
  rintro r w1 ⟨rfl, b1⟩
  go_wp2
  go_ret
  exact ⟨ret_bool HB.out, next b0 b1⟩

set_option maxHeartbeats 1000000 in
theorem nameAhead_any (c d : Wr) (w : World) :
    Calls Tryz.prog 115 #[wrV c, wrV d] w fun r w' => r = .returned (.bool (M.nameLt c.name d.name)) ∧ Below w.heap.size w w' := by
  have b0 := ((Below.refl w.heap.size w).alloc (Nat.le_refl _) (.cells (wkL c.name c.owner c.ad c.cps.length c.cap) 44)).alloc (by simp) (.cells (wkL d.name d.owner d.ad d.cps.length d.cap) 44)
  go_enter Tryz.func115, Tryz.ntmps115
  go_wp2
  go_ret
  exact ⟨rfl, b0⟩

/-- Each of the first j is ahead of the next. -/
def WRisesTo (l : List Wr) (j : Nat) : Prop := ∀ (i : Nat) (h : i + 1 < l.length), i + 1 < j → M.nameLt l[i].name l[i + 1].name = true
theorem WRisesTo.one (l : List Wr) : WRisesTo l 1 := fun _ _ h => absurd h (by omega)
theorem WRisesTo.next {l : List Wr} {k : Nat} (h : WRisesTo l (k + 1)) (hk : k + 1 < l.length) (ho : M.nameLt l[k].name l[k + 1].name = true) : WRisesTo l (k + 2) := fun i hi hij => by
  by_cases e : i = k
  · subst e; exact ho
  · exact h i hi (by omega)
theorem WRisesTo.all {l : List Wr} {j : Nat} (h : WRisesTo l j) (hj : l.length ≤ j) : M.risesN (l.map Wr.wk) = true := (M.risesN_iff _).2 fun i hi => by
  have hi' : i + 1 < l.length := by simpa using hi
  simpa [Wr.wk] using h i hi' (by omega)
theorem wrises_not {l : List Wr} {k : Nat} (hk : k + 1 < l.length) (ho : M.nameLt l[k].name l[k + 1].name = false) : M.risesN (l.map Wr.wk) = false := by
  rcases hc : M.risesN (l.map Wr.wk) with _ | _
  · rfl
  · have := (M.risesN_iff _).1 hc k (by simpa using hk)
    simp [Wr.wk] at this
    rw [ho] at this; cases this

set_option maxHeartbeats 1000000 in
theorem rises_name (A : Option Addr) (l : List Wr) (cap : Nat) (w : World) (hl : Wks w A l) (hlen : l.length ≤ 1048576) :
    Calls Tryz.prog 114 #[.slice A l.length cap, .func (.func 115) #[] #[]] w fun r w' => r = .returned (.bool (M.risesN (l.map Wr.wk))) ∧ Below w.heap.size w w' := by
  go_enter Tryz.func114, Tryz.ntmps114
  go_wp2
  go_loopw [5] (fun i wr => ∃ j : Nat, i = .int .i64 j ∧ 1 ≤ j ∧ j ≤ l.length + 1 ∧ WRisesTo l j ∧ Below w.heap.size w wr) (fun i _ => l.length + 1 - (intOf i).toNat)
  case atStart => exact ⟨1, rfl, by omega, by omega, WRisesTo.one l, Below.refl _ _⟩
  case round =>
    obtain ⟨j, rfl, hj1, hj, hr, hbl⟩ := hrel
    by_cases hlt : j < l.length
    · obtain ⟨k, hk⟩ : ∃ k, j = k + 1 := ⟨j - 1, by omega⟩
      have hkl : k < l.length := by omega
      obtain ⟨b, o, rfl, -, c0, c1, c2, -⟩ := Wks_at (hl.below hbl) hlt
      obtain ⟨b', o', hbo, -, d0, d1, d2, -⟩ := Wks_at (hl.below hbl) hkl
      obtain ⟨rfl, rfl⟩ : b = b' ∧ o = o' := by simpa using hbo
      have e1 : IntKind.i64.wrap ((j : Int) - 1) = (j : Int) - 1 := IntWalk.i64_in _ (by omega)
      have e2 : ((j : Int) - 1).toNat = k := by omega
      have e3 : (1 : Int) ≤ (j : Int) := by omega
      have e5 : ¬ ((l.length : Int) ≤ (j : Int) - 1) := by omega
      rcases ho : M.nameLt l[k].name l[j].name with _ | _
      · have HE : Hid (M.risesN (l.map Wr.wk) = false) := Lib.hid (by subst hk; exact wrises_not hlt ho)
        have HA := Lib.hid hl
        have HK := Lib.hid hk
        have HO := Lib.hid ho
        clear hl hbo hk hr ho
        go_wp2_with fail
        go_still_tail 10, (by kernel_rfl)
        change wpList _ _ _ _ _ wr.drew
        go_wp2_with fail
        refine (nameAhead_any l[k] l[j] _).mono ?_
        rintro r w1 ⟨rfl, b1⟩
        rw [HO.out]
        go_wp2
        go_ret
        exact ⟨ret_bool HE.out.symm, next hbl.drew b1⟩
      · have HN : Hid (WRisesTo l (j + 1)) := Lib.hid (by subst hk; exact hr.next hlt ho)
        have HA := Lib.hid hl
        have HK := Lib.hid hk
        have HO := Lib.hid ho
        clear hl hbo hk hr ho
        go_wp2_with fail
        go_still_tail 10, (by kernel_rfl)
        change wpList _ _ _ _ _ wr.drew
        go_wp2_with fail
        refine (nameAhead_any l[k] l[j] _).mono ?_
        rintro r w1 ⟨rfl, b1⟩
        rw [HO.out]
        clear e1 e2 e3 e5
        go_wp2
        go_roundw
        case rel => exact ⟨j + 1, by go_num, by omega, by omega, HN.out, next hbl.drew b1⟩
        case measure => simp [intOf]; omega
    · have HE : Hid (M.risesN (l.map Wr.wk) = true) := Lib.hid (hr.all (by omega))
      clear hr
      go_wp2
      go_ret
      exact ⟨ret_bool HE.out.symm, hbl⟩

set_option maxHeartbeats 1000000 in
theorem implShelfOk (A : Option Addr) (l : List Wr) (cap : Nat) (w : World) (hl : Wks w A l) (hlen : l.length ≤ 1048576) (hp : WrsIn 1048576 l) :
    Calls Tryz.prog 61 #[.slice A l.length cap] w fun r w' => r = .returned (.bool (M.sfOk (l.map Wr.wk))) ∧ Below w.heap.size w w' := by
  have HP := Lib.hid hp
  clear hp
  by_cases h5 : l.length ≤ 5
  · rcases ha : (l.map Wr.wk).all M.wkOk with _ | _
    · have HE : Hid (M.sfOk (l.map Wr.wk) = false) := Lib.hid (by simp only [M.sfOk, ha]; simp)
      have HA := Lib.hid ha
      clear ha
      go_enter Tryz.func61, Tryz.ntmps61
      go_wp2_with fail
      refine (all_workOk A l cap _ hl hlen HP.out).mono ?_
      rintro r w1 ⟨rfl, b1⟩
      rw [HA.out]
      go_wp2
      go_ret
      exact ⟨ret_bool HE.out.symm, b1⟩
    · have HE : Hid (M.sfOk (l.map Wr.wk) = M.risesN (l.map Wr.wk)) := Lib.hid (by simp only [M.sfOk, ha]; simp [h5])
      have HA := Lib.hid ha
      clear ha
      go_enter Tryz.func61, Tryz.ntmps61
      go_wp2_with fail
      refine (all_workOk A l cap _ hl hlen HP.out).mono ?_
      rintro r w1 ⟨rfl, b1⟩
      rw [HA.out]
      go_wp2_with fail
      refine (rises_name A l cap _ (hl.below b1) hlen).mono ?_
      rintro r w2 ⟨rfl, b2⟩
      go_wp2
      go_ret
      exact ⟨ret_bool HE.out.symm, next b1 b2⟩
  · have HE : Hid (M.sfOk (l.map Wr.wk) = false) := Lib.hid (by simp [M.sfOk, h5])
    go_enter Tryz.func61, Tryz.ntmps61
    go_wp2
    go_ret
    exact ⟨ret_bool HE.out.symm, Below.refl _ _⟩
end Go.Proofs.YtblcgbgcccjpcaaGreat
