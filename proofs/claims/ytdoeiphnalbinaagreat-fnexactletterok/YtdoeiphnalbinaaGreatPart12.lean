/- Proved, in parts: Proved: the model's and the program's tests of an order answer a plain Lean function; the laws' helpers that count and copy an order; nothing that was there is written. Condition: texts of at most what memory has. Proved: the program's WorkOk answers the same plain Lean function as the model's; it writes nothing that was there. -/
import Derived.Test.YtdoeiphnalbinaaGreatPart08
import Derived.Test.YtdoeiphnalbinaaGreatPart11
import Derived.Test.YtdoeiphnalbinaaGreatPart05
import Derived.Test.YtdoeiphnalbinaaGreatPart07
import Derived.StillTailTactics
import Derived.IntWalk
namespace Go.Proofs.YtdoeiphnalbinaaGreat
open Go.RowKit
set_option maxRecDepth 20000
theorem l6Client_any (n : Int) (w : World) : Calls Tryz.prog 59 #[.int .i64 n] w fun e w' => e = .returned (.bool (M.inI n 0 3)) ∧ w = w' := by
  go_enter Tryz.func59, Tryz.ntmps59
  go_wp2_with fail
  refine (in_i _ _ _ _).mono ?_
  rintro e w' ⟨rfl, rfl⟩
  go_wp2
  go_ret
  exact ⟨rfl, rfl⟩
theorem clientOk_any (n : Int) (w : World) : Calls Tryz.prog 74 #[.int .i64 n] w fun e w' => e = .returned (.bool (M.inI n 0 3)) ∧ w = w' := by
  by_cases h1 : 0 ≤ n
  · go_enter Tryz.func74, Tryz.ntmps74
    go_wp2
    go_ret
    exact ⟨by simp [M.inI, h1], rfl⟩
  · go_enter Tryz.func74, Tryz.ntmps74
    go_wp2
    go_ret
    exact ⟨by simp [M.inI]; omega, rfl⟩
theorem seqOk_any (n : Int) (w : World) : Calls Tryz.prog 75 #[.int .i64 n] w fun e w' => e = .returned (.bool (M.inI n 1 1000)) ∧ w = w' := by
  by_cases h1 : 1 ≤ n
  · go_enter Tryz.func75, Tryz.ntmps75
    go_wp2
    go_ret
    exact ⟨by simp [M.inI, h1], rfl⟩
  · go_enter Tryz.func75, Tryz.ntmps75
    go_wp2
    go_ret
    exact ⟨by simp [M.inI]; omega, rfl⟩

set_option maxHeartbeats 2000000 in
theorem specOrderOk (o : M.Or) (w : World) (hn : o.deed.name.size ≤ maxLen) (hp : o.deed.page.size ≤ maxLen) :
    Calls Tryz.prog 84 #[orV o] w fun r w' => r = .returned (.bool (M.orderOk o)) ∧ Below w.heap.size w w' := by
  have b0 := (Below.refl w.heap.size w).alloc (Nat.le_refl _) (.cells (orC o) 51)
  rcases h1 : M.inI o.client 0 3 with _ | _
  · have HE : Hid (M.orderOk o = false) := Lib.hid (by simp [M.orderOk, h1])
    go_enter Tryz.func84, Tryz.ntmps84
    go_wp2_with fail
    have hc := l6Client_any o.client (w.alloc (.cells (orC o) 51))
    rw [h1] at hc
    refine hc.mono ?_
    rintro e w' ⟨rfl, rfl⟩
    clear hc h1
    go_wp2
    go_ret
    exact ⟨by rw [HE.out]; rfl, b0⟩
  · rcases h2 : M.inI o.seq 1 1000 with _ | _
    · have HE : Hid (M.orderOk o = false) := Lib.hid (by simp [M.orderOk, h2])
      go_enter Tryz.func84, Tryz.ntmps84
      go_wp2_with fail
      have hc := l6Client_any o.client (w.alloc (.cells (orC o) 51))
      rw [h1] at hc
      refine hc.mono ?_
      rintro e w' ⟨rfl, rfl⟩
      clear hc h1
      go_wp2_with fail
      have hc := in_i o.seq 1 1000 (w.alloc (.cells (orC o) 51))
      rw [h2] at hc
      refine hc.mono ?_
      rintro e w' ⟨rfl, rfl⟩
      clear hc h2
      go_wp2
      go_ret
      exact ⟨by rw [HE.out]; rfl, b0⟩
    · have HE : Hid (M.orderOk o = M.deedOk o.deed) := Lib.hid (by simp [M.orderOk, h1, h2])
      go_enter Tryz.func84, Tryz.ntmps84
      go_wp2_with fail
      have hc := l6Client_any o.client (w.alloc (.cells (orC o) 51))
      rw [h1] at hc
      refine hc.mono ?_
      rintro e w' ⟨rfl, rfl⟩
      clear hc h1
      go_wp2_with fail
      have hc := in_i o.seq 1 1000 (w.alloc (.cells (orC o) 51))
      rw [h2] at hc
      refine hc.mono ?_
      rintro e w' ⟨rfl, rfl⟩
      clear hc h2
      go_wp2_with fail
      refine (specDeedOk o.deed _ hn hp).mono ?_
      rintro e w1 ⟨rfl, b1⟩
      go_wp2
      go_ret
      exact ⟨by rw [HE.out]; rfl, next b0 b1⟩

set_option maxHeartbeats 2000000 in
theorem implOrderOk (o : M.Or) (w : World) (hn : o.deed.name.size ≤ maxLen) (hp : o.deed.page.size ≤ maxLen) :
    Calls Tryz.prog 67 #[orV o] w fun r w' => r = .returned (.bool (M.orderOk o)) ∧ Below w.heap.size w w' := by
  have b0 := (Below.refl w.heap.size w).alloc (Nat.le_refl _) (.cells (orC o) 51)
  rcases h1 : M.inI o.client 0 3 with _ | _
  · have HE : Hid (M.orderOk o = false) := Lib.hid (by simp [M.orderOk, h1])
    go_enter Tryz.func67, Tryz.ntmps67
    go_wp2_with fail
    have hc := clientOk_any o.client (w.alloc (.cells (orC o) 51))
    rw [h1] at hc
    refine hc.mono ?_
    rintro e w' ⟨rfl, rfl⟩
    clear hc h1
    go_wp2
    go_ret
    exact ⟨by rw [HE.out]; rfl, b0⟩
  · rcases h2 : M.inI o.seq 1 1000 with _ | _
    · have HE : Hid (M.orderOk o = false) := Lib.hid (by simp [M.orderOk, h2])
      go_enter Tryz.func67, Tryz.ntmps67
      go_wp2_with fail
      have hc := clientOk_any o.client (w.alloc (.cells (orC o) 51))
      rw [h1] at hc
      refine hc.mono ?_
      rintro e w' ⟨rfl, rfl⟩
      clear hc h1
      go_wp2_with fail
      have hc := seqOk_any o.seq (w.alloc (.cells (orC o) 51))
      rw [h2] at hc
      refine hc.mono ?_
      rintro e w' ⟨rfl, rfl⟩
      clear hc h2
      go_wp2
      go_ret
      exact ⟨by rw [HE.out]; rfl, b0⟩
    · have HE : Hid (M.orderOk o = M.deedOk o.deed) := Lib.hid (by simp [M.orderOk, h1, h2])
      go_enter Tryz.func67, Tryz.ntmps67
      go_wp2_with fail
      have hc := clientOk_any o.client (w.alloc (.cells (orC o) 51))
      rw [h1] at hc
      refine hc.mono ?_
      rintro e w' ⟨rfl, rfl⟩
      clear hc h1
      go_wp2_with fail
      have hc := seqOk_any o.seq (w.alloc (.cells (orC o) 51))
      rw [h2] at hc
      refine hc.mono ?_
      rintro e w' ⟨rfl, rfl⟩
      clear hc h2
      go_wp2_with fail
      refine (implDeedOk o.deed _ hn hp).mono ?_
      rintro e w1 ⟨rfl, b1⟩
      go_wp2
      go_ret
      exact ⟨by rw [HE.out]; rfl, next b0 b1⟩

set_option maxHeartbeats 2000000 in
theorem szOrder_big (o : M.Or) (n : Int) (w : World) (h0 : 0 ≤ n) (hn : n ≤ 1048576) (hnm : o.deed.name.size ≤ maxLen) (hp : o.deed.page.size ≤ maxLen) (h : n < (o.deed.name.size + o.deed.page.size : Int)) :
    Calls Tryz.prog 55 #[orV o, .int .i64 n] w fun r w' => r = .returned (.int .i64 (-1)) ∧ Below w.heap.size w w' := by
  have b0 := (Below.refl w.heap.size w).alloc (Nat.le_refl _) (.cells (orC o) 65)
  go_enter Tryz.func55, Tryz.ntmps55
  go_wp2_with fail
  refine (szDeed_bigN o.deed n _ h0 hn hnm hp h).mono ?_
  rintro r w1 ⟨rfl, b1⟩
  go_wp2
  go_ret
  exact ⟨rfl, next b0 b1⟩

abbrev edC (e : M.Ed) : Array Value := #[.int .i64 e.ma, .int .i64 e.mi, .int .i64 e.pa]
/-- Where toDeed leaves the world. -/
abbrev ddMade (d : M.Dd) (w : World) : World := (((((w.alloc (.cells (ddC d) 63)).alloc (.cells (ddC d) 49)).alloc (.cells (ddC d) 49)).alloc (.cells (edC d.ed) 61)).alloc (.cells (edC d.ed) 47)).alloc (.cells (edC d.ed) 47)
set_option maxHeartbeats 1000000 in
theorem toDeed_at (d : M.Dd) (w : World) :
    Calls Tryz.prog 86 #[ddV d] w fun r w' => r = .returned (ddV d) ∧ w' = ddMade d w := by
  go_enter Tryz.func86, Tryz.ntmps86
  go_wp2_with fail
  refine (toEdition_at d.ed _).mono ?_
  rintro r w1 ⟨rfl, rfl⟩
  go_wp2
  exact bodyPost_ret (v := ddV d) (by simp [results, Tryz.results86, go_sem]) rfl ⟨rfl, rfl⟩
end Go.Proofs.YtdoeiphnalbinaaGreat
namespace Go.Proofs.YtdoeiphnalbinaaGreat
open Go.RowKit
set_option maxRecDepth 20000

set_option maxHeartbeats 1000000 in
theorem copyOk_any (c : M.Cp) (w : World) (hp : c.page.size ≤ maxLen) :
    Calls Tryz.prog 112 #[cpV c] w fun r w' => r = .returned (.bool (M.cpOk c)) ∧ Below w.heap.size w w' := by
  have b0 := (Below.refl w.heap.size w).alloc (Nat.le_refl _) (.cells (cpV c).cells 142)
  rcases h1 : M.edOk c.ed with _ | _
  · have HE : Hid (M.cpOk c = false) := Lib.hid (by simp [M.cpOk, h1])
    go_enter Tryz.func112, Tryz.ntmps112
    go_wp2_with fail
    refine (implEditionOk c.ed _).mono ?_
    rintro r w1 ⟨rfl, b1⟩
    go_wp2
    go_ret
    exact ⟨ret_bool HE.out.symm, next b0 b1⟩
  · have HE : Hid (M.cpOk c = M.pageOk c.page.data.toList) := Lib.hid (by simp [M.cpOk, h1])
    go_enter Tryz.func112, Tryz.ntmps112
    go_wp2_with fail
    refine (implEditionOk c.ed _).mono ?_
    rintro r w1 ⟨rfl, b1⟩
    obtain ⟨c1, f1⟩ := bcell b1
    go_wp2_with fail
    refine (implPageOk c.page _ hp).mono ?_
    rintro r w2 ⟨rfl, rfl⟩
    go_wp2
    go_ret
    exact ⟨ret_bool HE.out.symm, next b0 b1⟩

set_option maxHeartbeats 1000000 in
theorem olderCopy_any (c d : M.Cp) (w : World) :
    Calls Tryz.prog 114 #[cpV c, cpV d] w fun r w' => r = .returned (.bool (M.older c.ed d.ed)) ∧ Below w.heap.size w w' := by
  have b0 := ((Below.refl w.heap.size w).alloc (Nat.le_refl _) (.cells (cpV c).cells 142)).alloc (by simp) (.cells (cpV d).cells 142)
  go_enter Tryz.func114, Tryz.ntmps114
  go_wp2_with fail
  refine (implOlder c.ed d.ed _).mono ?_
  rintro r w1 ⟨rfl, b1⟩
  go_wp2
  go_ret
  exact ⟨rfl, next b0 b1⟩

/-- None of the first j is so. -/
def NoneTo (p : M.Cp → Bool) (l : List M.Cp) (j : Nat) : Prop := ∀ (i : Nat) (h : i < l.length), i < j → p l[i] = false
theorem NoneTo.zero (p : M.Cp → Bool) (l : List M.Cp) : NoneTo p l 0 := fun _ _ h => absurd h (by omega)
theorem NoneTo.next {p : M.Cp → Bool} {l : List M.Cp} {j : Nat} (h : NoneTo p l j) (hj : j < l.length) (hp : p l[j] = false) : NoneTo p l (j + 1) := fun i hi hij => by
  by_cases e : i = j
  · subst e; exact hp
  · exact h i hi (by omega)
theorem NoneTo.hit {p : M.Cp → Bool} {l : List M.Cp} {j : Nat} (h : NoneTo p l j) (hj : j < l.length) (hp : p l[j] = true) : l.findIdx p = j :=
  (List.findIdx_eq hj).2 ⟨hp, fun i hi => h i (by omega) hi⟩
theorem NoneTo.all {p : M.Cp → Bool} {l : List M.Cp} (h : NoneTo p l l.length) : l.findIdx p = l.length :=
  List.findIdx_eq_length.2 fun x hx => by
    obtain ⟨i, hi, rfl⟩ := List.mem_iff_getElem.1 hx
    simp [h i hi hi]

set_option maxHeartbeats 1000000 in
theorem first_all (p : M.Cp → Bool) (A : Option Addr) (l : List M.Cp) (cap : Nat) (g : Value) (w : World) (hl : Cps w A l) (hlen : l.length ≤ 1048576)
    (hcall : ∀ (c : M.Cp) (w' : World), c ∈ l → Below w.heap.size w w' → Calls Tryz.prog 125 #[cpV c, g] w' fun r w'' => r = .returned (.bool (p c)) ∧ Below w'.heap.size w' w'') :
    Calls Tryz.prog 124 #[.slice A l.length cap, .func (.func 125) #[] #[g]] w fun r w' => r = .returned (.int .i64 (l.findIdx p : Nat)) ∧ Below w.heap.size w w' := by
  have HC := Lib.hid hcall
  clear hcall
  go_enter Tryz.func124, Tryz.ntmps124
  go_wp2
  go_loopw [9] (fun i wr => ∃ j : Nat, i = .int .i64 j ∧ j ≤ l.length ∧ NoneTo p l j ∧ Below w.heap.size w wr) (fun i _ => l.length - (intOf i).toNat)
  case atStart => exact ⟨0, rfl, Nat.zero_le _, NoneTo.zero p l, Below.refl _ _⟩
  case round =>
    obtain ⟨j, rfl, hj, hnone, hbl⟩ := hrel
    by_cases hlt : j < l.length
    · obtain ⟨b, o, rfl, -, c0, c1, c2, c3, c4⟩ := Cps_at (hl.below hbl) hlt
      have HA := Lib.hid hl
      have HN := Lib.hid hnone
      have ba := hbl.alloc hbl.size (.cells (cpV l[j]).cells 142)
      clear hl hnone
      rcases hp : p l[j] with _ | _
      · have HP := Lib.hid hp
        go_wp2_with fail
        refine (HC.out l[j] _ (List.getElem_mem hlt) ba).mono ?_
        rintro r w1 ⟨rfl, b1⟩
        clear hp
        have hp := HP.out
        rw [hp]
        clear hp
        go_wp2
        go_roundw
        case rel => exact ⟨j + 1, by go_num, by omega, HN.out.next hlt HP.out, next ba b1⟩
        case measure => simp [intOf]; omega
      · have HP := Lib.hid hp
        go_wp2_with fail
        refine (HC.out l[j] _ (List.getElem_mem hlt) ba).mono ?_
        rintro r w1 ⟨rfl, b1⟩
        clear hp
        have hp := HP.out
        rw [hp]
        clear hp
        go_wp2
        go_ret
        exact ⟨ret_int (by rw [HN.out.hit hlt HP.out]), next ba b1⟩
    · have hj' : j = l.length := by omega
      subst hj'
      have HN := Lib.hid hnone
      clear hnone
      go_wp2
      go_ret
      exact ⟨ret_int (by rw [HN.out.all]), hbl⟩

set_option maxHeartbeats 1000000 in
theorem all1_copyOk (c : M.Cp) (g : Nat) (w : World) (hp : c.page.size ≤ maxLen) (hg : w.cell? ⟨g, 0, none⟩ = some (.func (.func 112) #[] #[])) :
    Calls Tryz.prog 125 #[cpV c, .pointer (some ⟨g, 0, none⟩)] w fun r w' => r = .returned (.bool (!M.cpOk c)) ∧ Below w.heap.size w w' := by
  have b0 := (Below.refl w.heap.size w).alloc (Nat.le_refl _) (.cells (cpV c).cells 142)
  have hgl : g < w.heap.size := World.block_lt_of_cell? w _ hg
  go_enter Tryz.func125, Tryz.ntmps125
  go_wp2_with fail
  refine (copyOk_any c _ hp).mono ?_
  rintro r w1 ⟨rfl, b1⟩
  go_wp2
  go_ret
  exact ⟨rfl, next b0 b1⟩

theorem all_findIdx (l : List M.Cp) : ((l.findIdx (fun c => !M.cpOk c) : Int) == (l.length : Int)) = l.all M.cpOk := by
  rw [Bool.eq_iff_iff, beq_iff_eq, List.all_eq_true]
  constructor
  · intro h x hx
    have := List.findIdx_eq_length.1 (show l.findIdx (fun c => !M.cpOk c) = l.length by omega) x hx
    simpa using this
  · intro h
    have : l.findIdx (fun c => !M.cpOk c) = l.length := List.findIdx_eq_length.2 fun x hx => by simp [h x hx]
    omega

set_option maxHeartbeats 1000000 in
theorem all_copyOk (A : Option Addr) (l : List M.Cp) (cap : Nat) (w : World) (hl : Cps w A l) (hlen : l.length ≤ 1048576) (hp : ∀ c ∈ l, c.page.size ≤ maxLen) :
    Calls Tryz.prog 111 #[.slice A l.length cap, .func (.func 112) #[] #[]] w fun r w' => r = .returned (.bool (l.all M.cpOk)) ∧ Below w.heap.size w w' := by
  have b0 := (Below.refl w.heap.size w).alloc (Nat.le_refl _) (.cells #[.func (.func 112) #[] #[]] 140)
  have HB : Hid (((l.findIdx (fun c => !M.cpOk c) : Int) == (l.length : Int)) = l.all M.cpOk) := Lib.hid (all_findIdx l)
  have HP := Lib.hid hp
  have HL := Lib.hid hl
  clear hp hl
  go_enter Tryz.func111, Tryz.ntmps111
  go_wp2_with fail
  refine (first_all (fun c => !M.cpOk c) A l cap _ _ (HL.out.alloc _) hlen (fun c w' hc hb => all1_copyOk c _ w' (HP.out c hc) (box_cells hb 0))).mono ?_
  rintro r w1 ⟨rfl, b1⟩
  go_wp2
  go_ret
  exact ⟨ret_bool HB.out, next b0 b1⟩

/-- Each of the first j is older than the next. -/
def RisesTo (l : List M.Cp) (j : Nat) : Prop := ∀ (i : Nat) (h : i + 1 < l.length), i + 1 < j → M.older l[i].ed l[i + 1].ed = true
theorem RisesTo.one (l : List M.Cp) : RisesTo l 1 := fun _ _ h => absurd h (by omega)
theorem RisesTo.next {l : List M.Cp} {k : Nat} (h : RisesTo l (k + 1)) (hk : k + 1 < l.length) (ho : M.older l[k].ed l[k + 1].ed = true) : RisesTo l (k + 2) := fun i hi hij => by
  by_cases e : i = k
  · subst e; exact ho
  · exact h i hi (by omega)
theorem RisesTo.all {l : List M.Cp} {j : Nat} (h : RisesTo l j) (hj : l.length ≤ j) : M.risesB l = true := (M.risesB_iff l).2 fun i hi => h i hi (by omega)
theorem rises_not {l : List M.Cp} {k : Nat} (hk : k + 1 < l.length) (ho : M.older l[k].ed l[k + 1].ed = false) : M.risesB l = false := by
  rcases hc : M.risesB l with _ | _
  · rfl
  · have := (M.risesB_iff l).1 hc k hk; rw [ho] at this; cases this

set_option maxHeartbeats 1000000 in
theorem rises_older (A : Option Addr) (l : List M.Cp) (cap : Nat) (w : World) (hl : Cps w A l) (hlen : l.length ≤ 1048576) :
    Calls Tryz.prog 113 #[.slice A l.length cap, .func (.func 114) #[] #[]] w fun r w' => r = .returned (.bool (M.risesB l)) ∧ Below w.heap.size w w' := by
  go_enter Tryz.func113, Tryz.ntmps113
  go_wp2
  go_loopw [5] (fun i wr => ∃ j : Nat, i = .int .i64 j ∧ 1 ≤ j ∧ j ≤ l.length + 1 ∧ RisesTo l j ∧ Below w.heap.size w wr) (fun i _ => l.length + 1 - (intOf i).toNat)
  case atStart => exact ⟨1, rfl, by omega, by omega, RisesTo.one l, Below.refl _ _⟩
  case round =>
    obtain ⟨j, rfl, hj1, hj, hr, hbl⟩ := hrel
    by_cases hlt : j < l.length
    · obtain ⟨k, hk⟩ : ∃ k, j = k + 1 := ⟨j - 1, by omega⟩
      have hkl : k < l.length := by omega
      obtain ⟨b, o, rfl, -, c0, c1, c2, c3, c4⟩ := Cps_at (hl.below hbl) hlt
      obtain ⟨b', o', hbo, -, d0, d1, d2, d3, d4⟩ := Cps_at (hl.below hbl) hkl
      obtain ⟨rfl, rfl⟩ : b = b' ∧ o = o' := by simpa using hbo
      have e1 : IntKind.i64.wrap ((j : Int) - 1) = (j : Int) - 1 := IntWalk.i64_in _ (by omega)
      have e2 : ((j : Int) - 1).toNat = k := by omega
      have e3 : (1 : Int) ≤ (j : Int) := by omega
      have e5 : ¬ ((l.length : Int) ≤ (j : Int) - 1) := by omega
      rcases ho : M.older l[k].ed l[j].ed with _ | _
      · have HE : Hid (M.risesB l = false) := Lib.hid (by subst hk; exact rises_not hlt ho)
        have HA := Lib.hid hl
        have HK := Lib.hid hk
        have HO := Lib.hid ho
        clear hl hbo hk hr ho
        go_wp2_with fail
        go_still_tail 10, (by kernel_rfl)
        change wpList _ _ _ _ _ wr.drew
        go_wp2_with fail
        refine (olderCopy_any l[k] l[j] _).mono ?_
        rintro r w1 ⟨rfl, b1⟩
        rw [HO.out]
        go_wp2
        go_ret
        exact ⟨ret_bool HE.out.symm, next hbl.drew b1⟩
      · have HN : Hid (RisesTo l (j + 1)) := Lib.hid (by subst hk; exact hr.next hlt ho)
        have HA := Lib.hid hl
        have HK := Lib.hid hk
        have HO := Lib.hid ho
        clear hl hbo hk hr ho
        go_wp2_with fail
        go_still_tail 10, (by kernel_rfl)
        change wpList _ _ _ _ _ wr.drew
        go_wp2_with fail
        refine (olderCopy_any l[k] l[j] _).mono ?_
        rintro r w1 ⟨rfl, b1⟩
        rw [HO.out]
        clear e1 e2 e3 e5
        go_wp2
        go_roundw
        case rel => exact ⟨j + 1, by go_num, by omega, by omega, HN.out, next hbl.drew b1⟩
        case measure => simp [intOf]; omega
    · have HE : Hid (M.risesB l = true) := Lib.hid (hr.all (by omega))
      clear hr
      go_wp2
      go_ret
      exact ⟨ret_bool HE.out.symm, hbl⟩

set_option maxHeartbeats 1000000 in
theorem copiesOk_any (A : Option Addr) (l : List M.Cp) (cap : Nat) (w : World) (hl : Cps w A l) (hlen : l.length ≤ 1048576) (hp : ∀ c ∈ l, c.page.size ≤ maxLen) :
    Calls Tryz.prog 94 #[.slice A l.length cap] w fun r w' => r = .returned (.bool (decide (l.length ≤ 8) && M.cpsOk l)) ∧ Below w.heap.size w w' := by
  have HP := Lib.hid hp
  clear hp
  by_cases h8 : l.length ≤ 8
  · rcases ha : l.all M.cpOk with _ | _
    · have HE : Hid ((decide (l.length ≤ 8) && M.cpsOk l) = false) := Lib.hid (by simp only [M.cpsOk, ha]; simp)
      have HA := Lib.hid ha
      clear ha
      go_enter Tryz.func94, Tryz.ntmps94
      go_wp2_with fail
      refine (all_copyOk A l cap _ hl hlen HP.out).mono ?_
      rintro r w1 ⟨rfl, b1⟩
      rw [HA.out]
      go_wp2
      go_ret
      exact ⟨ret_bool HE.out.symm, b1⟩
    · have HE : Hid ((decide (l.length ≤ 8) && M.cpsOk l) = M.risesB l) := Lib.hid (by simp only [M.cpsOk, ha]; simp [h8])
      have HA := Lib.hid ha
      clear ha
      go_enter Tryz.func94, Tryz.ntmps94
      go_wp2_with fail
      refine (all_copyOk A l cap _ hl hlen HP.out).mono ?_
      rintro r w1 ⟨rfl, b1⟩
      rw [HA.out]
      go_wp2_with fail
      refine (rises_older A l cap _ (hl.below b1) hlen).mono ?_
      rintro r w2 ⟨rfl, b2⟩
      go_wp2
      go_ret
      exact ⟨ret_bool HE.out.symm, next b1 b2⟩
  · go_enter Tryz.func94, Tryz.ntmps94
    go_wp2
    go_ret
    exact ⟨ret_bool (by simp), Below.refl _ _⟩

set_option maxHeartbeats 1000000 in
theorem implWorkOk (name : ByteArray) (owner : Int) (A : Option Addr) (l : List M.Cp) (cap : Nat) (w : World) (hl : Cps w A l) (hn : name.size ≤ maxLen) (hlen : l.length ≤ 1048576) (hp : ∀ c ∈ l, c.page.size ≤ maxLen) :
    Calls Tryz.prog 69 #[wkV name owner A l.length cap] w fun r w' => r = .returned (.bool (M.wkOk ⟨name, owner, l⟩)) ∧ Below w.heap.size w w' := by
  have b0 := (Below.refl w.heap.size w).alloc (Nat.le_refl _) (.cells (wkL name owner A l.length cap) 106)
  have HP := Lib.hid hp
  have HL := Lib.hid hl
  clear hp hl
  rcases h1 : M.nameOk name.data.toList with _ | _
  · have HE : Hid (M.wkOk ⟨name, owner, l⟩ = false) := Lib.hid (by simp [M.wkOk, h1])
    go_enter Tryz.func69, Tryz.ntmps69
    go_wp2_with fail
    refine (implNameOk name _ hn).mono ?_
    rintro r w1 ⟨rfl, rfl⟩
    go_wp2
    go_ret
    exact ⟨ret_bool HE.out.symm, b0⟩
  · rcases h2 : M.inI owner 0 3 with _ | _
    · have HE : Hid (M.wkOk ⟨name, owner, l⟩ = false) := Lib.hid (by simp [M.wkOk, h2])
      go_enter Tryz.func69, Tryz.ntmps69
      go_wp2_with fail
      refine (implNameOk name _ hn).mono ?_
      rintro r w1 ⟨rfl, rfl⟩
      go_wp2_with fail
      refine (whoOk_any owner _).mono ?_
      rintro r w1 ⟨rfl, rfl⟩
      go_wp2
      go_ret
      exact ⟨ret_bool HE.out.symm, b0⟩
    · have HE : Hid (M.wkOk ⟨name, owner, l⟩ = (decide (l.length ≤ 8) && M.cpsOk l)) := Lib.hid (by simp [M.wkOk, h1, h2])
      go_enter Tryz.func69, Tryz.ntmps69
      go_wp2_with fail
      refine (implNameOk name _ hn).mono ?_
      rintro r w1 ⟨rfl, rfl⟩
      go_wp2_with fail
      refine (whoOk_any owner _).mono ?_
      rintro r w1 ⟨rfl, rfl⟩
      go_wp2_with fail
      refine (copiesOk_any A l cap _ (HL.out.alloc _) hlen HP.out).mono ?_
      rintro r w1 ⟨rfl, b1⟩
      go_wp2
      go_ret
      exact ⟨ret_bool HE.out.symm, next b0 b1⟩
end Go.Proofs.YtdoeiphnalbinaaGreat
