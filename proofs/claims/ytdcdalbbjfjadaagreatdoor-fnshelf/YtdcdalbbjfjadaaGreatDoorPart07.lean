/- Proved, in parts: Proved: the laws' helpers that make a work of the program's own types out of the laws' answer the same work, in new memory; they write nothing that was there. Proved: facts on a list of copies that lies in memory of one's own; no program's function is named here; no condition. Proved: the laws' helper that makes a list of works of the program's own types out of the laws' answers the same works, in new memory, no two lists of which are one; it writes nothing that was there. Proved: the program's WorkOk answers the same plain Lean function as the model's; it writes nothing that was there. -/
import Derived.Test.YtdcdalbbjfjadaaGreatDoorPart05
import Derived.Test.YtdcdalbbjfjadaaGreatDoorPart06
import Derived.OwnWalk
import Derived.Deep.Onto
import Derived.StillTailTactics
import Derived.IntWalk
namespace Go.Proofs.YtdcdalbbjfjadaaGreatDoor
open Go.RowKit

theorem Own.below {w w' : World} {base e k n : Nat} {v : Value} {xs : List Value} (h : w.ownsRow base e k v n xs) (hb : Below w.heap.size w w') : w'.ownsRow base e k v n xs := by
  obtain ⟨hl, h | ⟨g, cap, cur, hv, h1, hh, h2⟩⟩ := h
  · exact ⟨hl, .inl h⟩
  · exact ⟨hl, .inr ⟨g, cap, cur, hv, h1, (hb.block g (Array.getElem?_eq_some_iff.1 hh).1).trans hh, h2⟩⟩

theorem infoCp : (Tryz.prog.info? 71).map (fun i => (i.zero, i.size, i.bytes)) = some (some (.agg #[.int .i64 0, .int .i64 0, .int .i64 0, .string ⟨#[]⟩, .bool false]), 5, 48) := by kernel_rfl

end Go.Proofs.YtdcdalbbjfjadaaGreatDoor
namespace Go.Proofs.YtdcdalbbjfjadaaGreatDoor
open Go.RowKit

/-- v is a list of the copies l, in memory of one's own from block B on. -/
def CpOwn (B : Nat) (w : World) (v : Value) (l : List M.Cp) : Prop := w.ownsRow B 71 5 v l.length (cellsOf cpL l)
theorem CpOwn.below {B : Nat} {w w' : World} {v : Value} {l : List M.Cp} (h : CpOwn B w v l) (hb : Below w.heap.size w w') : CpOwn B w' v l := Own.below h hb
theorem CpOwn.nil (B : Nat) (w : World) : CpOwn B w (.slice none 0 0) [] := World.ownsRow_nil _ _ _ _
theorem CpOwn.open {B : Nat} {w : World} {v : Value} {l : List M.Cp} (h : CpOwn B w v l) : ∃ A c, v = .slice A l.length c ∧ Cps w A l ∧ (A = none → c = 0) := by
  obtain ⟨hl, ⟨rfl, h0⟩ | ⟨g, cap, cur, rfl, hr⟩⟩ := h
  · have : l = [] := List.length_eq_zero_iff.1 h0
    subst this
    exact ⟨none, 0, rfl, .inl rfl, fun _ => rfl⟩
  · obtain ⟨A, c, hv, _, hf⟩ := own_flat (l := l) cpL_len (show w.ownsRow B 71 5 (.slice (some ⟨g, 0, none⟩) l.length cap) l.length (cellsOf cpL l) from ⟨hl, .inr ⟨g, cap, cur, rfl, hr⟩⟩)
    injection hv with hA _ hc
    subst hA hc
    exact ⟨_, _, rfl, hf, fun h => by cases h⟩
theorem CpOwn.off {B : Nat} {w : World} {v : Value} {l : List M.Cp} (h : CpOwn B w v l) {a : Addr} (ha : a.block < B) (u : Value) : CpOwn B (w.setCell a u) v l := ownsRow_setCell_below h ha u
theorem CpOwn.mono {B B' : Nat} {w : World} {v : Value} {l : List M.Cp} (h : CpOwn B w v l) (hb : B' ≤ B) : CpOwn B' w v l := World.ownsRow.mono h hb
theorem CpOwn.cps {B : Nat} {w : World} {A : Option Addr} {n c : Nat} {l : List M.Cp} (h : CpOwn B w (.slice A n c) l) : Cps w A l ∧ n = l.length := by
  obtain ⟨A', c', hv, hf, _⟩ := h.open
  injection hv with hA hn _
  subst hA
  exact ⟨hf, hn⟩
theorem own_differ {u v : Value} {B : Nat} (hu : ∀ k, u.ownBlock = some k → k < B) (hv : ∀ k, v.ownBlock = some k → B ≤ k) : u.ownBlock = none ∨ u.ownBlock ≠ v.ownBlock := by
  rcases h : u.ownBlock with _ | k
  · exact .inl rfl
  · refine .inr fun e => ?_
    have h1 := hu k h
    have h2 := hv k e.symm
    omega
end Go.Proofs.YtdcdalbbjfjadaaGreatDoor
namespace Go.Proofs.YtdcdalbbjfjadaaGreatDoor
open Go.RowKit
set_option maxRecDepth 20000

/-- Where the copies of r lie. -/
abbrev Wr.sl (r : Wr) : Value := .slice r.ad r.cps.length r.cap
/-- Two lists are in two blocks. -/
def Apart (a b : Value) : Prop := a.ownBlock = none ∨ a.ownBlock ≠ b.ownBlock
/-- v is a list of the works l, in memory of one's own from block B on, each list in a block of its own. -/
def SfOwn (B : Nat) (w : World) (v : Value) (l : List Wr) : Prop :=
  w.ownsRow B 39 3 v l.length (cellsOf wrL l) ∧ (∀ r ∈ l, CpOwn B w r.sl r.cps) ∧ (∀ r ∈ l, Apart r.sl v) ∧ l.Pairwise fun a b => Apart a.sl b.sl
theorem SfOwn.below {B : Nat} {w w' : World} {v : Value} {l : List Wr} (h : SfOwn B w v l) (hb : Below w.heap.size w w') : SfOwn B w' v l :=
  ⟨Own.below h.1 hb, fun r hr => (h.2.1 r hr).below hb, h.2.2⟩
theorem SfOwn.mono {B B' : Nat} {w : World} {v : Value} {l : List Wr} (h : SfOwn B w v l) (hb : B' ≤ B) : SfOwn B' w v l :=
  ⟨World.ownsRow.mono h.1 hb, fun r hr => (h.2.1 r hr).mono hb, h.2.2⟩
theorem SfOwn.open {B : Nat} {w : World} {v : Value} {l : List Wr} (h : SfOwn B w v l) : ∃ A c, v = .slice A l.length c ∧ l.length ≤ c ∧ Wks w A l := by
  obtain ⟨A, c, hv, hc, hf⟩ := own_flat wrL_len h.1
  exact ⟨A, c, hv, hc, hf, fun r hr => (h.2.1 r hr).cps.1⟩
theorem SfOwn.wks {B : Nat} {w : World} {A : Option Addr} {n c : Nat} {l : List Wr} (h : SfOwn B w (.slice A n c) l) : Wks w A l ∧ n = l.length := by
  obtain ⟨A', c', hv, _, hw⟩ := h.open
  injection hv with hA hn _
  subst hA
  exact ⟨hw, hn⟩

theorem infoWk : (Tryz.prog.info? 39).map (fun i => (i.zero, i.size, i.bytes)) = some (some (.agg #[.string ⟨#[]⟩, .int .i64 0, .slice none 0 0]), 3, 48) := by kernel_rfl

theorem set3w (xs ys : List Value) (a b c f0 f1 f2 : Value) (n : Nat) (hn : n = xs.length) :
    (((xs ++ a :: b :: c :: ys).set n f0).set (n + 1) f1).set (n + 2) f2 = xs ++ f0 :: f1 :: f2 :: ys := by
  subst hn; simp
/-- Three stores into a row. -/
theorem own_put3 {w : World} {base e g n cap j : Nat} {xs ys : List Value} {f0 f1 f2 : Value} {a b c : Value} (h : w.ownsRow base e 3 (.slice (some ⟨g, 0, none⟩) n cap) n (xs ++ a :: b :: c :: ys)) (hj : j = xs.length) :
    (((w.setCell ⟨g, j, none⟩ f0).setCell ⟨g, j + 1, none⟩ f1).setCell ⟨g, j + 2, none⟩ f2).ownsRow base e 3 (.slice (some ⟨g, 0, none⟩) n cap) n (xs ++ f0 :: f1 :: f2 :: ys) := by
  have := ((h.stored j f0).1.stored (j + 1) f1).1.stored (j + 2) f2
  rw [set3w xs ys a b c f0 f1 f2 j hj] at this
  exact this.1
theorem own_cells3 {w : World} {base e g n cap j : Nat} {xs ys : List Value} {a b c : Value} (h : w.ownsRow base e 3 (.slice (some ⟨g, 0, none⟩) n cap) n (xs ++ a :: b :: c :: ys)) (hj : j = xs.length) :
    (w.cell? ⟨g, j, none⟩ = some a ∧ w.cell? ⟨g, j + 1, none⟩ = some b ∧ w.cell? ⟨g, j + 2, none⟩ = some c) ∧
    (w.frozen? ⟨g, j, none⟩ = false ∧ w.frozen? ⟨g, j + 1, none⟩ = false ∧ w.frozen? ⟨g, j + 2, none⟩ = false) := by
  have hl := h.1
  simp at hl
  subst hj
  refine ⟨⟨?_, ?_, ?_⟩, h.frozenAt _, h.frozenAt _, h.frozenAt _⟩ <;> (rw [h.cellAt _ (by omega)]; simp)

/-- The works that were made so far: each list behind block G, in a block of its own. -/
def Made (G : Nat) (w : World) (rs : List Wr) : Prop :=
  (∀ r ∈ rs, CpOwn (G + 1) w r.sl r.cps ∧ r.ad ≠ none ∧ r.cap = r.cps.length) ∧ rs.Pairwise fun a b => Apart a.sl b.sl
theorem Made.nil (G : Nat) (w : World) : Made G w [] := ⟨by simp, List.Pairwise.nil⟩
theorem Made.below {G : Nat} {w w' : World} {rs : List Wr} (h : Made G w rs) (hb : Below w.heap.size w w') : Made G w' rs :=
  ⟨fun r hr => ⟨(h.1 r hr).1.below hb, (h.1 r hr).2⟩, h.2⟩
theorem Made.set {G : Nat} {w : World} {rs : List Wr} (h : Made G w rs) (i : Nat) (v : Value) : Made G (w.setCell ⟨G, i, none⟩ v) rs :=
  ⟨fun r hr => ⟨(h.1 r hr).1.off (by simp) v, (h.1 r hr).2⟩, h.2⟩
/-- One more, made in a world of its own. -/
theorem Made.snoc {G : Nat} {w w' : World} {rs : List Wr} (h : Made G w rs) (hb : Below w.heap.size w w') (hG : G + 1 ≤ w.heap.size) (r : Wr) (ho : CpOwn w.heap.size w' r.sl r.cps) (hr : r.ad ≠ none ∧ r.cap = r.cps.length) : Made G w' (rs ++ [r]) := by
  refine ⟨fun x hx => ?_, ?_⟩
  · rcases List.mem_append.1 hx with hx | hx
    · exact ⟨(h.1 x hx).1.below hb, (h.1 x hx).2⟩
    · obtain rfl : x = r := by simpa using hx
      exact ⟨ho.mono hG, hr⟩
  · rw [List.pairwise_append]
    refine ⟨h.2, List.pairwise_singleton _ _, fun a ha b hb' => ?_⟩
    obtain rfl : b = r := by simpa using hb'
    exact own_differ (fun k hk => ((h.1 a ha).1.lt k hk).2) (fun k hk => (ho.lt k hk).1)

end Go.Proofs.YtdcdalbbjfjadaaGreatDoor
namespace Go.Proofs.YtdcdalbbjfjadaaGreatDoor
open Go.RowKit
set_option maxRecDepth 20000

set_option maxHeartbeats 1000000 in
theorem copyOk_any (c : M.Cp) (w : World) (hp : c.page.size ≤ maxLen) :
    Calls Tryz.prog 97 #[cpV c] w fun r w' => r = .returned (.bool (M.cpOk c)) ∧ Below w.heap.size w w' := by
  have b0 := (Below.refl w.heap.size w).alloc (Nat.le_refl _) (.cells (cpV c).cells 71)
  rcases h1 : M.edOk c.ed with _ | _
  · have HE : Hid (M.cpOk c = false) := Lib.hid (by simp [M.cpOk, h1])
    go_enter Tryz.func97, Tryz.ntmps97
    go_wp2_with fail
    refine (implEditionOk c.ed _).mono ?_
    rintro r w1 ⟨rfl, b1⟩
    go_wp2
    go_ret
    exact ⟨ret_bool HE.out.symm, next b0 b1⟩
  · have HE : Hid (M.cpOk c = M.pageOk c.page.data.toList) := Lib.hid (by simp [M.cpOk, h1])
    go_enter Tryz.func97, Tryz.ntmps97
    go_wp2_with fail
    refine (implEditionOk c.ed _).mono ?_
    rintro r w1 ⟨rfl, b1⟩
    obtain ⟨c1, f1⟩ := bcell b1
    go_wp2_with fail
    refine (implPageOk c.page _ hp).mono ?_
    rintro r w2 ⟨rfl, rfl⟩
    go_wp2
    go_ret
    exact ⟨ret_bool HE.out.symm, next b0 b1⟩

set_option maxHeartbeats 1000000 in
theorem olderCopy_any (c d : M.Cp) (w : World) :
    Calls Tryz.prog 99 #[cpV c, cpV d] w fun r w' => r = .returned (.bool (M.older c.ed d.ed)) ∧ Below w.heap.size w w' := by
  have b0 := ((Below.refl w.heap.size w).alloc (Nat.le_refl _) (.cells (cpV c).cells 71)).alloc (by simp) (.cells (cpV d).cells 71)
  go_enter Tryz.func99, Tryz.ntmps99
  go_wp2_with fail
  refine (implOlder c.ed d.ed _).mono ?_
  rintro r w1 ⟨rfl, b1⟩
  go_wp2
  go_ret
  exact ⟨rfl, next b0 b1⟩

/-- None of the first j is so. -/
def NoneTo (p : M.Cp → Bool) (l : List M.Cp) (j : Nat) : Prop := ∀ (i : Nat) (h : i < l.length), i < j → p l[i] = false
theorem NoneTo.zero (p : M.Cp → Bool) (l : List M.Cp) : NoneTo p l 0 := fun _ _ h => absurd h (by omega)
theorem NoneTo.next {p : M.Cp → Bool} {l : List M.Cp} {j : Nat} (h : NoneTo p l j) (hj : j < l.length) (hp : p l[j] = false) : NoneTo p l (j + 1) := fun i hi hij => by
  by_cases e : i = j
  · subst e; exact hp
  · exact h i hi (by omega)
theorem NoneTo.hit {p : M.Cp → Bool} {l : List M.Cp} {j : Nat} (h : NoneTo p l j) (hj : j < l.length) (hp : p l[j] = true) : l.findIdx p = j :=
  (List.findIdx_eq hj).2 ⟨hp, fun i hi => h i (by omega) hi⟩
theorem NoneTo.all {p : M.Cp → Bool} {l : List M.Cp} (h : NoneTo p l l.length) : l.findIdx p = l.length :=
  List.findIdx_eq_length.2 fun x hx => by
    obtain ⟨i, hi, rfl⟩ := List.mem_iff_getElem.1 hx
    simp [h i hi hi]

set_option maxHeartbeats 1000000 in
theorem first_all (p : M.Cp → Bool) (A : Option Addr) (l : List M.Cp) (cap : Nat) (g : Value) (w : World) (hl : Cps w A l) (hlen : l.length ≤ 1048576)
    (hcall : ∀ (c : M.Cp) (w' : World), c ∈ l → Below w.heap.size w w' → Calls Tryz.prog 113 #[cpV c, g] w' fun r w'' => r = .returned (.bool (p c)) ∧ Below w'.heap.size w' w'') :
    Calls Tryz.prog 112 #[.slice A l.length cap, .func (.func 113) #[] #[g]] w fun r w' => r = .returned (.int .i64 (l.findIdx p : Nat)) ∧ Below w.heap.size w w' := by
  have HC := Lib.hid hcall
  clear hcall
  go_enter Tryz.func112, Tryz.ntmps112
  go_wp2
  go_loopw [9] (fun i wr => ∃ j : Nat, i = .int .i64 j ∧ j ≤ l.length ∧ NoneTo p l j ∧ Below w.heap.size w wr) (fun i _ => l.length - (intOf i).toNat)
  case atStart => exact ⟨0, rfl, Nat.zero_le _, NoneTo.zero p l, Below.refl _ _⟩
  case round =>
    obtain ⟨j, rfl, hj, hnone, hbl⟩ := hrel
    by_cases hlt : j < l.length
    · obtain ⟨b, o, rfl, -, c0, c1, c2, c3, c4⟩ := Cps_at (hl.below hbl) hlt
      have HA := Lib.hid hl
      have HN := Lib.hid hnone
      have ba := hbl.alloc hbl.size (.cells (cpV l[j]).cells 71)
      clear hl hnone
      rcases hp : p l[j] with _ | _
      · have HP := Lib.hid hp
        go_wp2_with fail
        refine (HC.out l[j] _ (List.getElem_mem hlt) ba).mono ?_
        rintro r w1 ⟨rfl, b1⟩
        clear hp
        have hp := HP.out
        rw [hp]
        clear hp
        go_wp2
        go_roundw
        case rel => exact ⟨j + 1, by go_num, by omega, HN.out.next hlt HP.out, next ba b1⟩
        case measure => simp [intOf]; omega
      · have HP := Lib.hid hp
        go_wp2_with fail
        refine (HC.out l[j] _ (List.getElem_mem hlt) ba).mono ?_
        rintro r w1 ⟨rfl, b1⟩
        clear hp
        have hp := HP.out
        rw [hp]
        clear hp
        go_wp2
        go_ret
        exact ⟨ret_int (by rw [HN.out.hit hlt HP.out]), next ba b1⟩
    · have hj' : j = l.length := by omega
      subst hj'
      have HN := Lib.hid hnone
      clear hnone
      go_wp2
      go_ret
      exact ⟨ret_int (by rw [HN.out.all]), hbl⟩

set_option maxHeartbeats 1000000 in
theorem first_place (p : M.Cp → Bool) (A : Option Addr) (l : List M.Cp) (cap : Nat) (g : Value) (w : World) (hl : Cps w A l) (hlen : l.length ≤ 1048576)
    (hcall : ∀ (c : M.Cp) (w' : World), c ∈ l → Below w.heap.size w w' → Calls Tryz.prog 139 #[cpV c, g] w' fun r w'' => r = .returned (.bool (p c)) ∧ Below w'.heap.size w' w'') :
    Calls Tryz.prog 112 #[.slice A l.length cap, .func (.func 139) #[] #[g]] w fun r w' => r = .returned (.int .i64 (l.findIdx p : Nat)) ∧ Below w.heap.size w w' := by
  have HC := Lib.hid hcall
  clear hcall
  go_enter Tryz.func112, Tryz.ntmps112
  go_wp2
  go_loopw [9] (fun i wr => ∃ j : Nat, i = .int .i64 j ∧ j ≤ l.length ∧ NoneTo p l j ∧ Below w.heap.size w wr) (fun i _ => l.length - (intOf i).toNat)
  case atStart => exact ⟨0, rfl, Nat.zero_le _, NoneTo.zero p l, Below.refl _ _⟩
  case round =>
    obtain ⟨j, rfl, hj, hnone, hbl⟩ := hrel
    by_cases hlt : j < l.length
    · obtain ⟨b, o, rfl, -, c0, c1, c2, c3, c4⟩ := Cps_at (hl.below hbl) hlt
      have HA := Lib.hid hl
      have HN := Lib.hid hnone
      have ba := hbl.alloc hbl.size (.cells (cpV l[j]).cells 71)
      clear hl hnone
      rcases hp : p l[j] with _ | _
      · have HP := Lib.hid hp
        go_wp2_with fail
        refine (HC.out l[j] _ (List.getElem_mem hlt) ba).mono ?_
        rintro r w1 ⟨rfl, b1⟩
        clear hp
        have hp := HP.out
        rw [hp]
        clear hp
        go_wp2
        go_roundw
        case rel => exact ⟨j + 1, by go_num, by omega, HN.out.next hlt HP.out, next ba b1⟩
        case measure => simp [intOf]; omega
      · have HP := Lib.hid hp
        go_wp2_with fail
        refine (HC.out l[j] _ (List.getElem_mem hlt) ba).mono ?_
        rintro r w1 ⟨rfl, b1⟩
        clear hp
        have hp := HP.out
        rw [hp]
        clear hp
        go_wp2
        go_ret
        exact ⟨ret_int (by rw [HN.out.hit hlt HP.out]), next ba b1⟩
    · have hj' : j = l.length := by omega
      subst hj'
      have HN := Lib.hid hnone
      clear hnone
      go_wp2
      go_ret
      exact ⟨ret_int (by rw [HN.out.all]), hbl⟩

set_option maxHeartbeats 1000000 in
theorem all1_copyOk (c : M.Cp) (g : Nat) (w : World) (hp : c.page.size ≤ maxLen) (hg : w.cell? ⟨g, 0, none⟩ = some (.func (.func 97) #[] #[])) :
    Calls Tryz.prog 113 #[cpV c, .pointer (some ⟨g, 0, none⟩)] w fun r w' => r = .returned (.bool (!M.cpOk c)) ∧ Below w.heap.size w w' := by
  have b0 := (Below.refl w.heap.size w).alloc (Nat.le_refl _) (.cells (cpV c).cells 71)
  have hgl : g < w.heap.size := World.block_lt_of_cell? w _ hg
  go_enter Tryz.func113, Tryz.ntmps113
  go_wp2_with fail
  refine (copyOk_any c _ hp).mono ?_
  rintro r w1 ⟨rfl, b1⟩
  go_wp2
  go_ret
  exact ⟨rfl, next b0 b1⟩

theorem all_findIdx (l : List M.Cp) : ((l.findIdx (fun c => !M.cpOk c) : Int) == (l.length : Int)) = l.all M.cpOk := by
  rw [Bool.eq_iff_iff, beq_iff_eq, List.all_eq_true]
  constructor
  · intro h x hx
    have := List.findIdx_eq_length.1 (show l.findIdx (fun c => !M.cpOk c) = l.length by omega) x hx
    simpa using this
  · intro h
    have : l.findIdx (fun c => !M.cpOk c) = l.length := List.findIdx_eq_length.2 fun x hx => by simp [h x hx]
    omega

set_option maxHeartbeats 1000000 in
theorem all_copyOk (A : Option Addr) (l : List M.Cp) (cap : Nat) (w : World) (hl : Cps w A l) (hlen : l.length ≤ 1048576) (hp : ∀ c ∈ l, c.page.size ≤ maxLen) :
    Calls Tryz.prog 96 #[.slice A l.length cap, .func (.func 97) #[] #[]] w fun r w' => r = .returned (.bool (l.all M.cpOk)) ∧ Below w.heap.size w w' := by
  have b0 := (Below.refl w.heap.size w).alloc (Nat.le_refl _) (.cells #[.func (.func 97) #[] #[]] 102)
  have HB : Hid (((l.findIdx (fun c => !M.cpOk c) : Int) == (l.length : Int)) = l.all M.cpOk) := Lib.hid (all_findIdx l)
  have HP := Lib.hid hp
  have HL := Lib.hid hl
  clear hp hl
  go_enter Tryz.func96, Tryz.ntmps96
  go_wp2_with fail
  refine (first_all (fun c => !M.cpOk c) A l cap _ _ (HL.out.alloc _) hlen (fun c w' hc hb => all1_copyOk c _ w' (HP.out c hc) (box_cells hb 0))).mono ?_
  rintro r w1 ⟨rfl, b1⟩
  go_wp2
  go_ret
  exact ⟨ret_bool HB.out, next b0 b1⟩

/-- Each of the first j is older than the next. -/
def RisesTo (l : List M.Cp) (j : Nat) : Prop := ∀ (i : Nat) (h : i + 1 < l.length), i + 1 < j → M.older l[i].ed l[i + 1].ed = true
theorem RisesTo.one (l : List M.Cp) : RisesTo l 1 := fun _ _ h => absurd h (by omega)
theorem RisesTo.next {l : List M.Cp} {k : Nat} (h : RisesTo l (k + 1)) (hk : k + 1 < l.length) (ho : M.older l[k].ed l[k + 1].ed = true) : RisesTo l (k + 2) := fun i hi hij => by
  by_cases e : i = k
  · subst e; exact ho
  · exact h i hi (by omega)
theorem RisesTo.all {l : List M.Cp} {j : Nat} (h : RisesTo l j) (hj : l.length ≤ j) : M.risesB l = true := (M.risesB_iff l).2 fun i hi => h i hi (by omega)
theorem rises_not {l : List M.Cp} {k : Nat} (hk : k + 1 < l.length) (ho : M.older l[k].ed l[k + 1].ed = false) : M.risesB l = false := by
  rcases hc : M.risesB l with _ | _
  · rfl
  · have := (M.risesB_iff l).1 hc k hk; rw [ho] at this; cases this

set_option maxHeartbeats 1000000 in
theorem rises_older (A : Option Addr) (l : List M.Cp) (cap : Nat) (w : World) (hl : Cps w A l) (hlen : l.length ≤ 1048576) :
    Calls Tryz.prog 98 #[.slice A l.length cap, .func (.func 99) #[] #[]] w fun r w' => r = .returned (.bool (M.risesB l)) ∧ Below w.heap.size w w' := by
  go_enter Tryz.func98, Tryz.ntmps98
  go_wp2
  go_loopw [5] (fun i wr => ∃ j : Nat, i = .int .i64 j ∧ 1 ≤ j ∧ j ≤ l.length + 1 ∧ RisesTo l j ∧ Below w.heap.size w wr) (fun i _ => l.length + 1 - (intOf i).toNat)
  case atStart => exact ⟨1, rfl, by omega, by omega, RisesTo.one l, Below.refl _ _⟩
  case round =>
    obtain ⟨j, rfl, hj1, hj, hr, hbl⟩ := hrel
    by_cases hlt : j < l.length
    · obtain ⟨k, hk⟩ : ∃ k, j = k + 1 := ⟨j - 1, by omega⟩
      have hkl : k < l.length := by omega
      obtain ⟨b, o, rfl, -, c0, c1, c2, c3, c4⟩ := Cps_at (hl.below hbl) hlt
      obtain ⟨b', o', hbo, -, d0, d1, d2, d3, d4⟩ := Cps_at (hl.below hbl) hkl
      obtain ⟨rfl, rfl⟩ : b = b' ∧ o = o' := by simpa using hbo
      have e1 : IntKind.i64.wrap ((j : Int) - 1) = (j : Int) - 1 := IntWalk.i64_in _ (by omega)
      have e2 : ((j : Int) - 1).toNat = k := by omega
      have e3 : (1 : Int) ≤ (j : Int) := by omega
      have e5 : ¬ ((l.length : Int) ≤ (j : Int) - 1) := by omega
      rcases ho : M.older l[k].ed l[j].ed with _ | _
      · have HE : Hid (M.risesB l = false) := Lib.hid (by subst hk; exact rises_not hlt ho)
        have HA := Lib.hid hl
        have HK := Lib.hid hk
        have HO := Lib.hid ho
        clear hl hbo hk hr ho
        go_wp2_with fail
        go_still_tail 10, (by kernel_rfl)
        change wpList _ _ _ _ _ wr.drew
        go_wp2_with fail
        refine (olderCopy_any l[k] l[j] _).mono ?_
        rintro r w1 ⟨rfl, b1⟩
        rw [HO.out]
        go_wp2
        go_ret
        exact ⟨ret_bool HE.out.symm, next hbl.drew b1⟩
      · have HN : Hid (RisesTo l (j + 1)) := Lib.hid (by subst hk; exact hr.next hlt ho)
        have HA := Lib.hid hl
        have HK := Lib.hid hk
        have HO := Lib.hid ho
        clear hl hbo hk hr ho
        go_wp2_with fail
        go_still_tail 10, (by kernel_rfl)
        change wpList _ _ _ _ _ wr.drew
        go_wp2_with fail
        refine (olderCopy_any l[k] l[j] _).mono ?_
        rintro r w1 ⟨rfl, b1⟩
        rw [HO.out]
        clear e1 e2 e3 e5
        go_wp2
        go_roundw
        case rel => exact ⟨j + 1, by go_num, by omega, by omega, HN.out, next hbl.drew b1⟩
        case measure => simp [intOf]; omega
    · have HE : Hid (M.risesB l = true) := Lib.hid (hr.all (by omega))
      clear hr
      go_wp2
      go_ret
      exact ⟨ret_bool HE.out.symm, hbl⟩

set_option maxHeartbeats 1000000 in
theorem copiesOk_any (A : Option Addr) (l : List M.Cp) (cap : Nat) (w : World) (hl : Cps w A l) (hlen : l.length ≤ 1048576) (hp : ∀ c ∈ l, c.page.size ≤ maxLen) :
    Calls Tryz.prog 72 #[.slice A l.length cap] w fun r w' => r = .returned (.bool (decide (l.length ≤ 8) && M.cpsOk l)) ∧ Below w.heap.size w w' := by
  have HP := Lib.hid hp
  clear hp
  by_cases h8 : l.length ≤ 8
  · rcases ha : l.all M.cpOk with _ | _
    · have HE : Hid ((decide (l.length ≤ 8) && M.cpsOk l) = false) := Lib.hid (by simp only [M.cpsOk, ha]; simp)
      have HA := Lib.hid ha
      clear ha
      go_enter Tryz.func72, Tryz.ntmps72
      go_wp2_with fail
      refine (all_copyOk A l cap _ hl hlen HP.out).mono ?_
      rintro r w1 ⟨rfl, b1⟩
      rw [HA.out]
      go_wp2
      go_ret
      exact ⟨ret_bool HE.out.symm, b1⟩
    · have HE : Hid ((decide (l.length ≤ 8) && M.cpsOk l) = M.risesB l) := Lib.hid (by simp only [M.cpsOk, ha]; simp [h8])
      have HA := Lib.hid ha
      clear ha
      go_enter Tryz.func72, Tryz.ntmps72
      go_wp2_with fail
      refine (all_copyOk A l cap _ hl hlen HP.out).mono ?_
      rintro r w1 ⟨rfl, b1⟩
      rw [HA.out]
      go_wp2_with fail
      refine (rises_older A l cap _ (hl.below b1) hlen).mono ?_
      rintro r w2 ⟨rfl, b2⟩
      go_wp2
      go_ret
      exact ⟨ret_bool HE.out.symm, next b1 b2⟩
  · go_enter Tryz.func72, Tryz.ntmps72
    go_wp2
    go_ret
    exact ⟨ret_bool (by simp), Below.refl _ _⟩

set_option maxHeartbeats 1000000 in
theorem implWorkOk (name : ByteArray) (owner : Int) (A : Option Addr) (l : List M.Cp) (cap : Nat) (w : World) (hl : Cps w A l) (hn : name.size ≤ maxLen) (hlen : l.length ≤ 1048576) (hp : ∀ c ∈ l, c.page.size ≤ maxLen) :
    Calls Tryz.prog 34 #[wkV name owner A l.length cap] w fun r w' => r = .returned (.bool (M.wkOk ⟨name, owner, l⟩)) ∧ Below w.heap.size w w' := by
  have b0 := (Below.refl w.heap.size w).alloc (Nat.le_refl _) (.cells (wkL name owner A l.length cap) 39)
  have HP := Lib.hid hp
  have HL := Lib.hid hl
  clear hp hl
  rcases h1 : M.nameOk name.data.toList with _ | _
  · have HE : Hid (M.wkOk ⟨name, owner, l⟩ = false) := Lib.hid (by simp [M.wkOk, h1])
    go_enter Tryz.func34, Tryz.ntmps34
    go_wp2_with fail
    refine (implNameOk name _ hn).mono ?_
    rintro r w1 ⟨rfl, rfl⟩
    go_wp2
    go_ret
    exact ⟨ret_bool HE.out.symm, b0⟩
  · rcases h2 : M.inI owner 0 3 with _ | _
    · have HE : Hid (M.wkOk ⟨name, owner, l⟩ = false) := Lib.hid (by simp [M.wkOk, h2])
      go_enter Tryz.func34, Tryz.ntmps34
      go_wp2_with fail
      refine (implNameOk name _ hn).mono ?_
      rintro r w1 ⟨rfl, rfl⟩
      go_wp2_with fail
      refine (whoOk_any owner _).mono ?_
      rintro r w1 ⟨rfl, rfl⟩
      go_wp2
      go_ret
      exact ⟨ret_bool HE.out.symm, b0⟩
    · have HE : Hid (M.wkOk ⟨name, owner, l⟩ = (decide (l.length ≤ 8) && M.cpsOk l)) := Lib.hid (by simp [M.wkOk, h1, h2])
      go_enter Tryz.func34, Tryz.ntmps34
      go_wp2_with fail
      refine (implNameOk name _ hn).mono ?_
      rintro r w1 ⟨rfl, rfl⟩
      go_wp2_with fail
      refine (whoOk_any owner _).mono ?_
      rintro r w1 ⟨rfl, rfl⟩
      go_wp2_with fail
      refine (copiesOk_any A l cap _ (HL.out.alloc _) hlen HP.out).mono ?_
      rintro r w1 ⟨rfl, b1⟩
      go_wp2
      go_ret
      exact ⟨ret_bool HE.out.symm, next b0 b1⟩
end Go.Proofs.YtdcdalbbjfjadaaGreatDoor
