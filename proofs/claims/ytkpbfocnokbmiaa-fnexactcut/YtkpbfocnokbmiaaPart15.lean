/- Proved, in parts: Proved: the laws' helpers on a roll (its size, its copy in new memory, its likeness, marks in its list) answer as they should; they write nothing else. Condition: lists of at most a million. Proved: an argument that is a slice of records is a list of them, and an argument that is a work is its name, owner and copies; no program is named here. Proved: what a list of works in memory is, and that it stays behind calls and new blocks; no program's function is named here; no condition. Proved: an argument that is a slice of works is a list of them, each with its copies; no program is named here. Proved: the laws' helpers on one reply and one last (its size, its copy, its likeness) answer plain Lean functions; they write nothing that was there. No condition. Proved: the laws' helpers on lists of records of the type Last (their size, their copy, their likeness) answer plain Lean functions; they write nothing that was there. Condition: lists of at most a million. Proved: the program's WorkOk answers the same plain Lean function as the model's; it writes nothing that was there. Proved: the program's ShelfOk answers as the plain Lean function does; it writes nothing that was there. Condition: texts and lists of at most a million. Proved: the program's test of a book answers a plain Lean function; nothing that was there is written. Condition: texts and lists of at most a million. -/
import Derived.Test.YtkpbfocnokbmiaaPart13
import Derived.Test.YtkpbfocnokbmiaaPart14
import Derived.Test.YtkpbfocnokbmiaaPart08
import Derived.WalkKit
import Derived.Lib.SmallJoins
import Derived.Deep.Slices
import Derived.ChangeSame
import Derived.Test.YtkpbfocnokbmiaaPart04
import Derived.Test.YtkpbfocnokbmiaaPart07
import Derived.StillTailTactics
import Derived.IntWalk
import Derived.Test.YtkpbfocnokbmiaaPart09
namespace Go.Proofs.Ytkpbfocnokbmiaa
open Go.RowKit
set_option maxRecDepth 20000
set_option linter.unusedVariables false
set_option maxHeartbeats 1000000 in
theorem szRoll_small (b r : Int) (A : Option Addr) (l : List M.En) (cap : Nat) (n : Int) (w : World) (h1 : n ≤ 1048576) (hl : Ens w A l) (h : (l.length + szEns l : Int) ≤ n) :
    Calls Try.prog 36 #[roV b r A l.length cap, .int .i64 n] w fun e w' => e = .returned (.int .i64 (n - l.length - szEns l)) ∧ Below w.heap.size w w' := by
  have b0 := (Below.refl w.heap.size w).alloc (Nat.le_refl _) (.cells (roA b r A l.length cap) 55)
  have HN : Hid (0 ≤ n - (l.length : Int) - (szEns l : Int)) := Lib.hid (by omega)
  go_enter Try.func36, Try.ntmps36
  go_wp2_with fail
  refine (enszS_small A l cap n _ h1 (hl.below b0) h).mono ?_
  rintro e w1 ⟨rfl, b1⟩
  have hn := HN.out
  go_wp2
  go_ret
  exact ⟨rfl, next b0 b1⟩
set_option maxHeartbeats 1000000 in
theorem szRoll_big (b r : Int) (A : Option Addr) (l : List M.En) (cap : Nat) (n : Int) (w : World) (h0 : 0 ≤ n) (h1 : n ≤ 1048576) (hl : Ens w A l) (hlen : l.length ≤ maxLen) (hp : ∀ c ∈ l, enIn maxLen c) (h : n < (l.length + szEns l : Int)) :
    Calls Try.prog 36 #[roV b r A l.length cap, .int .i64 n] w fun e w' => e = .returned (.int .i64 (-1)) ∧ Below w.heap.size w w' := by
  have b0 := (Below.refl w.heap.size w).alloc (Nat.le_refl _) (.cells (roA b r A l.length cap) 55)
  go_enter Try.func36, Try.ntmps36
  go_wp2_with fail
  refine (enszS_big A l cap n _ h0 h1 (hl.below b0) hlen hp h).mono ?_
  rintro e w1 ⟨rfl, b1⟩
  go_wp2
  go_ret
  exact ⟨rfl, next b0 b1⟩
theorem results_toRoll (b r : Int) (A : Option Addr) (n c : Nat) (R : Nat) (W : World) (tmps : Array Value) (h2 : tmps.getD 2 undef = .pointer (some ⟨R, 0, none⟩)) (hW : Holds W R (roA b r A n c)) :
    (results Try.f37 tmps).run Try.prog W = .ok (roV b r A n c) W := by
  obtain ⟨q0, q1, q2⟩ := hW.three
  simp at h2
  simp [results, Try.results37, go_sem, h2, q0, q1, q2]
set_option maxHeartbeats 2000000 in
theorem toRoll_any (b r : Int) (A : Option Addr) (l : List M.En) (cap : Nat) (w : World) (hl : Ens w A l) (hlen : l.length ≤ 1048576) :
    Calls Try.prog 37 #[roV b r A l.length cap] w fun e w' => ∃ g, e = .returned (roV b r (some ⟨g, 0, none⟩) l.length l.length) ∧ EnsOwn w.heap.size w' (.slice (some ⟨g, 0, none⟩) l.length l.length) l ∧ Below w.heap.size w w' := by
  have hM := (((Mem.start w).new (roA b r A l.length cap) 55).new (roA 0 0 none 0 0) 26).new (roA b r none 0 0) 26
  simp only [World.size_alloc] at hM
  have HL := Lib.hid hl
  clear hl
  go_enter Try.func37, Try.ntmps37
  go_wp2_with fail
  refine (entoS_any A l cap _ (HL.out.below hM.1) hlen).mono ?_
  rintro e x1 ⟨rfl, ho, b1⟩
  have hM1 := hM.below b1
  simp only [World.size_alloc] at ho ⊢
  have HO := Lib.hid ho
  clear hM b1 ho
  obtain ⟨p0, p1, p2⟩ := (hM1.get (w.heap.size + 1 + 1) (roA b r none 0 0) (by simp)).three
  obtain ⟨q0, q1, q2⟩ := (hM1.get (w.heap.size + 1) (roA 0 0 none 0 0) (by simp)).three
  have y2 := hM1.loose (w.heap.size + 1 + 1) (by simp) 2
  have z0 := hM1.loose (w.heap.size + 1) (by simp) 0
  have z1 := hM1.loose (w.heap.size + 1) (by simp) 1
  have z2 := hM1.loose (w.heap.size + 1) (by simp) 2
  have zp := (hM1.get (w.heap.size + 1 + 1) (roA b r none 0 0) (by simp)).1
  have zq := (hM1.get (w.heap.size + 1) (roA 0 0 none 0 0) (by simp)).1
  have HM1 := Lib.hid hM1
  clear hM1
  go_wp2
  refine bodyPost_ret (results_toRoll b r (some ⟨w.heap.size + 1 + 1 + 1, 0, none⟩) l.length l.length (w.heap.size + 1) _ _ rfl ?_) rfl ⟨w.heap.size + 1 + 1 + 1, rfl, ?_, ?_⟩
  · exact ((HM1.out.get (w.heap.size + 1) (roA 0 0 none 0 0) (by simp)).otherM (by omega)).wr3 _ _ _
  · exact World.ownsRow.mono (row_set3 (row_set HO.out (by omega) 2 _) (by omega) _ _ _) (by omega)
  · exact far_3 (HM1.out.1.setCell (show w.heap.size ≤ w.heap.size + 1 + 1 by omega) _) (by omega) _ _ _
set_option maxHeartbeats 1000000 in
theorem eqRoll_same (b r : Int) (A B : Option Addr) (l : List M.En) (n m : Nat) (ca cb : Nat) (w : World) (hn : n = l.length) (hm : m = l.length) (ha : Ens w A l) (hb : Ens w B l) (hlen : l.length ≤ maxLen) :
    Calls Try.prog 38 #[roV b r A n ca, roV b r B m cb] w fun e w' => e = .returned (.bool true) ∧ Below w.heap.size w w' := by
  subst hn
  subst hm
  have b0 := ((Below.refl w.heap.size w).alloc (Nat.le_refl _) (.cells (roA b r A l.length ca) 26)).alloc (by simp) (.cells (roA b r B l.length cb) 26)
  go_enter Try.func38, Try.ntmps38
  go_wp2_with fail
  refine (eneqS_same A B l ca cb _ (ha.below b0) (hb.below b0) hlen).mono ?_
  rintro e w1 ⟨rfl, b1⟩
  go_wp2
  go_ret
  exact ⟨rfl, next b0 b1⟩
set_option maxHeartbeats 1000000 in
theorem markRoll_any (b r : Int) (A : Option Addr) (l : List M.En) (n cap k : Nat) (B : Nat) (w : World) (hn : n = l.length) (ho : EnsOwn B w (.slice A l.length cap) l) (hk0 : 0 < k) (hk : k + 10 * l.length ≤ 20000000) :
    Calls Try.prog 41 #[roV b r A n cap, .int .i64 k] w fun e w' => e = .returned (.int .i64 (k + 10 * l.length : Nat)) ∧ EnsOwn B w' (.slice A l.length cap) (enmks k l.length) ∧ TouchS (fun g => (Value.slice A l.length cap).ownBlock = some g) w w' := by
  subst hn
  have b0 := (Below.refl w.heap.size w).alloc (Nat.le_refl _) (.cells (roA b r A l.length cap) 26)
  go_enter Try.func41, Try.ntmps41
  go_wp2_with fail
  refine (enmark_own A l cap k B _ (Own.below ho b0) hk0 hk).mono ?_
  rintro e w1 ⟨rfl, o1, t1⟩
  have HT := Lib.hid (((TouchS.refl (fun g => (Value.slice A l.length cap).ownBlock = some g) w).below b0).then t1 (fun g hg => hg))
  clear t1
  go_wp2
  go_ret
  exact ⟨rfl, o1, HT.out⟩
set_option maxHeartbeats 1000000 in
theorem heldRoll_any (b r : Int) (A : Option Addr) (n cap k : Nat) (w : World) (hl : Ens w A (enmks k n)) (hk0 : 0 < k) (hk : k + 10 * n ≤ 20000000) :
    Calls Try.prog 44 #[roV b r A n cap, .int .i64 k] w fun e w' => e = .returned (.int .i64 (k + 10 * n : Nat)) ∧ Below w.heap.size w w' := by
  have b0 := (Below.refl w.heap.size w).alloc (Nat.le_refl _) (.cells (roA b r A n cap) 26)
  go_enter Try.func44, Try.ntmps44
  go_wp2_with fail
  refine (enheld_any A n cap k _ (hl.below b0) hk0 hk).mono ?_
  rintro e w1 ⟨rfl, b1⟩
  have hge : ¬ ((k + 10 * n : Nat) : Int) < 0 := by omega
  go_wp2
  go_ret
  exact ⟨rfl, next b0 b1⟩
end Go.Proofs.Ytkpbfocnokbmiaa
namespace Go.Proofs.Ytkpbfocnokbmiaa
open Go.ChangeShapes Go.WideShapes Go.ChangeAt Go.RowKit Go.Joins Go.Deep

theorem cell_spot {w : World} {a : Addr} {v : Value} (h : w.cell? a = some v) : a = ⟨a.block, a.off, none⟩ := by
  unfold World.cell? at h
  rcases a with ⟨b, o, _ | s⟩
  · rfl
  · split at h <;> simp at h

section
variable {H : Type} {enc : TypeId × Value → H} {P : Program} {w : World} {base : Nat} {spare : Nat → Bool} {held : Bool}

theorem open_rows {α : Type} [Inhabited α] {en : α → List Value} {k : Nat} {Q : α → Prop} {t e : TypeId} {fuel : Nat} {cs : List Value} {x : DataW H × List MemPlace} (ht : P.underlying t = some (.slice e)) (hk : P.cellsOf e = k) (hk0 : 0 < k)
    (hlen : ∀ x, (en x).length = k) (op : ∀ (n : Nat) (cs : List Value) (x : DataW H × List MemPlace), DataW.trod enc P w base spare held n e cs = some x → ∃ c, cs = en c ∧ Q c)
    (h : DataW.trod enc P w base spare held fuel t cs = some x) : ∃ (A : Option Addr) (l : List α) (c : Nat), cs = [.slice A l.length c] ∧ Flat en k w A l ∧ l.length ≤ c ∧ c ≤ maxLen ∧ ∀ x ∈ l, Q x := by
  subst hk
  rcases open_slice ht h with ⟨rfl, _⟩ | ⟨a, len, cap, m, n, D, Pl, rfl, hb, hl, hm, hmm, hx, hi⟩
  · exact ⟨none, [], 0, rfl, .inl rfl, Nat.le_refl _, Nat.zero_le _, by simp⟩
  · have hlm : len ≤ m := by rw [hmm]; split <;> omega
    have hall : ∀ i, i < len → ∃ c, Q c ∧ ∀ t u, (en c)[t]? = some u → w.cell? (a.add (i * P.cellsOf e + t)) = some u := by
      intro i hil
      obtain ⟨cs', hc, ht'⟩ := hi i (by omega)
      obtain ⟨c, rfl, hq⟩ := op n cs' _ ht'
      obtain ⟨_, hcl, hat⟩ := World.cells?_some hc
      refine ⟨c, hq, fun t u hu => ?_⟩
      have htl : t < P.cellsOf e := by
        rcases Nat.lt_or_ge t (en c).length with h' | h'
        · rw [hlen] at h'; exact h'
        · rw [List.getElem?_eq_none h'] at hu; cases hu
      have := hat t htl
      rw [← Go.Deep.add_add, this, hu]
    obtain ⟨F, hF⟩ : ∃ F : Nat → α, ∀ i, i < len → Q (F i) ∧ ∀ t u, (en (F i))[t]? = some u → w.cell? (a.add (i * P.cellsOf e + t)) = some u := by
      refine ⟨fun i => if h : i < len then Classical.choose (hall i h) else default, fun i hil => ?_⟩
      simp only [dif_pos hil]
      exact Classical.choose_spec (hall i hil)
    refine ⟨some a, (List.range len).map F, cap, by simp, ?_, by simpa using hl, hm, fun y hy => ?_⟩
    · rcases Nat.eq_zero_or_pos len with h0 | h0
      · subst h0; exact .inl rfl
      · have h1 : (en (F 0))[0]? = some ((en (F 0))[0]'(by rw [hlen]; exact hk0)) := List.getElem?_eq_getElem _
        have h2 := (hF 0 h0).2 0 _ h1
        have h3 : a.add (0 * P.cellsOf e + 0) = a := by simp [Addr.add]
        rw [h3] at h2
        have ha := cell_spot h2
        rw [ha]
        refine .inr ⟨a.block, a.off, rfl, World.block_lt_of_cell? w _ h2, fun i t x u hi hu => ?_⟩
        rw [List.getElem?_map] at hi
        have hil : i < len := by
          rcases Nat.lt_or_ge i len with h' | h'
          · exact h'
          · rw [List.getElem?_eq_none (by simpa using h')] at hi; cases hi
        rw [List.getElem?_range hil] at hi
        simp at hi
        subst hi
        have := (hF i hil).2 t u hu
        rw [ha, addr_add, ← Nat.add_assoc] at this
        exact this
    · simp at hy
      obtain ⟨i, hil, rfl⟩ := hy
      exact (hF i hil).1

theorem cells_ed {t : TypeId} {g0 g1 g2 : Field} {n : Nat} {cs : List Value} {x : DataW H × List MemPlace} (hs : P.underlying t = some (.struct #[g0, g1, g2])) (hC : P.cellsOf t = 3)
    (po : [g0.offset, g1.offset, g2.offset] = [0, 1, 2]) (pk : [P.cellsOf g0.type, P.cellsOf g1.type, P.cellsOf g2.type] = [1, 1, 1])
    (x0 : P.underlying g0.type = some (.int .i64)) (x1 : P.underlying g1.type = some (.int .i64)) (x2 : P.underlying g2.type = some (.int .i64))
    (h : DataW.trod enc P w base spare held n t cs = some x) : ∃ e : M.Ed, cs = [.int .i64 e.ma, .int .i64 e.mi, .int .i64 e.pa] := by
  obtain ⟨zs, m, _, _, hl, hlen', hfld'⟩ := DataW.trod_struct hs h
  simp only [List.cons.injEq, and_true] at po pk
  obtain ⟨p0, p1, p2⟩ := po
  obtain ⟨q0, q1, q2⟩ := pk
  match cs, hl.trans hC with
  | [c0, c1, c2], _ =>
    match zs, hlen' with
    | [z0, z1, z2], _ =>
      have i0 := hfld' 0 g0 rfl
      have i1 := hfld' 1 g1 rfl
      have i2 := hfld' 2 g2 rfl
      simp only [p0, p1, p2, q0, q1, q2, List.drop_zero, List.drop_succ_cons, List.take_succ_cons, List.take_zero, List.getElem?_cons_zero, List.getElem?_cons_succ] at i0 i1 i2
      obtain ⟨b0, j0, _⟩ := DataW.trod_int x0 i0
      obtain ⟨b1, j1, _⟩ := DataW.trod_int x1 i1
      obtain ⟨b2, j2, _⟩ := DataW.trod_int x2 i2
      simp only [List.cons.injEq, and_true] at j0 j1 j2
      subst j0 j1 j2
      exact ⟨⟨b0, b1, b2⟩, rfl⟩

end
end Go.Proofs.Ytkpbfocnokbmiaa
namespace Go.Proofs.Ytkpbfocnokbmiaa
open Go.RowKit

/-- A work as it stands in memory: its copies lie at ad. -/
structure Wr where
  name : ByteArray
  owner : Int
  ad : Option Addr
  cap : Nat
  cps : List M.Cp
def Wr.wk (r : Wr) : M.Wk := ⟨r.name, r.owner, r.cps⟩
abbrev wrL (r : Wr) : List Value := [.string r.name, .int .i64 r.owner, .slice r.ad r.cps.length r.cap]
instance : Inhabited Wr := ⟨⟨⟨#[]⟩, 0, none, 0, []⟩⟩

/-- A slice at A holds the works of l. -/
def Wks (w : World) (A : Option Addr) (l : List Wr) : Prop := Flat wrL 3 w A l ∧ ∀ r ∈ l, Cps w r.ad r.cps
theorem Wks.below {w w' : World} {A : Option Addr} {l : List Wr} (h : Wks w A l) (hb : Below w.heap.size w w') : Wks w' A l := ⟨h.1.below hb, fun r hr => (h.2 r hr).below hb⟩
theorem Wks.alloc {w : World} {A : Option Addr} {l : List Wr} (h : Wks w A l) (o : Obj) : Wks (w.alloc o) A l := h.below ((Below.refl _ _).alloc (Nat.le_refl _) o)
theorem Wks.drew {w : World} {A : Option Addr} {l : List Wr} (h : Wks w A l) : Wks w.drew A l := h
theorem Wks.nil (w : World) (A : Option Addr) : Wks w A [] := ⟨.inl rfl, by simp⟩

/-- Each text and list of l is such that Go can hold it. -/
def WrsIn (n : Nat) (l : List Wr) : Prop := ∀ r ∈ l, r.name.size ≤ n ∧ r.cps.length ≤ n ∧ ∀ c ∈ r.cps, c.page.size ≤ n
theorem WrsIn.mono {l : List Wr} {n m : Nat} (h : WrsIn n l) (hm : n ≤ m) : WrsIn m l := fun r hr =>
  ⟨Nat.le_trans (h r hr).1 hm, Nat.le_trans (h r hr).2.1 hm, fun c hc => Nat.le_trans ((h r hr).2.2 c hc) hm⟩
/-! ### The order of names. -/
namespace M
def nameLt (a b : ByteArray) : Bool := Op.bytesLess a.toList b.toList
def risesN : List Wk → Bool
  | a :: b :: l => nameLt a.name b.name && risesN (b :: l)
  | _ => true
theorem risesN_iff : ∀ l : List Wk, risesN l = true ↔ ∀ (i : Nat) (h : i + 1 < l.length), nameLt l[i].name l[i + 1].name = true
  | [] => by simp [risesN]
  | [a] => by simp [risesN]
  | a :: b :: l => by
    have ih := risesN_iff (b :: l)
    simp only [risesN, Bool.and_eq_true, ih]
    constructor
    · rintro ⟨h0, h⟩ i hi
      cases i with
      | zero => exact h0
      | succ i => exact h i (by simpa using hi)
    · intro h
      exact ⟨h 0 (by simp), fun i hi => h (i + 1) (by simpa using hi)⟩
end M
end Go.Proofs.Ytkpbfocnokbmiaa
namespace Go.Proofs.Ytkpbfocnokbmiaa
open Go.ChangeShapes Go.WideShapes Go.ChangeAt Go.RowKit Go.Joins Go.Deep
section
variable {H : Type} {enc : TypeId × Value → H} {P : Program} {w : World} {base : Nat} {spare : Nat → Bool} {held : Bool}

end
end Go.Proofs.Ytkpbfocnokbmiaa
namespace Go.Proofs.Ytkpbfocnokbmiaa
open Go.RowKit
set_option maxRecDepth 20000
end Go.Proofs.Ytkpbfocnokbmiaa
namespace Go.Proofs.Ytkpbfocnokbmiaa
open Go.RowKit
set_option maxRecDepth 20000
end Go.Proofs.Ytkpbfocnokbmiaa
namespace Go.Proofs.Ytkpbfocnokbmiaa
open Go.RowKit
set_option maxRecDepth 20000

/-- None of the first j is so. -/
def NoneTo (p : M.Cp → Bool) (l : List M.Cp) (j : Nat) : Prop := ∀ (i : Nat) (h : i < l.length), i < j → p l[i] = false
theorem NoneTo.zero (p : M.Cp → Bool) (l : List M.Cp) : NoneTo p l 0 := fun _ _ h => absurd h (by omega)
theorem NoneTo.next {p : M.Cp → Bool} {l : List M.Cp} {j : Nat} (h : NoneTo p l j) (hj : j < l.length) (hp : p l[j] = false) : NoneTo p l (j + 1) := fun i hi hij => by
  by_cases e : i = j
  · subst e; exact hp
  · exact h i hi (by omega)
theorem NoneTo.hit {p : M.Cp → Bool} {l : List M.Cp} {j : Nat} (h : NoneTo p l j) (hj : j < l.length) (hp : p l[j] = true) : l.findIdx p = j :=
  (List.findIdx_eq hj).2 ⟨hp, fun i hi => h i (by omega) hi⟩
theorem NoneTo.all {p : M.Cp → Bool} {l : List M.Cp} (h : NoneTo p l l.length) : l.findIdx p = l.length :=
  List.findIdx_eq_length.2 fun x hx => by
    obtain ⟨i, hi, rfl⟩ := List.mem_iff_getElem.1 hx
    simp [h i hi hi]

/-- Each of the first j is older than the next. -/
def RisesTo (l : List M.Cp) (j : Nat) : Prop := ∀ (i : Nat) (h : i + 1 < l.length), i + 1 < j → M.older l[i].ed l[i + 1].ed = true
theorem RisesTo.one (l : List M.Cp) : RisesTo l 1 := fun _ _ h => absurd h (by omega)
theorem RisesTo.next {l : List M.Cp} {k : Nat} (h : RisesTo l (k + 1)) (hk : k + 1 < l.length) (ho : M.older l[k].ed l[k + 1].ed = true) : RisesTo l (k + 2) := fun i hi hij => by
  by_cases e : i = k
  · subst e; exact ho
  · exact h i hi (by omega)
theorem RisesTo.all {l : List M.Cp} {j : Nat} (h : RisesTo l j) (hj : l.length ≤ j) : M.risesB l = true := (M.risesB_iff l).2 fun i hi => h i hi (by omega)
end Go.Proofs.Ytkpbfocnokbmiaa
namespace Go.Proofs.Ytkpbfocnokbmiaa
open Go.RowKit
set_option maxRecDepth 20000

def WNoneTo (p : Wr → Bool) (l : List Wr) (j : Nat) : Prop := ∀ (i : Nat) (h : i < l.length), i < j → p l[i] = false
theorem WNoneTo.zero (p : Wr → Bool) (l : List Wr) : WNoneTo p l 0 := fun _ _ h => absurd h (by omega)
theorem WNoneTo.next {p : Wr → Bool} {l : List Wr} {j : Nat} (h : WNoneTo p l j) (hj : j < l.length) (hp : p l[j] = false) : WNoneTo p l (j + 1) := fun i hi hij => by
  by_cases e : i = j
  · subst e; exact hp
  · exact h i hi (by omega)
theorem WNoneTo.hit {p : Wr → Bool} {l : List Wr} {j : Nat} (h : WNoneTo p l j) (hj : j < l.length) (hp : p l[j] = true) : l.findIdx p = j :=
  (List.findIdx_eq hj).2 ⟨hp, fun i hi => h i (by omega) hi⟩
theorem WNoneTo.all {p : Wr → Bool} {l : List Wr} (h : WNoneTo p l l.length) : l.findIdx p = l.length :=
  List.findIdx_eq_length.2 fun x hx => by
    obtain ⟨i, hi, rfl⟩ := List.mem_iff_getElem.1 hx
    simp [h i hi hi]

/-- Each of the first j is ahead of the next. -/
def WRisesTo (l : List Wr) (j : Nat) : Prop := ∀ (i : Nat) (h : i + 1 < l.length), i + 1 < j → M.nameLt l[i].name l[i + 1].name = true
theorem WRisesTo.one (l : List Wr) : WRisesTo l 1 := fun _ _ h => absurd h (by omega)
theorem WRisesTo.next {l : List Wr} {k : Nat} (h : WRisesTo l (k + 1)) (hk : k + 1 < l.length) (ho : M.nameLt l[k].name l[k + 1].name = true) : WRisesTo l (k + 2) := fun i hi hij => by
  by_cases e : i = k
  · subst e; exact ho
  · exact h i hi (by omega)
theorem WRisesTo.all {l : List Wr} {j : Nat} (h : WRisesTo l j) (hj : l.length ≤ j) : M.risesN (l.map Wr.wk) = true := (M.risesN_iff _).2 fun i hi => by
  have hi' : i + 1 < l.length := by simpa using hi
  simpa [Wr.wk] using h i hi' (by omega)
end Go.Proofs.Ytkpbfocnokbmiaa
namespace Go.Proofs.Ytkpbfocnokbmiaa
open Go.RowKit
set_option maxRecDepth 20000
namespace M
end M
end Go.Proofs.Ytkpbfocnokbmiaa
