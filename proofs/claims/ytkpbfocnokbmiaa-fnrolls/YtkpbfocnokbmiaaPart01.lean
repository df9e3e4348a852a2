/- Proved, in parts: Proved: small facts that every walk uses, and that the model's l1In asks whether a number lies between two others; no condition. Proved: plain facts on lists of bytes, names and pages; no program is named here; no condition. Proved: a scope of code holds what it must where every jump to one of its labels keeps a relation and lowers a measure; no condition.
   A scope through which the run jumps to any of its labels: what holds at each label's jump, and a measure that every pass from a label lowers. -/
import Derived.Test.YtkpbfocnokbmiaaChecked
import Derived.WalkKit
import Derived.WalkSpells
import Derived.WalkLawsBesides
import Derived.Lib.Hide
import Derived.Laws.IdiomStrings
import Derived.Scope
namespace Go.Proofs.Ytkpbfocnokbmiaa
open Go.RowKit

theorem ret_bool {a b : Bool} (h : a = b) : Ending.returned (.bool a) = .returned (.bool b) := by rw [h]

theorem ret_int {k : IntKind} {a b : Int} (h : a = b) : Ending.returned (.int k a) = .returned (.int k b) := by rw [h]

theorem bcell {W w1 : World} (hb : Below W.heap.size W w1) : (∀ b o, b < W.heap.size → w1.cell? ⟨b, o, none⟩ = W.cell? ⟨b, o, none⟩) ∧ (∀ b o, b < W.heap.size → w1.frozen? ⟨b, o, none⟩ = W.frozen? ⟨b, o, none⟩) :=
  ⟨fun b o h => hb.cell (p := ⟨b, o, none⟩) h, fun b o h => hb.frozen (p := ⟨b, o, none⟩) h⟩

theorem ba_ext {a b : ByteArray} (h : a.data.toList = b.data.toList) : a = b := by
  cases a; cases b; rw [Array.toList_inj] at h; exact congrArg _ h
/-- A block that was made stays as it was made. -/
theorem box_cells {w w2 : World} {C : Array Value} {t : TypeId} (h : Below (w.alloc (.cells C t)).heap.size (w.alloc (.cells C t)) w2) (j : Nat) : w2.cell? ⟨w.heap.size, j, none⟩ = C[j]? := by
  rw [h.cell (p := ⟨w.heap.size, j, none⟩) (by simp), World.cell?_alloc_mark]

theorem next {w w1 w2 : World} (h : Below w.heap.size w w1) (k : Below w1.heap.size w1 w2) : Below w.heap.size w w2 := h.trans (k.mono h.size)

/-- A call that writes nothing old keeps every cell, and what was so since an elder world. -/
theorem keeps {P : Program} {f : FuncId} {args : Array Value} {w W0 : World} {R : Ending → World → Prop} (h : Calls P f args w fun r w' => R r w' ∧ Below w.heap.size w w') (h0 : Below W0.heap.size W0 w) :
    Calls P f args w fun r w' => R r w' ∧ Below W0.heap.size W0 w' ∧ ∀ b o v, w.cell? ⟨b, o, none⟩ = some v → w'.cell? ⟨b, o, none⟩ = some v :=
  h.mono fun _ _ ⟨hr, hb⟩ => ⟨hr, next h0 hb, fun b o v hc => by rw [hb.cell (p := ⟨b, o, none⟩) (World.block_lt_of_cell? w _ hc)]; exact hc⟩

theorem in_any (x lo hi : Int) (w : World) : Calls Try.prog 62 #[.int .i64 x, .int .i64 lo, .int .i64 hi] w fun e w' => e = .returned (.bool (decide (lo ≤ x) && decide (x ≤ hi))) ∧ w = w' := by
  by_cases h1 : lo ≤ x
  · by_cases h2 : x ≤ hi
    · go_enter Try.func62, Try.ntmps62
      go_wp2
      go_ret
      exact ⟨by simp [h1, h2], rfl⟩
    · go_enter Try.func62, Try.ntmps62
      go_wp2
      go_ret
      exact ⟨by simp [h2], rfl⟩
  · go_enter Try.func62, Try.ntmps62
    go_wp2
    go_ret
    exact ⟨by simp; omega, rfl⟩

end Go.Proofs.Ytkpbfocnokbmiaa
namespace Go.Proofs.Ytkpbfocnokbmiaa
namespace M

def smallI (n : Int) : Bool := decide (97 ≤ n) && decide (n ≤ 122)
def digitI (n : Int) : Bool := decide (48 ≤ n) && decide (n ≤ 57)
def small (c : UInt8) : Bool := smallI (c.toNat : Int)
def digit (c : UInt8) : Bool := digitI (c.toNat : Int)
def pageB (c : UInt8) : Bool := small c || digit c
def pageOk (l : List UInt8) : Bool := decide (l.length ≤ 12) && l.all pageB

theorem take_snoc (s : ByteArray) (k : Nat) (h : k < s.size) : s.data.toList.take (k + 1) = s.data.toList.take k ++ [s[k]] := by
  rw [List.take_succ_eq_append_getElem (by simpa using h)]; rfl

theorem drop_cons (s : ByteArray) (k : Nat) (h : k < s.size) : s.data.toList.drop k = s[k] :: s.data.toList.drop (k + 1) := by
  rw [List.drop_eq_getElem_cons (by simpa using h)]; rfl

theorem len_toList (s : ByteArray) : s.data.toList.length = s.size := by simp

theorem page_step_yes (s : ByteArray) (k : Nat) (h : k < s.size) (hb : pageB s[k] = true) (ha : (s.data.toList.take k).all pageB = true) :
    (s.data.toList.take (k + 1)).all pageB = true := by
  rw [take_snoc s k h, List.all_append, ha]; simp [hb]

theorem page_no (s : ByteArray) (k : Nat) (h : k < s.size) (hb : pageB s[k] = false) : pageOk s.data.toList = false := by
  unfold pageOk
  have : s.data.toList.all pageB = false := by
    rw [← List.take_append_drop k s.data.toList, List.all_append, drop_cons s k h]; simp [hb]
  rw [this]; simp

theorem page_all (s : ByteArray) (ha : (s.data.toList.take s.size).all pageB = true) : pageOk s.data.toList = decide (s.size ≤ 12) := by
  unfold pageOk
  rw [List.take_of_length_le (by simp)] at ha
  rw [ha]; simp

theorem page_long (s : ByteArray) (h : 12 < s.size) : pageOk s.data.toList = false := by
  unfold pageOk; simp; omega

/-- The two states of a name's reading: 'false' where a letter is wanted, 'true' behind a letter. -/
def nm : Bool → List UInt8 → Bool
  | false, [] => false
  | false, c :: r => small c && nm true r
  | true, [] => true
  | true, c :: r => if c.toNat = 45 then nm false r else small c && nm true r
def nameOk (l : List UInt8) : Bool := decide (l.length ≤ 8) && nm false l

theorem small_not_dash {c : UInt8} (h : small c = true) : c.toNat ≠ 45 := by
  intro e; unfold small smallI at h; rw [e] at h; simp at h

/-- Behind which kind of byte place k stands. -/
def stB (l : List UInt8) : Nat → Bool
  | 0 => false
  | k + 1 => decide ((l.getD k 0).toNat ≠ 45)

theorem getD_at (s : ByteArray) (k : Nat) (h : k < s.size) : s.data.toList.getD k 0 = s[k] := by
  rw [List.getD_eq_getElem?_getD, List.getElem?_eq_getElem (by simpa using h)]; rfl

theorem nm_small (s : ByteArray) (k : Nat) (h : k < s.size) (hc : small s[k] = true) (b : Bool) :
    nm b (s.data.toList.drop k) = nm true (s.data.toList.drop (k + 1)) := by
  rw [drop_cons s k h]
  cases b
  · simp [nm, hc]
  · simp [nm, hc, small_not_dash hc]

theorem st_small (s : ByteArray) (k : Nat) (h : k < s.size) (hc : s[k].toNat ≠ 45) : stB s.data.toList (k + 1) = true := by
  simp only [stB, getD_at s k h]; simpa using hc

theorem nm_dash (s : ByteArray) (k : Nat) (h : k < s.size) (hc : s[k].toNat = 45) :
    nm true (s.data.toList.drop k) = nm false (s.data.toList.drop (k + 1)) := by
  rw [drop_cons s k h]; simp [nm, hc]

theorem st_dash (s : ByteArray) (k : Nat) (h : k < s.size) (hc : s[k].toNat = 45) : stB s.data.toList (k + 1) = false := by
  simp only [stB, getD_at s k h]; simpa using hc

theorem nm_false_no (s : ByteArray) (k : Nat) (h : k < s.size) (hs : small s[k] = false) :
    nm false (s.data.toList.drop k) = false := by
  rw [drop_cons s k h]; simp [nm, hs]

theorem nm_other_no (s : ByteArray) (k : Nat) (h : k < s.size) (hs : small s[k] = false) (hc : s[k].toNat ≠ 45) (b : Bool) :
    nm b (s.data.toList.drop k) = false := by
  rw [drop_cons s k h]; cases b
  · simp [nm, hs]
  · simp [nm, hs, hc]

theorem nm_end (s : ByteArray) (b : Bool) : nm b (s.data.toList.drop s.size) = b := by
  rw [List.drop_of_length_le (by simp)]; cases b <;> rfl

theorem name_no (s : ByteArray) (h : nm false s.data.toList = false) : nameOk s.data.toList = false := by
  unfold nameOk; rw [h]; simp

theorem name_long (s : ByteArray) (h : 8 < s.size) : nameOk s.data.toList = false := by
  unfold nameOk; simp; omega

theorem name_yes (s : ByteArray) (h : s.size ≤ 8) (h1 : nm false s.data.toList = true) : nameOk s.data.toList = true := by
  unfold nameOk; rw [h1]; simp; omega

/-- What holds at the head of each round of the model's loop. -/
def Nrel (s : ByteArray) (k : Nat) : Prop := k ≤ s.size ∧ nm false s.data.toList = nm (stB s.data.toList k) (s.data.toList.drop k) ∧ (k = s.size → stB s.data.toList k = decide (k ≠ 0))

theorem Nrel_zero (s : ByteArray) : Nrel s 0 := ⟨Nat.zero_le _, rfl, fun _ => rfl⟩

theorem Nrel_small (s : ByteArray) (k : Nat) (h : k < s.size) (hr : Nrel s k) (hc : small s[k] = true) : Nrel s (k + 1) := by
  have hd := st_small s k h (small_not_dash hc)
  refine ⟨h, ?_, fun _ => ?_⟩
  · rw [hr.2.1, nm_small s k h hc, hd]
  · rw [hd]; simp

theorem Nrel_dash (s : ByteArray) (k : Nat) (h : k < s.size) (hr : Nrel s k) (hc : s[k].toNat = 45) (hl : k + 1 ≠ s.size) (hp : stB s.data.toList k = true) : Nrel s (k + 1) := by
  refine ⟨h, ?_, fun e => absurd e hl⟩
  rw [hr.2.1, hp, nm_dash s k h hc, st_dash s k h hc]

theorem Nrel_other (s : ByteArray) (k : Nat) (h : k < s.size) (hr : Nrel s k) (hs : small s[k] = false) (hc : s[k].toNat ≠ 45) : nameOk s.data.toList = false := by
  apply name_no; rw [hr.2.1]; exact nm_other_no s k h hs hc _

theorem Nrel_stfalse (s : ByteArray) (k : Nat) (h : k < s.size) (hr : Nrel s k) (hs : small s[k] = false) (hp : stB s.data.toList k = false) : nameOk s.data.toList = false := by
  apply name_no; rw [hr.2.1, hp]; exact nm_false_no s k h hs

theorem Nrel_last (s : ByteArray) (k : Nat) (h : k < s.size) (hr : Nrel s k) (hs : small s[k] = false) (hc : s[k].toNat = 45) (hl : k + 1 = s.size) : nameOk s.data.toList = false := by
  apply name_no; rw [hr.2.1]
  cases hb : stB s.data.toList k
  · exact nm_false_no s k h hs
  · rw [nm_dash s k h hc, hl, nm_end]

theorem Nrel_end (s : ByteArray) (hr : Nrel s s.size) : nameOk s.data.toList = (decide (1 ≤ s.size) && decide (s.size ≤ 8)) := by
  unfold nameOk
  rw [hr.2.1, nm_end, hr.2.2 rfl]
  rw [Bool.and_comm, len_toList, decide_eq_decide.2 (show s.size ≠ 0 ↔ 1 ≤ s.size by omega)]

theorem st_prev (s : ByteArray) (k : Nat) (h0 : 0 < k) (h : k - 1 < s.size) : stB s.data.toList k = decide (s[k - 1].toNat ≠ 45) := by
  obtain ⟨j, rfl⟩ : ∃ j, k = j + 1 := ⟨k - 1, by omega⟩
  simp only [stB, Nat.add_sub_cancel]
  rw [getD_at s j (by omega)]

end M
end Go.Proofs.Ytkpbfocnokbmiaa
namespace Go.Proofs.Ytkpbfocnokbmiaa
open Go

/-- As Q; by a goto to label l: J l. -/
def jumpsTo (J : Nat → Act → World → Prop) (Q : Exit → Act → World → Prop) : Exit → Act → World → Prop
  | .goto l, a, w => J l a w
  | e, a, w => Q e a w

theorem jumpsTo_mono {J J' : Nat → Act → World → Prop} {Q : Exit → Act → World → Prop} (h : ∀ l a w, J l a w → J' l a w) : ∀ e a w, jumpsTo J Q e a w → jumpsTo J' Q e a w := by
  intro e a w hq
  cases e <;> first | exact h _ _ _ hq | exact hq

theorem wp_scope_labels {P : Program} {a : Act} {w : World} {Q : Exit → Act → World → Prop} {c : Code} (J : Nat → Act → World → Prop) (mu : Nat → Act → World → Nat)
    (pass0 : ∀ l a w, J l a w → ∃ rest, findLabel c l = some (.seq .skip rest) ∧ rest.wp P (jumpsTo (fun l' a' w' => J l' a' w' ∧ mu l' a' w' < mu l a w) Q) a w)
    (first0 : (∀ l a w rest, findLabel c l = some (.seq .skip rest) → J l a w → rest.wp P (jumpsTo J Q) a w) → c.wp P (jumpsTo J Q) a w) :
    (Code.scope c).wp P Q a w := by
  have pass : ∀ l a w, J l a w → ∃ rest, findLabel c l = some rest ∧ rest.wp P (jumpsTo (fun l' a' w' => J l' a' w' ∧ mu l' a' w' < mu l a w) Q) a w := by
    intro l a w hJ
    obtain ⟨rest, hr, hp⟩ := pass0 l a w hJ
    exact ⟨_, hr, wp_seq (wp_skip hp)⟩
  have first : c.wp P (jumpsTo J Q) a w := by
    refine first0 fun l a w rest hr hJ => ?_
    obtain ⟨rest', hr', hp⟩ := pass0 l a w hJ
    have er : rest = rest' := by rw [hr] at hr'; injection hr' with h1; injection h1
    subst er
    exact wp_mono hp (jumpsTo_mono fun _ _ _ h => h.1)
  intro b k cs
  have key : ∀ n l a w rest, mu l a w = n → J l a w → findLabel c l = some rest →
      ∃ e a' w', Q e a' w' ∧ Arrives P (lone (b.at a (.code rest :: .inScope c :: k)) cs w) b k cs e a' w' := by
    intro n
    induction n using Nat.strongRecOn with
    | _ n ih =>
      intro l a w rest hn hJ hr
      obtain ⟨rest', hr', hp⟩ := pass l a w hJ
      have er : rest = rest' := by rw [hr] at hr'; exact Option.some.inj hr'
      subst er
      obtain ⟨e, a1, w1, hq, harr⟩ := hp b (.inScope c :: k) cs
      cases e with
      | normal => exact ⟨.normal, a1, w1, hq, Steps.trans harr (.one step_inScope)⟩
      | exit id => exact ⟨.exit id, a1, w1, hq, fun k' hk => harr k' (by simp [exitTo, hk])⟩
      | goto l' =>
        obtain ⟨hJ', hlt⟩ := hq
        obtain ⟨rest2, hr2, _⟩ := pass l' a1 w1 hJ'
        obtain ⟨e2, a2, w2, hq2, harr2⟩ := ih _ (by omega) l' a1 w1 rest2 rfl hJ' hr2
        exact ⟨e2, a2, w2, hq2, .of_steps (harr _ (by simp [gotoIn, hr2])) harr2⟩
      | ret => exact ⟨_, a1, w1, hq, harr⟩
      | panic ch => exact ⟨_, a1, w1, hq, harr⟩
      | outgrown => exact ⟨_, a1, w1, hq, harr⟩
  obtain ⟨e, a1, w1, hq, harr⟩ := first b (.inScope c :: k) cs
  cases e with
  | normal => exact ⟨.normal, a1, w1, hq, .head step_scope (Steps.trans harr (.one step_inScope))⟩
  | exit id => exact ⟨.exit id, a1, w1, hq, fun k' hk => .head step_scope (harr k' (by simp [exitTo, hk]))⟩
  | goto l' =>
    obtain ⟨rest2, hr2, _⟩ := pass l' a1 w1 hq
    obtain ⟨e2, a2, w2, hq2, harr2⟩ := key _ l' a1 w1 rest2 rfl hq hr2
    exact ⟨e2, a2, w2, hq2, .of_steps (.head step_scope (harr _ (by simp [gotoIn, hr2]))) harr2⟩
  | ret => exact ⟨_, a1, w1, hq, .of_steps (.one step_scope) harr⟩
  | panic ch => exact ⟨_, a1, w1, hq, .of_steps (.one step_scope) harr⟩
  | outgrown => exact ⟨_, a1, w1, hq, .of_steps (.one step_scope) harr⟩

section
variable {J : Nat → Act → World → Prop} {Q : Exit → Act → World → Prop} {a : Act} {w : World}
theorem jumpsTo_normal : jumpsTo J Q .normal a w = Q .normal a w := rfl
theorem jumpsTo_exit (id : Nat) : jumpsTo J Q (.exit id) a w = Q (.exit id) a w := rfl
theorem jumpsTo_ret : jumpsTo J Q .ret a w = Q .ret a w := rfl
end
attribute [go_sem] jumpsTo_normal jumpsTo_exit jumpsTo_ret
end Go.Proofs.Ytkpbfocnokbmiaa
