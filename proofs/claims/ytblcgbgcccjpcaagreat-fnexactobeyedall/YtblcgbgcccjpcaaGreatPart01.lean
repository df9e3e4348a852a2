/- Proved, in parts: Proved: small facts that every walk uses, and that the model's l1In asks whether a number lies between two others; no condition. Proved: plain facts on lists of bytes, names and pages; no program is named here; no condition. Proved: a scope of code holds what it must where every jump to one of its labels keeps a relation and lowers a measure; no condition.
   A scope through which the run jumps to any of its labels: what holds at each label's jump, and a measure that every pass from a label lowers. Proved: NameOk and PageOk, of the program and of its model, answer one and the same Lean function at every text of at most maxLen bytes, and leave the world as it is. -/
import Derived.Test.YtblcgbgcccjpcaaGreatChecked
import Derived.WalkKit
import Derived.WalkSpells
import Derived.WalkLawsBesides
import Derived.Lib.Hide
import Derived.Laws.IdiomStrings
import Derived.Scope
import Derived.WalkMore
import Derived.ScopeJumps
namespace Go.Proofs.YtblcgbgcccjpcaaGreat
open Go.RowKit

theorem ret_bool {a b : Bool} (h : a = b) : Ending.returned (.bool a) = .returned (.bool b) := by rw [h]

theorem ret_int {k : IntKind} {a b : Int} (h : a = b) : Ending.returned (.int k a) = .returned (.int k b) := by rw [h]

theorem bcell {W w1 : World} (hb : Below W.heap.size W w1) : (∀ b o, b < W.heap.size → w1.cell? ⟨b, o, none⟩ = W.cell? ⟨b, o, none⟩) ∧ (∀ b o, b < W.heap.size → w1.frozen? ⟨b, o, none⟩ = W.frozen? ⟨b, o, none⟩) :=
  ⟨fun b o h => hb.cell (p := ⟨b, o, none⟩) h, fun b o h => hb.frozen (p := ⟨b, o, none⟩) h⟩

theorem ba_ext {a b : ByteArray} (h : a.data.toList = b.data.toList) : a = b := by
  cases a; cases b; rw [Array.toList_inj] at h; exact congrArg _ h
/-- A block that was made stays as it was made. -/
theorem box_cells {w w2 : World} {C : Array Value} {t : TypeId} (h : Below (w.alloc (.cells C t)).heap.size (w.alloc (.cells C t)) w2) (j : Nat) : w2.cell? ⟨w.heap.size, j, none⟩ = C[j]? := by
  rw [h.cell (p := ⟨w.heap.size, j, none⟩) (by simp), World.cell?_alloc_mark]

theorem next {w w1 w2 : World} (h : Below w.heap.size w w1) (k : Below w1.heap.size w1 w2) : Below w.heap.size w w2 := h.trans (k.mono h.size)

/-- A call that writes nothing old keeps every cell, and what was so since an elder world. -/
theorem keeps {P : Program} {f : FuncId} {args : Array Value} {w W0 : World} {R : Ending → World → Prop} (h : Calls P f args w fun r w' => R r w' ∧ Below w.heap.size w w') (h0 : Below W0.heap.size W0 w) :
    Calls P f args w fun r w' => R r w' ∧ Below W0.heap.size W0 w' ∧ ∀ b o v, w.cell? ⟨b, o, none⟩ = some v → w'.cell? ⟨b, o, none⟩ = some v :=
  h.mono fun _ _ ⟨hr, hb⟩ => ⟨hr, next h0 hb, fun b o v hc => by rw [hb.cell (p := ⟨b, o, none⟩) (World.block_lt_of_cell? w _ hc)]; exact hc⟩

theorem in_any (x lo hi : Int) (w : World) : Calls Tryz.prog 60 #[.int .i64 x, .int .i64 lo, .int .i64 hi] w fun e w' => e = .returned (.bool (decide (lo ≤ x) && decide (x ≤ hi))) ∧ w = w' := by
  by_cases h1 : lo ≤ x
  · by_cases h2 : x ≤ hi
    · go_enter Tryz.func60, Tryz.ntmps60
      go_wp2
      go_ret
      exact ⟨by simp [h1, h2], rfl⟩
    · go_enter Tryz.func60, Tryz.ntmps60
      go_wp2
      go_ret
      exact ⟨by simp [h2], rfl⟩
  · go_enter Tryz.func60, Tryz.ntmps60
    go_wp2
    go_ret
    exact ⟨by simp; omega, rfl⟩

end Go.Proofs.YtblcgbgcccjpcaaGreat
namespace Go.Proofs.YtblcgbgcccjpcaaGreat
namespace M

def smallI (n : Int) : Bool := decide (97 ≤ n) && decide (n ≤ 122)
def digitI (n : Int) : Bool := decide (48 ≤ n) && decide (n ≤ 57)
def small (c : UInt8) : Bool := smallI (c.toNat : Int)
def digit (c : UInt8) : Bool := digitI (c.toNat : Int)
def pageB (c : UInt8) : Bool := small c || digit c
def pageOk (l : List UInt8) : Bool := decide (l.length ≤ 12) && l.all pageB

theorem take_snoc (s : ByteArray) (k : Nat) (h : k < s.size) : s.data.toList.take (k + 1) = s.data.toList.take k ++ [s[k]] := by
  rw [List.take_succ_eq_append_getElem (by simpa using h)]; rfl

theorem drop_cons (s : ByteArray) (k : Nat) (h : k < s.size) : s.data.toList.drop k = s[k] :: s.data.toList.drop (k + 1) := by
  rw [List.drop_eq_getElem_cons (by simpa using h)]; rfl

theorem len_toList (s : ByteArray) : s.data.toList.length = s.size := by simp

theorem page_step_yes (s : ByteArray) (k : Nat) (h : k < s.size) (hb : pageB s[k] = true) (ha : (s.data.toList.take k).all pageB = true) :
    (s.data.toList.take (k + 1)).all pageB = true := by
  rw [take_snoc s k h, List.all_append, ha]; simp [hb]

theorem page_no (s : ByteArray) (k : Nat) (h : k < s.size) (hb : pageB s[k] = false) : pageOk s.data.toList = false := by
  unfold pageOk
  have : s.data.toList.all pageB = false := by
    rw [← List.take_append_drop k s.data.toList, List.all_append, drop_cons s k h]; simp [hb]
  rw [this]; simp

theorem page_all (s : ByteArray) (ha : (s.data.toList.take s.size).all pageB = true) : pageOk s.data.toList = decide (s.size ≤ 12) := by
  unfold pageOk
  rw [List.take_of_length_le (by simp)] at ha
  rw [ha]; simp

theorem page_long (s : ByteArray) (h : 12 < s.size) : pageOk s.data.toList = false := by
  unfold pageOk; simp; omega

/-- The two states of a name's reading: 'false' where a letter is wanted, 'true' behind a letter. -/
def nm : Bool → List UInt8 → Bool
  | false, [] => false
  | false, c :: r => small c && nm true r
  | true, [] => true
  | true, c :: r => if c.toNat = 45 then nm false r else small c && nm true r
def nameOk (l : List UInt8) : Bool := decide (l.length ≤ 8) && nm false l

theorem small_not_dash {c : UInt8} (h : small c = true) : c.toNat ≠ 45 := by
  intro e; unfold small smallI at h; rw [e] at h; simp at h

/-- Behind which kind of byte place k stands. -/
def stB (l : List UInt8) : Nat → Bool
  | 0 => false
  | k + 1 => decide ((l.getD k 0).toNat ≠ 45)

theorem getD_at (s : ByteArray) (k : Nat) (h : k < s.size) : s.data.toList.getD k 0 = s[k] := by
  rw [List.getD_eq_getElem?_getD, List.getElem?_eq_getElem (by simpa using h)]; rfl

theorem nm_small (s : ByteArray) (k : Nat) (h : k < s.size) (hc : small s[k] = true) (b : Bool) :
    nm b (s.data.toList.drop k) = nm true (s.data.toList.drop (k + 1)) := by
  rw [drop_cons s k h]
  cases b
  · simp [nm, hc]
  · simp [nm, hc, small_not_dash hc]

theorem st_small (s : ByteArray) (k : Nat) (h : k < s.size) (hc : s[k].toNat ≠ 45) : stB s.data.toList (k + 1) = true := by
  simp only [stB, getD_at s k h]; simpa using hc

theorem nm_dash (s : ByteArray) (k : Nat) (h : k < s.size) (hc : s[k].toNat = 45) :
    nm true (s.data.toList.drop k) = nm false (s.data.toList.drop (k + 1)) := by
  rw [drop_cons s k h]; simp [nm, hc]

theorem st_dash (s : ByteArray) (k : Nat) (h : k < s.size) (hc : s[k].toNat = 45) : stB s.data.toList (k + 1) = false := by
  simp only [stB, getD_at s k h]; simpa using hc

theorem nm_false_no (s : ByteArray) (k : Nat) (h : k < s.size) (hs : small s[k] = false) :
    nm false (s.data.toList.drop k) = false := by
  rw [drop_cons s k h]; simp [nm, hs]

theorem nm_other_no (s : ByteArray) (k : Nat) (h : k < s.size) (hs : small s[k] = false) (hc : s[k].toNat ≠ 45) (b : Bool) :
    nm b (s.data.toList.drop k) = false := by
  rw [drop_cons s k h]; cases b
  · simp [nm, hs]
  · simp [nm, hs, hc]

theorem nm_end (s : ByteArray) (b : Bool) : nm b (s.data.toList.drop s.size) = b := by
  rw [List.drop_of_length_le (by simp)]; cases b <;> rfl

theorem name_no (s : ByteArray) (h : nm false s.data.toList = false) : nameOk s.data.toList = false := by
  unfold nameOk; rw [h]; simp

theorem name_long (s : ByteArray) (h : 8 < s.size) : nameOk s.data.toList = false := by
  unfold nameOk; simp; omega

theorem name_yes (s : ByteArray) (h : s.size ≤ 8) (h1 : nm false s.data.toList = true) : nameOk s.data.toList = true := by
  unfold nameOk; rw [h1]; simp; omega

/-- What holds at the head of each round of the model's loop. -/
def Nrel (s : ByteArray) (k : Nat) : Prop := k ≤ s.size ∧ nm false s.data.toList = nm (stB s.data.toList k) (s.data.toList.drop k) ∧ (k = s.size → stB s.data.toList k = decide (k ≠ 0))

theorem Nrel_zero (s : ByteArray) : Nrel s 0 := ⟨Nat.zero_le _, rfl, fun _ => rfl⟩

theorem Nrel_small (s : ByteArray) (k : Nat) (h : k < s.size) (hr : Nrel s k) (hc : small s[k] = true) : Nrel s (k + 1) := by
  have hd := st_small s k h (small_not_dash hc)
  refine ⟨h, ?_, fun _ => ?_⟩
  · rw [hr.2.1, nm_small s k h hc, hd]
  · rw [hd]; simp

theorem Nrel_dash (s : ByteArray) (k : Nat) (h : k < s.size) (hr : Nrel s k) (hc : s[k].toNat = 45) (hl : k + 1 ≠ s.size) (hp : stB s.data.toList k = true) : Nrel s (k + 1) := by
  refine ⟨h, ?_, fun e => absurd e hl⟩
  rw [hr.2.1, hp, nm_dash s k h hc, st_dash s k h hc]

theorem Nrel_other (s : ByteArray) (k : Nat) (h : k < s.size) (hr : Nrel s k) (hs : small s[k] = false) (hc : s[k].toNat ≠ 45) : nameOk s.data.toList = false := by
  apply name_no; rw [hr.2.1]; exact nm_other_no s k h hs hc _

theorem Nrel_stfalse (s : ByteArray) (k : Nat) (h : k < s.size) (hr : Nrel s k) (hs : small s[k] = false) (hp : stB s.data.toList k = false) : nameOk s.data.toList = false := by
  apply name_no; rw [hr.2.1, hp]; exact nm_false_no s k h hs

theorem Nrel_last (s : ByteArray) (k : Nat) (h : k < s.size) (hr : Nrel s k) (hs : small s[k] = false) (hc : s[k].toNat = 45) (hl : k + 1 = s.size) : nameOk s.data.toList = false := by
  apply name_no; rw [hr.2.1]
  cases hb : stB s.data.toList k
  · exact nm_false_no s k h hs
  · rw [nm_dash s k h hc, hl, nm_end]

theorem Nrel_end (s : ByteArray) (hr : Nrel s s.size) : nameOk s.data.toList = (decide (1 ≤ s.size) && decide (s.size ≤ 8)) := by
  unfold nameOk
  rw [hr.2.1, nm_end, hr.2.2 rfl]
  rw [Bool.and_comm, len_toList, decide_eq_decide.2 (show s.size ≠ 0 ↔ 1 ≤ s.size by omega)]

theorem st_prev (s : ByteArray) (k : Nat) (h0 : 0 < k) (h : k - 1 < s.size) : stB s.data.toList k = decide (s[k - 1].toNat ≠ 45) := by
  obtain ⟨j, rfl⟩ : ∃ j, k = j + 1 := ⟨k - 1, by omega⟩
  simp only [stB, Nat.add_sub_cancel]
  rw [getD_at s j (by omega)]

end M
end Go.Proofs.YtblcgbgcccjpcaaGreat
namespace Go.Proofs.YtblcgbgcccjpcaaGreat
open Go

/-- As Q; by a goto to label l: J l. -/
def jumpsTo (J : Nat → Act → World → Prop) (Q : Exit → Act → World → Prop) : Exit → Act → World → Prop
  | .goto l, a, w => J l a w
  | e, a, w => Q e a w

theorem jumpsTo_mono {J J' : Nat → Act → World → Prop} {Q : Exit → Act → World → Prop} (h : ∀ l a w, J l a w → J' l a w) : ∀ e a w, jumpsTo J Q e a w → jumpsTo J' Q e a w := by
  intro e a w hq
  cases e <;> first | exact h _ _ _ hq | exact hq

theorem wp_scope_labels {P : Program} {a : Act} {w : World} {Q : Exit → Act → World → Prop} {c : Code} (J : Nat → Act → World → Prop) (mu : Nat → Act → World → Nat)
    (pass0 : ∀ l a w, J l a w → ∃ rest, findLabel c l = some (.seq .skip rest) ∧ rest.wp P (jumpsTo (fun l' a' w' => J l' a' w' ∧ mu l' a' w' < mu l a w) Q) a w)
    (first0 : (∀ l a w rest, findLabel c l = some (.seq .skip rest) → J l a w → rest.wp P (jumpsTo J Q) a w) → c.wp P (jumpsTo J Q) a w) :
    (Code.scope c).wp P Q a w := by
  have pass : ∀ l a w, J l a w → ∃ rest, findLabel c l = some rest ∧ rest.wp P (jumpsTo (fun l' a' w' => J l' a' w' ∧ mu l' a' w' < mu l a w) Q) a w := by
    intro l a w hJ
    obtain ⟨rest, hr, hp⟩ := pass0 l a w hJ
    exact ⟨_, hr, wp_seq (wp_skip hp)⟩
  have first : c.wp P (jumpsTo J Q) a w := by
    refine first0 fun l a w rest hr hJ => ?_
    obtain ⟨rest', hr', hp⟩ := pass0 l a w hJ
    have er : rest = rest' := by rw [hr] at hr'; injection hr' with h1; injection h1
    subst er
    exact wp_mono hp (jumpsTo_mono fun _ _ _ h => h.1)
  intro b k cs
  have key : ∀ n l a w rest, mu l a w = n → J l a w → findLabel c l = some rest →
      ∃ e a' w', Q e a' w' ∧ Arrives P (lone (b.at a (.code rest :: .inScope c :: k)) cs w) b k cs e a' w' := by
    intro n
    induction n using Nat.strongRecOn with
    | _ n ih =>
      intro l a w rest hn hJ hr
      obtain ⟨rest', hr', hp⟩ := pass l a w hJ
      have er : rest = rest' := by rw [hr] at hr'; exact Option.some.inj hr'
      subst er
      obtain ⟨e, a1, w1, hq, harr⟩ := hp b (.inScope c :: k) cs
      cases e with
      | normal => exact ⟨.normal, a1, w1, hq, Steps.trans harr (.one step_inScope)⟩
      | exit id => exact ⟨.exit id, a1, w1, hq, fun k' hk => harr k' (by simp [exitTo, hk])⟩
      | goto l' =>
        obtain ⟨hJ', hlt⟩ := hq
        obtain ⟨rest2, hr2, _⟩ := pass l' a1 w1 hJ'
        obtain ⟨e2, a2, w2, hq2, harr2⟩ := ih _ (by omega) l' a1 w1 rest2 rfl hJ' hr2
        exact ⟨e2, a2, w2, hq2, .of_steps (harr _ (by simp [gotoIn, hr2])) harr2⟩
      | ret => exact ⟨_, a1, w1, hq, harr⟩
      | panic ch => exact ⟨_, a1, w1, hq, harr⟩
      | outgrown => exact ⟨_, a1, w1, hq, harr⟩
  obtain ⟨e, a1, w1, hq, harr⟩ := first b (.inScope c :: k) cs
  cases e with
  | normal => exact ⟨.normal, a1, w1, hq, .head step_scope (Steps.trans harr (.one step_inScope))⟩
  | exit id => exact ⟨.exit id, a1, w1, hq, fun k' hk => .head step_scope (harr k' (by simp [exitTo, hk]))⟩
  | goto l' =>
    obtain ⟨rest2, hr2, _⟩ := pass l' a1 w1 hq
    obtain ⟨e2, a2, w2, hq2, harr2⟩ := key _ l' a1 w1 rest2 rfl hq hr2
    exact ⟨e2, a2, w2, hq2, .of_steps (.head step_scope (harr _ (by simp [gotoIn, hr2]))) harr2⟩
  | ret => exact ⟨_, a1, w1, hq, .of_steps (.one step_scope) harr⟩
  | panic ch => exact ⟨_, a1, w1, hq, .of_steps (.one step_scope) harr⟩
  | outgrown => exact ⟨_, a1, w1, hq, .of_steps (.one step_scope) harr⟩

section
variable {J : Nat → Act → World → Prop} {Q : Exit → Act → World → Prop} {a : Act} {w : World}
theorem jumpsTo_normal : jumpsTo J Q .normal a w = Q .normal a w := rfl
theorem jumpsTo_exit (id : Nat) : jumpsTo J Q (.exit id) a w = Q (.exit id) a w := rfl
theorem jumpsTo_ret : jumpsTo J Q .ret a w = Q .ret a w := rfl
end
attribute [go_sem] jumpsTo_normal jumpsTo_exit jumpsTo_ret
end Go.Proofs.YtblcgbgcccjpcaaGreat
namespace Go.Proofs.YtblcgbgcccjpcaaGreat
open Go.RowKit

theorem isSmall_any (n : Int) (w : World) : Calls Tryz.prog 183 #[.int .u8 n] w fun e w' => e = .returned (.bool (M.smallI n)) ∧ w = w' := by
  by_cases h1 : 97 ≤ n
  · by_cases h2 : n ≤ 122
    · go_enter Tryz.func183, Tryz.ntmps183
      go_wp2
      go_ret
      exact ⟨by simp [M.smallI, h1, h2], rfl⟩
    · go_enter Tryz.func183, Tryz.ntmps183
      go_wp2
      go_ret
      exact ⟨by simp [M.smallI, h1, h2], rfl⟩
  · go_enter Tryz.func183, Tryz.ntmps183
    go_wp2
    go_ret
    exact ⟨by simp [M.smallI]; omega, rfl⟩

theorem isDigit_any (n : Int) (w : World) : Calls Tryz.prog 201 #[.int .u8 n] w fun e w' => e = .returned (.bool (M.digitI n)) ∧ w = w' := by
  by_cases h1 : 48 ≤ n
  · by_cases h2 : n ≤ 57
    · go_enter Tryz.func201, Tryz.ntmps201
      go_wp2
      go_ret
      exact ⟨by simp [M.digitI, h1, h2], rfl⟩
    · go_enter Tryz.func201, Tryz.ntmps201
      go_wp2
      go_ret
      exact ⟨by simp [M.digitI, h1, h2], rfl⟩
  · go_enter Tryz.func201, Tryz.ntmps201
    go_wp2
    go_ret
    exact ⟨by simp [M.digitI]; omega, rfl⟩

set_option maxHeartbeats 400000 in
theorem specPageOk (s : ByteArray) (w : World) (hs : s.size ≤ maxLen) :
    Calls Tryz.prog 134 #[.string s] w fun e w' => e = .returned (.bool (M.pageOk s.data.toList)) ∧ w = w' := by
  unfold maxLen at hs
  go_enter Tryz.func134, Tryz.ntmps134
  go_wp2
  go_loop [3] (fun i => ∃ k : Nat, k ≤ s.size ∧ i = .int .i64 k ∧ (s.data.toList.take k).all M.pageB = true) (fun i => s.size - (intOf i).toNat)
  case atStart => exact ⟨0, Nat.zero_le _, rfl, rfl⟩
  case round =>
    obtain ⟨k, hk, rfl, hall⟩ := hrel
    have HA := Lib.hid hall
    clear hall
    by_cases hlt : k < s.size
    · by_cases hb : M.pageB s[k] = true
      · have HB := Lib.hid (M.page_step_yes s k hlt hb HA.out)
        have hc : (97 ≤ (s[k].toNat : Int) ∧ (s[k].toNat : Int) ≤ 122) ∨ (48 ≤ (s[k].toNat : Int) ∧ (s[k].toNat : Int) ≤ 57) := by
          simpa [M.pageB, M.small, M.digit, M.smallI, M.digitI] using hb
        clear hb
        go_wp2
        all_goals
          go_round
          case rel => exact ⟨k + 1, by omega, by go_num, HB.out⟩
          case measure => simp [intOf]; omega
      · have HB := Lib.hid (M.page_no s k hlt (by simpa using hb))
        have hc : ((s[k].toNat : Int) < 97 ∨ 122 < (s[k].toNat : Int)) ∧ ((s[k].toNat : Int) < 48 ∨ 57 < (s[k].toNat : Int)) := by
          simp [M.pageB, M.small, M.digit, M.smallI, M.digitI] at hb
          omega
        clear hb
        go_wp2
        all_goals
          go_ret
          exact ⟨ret_bool HB.out.symm, rfl⟩
    · obtain rfl : k = s.size := by omega
      have HB := Lib.hid (M.page_all s HA.out)
      go_wp2
      go_ret
      exact ⟨ret_bool (by rw [HB.out]; exact decide_eq_decide.2 (by omega)), rfl⟩

def PJ (s : ByteArray) (w : World) (l : Nat) (a : Act) (w' : World) : Prop :=
  ∃ (k : Nat) (u4 u5 u6 u7 u8 u9 u10 u11 u12 u13 u14 u15 u16 u17 u18 u19 u20 u21 u22 u23 u24 : Value), l = 0 ∧ w = w' ∧ k ≤ s.size ∧ (s.data.toList.take k).all M.pageB = true ∧
    a = { tmps := #[.string s, undef, .bool false, .int .i64 k, u4, u5, u6, u7, u8, u9, u10, u11, u12, u13, u14, u15, u16, u17, u18, u19, u20, u21, u22, u23, u24], defers := [] }

set_option maxHeartbeats 400000 in
theorem implPageOk (s : ByteArray) (w : World) (hs : s.size ≤ maxLen) :
    Calls Tryz.prog 170 #[.string s] w fun e w' => e = .returned (.bool (M.pageOk s.data.toList)) ∧ w = w' := by
  unfold maxLen at hs
  by_cases hl : 12 < s.size
  · have HB := Lib.hid (M.page_long s hl)
    go_enter Tryz.func170, Tryz.ntmps170
    go_wp2
    go_step3
    go_wp2
    rw [Exit.noGoto_ret]
    go_ret
    exact ⟨ret_bool HB.out.symm, rfl⟩
  · go_enter Tryz.func170, Tryz.ntmps170
    go_wp2
    refine wp_scope_labels (PJ s w) (fun _ a _ => s.size - (intOf (a.tmps.getD 3 undef)).toNat) ?_ ?_
    · rintro l a w' ⟨k, u4, u5, u6, u7, u8, u9, u10, u11, u12, u13, u14, u15, u16, u17, u18, u19, u20, u21, u22, u23, u24, rfl, rfl, hk, hall, rfl⟩
      refine ⟨_, rfl, ?_⟩
      have HA := Lib.hid hall
      clear hall
      by_cases hlt : k < s.size
      · have hne : ((k : Int) == (s.size : Int)) = false := by simp; omega
        rcases hS : M.smallI ((s[k].toNat : Nat) : Int) with _ | _
        · rcases hD : M.digitI ((s[k].toNat : Nat) : Int) with _ | _
          · have HB := Lib.hid (M.page_no s k hlt (by simp [M.pageB, M.small, M.digit, hS, hD]))
            go_wp2_with (first | (go_at_call 183; refine (isSmall_any _ _).mono ?_; rintro e w' ⟨rfl, rfl⟩) | (go_at_call 201; refine (isDigit_any _ _).mono ?_; rintro e w' ⟨rfl, rfl⟩))
            go_ret
            exact ⟨ret_bool HB.out.symm, rfl⟩
          · have HB := Lib.hid (M.page_step_yes s k hlt (by simp [M.pageB, M.small, M.digit, hS, hD]) HA.out)
            go_wp2_with (first | (go_at_call 183; refine (isSmall_any _ _).mono ?_; rintro e w' ⟨rfl, rfl⟩) | (go_at_call 201; refine (isDigit_any _ _).mono ?_; rintro e w' ⟨rfl, rfl⟩))
            go_step3
            refine ⟨⟨k + 1, _, _, _, _, _, _, _, _, _, _, _, _, _, _, _, _, _, _, _, _, _, rfl, rfl, by omega, HB.out, rfl⟩, ?_⟩
            simp [intOf]; omega
        · have HB := Lib.hid (M.page_step_yes s k hlt (by simp [M.pageB, M.small, M.digit, hS]) HA.out)
          go_wp2_with (first | (go_at_call 183; refine (isSmall_any _ _).mono ?_; rintro e w' ⟨rfl, rfl⟩) | (go_at_call 201; refine (isDigit_any _ _).mono ?_; rintro e w' ⟨rfl, rfl⟩))
          go_step3
          refine ⟨⟨k + 1, _, _, _, _, _, _, _, _, _, _, _, _, _, _, _, _, _, _, _, _, _, rfl, rfl, by omega, HB.out, rfl⟩, ?_⟩
          simp [intOf]; omega
      · obtain rfl : k = s.size := by omega
        have HB := Lib.hid (M.page_all s HA.out)
        go_wp2
        go_ret
        exact ⟨ret_bool (by rw [HB.out]; simp; omega), rfl⟩
    · intro hpass
      have HP := Lib.hid hpass
      clear hpass
      go_wp2
      go_step3
      rename_i hK
      refine hK _ _ ?_
      exact HP.out 0 _ _ _ rfl ⟨0, _, _, _, _, _, _, _, _, _, _, _, _, _, _, _, _, _, _, _, _, _, rfl, rfl, Nat.zero_le _, rfl, rfl⟩

set_option maxHeartbeats 1000000 in
theorem specNameOk (s : ByteArray) (w : World) (hs : s.size ≤ maxLen) :
    Calls Tryz.prog 122 #[.string s] w fun e w' => e = .returned (.bool (M.nameOk s.data.toList)) ∧ w = w' := by
  unfold maxLen at hs
  go_enter Tryz.func122, Tryz.ntmps122
  go_wp2
  go_loop [3] (fun i => ∃ k : Nat, i = .int .i64 k ∧ M.Nrel s k) (fun i => s.size - (intOf i).toNat)
  case atStart => exact ⟨0, rfl, M.Nrel_zero s⟩
  case round =>
    obtain ⟨k, rfl, hr⟩ := hrel
    have hk := hr.1
    have HR := Lib.hid hr
    clear hr
    by_cases hlt : k < s.size
    · by_cases hsm : 97 ≤ (s[k].toNat : Int) ∧ (s[k].toNat : Int) ≤ 122
      · have HN := Lib.hid (M.Nrel_small s k hlt HR.out (by simp [M.small, M.smallI, hsm]))
        obtain ⟨h1, h2⟩ := hsm
        go_wp2
        go_round
        case rel => exact ⟨k + 1, by go_num, HN.out⟩
        case measure => simp [intOf]; omega
      · have hsf : M.small s[k] = false := by simp [M.small, M.smallI]; omega
        have HS := Lib.hid hsf
        clear hsf
        by_cases hd : s[k].toNat = 45
        · have hd2 : ((s[k].toNat : Int) != 45) = false := by simp; omega
          have hle : (s[k].toNat : Int) ≤ 45 := by omega
          by_cases h0 : k = 0
          · have HN := Lib.hid (M.Nrel_stfalse s k hlt HR.out HS.out (by rw [h0]; rfl))
            have h0' : ((k : Int) == 0) = true := by simp [h0]
            clear hd h0
            go_wp2
            go_ret
            exact ⟨ret_bool HN.out.symm, rfl⟩
          · have h0' : ((k : Int) == 0) = false := by simp [h0]
            by_cases hl : k + 1 = s.size
            · have HN := Lib.hid (M.Nrel_last s k hlt HR.out HS.out hd hl)
              have hl' : ((k : Int) == (s.size : Int) - 1) = true := by simp; omega
              have hp : 1 ≤ s.size := by omega
              clear hd h0 hl
              go_wp2
              go_ret
              exact ⟨ret_bool HN.out.symm, rfl⟩
            · have hp : 1 ≤ s.size := by omega
              obtain ⟨j, rfl⟩ : ∃ j, k = j + 1 := ⟨k - 1, by omega⟩
              clear h0'
              have h0' : ((j : Int) + 1 == 0) = false := by simp; omega
              have hl' : ((j : Int) + 1 == (s.size : Int) - 1) = false := by simp; omega
              have hj : j < s.size := by omega
              have hst := M.st_prev s (j + 1) (by omega) (by omega)
              simp only [Nat.add_sub_cancel] at hst
              by_cases hpd : s[j].toNat = 45
              · have HN := Lib.hid (M.Nrel_stfalse s (j + 1) hlt HR.out HS.out (by rw [hst]; simpa using hpd))
                have hpd' : ((s[j].toNat : Int) == 45) = true := by simp; omega
                clear hd h0 hl hst hpd
                go_wp2
                go_ret
                exact ⟨ret_bool HN.out.symm, rfl⟩
              · have HN := Lib.hid (M.Nrel_dash s (j + 1) hlt HR.out hd hl (by rw [hst]; simpa using hpd))
                have hpd' : ((s[j].toNat : Int) == 45) = false := by simp; omega
                clear hd h0 hl hst hpd
                go_wp2
                go_round
                case rel => exact ⟨j + 1 + 1, by go_num, HN.out⟩
                case measure => simp [intOf]; omega
        · have HN := Lib.hid (M.Nrel_other s k hlt HR.out HS.out hd)
          have hd2 : ((s[k].toNat : Int) != 45) = true := by simp; omega
          clear hd
          by_cases h1 : 97 ≤ (s[k].toNat : Int)
          · have h2 : decide ((s[k].toNat : Int) ≤ 122) = false := by simp; omega
            go_wp2
            go_ret
            exact ⟨ret_bool HN.out.symm, rfl⟩
          · go_wp2
            go_ret
            exact ⟨ret_bool HN.out.symm, rfl⟩
    · obtain rfl : k = s.size := by omega
      have HN := Lib.hid (M.Nrel_end s HR.out)
      go_wp2_with (go_at_call 60; refine (in_any _ _ _ _).mono ?_; rintro e w' ⟨rfl, rfl⟩)
      go_ret
      exact ⟨ret_bool (by rw [HN.out, decide_eq_decide.2 (show (1 : Int) ≤ (s.size : Int) ↔ 1 ≤ s.size by omega), decide_eq_decide.2 (show (s.size : Int) ≤ 8 ↔ s.size ≤ 8 by omega)]), rfl⟩


def NJ (s : ByteArray) (w : World) (l : Nat) (a : Act) (w' : World) : Prop :=
  ∃ (k : Nat) (u4 u5 u6 u7 u8 u9 u10 u11 u12 u13 u14 u15 u16 u17 u18 u19 u20 u21 u22 u23 u24 u25 u26 u27 u28 u29 u30 u31 u32 u33 u34 u35 : Value), w = w' ∧ k ≤ s.size ∧
    (l = 0 ∧ M.nm false s.data.toList = M.nm false (s.data.toList.drop k) ∨ l = 1 ∧ M.nm false s.data.toList = M.nm true (s.data.toList.drop k)) ∧
    a = { tmps := #[.string s, undef, .bool false, .int .i64 k, u4, u5, u6, u7, u8, u9, u10, u11, u12, u13, u14, u15, u16, u17, u18, u19, u20, u21, u22, u23, u24, u25, u26, u27, u28, u29, u30, u31, u32, u33, u34, u35], defers := [] }

set_option maxHeartbeats 1000000 in
theorem implNameOk (s : ByteArray) (w : World) (hs : s.size ≤ maxLen) :
    Calls Tryz.prog 154 #[.string s] w fun e w' => e = .returned (.bool (M.nameOk s.data.toList)) ∧ w = w' := by
  unfold maxLen at hs
  by_cases hl : 8 < s.size
  · have HB := Lib.hid (M.name_long s hl)
    go_enter Tryz.func154, Tryz.ntmps154
    go_wp2
    go_step3
    go_wp2
    rw [Exit.noGoto_ret]
    go_ret
    exact ⟨ret_bool HB.out.symm, rfl⟩
  · go_enter Tryz.func154, Tryz.ntmps154
    go_wp2
    refine wp_scope_labels (NJ s w) (fun _ a _ => s.size - (intOf (a.tmps.getD 3 undef)).toNat) ?_ ?_
    · rintro l a w' ⟨k, u4,u5,u6,u7,u8,u9,u10,u11,u12,u13,u14,u15,u16,u17,u18,u19,u20,u21,u22,u23,u24,u25,u26,u27,u28,u29,u30,u31,u32,u33,u34,u35, rfl, hk, hq, rfl⟩
      rcases hq with ⟨rfl, hq⟩ | ⟨rfl, hq⟩
      · refine ⟨_, rfl, ?_⟩
        have HQ := Lib.hid hq
        clear hq
        by_cases hlt : k < s.size
        · have hne : ((k : Int) == (s.size : Int)) = false := by simp; omega
          rcases hS : M.smallI ((s[k].toNat : Nat) : Int) with _ | _
          · have HN := Lib.hid (M.name_no s (HQ.out.trans (M.nm_false_no s k hlt hS)))
            go_wp2_with (go_at_call 183; refine (isSmall_any _ _).mono ?_; rintro e w' ⟨rfl, rfl⟩)
            go_ret
            exact ⟨ret_bool HN.out.symm, rfl⟩
          · have HM := Lib.hid (HQ.out.trans (M.nm_small s k hlt hS false))
            go_wp2_with (go_at_call 183; refine (isSmall_any _ _).mono ?_; rintro e w' ⟨rfl, rfl⟩)
            go_step3
            rename_i hK
            refine hK _ _ ?_
            clear hK HQ hS hne
            by_cases hlt1 : k + 1 < s.size
            · have hne1 : (((k : Int) + 1 : Int) == (s.size : Int)) = false := by simp; omega
              by_cases hd : s[k + 1].toNat = 45
              · have hd1 : ((s[k + 1].toNat : Int) == 45) = true := by simp; omega
                have HN := Lib.hid (HM.out.trans (M.nm_dash s (k + 1) hlt1 hd))
                clear hd
                go_wp2_with (go_at_call 183; refine (isSmall_any _ _).mono ?_; rintro e w' ⟨rfl, rfl⟩)
                go_step3
                refine ⟨⟨k + 1 + 1, _, _, _, _, _, _, _, _, _, _, _, _, _, _, _, _, _, _, _, _, _, _, _, _, _, _, _, _, _, _, _, _, rfl, by omega, .inl ⟨rfl, HN.out⟩, rfl⟩, ?_⟩
                simp [intOf]; omega
              · have hd1 : ((s[k + 1].toNat : Int) == 45) = false := by simp; omega
                rcases hS1 : M.smallI ((s[k + 1].toNat : Nat) : Int) with _ | _
                · have HN := Lib.hid (M.name_no s (HM.out.trans (M.nm_other_no s (k + 1) hlt1 hS1 hd true)))
                  clear hd
                  go_wp2_with (go_at_call 183; refine (isSmall_any _ _).mono ?_; rintro e w' ⟨rfl, rfl⟩)
                  go_ret
                  exact ⟨ret_bool HN.out.symm, rfl⟩
                · have HN := Lib.hid (HM.out.trans (M.nm_small s (k + 1) hlt1 hS1 true))
                  clear hd
                  go_wp2_with (go_at_call 183; refine (isSmall_any _ _).mono ?_; rintro e w' ⟨rfl, rfl⟩)
                  go_step3
                  refine ⟨⟨k + 1 + 1, _, _, _, _, _, _, _, _, _, _, _, _, _, _, _, _, _, _, _, _, _, _, _, _, _, _, _, _, _, _, _, _, rfl, by omega, .inr ⟨rfl, HN.out⟩, rfl⟩, ?_⟩
                  simp [intOf]; omega
            · have hne1 : (((k : Int) + 1 : Int) == (s.size : Int)) = true := by simp; omega
              have HN : Hid (M.nameOk s.data.toList = true) := Lib.hid (M.name_yes s (by omega) (by
                have e : k + 1 = s.size := by omega
                have h := HM.out
                rw [e, M.nm_end] at h; exact h))
              go_wp2
              go_ret
              exact ⟨ret_bool HN.out.symm, rfl⟩
        · have hne : ((k : Int) == (s.size : Int)) = true := by simp; omega
          have HN : Hid (M.nameOk s.data.toList = false) := Lib.hid (M.name_no s (by
            have e : k = s.size := by omega
            have h := HQ.out
            rw [e, M.nm_end] at h; exact h))
          go_wp2
          go_ret
          exact ⟨ret_bool HN.out.symm, rfl⟩
      · refine ⟨_, rfl, ?_⟩
        have HQ := Lib.hid hq
        clear hq
        by_cases hlt1 : k < s.size
        · have hne1 : ((k : Int) == (s.size : Int)) = false := by simp; omega
          by_cases hd : s[k].toNat = 45
          · have hd1 : ((s[k].toNat : Int) == 45) = true := by simp; omega
            have HN := Lib.hid (HQ.out.trans (M.nm_dash s (k) hlt1 hd))
            clear hd
            go_wp2_with (go_at_call 183; refine (isSmall_any _ _).mono ?_; rintro e w' ⟨rfl, rfl⟩)
            go_step3
            refine ⟨⟨k + 1, _, _, _, _, _, _, _, _, _, _, _, _, _, _, _, _, _, _, _, _, _, _, _, _, _, _, _, _, _, _, _, _, rfl, by omega, .inl ⟨rfl, HN.out⟩, rfl⟩, ?_⟩
            simp [intOf]; omega
          · have hd1 : ((s[k].toNat : Int) == 45) = false := by simp; omega
            rcases hS1 : M.smallI ((s[k].toNat : Nat) : Int) with _ | _
            · have HN := Lib.hid (M.name_no s (HQ.out.trans (M.nm_other_no s (k) hlt1 hS1 hd true)))
              clear hd
              go_wp2_with (go_at_call 183; refine (isSmall_any _ _).mono ?_; rintro e w' ⟨rfl, rfl⟩)
              go_ret
              exact ⟨ret_bool HN.out.symm, rfl⟩
            · have HN := Lib.hid (HQ.out.trans (M.nm_small s (k) hlt1 hS1 true))
              clear hd
              go_wp2_with (go_at_call 183; refine (isSmall_any _ _).mono ?_; rintro e w' ⟨rfl, rfl⟩)
              go_step3
              refine ⟨⟨k + 1, _, _, _, _, _, _, _, _, _, _, _, _, _, _, _, _, _, _, _, _, _, _, _, _, _, _, _, _, _, _, _, _, rfl, by omega, .inr ⟨rfl, HN.out⟩, rfl⟩, ?_⟩
              simp [intOf]; omega
        · have hne1 : ((k : Int) == (s.size : Int)) = true := by simp; omega
          have HN : Hid (M.nameOk s.data.toList = true) := Lib.hid (M.name_yes s (by omega) (by
            have e : k = s.size := by omega
            have h := HQ.out
            rw [e, M.nm_end] at h; exact h))
          go_wp2
          go_ret
          exact ⟨ret_bool HN.out.symm, rfl⟩
    · intro hpass
      have HP := Lib.hid hpass
      clear hpass
      go_wp2
      go_step3
      rename_i hK
      refine hK _ _ ?_
      exact HP.out 0 _ _ _ rfl ⟨0, _, _, _, _, _, _, _, _, _, _, _, _, _, _, _, _, _, _, _, _, _, _, _, _, _, _, _, _, _, _, _, _, rfl, Nat.zero_le _, .inl ⟨rfl, rfl⟩, rfl⟩
end Go.Proofs.YtblcgbgcccjpcaaGreat
