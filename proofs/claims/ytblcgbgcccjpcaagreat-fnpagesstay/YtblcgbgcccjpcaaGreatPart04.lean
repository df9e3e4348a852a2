/- Proved, in parts: Proved: what a list of works in memory is, and that it stays behind calls and new blocks; no program's function is named here; no condition. Proved: a scope of code holds what it must where every jump to one of its labels keeps a relation and lowers a measure; no condition.
   A scope through which the run jumps to any of its labels: what holds at each label's jump, and a measure that every pass from a label lowers. Proved: NameOk and PageOk, of the program and of its model, answer one and the same Lean function at every text of at most maxLen bytes, and leave the world as it is. -/
import Derived.Test.YtblcgbgcccjpcaaGreatPart03
import Derived.Scope
import Derived.Test.YtblcgbgcccjpcaaGreatPart01
import Derived.Lib.Hide
import Derived.WalkMore
import Derived.ScopeJumps
namespace Go.Proofs.YtblcgbgcccjpcaaGreat
open Go.RowKit

/-- A work as it stands in memory: its copies lie at ad. -/
structure Wr where
  name : ByteArray
  owner : Int
  ad : Option Addr
  cap : Nat
  cps : List M.Cp
def Wr.wk (r : Wr) : M.Wk := ⟨r.name, r.owner, r.cps⟩
abbrev wrL (r : Wr) : List Value := [.string r.name, .int .i64 r.owner, .slice r.ad r.cps.length r.cap]
theorem wrL_len (r : Wr) : (wrL r).length = 3 := rfl
instance : Inhabited Wr := ⟨⟨⟨#[]⟩, 0, none, 0, []⟩⟩

/-- A slice at A holds the works of l. -/
def Wks (w : World) (A : Option Addr) (l : List Wr) : Prop := Flat wrL 3 w A l ∧ ∀ r ∈ l, Cps w r.ad r.cps
theorem Wks.below {w w' : World} {A : Option Addr} {l : List Wr} (h : Wks w A l) (hb : Below w.heap.size w w') : Wks w' A l := ⟨h.1.below hb, fun r hr => (h.2 r hr).below hb⟩
theorem Wks.alloc {w : World} {A : Option Addr} {l : List Wr} (h : Wks w A l) (o : Obj) : Wks (w.alloc o) A l := h.below ((Below.refl _ _).alloc (Nat.le_refl _) o)
theorem Wks.drew {w : World} {A : Option Addr} {l : List Wr} (h : Wks w A l) : Wks w.drew A l := h
theorem Wks_at {w : World} {A : Option Addr} {l : List Wr} {i : Nat} (h : Wks w A l) (hi : i < l.length) : ∃ b o, A = some ⟨b, o, none⟩ ∧ b < w.heap.size ∧
    w.cell? ⟨b, o + i * 3, none⟩ = some (.string l[i].name) ∧ w.cell? ⟨b, o + i * 3 + 1, none⟩ = some (.int .i64 l[i].owner) ∧ w.cell? ⟨b, o + i * 3 + 2, none⟩ = some (.slice l[i].ad l[i].cps.length l[i].cap) ∧ Cps w l[i].ad l[i].cps := by
  obtain ⟨b, o, rfl, hb, h'⟩ := h.1.at hi
  exact ⟨b, o, rfl, hb, h' 0 _ rfl, h' 1 _ rfl, h' 2 _ rfl, h.2 _ (List.getElem_mem hi)⟩
theorem Wks.nil (w : World) (A : Option Addr) : Wks w A [] := ⟨.inl rfl, by simp⟩

/-- Each text and list of l is such that Go can hold it. -/
def WrsIn (n : Nat) (l : List Wr) : Prop := ∀ r ∈ l, r.name.size ≤ n ∧ r.cps.length ≤ n ∧ ∀ c ∈ r.cps, c.page.size ≤ n
theorem WrsIn.mono {l : List Wr} {n m : Nat} (h : WrsIn n l) (hm : n ≤ m) : WrsIn m l := fun r hr =>
  ⟨Nat.le_trans (h r hr).1 hm, Nat.le_trans (h r hr).2.1 hm, fun c hc => Nat.le_trans ((h r hr).2.2 c hc) hm⟩
/-! ### The order of names. -/
theorem bytesLess_tri : ∀ a b : List UInt8, Op.bytesLess a b = !(Op.bytesLess b a || b == a)
  | [], [] => by simp [Op.bytesLess]
  | [], b :: y => by simp [Op.bytesLess]
  | a :: x, [] => by simp [Op.bytesLess]
  | a :: x, b :: y => by
    have ih := bytesLess_tri x y
    simp only [Op.bytesLess, List.cons_beq_cons]
    rw [ih]
    by_cases h1 : a < b
    · have h2 : ¬ b < a := by
        rw [UInt8.lt_iff_toNat_lt] at *; omega
      have h3 : (b == a) = false := by
        rw [beq_eq_false_iff_ne]; intro e; subst e; exact absurd h1 (UInt8.lt_irrefl _)
      simp [h1, h2, h3]
    · by_cases h2 : b < a
      · have h3 : (a == b) = false := by
          rw [beq_eq_false_iff_ne]; intro e; subst e; exact absurd h2 (UInt8.lt_irrefl _)
        simp [h1, h2, h3]
      · have h3 : a = b := by
          apply UInt8.toNat_inj.1
          rw [UInt8.lt_iff_toNat_lt] at h1 h2; omega
        subst h3
        simp [UInt8.lt_irrefl]
namespace M
def nameLt (a b : ByteArray) : Bool := Op.bytesLess a.toList b.toList
def risesN : List Wk → Bool
  | a :: b :: l => nameLt a.name b.name && risesN (b :: l)
  | _ => true
def sfOk (l : List Wk) : Bool := decide (l.length ≤ 5) && (l.all wkOk && risesN l)
theorem risesN_iff : ∀ l : List Wk, risesN l = true ↔ ∀ (i : Nat) (h : i + 1 < l.length), nameLt l[i].name l[i + 1].name = true
  | [] => by simp [risesN]
  | [a] => by simp [risesN]
  | a :: b :: l => by
    have ih := risesN_iff (b :: l)
    simp only [risesN, Bool.and_eq_true, ih]
    constructor
    · rintro ⟨h0, h⟩ i hi
      cases i with
      | zero => exact h0
      | succ i => exact h i (by simpa using hi)
    · intro h
      exact ⟨h 0 (by simp), fun i hi => h (i + 1) (by simpa using hi)⟩
/-- Up to here all is right. -/
def sfTo (l : List Wk) (k : Nat) : Prop := (∀ (i : Nat) (h : i < l.length), i < k → wkOk l[i] = true) ∧ ∀ (i : Nat) (h : i + 1 < l.length), i + 1 < k → nameLt l[i].name l[i + 1].name = true
theorem sfTo_zero (l : List Wk) : sfTo l 0 := ⟨fun _ _ h => absurd h (by omega), fun _ _ h => absurd h (by omega)⟩
theorem sfTo_all {l : List Wk} {k : Nat} (h : sfTo l k) (hk : l.length ≤ k) : sfOk l = decide (l.length ≤ 5) := by
  have h1 : l.all wkOk = true := List.all_eq_true.2 fun x hx => by
    obtain ⟨i, hi, rfl⟩ := List.mem_iff_getElem.1 hx
    exact h.1 i hi (by omega)
  have h2 := (risesN_iff l).2 fun i hi => h.2 i hi (by omega)
  simp [sfOk, h1, h2]
theorem sfTo_first {l : List Wk} (h : 0 < l.length) (h0 : wkOk l[0] = true) : sfTo l 1 :=
  ⟨fun i hi hk => by obtain rfl : i = 0 := by omega
                     exact h0, fun i hi hk => absurd hk (by omega)⟩
theorem sfTo_next {l : List Wk} {k : Nat} (h : sfTo l (k + 1)) (hk : k + 1 < l.length) (h0 : wkOk l[k + 1] = true) (h1 : nameLt l[k].name l[k + 1].name = true) : sfTo l (k + 2) := by
  refine ⟨fun i hi hk' => ?_, fun i hi hk' => ?_⟩
  · by_cases e : i = k + 1
    · subst e; exact h0
    · exact h.1 i hi (by omega)
  · by_cases e : i = k
    · subst e; exact h1
    · exact h.2 i hi (by omega)
theorem sfOk_not_work {l : List Wk} {k : Nat} (h : k < l.length) (h0 : wkOk l[k] = false) : sfOk l = false := by
  rcases hc : sfOk l with _ | _
  · rfl
  · unfold sfOk at hc
    simp only [Bool.and_eq_true] at hc
    have := List.all_eq_true.1 hc.2.1 _ (List.getElem_mem h)
    rw [h0] at this; cases this
theorem sfOk_not_rise {l : List Wk} {k : Nat} (h : k + 1 < l.length) (h0 : nameLt l[k].name l[k + 1].name = false) : sfOk l = false := by
  rcases hc : sfOk l with _ | _
  · rfl
  · unfold sfOk at hc
    simp only [Bool.and_eq_true] at hc
    have := (risesN_iff l).1 hc.2.2 k h
    rw [h0] at this; cases this
end M
end Go.Proofs.YtblcgbgcccjpcaaGreat
namespace Go.Proofs.YtblcgbgcccjpcaaGreat
open Go

/-- As Q; by a goto to label l: J l. -/
def jumpsTo (J : Nat → Act → World → Prop) (Q : Exit → Act → World → Prop) : Exit → Act → World → Prop
  | .goto l, a, w => J l a w
  | e, a, w => Q e a w

theorem jumpsTo_mono {J J' : Nat → Act → World → Prop} {Q : Exit → Act → World → Prop} (h : ∀ l a w, J l a w → J' l a w) : ∀ e a w, jumpsTo J Q e a w → jumpsTo J' Q e a w := by
  intro e a w hq
  cases e <;> first | exact h _ _ _ hq | exact hq

theorem wp_scope_labels {P : Program} {a : Act} {w : World} {Q : Exit → Act → World → Prop} {c : Code} (J : Nat → Act → World → Prop) (mu : Nat → Act → World → Nat)
    (pass0 : ∀ l a w, J l a w → ∃ rest, findLabel c l = some (.seq .skip rest) ∧ rest.wp P (jumpsTo (fun l' a' w' => J l' a' w' ∧ mu l' a' w' < mu l a w) Q) a w)
    (first0 : (∀ l a w rest, findLabel c l = some (.seq .skip rest) → J l a w → rest.wp P (jumpsTo J Q) a w) → c.wp P (jumpsTo J Q) a w) :
    (Code.scope c).wp P Q a w := by
  have pass : ∀ l a w, J l a w → ∃ rest, findLabel c l = some rest ∧ rest.wp P (jumpsTo (fun l' a' w' => J l' a' w' ∧ mu l' a' w' < mu l a w) Q) a w := by
    intro l a w hJ
    obtain ⟨rest, hr, hp⟩ := pass0 l a w hJ
    exact ⟨_, hr, wp_seq (wp_skip hp)⟩
  have first : c.wp P (jumpsTo J Q) a w := by
    refine first0 fun l a w rest hr hJ => ?_
    obtain ⟨rest', hr', hp⟩ := pass0 l a w hJ
    have er : rest = rest' := by rw [hr] at hr'; injection hr' with h1; injection h1
    subst er
    exact wp_mono hp (jumpsTo_mono fun _ _ _ h => h.1)
  intro b k cs
  have key : ∀ n l a w rest, mu l a w = n → J l a w → findLabel c l = some rest →
      ∃ e a' w', Q e a' w' ∧ Arrives P (lone (b.at a (.code rest :: .inScope c :: k)) cs w) b k cs e a' w' := by
    intro n
    induction n using Nat.strongRecOn with
    | _ n ih =>
      intro l a w rest hn hJ hr
      obtain ⟨rest', hr', hp⟩ := pass l a w hJ
      have er : rest = rest' := by rw [hr] at hr'; exact Option.some.inj hr'
      subst er
      obtain ⟨e, a1, w1, hq, harr⟩ := hp b (.inScope c :: k) cs
      cases e with
      | normal => exact ⟨.normal, a1, w1, hq, Steps.trans harr (.one step_inScope)⟩
      | exit id => exact ⟨.exit id, a1, w1, hq, fun k' hk => harr k' (by simp [exitTo, hk])⟩
      | goto l' =>
        obtain ⟨hJ', hlt⟩ := hq
        obtain ⟨rest2, hr2, _⟩ := pass l' a1 w1 hJ'
        obtain ⟨e2, a2, w2, hq2, harr2⟩ := ih _ (by omega) l' a1 w1 rest2 rfl hJ' hr2
        exact ⟨e2, a2, w2, hq2, .of_steps (harr _ (by simp [gotoIn, hr2])) harr2⟩
      | ret => exact ⟨_, a1, w1, hq, harr⟩
      | panic ch => exact ⟨_, a1, w1, hq, harr⟩
      | outgrown => exact ⟨_, a1, w1, hq, harr⟩
  obtain ⟨e, a1, w1, hq, harr⟩ := first b (.inScope c :: k) cs
  cases e with
  | normal => exact ⟨.normal, a1, w1, hq, .head step_scope (Steps.trans harr (.one step_inScope))⟩
  | exit id => exact ⟨.exit id, a1, w1, hq, fun k' hk => .head step_scope (harr k' (by simp [exitTo, hk]))⟩
  | goto l' =>
    obtain ⟨rest2, hr2, _⟩ := pass l' a1 w1 hq
    obtain ⟨e2, a2, w2, hq2, harr2⟩ := key _ l' a1 w1 rest2 rfl hq hr2
    exact ⟨e2, a2, w2, hq2, .of_steps (.head step_scope (harr _ (by simp [gotoIn, hr2]))) harr2⟩
  | ret => exact ⟨_, a1, w1, hq, .of_steps (.one step_scope) harr⟩
  | panic ch => exact ⟨_, a1, w1, hq, .of_steps (.one step_scope) harr⟩
  | outgrown => exact ⟨_, a1, w1, hq, .of_steps (.one step_scope) harr⟩

section
variable {J : Nat → Act → World → Prop} {Q : Exit → Act → World → Prop} {a : Act} {w : World}
theorem jumpsTo_normal : jumpsTo J Q .normal a w = Q .normal a w := rfl
theorem jumpsTo_exit (id : Nat) : jumpsTo J Q (.exit id) a w = Q (.exit id) a w := rfl
theorem jumpsTo_ret : jumpsTo J Q .ret a w = Q .ret a w := rfl
end
attribute [go_sem] jumpsTo_normal jumpsTo_exit jumpsTo_ret
end Go.Proofs.YtblcgbgcccjpcaaGreat
namespace Go.Proofs.YtblcgbgcccjpcaaGreat
open Go.RowKit

theorem isSmall_any (n : Int) (w : World) : Calls Tryz.prog 183 #[.int .u8 n] w fun e w' => e = .returned (.bool (M.smallI n)) ∧ w = w' := by
  by_cases h1 : 97 ≤ n
  · by_cases h2 : n ≤ 122
    · go_enter Tryz.func183, Tryz.ntmps183
      go_wp2
      go_ret
      exact ⟨by simp [M.smallI, h1, h2], rfl⟩
    · go_enter Tryz.func183, Tryz.ntmps183
      go_wp2
      go_ret
      exact ⟨by simp [M.smallI, h1, h2], rfl⟩
  · go_enter Tryz.func183, Tryz.ntmps183
    go_wp2
    go_ret
    exact ⟨by simp [M.smallI]; omega, rfl⟩

theorem isDigit_any (n : Int) (w : World) : Calls Tryz.prog 201 #[.int .u8 n] w fun e w' => e = .returned (.bool (M.digitI n)) ∧ w = w' := by
  by_cases h1 : 48 ≤ n
  · by_cases h2 : n ≤ 57
    · go_enter Tryz.func201, Tryz.ntmps201
      go_wp2
      go_ret
      exact ⟨by simp [M.digitI, h1, h2], rfl⟩
    · go_enter Tryz.func201, Tryz.ntmps201
      go_wp2
      go_ret
      exact ⟨by simp [M.digitI, h1, h2], rfl⟩
  · go_enter Tryz.func201, Tryz.ntmps201
    go_wp2
    go_ret
    exact ⟨by simp [M.digitI]; omega, rfl⟩

set_option maxHeartbeats 400000 in
theorem specPageOk (s : ByteArray) (w : World) (hs : s.size ≤ maxLen) :
    Calls Tryz.prog 134 #[.string s] w fun e w' => e = .returned (.bool (M.pageOk s.data.toList)) ∧ w = w' := by
  unfold maxLen at hs
  go_enter Tryz.func134, Tryz.ntmps134
  go_wp2
  go_loop [3] (fun i => ∃ k : Nat, k ≤ s.size ∧ i = .int .i64 k ∧ (s.data.toList.take k).all M.pageB = true) (fun i => s.size - (intOf i).toNat)
  case atStart => exact ⟨0, Nat.zero_le _, rfl, rfl⟩
  case round =>
    obtain ⟨k, hk, rfl, hall⟩ := hrel
    have HA := Lib.hid hall
    clear hall
    by_cases hlt : k < s.size
    · by_cases hb : M.pageB s[k] = true
      · have HB := Lib.hid (M.page_step_yes s k hlt hb HA.out)
        have hc : (97 ≤ (s[k].toNat : Int) ∧ (s[k].toNat : Int) ≤ 122) ∨ (48 ≤ (s[k].toNat : Int) ∧ (s[k].toNat : Int) ≤ 57) := by
          simpa [M.pageB, M.small, M.digit, M.smallI, M.digitI] using hb
        clear hb
        go_wp2
        all_goals
          go_round
          case rel => exact ⟨k + 1, by omega, by go_num, HB.out⟩
          case measure => simp [intOf]; omega
      · have HB := Lib.hid (M.page_no s k hlt (by simpa using hb))
        have hc : ((s[k].toNat : Int) < 97 ∨ 122 < (s[k].toNat : Int)) ∧ ((s[k].toNat : Int) < 48 ∨ 57 < (s[k].toNat : Int)) := by
          simp [M.pageB, M.small, M.digit, M.smallI, M.digitI] at hb
          omega
        clear hb
        go_wp2
        all_goals
          go_ret
          exact ⟨ret_bool HB.out.symm, rfl⟩
    · obtain rfl : k = s.size := by omega
      have HB := Lib.hid (M.page_all s HA.out)
      go_wp2
      go_ret
      exact ⟨ret_bool (by rw [HB.out]; exact decide_eq_decide.2 (by omega)), rfl⟩

def PJ (s : ByteArray) (w : World) (l : Nat) (a : Act) (w' : World) : Prop :=
  ∃ (k : Nat) (u4 u5 u6 u7 u8 u9 u10 u11 u12 u13 u14 u15 u16 u17 u18 u19 u20 u21 u22 u23 u24 : Value), l = 0 ∧ w = w' ∧ k ≤ s.size ∧ (s.data.toList.take k).all M.pageB = true ∧
    a = { tmps := #[.string s, undef, .bool false, .int .i64 k, u4, u5, u6, u7, u8, u9, u10, u11, u12, u13, u14, u15, u16, u17, u18, u19, u20, u21, u22, u23, u24], defers := [] }

set_option maxHeartbeats 400000 in
theorem implPageOk (s : ByteArray) (w : World) (hs : s.size ≤ maxLen) :
    Calls Tryz.prog 170 #[.string s] w fun e w' => e = .returned (.bool (M.pageOk s.data.toList)) ∧ w = w' := by
  unfold maxLen at hs
  by_cases hl : 12 < s.size
  · have HB := Lib.hid (M.page_long s hl)
    go_enter Tryz.func170, Tryz.ntmps170
    go_wp2
    go_step3
    go_wp2
    rw [Exit.noGoto_ret]
    go_ret
    exact ⟨ret_bool HB.out.symm, rfl⟩
  · go_enter Tryz.func170, Tryz.ntmps170
    go_wp2
    refine wp_scope_labels (PJ s w) (fun _ a _ => s.size - (intOf (a.tmps.getD 3 undef)).toNat) ?_ ?_
    · rintro l a w' ⟨k, u4, u5, u6, u7, u8, u9, u10, u11, u12, u13, u14, u15, u16, u17, u18, u19, u20, u21, u22, u23, u24, rfl, rfl, hk, hall, rfl⟩
      refine ⟨_, rfl, ?_⟩
      have HA := Lib.hid hall
      clear hall
      by_cases hlt : k < s.size
      · have hne : ((k : Int) == (s.size : Int)) = false := by simp; omega
        rcases hS : M.smallI ((s[k].toNat : Nat) : Int) with _ | _
        · rcases hD : M.digitI ((s[k].toNat : Nat) : Int) with _ | _
          · have HB := Lib.hid (M.page_no s k hlt (by simp [M.pageB, M.small, M.digit, hS, hD]))
            go_wp2_with (first | (go_at_call 183; refine (isSmall_any _ _).mono ?_; rintro e w' ⟨rfl, rfl⟩) | (go_at_call 201; refine (isDigit_any _ _).mono ?_; rintro e w' ⟨rfl, rfl⟩))
            go_ret
            exact ⟨ret_bool HB.out.symm, rfl⟩
          · have HB := Lib.hid (M.page_step_yes s k hlt (by simp [M.pageB, M.small, M.digit, hS, hD]) HA.out)
            go_wp2_with (first | (go_at_call 183; refine (isSmall_any _ _).mono ?_; rintro e w' ⟨rfl, rfl⟩) | (go_at_call 201; refine (isDigit_any _ _).mono ?_; rintro e w' ⟨rfl, rfl⟩))
            go_step3
            refine ⟨⟨k + 1, _, _, _, _, _, _, _, _, _, _, _, _, _, _, _, _, _, _, _, _, _, rfl, rfl, by omega, HB.out, rfl⟩, ?_⟩
            simp [intOf]; omega
        · have HB := Lib.hid (M.page_step_yes s k hlt (by simp [M.pageB, M.small, M.digit, hS]) HA.out)
          go_wp2_with (first | (go_at_call 183; refine (isSmall_any _ _).mono ?_; rintro e w' ⟨rfl, rfl⟩) | (go_at_call 201; refine (isDigit_any _ _).mono ?_; rintro e w' ⟨rfl, rfl⟩))
          go_step3
          refine ⟨⟨k + 1, _, _, _, _, _, _, _, _, _, _, _, _, _, _, _, _, _, _, _, _, _, rfl, rfl, by omega, HB.out, rfl⟩, ?_⟩
          simp [intOf]; omega
      · obtain rfl : k = s.size := by omega
        have HB := Lib.hid (M.page_all s HA.out)
        go_wp2
        go_ret
        exact ⟨ret_bool (by rw [HB.out]; simp; omega), rfl⟩
    · intro hpass
      have HP := Lib.hid hpass
      clear hpass
      go_wp2
      go_step3
      rename_i hK
      refine hK _ _ ?_
      exact HP.out 0 _ _ _ rfl ⟨0, _, _, _, _, _, _, _, _, _, _, _, _, _, _, _, _, _, _, _, _, _, rfl, rfl, Nat.zero_le _, rfl, rfl⟩

set_option maxHeartbeats 1000000 in
theorem specNameOk (s : ByteArray) (w : World) (hs : s.size ≤ maxLen) :
    Calls Tryz.prog 122 #[.string s] w fun e w' => e = .returned (.bool (M.nameOk s.data.toList)) ∧ w = w' := by
  unfold maxLen at hs
  go_enter Tryz.func122, Tryz.ntmps122
  go_wp2
  go_loop [3] (fun i => ∃ k : Nat, i = .int .i64 k ∧ M.Nrel s k) (fun i => s.size - (intOf i).toNat)
  case atStart => exact ⟨0, rfl, M.Nrel_zero s⟩
  case round =>
    obtain ⟨k, rfl, hr⟩ := hrel
    have hk := hr.1
    have HR := Lib.hid hr
    clear hr
    by_cases hlt : k < s.size
    · by_cases hsm : 97 ≤ (s[k].toNat : Int) ∧ (s[k].toNat : Int) ≤ 122
      · have HN := Lib.hid (M.Nrel_small s k hlt HR.out (by simp [M.small, M.smallI, hsm]))
        obtain ⟨h1, h2⟩ := hsm
        go_wp2
        go_round
        case rel => exact ⟨k + 1, by go_num, HN.out⟩
        case measure => simp [intOf]; omega
      · have hsf : M.small s[k] = false := by simp [M.small, M.smallI]; omega
        have HS := Lib.hid hsf
        clear hsf
        by_cases hd : s[k].toNat = 45
        · have hd2 : ((s[k].toNat : Int) != 45) = false := by simp; omega
          have hle : (s[k].toNat : Int) ≤ 45 := by omega
          by_cases h0 : k = 0
          · have HN := Lib.hid (M.Nrel_stfalse s k hlt HR.out HS.out (by rw [h0]; rfl))
            have h0' : ((k : Int) == 0) = true := by simp [h0]
            clear hd h0
            go_wp2
            go_ret
            exact ⟨ret_bool HN.out.symm, rfl⟩
          · have h0' : ((k : Int) == 0) = false := by simp [h0]
            by_cases hl : k + 1 = s.size
            · have HN := Lib.hid (M.Nrel_last s k hlt HR.out HS.out hd hl)
              have hl' : ((k : Int) == (s.size : Int) - 1) = true := by simp; omega
              have hp : 1 ≤ s.size := by omega
              clear hd h0 hl
              go_wp2
              go_ret
              exact ⟨ret_bool HN.out.symm, rfl⟩
            · have hp : 1 ≤ s.size := by omega
              obtain ⟨j, rfl⟩ : ∃ j, k = j + 1 := ⟨k - 1, by omega⟩
              clear h0'
              have h0' : ((j : Int) + 1 == 0) = false := by simp; omega
              have hl' : ((j : Int) + 1 == (s.size : Int) - 1) = false := by simp; omega
              have hj : j < s.size := by omega
              have hst := M.st_prev s (j + 1) (by omega) (by omega)
              simp only [Nat.add_sub_cancel] at hst
              by_cases hpd : s[j].toNat = 45
              · have HN := Lib.hid (M.Nrel_stfalse s (j + 1) hlt HR.out HS.out (by rw [hst]; simpa using hpd))
                have hpd' : ((s[j].toNat : Int) == 45) = true := by simp; omega
                clear hd h0 hl hst hpd
                go_wp2
                go_ret
                exact ⟨ret_bool HN.out.symm, rfl⟩
              · have HN := Lib.hid (M.Nrel_dash s (j + 1) hlt HR.out hd hl (by rw [hst]; simpa using hpd))
                have hpd' : ((s[j].toNat : Int) == 45) = false := by simp; omega
                clear hd h0 hl hst hpd
                go_wp2
                go_round
                case rel => exact ⟨j + 1 + 1, by go_num, HN.out⟩
                case measure => simp [intOf]; omega
        · have HN := Lib.hid (M.Nrel_other s k hlt HR.out HS.out hd)
          have hd2 : ((s[k].toNat : Int) != 45) = true := by simp; omega
          clear hd
          by_cases h1 : 97 ≤ (s[k].toNat : Int)
          · have h2 : decide ((s[k].toNat : Int) ≤ 122) = false := by simp; omega
            go_wp2
            go_ret
            exact ⟨ret_bool HN.out.symm, rfl⟩
          · go_wp2
            go_ret
            exact ⟨ret_bool HN.out.symm, rfl⟩
    · obtain rfl : k = s.size := by omega
      have HN := Lib.hid (M.Nrel_end s HR.out)
      go_wp2_with (go_at_call 60; refine (in_any _ _ _ _).mono ?_; rintro e w' ⟨rfl, rfl⟩)
      go_ret
      exact ⟨ret_bool (by rw [HN.out, decide_eq_decide.2 (show (1 : Int) ≤ (s.size : Int) ↔ 1 ≤ s.size by omega), decide_eq_decide.2 (show (s.size : Int) ≤ 8 ↔ s.size ≤ 8 by omega)]), rfl⟩


def NJ (s : ByteArray) (w : World) (l : Nat) (a : Act) (w' : World) : Prop :=
  ∃ (k : Nat) (u4 u5 u6 u7 u8 u9 u10 u11 u12 u13 u14 u15 u16 u17 u18 u19 u20 u21 u22 u23 u24 u25 u26 u27 u28 u29 u30 u31 u32 u33 u34 u35 : Value), w = w' ∧ k ≤ s.size ∧
    (l = 0 ∧ M.nm false s.data.toList = M.nm false (s.data.toList.drop k) ∨ l = 1 ∧ M.nm false s.data.toList = M.nm true (s.data.toList.drop k)) ∧
    a = { tmps := #[.string s, undef, .bool false, .int .i64 k, u4, u5, u6, u7, u8, u9, u10, u11, u12, u13, u14, u15, u16, u17, u18, u19, u20, u21, u22, u23, u24, u25, u26, u27, u28, u29, u30, u31, u32, u33, u34, u35], defers := [] }

set_option maxHeartbeats 1000000 in
theorem implNameOk (s : ByteArray) (w : World) (hs : s.size ≤ maxLen) :
    Calls Tryz.prog 154 #[.string s] w fun e w' => e = .returned (.bool (M.nameOk s.data.toList)) ∧ w = w' := by
  unfold maxLen at hs
  by_cases hl : 8 < s.size
  · have HB := Lib.hid (M.name_long s hl)
    go_enter Tryz.func154, Tryz.ntmps154
    go_wp2
    go_step3
    go_wp2
    rw [Exit.noGoto_ret]
    go_ret
    exact ⟨ret_bool HB.out.symm, rfl⟩
  · go_enter Tryz.func154, Tryz.ntmps154
    go_wp2
    refine wp_scope_labels (NJ s w) (fun _ a _ => s.size - (intOf (a.tmps.getD 3 undef)).toNat) ?_ ?_
    · rintro l a w' ⟨k, u4,u5,u6,u7,u8,u9,u10,u11,u12,u13,u14,u15,u16,u17,u18,u19,u20,u21,u22,u23,u24,u25,u26,u27,u28,u29,u30,u31,u32,u33,u34,u35, rfl, hk, hq, rfl⟩
      rcases hq with ⟨rfl, hq⟩ | ⟨rfl, hq⟩
      · refine ⟨_, rfl, ?_⟩
        have HQ := Lib.hid hq
        clear hq
        by_cases hlt : k < s.size
        · have hne : ((k : Int) == (s.size : Int)) = false := by simp; omega
          rcases hS : M.smallI ((s[k].toNat : Nat) : Int) with _ | _
          · have HN := Lib.hid (M.name_no s (HQ.out.trans (M.nm_false_no s k hlt hS)))
            go_wp2_with (go_at_call 183; refine (isSmall_any _ _).mono ?_; rintro e w' ⟨rfl, rfl⟩)
            go_ret
            exact ⟨ret_bool HN.out.symm, rfl⟩
          · have HM := Lib.hid (HQ.out.trans (M.nm_small s k hlt hS false))
            go_wp2_with (go_at_call 183; refine (isSmall_any _ _).mono ?_; rintro e w' ⟨rfl, rfl⟩)
            go_step3
            rename_i hK
            refine hK _ _ ?_
            clear hK HQ hS hne
            by_cases hlt1 : k + 1 < s.size
            · have hne1 : (((k : Int) + 1 : Int) == (s.size : Int)) = false := by simp; omega
              by_cases hd : s[k + 1].toNat = 45
              · have hd1 : ((s[k + 1].toNat : Int) == 45) = true := by simp; omega
                have HN := Lib.hid (HM.out.trans (M.nm_dash s (k + 1) hlt1 hd))
                clear hd
                go_wp2_with (go_at_call 183; refine (isSmall_any _ _).mono ?_; rintro e w' ⟨rfl, rfl⟩)
                go_step3
                refine ⟨⟨k + 1 + 1, _, _, _, _, _, _, _, _, _, _, _, _, _, _, _, _, _, _, _, _, _, _, _, _, _, _, _, _, _, _, _, _, rfl, by omega, .inl ⟨rfl, HN.out⟩, rfl⟩, ?_⟩
                simp [intOf]; omega
              · have hd1 : ((s[k + 1].toNat : Int) == 45) = false := by simp; omega
                rcases hS1 : M.smallI ((s[k + 1].toNat : Nat) : Int) with _ | _
                · have HN := Lib.hid (M.name_no s (HM.out.trans (M.nm_other_no s (k + 1) hlt1 hS1 hd true)))
                  clear hd
                  go_wp2_with (go_at_call 183; refine (isSmall_any _ _).mono ?_; rintro e w' ⟨rfl, rfl⟩)
                  go_ret
                  exact ⟨ret_bool HN.out.symm, rfl⟩
                · have HN := Lib.hid (HM.out.trans (M.nm_small s (k + 1) hlt1 hS1 true))
                  clear hd
                  go_wp2_with (go_at_call 183; refine (isSmall_any _ _).mono ?_; rintro e w' ⟨rfl, rfl⟩)
                  go_step3
                  refine ⟨⟨k + 1 + 1, _, _, _, _, _, _, _, _, _, _, _, _, _, _, _, _, _, _, _, _, _, _, _, _, _, _, _, _, _, _, _, _, rfl, by omega, .inr ⟨rfl, HN.out⟩, rfl⟩, ?_⟩
                  simp [intOf]; omega
            · have hne1 : (((k : Int) + 1 : Int) == (s.size : Int)) = true := by simp; omega
              have HN : Hid (M.nameOk s.data.toList = true) := Lib.hid (M.name_yes s (by omega) (by
                have e : k + 1 = s.size := by omega
                have h := HM.out
                rw [e, M.nm_end] at h; exact h))
              go_wp2
              go_ret
              exact ⟨ret_bool HN.out.symm, rfl⟩
        · have hne : ((k : Int) == (s.size : Int)) = true := by simp; omega
          have HN : Hid (M.nameOk s.data.toList = false) := Lib.hid (M.name_no s (by
            have e : k = s.size := by omega
            have h := HQ.out
            rw [e, M.nm_end] at h; exact h))
          go_wp2
          go_ret
          exact ⟨ret_bool HN.out.symm, rfl⟩
      · refine ⟨_, rfl, ?_⟩
        have HQ := Lib.hid hq
        clear hq
        by_cases hlt1 : k < s.size
        · have hne1 : ((k : Int) == (s.size : Int)) = false := by simp; omega
          by_cases hd : s[k].toNat = 45
          · have hd1 : ((s[k].toNat : Int) == 45) = true := by simp; omega
            have HN := Lib.hid (HQ.out.trans (M.nm_dash s (k) hlt1 hd))
            clear hd
            go_wp2_with (go_at_call 183; refine (isSmall_any _ _).mono ?_; rintro e w' ⟨rfl, rfl⟩)
            go_step3
            refine ⟨⟨k + 1, _, _, _, _, _, _, _, _, _, _, _, _, _, _, _, _, _, _, _, _, _, _, _, _, _, _, _, _, _, _, _, _, rfl, by omega, .inl ⟨rfl, HN.out⟩, rfl⟩, ?_⟩
            simp [intOf]; omega
          · have hd1 : ((s[k].toNat : Int) == 45) = false := by simp; omega
            rcases hS1 : M.smallI ((s[k].toNat : Nat) : Int) with _ | _
            · have HN := Lib.hid (M.name_no s (HQ.out.trans (M.nm_other_no s (k) hlt1 hS1 hd true)))
              clear hd
              go_wp2_with (go_at_call 183; refine (isSmall_any _ _).mono ?_; rintro e w' ⟨rfl, rfl⟩)
              go_ret
              exact ⟨ret_bool HN.out.symm, rfl⟩
            · have HN := Lib.hid (HQ.out.trans (M.nm_small s (k) hlt1 hS1 true))
              clear hd
              go_wp2_with (go_at_call 183; refine (isSmall_any _ _).mono ?_; rintro e w' ⟨rfl, rfl⟩)
              go_step3
              refine ⟨⟨k + 1, _, _, _, _, _, _, _, _, _, _, _, _, _, _, _, _, _, _, _, _, _, _, _, _, _, _, _, _, _, _, _, _, rfl, by omega, .inr ⟨rfl, HN.out⟩, rfl⟩, ?_⟩
              simp [intOf]; omega
        · have hne1 : ((k : Int) == (s.size : Int)) = true := by simp; omega
          have HN : Hid (M.nameOk s.data.toList = true) := Lib.hid (M.name_yes s (by omega) (by
            have e : k = s.size := by omega
            have h := HQ.out
            rw [e, M.nm_end] at h; exact h))
          go_wp2
          go_ret
          exact ⟨ret_bool HN.out.symm, rfl⟩
    · intro hpass
      have HP := Lib.hid hpass
      clear hpass
      go_wp2
      go_step3
      rename_i hK
      refine hK _ _ ?_
      exact HP.out 0 _ _ _ rfl ⟨0, _, _, _, _, _, _, _, _, _, _, _, _, _, _, _, _, _, _, _, _, _, _, _, _, _, _, _, _, _, _, _, _, rfl, Nat.zero_le _, .inl ⟨rfl, rfl⟩, rfl⟩
end Go.Proofs.YtblcgbgcccjpcaaGreat
