/- Proved, in parts: Proved: how a roll stands in memory, and what is asked of one, as plain Lean functions; no program is named here; no condition. Proved: append of a slice of records onto a row of the call's own, the source nil, empty or not; cuts of such a row; no program's function is named here. Condition: the bytes fit. Proved: the program's test of a roll, its last number and the reign of an entry answer plain Lean functions; nothing that was there is written. Condition: texts and lists of at most a million. Proved: the cells of a made list are those of a list of zero records; no program is named here; no condition. -/
import Derived.Test.YtkpbfocnokbmiaaPart07
import Derived.Test.YtkpbfocnokbmiaaPart09
import Derived.Test.YtkpbfocnokbmiaaPart08
import Derived.OwnWalk
import Derived.Laws.MakeOwn
namespace Go.Proofs.Ytkpbfocnokbmiaa
open Go.RowKit
abbrev roA (b r : Int) (A : Option Addr) (n c : Nat) : Array Value := #[.int .i64 b, .int .i64 r, .slice A n c]
abbrev roV (b r : Int) (A : Option Addr) (n c : Nat) : Value := .agg (roA b r A n c)
namespace M
/-- No reign is less than the one ahead. -/
def upFrom : Int → List En → Bool
  | _, [] => true
  | k, e :: l => decide (k ≤ e.reign) && upFrom e.reign l
def baseOk (b r : Int) : Bool := inI b 0 300 && (inI r 0 1000 && (decide (b = 0) == decide (r = 0)))
def rollOk (b r : Int) (l : List En) : Bool := baseOk b r && (decide (l.length ≤ 100) && (l.all entryOk && upFrom r l))
theorem baseOk_zero (r : Int) : baseOk 0 r = decide (r = 0) := by
  by_cases h : r = 0
  · subst h; rfl
  · simp [baseOk, inI, h]
theorem baseOk_pos {b r : Int} (h1 : 0 < b) (h2 : b ≤ 300) : baseOk b r = inI r 1 1000 := by
  have e0 : (b = 0) = False := by simp; omega
  by_cases h : r = 0
  · subst h; simp [baseOk, inI, e0]
  · have e1 : decide (0 ≤ r) = decide (1 ≤ r) := by simp; omega
    have e2 : decide (0 ≤ b) = true := by simp; omega
    simp [baseOk, inI, e0, e1, e2, h, h2]
theorem baseOk_out {b r : Int} (h : b < 0 ∨ 300 < b) : baseOk b r = false := by
  have e : inI b 0 300 = false := by simp [inI]; omega
  simp [baseOk, e]
/-- The reign of which the walk asks next, behind the first j. -/
def reignAhead (r : Int) (l : List En) (j : Nat) : Int := match j with
  | 0 => r
  | j + 1 => match l[j]? with
    | some e => e.reign
    | none => r
theorem reignAhead_succ {r : Int} {l : List En} {j : Nat} (h : j < l.length) : reignAhead r l (j + 1) = l[j].reign := by
  unfold reignAhead
  simp [List.getElem?_eq_getElem h]
theorem reignAhead_cons {r : Int} {e : En} {l : List En} {j : Nat} (h : j ≤ l.length) : reignAhead r (e :: l) (j + 1) = reignAhead e.reign l j := by
  cases j with
  | zero => rfl
  | succ j => rw [reignAhead_succ (by simp; omega), reignAhead_succ (by omega)]; simp
theorem upFrom_iff (r : Int) (l : List En) : upFrom r l = true ↔ ∀ (j : Nat) (h : j < l.length), reignAhead r l j ≤ l[j].reign := by
  induction l generalizing r with
  | nil => simp [upFrom]
  | cons e l ih =>
    simp only [upFrom, Bool.and_eq_true, decide_eq_true_eq, ih]
    constructor
    · rintro ⟨h1, h2⟩ j hj
      cases j with
      | zero => exact h1
      | succ j =>
        have hj' : j < l.length := by simpa using hj
        rw [reignAhead_cons (by omega)]
        exact h2 j hj'
    · intro h
      refine ⟨h 0 (by simp), fun j hj => ?_⟩
      have := h (j + 1) (by simpa using hj)
      rw [reignAhead_cons (by omega)] at this
      exact this
/-- The first j are not less than the one ahead. -/
def UpTo (r : Int) (l : List En) (j : Nat) : Prop := ∀ (i : Nat) (h : i < l.length), i < j → reignAhead r l i ≤ l[i].reign
theorem UpTo.zero (r : Int) (l : List En) : UpTo r l 0 := fun _ _ h => absurd h (by omega)
theorem UpTo.next {r : Int} {l : List En} {j : Nat} (h : UpTo r l j) (hj : j < l.length) (hr : reignAhead r l j ≤ l[j].reign) : UpTo r l (j + 1) := fun i hi hij => by
  by_cases e : i = j
  · subst e; exact hr
  · exact h i hi (by omega)
theorem UpTo.all {r : Int} {l : List En} (h : UpTo r l l.length) : upFrom r l = true := (upFrom_iff r l).2 fun i hi => h i hi hi
theorem up_not {r : Int} {l : List En} {j : Nat} (hj : j < l.length) (hr : ¬ reignAhead r l j ≤ l[j].reign) : upFrom r l = false := by
  rcases hc : upFrom r l with _ | _
  · rfl
  · exact absurd ((upFrom_iff r l).1 hc j hj) hr
/-- What the model asks of a list's entries, one by one. -/
def listOk (r : Int) (l : List En) : Bool := l.all entryOk && upFrom r l
/-- The first j are right and not less than the one ahead. -/
def OkTo (r : Int) (l : List En) (j : Nat) : Prop := ∀ (i : Nat) (h : i < l.length), i < j → entryOk l[i] = true ∧ reignAhead r l i ≤ l[i].reign
theorem OkTo.zero (r : Int) (l : List En) : OkTo r l 0 := fun _ _ h => absurd h (by omega)
theorem OkTo.next {r : Int} {l : List En} {j : Nat} (h : OkTo r l j) (hj : j < l.length) (he : entryOk l[j] = true) (hr : reignAhead r l j ≤ l[j].reign) : OkTo r l (j + 1) := fun i hi hij => by
  by_cases e : i = j
  · subst e; exact ⟨he, hr⟩
  · exact h i hi (by omega)
theorem OkTo.all {r : Int} {l : List En} (h : OkTo r l l.length) : listOk r l = true := by
  simp only [listOk, Bool.and_eq_true]
  exact ⟨List.all_eq_true.2 fun x hx => by obtain ⟨i, hi, rfl⟩ := List.mem_iff_getElem.1 hx; exact (h i hi hi).1, (upFrom_iff r l).2 fun i hi => (h i hi hi).2⟩
theorem list_not {r : Int} {l : List En} {j : Nat} (hj : j < l.length) (h : entryOk l[j] = false ∨ ¬ reignAhead r l j ≤ l[j].reign) : listOk r l = false := by
  rcases hc : listOk r l with _ | _
  · rfl
  · simp only [listOk, Bool.and_eq_true] at hc
    rcases h with h | h
    · have := List.all_eq_true.1 hc.1 l[j] (List.getElem_mem hj)
      rw [h] at this; cases this
    · exact absurd ((upFrom_iff r l).1 hc.2 j hj) h
theorem rollOk_list (b r : Int) (l : List En) : rollOk b r l = (baseOk b r && (decide (l.length ≤ 100) && listOk r l)) := rfl
/-- The reign of entry i of a right roll. -/
def reignIn (b r : Int) (l : List En) (i : Int) : Int := if i = b then r else if b < i ∧ i ≤ b + l.length then (match l[(i - b - 1).toNat]? with | some e => e.reign | none => -1) else -1
/-- All that is behind. -/
def tail (b r : Int) (l : List En) (i : Int) : List En := if rollOk b r l && (decide (b < i) && decide (i ≤ b + l.length + 1)) then l.drop (i - b - 1).toNat else []
theorem tail_at {b r : Int} {l : List En} {k : Nat} (h : k ≤ l.length) (hok : rollOk b r l = true) : tail b r l (b + k + 1) = l.drop k := by
  have e : (b + (k : Int) + 1 - b - 1).toNat = k := by omega
  unfold tail
  rw [if_pos (by simp [hok]; omega), e]
theorem tail_none {b r : Int} {l : List En} {i : Int} (h : rollOk b r l = false ∨ i ≤ b ∨ b + l.length + 1 < i) : tail b r l i = [] := by
  unfold tail
  rw [if_neg]
  simp only [Bool.and_eq_true, decide_eq_true_eq]
  rintro ⟨h1, h2, h3⟩
  rcases h with h | h | h
  · rw [h1] at h; cases h
  · omega
  · omega
/-- A roll cut: its base, its reign, its list, and whether it was. -/
def cut (b r : Int) (l : List En) (i : Int) : (Int × Int × List En) × Bool :=
  if rollOk b r l then (if b ≤ i ∧ i ≤ b + l.length ∧ i ≤ 300 then ((i, reignIn b r l i, l.drop (i - b).toNat), true) else ((b, r, l), false)) else ((0, 0, []), false)
theorem rollOk_parts {b r : Int} {l : List En} (h : rollOk b r l = true) : 0 ≤ b ∧ b ≤ 300 ∧ 0 ≤ r ∧ r ≤ 1000 ∧ l.length ≤ 100 ∧ ∀ e ∈ l, entryOk e = true := by
  simp only [rollOk, baseOk, inI, Bool.and_eq_true, decide_eq_true_eq] at h
  exact ⟨h.1.1.1, h.1.1.2, h.1.2.1.1, h.1.2.1.2, h.2.1, fun e he => List.all_eq_true.1 h.2.2.1 e he⟩
end M
end Go.Proofs.Ytkpbfocnokbmiaa
namespace Go.Proofs.Ytkpbfocnokbmiaa
open Go.RowKit

/-- A goal at which a walk stands still. -/
def Stop (p : Prop) : Prop := p
theorem stop_mk {p : Prop} (h : Stop p) : p := h
theorem stop_un {p : Prop} (h : p) : Stop p := h

section
variable {α : Type} {enc : α → List Value} {k : Nat} {w w' : World} {l : List α}
theorem flat_news {ad : Addr} (hk : ∀ x, (enc x).length = k) (hk0 : 0 < k) (h : Flat enc k w (some ad) l) : ∀ j u, (cellsOf enc l)[j]? = some u → w.cell? (ad.add j) = some u := by
  intro j u hu
  rcases h with rfl | ⟨b, o, hA, hlt, h⟩
  · simp [cellsOf] at hu
  · obtain rfl : ad = ⟨b, o, none⟩ := by injection hA
    have hj : j < l.length * k := by
      have := (List.getElem?_eq_some_iff.1 hu).1
      rwa [cellsOf_len hk] at this
    have hi : j / k < l.length := Nat.div_lt_of_lt_mul (by rw [Nat.mul_comm]; exact hj)
    have ht : j % k < k := Nat.mod_lt _ hk0
    have hd : j / k * k + j % k = j := by rw [Nat.mul_comm]; exact Nat.div_add_mod j k
    have h1 := cellsOf_at hk l (j / k) (j % k) l[j / k] (List.getElem?_eq_getElem hi) ht
    rw [hd, hu] at h1
    have := h (j / k) (j % k) l[j / k] u (List.getElem?_eq_getElem hi) h1.symm
    rw [Nat.add_assoc, hd] at this
    rw [addr_add]; exact this
theorem flat_none (h : Flat enc k w none l) : l = [] := by
  rcases h with h | ⟨b, o, hA, _⟩
  · exact h
  · cases hA

/-- What a slice cut from place m on points to. -/
def cutAt (A : Option Addr) (cap m k : Nat) : Option Addr := if cap = m then A else A.map (·.add (m * k))
theorem Flat.cutDrop {A : Option Addr} {cap : Nat} (h : Flat enc k w A l) (m : Nat) (hc : l.length ≤ cap) : Flat enc k w (cutAt A cap m k) (l.drop m) := by
  by_cases hm : m < l.length
  · rcases h with rfl | ⟨b, o, rfl, hlt, h⟩
    · simp at hm
    · unfold cutAt
      rw [if_neg (by omega)]
      refine .inr ⟨b, o + m * k, ?_, hlt, fun i t x u hi hu => ?_⟩
      · simp [addr_add]
      · rw [List.getElem?_drop] at hi
        have := h (m + i) t x u hi hu
        rw [Nat.add_mul, ← Nat.add_assoc] at this
        exact this
  · exact .inl (List.drop_eq_nil_of_le (by omega))
/-- append of a slice of records. -/
theorem wp_append_flat {P : Program} {o : Oper} {a : Act} {K : Act → World → Prop} {Q : Exit → Act → World → Prop} (s x : Operand) (t : TypeId)
    (ho : o.op = .call { callee := .builtin .append, args := #[s, x], argTypes := #[t, t] })
    (base : Nat) (e : TypeId) (i : TypeInfo) (z : Value) (bytes : Nat) (ht : P.underlying t = some (.slice e)) (hi : P.info? e = some i) (hz : i.zero = some z)
    (hsize : i.size = k) (hby : i.bytes = bytes) (hzs : z.cells.size = k) (hsz : 0 < k)
    (v : Value) (n : Nat) (xs : List Value) (hs : a.eval s = v) (hown : w.ownsRow base e k v n xs)
    (A : Option Addr) (c : Nat) (hx : a.eval x = .slice A l.length c) (hA : A = none → c = 0) (hfl : Flat enc k w A l) (hk : ∀ x, (enc x).length = k) (h1 : ∀ u ∈ cellsOf enc l, u.oneCell' = true)
    (h63 : n + l.length ≤ maxLen) (hbytes : (n + l.length) * bytes ≤ 140737488355328) (hbase : base ≤ w.heap.size)
    (h : ∀ v' w', w'.ownsRow base e k v' (n + l.length) (xs ++ cellsOf enc l) → w.grownBy w' v.ownBlock → K (a.put o.dst v') w') : o.wp P a w K Q := by
  rcases A with _ | ad
  · have hl := flat_none hfl
    have hc := hA rfl
    subst hl hc
    have hrun := run_append_owned_none (P := P) w base t o.type e i k ht hi v n xs hown
    unfold Oper.wp execOp
    simp only [List.length_nil] at hx
    simp only [ho, resolve, invoke, builtin, Sem.run_bind, Sem.run_pure, Result.andThen_ok, List.map_toArray, List.map_cons, List.map_nil, hs, hx, hrun]
    refine h v w ?_ ⟨rfl, rfl, rfl, Nat.le_refl _, fun _ _ _ => rfl⟩
    simpa [cellsOf] using hown
  · exact wp_append_own w s x t ho base e i z k bytes ht hi hz hsize hby hzs hsz v n xs hs hown ad l.length c (cellsOf enc l) hx (cellsOf_len hk l) (flat_news hk hsz hfl) h1 h63 hbytes hbase fun v' w' h2 h3 _ => h v' w' h2 h3
theorem wpList_append_flat {P : Program} {ops : Array Oper} {rest : List Oper} {o : Oper} {a : Act} {Q : Exit → Act → World → Prop} (hgd : o.guard = none) (s x : Operand) (t : TypeId)
    (ho : o.op = .call { callee := .builtin .append, args := #[s, x], argTypes := #[t, t] })
    (base : Nat) (e : TypeId) (i : TypeInfo) (z : Value) (bytes : Nat) (ht : P.underlying t = some (.slice e)) (hi : P.info? e = some i) (hz : i.zero = some z)
    (hsize : i.size = k) (hby : i.bytes = bytes) (hzs : z.cells.size = k) (hsz : 0 < k)
    (v : Value) (n : Nat) (xs : List Value) (hs : a.eval s = v) (hown : w.ownsRow base e k v n xs)
    (A : Option Addr) (c : Nat) (hx : a.eval x = .slice A l.length c) (hA : A = none → c = 0) (hfl : Flat enc k w A l) (hk : ∀ x, (enc x).length = k) (h1 : ∀ u ∈ cellsOf enc l, u.oneCell' = true)
    (h63 : n + l.length ≤ maxLen) (hbytes : (n + l.length) * bytes ≤ 140737488355328) (hbase : base ≤ w.heap.size)
    (h : ∀ v' w', w'.ownsRow base e k v' (n + l.length) (xs ++ cellsOf enc l) → w.grownBy w' v.ownBlock → wpList P ops Q rest (a.put o.dst v') w') : wpList P ops Q (o :: rest) a w :=
  wpList_plain hgd fun _ hK => wp_append_flat s x t ho base e i z bytes ht hi hz hsize hby hzs hsz v n xs hs hown A c hx hA hfl hk h1 h63 hbytes hbase fun v' w' h2 h3 => hK _ _ (h v' w' h2 h3)

theorem grown_holds {g : Nat} {C : Array Value} {row : Option Nat} (h : Holds w g C) (hg : w.grownBy w' row) (hne : some g ≠ row) : Holds w' g C :=
  ⟨Nat.lt_of_lt_of_le h.1 hg.size, fun j v hj => (World.cell?_of_block (a := ⟨g, j, none⟩) (hg.block g h.1 hne)).trans (h.2 j v hj)⟩
theorem grown_loose {g : Nat} {row : Option Nat} (h : Loose w g) (hlt : g < w.heap.size) (hg : w.grownBy w' row) (hne : some g ≠ row) : Loose w' g := fun j => by
  have := hg.block g hlt hne
  have h' := h j
  unfold World.frozen? at h' ⊢
  rw [this]; exact h'
end

end Go.Proofs.Ytkpbfocnokbmiaa
namespace Go.Proofs.Ytkpbfocnokbmiaa
open Go.RowKit
set_option maxRecDepth 20000
set_option linter.unusedVariables false

set_option maxHeartbeats 1000000 in
theorem enfirst_all (p : M.En → Bool) (A : Option Addr) (l : List M.En) (cap : Nat) (g : Value) (w : World) (hl : Ens w A l) (hlen : l.length ≤ 1048576)
    (hcall : ∀ (c : M.En) (w' : World), c ∈ l → Below w.heap.size w w' → Calls Try.prog 81 #[enV c, g] w' fun r w'' => r = .returned (.bool (p c)) ∧ Below w'.heap.size w' w'') :
    Calls Try.prog 80 #[.slice A l.length cap, .func (.func 81) #[] #[g]] w fun r w' => r = .returned (.int .i64 (l.findIdx p : Nat)) ∧ Below w.heap.size w w' := by
  have HC := Lib.hid hcall
  clear hcall
  go_enter Try.func80, Try.ntmps80
  go_wp2
  go_loopw [9] (fun i wr => ∃ j : Nat, i = .int .i64 j ∧ j ≤ l.length ∧ GNoneTo p l j ∧ Below w.heap.size w wr) (fun i _ => l.length - (intOf i).toNat)
  case atStart => exact ⟨0, rfl, Nat.zero_le _, GNoneTo.zero p l, Below.refl _ _⟩
  case round =>
    obtain ⟨j, rfl, hj, hnone, hbl⟩ := hrel
    by_cases hlt : j < l.length
    · obtain ⟨b, o, rfl, -, c0, c1, c2, c3, c4, c5, c6, c7, c8, c9⟩ := Ens_at (hl.below hbl) hlt
      have HA := Lib.hid hl
      have HN := Lib.hid hnone
      have ba := hbl.alloc hbl.size (.cells (enC l[j]) 37)
      clear hl hnone
      rcases hp : p l[j] with _ | _
      · have HP := Lib.hid hp
        go_wp2_with fail
        refine (HC.out l[j] _ (List.getElem_mem hlt) ba).mono ?_
        rintro r w1 ⟨rfl, b1⟩
        clear hp
        have hp := HP.out
        rw [hp]
        clear hp
        go_wp2
        go_roundw
        case rel => exact ⟨j + 1, by go_num, by omega, HN.out.next hlt HP.out, next ba b1⟩
        case measure => simp [intOf]; omega
      · have HP := Lib.hid hp
        go_wp2_with fail
        refine (HC.out l[j] _ (List.getElem_mem hlt) ba).mono ?_
        rintro r w1 ⟨rfl, b1⟩
        clear hp
        have hp := HP.out
        rw [hp]
        clear hp
        go_wp2
        go_ret
        exact ⟨ret_int (by rw [HN.out.hit hlt HP.out]), next ba b1⟩
    · have hj' : j = l.length := by omega
      subst hj'
      have HN := Lib.hid hnone
      clear hnone
      go_wp2
      go_ret
      exact ⟨ret_int (by rw [HN.out.all]), hbl⟩

set_option maxHeartbeats 1000000 in
theorem all1_entryOk (c : M.En) (g : Nat) (w : World) (hc : enIn 1048576 c) (hg : w.cell? ⟨g, 0, none⟩ = some (.func (.func 60) #[] #[])) :
    Calls Try.prog 81 #[enV c, .pointer (some ⟨g, 0, none⟩)] w fun r w' => r = .returned (.bool (!M.entryOk c)) ∧ Below w.heap.size w w' := by
  have b0 := (Below.refl w.heap.size w).alloc (Nat.le_refl _) (.cells (enC c) 37)
  have hgl : g < w.heap.size := World.block_lt_of_cell? w _ hg
  go_enter Try.func81, Try.ntmps81
  go_wp2_with fail
  refine (implEntryOk c _ (by have := hc.1; unfold maxLen; omega) (by have := hc.2; unfold maxLen; omega)).mono ?_
  rintro r w1 ⟨rfl, b1⟩
  go_wp2
  go_ret
  exact ⟨rfl, next b0 b1⟩
set_option maxHeartbeats 1000000 in
theorem all_entryOk (A : Option Addr) (l : List M.En) (cap : Nat) (w : World) (hl : Ens w A l) (hlen : l.length ≤ 1048576) (hp : ∀ e ∈ l, enIn 1048576 e) :
    Calls Try.prog 59 #[.slice A l.length cap, .func (.func 60) #[] #[]] w fun r w' => r = .returned (.bool (l.all M.entryOk)) ∧ Below w.heap.size w w' := by
  have b0 := (Below.refl w.heap.size w).alloc (Nat.le_refl _) (.cells #[.func (.func 60) #[] #[]] 75)
  have HB : Hid (((l.findIdx (fun c => !M.entryOk c) : Int) == (l.length : Int)) = l.all M.entryOk) := Lib.hid (all_findIdxG _ l)
  have HL := Lib.hid hl
  have HP := Lib.hid hp
  clear hl hp
  go_enter Try.func59, Try.ntmps59
  go_wp2_with fail
  refine (enfirst_all (fun c => !M.entryOk c) A l cap _ _ (HL.out.alloc _) hlen (fun c w' hc hb => all1_entryOk c _ w' (HP.out c hc) (box_cells hb 0))).mono ?_
  rintro r w1 ⟨rfl, b1⟩
  go_wp2
  go_ret
  exact ⟨ret_bool HB.out, next b0 b1⟩
set_option maxHeartbeats 1000000 in
theorem reignsOk_any (r : Int) (A : Option Addr) (l : List M.En) (cap : Nat) (w : World) (hl : Ens w A l) (hlen : l.length ≤ 1048576) :
    Calls Try.prog 61 #[.int .i64 r, .slice A l.length cap] w fun e w' => e = .returned (.bool (M.upFrom r l)) ∧ Below w.heap.size w w' := by
  go_enter Try.func61, Try.ntmps61
  go_wp2
  go_loopw [0, 9] (fun a i wr => ∃ j : Nat, i = .int .i64 j ∧ a = .int .i64 (M.reignAhead r l j) ∧ j ≤ l.length ∧ M.UpTo r l j ∧ Below w.heap.size w wr) (fun _ i _ => l.length - (intOf i).toNat)
  case atStart => exact ⟨0, rfl, rfl, Nat.zero_le _, M.UpTo.zero r l, Below.refl _ _⟩
  case round =>
    obtain ⟨j, rfl, rfl, hj, hup, hbl⟩ := hrel
    by_cases hlt : j < l.length
    · obtain ⟨b, o, rfl, -, c0, c1, c2, c3, c4, c5, c6, c7, c8, c9⟩ := Ens_at (hl.below hbl) hlt
      have HA := Lib.hid hl
      have HU := Lib.hid hup
      have HS := Lib.hid (M.reignAhead_succ (r := r) hlt)
      have ba := hbl.alloc hbl.size (.cells (enC l[j]) 37)
      obtain ⟨K, hK⟩ : ∃ K, M.reignAhead r l j = K := ⟨_, rfl⟩
      have HK := Lib.hid hK
      rw [hK]
      clear hl hup hK
      by_cases hr : K ≤ l[j].reign
      · have HN := Lib.hid (HU.out.next hlt (by rw [HK.out]; exact hr))
        go_wp2
        go_roundw
        case rel => exact ⟨j + 1, by go_num, by rw [HS.out], by omega, HN.out, ba⟩
        case measure => simp [intOf]; omega
      · have HE : Hid (M.upFrom r l = false) := Lib.hid (M.up_not hlt (by rw [HK.out]; exact hr))
        go_wp2
        go_ret
        exact ⟨ret_bool HE.out.symm, ba⟩
    · have hj' : j = l.length := by omega
      subst hj'
      have HE : Hid (M.upFrom r l = true) := Lib.hid hup.all
      clear hup
      go_wp2
      go_ret
      exact ⟨ret_bool HE.out.symm, hbl⟩
set_option maxHeartbeats 1000000 in
theorem baseOk_any (b r : Int) (A : Option Addr) (l : List M.En) (cap : Nat) (w : World) :
    Calls Try.prog 58 #[roV b r A l.length cap] w fun e w' => e = .returned (.bool (M.baseOk b r)) ∧ Below w.heap.size w w' := by
  have b0 := (Below.refl w.heap.size w).alloc (Nat.le_refl _) (.cells (roA b r A l.length cap) 26)
  by_cases h0 : b = 0
  · subst h0
    by_cases h1 : r = 0
    · subst h1
      go_enter Try.func58, Try.ntmps58
      go_wp2
      go_ret
      exact ⟨rfl, b0⟩
    · have HE : Hid (M.baseOk 0 r = false) := Lib.hid (by rw [M.baseOk_zero]; simp [h1])
      go_enter Try.func58, Try.ntmps58
      go_wp2
      go_ret
      exact ⟨ret_bool (by rw [HE.out]; simp [h1]), b0⟩
  · by_cases h1 : 0 < b
    · by_cases h2 : b ≤ 300
      · have HE : Hid (M.baseOk b r = M.inI r 1 1000) := Lib.hid (M.baseOk_pos h1 h2)
        go_enter Try.func58, Try.ntmps58
        go_wp2_with fail
        refine (reignOk_any r _).mono ?_
        rintro e w' ⟨rfl, rfl⟩
        go_wp2
        go_ret
        exact ⟨ret_bool HE.out.symm, b0⟩
      · have HE : Hid (M.baseOk b r = false) := Lib.hid (M.baseOk_out (by omega))
        go_enter Try.func58, Try.ntmps58
        go_wp2
        go_ret
        exact ⟨ret_bool HE.out.symm, b0⟩
    · have HE : Hid (M.baseOk b r = false) := Lib.hid (M.baseOk_out (by omega))
      go_enter Try.func58, Try.ntmps58
      go_wp2
      go_ret
      exact ⟨ret_bool HE.out.symm, b0⟩
set_option maxHeartbeats 2000000 in
theorem implRollOk (b r : Int) (A : Option Addr) (l : List M.En) (cap : Nat) (w : World) (hl : Ens w A l) (hlen : l.length ≤ 1048576) (hp : ∀ e ∈ l, enIn 1048576 e) :
    Calls Try.prog 24 #[roV b r A l.length cap] w fun e w' => e = .returned (.bool (M.rollOk b r l)) ∧ Below w.heap.size w w' := by
  have b0 := (Below.refl w.heap.size w).alloc (Nat.le_refl _) (.cells (roA b r A l.length cap) 26)
  have h0 := holds_new w (roA b r A l.length cap) 26
  have HL := Lib.hid hl
  have HP := Lib.hid hp
  clear hl hp
  rcases h1 : M.baseOk b r with _ | _
  · have HE : Hid (M.rollOk b r l = false) := Lib.hid (by simp [M.rollOk, h1])
    have H1 := Lib.hid h1
    clear h1
    go_enter Try.func24, Try.ntmps24
    go_wp2_with fail
    refine (baseOk_any b r A l cap _).mono ?_
    rintro e w1 ⟨rfl, b1⟩
    rw [H1.out]
    go_wp2
    go_ret
    exact ⟨ret_bool HE.out.symm, next b0 b1⟩
  by_cases h2 : 100 < l.length
  · have HE : Hid (M.rollOk b r l = false) := Lib.hid (by simp only [M.rollOk, Bool.and_eq_false_iff, decide_eq_false_iff_not]; exact .inr (.inl (by omega)))
    have H1 := Lib.hid h1
    clear h1
    go_enter Try.func24, Try.ntmps24
    go_wp2_with fail
    refine (baseOk_any b r A l cap _).mono ?_
    rintro e w1 ⟨rfl, b1⟩
    rw [H1.out]
    replace h0 := h0.below b1
    replace b0 := next b0 b1
    obtain ⟨p0, p1, p2⟩ := h0.three
    go_wp2
    go_ret
    exact ⟨ret_bool HE.out.symm, b0⟩
  rcases h3 : l.all M.entryOk with _ | _
  · have HE : Hid (M.rollOk b r l = false) := Lib.hid (by simp only [M.rollOk, h3]; simp)
    have H1 := Lib.hid h1
    have H3 := Lib.hid h3
    clear h1 h3
    go_enter Try.func24, Try.ntmps24
    go_wp2_with fail
    refine (baseOk_any b r A l cap _).mono ?_
    rintro e w1 ⟨rfl, b1⟩
    rw [H1.out]
    replace h0 := h0.below b1
    replace b0 := next b0 b1
    obtain ⟨p0, p1, p2⟩ := h0.three
    go_wp2_with fail
    refine (all_entryOk A l cap _ (HL.out.below b0) hlen HP.out).mono ?_
    rintro e w2 ⟨rfl, b2⟩
    rw [H3.out]
    go_wp2
    go_ret
    exact ⟨ret_bool HE.out.symm, next b0 b2⟩
  have HE : Hid (M.rollOk b r l = M.upFrom r l) := Lib.hid (by simp only [M.rollOk, h1, h3, Bool.true_and, decide_eq_true (show l.length ≤ 100 by omega)])
  have H1 := Lib.hid h1
  have H3 := Lib.hid h3
  clear h1 h3
  go_enter Try.func24, Try.ntmps24
  go_wp2_with fail
  refine (baseOk_any b r A l cap _).mono ?_
  rintro e w1 ⟨rfl, b1⟩
  rw [H1.out]
  replace h0 := h0.below b1
  replace b0 := next b0 b1
  obtain ⟨p0, p1, p2⟩ := h0.three
  go_wp2_with fail
  refine (all_entryOk A l cap _ (HL.out.below b0) hlen HP.out).mono ?_
  rintro e w2 ⟨rfl, b2⟩
  rw [H3.out]
  replace h0 := h0.below b2
  replace b0 := next b0 b2
  clear p0 p1 p2
  obtain ⟨p0, p1, p2⟩ := h0.three
  go_wp2_with fail
  refine (reignsOk_any r A l cap _ (HL.out.below b0) hlen).mono ?_
  rintro e w3 ⟨rfl, b3⟩
  go_wp2
  go_ret
  exact ⟨ret_bool HE.out.symm, next b0 b3⟩
theorem last_any (b r : Int) (A : Option Addr) (l : List M.En) (cap : Nat) (w : World) (h0 : 0 ≤ b) (h3 : b ≤ 300) (hlen : l.length ≤ 1048576) :
    Calls Try.prog 52 #[roV b r A l.length cap] w fun e w' => e = .returned (.int .i64 (b + l.length)) ∧ Below w.heap.size w w' := by
  have b0 := (Below.refl w.heap.size w).alloc (Nat.le_refl _) (.cells (roA b r A l.length cap) 26)
  go_enter Try.func52, Try.ntmps52
  go_wp2
  go_ret
  exact ⟨rfl, b0⟩
set_option maxHeartbeats 1000000 in
theorem behind_any (b r : Int) (A : Option Addr) (l : List M.En) (cap : Nat) (k : Nat) (w : World) (h0 : 0 ≤ b) (h3 : b ≤ 300) (hlen : l.length ≤ 1048576) (hlc : l.length ≤ cap) (hk : k ≤ l.length) :
    Calls Try.prog 50 #[roV b r A l.length cap, .int .i64 (b + k)] w fun e w' => e = .returned (.slice (cutAt A l.length k 10) (l.length - k) (l.length - k)) ∧ Below w.heap.size w w' := by
  have b0 := (Below.refl w.heap.size w).alloc (Nat.le_refl _) (.cells (roA b r A l.length cap) 26)
  have e1 : b + (k : Int) - b = k := by omega
  by_cases hkl : k = l.length
  · subst hkl
    have HC : Hid (cutAt A l.length l.length 10 = A) := Lib.hid (by unfold cutAt; rw [if_pos rfl])
    go_enter Try.func50, Try.ntmps50
    go_wp2
    go_ret
    exact ⟨by rw [HC.out, Nat.sub_self]; rfl, b0⟩
  · have HC : Hid (cutAt A l.length k 10 = A.map (·.add (k * 10))) := Lib.hid (by unfold cutAt; rw [if_neg (fun h => hkl h.symm)])
    go_enter Try.func50, Try.ntmps50
    go_wp2
    go_ret
    exact ⟨by rw [HC.out]; rfl, b0⟩
end Go.Proofs.Ytkpbfocnokbmiaa
namespace Go.Proofs.Ytkpbfocnokbmiaa
open Go Go.RowKit
end Go.Proofs.Ytkpbfocnokbmiaa
