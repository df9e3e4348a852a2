/- Proved, in parts: Proved: a statement that leaves its order open is walked operation by operation under one invariant that speaks of which operations have come up; no program is named here. Condition: each operation waits for earlier ones alone. -/
import Derived.OrdersHeld
import Derived.Deep.RegionHeld3
import Derived.WalkKit
namespace Go.Proofs.YtdoeiphnalbinaaGreat
open Go

/-- Each operation waits for earlier ones alone. -/
def lexicalFrom : Nat → List Oper → Bool
  | _, [] => true
  | i, o :: r => o.after.all (fun e => decide (e.on < i)) && lexicalFrom (i + 1) r

theorem lexical_at : ∀ (l : List Oper) (k i : Nat) (o : Oper), lexicalFrom k l = true → l[i]? = some o → ∀ e ∈ o.after, e.on < k + i
  | [], _, _, _, _, h => by simp at h
  | o' :: r, k, 0, o, h, hi => by
    simp at hi; subst hi
    simp [lexicalFrom] at h
    intro e he
    obtain ⟨n, hn, rfl⟩ := Array.mem_iff_getElem.1 he
    have := h.1 n hn
    omega
  | o' :: r, k, i + 1, o, h, hi => by
    simp [lexicalFrom] at h
    simp at hi
    intro e he
    have := lexical_at r (k + 1) i o h.2 hi e he
    omega

/-- What is to be shown of each operation: it may come up where it has not and all that it waits for has; behind it the invariant holds, it among those that have come up. -/
def StepsFrom (P : Program) (ops : Array Oper) (Q : Exit → Act → World → Prop) (I : (Nat → Bool) → Act → World → Prop) : Nat → List Oper → Prop
  | _, [] => True
  | i, o :: r => (∀ l a w, I l a w → l i = false → (o.after.all fun e => !Region.binds .any e || l e.on) = true →
      ∀ K : Act → World → Prop, (∀ a' w', I (fun j => j == i || l j) a' w' → K a' w') →
        if Region.wanted o (yielded ops a.tmps) then o.wp P a w K Q else K (a.put o.dst undef) w) ∧ StepsFrom P ops Q I (i + 1) r

theorem steps_at {P : Program} {ops : Array Oper} {Q : Exit → Act → World → Prop} {I : (Nat → Bool) → Act → World → Prop} :
    ∀ (l : List Oper) (k i : Nat) (o : Oper), StepsFrom P ops Q I k l → l[i]? = some o → ∀ s a w, I s a w → s (k + i) = false → (o.after.all fun e => !Region.binds .any e || s e.on) = true →
      ∀ K : Act → World → Prop, (∀ a' w', I (fun j => j == k + i || s j) a' w' → K a' w') →
        if Region.wanted o (yielded ops a.tmps) then o.wp P a w K Q else K (a.put o.dst undef) w
  | [], _, _, _, _, h => by simp at h
  | o' :: r, k, 0, o, h, hi => by simp at hi; subst hi; exact h.1
  | o' :: r, k, i + 1, o, h, hi => by
    simp at hi
    have := steps_at r (k + 1) i o h.2 hi
    rw [show k + 1 + i = k + (i + 1) by omega] at this
    exact this

theorem count_set {l : Array Bool} {i : Nat} (h : l.getD i true = false) : (l.setIfInBounds i true).toList.count false + 1 = l.toList.count false := by
  have hi : i < l.size := by
    rcases Nat.lt_or_ge i l.size with h' | h'
    · exact h'
    · simp [Array.getD, Nat.not_lt.2 h'] at h
  have hv : l.toList[i]'(by simpa using hi) = false := by simpa [Array.getD, hi] using h
  rw [Array.toList_setIfInBounds]
  have hc := List.count_set (a := true) (b := false) (l := l.toList) (i := i) (by simpa using hi)
  have hp : 0 < l.toList.count false := List.count_pos_iff.2 (hv ▸ List.getElem_mem _)
  have e1 : (if (l.toList[i]'(by simpa using hi) == false) = true then 1 else 0) = 1 := by rw [hv]; rfl
  have e2 : (if (true == false) = true then 1 else 0) = 0 := rfl
  rw [hc, e1, e2]
  omega

theorem wpAny_inv {P : Program} {ops : Array Oper} {Q : Exit → Act → World → Prop} (I : (Nat → Bool) → Act → World → Prop)
    (hlex : lexicalFrom 0 ops.toList = true) (hs : StepsFrom P ops Q I 0 ops.toList)
    (hd : ∀ l a w, I l a w → (∀ i, i < ops.size → l i = true) → Q .normal a w) :
    ∀ (fuel : Nat) (listed : Array Bool) (a : Act) (w : World), listed.size = ops.size → listed.toList.count false ≤ fuel →
      I (fun j => listed.getD j false) a w → wpAny P .any ops Q fuel listed a w := by
  have allDone : ∀ (listed : Array Bool) (a : Act) (w : World), listed.size = ops.size → Region.ready .any ops listed = [] → I (fun j => listed.getD j false) a w → Q .normal a w := by
    intro listed a w hsz hr hI
    refine hd _ a w hI ?_
    intro i
    induction i using Nat.strongRecOn with
    | _ i ih =>
      intro hi
      rcases hb : listed.getD i false with _ | _
      · exfalso
        have hoi : ops[i]? = some ops[i] := Array.getElem?_eq_getElem hi
        have hm : i ∈ Region.ready .any ops listed := by
          refine mem_ready.2 ⟨?_, ops[i], hoi, ?_⟩
          · have : i < listed.size := by omega
            simp [Array.getD, this] at hb ⊢; exact hb
          · intro e he _
            have hlt := lexical_at ops.toList 0 i ops[i] hlex (by simp [hi]) e he
            exact ih e.on (by omega) (by omega)
        rw [hr] at hm; cases hm
      · rfl
  intro fuel
  induction fuel with
  | zero =>
    intro listed a w hsz hc hI
    have hr : Region.ready .any ops listed = [] := by
      rcases hr : Region.ready .any ops listed with _ | ⟨i, r⟩
      · rfl
      · exfalso
        have hm : i ∈ Region.ready .any ops listed := by rw [hr]; simp
        have := count_set (mem_ready.1 hm).1
        omega
    exact ⟨hr, allDone listed a w hsz hr hI⟩
  | succ fuel ih =>
    intro listed a w hsz hc hI
    refine ⟨fun hr => allDone listed a w hsz hr hI, fun i hi => ?_⟩
    obtain ⟨hun, o, ho, hall⟩ := mem_ready.1 hi
    have hcs := count_set hun
    have hlt : i < listed.size := by
      rcases Nat.lt_or_ge i listed.size with h' | h'
      · exact h'
      · simp [Array.getD, Nat.not_lt.2 h'] at hun
    have hun' : listed.getD i false = false := by simp [Array.getD, hlt] at hun ⊢; exact hun
    have step := steps_at ops.toList 0 i o hs (by simpa using ho) (fun j => listed.getD j false) a w hI (by simpa using hun') (by
      rw [Array.all_eq_true]
      intro k hk
      rcases hb : Region.binds .any o.after[k] with _ | _
      · rfl
      · simpa using hall _ (Array.getElem_mem hk) hb) (wpAny P .any ops Q fuel (listed.setIfInBounds i true)) (fun a' w' hI' => by
        refine ih _ a' w' (by simpa using hsz) (by omega) ?_
        have : (fun j => (listed.setIfInBounds i true).getD j false) = fun j => j == 0 + i || listed.getD j false := by
          funext j
          by_cases hji : j = i
          · subst hji; simp [Array.getD, hlt]
          · have hne : ¬ i = j := fun e => hji e.symm
            rw [getD_set_ne false hne]
            simp [hji]
        rw [this]; exact hI')
    unfold wpOp
    simp only [ho]
    split
    · rename_i hw; rw [if_pos hw] at step; exact .inl step
    · rename_i hw; rw [if_neg hw] at step; exact step

/-- THE LAW. -/
theorem wp_region_inv {P : Program} {id : Nat} {ops : Array Oper} {Q : Exit → Act → World → Prop} {a : Act} {w : World} (hm : P.follows .mixedOrders = true)
    (hlex : lexicalFrom 0 ops.toList = true) (I : (Nat → Bool) → Act → World → Prop) (h0 : I (fun _ => false) a w.drew)
    (hs : StepsFrom P ops Q I 0 ops.toList) (hd : ∀ l a w, I l a w → (∀ i, i < ops.size → l i = true) → Q .normal a w) : (Code.region id ops true).wp P Q a w :=
  wp_region_any hm (wpAny_inv I hlex hs hd ops.size _ a _ (by simp) (by simp) (by
    have : (fun j => (Array.replicate ops.size false).getD j false) = fun _ : Nat => false := by
      funext j; simp [Array.getD]
    rw [this]; exact h0))

/-! ### One order for all: what only reads is taken in the order of the list; what calls or writes is the only one that may come up. -/

/-- May the operations be gone through in this order? (i, true): number i may be taken now, all others wait for it or are apart from it; (i, false): number i is the only one that may come up. -/
def okSeq (ops : Array Oper) : Array Bool → List (Nat × Bool) → Bool
  | listed, [] => (Region.ready .any ops listed).isEmpty
  | listed, (i, true) :: σ => Region.free .any ops listed i && (Region.ready .any ops listed).contains i && okSeq ops (listed.setIfInBounds i true) σ
  | listed, (i, false) :: σ => (Region.ready .any ops listed == [i]) && okSeq ops (listed.setIfInBounds i true) σ

def SeqH (P : Program) (ops : Array Oper) (Q : Exit → Act → World → Prop) (S : World → Prop) : List (Nat × Bool) → Act → World → Prop
  | [], a, w => Q .normal a w
  | (i, true) :: σ, a, w => ∃ o v, ops[i]? = some o ∧ YieldsIf P ops S o v a ∧ SeqH P ops Q S σ (a.put o.dst v) w
  | (i, false) :: σ, a, w => ∃ o, ops[i]? = some o ∧ ∀ K : Act → World → Prop, Shut (∀ a' w', S w' → (S w' → SeqH P ops Q S σ a' w') → K a' w') → if Region.wanted o (yielded ops a.tmps) = true then Oper.wp P o a w K Q else K (a.put o.dst undef) w

theorem seq_anyH {P : Program} {ops : Array Oper} {Q : Exit → Act → World → Prop} {S : World → Prop} (hns : Region.noSelect ops = true)
    (hQ : ∀ c a d v w, Q (.panic c) (Act.put a (some d) v) w → Q (.panic c) a w) :
    ∀ (σ : List (Nat × Bool)) (listed : Array Bool) (a : Act) (w : World) (fuel : Nat), okSeq ops listed σ = true → σ.length ≤ fuel → S w → SeqH P ops Q S σ a w → wpAnyH P .any ops Q S fuel listed a w
  | [], listed, a, w, fuel, hok, _, _, h => by
    refine wpAnyH_done ?_ h fuel
    simpa [okSeq] using hok
  | (i, true) :: σ, listed, a, w, 0, _, hl, _, _ => by simp at hl
  | (i, true) :: σ, listed, a, w, fuel + 1, hok, hl, hS, ⟨o, v, ho, hy, h⟩ => by
    simp only [okSeq, Bool.and_eq_true] at hok
    refine wpAnyH_take ho hns hok.1.1 hok.1.2 (fun c a w hq => by
      cases hd : o.dst with
      | none => rw [hd] at hq; exact hq
      | some d => rw [hd] at hq; exact hQ c a d v w hq) hy hS (seq_anyH hns hQ σ _ _ w fuel hok.2 (by simpa using hl) hS h)
  | (i, false) :: σ, listed, a, w, 0, _, hl, _, _ => by simp at hl
  | (i, false) :: σ, listed, a, w, fuel + 1, hok, hl, hS, ⟨o, ho, h⟩ => by
    simp only [okSeq, Bool.and_eq_true, beq_iff_eq] at hok
    refine wpAnyH_ready hok.1 (by simp) (AllReadyH.cons ho (fun K hK => ?_) AllReadyH.nil)
    exact h K (fun a' w' hS' hw => hK.out a' w' hS' (fun hS'' => seq_anyH hns hQ σ _ a' w' fuel hok.2 (by simpa using hl) hS'' (hw hS'')))

/-- THE LAW: a statement that draws its order, gone through in one order. -/
theorem wp_region_seq {P : Program} {id : Nat} {ops : Array Oper} {Q : Exit → Act → World → Prop} {a : Act} {w : World} (S : World → Prop) (σ : List (Nat × Bool))
    (hm : P.follows .mixedOrders = true) (hns : Region.noSelect ops = true) (hQ : ∀ c a d v w, Q (.panic c) (Act.put a (some d) v) w → Q (.panic c) a w)
    (hok : okSeq ops (Array.replicate ops.size false) σ = true) (hlen : σ.length ≤ ops.size) (hS : S w.drew) (h : S w.drew → SeqH P ops Q S σ a w.drew) : (Code.region id ops true).wp P Q a w :=
  wp_region_held hm (seq_anyH hns hQ σ _ a _ _ hok hlen hS (h hS))

theorem seq_end {P : Program} {ops : Array Oper} {Q : Exit → Act → World → Prop} {S : World → Prop} {a : Act} {w : World} (h : Q .normal a w) : SeqH P ops Q S [] a w := h
/-- An operation that is not wanted. -/
theorem seq_skip {P : Program} {ops : Array Oper} {Q : Exit → Act → World → Prop} {S : World → Prop} {i : Nat} {o : Oper} {σ : List (Nat × Bool)} {a : Act} {w : World} (ho : ops[i]? = some o)
    (hw : Region.wanted o (yielded ops a.tmps) = false) (h : SeqH P ops Q S σ (a.put o.dst undef) w) : SeqH P ops Q S ((i, true) :: σ) a w := ⟨o, undef, ho, .inr ⟨hw, rfl⟩, h⟩
/-- An operation that only reads. -/
theorem seq_read {P : Program} {ops : Array Oper} {Q : Exit → Act → World → Prop} {S : World → Prop} {i : Nat} {o : Oper} {σ : List (Nat × Bool)} {a : Act} {w : World} {v : Value} (ho : ops[i]? = some o)
    (hw : Region.wanted o (yielded ops a.tmps) = true) (hv : ∀ w, S w → (execOp a.eval o).run P w = .ok (.value v) w) (h : SeqH P ops Q S σ (a.put o.dst v) w) : SeqH P ops Q S ((i, true) :: σ) a w := ⟨o, v, ho, .inl ⟨hw, hv⟩, h⟩
theorem seq_reads {P : Program} {ops : Array Oper} {Q : Exit → Act → World → Prop} {S : World → Prop} {i : Nat} {o : Oper} {σ : List (Nat × Bool)} {a : Act} {w : World} (ho : ops[i]? = some o)
    (hw : Region.wanted o (yielded ops a.tmps) = true) (h : ∃ v, (∀ w, S w → (execOp a.eval o).run P w = .ok (.value v) w) ∧ SeqH P ops Q S σ (a.put o.dst v) w) : SeqH P ops Q S ((i, true) :: σ) a w :=
  h.elim fun _ h => seq_read ho hw h.1 h.2
/-- An operation that calls or writes. -/
theorem seq_call {P : Program} {ops : Array Oper} {Q : Exit → Act → World → Prop} {S : World → Prop} {i : Nat} {o : Oper} {σ : List (Nat × Bool)} {a : Act} {w : World} (ho : ops[i]? = some o)
    (hw : Region.wanted o (yielded ops a.tmps) = true) (h : ∀ K : Act → World → Prop, Shut (∀ a' w', S w' → (S w' → SeqH P ops Q S σ a' w') → K a' w') → Oper.wp P o a w K Q) : SeqH P ops Q S ((i, false) :: σ) a w :=
  ⟨o, ho, fun K hK => by rw [if_pos hw]; exact h K hK⟩
/-- One that is not wanted. -/
theorem seq_pass {P : Program} {ops : Array Oper} {Q : Exit → Act → World → Prop} {S : World → Prop} {i : Nat} {o : Oper} {σ : List (Nat × Bool)} {a : Act} {w : World} (ho : ops[i]? = some o)
    (hw : Region.wanted o (yielded ops a.tmps) = false) (hS : S w) (h : S w → SeqH P ops Q S σ (a.put o.dst undef) w) : SeqH P ops Q S ((i, false) :: σ) a w :=
  ⟨o, ho, fun K hK => by rw [if_neg (by rw [hw]; simp)]; exact hK.out _ _ hS h⟩
end Go.Proofs.YtdoeiphnalbinaaGreat
