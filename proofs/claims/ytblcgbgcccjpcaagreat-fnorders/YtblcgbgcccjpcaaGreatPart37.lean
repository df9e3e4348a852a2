/- Proved, in parts: Proved: a statement with one chain of calls, beside it operations that wait for nothing, and then stores, is gone through operation by operation, whatever order they come up in: of each of the first is shown what its value is in every later memory and which blocks are its own. No program is named here. Condition: als told by a closed test on the statement. Proved: how the law on Ordered holds its books in memory, and what writes elsewhere leave of them; what an order leaves is small. No program's function is named here; no condition. -/
import Derived.Test.YtblcgbgcccjpcaaGreatPart02
import Derived.Test.YtblcgbgcccjpcaaGreatPart01
import Derived.Test.YtblcgbgcccjpcaaGreatPart36
namespace Go.Proofs.YtblcgbgcccjpcaaGreat
open Go Go.RowKit

def dstAt (ops : Array Oper) (i : Nat) : Option Nat := (ops[i]?).bind fun o => o.dst
def waitsOn (o : Oper) (j : Nat) : Bool := o.after.any fun e => Region.binds .any e && e.on == j
/-- The first n operations have places of their own for their values, no guards, and links to what they wait for. -/
def okPre (ops : Array Oper) (lk : Nat → Option Nat) (n sz : Nat) : Bool :=
  (List.range n).all (fun i => (dstAt ops i).any (fun d => decide (d < sz) && (List.range n).all fun j => i == j || dstAt ops j != some d)) &&
  (List.range n).all (fun i => (ops[i]?).any fun o => o.guard.isNone && (lk i).all fun j => waitsOn o j && decide (j < n))
structure PreI (Le : World → World → Prop) (F : Nat → Value → (Nat → Prop) → World → Prop) (lk : Nat → Option Nat) (rel : Nat → Value → Value → Prop) (ops : Array Oper) (n : Nat) (a0 : Act) (w0 : World) (l : Nat → Bool) (a : Act) (w : World) (u : Nat → Value) (e : Nat → Nat → Prop) : Prop where
  val : ∀ i d, i < n → l i = true → dstAt ops i = some d → a.tmps[d]? = some (u i)
  old : ∀ d, (∀ i, i < n → l i = true → dstAt ops i ≠ some d) → a.tmps[d]? = a0.tmps[d]?
  size : a.tmps.size = a0.tmps.size
  defers : a.defers = a0.defers
  fact : ∀ i, i < n → l i = true → F i (u i) (e i) w
  link : ∀ i j, i < n → l i = true → lk i = some j → l j = true ∧ rel i (u j) (u i)
  foot : ∀ i g, i < n → l i = true → e i g → w0.heap.size ≤ g ∧ g < w.heap.size
  apart : ∀ i j g, i < n → j < n → i ≠ j → l i = true → l j = true → e i g → ¬ e j g
  below : Le w0 w
def fillAct (ops : Array Oper) (n : Nat) (u : Nat → Value) (a0 : Act) : Act :=
  ⟨(List.range n).foldl (fun t i => match dstAt ops i with
    | some d => t.setIfInBounds d (u i)
    | none => t) a0.tmps, a0.defers⟩
theorem fill_at (ops : Array Oper) (u : Nat → Value) (t : Array Value) : ∀ n, (((List.range n).foldl (fun t i => match dstAt ops i with
    | some d => t.setIfInBounds d (u i)
    | none => t) t).size = t.size) ∧ ∀ (D : Nat) (_ : D < t.size), (∀ i, i < n → dstAt ops i ≠ some D) → ((List.range n).foldl (fun t i => match dstAt ops i with
    | some d => t.setIfInBounds d (u i)
    | none => t) t)[D]? = t[D]?
  | 0 => ⟨rfl, fun _ _ _ => rfl⟩
  | n + 1 => by
    have ih := fill_at ops u t n
    rw [List.range_succ, List.foldl_append]
    simp only [List.foldl_cons, List.foldl_nil]
    refine ⟨?_, fun D hD hn => ?_⟩
    · split
      · simp [ih.1]
      · exact ih.1
    · split
      · rename_i d hd
        have hne : d ≠ D := fun e => hn n (by omega) (e ▸ hd)
        rw [Array.getElem?_setIfInBounds_ne hne]
        exact ih.2 D hD (fun i hi => hn i (by omega))
      · exact ih.2 D hD (fun i hi => hn i (by omega))
theorem fill_val (ops : Array Oper) (u : Nat → Value) (t : Array Value) : ∀ n, (∀ i j d, i < n → j < n → dstAt ops i = some d → dstAt ops j = some d → i = j) → ∀ i d, i < n → d < t.size → dstAt ops i = some d → ((List.range n).foldl (fun t i => match dstAt ops i with
    | some d => t.setIfInBounds d (u i)
    | none => t) t)[d]? = some (u i)
  | 0, _, _, _, h, _, _ => absurd h (by omega)
  | n + 1, hinj, i, d, hi, hd, hdst => by
    have hsz := (fill_at ops u t n).1
    rw [List.range_succ, List.foldl_append]
    simp only [List.foldl_cons, List.foldl_nil]
    by_cases e : i = n
    · subst e
      rw [hdst]
      simp only
      rw [Array.getElem?_setIfInBounds_self_of_lt (by rw [hsz]; exact hd)]
    · have ih := fill_val ops u t n (fun i j d hi hj => hinj i j d (by omega) (by omega)) i d (by omega) hd hdst
      split
      · rename_i d' hd'
        have hne : d' ≠ d := fun e' => e (hinj i n d hi (by omega) hdst (e' ▸ hd'))
        rw [Array.getElem?_setIfInBounds_ne hne]
        exact ih
      · exact ih


/-- A way for the memory to grow: what the operations may do to it. -/
structure Grows (Le : World → World → Prop) : Prop where
  refl : ∀ w, Le w w
  trans : ∀ a b c, Le a b → Le b c → Le a c
  size : ∀ a b, Le a b → a.heap.size ≤ b.heap.size
structure Laid (ops : Array Oper) (lk : Nat → Option Nat) (n sz : Nat) : Prop where
  dst : ∀ i, i < n → ∃ d, dstAt ops i = some d ∧ d < sz ∧ ∀ j, j < n → dstAt ops j = some d → i = j
  op : ∀ i, i < n → ∃ o, ops[i]? = some o ∧ o.guard = none ∧ ∀ j, lk i = some j → waitsOn o j = true ∧ j < n
theorem laidOk {ops : Array Oper} {lk : Nat → Option Nat} {n sz : Nat} (hok : okPre ops lk n sz = true) : Laid ops lk n sz := by
  simp only [okPre, Bool.and_eq_true] at hok
  obtain ⟨hdst, hgd⟩ := hok
  refine ⟨fun i hi => ?_, fun i hi => ?_⟩
  · have h := List.all_eq_true.1 hdst i (by simpa using hi)
    rcases e : dstAt ops i with _ | d
    · rw [e] at h; simp at h
    · rw [e] at h
      simp only [Option.any_some, Bool.and_eq_true, decide_eq_true_eq] at h
      refine ⟨d, rfl, h.1, fun j hj e' => ?_⟩
      have h2 := List.all_eq_true.1 h.2 j (by simpa using hj)
      simp only [Bool.or_eq_true, beq_iff_eq, bne_iff_ne] at h2
      rcases h2 with h2 | h2
      · exact h2
      · exact absurd e' h2
  · have h := List.all_eq_true.1 hgd i (by simpa using hi)
    rcases e : ops[i]? with _ | o
    · rw [e] at h; simp at h
    · rw [e] at h
      simp only [Option.any_some, Bool.and_eq_true] at h
      refine ⟨o, rfl, by simpa using h.1, fun j hj => ?_⟩
      rw [hj] at h
      simp only [Option.all_some, Bool.and_eq_true, decide_eq_true_eq] at h
      exact h.2
/-- One operation more. -/
theorem PreI.put {Le : World → World → Prop} {F : Nat → Value → (Nat → Prop) → World → Prop} {lk : Nat → Option Nat} {rel : Nat → Value → Value → Prop} {ops : Array Oper} {n : Nat} {a0 : Act} {w0 : World} {l : Nat → Bool} {a : Act} {w y : World} {u : Nat → Value} {e0 : Nat → Nat → Prop} {i : Nat} {o : Oper} {v : Value} {E : Nat → Prop}
    (hp : PreI Le F lk rel ops n a0 w0 l a w u e0) (hLe : Grows Le) (hL : Laid ops lk n a0.tmps.size) (hst : ∀ i v E x y, F i v E x → Le x y → F i v E y) (hin : i < n) (ho' : ops[i]? = some o) (hli : l i = false)
    (hF : F i v E y) (hrel : ∀ j, lk i = some j → l j = true ∧ rel i (u j) v) (hb : Le w y) (hft : ∀ g, E g → w.heap.size ≤ g ∧ g < y.heap.size) :
    PreI Le F lk rel ops n a0 w0 (fun j => j == i || l j) (a.put o.dst v) y (fun j => if j = i then v else u j) (fun j => if j = i then E else e0 j) := by
  obtain ⟨d, hd, hdz, hdi⟩ := hL.dst i hin
  have hod : o.dst = some d := by
    unfold dstAt at hd
    rw [ho'] at hd
    exact hd
  have hput : (a.put o.dst v).tmps = a.tmps.setIfInBounds d v := by rw [hod]; rfl
  refine ⟨fun j d' hj hl hd' => ?_, fun d' hd' => ?_, ?_, ?_, fun j hj hl => ?_, fun j k hj hl hjk => ?_, fun j g hj hl hg' => ?_, fun j k g hj hk hne hlj hlk h1 h2 => ?_, hLe.trans _ _ _ hp.below hb⟩
  · rw [hput]
    by_cases e : j = i
    · subst e
      rw [hd] at hd'
      cases hd'
      rw [Array.getElem?_setIfInBounds_self_of_lt (by rw [hp.size]; exact hdz), if_pos rfl]
    · rw [if_neg e]
      have hne : d ≠ d' := fun e' => e (hdi j hj (e' ▸ hd')).symm
      rw [Array.getElem?_setIfInBounds_ne hne]
      exact hp.val j d' hj (by simpa [e] using hl) hd'
  · rw [hput]
    have hne : d ≠ d' := fun e' => hd' i hin (by simp) (e' ▸ hd)
    rw [Array.getElem?_setIfInBounds_ne hne]
    exact hp.old d' fun j hj hl => hd' j hj (by simp [hl])
  · rw [hput, Array.size_setIfInBounds]
    exact hp.size
  · rw [hod]
    exact hp.defers
  · by_cases e : j = i
    · subst e; rw [if_pos rfl, if_pos rfl]; exact hF
    · rw [if_neg e, if_neg e]
      exact hst j _ _ _ _ (hp.fact j hj (by simpa [e] using hl)) hb
  · by_cases e : j = i
    · subst e
      have h1 := (hrel k hjk).1
      have hne : k ≠ j := fun e' => by rw [e', hli] at h1; cases h1
      rw [if_pos rfl, if_neg hne]
      exact ⟨by simp [h1], (hrel k hjk).2⟩
    · have h1 := hp.link j k hj (by simpa [e] using hl) hjk
      have hne : k ≠ i := fun e' => by rw [e', hli] at h1; cases h1.1
      rw [if_neg e, if_neg hne]
      exact ⟨by simp [h1.1], h1.2⟩
  · by_cases e : j = i
    · subst e
      rw [if_pos rfl] at hg'
      have := hft g hg'
      exact ⟨Nat.le_trans (hLe.size _ _ hp.below) this.1, this.2⟩
    · rw [if_neg e] at hg'
      have := hp.foot j g hj (by simpa [e] using hl) hg'
      exact ⟨this.1, Nat.lt_of_lt_of_le this.2 (hLe.size _ _ hb)⟩
  · by_cases e : j = i
    · subst e
      rw [if_pos rfl] at h1
      rw [if_neg (fun e' => hne e'.symm)] at h2
      have ha := (hft g h1).1
      have hb' := (hp.foot k g hk (by simp only [Bool.or_eq_true, beq_iff_eq] at hlk; exact hlk.resolve_left fun e' => hne e'.symm) h2).2
      omega
    · rw [if_neg e] at h1
      by_cases e2 : k = i
      · subst e2
        rw [if_pos rfl] at h2
        have ha := (hft g h2).1
        have hb' := (hp.foot j g hj (by simpa [e] using hlj) h1).2
        omega
      · rw [if_neg e2] at h2
        exact hp.apart j k g hj hk hne (by simpa [e] using hlj) (by simpa [e2] using hlk) h1 h2
theorem PreI.all {Le : World → World → Prop} {F : Nat → Value → (Nat → Prop) → World → Prop} {lk : Nat → Option Nat} {rel : Nat → Value → Value → Prop} {ops : Array Oper} {n : Nat} {a0 : Act} {w0 : World} {l : Nat → Bool} {a : Act} {w : World} {u : Nat → Value} {e0 : Nat → Nat → Prop}
    (hp' : PreI Le F lk rel ops n a0 w0 l a w u e0) (hL : Laid ops lk n a0.tmps.size) (hall : ∀ i, i < n → l i = true) : a = fillAct ops n u a0 := by
  have hf := fill_at ops u a0.tmps n
  have hv := fill_val ops u a0.tmps n (fun p q d hp hq e1 e2 => by
    obtain ⟨d', h1, h2, h3⟩ := hL.dst p hp
    rw [e1] at h1
    cases h1
    exact h3 q hq e2)
  have ht : a.tmps = (fillAct ops n u a0).tmps := by
    refine Array.ext_getElem? fun D => ?_
    by_cases hD : D < a0.tmps.size
    · by_cases hx : ∃ j, j < n ∧ dstAt ops j = some D
      · obtain ⟨j, hj, hjd⟩ := hx
        rw [hp'.val j D hj (hall j hj) hjd]
        exact (hv j D hj hD hjd).symm
      · rw [hp'.old D fun j hj _ e => hx ⟨j, hj, e⟩]
        exact (hf.2 D hD fun j hj e => hx ⟨j, hj, e⟩).symm
    · rw [Array.getElem?_eq_none (by rw [hp'.size]; omega)]
      exact (Array.getElem?_eq_none (by have h1 := hf.1; show Array.size (List.foldl _ _ _) ≤ D; rw [h1]; omega)).symm
  have hdf : a.defers = a0.defers := hp'.defers
  rcases a with ⟨t, df⟩
  simp only at ht hdf
  subst ht hdf
  rfl
/-- May the reads be taken one after the other? -/
def rdOk (ops : Array Oper) (n : Nat) : Array Bool → List Nat → (Array Bool → Bool) → Bool
  | listed, [], k => k listed
  | listed, r :: rs, k => decide (r < n) && (Region.free .any ops listed r && ((Region.ready .any ops listed).contains r && rdOk ops n (listed.setIfInBounds r true) rs k))
/-- Are what comes up, at each stage, the next of the chain and the rest of those that wait for nothing? -/
def mixOk (ops : Array Oper) (n : Nat) (σ : List (Nat × Bool)) : Nat → Array Bool → List (Nat × List Nat) → List Nat → Bool
  | 0, listed, c, als => c.isEmpty && (als.isEmpty && ((List.range n).all (fun i => listed.getD i false) && okSeq ops listed σ))
  | k + 1, listed, c, als => !(Region.ready .any ops listed).isEmpty && ((Region.ready .any ops listed).all (fun i => decide (i < n) && (als.contains i || (match c with
    | [] => false
    | (j, _) :: _ => i == j))) && ((match c with
    | [] => true
    | (i, rs) :: c' => rdOk ops n (listed.setIfInBounds i true) rs fun l' => mixOk ops n σ k l' c' als) && als.all fun j => mixOk ops n σ k (listed.setIfInBounds j true) c (als.erase j)))
def isRead (r0 : List Nat) (c : List (Nat × List Nat)) (i : Nat) : Bool := r0.contains i || c.any fun p => p.2.contains i
/-- What is to be shown of each of the first operations: of one that only reads, its value in every memory that is als told; of another, what it leaves. -/
def MixSteps (Le : World → World → Prop) (P : Program) (ops : Array Oper) (Q : Exit → Act → World → Prop) (S : World → Prop) (F : Nat → Value → (Nat → Prop) → World → Prop) (lk : Nat → Option Nat) (rel : Nat → Value → Value → Prop) (n : Nat) (a0 : Act) (w0 : World) (rd : Nat → Bool) : Nat → List Oper → Prop
  | _, [] => True
  | i, o :: r => (∀ (u : Nat → Value) (e : Nat → Nat → Prop) (a : Act) (w : World), (∀ j, j < n → waitsOn o j = true → F j (u j) (e j) w ∧ ∀ d, dstAt ops j = some d → a.tmps[d]? = some (u j)) → (∀ d, (∀ j, j < n → dstAt ops j ≠ some d) → a.tmps[d]? = a0.tmps[d]?) → Le w0 w →
      if rd i = true then ∃ v, (∀ y, S y → (execOp a.eval o).run P y = .ok (.value v) y) ∧ F i v (fun _ => False) w ∧ ∀ j, lk i = some j → rel i (u j) v
      else ∀ K : Act → World → Prop, Shut (∀ v E y, F i v E y → (∀ j, lk i = some j → rel i (u j) v) → Le w y → (∀ g, E g → w.heap.size ≤ g ∧ g < y.heap.size) → K (a.put o.dst v) y) → o.wp P a w K Q) ∧ MixSteps Le P ops Q S F lk rel n a0 w0 rd (i + 1) r
theorem mixSteps_at {Le : World → World → Prop} {P : Program} {ops : Array Oper} {Q : Exit → Act → World → Prop} {S : World → Prop} {F : Nat → Value → (Nat → Prop) → World → Prop} {lk : Nat → Option Nat} {rel : Nat → Value → Value → Prop} {n : Nat} {a0 : Act} {w0 : World} {rd : Nat → Bool} :
    ∀ (l : List Oper) (k i : Nat) (o : Oper), MixSteps Le P ops Q S F lk rel n a0 w0 rd k l → l[i]? = some o → ∀ (u : Nat → Value) (e : Nat → Nat → Prop) (a : Act) (w : World), (∀ j, j < n → waitsOn o j = true → F j (u j) (e j) w ∧ ∀ d, dstAt ops j = some d → a.tmps[d]? = some (u j)) → (∀ d, (∀ j, j < n → dstAt ops j ≠ some d) → a.tmps[d]? = a0.tmps[d]?) → Le w0 w →
      if rd (k + i) = true then ∃ v, (∀ y, S y → (execOp a.eval o).run P y = .ok (.value v) y) ∧ F (k + i) v (fun _ => False) w ∧ ∀ j, lk (k + i) = some j → rel (k + i) (u j) v
      else ∀ K : Act → World → Prop, (∀ v E y, F (k + i) v E y → (∀ j, lk (k + i) = some j → rel (k + i) (u j) v) → Le w y → (∀ g, E g → w.heap.size ≤ g ∧ g < y.heap.size) → K (a.put o.dst v) y) → o.wp P a w K Q
  | [], _, _, _, _, h => by simp at h
  | o' :: r, k, 0, o, h, hi => by simp at hi; subst hi; exact h.1
  | o' :: r, k, i + 1, o, h, hi => by
    simp at hi
    have := mixSteps_at r (k + 1) i o h.2 hi
    rw [show k + 1 + i = k + (i + 1) by omega] at this
    exact this
theorem ready_deps {ops : Array Oper} {listed : Array Bool} {i : Nat} {o : Oper} (hi : i ∈ Region.ready .any ops listed) (ho : ops[i]? = some o) {j : Nat} (hj : waitsOn o j = true) : listed.getD j false = true := by
  obtain ⟨hun, o', ho', hall⟩ := mem_ready.1 hi
  rw [ho] at ho'
  cases ho'
  unfold waitsOn at hj
  rw [Array.any_eq_true] at hj
  obtain ⟨k, hk, hb⟩ := hj
  simp only [Bool.and_eq_true, beq_iff_eq] at hb
  have := hall _ (Array.getElem_mem hk) hb.1
  rw [hb.2] at this
  exact this
theorem ready_not {ops : Array Oper} {listed : Array Bool} {i : Nat} (hi : i ∈ Region.ready .any ops listed) : i < listed.size ∧ listed.getD i false = false := by
  obtain ⟨hun, -⟩ := mem_ready.1 hi
  have hlt : i < listed.size := by
    rcases Nat.lt_or_ge i listed.size with h' | h'
    · exact h'
    · simp [Array.getD, Nat.not_lt.2 h'] at hun
  exact ⟨hlt, by simp [Array.getD, hlt] at hun ⊢; exact hun⟩
theorem flags_set {listed : Array Bool} {i : Nat} (hlt : i < listed.size) : (fun j => (listed.setIfInBounds i true).getD j false) = fun j => j == i || listed.getD j false := by
  funext j
  by_cases hji : j = i
  · subst hji; simp [Array.getD, hlt]
  · have hne : ¬ i = j := fun e => hji e.symm
    rw [getD_set_ne false hne]
    simp [hji]
def lenMix (c : List (Nat × List Nat)) (als : List Nat) : Nat := (c.map fun p => p.2.length + 1).sum + als.length

section
variable {Le : World → World → Prop} {P : Program} {ops : Array Oper} {Q : Exit → Act → World → Prop} {S : World → Prop} {F : Nat → Value → (Nat → Prop) → World → Prop} {lk : Nat → Option Nat} {rel : Nat → Value → Value → Prop} {n : Nat} {a0 : Act} {w0 : World} {rd : Nat → Bool}

theorem rd_any (hns : Region.noSelect ops = true) (hQ : ∀ c a d v w, Q (.panic c) (Act.put a (some d) v) w → Q (.panic c) a w) (hLe : Grows Le) (hL : Laid ops lk n a0.tmps.size) (hst : ∀ i v E x y, F i v E x → Le x y → F i v E y)
    (hs : MixSteps Le P ops Q S F lk rel n a0 w0 rd 0 (ops.toList.take n)) (k : Array Bool → Bool) (m : Nat) :
    ∀ (rs : List Nat) (listed : Array Bool) (a : Act) (w : World) (fuel : Nat) (u : Nat → Value) (e : Nat → Nat → Prop), rdOk ops n listed rs k = true → (∀ r ∈ rs, rd r = true) → rs.length + m ≤ fuel → S w → PreI Le F lk rel ops n a0 w0 (fun j => listed.getD j false) a w u e →
      (∀ listed' a' fuel' u' e', k listed' = true → m ≤ fuel' → PreI Le F lk rel ops n a0 w0 (fun j => listed'.getD j false) a' w u' e' → wpAnyH P .any ops Q S fuel' listed' a' w) → wpAnyH P .any ops Q S fuel listed a w
  | [], listed, a, w, fuel, u, e, hok, _, hf, _, hp, hk => hk listed a fuel u e hok (by simpa using hf) hp
  | r :: rs, listed, a, w, 0, u, e, hok, _, hf, _, hp, hk => by simp at hf
  | r :: rs, listed, a, w, fuel + 1, u, e, hok, hrd, hf, hS, hp, hk => by
    simp only [rdOk, Bool.and_eq_true, decide_eq_true_eq] at hok
    obtain ⟨hrn, hfr, hct, hrest⟩ := hok
    have hmem : r ∈ Region.ready .any ops listed := by simpa using hct
    obtain ⟨o, ho, hg, hlk⟩ := hL.op r hrn
    obtain ⟨hlt, hun⟩ := ready_not hmem
    have step := mixSteps_at (ops.toList.take n) 0 r o hs (by rw [List.getElem?_take, if_pos hrn]; simpa using ho) u e a w
      (fun j hj hwj => ⟨hp.fact j hj (ready_deps hmem ho hwj), fun d' hd' => hp.val j d' hj (ready_deps hmem ho hwj) hd'⟩)
      (fun d' hd' => hp.old d' (fun j hj _ => hd' j hj))
      hp.below
    rw [Nat.zero_add, if_pos (hrd r (by simp))] at step
    obtain ⟨v, hv, hF, hr⟩ := step
    have hw : Region.wanted o (yielded ops a.tmps) = true := by unfold Region.wanted; rw [hg]
    have hp' := hp.put hLe hL hst hrn ho hun hF (fun j hj => ⟨ready_deps hmem ho (hlk j hj).1, hr j hj⟩) (hLe.refl _) (fun g hg => hg.elim)
    rw [← flags_set hlt] at hp'
    exact wpAnyH_take ho hns hfr hct (fun c a w hq => by
      cases hd : o.dst with
      | none => rw [hd] at hq; exact hq
      | some d => rw [hd] at hq; exact hQ c a d v w hq) (.inl ⟨hw, hv⟩) hS (rd_any hns hQ hLe hL hst hs k m rs _ _ w fuel _ _ hrest (fun x hx => hrd x (by simp [hx])) (by simp at hf; omega) hS hp' hk)

theorem mix_any (σ : List (Nat × Bool)) (hns : Region.noSelect ops = true) (hQ : ∀ c a d v w, Q (.panic c) (Act.put a (some d) v) w → Q (.panic c) a w) (hLe : Grows Le) (hL : Laid ops lk n a0.tmps.size) (hst : ∀ i v E x y, F i v E x → Le x y → F i v E y)
    (hs : MixSteps Le P ops Q S F lk rel n a0 w0 rd 0 (ops.toList.take n)) (hSb : ∀ y, Le w0 y → S y)
    (hend : ∀ (u : Nat → Value) (e : Nat → Nat → Prop) (x : World), (∀ i, i < n → F i (u i) (e i) x) → (∀ i j, i < n → lk i = some j → rel i (u j) (u i)) → (∀ i g, i < n → e i g → w0.heap.size ≤ g ∧ g < x.heap.size) → (∀ i j g, i < n → j < n → i ≠ j → e i g → ¬ e j g) → Le w0 x → SeqH P ops Q S σ (fillAct ops n u a0) x) :
    ∀ (k : Nat) (c : List (Nat × List Nat)) (als : List Nat) (listed : Array Bool) (a : Act) (w : World) (fuel : Nat) (u : Nat → Value) (e : Nat → Nat → Prop), c.length + als.length = k → mixOk ops n σ k listed c als = true → (∀ p ∈ c, rd p.1 = false ∧ ∀ r ∈ p.2, rd r = true) → (∀ j ∈ als, rd j = false) → lenMix c als + σ.length ≤ fuel → PreI Le F lk rel ops n a0 w0 (fun j => listed.getD j false) a w u e → wpAnyH P .any ops Q S fuel listed a w
  | 0, c, als, listed, a, w, fuel, u, e, hk, hok, _, _, hf, hp => by
    simp only [mixOk, Bool.and_eq_true] at hok
    obtain ⟨-, -, hall, hseq⟩ := hok
    have hall' : ∀ i, i < n → listed.getD i false = true := fun i hi => List.all_eq_true.1 hall i (by simpa using hi)
    rw [hp.all hL hall']
    exact seq_anyH hns hQ σ _ _ _ _ hseq (by omega) (hSb _ hp.below) (hend u e w (fun i hi => hp.fact i hi (hall' i hi)) (fun i j hi hj => (hp.link i j hi (hall' i hi) hj).2) (fun i g hi => hp.foot i g hi (hall' i hi)) (fun i j g hi hj hne => hp.apart i j g hi hj hne (hall' i hi) (hall' j hj)) hp.below)
  | k + 1, c, als, listed, a, w, 0, u, e, hk, hok, _, _, hf, hp => by
    exfalso
    rcases c with _ | ⟨p, c⟩
    · rcases als with _ | ⟨j, als⟩
      · simp at hk
      · simp [lenMix] at hf
    · simp [lenMix] at hf
  | k + 1, c, als, listed, a, w, fuel + 1, u, e, hk, hok, hc, has, hf, hp => by
    simp only [mixOk, Bool.and_eq_true] at hok
    obtain ⟨hne, hrdy, hch, hal⟩ := hok
    have hne' : Region.ready .any ops listed ≠ [] := fun h => by rw [h] at hne; cases hne
    refine ⟨fun h => absurd h hne', fun i hi => ?_⟩
    have hri := List.all_eq_true.1 hrdy i hi
    simp only [Bool.and_eq_true, decide_eq_true_eq] at hri
    obtain ⟨hin, hwho⟩ := hri
    obtain ⟨o, ho, hg, hlk⟩ := hL.op i hin
    obtain ⟨hlt, hun⟩ := ready_not hi
    have step := mixSteps_at (ops.toList.take n) 0 i o hs (by rw [List.getElem?_take, if_pos hin]; simpa using ho) u e a w
      (fun j hj hwj => ⟨hp.fact j hj (ready_deps hi ho hwj), fun d' hd' => hp.val j d' hj (ready_deps hi ho hwj) hd'⟩)
      (fun d' hd' => hp.old d' (fun j hj _ => hd' j hj))
      hp.below
    rw [Nat.zero_add] at step
    have hw : Region.wanted o (yielded ops a.tmps) = true := by unfold Region.wanted; rw [hg]
    have hgo : ∀ K : Act → World → Prop, (∀ v E y, F i v E y → (∀ j, lk i = some j → rel i (u j) v) → Le w y → (∀ g, E g → w.heap.size ≤ g ∧ g < y.heap.size) → K (a.put o.dst v) y) → rd i = false → o.wp P a w K Q := fun K hK hr => by
      rw [if_neg (by simp [hr])] at step
      exact step K hK
    unfold wpOp
    simp only [ho]
    rw [if_pos hw]
    refine .inl ?_
    rcases Bool.or_eq_true _ _ ▸ hwho with hia | hic
    · have hia' : i ∈ als := by simpa using hia
      refine hgo _ (fun v E y hF hr hb hft => ?_) (has i hia')
      have hp' := hp.put hLe hL hst hin ho hun hF (fun j hj => ⟨ready_deps hi ho (hlk j hj).1, hr j hj⟩) hb hft
      rw [← flags_set hlt] at hp'
      have hl1 : (als.erase i).length + 1 = als.length := by
        rw [List.length_erase_of_mem hia']
        have := List.length_pos_of_mem hia'
        omega
      exact ⟨hSb _ hp'.below, mix_any σ hns hQ hLe hL hst hs hSb hend k c (als.erase i) _ _ y fuel _ _ (by omega) (List.all_eq_true.1 hal i hia') hc (fun j hj => has j (List.mem_of_mem_erase hj)) (by unfold lenMix at hf ⊢; omega) hp'⟩
    · rcases c with _ | ⟨⟨q, rs⟩, c⟩
      · simp at hic
      · obtain rfl : i = q := by simpa using hic
        obtain ⟨hr1, hr2⟩ := hc (i, rs) (by simp)
        refine hgo _ (fun v E y hF hr hb hft => ?_) hr1
        have hp' := hp.put hLe hL hst hin ho hun hF (fun j hj => ⟨ready_deps hi ho (hlk j hj).1, hr j hj⟩) hb hft
        rw [← flags_set hlt] at hp'
        refine ⟨hSb _ hp'.below, rd_any hns hQ hLe hL hst hs (fun l' => mixOk ops n σ k l' c als) (lenMix c als + σ.length) rs _ _ y fuel _ _ hch hr2 (by unfold lenMix at hf ⊢; simp at hf; omega) (hSb _ hp'.below) hp' fun listed' a' fuel' u' e' hk' hf' hq => ?_⟩
        exact mix_any σ hns hQ hLe hL hst hs hSb hend k c als listed' a' y fuel' u' e' (by simp at hk; omega) hk' (fun p hpc => hc p (by simp [hpc])) has hf' hq
end
theorem if_read {b : Bool} {X Y : Prop} (h : b = true) (x : X) : if b = true then X else Y := by rw [if_pos h]; exact x
theorem if_eff {b : Bool} {X Y : Prop} (h : b = false) (y : Y) : if b = true then X else Y := by rw [if_neg (by simp [h])]; exact y
/-- THE LAW, for any way in which the memory may grow. -/
theorem wp_region_mixL (Le : World → World → Prop) (hLe : Grows Le) {P : Program} {id : Nat} {ops : Array Oper} {Q : Exit → Act → World → Prop} {a0 : Act} {w : World} (F : Nat → Value → (Nat → Prop) → World → Prop) (lk : Nat → Option Nat) (rel : Nat → Value → Value → Prop) (n : Nat) (r0 : List Nat) (c : List (Nat × List Nat)) (als : List Nat) (σ : List (Nat × Bool)) (hm : P.follows .mixedOrders = true) (hns : Region.noSelect ops = true) (hQ : ∀ c a d v w, Q (.panic c) (Act.put a (some d) v) w → Q (.panic c) a w)
    (hok : (okPre ops lk n a0.tmps.size && (rdOk ops n (Array.replicate ops.size false) r0 (fun l => mixOk ops n σ (c.length + als.length) l c als) && (decide (r0.length + (lenMix c als + σ.length) ≤ ops.size) && (c.all (fun p => !isRead r0 c p.1) && als.all (fun j => !isRead r0 c j))))) = true) (hst : ∀ i v E x y, F i v E x → Le x y → F i v E y)
    (hs : MixSteps Le P ops Q (fun y => Le w.drew y) F lk rel n a0 w.drew (isRead r0 c) 0 (ops.toList.take n))
    (hend : ∀ (u : Nat → Value) (e : Nat → Nat → Prop) (x : World), (∀ i, i < n → F i (u i) (e i) x) → (∀ i j, i < n → lk i = some j → rel i (u j) (u i)) → (∀ i g, i < n → e i g → w.heap.size ≤ g ∧ g < x.heap.size) → (∀ i j g, i < n → j < n → i ≠ j → e i g → ¬ e j g) → Le w.drew x → SeqH P ops Q (fun y => Le w.drew y) σ (fillAct ops n u a0) x) :
    (Code.region id ops true).wp P Q a0 w := by
  simp only [Bool.and_eq_true, decide_eq_true_eq] at hok
  obtain ⟨h1, h2, h3, h4, h5⟩ := hok
  have hL := laidOk h1
  have hp : PreI Le F lk rel ops n a0 w.drew (fun j => (Array.replicate ops.size false).getD j false) a0 w.drew (fun _ => undef) (fun _ _ => False) := by
    have : (fun j => (Array.replicate ops.size false).getD j false) = fun _ : Nat => false := by
      funext j; simp [Array.getD]
    rw [this]
    exact ⟨by simp, by simp, rfl, rfl, by simp, by simp, by simp, by simp, hLe.refl _⟩
  refine wp_region_held hm (rd_any hns hQ hLe hL hst hs _ (lenMix c als + σ.length) r0 _ a0 w.drew ops.size _ _ h2 (fun r hr => by unfold isRead; simp [hr]) h3 (hLe.refl _) hp fun listed' a' fuel' u' e' hk' hf' hq => ?_)
  exact mix_any σ hns hQ hLe hL hst hs (fun y hy => hy) hend _ c als listed' a' w.drew fuel' u' e' rfl hk' (fun p hpc => ⟨by simpa using List.all_eq_true.1 h4 p hpc, fun r hr => by unfold isRead; simp only [Bool.or_eq_true]; exact .inr (List.any_eq_true.2 ⟨p, hpc, by simpa using hr⟩)⟩) (fun j hj => by simpa using List.all_eq_true.1 h5 j hj) hf' hq
/-- THE LAW. -/
theorem wp_region_mix {P : Program} {id : Nat} {ops : Array Oper} {Q : Exit → Act → World → Prop} {a0 : Act} {w : World} (F : Nat → Value → (Nat → Prop) → World → Prop) (lk : Nat → Option Nat) (rel : Nat → Value → Value → Prop) (n : Nat) (r0 : List Nat) (c : List (Nat × List Nat)) (als : List Nat) (σ : List (Nat × Bool)) (hm : P.follows .mixedOrders = true) (hns : Region.noSelect ops = true) (hQ : ∀ c a d v w, Q (.panic c) (Act.put a (some d) v) w → Q (.panic c) a w)
    (hok : (okPre ops lk n a0.tmps.size && (rdOk ops n (Array.replicate ops.size false) r0 (fun l => mixOk ops n σ (c.length + als.length) l c als) && (decide (r0.length + (lenMix c als + σ.length) ≤ ops.size) && (c.all (fun p => !isRead r0 c p.1) && als.all (fun j => !isRead r0 c j))))) = true) (hst : ∀ i v E x y, F i v E x → Below x.heap.size x y → F i v E y)
    (hs : MixSteps (fun a b => Below a.heap.size a b) P ops Q (fun y => Below w.heap.size w.drew y) F lk rel n a0 w.drew (isRead r0 c) 0 (ops.toList.take n))
    (hend : ∀ (u : Nat → Value) (e : Nat → Nat → Prop) (x : World), (∀ i, i < n → F i (u i) (e i) x) → (∀ i j, i < n → lk i = some j → rel i (u j) (u i)) → (∀ i g, i < n → e i g → w.heap.size ≤ g ∧ g < x.heap.size) → (∀ i j g, i < n → j < n → i ≠ j → e i g → ¬ e j g) → Below w.heap.size w.drew x → SeqH P ops Q (fun y => Below w.heap.size w.drew y) σ (fillAct ops n u a0) x) :
    (Code.region id ops true).wp P Q a0 w :=
  wp_region_mixL (fun a b => Below a.heap.size a b) ⟨fun _ => Below.refl _ _, fun _ _ _ h k => h.trans (k.mono h.size), fun _ _ h => h.size⟩ F lk rel n r0 c als σ hm hns hQ hok hst hs hend
end Go.Proofs.YtblcgbgcccjpcaaGreat
namespace Go.Proofs.YtblcgbgcccjpcaaGreat
open Go.RowKit
set_option maxRecDepth 20000
namespace M
end M
/-- A box with a book of one's own. -/
structure BB (B : Nat) (x : World) (G : Nat) (A1 : Option Addr) (c1 : Nat) (A2 : Option Addr) (c2 : Nat) (rs : List Wr) (ls : List M.La) : Prop where
  box : Holds x G (bkA A1 rs.length c1 A2 ls.length c2)
  sf : SfOwn B x (.slice A1 rs.length c1) rs
  la : LasOwn B x (.slice A2 ls.length c2) ls
theorem BB.below {B G c1 c2 : Nat} {x y : World} {A1 A2 : Option Addr} {rs : List Wr} {ls : List M.La} (h : BB B x G A1 c1 A2 c2 rs ls) (hb : Below x.heap.size x y) : BB B y G A1 c1 A2 c2 rs ls := ⟨h.box.below hb, h.sf.below hb, LasOwn.below h.la hb⟩
theorem BB.touch {S : Nat → Prop} {B G c1 c2 : Nat} {x y : World} {A1 A2 : Option Addr} {rs : List Wr} {ls : List M.La} (h : BB B x G A1 c1 A2 c2 rs ls) (ht : TouchS S x y) (hG : ¬ S G) (hne : ∀ g, blocksB (.slice A1 rs.length c1) (.slice A2 ls.length c2) rs g → ¬ S g) : BB B y G A1 c1 A2 c2 rs ls :=
  ⟨ht.holds h.box hG, ht.sf h.sf (fun g hg => hne g (.inl hg)), ht.row h.la (fun g hg => hne g (.inr hg))⟩
theorem BB.ge {B G c1 c2 : Nat} {x : World} {A1 A2 : Option Addr} {rs : List Wr} {ls : List M.La} (h : BB B x G A1 c1 A2 c2 rs ls) {g : Nat} (hg : blocksB (.slice A1 rs.length c1) (.slice A2 ls.length c2) rs g) : B ≤ g ∧ g < x.heap.size := by
  rcases hg with hg | hg
  · exact h.sf.ge hg
  · exact World.ownsRow.lt h.la g hg
theorem BB.las {B G c1 c2 : Nat} {x : World} {A1 A2 : Option Addr} {rs : List Wr} {ls : List M.La} (h : BB B x G A1 c1 A2 c2 rs ls) : Las x A2 ls := las_of h.la
/-- v is a copy of a book, to be given away. -/
def BkArg (l : List Wr) (m : List M.La) (v : Value) (x : World) : Prop :=
  ∃ (rs : List Wr) (g1 g2 : Nat), v = bkV (some ⟨g1, 0, none⟩) rs.length rs.length (some ⟨g2, 0, none⟩) m.length m.length ∧ rs.map Wr.wk = l.map Wr.wk ∧ rs.length = l.length ∧ (∀ r ∈ rs, r.ad ≠ none ∧ r.cap = r.cps.length) ∧ Wks x (some ⟨g1, 0, none⟩) rs ∧ Las x (some ⟨g2, 0, none⟩) m
theorem BkArg.below {l : List Wr} {m : List M.La} {v : Value} {x y : World} (h : BkArg l m v x) (hb : Below x.heap.size x y) : BkArg l m v y := by
  obtain ⟨rs, g1, g2, e, h1, h2, h3, h4, h5⟩ := h
  exact ⟨rs, g1, g2, e, h1, h2, h3, h4.below hb, h5.below hb⟩
/-- v is a book and a reply, E the book's blocks. -/
def BkRes (B : Nat) (q : M.Bk × M.Rp) (v : Value) (E : Nat → Prop) (x : World) : Prop :=
  ∃ A1 c1 A2 c2 rs, v = .tuple #[bkV A1 rs.length c1 A2 q.1.2.length c2, rpV q.2.1 q.2.2] ∧ SfOwn B x (.slice A1 rs.length c1) rs ∧ rs.map Wr.wk = q.1.1 ∧ LasOwn B x (.slice A2 q.1.2.length c2) q.1.2 ∧ (∀ g, (Value.slice A2 q.1.2.length c2).ownBlock = some g → ¬ blocksS (.slice A1 rs.length c1) rs g) ∧ ∀ g, E g ↔ blocksB (.slice A1 rs.length c1) (.slice A2 q.1.2.length c2) rs g
theorem BkRes.below {B : Nat} {q : M.Bk × M.Rp} {v : Value} {E : Nat → Prop} {x y : World} (h : BkRes B q v E x) (hb : Below x.heap.size x y) : BkRes B q v E y := by
  obtain ⟨A1, c1, A2, c2, rs, e, h1, h2, h3, h4, h5⟩ := h
  exact ⟨A1, c1, A2, c2, rs, e, h1.below hb, h2, LasOwn.below h3 hb, h4, h5⟩
/-- s points to a new box that holds C and may be written, E its block. -/
def NewBox (C : Array Value) (v : Value) (E : Nat → Prop) (x : World) : Prop :=
  ∃ g, v = .pointer (some ⟨g, 0, none⟩) ∧ Holds x g C ∧ Loose x g ∧ ∀ k, E k ↔ k = g
theorem NewBox.below {C : Array Value} {v : Value} {E : Nat → Prop} {x y : World} (h : NewBox C v E x) (hb : Below x.heap.size x y) : NewBox C v E y := by
  obtain ⟨g, e, h1, h2, h3⟩ := h
  exact ⟨g, e, h1.below hb, h2.below h1.1 hb, h3⟩
theorem OrRet.res {w y : World} {B : Nat} {q : M.Bk × M.Rp} {r : Ending} (h : OrRet w q r y) (hB : B ≤ w.heap.size) : ∃ v E, r = .returned v ∧ BkRes B q v E y ∧ Below w.heap.size w y ∧ ∀ g, E g → w.heap.size ≤ g ∧ g < y.heap.size := by
  obtain ⟨v1, v2, rs, e, h1, h2, h3, h4, h5⟩ := h
  obtain ⟨A1, c1, rfl, -, -⟩ := h1.open
  obtain ⟨A2, c2, rfl, -, -⟩ := LasOwn.open h3
  refine ⟨_, blocksB (.slice A1 rs.length c1) (.slice A2 q.1.2.length c2) rs, e, ⟨A1, c1, A2, c2, rs, rfl, h1.mono hB, h2, LasOwn.mono h3 hB, h4, fun g => Iff.rfl⟩, h5, fun g hg => ?_⟩
  rcases hg with hg | hg
  · exact h1.ge hg
  · exact World.ownsRow.lt h3 g hg
/-- Where a statement 'b, r := Ordered(..)' leaves its two boxes. -/
def OrdBox (W0 : World) (q : M.Bk × M.Rp) (s t : Value) (x : World) : Prop :=
  ∃ (A1 : Option Addr) (c1 : Nat) (A2 : Option Addr) (c2 : Nat) (rs : List Wr) (G H : Nat), s = .pointer (some ⟨G, 0, none⟩) ∧ t = .pointer (some ⟨H, 0, none⟩) ∧ W0.heap.size ≤ G ∧ W0.heap.size ≤ H ∧ G ≠ H ∧ Below W0.heap.size W0 x ∧ BB W0.heap.size x G A1 c1 A2 c2 rs q.1.2 ∧ Holds x H (rpA q.2.1 q.2.2) ∧ rs.map Wr.wk = q.1.1 ∧ (∀ g, (Value.slice A2 q.1.2.length c2).ownBlock = some g → ¬ blocksS (.slice A1 rs.length c1) rs g) ∧ ¬ blocksB (.slice A1 rs.length c1) (.slice A2 q.1.2.length c2) rs G ∧ ¬ blocksB (.slice A1 rs.length c1) (.slice A2 q.1.2.length c2) rs H
/-- The links between the values of such a statement: what is moved, and its two parts. -/
def relOrd (k : Nat) (i : Nat) (v r : Value) : Prop := if i = k then r = v else if i = k + 1 then ∃ a b, v = .tuple #[a, b] ∧ r = a else ∃ a b, v = .tuple #[a, b] ∧ r = b
def lkOrd (k : Nat) (i : Nat) : Option Nat := if i = k then some (k - 1) else if i = k + 1 then some k else if i = k + 2 then some k else none
/-- The two boxes behind their stores. -/
theorem ordBox_of {W0 y : World} {q : M.Bk × M.Rp} {A1 A2 : Option Addr} {c1 c2 : Nat} {rs : List Wr} {G H : Nat} (o1 : SfOwn W0.heap.size y (.slice A1 rs.length c1) rs) (hm : rs.map Wr.wk = q.1.1) (o2 : LasOwn W0.heap.size y (.slice A2 q.1.2.length c2) q.1.2)
    (hap : ∀ g, (Value.slice A2 q.1.2.length c2).ownBlock = some g → ¬ blocksS (.slice A1 rs.length c1) rs g) (hG : Holds y G (bkA none 0 0 none 0 0)) (hH : Holds y H (rpA 0 noP)) (hg : W0.heap.size ≤ G) (hh : W0.heap.size ≤ H) (hGH : G ≠ H) (hGB : ¬ blocksB (.slice A1 rs.length c1) (.slice A2 q.1.2.length c2) rs G) (hHB : ¬ blocksB (.slice A1 rs.length c1) (.slice A2 q.1.2.length c2) rs H) (hb : Below W0.heap.size W0 y) :
    OrdBox W0 q (.pointer (some ⟨G, 0, none⟩)) (.pointer (some ⟨H, 0, none⟩)) ((((y.setCell ⟨G, 0, none⟩ (.slice A1 rs.length c1)).setCell ⟨G, 1, none⟩ (.slice A2 q.1.2.length c2)).setCell ⟨H, 0, none⟩ (.int .i64 q.2.1)).setCell ⟨H, 1, none⟩ (.string q.2.2)) :=
  ⟨A1, c1, A2, c2, rs, G, H, rfl, rfl, hg, hh, hGH, far_2 (far_2 hb hg _ _) hh _ _,
    ⟨(hG.wr2 _ _).off2 hGH _ _, (((o1.offN (fun e => hGB (.inl e)) 0 _).offN (fun e => hGB (.inl e)) 1 _).offN (fun e => hHB (.inl e)) 0 _).offN (fun e => hHB (.inl e)) 1 _, own_off (own_off (own_off (own_off o2 (fun e => hGB (.inr e)) 0 _) (fun e => hGB (.inr e)) 1 _) (fun e => hHB (.inr e)) 0 _) (fun e => hHB (.inr e)) 1 _⟩,
    (hH.off2 (fun e => hGH e.symm) _ _).wr2 _ _, hm, hap, hGB, hHB⟩
end Go.Proofs.YtblcgbgcccjpcaaGreat
