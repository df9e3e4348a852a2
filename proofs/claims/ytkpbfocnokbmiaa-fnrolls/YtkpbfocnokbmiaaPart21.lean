/- Proved, in parts: Proved: a statement that leaves its order open is gone through in one order, where its last operation may write what the others read; no program is named here. Condition: what is taken first reads the same in every memory that is as told, and the last one waits for it. Proved: an argument that is a list of bytes can be read byte by byte, and the laws' own test of its length; no condition. -/
import Derived.Test.YtkpbfocnokbmiaaPart14
import Derived.ProofKit
import Derived.OpenShut
import Derived.Carry
namespace Go.Proofs.Ytkpbfocnokbmiaa
open Go

/-- Does number n wait for number i? -/
def waits (ops : Array Oper) (n i : Nat) : Bool := match ops[n]? with
  | some o => o.after.any fun e => Region.binds .any e && e.on == i
  | none => false

/-- Whatever order is picked from here on; S holds behind every operation as long as number n has not come up. -/
def wpAnyF (P : Program) (ops : Array Oper) (Q : Exit → Act → World → Prop) (n : Nat) (S : World → Prop) : Nat → Array Bool → Act → World → Prop
  | 0, listed, a, w => Region.ready .any ops listed = [] ∧ Q .normal a w
  | fuel + 1, listed, a, w =>
    (Region.ready .any ops listed = [] → Q .normal a w) ∧
    ∀ i ∈ Region.ready .any ops listed, wpOp P ops Q i (fun a' w' => ((listed.setIfInBounds i true).getD n true = false → S w') ∧ wpAnyF P ops Q n S fuel (listed.setIfInBounds i true) a' w') a w

theorem wpAny_of_F {P : Program} {ops : Array Oper} {Q : Exit → Act → World → Prop} {n : Nat} {S : World → Prop} : ∀ (fuel : Nat) (listed : Array Bool) (a : Act) (w : World), wpAnyF P ops Q n S fuel listed a w → wpAny P .any ops Q fuel listed a w
  | 0, _, _, _, h => h
  | fuel + 1, _, _, _, h => ⟨h.1, fun i hi => wpOp_mono (fun a' w' h' => wpAny_of_F fuel _ a' w' h'.2) (h.2 i hi)⟩

theorem wpAnyF_first {P : Program} {ops : Array Oper} {Q : Exit → Act → World → Prop} {n : Nat} {S : World → Prop} {i : Nat} {oi : Oper} {v : Value} (hi : ops[i]? = some oi) (hin : i ≠ n) (hsel : ∀ (j : Nat) (o : Oper) cs b, ops[j]? = some o → o.op ≠ .select cs b)
    (hQ : ∀ c a w, Q (.panic c) (a.put oi.dst v) w → Q (.panic c) a w) :
    ∀ (fuel : Nat) (listed : Array Bool) (a : Act) (w : World),
      (∀ j oj, ops[j]? = some oj → j ≠ i → listed.getD j true = false → (∀ e ∈ oj.after, Region.binds .any e = true → e.on ≠ i) → oi.apart ops oj = true) →
      i ∈ Region.ready .any ops listed → YieldsIf P ops (fun x => waits ops n i = true → S x) oi v a → (waits ops n i = true → listed.getD n true = false) → (listed.getD n true = false → S w) →
      wpAnyF P ops Q n S fuel (listed.setIfInBounds i true) (a.put oi.dst v) w → wpAnyF P ops Q n S (fuel + 1) listed a w := by
  intro fuel
  induction fuel with
  | zero =>
    intro listed a w _ hr hy hn hS H
    refine ⟨fun h => (by rw [h] at hr; cases hr), fun j hj => ?_⟩
    by_cases hji : j = i
    · subst hji
      exact hy.wpOp hi (fun h => hS (hn h)) ⟨fun h => hS (by rwa [getD_set_ne true hin] at h), H⟩
    · have := ready_mono hj hji
      rw [H.1] at this
      cases this
  | succ fuel ih =>
    intro listed a w hfree hr hy hn hS H
    refine ⟨fun h => (by rw [h] at hr; cases hr), fun j hj => ?_⟩
    by_cases hji : j = i
    · subst hji
      exact hy.wpOp hi (fun h => hS (hn h)) ⟨fun h => hS (by rwa [getD_set_ne true hin] at h), H⟩
    · have h1 := H.2 j (ready_mono hj hji)
      obtain ⟨hjun, oj, hoj, hall⟩ := mem_ready.1 hj
      have hnot : ∀ e ∈ oj.after, Region.binds .any e = true → e.on ≠ i := fun e he hb heq => by
        have h1 := hall e he hb
        have h0 := (mem_ready.1 hr).1
        rw [heq] at h1
        rcases Nat.lt_or_ge i listed.size with h' | h'
        · simp [h'] at h0 h1; rw [h0] at h1; cases h1
        · simp [Array.getElem?_eq_none h'] at h1
      have hjn : waits ops n i = true → j ≠ n := fun hw e => by
        subst e
        unfold waits at hw
        rw [hoj] at hw
        simp only [Array.any_eq_true] at hw
        obtain ⟨k, hk, hb⟩ := hw
        simp only [Bool.and_eq_true, beq_iff_eq] at hb
        exact hnot _ (Array.getElem_mem hk) hb.1 hb.2
      have h2 := wpOp_putIf hoj (hfree j oj hoj hji hjun hnot) (fun cs b => hsel i oi cs b hi) (fun cs b => hsel j oj cs b hoj) hQ hy h1
      have hfree' : ∀ k ok, ops[k]? = some ok → k ≠ i → (listed.setIfInBounds j true).getD k true = false →
          (∀ e ∈ ok.after, Region.binds .any e = true → e.on ≠ i) → oi.apart ops ok = true := fun k ok hk hki hun hno => by
        refine hfree k ok hk hki ?_ hno
        by_cases hjk : j = k
        · subst hjk; exact hjun
        · rw [getD_set_ne true hjk] at hun; exact hun
      refine wpOp_mono (fun a' w' h3 => ?_) h2
      have hS' : (listed.setIfInBounds j true).getD n true = false → S w' := fun h => h3.2.1 (by
        rw [Array.setIfInBounds_comm _ _ (Ne.symm hji), getD_set_ne true hin]; exact h)
      refine ⟨hS', ih (listed.setIfInBounds j true) a' w' hfree' (ready_mono hr (Ne.symm hji)) h3.1 (fun hw => ?_) hS' ?_⟩
      · rw [getD_set_ne true (hjn hw)]; exact hn hw
      · rw [Array.setIfInBounds_comm _ _ hji]
        exact h3.2.2

theorem anyF_weaken {P : Program} {ops : Array Oper} {Q : Exit → Act → World → Prop} {n : Nat} {S S' : World → Prop} (h : ∀ w, S' w → S w) :
    ∀ (fuel : Nat) (listed : Array Bool) (a : Act) (w : World), wpAnyF P ops Q n S' fuel listed a w → wpAnyF P ops Q n S fuel listed a w
  | 0, _, _, _, k => k
  | fuel + 1, _, _, _, k => ⟨k.1, fun i hi => wpOp_mono (fun a' w' h' => ⟨fun hl => h w' (h'.1 hl), anyF_weaken h fuel _ a' w' h'.2⟩) (k.2 i hi)⟩

def okSeqF (ops : Array Oper) (n : Nat) : Array Bool → List (Nat × Bool) → Bool
  | listed, [] => (Region.ready .any ops listed).isEmpty
  | listed, (i, true) :: σ => Region.free .any ops listed i && (Region.ready .any ops listed).contains i && (i != n && !(listed.getD n true)) && okSeqF ops n (listed.setIfInBounds i true) σ
  | listed, (i, false) :: σ => (Region.ready .any ops listed == [i]) && !(listed.getD n true) && okSeqF ops n (listed.setIfInBounds i true) σ

def SeqF (P : Program) (ops : Array Oper) (Q : Exit → Act → World → Prop) (n : Nat) : List (Nat × Bool) → (World → Prop) → Act → World → Prop
  | [], _, a, w => Q .normal a w
  | (i, true) :: σ, S, a, w => ∃ o v, ops[i]? = some o ∧ YieldsIf P ops (fun x => waits ops n i = true → S x) o v a ∧ SeqF P ops Q n σ S (a.put o.dst v) w
  | (i, false) :: σ, S, a, w => ∃ o, ops[i]? = some o ∧ ∀ K : Act → World → Prop, Shut (∀ (S' : World → Prop) a' w', (∀ x, S' x → S x) → (i ≠ n → S' w') → ((i ≠ n → S' w') → SeqF P ops Q n σ S' a' w') → K a' w') →
      if Region.wanted o (yielded ops a.tmps) = true then Oper.wp P o a w K Q else K (a.put o.dst undef) w

theorem seqF_any {P : Program} {ops : Array Oper} {Q : Exit → Act → World → Prop} {n : Nat} (hns : Region.noSelect ops = true)
    (hQ : ∀ c a d v w, Q (.panic c) (Act.put a (some d) v) w → Q (.panic c) a w) :
    ∀ (σ : List (Nat × Bool)) (S : World → Prop) (listed : Array Bool) (a : Act) (w : World) (fuel : Nat), okSeqF ops n listed σ = true → σ.length ≤ fuel → (listed.getD n true = false → S w) → SeqF P ops Q n σ S a w → wpAnyF P ops Q n S fuel listed a w
  | [], S, listed, a, w, fuel, hok, _, _, h => by
    have hr : Region.ready .any ops listed = [] := by simpa [okSeqF] using hok
    cases fuel with
    | zero => exact ⟨hr, h⟩
    | succ f => exact ⟨fun _ => h, by rw [hr]; simp⟩
  | (i, true) :: σ, S, listed, a, w, 0, _, hl, _, _ => by simp at hl
  | (i, true) :: σ, S, listed, a, w, fuel + 1, hok, hl, hS, ⟨o, v, ho, hy, h⟩ => by
    simp only [okSeqF, Bool.and_eq_true, bne_iff_ne, Bool.not_eq_true'] at hok
    obtain ⟨⟨⟨h1, h2⟩, h3, h4⟩, h5⟩ := hok
    refine wpAnyF_first ho h3 (Region.noSelect_spec hns) (fun c a w hq => by
      cases hd : o.dst with
      | none => rw [hd] at hq; exact hq
      | some d => rw [hd] at hq; exact hQ c a d v w hq) fuel listed a w (Region.free_spec ho h1) (by simpa using h2) hy (fun _ => h4) hS ?_
    exact seqF_any hns hQ σ S _ _ w fuel h5 (by simpa using hl) (fun hl' => hS h4) h
  | (i, false) :: σ, S, listed, a, w, 0, _, hl, _, _ => by simp at hl
  | (i, false) :: σ, S, listed, a, w, fuel + 1, hok, hl, hS, ⟨o, ho, h⟩ => by
    simp only [okSeqF, Bool.and_eq_true, beq_iff_eq, Bool.not_eq_true'] at hok
    obtain ⟨⟨h1, h4⟩, h5⟩ := hok
    refine ⟨fun h0 => (by rw [h1] at h0; cases h0), fun j hj => ?_⟩
    rw [h1] at hj
    obtain rfl : j = i := by simpa using hj
    have hset : ∀ x : Bool, (listed.setIfInBounds j true).getD n x = false → j ≠ n := fun x hx e => by
      subst e
      rcases Nat.lt_or_ge j listed.size with h' | h'
      · simp [Array.getD, h'] at hx
      · simp [Array.getD, Nat.not_lt.2 h'] at h4
    have := h (fun a' w' => ((listed.setIfInBounds j true).getD n true = false → S w') ∧ wpAnyF P ops Q n S fuel (listed.setIfInBounds j true) a' w') (fun S' a' w' hle hS' hw =>
      ⟨fun hx => hle _ (hS' (hset _ hx)), anyF_weaken hle _ _ _ _ (seqF_any hns hQ σ S' _ a' w' fuel h5 (by simpa using hl) (fun hx => hS' (hset _ hx)) (hw hS'))⟩)
    unfold wpOp
    simp only [ho]
    split
    · rename_i hw
      rw [if_pos hw] at this
      exact .inl this
    · rename_i hw
      rw [if_neg hw] at this
      exact this

/-- THE LAW: a statement that draws its order, gone through in one order; number n comes last and may write what was read. -/
theorem wp_region_fin {P : Program} {id : Nat} {ops : Array Oper} {Q : Exit → Act → World → Prop} {a : Act} {w : World} (n : Nat) (S : World → Prop) (σ : List (Nat × Bool))
    (hm : P.follows .mixedOrders = true) (hns : Region.noSelect ops = true) (hQ : ∀ c a d v w, Q (.panic c) (Act.put a (some d) v) w → Q (.panic c) a w)
    (hok : okSeqF ops n (Array.replicate ops.size false) σ = true) (hlen : σ.length ≤ ops.size) (hS : S w.drew) (h : S w.drew → SeqF P ops Q n σ S a w.drew) : (Code.region id ops true).wp P Q a w :=
  wp_region_any hm (wpAny_of_F _ _ _ _ (seqF_any hns hQ σ S _ a _ _ hok hlen (fun _ => hS) (h hS)))

theorem seqF_end {P : Program} {ops : Array Oper} {Q : Exit → Act → World → Prop} {n : Nat} {S : World → Prop} {a : Act} {w : World} (h : Q .normal a w) : SeqF P ops Q n [] S a w := h
theorem seqF_reads {P : Program} {ops : Array Oper} {Q : Exit → Act → World → Prop} {n : Nat} {S : World → Prop} {i : Nat} {o : Oper} {σ : List (Nat × Bool)} {a : Act} {w : World} (ho : ops[i]? = some o)
    (hw : Region.wanted o (yielded ops a.tmps) = true) (h : ∃ v, (∀ w, (waits ops n i = true → S w) → (execOp a.eval o).run P w = .ok (.value v) w) ∧ SeqF P ops Q n σ S (a.put o.dst v) w) : SeqF P ops Q n ((i, true) :: σ) S a w :=
  h.elim fun v h => ⟨o, v, ho, .inl ⟨hw, h.1⟩, h.2⟩
theorem seqF_call {P : Program} {ops : Array Oper} {Q : Exit → Act → World → Prop} {n : Nat} {S : World → Prop} {i : Nat} {o : Oper} {σ : List (Nat × Bool)} {a : Act} {w : World} (ho : ops[i]? = some o)
    (hw : Region.wanted o (yielded ops a.tmps) = true) (h : ∀ K : Act → World → Prop, Shut (∀ (S' : World → Prop) a' w', (∀ x, S' x → S x) → S' w' → (S' w' → SeqF P ops Q n σ S' a' w') → K a' w') → Oper.wp P o a w K Q) (hin : i ≠ n) : SeqF P ops Q n ((i, false) :: σ) S a w :=
  ⟨o, ho, fun K hK => by rw [if_pos hw]; exact h K (fun S' a' w' h1 h2 h3 => hK.out S' a' w' h1 (fun _ => h2) (fun h => h3 (h hin)))⟩
/-- The last one: it may write what was read. -/
theorem seqF_last {P : Program} {ops : Array Oper} {Q : Exit → Act → World → Prop} {n : Nat} {S : World → Prop} {o : Oper} {σ : List (Nat × Bool)} {a : Act} {w : World} (ho : ops[n]? = some o)
    (hw : Region.wanted o (yielded ops a.tmps) = true) (h : ∀ K : Act → World → Prop, Shut (∀ a' w', SeqF P ops Q n σ S a' w' → K a' w') → Oper.wp P o a w K Q) : SeqF P ops Q n ((n, false) :: σ) S a w :=
  ⟨o, ho, fun K hK => by rw [if_pos hw]; exact h K (fun a' w' h1 => hK.out S a' w' (fun _ h => h) (fun h => absurd rfl h) (fun _ => h1))⟩
end Go.Proofs.Ytkpbfocnokbmiaa
namespace Go.Proofs.Ytkpbfocnokbmiaa
open Go.ChangeShapes Go.WideShapes Go.ChangeAt Go.RowKit
set_option maxRecDepth 20000

theorem big_any (a : Option Addr) (len cap : Nat) (w : World) : Calls Try.prog 13 #[.slice a len cap] w fun e w' => e = .returned (.bool (decide (4096 < len))) ∧ w = w' := by
  by_cases h : 4096 < len
  · go_enter Try.func13, Try.ntmps13
    go_wp2
    go_ret
    exact ⟨ret_bool (decide_eq_decide.2 (by omega)), rfl⟩
  · go_enter Try.func13, Try.ntmps13
    go_wp2
    go_ret
    exact ⟨ret_bool (decide_eq_decide.2 (by omega)), rfl⟩

theorem CodeOk.later {w w' : World} {a : Option Addr} {len : Nat} (h : CodeOk w.heap.size w a len) (hb : Below w.heap.size w w') : CodeOk w'.heap.size w' a len := by
  intro j hj
  obtain ⟨b, off, n, ha, hlt, h0, h1, hc⟩ := h.kept hb.block j hj
  exact ⟨b, off, n, ha, Nat.lt_of_lt_of_le hlt hb.size, h0, h1, hc⟩

theorem open_code {H : Type} {enc : TypeId × Value → H} {W : World} {spare : Nat → Bool} {held : Bool} {r : Reach} {b0 : Nat} {v : Value} {d : DataW H} {p : List MemPlace}
    (hv : Value.okWide Try.prog W r b0 22 v) (h : DataW.Trod enc Try.prog W 0 spare held 22 v d p) :
    ∃ (a : Option Addr) (len cap : Nat), v = .slice a len cap ∧ CodeOk W.heap.size W a len := by
  obtain ⟨a0, len0, cap0, rfl⟩ := okWide_slice Try.underlying22 hv
  refine ⟨a0, len0, cap0, rfl, ?_⟩
  obtain ⟨fuel, hf⟩ := h
  rcases open_ints Try.underlying22 Try.underlying5 (by kernel_rfl) hf with ⟨hcs, _⟩ | ⟨x, l, c, zs, hcs, _, hl, hm, hz, _, hcell, hwz⟩
  · simp [Value.cells] at hcs
    obtain ⟨rfl, rfl, rfl⟩ := hcs
    intro j hj
    omega
  · simp [Value.cells] at hcs
    obtain ⟨rfl, rfl, rfl⟩ := hcs
    intro j hj
    have hz' : len0 ≤ zs.length := by
      rw [hz]; split <;> omega
    obtain ⟨b, off, rfl, hcs⟩ := ints_at hcell (by omega)
    have hcj := hcs j (by omega)
    have hlt := World.block_lt_of_cell? W _ hcj
    have hbd := bounds_u8 (hwz (zs.getD j 0) (by rw [List.getD_eq_getElem?_getD, List.getElem?_eq_getElem (by omega)]; exact List.getElem_mem _))
    exact ⟨b, off, _, rfl, hlt, hbd.1, hbd.2, hcj⟩
end Go.Proofs.Ytkpbfocnokbmiaa
