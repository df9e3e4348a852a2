/- Proved: a statement that leaves its order open is gone through in one order, where each call may tell more of the memory than was known ahead of it; no program is named here. Condition: what is taken first reads the same in every memory that is as told. -/
import Derived.Test.YtepjpfiekchdmaaOrders
namespace Go.Proofs.Ytepjpfiekchdmaa
open Go

theorem anyH_weaken {P : Program} {md : Region.Mode} {ops : Array Oper} {Q : Exit → Act → World → Prop} {S S' : World → Prop} (h : ∀ w, S' w → S w) :
    ∀ (fuel : Nat) (listed : Array Bool) (a : Act) (w : World), wpAnyH P md ops Q S' fuel listed a w → wpAnyH P md ops Q S fuel listed a w
  | 0, _, _, _, k => k
  | fuel + 1, _, _, _, k => ⟨k.1, fun i hi => wpOp_mono (fun a' w' h' => ⟨h w' h'.1, anyH_weaken h fuel _ a' w' h'.2⟩) (k.2 i hi)⟩

def SeqV (P : Program) (ops : Array Oper) (Q : Exit → Act → World → Prop) : List (Nat × Bool) → (World → Prop) → Act → World → Prop
  | [], _, a, w => Q .normal a w
  | (i, true) :: σ, S, a, w => ∃ o v, ops[i]? = some o ∧ YieldsIf P ops S o v a ∧ SeqV P ops Q σ S (a.put o.dst v) w
  | (i, false) :: σ, S, a, w => ∃ o, ops[i]? = some o ∧ ∀ K : Act → World → Prop, Shut (∀ (S' : World → Prop) a' w', (∀ x, S' x → S x) → S' w' → (S' w' → SeqV P ops Q σ S' a' w') → K a' w') →
      if Region.wanted o (yielded ops a.tmps) = true then Oper.wp P o a w K Q else K (a.put o.dst undef) w

theorem seqV_any {P : Program} {ops : Array Oper} {Q : Exit → Act → World → Prop} (hns : Region.noSelect ops = true)
    (hQ : ∀ c a d v w, Q (.panic c) (Act.put a (some d) v) w → Q (.panic c) a w) :
    ∀ (σ : List (Nat × Bool)) (S : World → Prop) (listed : Array Bool) (a : Act) (w : World) (fuel : Nat), okSeq ops listed σ = true → σ.length ≤ fuel → S w → SeqV P ops Q σ S a w → wpAnyH P .any ops Q S fuel listed a w
  | [], S, listed, a, w, fuel, hok, _, _, h => by
    refine wpAnyH_done ?_ h fuel
    simpa [okSeq] using hok
  | (i, true) :: σ, S, listed, a, w, 0, _, hl, _, _ => by simp at hl
  | (i, true) :: σ, S, listed, a, w, fuel + 1, hok, hl, hS, ⟨o, v, ho, hy, h⟩ => by
    simp only [okSeq, Bool.and_eq_true] at hok
    refine wpAnyH_take ho hns hok.1.1 hok.1.2 (fun c a w hq => by
      cases hd : o.dst with
      | none => rw [hd] at hq; exact hq
      | some d => rw [hd] at hq; exact hQ c a d v w hq) hy hS (seqV_any hns hQ σ S _ _ w fuel hok.2 (by simpa using hl) hS h)
  | (i, false) :: σ, S, listed, a, w, 0, _, hl, _, _ => by simp at hl
  | (i, false) :: σ, S, listed, a, w, fuel + 1, hok, hl, hS, ⟨o, ho, h⟩ => by
    simp only [okSeq, Bool.and_eq_true, beq_iff_eq] at hok
    refine wpAnyH_ready hok.1 (by simp) (AllReadyH.cons ho (fun K hK => ?_) AllReadyH.nil)
    exact h K (fun S' a' w' hle hS' hw => hK.out a' w' (hle _ hS') (fun _ => anyH_weaken hle _ _ _ _ (seqV_any hns hQ σ S' _ a' w' fuel hok.2 (by simpa using hl) hS' (hw hS'))))

/-- THE LAW: a statement that draws its order, gone through in one order; each call may add to what is known. -/
theorem wp_region_seqV {P : Program} {id : Nat} {ops : Array Oper} {Q : Exit → Act → World → Prop} {a : Act} {w : World} (S : World → Prop) (σ : List (Nat × Bool))
    (hm : P.follows .mixedOrders = true) (hns : Region.noSelect ops = true) (hQ : ∀ c a d v w, Q (.panic c) (Act.put a (some d) v) w → Q (.panic c) a w)
    (hok : okSeq ops (Array.replicate ops.size false) σ = true) (hlen : σ.length ≤ ops.size) (hS : S w.drew) (h : S w.drew → SeqV P ops Q σ S a w.drew) : (Code.region id ops true).wp P Q a w :=
  wp_region_held hm (seqV_any hns hQ σ S _ a _ _ hok hlen hS (h hS))

theorem seqV_end {P : Program} {ops : Array Oper} {Q : Exit → Act → World → Prop} {S : World → Prop} {a : Act} {w : World} (h : Q .normal a w) : SeqV P ops Q [] S a w := h
theorem seqV_skip {P : Program} {ops : Array Oper} {Q : Exit → Act → World → Prop} {S : World → Prop} {i : Nat} {o : Oper} {σ : List (Nat × Bool)} {a : Act} {w : World} (ho : ops[i]? = some o)
    (hw : Region.wanted o (yielded ops a.tmps) = false) (h : SeqV P ops Q σ S (a.put o.dst undef) w) : SeqV P ops Q ((i, true) :: σ) S a w := ⟨o, undef, ho, .inr ⟨hw, rfl⟩, h⟩
theorem seqV_reads {P : Program} {ops : Array Oper} {Q : Exit → Act → World → Prop} {S : World → Prop} {i : Nat} {o : Oper} {σ : List (Nat × Bool)} {a : Act} {w : World} (ho : ops[i]? = some o)
    (hw : Region.wanted o (yielded ops a.tmps) = true) (h : ∃ v, (∀ w, S w → (execOp a.eval o).run P w = .ok (.value v) w) ∧ SeqV P ops Q σ S (a.put o.dst v) w) : SeqV P ops Q ((i, true) :: σ) S a w :=
  h.elim fun v h => ⟨o, v, ho, .inl ⟨hw, h.1⟩, h.2⟩
theorem seqV_call {P : Program} {ops : Array Oper} {Q : Exit → Act → World → Prop} {S : World → Prop} {i : Nat} {o : Oper} {σ : List (Nat × Bool)} {a : Act} {w : World} (ho : ops[i]? = some o)
    (hw : Region.wanted o (yielded ops a.tmps) = true) (h : ∀ K : Act → World → Prop, Shut (∀ (S' : World → Prop) a' w', (∀ x, S' x → S x) → S' w' → (S' w' → SeqV P ops Q σ S' a' w') → K a' w') → Oper.wp P o a w K Q) : SeqV P ops Q ((i, false) :: σ) S a w :=
  ⟨o, ho, fun K hK => by rw [if_pos hw]; exact h K hK⟩
theorem seqV_pass {P : Program} {ops : Array Oper} {Q : Exit → Act → World → Prop} {S : World → Prop} {i : Nat} {o : Oper} {σ : List (Nat × Bool)} {a : Act} {w : World} (ho : ops[i]? = some o)
    (hw : Region.wanted o (yielded ops a.tmps) = false) (hS : S w) (h : S w → SeqV P ops Q σ S (a.put o.dst undef) w) : SeqV P ops Q ((i, false) :: σ) S a w :=
  ⟨o, ho, fun K hK => by rw [if_neg (by rw [hw]; simp)]; exact hK.out S _ _ (fun _ h => h) hS h⟩
end Go.Proofs.Ytepjpfiekchdmaa
