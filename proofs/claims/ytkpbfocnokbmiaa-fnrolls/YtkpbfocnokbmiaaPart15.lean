/- Proved, in parts: Proved: a statement that leaves its order open is gone through by a tree of orders: what only reads is taken first, of two or three that call or write each may come up; no program is named here. Condition: what is taken first reads the same in every memory that is as told. -/
import Derived.Test.YtkpbfocnokbmiaaPart14
namespace Go.Proofs.Ytkpbfocnokbmiaa
open Go

inductive Tq where
  | done : Tq
  | read : Nat → Tq → Tq
  | one : Nat → Tq → Tq
  | two : Nat → Nat → Tq → Tq → Tq
  | three : Nat → Nat → Nat → Tq → Tq → Tq → Tq
def Tq.depth : Tq → Nat
  | .done => 0
  | .read _ t => t.depth + 1
  | .one _ t => t.depth + 1
  | .two _ _ t u => max t.depth u.depth + 1
  | .three _ _ _ t u v => max t.depth (max u.depth v.depth) + 1
def okTq (ops : Array Oper) : Array Bool → Tq → Bool
  | listed, .done => (Region.ready .any ops listed).isEmpty
  | listed, .read i t => Region.free .any ops listed i && (Region.ready .any ops listed).contains i && okTq ops (listed.setIfInBounds i true) t
  | listed, .one i t => (Region.ready .any ops listed == [i]) && okTq ops (listed.setIfInBounds i true) t
  | listed, .two i j t u => (Region.ready .any ops listed == [i, j]) && (okTq ops (listed.setIfInBounds i true) t && okTq ops (listed.setIfInBounds j true) u)
  | listed, .three i j k t u v => (Region.ready .any ops listed == [i, j, k]) && (okTq ops (listed.setIfInBounds i true) t && (okTq ops (listed.setIfInBounds j true) u && okTq ops (listed.setIfInBounds k true) v))

def TqV (P : Program) (ops : Array Oper) (Q : Exit → Act → World → Prop) : Tq → (World → Prop) → Act → World → Prop
  | .done, _, a, w => Q .normal a w
  | .read i t, S, a, w => ∃ o v, ops[i]? = some o ∧ YieldsIf P ops S o v a ∧ TqV P ops Q t S (a.put o.dst v) w
  | .one i t, S, a, w => ∃ o, ops[i]? = some o ∧ ∀ K : Act → World → Prop, Shut (∀ (S' : World → Prop) a' w', (∀ x, S' x → S x) → S' w' → (S' w' → TqV P ops Q t S' a' w') → K a' w') →
      if Region.wanted o (yielded ops a.tmps) = true then Oper.wp P o a w K Q else K (a.put o.dst undef) w
  | .two i j t u, S, a, w => (∃ o, ops[i]? = some o ∧ ∀ K : Act → World → Prop, Shut (∀ (S' : World → Prop) a' w', (∀ x, S' x → S x) → S' w' → (S' w' → TqV P ops Q t S' a' w') → K a' w') →
      if Region.wanted o (yielded ops a.tmps) = true then Oper.wp P o a w K Q else K (a.put o.dst undef) w) ∧
    (∃ o, ops[j]? = some o ∧ ∀ K : Act → World → Prop, Shut (∀ (S' : World → Prop) a' w', (∀ x, S' x → S x) → S' w' → (S' w' → TqV P ops Q u S' a' w') → K a' w') →
      if Region.wanted o (yielded ops a.tmps) = true then Oper.wp P o a w K Q else K (a.put o.dst undef) w)
  | .three i j k t u v, S, a, w => (∃ o, ops[i]? = some o ∧ ∀ K : Act → World → Prop, Shut (∀ (S' : World → Prop) a' w', (∀ x, S' x → S x) → S' w' → (S' w' → TqV P ops Q t S' a' w') → K a' w') →
      if Region.wanted o (yielded ops a.tmps) = true then Oper.wp P o a w K Q else K (a.put o.dst undef) w) ∧
    (∃ o, ops[j]? = some o ∧ ∀ K : Act → World → Prop, Shut (∀ (S' : World → Prop) a' w', (∀ x, S' x → S x) → S' w' → (S' w' → TqV P ops Q u S' a' w') → K a' w') →
      if Region.wanted o (yielded ops a.tmps) = true then Oper.wp P o a w K Q else K (a.put o.dst undef) w) ∧
    (∃ o, ops[k]? = some o ∧ ∀ K : Act → World → Prop, Shut (∀ (S' : World → Prop) a' w', (∀ x, S' x → S x) → S' w' → (S' w' → TqV P ops Q v S' a' w') → K a' w') →
      if Region.wanted o (yielded ops a.tmps) = true then Oper.wp P o a w K Q else K (a.put o.dst undef) w)

theorem tqV_any {P : Program} {ops : Array Oper} {Q : Exit → Act → World → Prop} (hns : Region.noSelect ops = true)
    (hQ : ∀ c a d v w, Q (.panic c) (Act.put a (some d) v) w → Q (.panic c) a w) :
    ∀ (t : Tq) (S : World → Prop) (listed : Array Bool) (a : Act) (w : World) (fuel : Nat), okTq ops listed t = true → t.depth ≤ fuel → S w → TqV P ops Q t S a w → wpAnyH P .any ops Q S fuel listed a w
  | .done, S, listed, a, w, fuel, hok, _, _, h => by
    refine wpAnyH_done ?_ h fuel
    simpa [okTq] using hok
  | .read i t, S, listed, a, w, 0, _, hl, _, _ => by simp [Tq.depth] at hl
  | .read i t, S, listed, a, w, fuel + 1, hok, hl, hS, ⟨o, v, ho, hy, h⟩ => by
    simp only [okTq, Bool.and_eq_true] at hok
    refine wpAnyH_take ho hns hok.1.1 hok.1.2 (fun c a w hq => by
      cases hd : o.dst with
      | none => rw [hd] at hq; exact hq
      | some d => rw [hd] at hq; exact hQ c a d v w hq) hy hS (tqV_any hns hQ t S _ _ w fuel hok.2 (by simpa [Tq.depth] using hl) hS h)
  | .one i t, S, listed, a, w, 0, _, hl, _, _ => by simp [Tq.depth] at hl
  | .one i t, S, listed, a, w, fuel + 1, hok, hl, hS, ⟨o, ho, h⟩ => by
    simp only [okTq, Bool.and_eq_true, beq_iff_eq] at hok
    refine wpAnyH_ready hok.1 (by simp) (AllReadyH.cons ho (fun K hK => ?_) AllReadyH.nil)
    exact h K (fun S' a' w' hle hS' hw => hK.out a' w' (hle _ hS') (fun _ => anyH_weaken hle _ _ _ _ (tqV_any hns hQ t S' _ a' w' fuel hok.2 (by simpa [Tq.depth] using hl) hS' (hw hS'))))
  | .two i j t u, S, listed, a, w, 0, _, hl, _, _ => by simp [Tq.depth] at hl
  | .two i j t u, S, listed, a, w, fuel + 1, hok, hl, hS, ⟨⟨o, ho, h⟩, ⟨o', ho', h'⟩⟩ => by
    simp only [okTq, Bool.and_eq_true, beq_iff_eq] at hok
    simp only [Tq.depth] at hl
    refine wpAnyH_ready hok.1 (by simp) (AllReadyH.cons ho (fun K hK => ?_) (AllReadyH.cons ho' (fun K hK => ?_) AllReadyH.nil))
    · exact h K (fun S' a' w' hle hS' hw => hK.out a' w' (hle _ hS') (fun _ => anyH_weaken hle _ _ _ _ (tqV_any hns hQ t S' _ a' w' fuel hok.2.1 (by omega) hS' (hw hS'))))
    · exact h' K (fun S' a' w' hle hS' hw => hK.out a' w' (hle _ hS') (fun _ => anyH_weaken hle _ _ _ _ (tqV_any hns hQ u S' _ a' w' fuel hok.2.2 (by omega) hS' (hw hS'))))
  | .three i j k t u v, S, listed, a, w, 0, _, hl, _, _ => by simp [Tq.depth] at hl
  | .three i j k t u v, S, listed, a, w, fuel + 1, hok, hl, hS, ⟨⟨o, ho, h⟩, ⟨o', ho', h'⟩, ⟨o2, ho2, h2⟩⟩ => by
    simp only [okTq, Bool.and_eq_true, beq_iff_eq] at hok
    simp only [Tq.depth] at hl
    refine wpAnyH_ready hok.1 (by simp) (AllReadyH.cons ho (fun K hK => ?_) (AllReadyH.cons ho' (fun K hK => ?_) (AllReadyH.cons ho2 (fun K hK => ?_) AllReadyH.nil)))
    · exact h K (fun S' a' w' hle hS' hw => hK.out a' w' (hle _ hS') (fun _ => anyH_weaken hle _ _ _ _ (tqV_any hns hQ t S' _ a' w' fuel hok.2.1 (by omega) hS' (hw hS'))))
    · exact h' K (fun S' a' w' hle hS' hw => hK.out a' w' (hle _ hS') (fun _ => anyH_weaken hle _ _ _ _ (tqV_any hns hQ u S' _ a' w' fuel hok.2.2.1 (by omega) hS' (hw hS'))))
    · exact h2 K (fun S' a' w' hle hS' hw => hK.out a' w' (hle _ hS') (fun _ => anyH_weaken hle _ _ _ _ (tqV_any hns hQ v S' _ a' w' fuel hok.2.2.2 (by omega) hS' (hw hS'))))

/-- THE LAW: a statement that draws its order, gone through by a tree of orders. -/
theorem wp_region_tq {P : Program} {id : Nat} {ops : Array Oper} {Q : Exit → Act → World → Prop} {a : Act} {w : World} (S : World → Prop) (t : Tq)
    (hm : P.follows .mixedOrders = true) (hns : Region.noSelect ops = true) (hQ : ∀ c a d v w, Q (.panic c) (Act.put a (some d) v) w → Q (.panic c) a w)
    (hok : okTq ops (Array.replicate ops.size false) t = true) (hlen : t.depth ≤ ops.size) (hS : S w.drew) (h : S w.drew → TqV P ops Q t S a w.drew) : (Code.region id ops true).wp P Q a w :=
  wp_region_held hm (tqV_any hns hQ t S _ a _ _ hok hlen hS (h hS))

theorem tq_end {P : Program} {ops : Array Oper} {Q : Exit → Act → World → Prop} {S : World → Prop} {a : Act} {w : World} (h : Q .normal a w) : TqV P ops Q .done S a w := h
theorem tq_reads {P : Program} {ops : Array Oper} {Q : Exit → Act → World → Prop} {S : World → Prop} {i : Nat} {o : Oper} {t : Tq} {a : Act} {w : World} (ho : ops[i]? = some o)
    (hw : Region.wanted o (yielded ops a.tmps) = true) (h : ∃ v, (∀ w, S w → (execOp a.eval o).run P w = .ok (.value v) w) ∧ TqV P ops Q t S (a.put o.dst v) w) : TqV P ops Q (.read i t) S a w :=
  h.elim fun v h => ⟨o, v, ho, .inl ⟨hw, h.1⟩, h.2⟩
theorem tq_one {P : Program} {ops : Array Oper} {Q : Exit → Act → World → Prop} {S : World → Prop} {i : Nat} {o : Oper} {t : Tq} {a : Act} {w : World} (ho : ops[i]? = some o)
    (hw : Region.wanted o (yielded ops a.tmps) = true) (h : ∀ K : Act → World → Prop, Shut (∀ (S' : World → Prop) a' w', (∀ x, S' x → S x) → S' w' → (S' w' → TqV P ops Q t S' a' w') → K a' w') → Oper.wp P o a w K Q) : TqV P ops Q (.one i t) S a w :=
  ⟨o, ho, fun K hK => by rw [if_pos hw]; exact h K hK⟩
theorem tq_two {P : Program} {ops : Array Oper} {Q : Exit → Act → World → Prop} {S : World → Prop} {i j : Nat} {t u : Tq} {a : Act} {w : World} (h : TqV P ops Q (.one i t) S a w) (h' : TqV P ops Q (.one j u) S a w) : TqV P ops Q (.two i j t u) S a w := ⟨h, h'⟩
theorem tq_three {P : Program} {ops : Array Oper} {Q : Exit → Act → World → Prop} {S : World → Prop} {i j k : Nat} {t u v : Tq} {a : Act} {w : World} (h : TqV P ops Q (.one i t) S a w) (h' : TqV P ops Q (.one j u) S a w) (h2 : TqV P ops Q (.one k v) S a w) : TqV P ops Q (.three i j k t u v) S a w := ⟨h, h', h2⟩
end Go.Proofs.Ytkpbfocnokbmiaa
