/- Proved, in parts: Proved: the program's list method with answers the list with one copy more, in new memory; it writes nothing that was there. Condition: at most a million copies. Proved: a statement that leaves its order open is gone through in one order, where each call may tell more of the memory than was known ahead of it; no program is named here. Condition: what is taken first reads the same in every memory that is as told. Proved: a statement that leaves its order open is gone through by a tree of orders: what only reads is taken first, of two or three that call or write each may come up; no program is named here. Condition: what is taken first reads the same in every memory that is as told. Proved: a new block inside a statement that leaves its order open: what holds of it; and a box that a statement has made; no program is named here. -/
import Derived.Test.YtdcdalbbjfjadaaGreatDoorPart14
import Derived.Maps.AppendAt
import Derived.Test.YtdcdalbbjfjadaaGreatDoorPart03
import Derived.Test.YtdcdalbbjfjadaaGreatDoorPart11
import Derived.Below
namespace Go.Proofs.YtdcdalbbjfjadaaGreatDoor
open Go.RowKit
set_option maxRecDepth 20000

/-- append of a slice of records, and where the row then lies. -/
theorem wp_append_flat_at {α : Type} {enc : α → List Value} {k : Nat} {w : World} {l : List α} {P : Program} {o : Oper} {a : Act} {K : Act → World → Prop} {Q : Exit → Act → World → Prop} (s x : Operand) (t : TypeId)
    (ho : o.op = .call { callee := .builtin .append, args := #[s, x], argTypes := #[t, t] })
    (base : Nat) (e : TypeId) (i : TypeInfo) (z : Value) (bytes : Nat) (ht : P.underlying t = some (.slice e)) (hi : P.info? e = some i) (hz : i.zero = some z)
    (hsize : i.size = k) (hby : i.bytes = bytes) (hzs : z.cells.size = k) (hsz : 0 < k)
    (v : Value) (n : Nat) (xs : List Value) (hs : a.eval s = v) (hown : w.ownsRow base e k v n xs)
    (A : Option Addr) (c : Nat) (hx : a.eval x = .slice A l.length c) (hA : A = none → c = 0) (hfl : Flat enc k w A l) (hk : ∀ x, (enc x).length = k) (h1 : ∀ u ∈ cellsOf enc l, u.oneCell' = true)
    (h63 : n + l.length ≤ maxLen) (hbytes : (n + l.length) * bytes ≤ 140737488355328) (hbase : base ≤ w.heap.size)
    (h : ∀ v' w', w'.ownsRow base e k v' (n + l.length) (xs ++ cellsOf enc l) → w.grownBy w' v.ownBlock → (v'.ownBlock = v.ownBlock ∨ v'.ownBlock = some w.heap.size) → K (a.put o.dst v') w') : o.wp P a w K Q := by
  rcases A with _ | ad
  · have hl := flat_none hfl
    have hc := hA rfl
    subst hl hc
    have hrun := run_append_owned_none (P := P) w base t o.type e i k ht hi v n xs hown
    unfold Oper.wp execOp
    simp only [List.length_nil] at hx
    simp only [ho, resolve, invoke, builtin, Sem.run_bind, Sem.run_pure, Result.andThen_ok, List.map_toArray, List.map_cons, List.map_nil, hs, hx, hrun]
    refine h v w ?_ ⟨rfl, rfl, rfl, Nat.le_refl _, fun _ _ _ => rfl⟩ (.inl rfl)
    simpa [cellsOf] using hown
  · obtain ⟨v', w', hr, h2, h3, _, h5⟩ := run_append_own_at (P := P) w base t o.type e i z k bytes ht hi hz hsize hby hzs hsz v n xs hown ad l.length c (cellsOf enc l) (cellsOf_len hk l) (flat_news hk hsz hfl) h1 h63 hbytes hbase
    unfold Oper.wp execOp
    simp only [ho, resolve, invoke, builtin, Sem.run_bind, Sem.run_pure, Result.andThen_ok, List.map_toArray, List.map_cons, List.map_nil, hs, hx, hr]
    exact h v' w' h2 h3 h5
theorem CpOwn.apartN {B : Nat} {w : World} {v : Value} {l : List M.Cp} (h : CpOwn B w v l) {a : Addr} (ha : v.ownBlock ≠ some a.block) (u : Value) : CpOwn B (w.setCell a u) v l := by
  obtain ⟨hl, h0 | ⟨k, cap, cur, rfl, hb, hh, hr⟩⟩ := h
  · exact ⟨hl, .inl h0⟩
  · exact ⟨hl, .inr ⟨k, cap, cur, rfl, hb, (Below.heap_setCell _ _ _ _ (fun e => ha (by rw [← e]; rfl))).trans hh, hr⟩⟩
theorem own_blk (A : Option Addr) (n m c d : Nat) : (Value.slice A n c).ownBlock = (Value.slice A m d).ownBlock := by cases A <;> rfl
theorem own_k {B k : Nat} {w : World} {v : Value} {l : List M.Cp} (hk : l.length = k) (h : CpOwn B w v l) : w.ownsRow B 71 5 v k (cellsOf cpL l) := by subst hk; exact h
theorem k_own {B k : Nat} {w : World} {v : Value} {l : List M.Cp} (hk : l.length = k) (h : w.ownsRow B 71 5 v k (cellsOf cpL l)) : CpOwn B w v l := by subst hk; exact h
theorem own_two {o1 o2 : Option Nat} (h : ∀ k, o1 = some k → o2 ≠ some k) : o1 = none ∨ o1 ≠ o2 := by
  rcases o1 with _ | k
  · exact .inl rfl
  · exact .inr fun e => h k rfl e.symm
theorem own_cap {B : Nat} {w : World} {A : Option Addr} {n c : Nat} {l : List M.Cp} (h : CpOwn B w (.slice A n c) l) : l.length ≤ c := by
  obtain ⟨_, ⟨h0, hn⟩ | ⟨g, cap, cur, hv, _, _, hnc, _⟩⟩ := h
  · omega
  · injection hv with _ _ hc
    omega
theorem CpOwn.nilc {B : Nat} {w : World} {A : Option Addr} {n c : Nat} {l : List M.Cp} (h : CpOwn B w (.slice A n c) l) : A = none → c = 0 := by
  obtain ⟨A', c', hv, _, hc⟩ := h.open
  injection hv with hA _ hcc
  subst hA hcc
  exact hc

set_option maxHeartbeats 1000000 in
theorem with_any (A : Option Addr) (l : List M.Cp) (cap k : Nat) (c : M.Cp) (w : World) (hl : Cps w A l) (hA : A = none → cap = 0) (hcap : l.length ≤ cap) (hk : k ≤ l.length) (hlen : l.length ≤ 1048576) :
    Calls Tryz.prog 122 #[.slice A l.length cap, .int .i64 k, cpV c] w fun r w' => ∃ A' c', r = .returned (.slice A' (l.length + 1) c') ∧ CpOwn w.heap.size w' (.slice A' (l.length + 1) c') (M.putAt l k c) ∧ Below w.heap.size w w' := by
  obtain ⟨i0, hi, hz0, hz1, hz2⟩ := info_parts infoCp
  have b0 := (Below.refl w.heap.size w).alloc (Nat.le_refl _) (.cells (cpV c).cells 71)
  have h0 := holds_new w (cpV c).cells 71
  have HL := Lib.hid hl
  have HA := Lib.hid hA
  clear hl hA
  go_enter Tryz.func122, Tryz.ntmps122
  go_wp2_with (first | (at_builtin; refine stop_mk ?_) | (refine wpList_make_own _ rfl _ _ 88 rfl (w.heap.size + 1) 71 i0 _ 5 Tryz.underlying88 hi hz0 hz1 .i64 .i64 _ (l.length + 1) rfl rfl (by simp) (by rw [hz2]; omega) (by unfold maxLen; omega) (by simp) ?_; intro w1 hown hgrow; refine stop_mk ?_))
  refine stop_un ?_
  simp only [World.size_alloc] at hown
  replace b0 := b0.grown hgrow (by simp) (fun k hk => by cases hk)
  replace h0 := grown_holds h0 hgrow (by simp)
  have hl1 := HL.out.below b0
  have HO := Lib.hid hown
  have H0 := Lib.hid h0
  clear hown hgrow h0
  go_wp2_with (at_builtin; refine stop_mk ?_)
  refine stop_un ?_
  have hkl : (l.take k).length = k := by rw [List.length_take, Nat.min_eq_left hk]
  refine wpList_append_flat (k := 5) (enc := cpL) (l := l.take k) rfl _ _ 88 rfl (w.heap.size + 1) 71 i0 _ 48 Tryz.underlying88 hi hz0 hz1 hz2 rfl (by decide) (.slice (some ⟨w.heap.size + 1, 0, none⟩) 0 (l.length + 1)) 0 [] rfl HO.out A cap (by rw [hkl]; rfl) HA.out (hl1.cutTake k) cpL_len (cp_one _) (by rw [hkl]; unfold maxLen; omega) (by rw [hkl]; omega) ?b1 ?_
  case b1 => exact H0.out.1
  intro v2 w2 hown hgrow
  rw [Nat.zero_add, List.nil_append] at hown
  have hO : CpOwn (w.heap.size + 1) w2 v2 (l.take k) := hown
  replace b0 := b0.grown hgrow b0.size (fun g hg => by have := (HO.out.lt g hg).1; omega)
  have h0 := grown_holds H0.out hgrow (own_ne HO.out (by omega))
  have hl2 := HL.out.below b0
  obtain ⟨A2, c2, rfl, -, -⟩ := hO.open
  rw [hkl] at hO ⊢
  have hz2' := h0.1
  obtain ⟨p0, p1, p2, p3, p4⟩ := h0.at5
  have HO2 := Lib.hid hO
  have H2 := Lib.hid h0
  clear hown hgrow hO h0 HO H0 hl1
  go_wp2_with (at_builtin; refine stop_mk ?_)
  refine stop_un ?_
  have hb2 : (w2.alloc (.cells (cpV c).cells 71)).ownsRow (w.heap.size + 1) 71 5 (.slice A2 k c2) k (cellsOf cpL (l.take k)) := by
    have h := HO2.out
    unfold CpOwn at h
    rw [hkl] at h
    exact h.alloc _
  refine wpList_append_flat (k := 5) (enc := cpL) (l := [c]) rfl _ _ 88 rfl (w.heap.size + 1) 71 i0 _ 48 Tryz.underlying88 hi hz0 hz1 hz2 rfl (by decide) (.slice A2 k c2) k (cellsOf cpL (l.take k)) rfl hb2 (some ⟨w2.heap.size, 0, none⟩) 1 rfl (fun h => by cases h) (one_flat w2 c _) cpL_len (cp_one _) (by simp only [List.length_singleton]; unfold maxLen; omega) (by simp only [List.length_singleton]; omega) ?b2 ?_
  case b2 => have := hz2'; simp; omega
  intro v3 w3 hown hgrow
  rw [← cellsOf_append] at hown
  have hO : CpOwn (w.heap.size + 1) w3 v3 (l.take k ++ [c]) := by
    unfold CpOwn
    rw [List.length_append, hkl]; exact hown
  replace b0 := (b0.alloc b0.size (.cells (cpV c).cells 71)).grown hgrow (Nat.le_trans b0.size (by simp)) (fun g hg => by have := (hb2.lt g hg).1; omega)
  have h0 := grown_holds (H2.out.alloc (.cells (cpV c).cells 71)) hgrow (own_ne hb2 (by omega))
  have hl3 := HL.out.below b0
  obtain ⟨A3, c3, rfl, -, -⟩ := hO.open
  have hkl3 : (l.take k ++ [c]).length = k + 1 := by rw [List.length_append, hkl]; rfl
  rw [hkl3] at hO ⊢
  have HO3 := Lib.hid hO
  have H3 := Lib.hid h0.1
  clear hown hgrow hO h0 HO2 H2 hl2 hb2 p0 p1 p2 p3 p4
  have hb3 : w3.ownsRow (w.heap.size + 1) 71 5 (.slice A3 (k + 1) c3) (k + 1) (cellsOf cpL (l.take k ++ [c])) := by
    have h := HO3.out
    unfold CpOwn at h
    rw [hkl3] at h
    exact h
  by_cases hck : cap = k
  · have HB := Lib.hid (show _ ∧ _ from ⟨hb3, hl3⟩)
    clear hb3 hl3
    subst hck
    go_wp2_with (at_builtin; refine stop_mk ?_)
    obtain ⟨hb3, hl3⟩ := HB.out
    refine stop_un ?_
    refine wpList_append_flat (k := 5) (enc := cpL) (l := l.drop cap) rfl _ _ 88 rfl (w.heap.size + 1) 71 i0 _ 48 Tryz.underlying88 hi hz0 hz1 hz2 rfl (by decide) (.slice A3 (cap + 1) c3) (cap + 1) (cellsOf cpL (l.take cap ++ [c])) rfl hb3 (A) (0) (by rw [List.length_drop, show l.length - cap = 0 by omega]; rfl) (fun _ => rfl) (.inl (List.drop_eq_nil_of_le (by omega))) cpL_len (cp_one _) (by rw [List.length_drop]; unfold maxLen; omega) (by rw [List.length_drop]; omega) H3.out ?_
    intro v4 w4 hown hgrow
    rw [← cellsOf_append, List.append_assoc, List.singleton_append] at hown
    have hO : CpOwn (w.heap.size + 1) w4 v4 (M.putAt l cap c) := by
      unfold CpOwn
      rw [M.putAt_len l cap c hk]
      rw [List.length_drop, show cap + 1 + (l.length - cap) = l.length + 1 by omega] at hown
      exact hown
    replace b0 := b0.grown hgrow b0.size (fun g hg => by have := (hb3.lt g hg).1; omega)
    obtain ⟨A4, c4, rfl, -, -⟩ := hO.open
    rw [M.putAt_len l cap c hk] at hO ⊢
    have HO4 := Lib.hid (hO.mono (show w.heap.size ≤ w.heap.size + 1 by omega))
    clear hown hgrow hO hb3 HO3
    go_wp2
    go_ret
    exact ⟨A4, c4, rfl, HO4.out, b0⟩
  · have HB := Lib.hid (show _ ∧ _ from ⟨hb3, hl3⟩)
    clear hb3 hl3
    go_wp2_with (at_builtin; refine stop_mk ?_)
    obtain ⟨hb3, hl3⟩ := HB.out
    have hcd := hl3.cutDrop (cap := cap) k hcap
    unfold cutAt at hcd
    rw [if_neg hck] at hcd
    refine stop_un ?_
    refine wpList_append_flat (k := 5) (enc := cpL) (l := l.drop k) rfl _ _ 88 rfl (w.heap.size + 1) 71 i0 _ 48 Tryz.underlying88 hi hz0 hz1 hz2 rfl (by decide) (.slice A3 (k + 1) c3) (k + 1) (cellsOf cpL (l.take k ++ [c])) rfl hb3 (A.map (·.add (k * 5))) (cap - k) (by rw [List.length_drop]; rfl) (fun h => by have := HA.out (by simpa using h); omega) (hcd) cpL_len (cp_one _) (by rw [List.length_drop]; unfold maxLen; omega) (by rw [List.length_drop]; omega) H3.out ?_
    intro v4 w4 hown hgrow
    rw [← cellsOf_append, List.append_assoc, List.singleton_append] at hown
    have hO : CpOwn (w.heap.size + 1) w4 v4 (M.putAt l k c) := by
      unfold CpOwn
      rw [M.putAt_len l k c hk]
      rw [List.length_drop, show k + 1 + (l.length - k) = l.length + 1 by omega] at hown
      exact hown
    replace b0 := b0.grown hgrow b0.size (fun g hg => by have := (hb3.lt g hg).1; omega)
    obtain ⟨A4, c4, rfl, -, -⟩ := hO.open
    rw [M.putAt_len l k c hk] at hO ⊢
    have HO4 := Lib.hid (hO.mono (show w.heap.size ≤ w.heap.size + 1 by omega))
    clear hown hgrow hO hb3 HO3
    go_wp2
    go_ret
    exact ⟨A4, c4, rfl, HO4.out, b0⟩
end Go.Proofs.YtdcdalbbjfjadaaGreatDoor
namespace Go.Proofs.YtdcdalbbjfjadaaGreatDoor
open Go

theorem anyH_weaken {P : Program} {md : Region.Mode} {ops : Array Oper} {Q : Exit → Act → World → Prop} {S S' : World → Prop} (h : ∀ w, S' w → S w) :
    ∀ (fuel : Nat) (listed : Array Bool) (a : Act) (w : World), wpAnyH P md ops Q S' fuel listed a w → wpAnyH P md ops Q S fuel listed a w
  | 0, _, _, _, k => k
  | fuel + 1, _, _, _, k => ⟨k.1, fun i hi => wpOp_mono (fun a' w' h' => ⟨h w' h'.1, anyH_weaken h fuel _ a' w' h'.2⟩) (k.2 i hi)⟩

end Go.Proofs.YtdcdalbbjfjadaaGreatDoor
namespace Go.Proofs.YtdcdalbbjfjadaaGreatDoor
open Go

inductive Tq where
  | done : Tq
  | read : Nat → Tq → Tq
  | one : Nat → Tq → Tq
  | two : Nat → Nat → Tq → Tq → Tq
  | three : Nat → Nat → Nat → Tq → Tq → Tq → Tq
def Tq.depth : Tq → Nat
  | .done => 0
  | .read _ t => t.depth + 1
  | .one _ t => t.depth + 1
  | .two _ _ t u => max t.depth u.depth + 1
  | .three _ _ _ t u v => max t.depth (max u.depth v.depth) + 1
def okTq (ops : Array Oper) : Array Bool → Tq → Bool
  | listed, .done => (Region.ready .any ops listed).isEmpty
  | listed, .read i t => Region.free .any ops listed i && (Region.ready .any ops listed).contains i && okTq ops (listed.setIfInBounds i true) t
  | listed, .one i t => (Region.ready .any ops listed == [i]) && okTq ops (listed.setIfInBounds i true) t
  | listed, .two i j t u => (Region.ready .any ops listed == [i, j]) && (okTq ops (listed.setIfInBounds i true) t && okTq ops (listed.setIfInBounds j true) u)
  | listed, .three i j k t u v => (Region.ready .any ops listed == [i, j, k]) && (okTq ops (listed.setIfInBounds i true) t && (okTq ops (listed.setIfInBounds j true) u && okTq ops (listed.setIfInBounds k true) v))

def TqV (P : Program) (ops : Array Oper) (Q : Exit → Act → World → Prop) : Tq → (World → Prop) → Act → World → Prop
  | .done, _, a, w => Q .normal a w
  | .read i t, S, a, w => ∃ o v, ops[i]? = some o ∧ YieldsIf P ops S o v a ∧ TqV P ops Q t S (a.put o.dst v) w
  | .one i t, S, a, w => ∃ o, ops[i]? = some o ∧ ∀ K : Act → World → Prop, Shut (∀ (S' : World → Prop) a' w', (∀ x, S' x → S x) → S' w' → (S' w' → TqV P ops Q t S' a' w') → K a' w') →
      if Region.wanted o (yielded ops a.tmps) = true then Oper.wp P o a w K Q else K (a.put o.dst undef) w
  | .two i j t u, S, a, w => (∃ o, ops[i]? = some o ∧ ∀ K : Act → World → Prop, Shut (∀ (S' : World → Prop) a' w', (∀ x, S' x → S x) → S' w' → (S' w' → TqV P ops Q t S' a' w') → K a' w') →
      if Region.wanted o (yielded ops a.tmps) = true then Oper.wp P o a w K Q else K (a.put o.dst undef) w) ∧
    (∃ o, ops[j]? = some o ∧ ∀ K : Act → World → Prop, Shut (∀ (S' : World → Prop) a' w', (∀ x, S' x → S x) → S' w' → (S' w' → TqV P ops Q u S' a' w') → K a' w') →
      if Region.wanted o (yielded ops a.tmps) = true then Oper.wp P o a w K Q else K (a.put o.dst undef) w)
  | .three i j k t u v, S, a, w => (∃ o, ops[i]? = some o ∧ ∀ K : Act → World → Prop, Shut (∀ (S' : World → Prop) a' w', (∀ x, S' x → S x) → S' w' → (S' w' → TqV P ops Q t S' a' w') → K a' w') →
      if Region.wanted o (yielded ops a.tmps) = true then Oper.wp P o a w K Q else K (a.put o.dst undef) w) ∧
    (∃ o, ops[j]? = some o ∧ ∀ K : Act → World → Prop, Shut (∀ (S' : World → Prop) a' w', (∀ x, S' x → S x) → S' w' → (S' w' → TqV P ops Q u S' a' w') → K a' w') →
      if Region.wanted o (yielded ops a.tmps) = true then Oper.wp P o a w K Q else K (a.put o.dst undef) w) ∧
    (∃ o, ops[k]? = some o ∧ ∀ K : Act → World → Prop, Shut (∀ (S' : World → Prop) a' w', (∀ x, S' x → S x) → S' w' → (S' w' → TqV P ops Q v S' a' w') → K a' w') →
      if Region.wanted o (yielded ops a.tmps) = true then Oper.wp P o a w K Q else K (a.put o.dst undef) w)

theorem tqV_any {P : Program} {ops : Array Oper} {Q : Exit → Act → World → Prop} (hns : Region.noSelect ops = true)
    (hQ : ∀ c a d v w, Q (.panic c) (Act.put a (some d) v) w → Q (.panic c) a w) :
    ∀ (t : Tq) (S : World → Prop) (listed : Array Bool) (a : Act) (w : World) (fuel : Nat), okTq ops listed t = true → t.depth ≤ fuel → S w → TqV P ops Q t S a w → wpAnyH P .any ops Q S fuel listed a w
  | .done, S, listed, a, w, fuel, hok, _, _, h => by
    refine wpAnyH_done ?_ h fuel
    simpa [okTq] using hok
  | .read i t, S, listed, a, w, 0, _, hl, _, _ => by simp [Tq.depth] at hl
  | .read i t, S, listed, a, w, fuel + 1, hok, hl, hS, ⟨o, v, ho, hy, h⟩ => by
    simp only [okTq, Bool.and_eq_true] at hok
    refine wpAnyH_take ho hns hok.1.1 hok.1.2 (fun c a w hq => by
      cases hd : o.dst with
      | none => rw [hd] at hq; exact hq
      | some d => rw [hd] at hq; exact hQ c a d v w hq) hy hS (tqV_any hns hQ t S _ _ w fuel hok.2 (by simpa [Tq.depth] using hl) hS h)
  | .one i t, S, listed, a, w, 0, _, hl, _, _ => by simp [Tq.depth] at hl
  | .one i t, S, listed, a, w, fuel + 1, hok, hl, hS, ⟨o, ho, h⟩ => by
    simp only [okTq, Bool.and_eq_true, beq_iff_eq] at hok
    refine wpAnyH_ready hok.1 (by simp) (AllReadyH.cons ho (fun K hK => ?_) AllReadyH.nil)
    exact h K (fun S' a' w' hle hS' hw => hK.out a' w' (hle _ hS') (fun _ => anyH_weaken hle _ _ _ _ (tqV_any hns hQ t S' _ a' w' fuel hok.2 (by simpa [Tq.depth] using hl) hS' (hw hS'))))
  | .two i j t u, S, listed, a, w, 0, _, hl, _, _ => by simp [Tq.depth] at hl
  | .two i j t u, S, listed, a, w, fuel + 1, hok, hl, hS, ⟨⟨o, ho, h⟩, ⟨o', ho', h'⟩⟩ => by
    simp only [okTq, Bool.and_eq_true, beq_iff_eq] at hok
    simp only [Tq.depth] at hl
    refine wpAnyH_ready hok.1 (by simp) (AllReadyH.cons ho (fun K hK => ?_) (AllReadyH.cons ho' (fun K hK => ?_) AllReadyH.nil))
    · exact h K (fun S' a' w' hle hS' hw => hK.out a' w' (hle _ hS') (fun _ => anyH_weaken hle _ _ _ _ (tqV_any hns hQ t S' _ a' w' fuel hok.2.1 (by omega) hS' (hw hS'))))
    · exact h' K (fun S' a' w' hle hS' hw => hK.out a' w' (hle _ hS') (fun _ => anyH_weaken hle _ _ _ _ (tqV_any hns hQ u S' _ a' w' fuel hok.2.2 (by omega) hS' (hw hS'))))
  | .three i j k t u v, S, listed, a, w, 0, _, hl, _, _ => by simp [Tq.depth] at hl
  | .three i j k t u v, S, listed, a, w, fuel + 1, hok, hl, hS, ⟨⟨o, ho, h⟩, ⟨o', ho', h'⟩, ⟨o2, ho2, h2⟩⟩ => by
    simp only [okTq, Bool.and_eq_true, beq_iff_eq] at hok
    simp only [Tq.depth] at hl
    refine wpAnyH_ready hok.1 (by simp) (AllReadyH.cons ho (fun K hK => ?_) (AllReadyH.cons ho' (fun K hK => ?_) (AllReadyH.cons ho2 (fun K hK => ?_) AllReadyH.nil)))
    · exact h K (fun S' a' w' hle hS' hw => hK.out a' w' (hle _ hS') (fun _ => anyH_weaken hle _ _ _ _ (tqV_any hns hQ t S' _ a' w' fuel hok.2.1 (by omega) hS' (hw hS'))))
    · exact h' K (fun S' a' w' hle hS' hw => hK.out a' w' (hle _ hS') (fun _ => anyH_weaken hle _ _ _ _ (tqV_any hns hQ u S' _ a' w' fuel hok.2.2.1 (by omega) hS' (hw hS'))))
    · exact h2 K (fun S' a' w' hle hS' hw => hK.out a' w' (hle _ hS') (fun _ => anyH_weaken hle _ _ _ _ (tqV_any hns hQ v S' _ a' w' fuel hok.2.2.2 (by omega) hS' (hw hS'))))

/-- THE LAW: a statement that draws its order, gone through by a tree of orders. -/
theorem wp_region_tq {P : Program} {id : Nat} {ops : Array Oper} {Q : Exit → Act → World → Prop} {a : Act} {w : World} (S : World → Prop) (t : Tq)
    (hm : P.follows .mixedOrders = true) (hns : Region.noSelect ops = true) (hQ : ∀ c a d v w, Q (.panic c) (Act.put a (some d) v) w → Q (.panic c) a w)
    (hok : okTq ops (Array.replicate ops.size false) t = true) (hlen : t.depth ≤ ops.size) (hS : S w.drew) (h : S w.drew → TqV P ops Q t S a w.drew) : (Code.region id ops true).wp P Q a w :=
  wp_region_held hm (tqV_any hns hQ t S _ a _ _ hok hlen hS (h hS))

theorem tq_end {P : Program} {ops : Array Oper} {Q : Exit → Act → World → Prop} {S : World → Prop} {a : Act} {w : World} (h : Q .normal a w) : TqV P ops Q .done S a w := h
theorem tq_reads {P : Program} {ops : Array Oper} {Q : Exit → Act → World → Prop} {S : World → Prop} {i : Nat} {o : Oper} {t : Tq} {a : Act} {w : World} (ho : ops[i]? = some o)
    (hw : Region.wanted o (yielded ops a.tmps) = true) (h : ∃ v, (∀ w, S w → (execOp a.eval o).run P w = .ok (.value v) w) ∧ TqV P ops Q t S (a.put o.dst v) w) : TqV P ops Q (.read i t) S a w :=
  h.elim fun v h => ⟨o, v, ho, .inl ⟨hw, h.1⟩, h.2⟩
theorem tq_one {P : Program} {ops : Array Oper} {Q : Exit → Act → World → Prop} {S : World → Prop} {i : Nat} {o : Oper} {t : Tq} {a : Act} {w : World} (ho : ops[i]? = some o)
    (hw : Region.wanted o (yielded ops a.tmps) = true) (h : ∀ K : Act → World → Prop, Shut (∀ (S' : World → Prop) a' w', (∀ x, S' x → S x) → S' w' → (S' w' → TqV P ops Q t S' a' w') → K a' w') → Oper.wp P o a w K Q) : TqV P ops Q (.one i t) S a w :=
  ⟨o, ho, fun K hK => by rw [if_pos hw]; exact h K hK⟩
theorem tq_two {P : Program} {ops : Array Oper} {Q : Exit → Act → World → Prop} {S : World → Prop} {i j : Nat} {t u : Tq} {a : Act} {w : World} (h : TqV P ops Q (.one i t) S a w) (h' : TqV P ops Q (.one j u) S a w) : TqV P ops Q (.two i j t u) S a w := ⟨h, h'⟩
theorem tq_three {P : Program} {ops : Array Oper} {Q : Exit → Act → World → Prop} {S : World → Prop} {i j k : Nat} {t u v : Tq} {a : Act} {w : World} (h : TqV P ops Q (.one i t) S a w) (h' : TqV P ops Q (.one j u) S a w) (h2 : TqV P ops Q (.one k v) S a w) : TqV P ops Q (.three i j k t u v) S a w := ⟨h, h', h2⟩
end Go.Proofs.YtdcdalbbjfjadaaGreatDoor
namespace Go.Proofs.YtdcdalbbjfjadaaGreatDoor
open Go Go.RowKit

theorem tq_alloc {P : Program} {ops : Array Oper} {Q : Exit → Act → World → Prop} {S : World → Prop} {t : Tq} {a : Act} {W : World} {C : Array Value} {ty : TypeId}
    (h : ∀ x, Below W.heap.size W x → Holds x W.heap.size C → Loose x W.heap.size → S x → TqV P ops Q t S a x) (hS : S (W.alloc (.cells C ty))) : TqV P ops Q t S a (W.alloc (.cells C ty)) :=
  h _ ((Below.refl _ _).alloc (Nat.le_refl _) _) (holds_new W C ty) (loose_new W C ty) hS

/-- s is a pointer to a block that is new since W0 and holds C; nothing old has changed. -/
def BoxAt (W0 : World) (C : Array Value) (s : Value) (wx : World) : Prop :=
  ∃ G, s = .pointer (some ⟨G, 0, none⟩) ∧ W0.heap.size ≤ G ∧ Below W0.heap.size W0 wx ∧ Holds wx G C ∧ Loose wx G
end Go.Proofs.YtdcdalbbjfjadaaGreatDoor
