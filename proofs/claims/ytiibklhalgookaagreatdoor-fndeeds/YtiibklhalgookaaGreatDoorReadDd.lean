/- Proved: the program's ReadDeed answers the same plain Lean function as the model's, at every text of at most 1048576 bytes; it writes nothing that was there. Condition: 'Laid'. -/
import Derived.Test.YtiibklhalgookaaGreatDoorReadShape
namespace Go.Proofs.YtiibklhalgookaaGreatDoor
open Go.RowKit
set_option maxRecDepth 20000
set_option linter.unusedVariables false

/-- What readShape makes of some words. -/
def rsV (ws : List ByteArray) : Value := match M.deedShape (ws.map (·.data.toList)) with
  | none => .nilIface
  | some (d, _) => shV d

theorem readShape_any (g cap : Nat) (ws : List ByteArray) (w : World) (hl : Laid w) (hc : ws.length ≤ cap) (hcm : cap ≤ 5) (h1 : ws ≠ []) (h0 : Holds w g (ws.map Value.string).toArray) (hs : ∀ x ∈ ws, x.size ≤ 1048576) :
    Calls Tryz.prog 21 #[.slice (some ⟨g, 0, none⟩) ws.length cap] w fun r w' => r = .returned (rsV ws) ∧ Below w.heap.size w w' := by
  match ws, h1 with
  | [k], _ =>
    exact rshape_nil1 g cap k w hc hcm h0
  | [k, a], _ =>
    exact rshape_nil2 g cap k a w hc hcm h0
  | [k, a, b], _ =>
    by_cases e1 : k.data.toList = M.wClaim
    · have e : rsV [k, a, b] = .iface 74 (clV ⟨1, a, ⟨0, 0, 0⟩, ⟨#[]⟩, (M.rd b.data.toList).1⟩) := by
        unfold rsV
        simp only [List.map_cons, List.map_nil, M.deedShape, e1, if_true]
        rfl
      rw [e]
      exact rshape_claim g cap k a b w hl hc hcm h0 (hs a (by simp)) (hs b (by simp)) e1
    · by_cases e2 : k.data.toList = M.wFetch
      · have e : rsV [k, a, b] = .iface 81 (feV ⟨5, a, (M.edRead b.data.toList).1, ⟨#[]⟩, 0⟩) := by
          unfold rsV
          simp only [List.map_cons, List.map_nil, M.deedShape, e2, if_neg (show M.wFetch ≠ M.wClaim by decide), if_true]
          rfl
        rw [e]
        exact rshape_fetch g cap k a b w hl hc hcm h0 (hs a (by simp)) (hs b (by simp)) e2
      · have e : rsV [k, a, b] = .nilIface := by
          unfold rsV
          simp only [List.map_cons, List.map_nil, M.deedShape, if_neg e1, if_neg e2]
        rw [e]
        exact rshape_nil3 g cap k a b w hc hcm h0 e1 e2
  | [k, a, b, c], _ =>
    by_cases e1 : k.data.toList = M.wHide
    · have e : rsV [k, a, b, c] = .iface 78 (veV true ⟨3, a, (M.edRead b.data.toList).1, ⟨#[]⟩, (M.rd c.data.toList).1⟩) := by
        unfold rsV
        simp only [List.map_cons, List.map_nil, M.deedShape, e1, if_true]
        rfl
      rw [e]
      exact rshape_hide g cap k a b c w hl hc hcm h0 (hs a (by simp)) (hs b (by simp)) (hs c (by simp)) e1
    · by_cases e2 : k.data.toList = M.wShow
      · have e : rsV [k, a, b, c] = .iface 78 (veV false ⟨4, a, (M.edRead b.data.toList).1, ⟨#[]⟩, (M.rd c.data.toList).1⟩) := by
          unfold rsV
          simp only [List.map_cons, List.map_nil, M.deedShape, e2, if_neg (show M.wShow ≠ M.wHide by decide), if_true]
          rfl
        rw [e]
        exact rshape_show g cap k a b c w hl hc hcm h0 (hs a (by simp)) (hs b (by simp)) (hs c (by simp)) e2
      · by_cases e3 : k.data.toList = M.wGive
        · have e : rsV [k, a, b, c] = .iface 83 (giV ⟨6, a, ⟨(M.rd c.data.toList).1, 0, 0⟩, ⟨#[]⟩, (M.rd b.data.toList).1⟩) := by
            unfold rsV
            simp only [List.map_cons, List.map_nil, M.deedShape, e3, if_neg (show M.wGive ≠ M.wHide by decide), if_neg (show M.wGive ≠ M.wShow by decide), if_true]
            rfl
          rw [e]
          exact rshape_give g cap k a b c w hl hc hcm h0 (hs a (by simp)) (hs b (by simp)) (hs c (by simp)) e3
        · have e : rsV [k, a, b, c] = .nilIface := by
            unfold rsV
            simp only [List.map_cons, List.map_nil, M.deedShape, if_neg e1, if_neg e2, if_neg e3]
          rw [e]
          exact rshape_nil4 g cap k a b c w hc hcm h0 e1 e2 e3
  | [k, a, b, c, e], _ =>
    by_cases e1 : k.data.toList = M.wPut
    · have e' : rsV [k, a, b, c, e] = .iface 76 (puV ⟨2, a, (M.edRead b.data.toList).1, M.pageRead c.data.toList, (M.rd e.data.toList).1⟩) := by
        unfold rsV
        simp only [List.map_cons, List.map_nil, M.deedShape, e1, if_true]
        rfl
      rw [e']
      exact rshape_put g cap k a b c e w hl hc hcm h0 (hs a (by simp)) (hs b (by simp)) (hs c (by simp)) (hs e (by simp)) e1
    · have e' : rsV [k, a, b, c, e] = .nilIface := by
        unfold rsV
        simp only [List.map_cons, List.map_nil, M.deedShape, if_neg e1]
      rw [e']
      exact rshape_nil5 g cap k a b c e w hc hcm h0 e1
  | _ :: _ :: _ :: _ :: _ :: _ :: _, _ => simp at hc; omega

theorem clone_any (s : ByteArray) (w : World) (hs : s.size ≤ 1048576) : Calls Tryz.prog 23 #[.string s] w fun r w' => r = .returned (.string s) ∧ Below w.heap.size w w' := by
  go_enter Tryz.func23, Tryz.ntmps23
  go_wp2_with fail
  refine (Tryz.stringslite_Clone s _ (by omega)).mono ?_
  rintro r w1 ⟨rfl, b1⟩
  go_wp2
  go_ret
  exact ⟨rfl, b1⟩

theorem splitK_short (b : UInt8) : ∀ (k : Nat) (l : List UInt8), ∀ x ∈ Lib.splitK [b] 0 k l, x.length ≤ l.length
  | 0, l => by intro x hx; rw [show Lib.splitK [b] 0 0 l = [l] from rfl] at hx; simp at hx; rw [hx]; exact Nat.le_refl _
  | k + 1, l => by
    rcases M.cut_first b l with h | ⟨a, r, rfl, ha⟩
    · rw [M.splitK_not b _ l h]; intro x hx; simp at hx; rw [hx]; exact Nat.le_refl _
    · rw [M.splitK_at b k a r ha]
      intro x hx
      simp only [List.mem_cons] at hx
      rcases hx with rfl | hx
      · simp
      · have := splitK_short b k r x hx
        simp; omega
theorem splitK_ne (b : UInt8) : ∀ (k : Nat) (l : List UInt8), Lib.splitK [b] 0 k l ≠ []
  | 0, l => by rw [show Lib.splitK [b] 0 0 l = [l] from rfl]; simp
  | k + 1, l => by
    rcases M.cut_first b l with h | ⟨a, r, rfl, ha⟩
    · rw [M.splitK_not b _ l h]; simp
    · rw [M.splitK_at b k a r ha]; simp

/-- The words that the program cuts a text into. -/
def wordsOf (s : ByteArray) : List ByteArray := Lib.splitB ⟨#[32]⟩ 0 (min 5 (s.size + 1) - 1) s
theorem words_list (s : ByteArray) : (wordsOf s).map (·.data.toList) = Lib.splitK [32] 0 (min 5 (s.data.toList.length + 1) - 1) s.data.toList := by
  rw [M.len0]; exact Lib.splitB_data ⟨#[32]⟩ 0 _ s
theorem words_short (s : ByteArray) : ∀ x ∈ wordsOf s, x.size ≤ s.size := by
  intro x hx
  have := splitK_short 32 (min 5 (s.data.toList.length + 1) - 1) s.data.toList x.data.toList (by rw [← words_list]; exact List.mem_map_of_mem hx)
  rw [M.len0, M.len0] at this; exact this
theorem words_some (s : ByteArray) : wordsOf s ≠ [] := fun e => by
  have := words_list s
  rw [e] at this
  exact splitK_ne _ _ _ this.symm
theorem words_few (s : ByteArray) : (wordsOf s).length ≤ min 5 (s.size + 1) := by
  have := Lib.splitB_length_le ⟨#[32]⟩ 0 (min 5 (s.size + 1) - 1) s
  unfold wordsOf; omega

theorem splitWords (s : ByteArray) (w : World) (hs : s.size ≤ 1048576) (hl : Laid w) :
    Calls Tryz.prog 22 #[.string s, .string ⟨#[32]⟩, .int .i64 5] w fun e w' => (e = .returned (.slice (some ⟨w.heap.size, 0, none⟩) (wordsOf s).length (min 5 (s.size + 1))) ∧ Holds w' w.heap.size ((wordsOf s).map Value.string).toArray) ∧ Below w.heap.size w w' := by
  obtain ⟨_, _, _, m, hm⟩ := hl
  refine (Tryz.strings_SplitN s ⟨#[32]⟩ 5 m w (by omega) hm (by show 1 ≤ 1; omega) (by omega) (by omega)).mono ?_
  rintro e w' ⟨rfl, rfl⟩
  refine ⟨⟨rfl, ?_⟩, (Below.refl _ _).alloc (Nat.le_refl _) _⟩
  have h0 := holds_new w (Lib.cellsOf (Lib.splitB ⟨#[32]⟩ 0 (min 5 (s.size + 1) - 1) s) (min 5 (s.size + 1))) 9
  refine ⟨h0.1, fun j v hj => h0.2 j v ?_⟩
  unfold Lib.cellsOf
  simp only [List.getElem?_toArray] at hj ⊢
  rw [List.getElem?_append_left (by
    rcases Nat.lt_or_ge j ((wordsOf s).map Value.string).length with h | h
    · exact h
    · rw [List.getElem?_eq_none h] at hj; cases hj)]
  exact hj

theorem Holds.set {w : World} {g j : Nat} {C : Array Value} {v : Value} (h : Holds w g C) (hj : C[j]? = some v) : Holds (w.setCell ⟨g, j, none⟩ v) g C := by
  refine ⟨by simpa using h.1, fun i u hi => ?_⟩
  by_cases e : j = i
  · subst e
    rw [hj] at hi; cases hi
    exact World.cell?_setCell_same w _ _ (h.2 j _ hj)
  · rw [World.cell?_setCell_other w _ _ _ (fun h => e (by injection h))]; exact h.2 i u hi
theorem Holds.other {w : World} {g k j : Nat} {C : Array Value} {v : Value} (h : Holds w k C) (hk : k ≠ g) : Holds (w.setCell ⟨g, j, none⟩ v) k C :=
  ⟨by simpa using h.1, fun i u hi => (set_other hk).trans (h.2 i u hi)⟩
theorem Loose.set {w : World} {g k j : Nat} {v : Value} (h : Loose w k) : Loose (w.setCell ⟨g, j, none⟩ v) k := fun i => by rw [World.frozen?_setCell]; exact h i

theorem Holds.put {w : World} {g : Nat} {C : Array Value} (h : Holds w g C) (j : Nat) (v : Value) : Holds (w.setCell ⟨g, j, none⟩ v) g (C.setIfInBounds j v) := by
  refine ⟨by simpa using h.1, fun i u hi => ?_⟩
  by_cases e : j = i
  · subst e
    rw [Array.getElem?_setIfInBounds_self] at hi
    split at hi
    · rename_i hlt
      cases hi
      exact World.cell?_setCell_same w _ _ (h.2 j _ (Array.getElem?_eq_getElem hlt))
    · cases hi
  · rw [Array.getElem?_setIfInBounds_ne e] at hi
    rw [World.cell?_setCell_other w _ _ _ (fun h => e (by injection h))]; exact h.2 i u hi
theorem Holds.put7 {w : World} {g : Nat} {c0 c1 c2 c3 c4 c5 c6 : Value} (h : Holds w g #[c0, c1, c2, c3, c4, c5, c6]) (a0 a1 a2 a3 a4 a5 a6 : Value) :
    Holds (((((((w.setCell ⟨g, 0, none⟩ a0).setCell ⟨g, 1, none⟩ a1).setCell ⟨g, 2, none⟩ a2).setCell ⟨g, 3, none⟩ a3).setCell ⟨g, 4, none⟩ a4).setCell ⟨g, 5, none⟩ a5).setCell ⟨g, 6, none⟩ a6) g #[a0, a1, a2, a3, a4, a5, a6] := by
  have := ((((((h.put 0 a0).put 1 a1).put 2 a2).put 3 a3).put 4 a4).put 5 a5).put 6 a6
  simpa only [List.setIfInBounds_toArray, List.set_cons_zero, List.set_cons_succ] using this
theorem far7 {w w1 : World} {B g : Nat} (h : Below B w w1) (hg : B ≤ g) (a0 a1 a2 a3 a4 a5 a6 : Value) :
    Below B w (((((((w1.setCell ⟨g, 0, none⟩ a0).setCell ⟨g, 1, none⟩ a1).setCell ⟨g, 2, none⟩ a2).setCell ⟨g, 3, none⟩ a3).setCell ⟨g, 4, none⟩ a4).setCell ⟨g, 5, none⟩ a5).setCell ⟨g, 6, none⟩ a6) :=
  far (far (far (far (far (far (far h hg _ _) hg _ _) hg _ _) hg _ _) hg _ _) hg _ _) hg _ _
theorem results_dd (d : M.Dd) (b : Bool) (R : Nat) (W : World) (tmps : Array Value) (h2 : tmps.getD 2 undef = .pointer (some ⟨R, 0, none⟩)) (h3 : tmps.getD 3 undef = .bool b) (hW : Holds W R (ddC d)) :
    (results Tryz.f8 tmps).run Tryz.prog W = .ok (.tuple #[ddV d, .bool b]) W := by
  obtain ⟨q0, q1, q2, q3, q4, q5, q6⟩ := hW.seven
  simp at h2 h3
  simp [results, Tryz.results8, go_sem, h2, h3, q0, q1, q2, q3, q4, q5, q6]

theorem nil_claim (v : Value) (w : World) : (binOp .eql 38 (.iface 74 v) .nilIface).run Tryz.prog w = .ok (.bool false) w := by rfl
theorem nil_put (v : Value) (w : World) : (binOp .eql 38 (.iface 76 v) .nilIface).run Tryz.prog w = .ok (.bool false) w := by rfl
theorem nil_veil (v : Value) (w : World) : (binOp .eql 38 (.iface 78 v) .nilIface).run Tryz.prog w = .ok (.bool false) w := by rfl
theorem nil_fetch (v : Value) (w : World) : (binOp .eql 38 (.iface 81 v) .nilIface).run Tryz.prog w = .ok (.bool false) w := by rfl
theorem nil_give (v : Value) (w : World) : (binOp .eql 38 (.iface 83 v) .nilIface).run Tryz.prog w = .ok (.bool false) w := by rfl
theorem nil_nil (w : World) : (binOp .eql 38 .nilIface .nilIface).run Tryz.prog w = .ok (.bool true) w := by rfl

set_option maxHeartbeats 1000000 in
theorem readDeed_nil (s : ByteArray) (w : World) (hs : s.size ≤ 1048576) (hl : Laid w) (hr : rsV (wordsOf s) = .nilIface) :
    Calls Tryz.prog 8 #[.string s] w fun r w' => r = .returned (.tuple #[ddV M.zeroDd, .bool false]) ∧ Below w.heap.size w w' := by
  have b0 := (Below.refl w.heap.size w).alloc (Nat.le_refl _) (.cells zC 27)
  have h0 := holds_new w zC 27
  have l0 := loose_new w zC 27
  go_enter Tryz.func8, Tryz.ntmps8
  go_wp2_with fail
  refine (splitWords s _ hs (hl.alloc _)).mono ?_
  rintro r w1 ⟨⟨rfl, hg⟩, b1⟩
  simp only [World.size_alloc] at hg
  replace l0 := l0.below h0.1 b1
  replace h0 := h0.below b1
  replace b0 := next b0 b1
  clear b1
  go_wp2_with fail
  refine (readShape_any _ _ (wordsOf s) _ (hl.below b0) (words_few s) (by omega) (words_some s) hg (fun x hx => Nat.le_trans (words_short s x hx) hs)).mono ?_
  rintro r w2 ⟨rfl, b1⟩
  rw [hr]
  replace l0 := l0.below h0.1 b1
  replace h0 := h0.below b1
  replace b0 := next b0 b1
  clear b1 hg
  have hi1 := nil_nil
  obtain ⟨q0, q1, q2, q3, q4, q5, q6⟩ := h0.seven
  obtain ⟨t0, t1, t2, t3, t4, t5, t6⟩ := l0.seven
  go_wp2
  exact bodyPost_ret (results_dd M.zeroDd false w.heap.size _ _ rfl rfl (h0.put7 _ _ _ _ _ _ _)) rfl ⟨rfl, far7 b0 (Nat.le_refl _) _ _ _ _ _ _ _⟩
set_option maxHeartbeats 2000000 in
theorem readDeed_claim_no (s : ByteArray) (d : M.Dd) (w : World) (hs : s.size ≤ 1048576) (hl : Laid w) (hr : rsV (wordsOf s) = .iface 74 (clV d)) (hd : (⟨1, d.name, ⟨0, 0, 0⟩, ⟨#[]⟩, d.who⟩ : M.Dd) = d) (hn : d.name.size ≤ maxLen) (hp : d.page.size ≤ maxLen) (he : M.deedShow d ≠ s.data.toList) :
    Calls Tryz.prog 8 #[.string s] w fun r w' => r = .returned (.tuple #[ddV M.zeroDd, .bool false]) ∧ Below w.heap.size w w' := by
  have HD := Lib.hid hd
  have t1 := txt_ne he
  have t2 : (M.deedShow d != s.toList) = true := by simp [bne, t1]
  clear hd he
  have b0 := (Below.refl w.heap.size w).alloc (Nat.le_refl _) (.cells zC 27)
  have h0 := holds_new w zC 27
  have l0 := loose_new w zC 27
  go_enter Tryz.func8, Tryz.ntmps8
  go_wp2_with fail
  refine (splitWords s _ hs (hl.alloc _)).mono ?_
  rintro r w1 ⟨⟨rfl, hg⟩, b1⟩
  simp only [World.size_alloc] at hg
  replace l0 := l0.below h0.1 b1
  replace h0 := h0.below b1
  replace b0 := next b0 b1
  clear b1
  go_wp2_with fail
  refine (readShape_any _ _ (wordsOf s) _ (hl.below b0) (words_few s) (by omega) (words_some s) hg (fun x hx => Nat.le_trans (words_short s x hx) hs)).mono ?_
  rintro r w2 ⟨rfl, b1⟩
  rw [hr]
  replace l0 := l0.below h0.1 b1
  replace h0 := h0.below b1
  replace b0 := next b0 b1
  clear b1 hg
  have hi1 := nil_claim
  have hi2 := meth_claim
  obtain ⟨q0, q1, q2, q3, q4, q5, q6⟩ := h0.seven
  go_wp2_with fail
  refine (deed_claim d _).mono ?_
  rintro r w3 ⟨hr', b1⟩
  rw [HD.out] at hr'
  obtain rfl := hr'
  replace l0 := l0.below h0.1 b1
  replace h0 := h0.below b1
  replace b0 := next b0 b1
  clear b1 q0 q1 q2 q3 q4 q5 q6 hi1 hi2
  have hd := holds_new w3 (ddC d) 27
  have ld := loose_new w3 (ddC d) 27
  replace l0 := l0.alloc h0.1 (.cells (ddC d) 27)
  have hne : w.heap.size < w3.heap.size := h0.1
  replace h0 := h0.alloc (.cells (ddC d) 27)
  replace b0 := b0.alloc b0.size (.cells (ddC d) 27)
  go_wp2_with fail
  refine (implShowDeed d _ hn hp).mono ?_
  rintro r w4 ⟨hr', b1⟩
  obtain rfl : r = .returned (.string ⟨(M.deedShow d).toArray⟩) := hr'
  replace l0 := l0.below h0.1 b1
  replace h0 := h0.below b1
  replace ld := ld.below hd.1 b1
  replace hd := hd.below b1
  replace b0 := next b0 b1
  clear b1
  obtain ⟨q0, q1, q2, q3, q4, q5, q6⟩ := h0.seven
  obtain ⟨t0, t1, t2, t3, t4, t5, t6⟩ := l0.seven
  go_wp2
  exact bodyPost_ret (results_dd M.zeroDd false w.heap.size _ _ rfl rfl (h0.put7 _ _ _ _ _ _ _)) rfl ⟨rfl, far7 b0 (Nat.le_refl _) _ _ _ _ _ _ _⟩
set_option maxHeartbeats 4000000 in
theorem readDeed_claim_yes (s : ByteArray) (d : M.Dd) (w : World) (hs : s.size ≤ 1048576) (hl : Laid w) (hr : rsV (wordsOf s) = .iface 74 (clV d)) (hd : (⟨1, d.name, ⟨0, 0, 0⟩, ⟨#[]⟩, d.who⟩ : M.Dd) = d) (hn : d.name.size ≤ 1048576) (hp : d.page.size ≤ 1048576) (he : M.deedShow d = s.data.toList) :
    Calls Tryz.prog 8 #[.string s] w fun r w' => r = .returned (.tuple #[ddV d, .bool true]) ∧ Below w.heap.size w w' := by
  have HD := Lib.hid hd
  have t1 := txt_eq he
  have t2 : (M.deedShow d != s.toList) = false := by simp [bne, t1]
  clear hd he
  have b0 := (Below.refl w.heap.size w).alloc (Nat.le_refl _) (.cells zC 27)
  have h0 := holds_new w zC 27
  have l0 := loose_new w zC 27
  go_enter Tryz.func8, Tryz.ntmps8
  go_wp2_with fail
  refine (splitWords s _ hs (hl.alloc _)).mono ?_
  rintro r w1 ⟨⟨rfl, hg⟩, b1⟩
  simp only [World.size_alloc] at hg
  replace l0 := l0.below h0.1 b1
  replace h0 := h0.below b1
  replace b0 := next b0 b1
  clear b1
  go_wp2_with fail
  refine (readShape_any _ _ (wordsOf s) _ (hl.below b0) (words_few s) (by omega) (words_some s) hg (fun x hx => Nat.le_trans (words_short s x hx) hs)).mono ?_
  rintro r w2 ⟨rfl, b1⟩
  rw [hr]
  replace l0 := l0.below h0.1 b1
  replace h0 := h0.below b1
  replace b0 := next b0 b1
  clear b1 hg
  have hi1 := nil_claim
  have hi2 := meth_claim
  obtain ⟨q0, q1, q2, q3, q4, q5, q6⟩ := h0.seven
  go_wp2_with fail
  refine (deed_claim d _).mono ?_
  rintro r w3 ⟨hr', b1⟩
  rw [HD.out] at hr'
  obtain rfl := hr'
  replace l0 := l0.below h0.1 b1
  replace h0 := h0.below b1
  replace b0 := next b0 b1
  clear b1 q0 q1 q2 q3 q4 q5 q6 hi1 hi2
  have hd := holds_new w3 (ddC d) 27
  have ld := loose_new w3 (ddC d) 27
  replace l0 := l0.alloc h0.1 (.cells (ddC d) 27)
  have hne : w.heap.size < w3.heap.size := h0.1
  replace h0 := h0.alloc (.cells (ddC d) 27)
  replace b0 := b0.alloc b0.size (.cells (ddC d) 27)
  go_wp2_with fail
  refine (implShowDeed d _ (by unfold maxLen; omega) (by unfold maxLen; omega)).mono ?_
  rintro r w4 ⟨hr', b1⟩
  obtain rfl : r = .returned (.string ⟨(M.deedShow d).toArray⟩) := hr'
  replace l0 := l0.below h0.1 b1
  replace h0 := h0.below b1
  replace ld := ld.below hd.1 b1
  replace hd := hd.below b1
  replace b0 := next b0 b1
  clear b1
  obtain ⟨q0, q1, q2, q3, q4, q5, q6⟩ := hd.seven
  obtain ⟨t0, t1, t2, t3, t4, t5, t6⟩ := ld.seven
  go_wp2_with fail
  refine (clone_any d.name _ hn).mono ?_
  rintro r w5 ⟨rfl, b1⟩
  replace l0 := l0.below h0.1 b1
  replace h0 := h0.below b1
  replace ld := ld.below hd.1 b1
  replace hd := hd.below b1
  replace b0 := next b0 b1
  clear b1 q0 q1 q2 q3 q4 q5 q6 t0 t1 t2 t3 t4 t5 t6
  obtain ⟨q0, q1, q2, q3, q4, q5, q6⟩ := hd.seven
  obtain ⟨t0, t1, t2, t3, t4, t5, t6⟩ := ld.seven
  go_wp2_with fail
  refine (clone_any d.page _ hp).mono ?_
  rintro r w6 ⟨rfl, b1⟩
  clear q0 q1 q2 q3 q4 q5 q6 t0 t1 t2 t3 t4 t5 t6
  have hd1 := hd.set (j := 1) (v := .string d.name) rfl
  have h01 := h0.other (g := w3.heap.size) (j := 1) (v := .string d.name) (Nat.ne_of_lt hne)
  replace ld := (ld.set (g := w3.heap.size) (j := 1) (v := .string d.name)).below hd1.1 b1
  replace l0 := (l0.set (g := w3.heap.size) (j := 1) (v := .string d.name)).below h01.1 b1
  replace hd := hd1.below b1
  replace h0 := h01.below b1
  replace b0 := next (far b0 (Nat.le_of_lt hne) 1 (.string d.name)) b1
  clear b1 hd1 h01
  obtain ⟨q0, q1, q2, q3, q4, q5, q6⟩ := hd.seven
  obtain ⟨t0, t1, t2, t3, t4, t5, t6⟩ := ld.seven
  obtain ⟨u0, u1, u2, u3, u4, u5, u6⟩ := h0.seven
  obtain ⟨v0, v1, v2, v3, v4, v5, v6⟩ := l0.seven
  go_wp2
  exact bodyPost_ret (results_dd d true w.heap.size _ _ rfl rfl (((h0.other (Nat.ne_of_lt hne)).put7 _ _ _ _ _ _ _))) rfl ⟨rfl, far7 (far b0 (Nat.le_of_lt hne) _ _) (Nat.le_refl _) _ _ _ _ _ _ _⟩
set_option maxHeartbeats 2000000 in
theorem readDeed_put_no (s : ByteArray) (d : M.Dd) (w : World) (hs : s.size ≤ 1048576) (hl : Laid w) (hr : rsV (wordsOf s) = .iface 76 (puV d)) (hd : (⟨2, d.name, d.ed, d.page, d.who⟩ : M.Dd) = d) (hn : d.name.size ≤ maxLen) (hp : d.page.size ≤ maxLen) (he : M.deedShow d ≠ s.data.toList) :
    Calls Tryz.prog 8 #[.string s] w fun r w' => r = .returned (.tuple #[ddV M.zeroDd, .bool false]) ∧ Below w.heap.size w w' := by
  have HD := Lib.hid hd
  have t1 := txt_ne he
  have t2 : (M.deedShow d != s.toList) = true := by simp [bne, t1]
  clear hd he
  have b0 := (Below.refl w.heap.size w).alloc (Nat.le_refl _) (.cells zC 27)
  have h0 := holds_new w zC 27
  have l0 := loose_new w zC 27
  go_enter Tryz.func8, Tryz.ntmps8
  go_wp2_with fail
  refine (splitWords s _ hs (hl.alloc _)).mono ?_
  rintro r w1 ⟨⟨rfl, hg⟩, b1⟩
  simp only [World.size_alloc] at hg
  replace l0 := l0.below h0.1 b1
  replace h0 := h0.below b1
  replace b0 := next b0 b1
  clear b1
  go_wp2_with fail
  refine (readShape_any _ _ (wordsOf s) _ (hl.below b0) (words_few s) (by omega) (words_some s) hg (fun x hx => Nat.le_trans (words_short s x hx) hs)).mono ?_
  rintro r w2 ⟨rfl, b1⟩
  rw [hr]
  replace l0 := l0.below h0.1 b1
  replace h0 := h0.below b1
  replace b0 := next b0 b1
  clear b1 hg
  have hi1 := nil_put
  have hi2 := meth_put
  obtain ⟨q0, q1, q2, q3, q4, q5, q6⟩ := h0.seven
  go_wp2_with fail
  refine (deed_put d _).mono ?_
  rintro r w3 ⟨hr', b1⟩
  rw [HD.out] at hr'
  obtain rfl := hr'
  replace l0 := l0.below h0.1 b1
  replace h0 := h0.below b1
  replace b0 := next b0 b1
  clear b1 q0 q1 q2 q3 q4 q5 q6 hi1 hi2
  have hd := holds_new w3 (ddC d) 27
  have ld := loose_new w3 (ddC d) 27
  replace l0 := l0.alloc h0.1 (.cells (ddC d) 27)
  have hne : w.heap.size < w3.heap.size := h0.1
  replace h0 := h0.alloc (.cells (ddC d) 27)
  replace b0 := b0.alloc b0.size (.cells (ddC d) 27)
  go_wp2_with fail
  refine (implShowDeed d _ hn hp).mono ?_
  rintro r w4 ⟨hr', b1⟩
  obtain rfl : r = .returned (.string ⟨(M.deedShow d).toArray⟩) := hr'
  replace l0 := l0.below h0.1 b1
  replace h0 := h0.below b1
  replace ld := ld.below hd.1 b1
  replace hd := hd.below b1
  replace b0 := next b0 b1
  clear b1
  obtain ⟨q0, q1, q2, q3, q4, q5, q6⟩ := h0.seven
  obtain ⟨t0, t1, t2, t3, t4, t5, t6⟩ := l0.seven
  go_wp2
  exact bodyPost_ret (results_dd M.zeroDd false w.heap.size _ _ rfl rfl (h0.put7 _ _ _ _ _ _ _)) rfl ⟨rfl, far7 b0 (Nat.le_refl _) _ _ _ _ _ _ _⟩
set_option maxHeartbeats 4000000 in
theorem readDeed_put_yes (s : ByteArray) (d : M.Dd) (w : World) (hs : s.size ≤ 1048576) (hl : Laid w) (hr : rsV (wordsOf s) = .iface 76 (puV d)) (hd : (⟨2, d.name, d.ed, d.page, d.who⟩ : M.Dd) = d) (hn : d.name.size ≤ 1048576) (hp : d.page.size ≤ 1048576) (he : M.deedShow d = s.data.toList) :
    Calls Tryz.prog 8 #[.string s] w fun r w' => r = .returned (.tuple #[ddV d, .bool true]) ∧ Below w.heap.size w w' := by
  have HD := Lib.hid hd
  have t1 := txt_eq he
  have t2 : (M.deedShow d != s.toList) = false := by simp [bne, t1]
  clear hd he
  have b0 := (Below.refl w.heap.size w).alloc (Nat.le_refl _) (.cells zC 27)
  have h0 := holds_new w zC 27
  have l0 := loose_new w zC 27
  go_enter Tryz.func8, Tryz.ntmps8
  go_wp2_with fail
  refine (splitWords s _ hs (hl.alloc _)).mono ?_
  rintro r w1 ⟨⟨rfl, hg⟩, b1⟩
  simp only [World.size_alloc] at hg
  replace l0 := l0.below h0.1 b1
  replace h0 := h0.below b1
  replace b0 := next b0 b1
  clear b1
  go_wp2_with fail
  refine (readShape_any _ _ (wordsOf s) _ (hl.below b0) (words_few s) (by omega) (words_some s) hg (fun x hx => Nat.le_trans (words_short s x hx) hs)).mono ?_
  rintro r w2 ⟨rfl, b1⟩
  rw [hr]
  replace l0 := l0.below h0.1 b1
  replace h0 := h0.below b1
  replace b0 := next b0 b1
  clear b1 hg
  have hi1 := nil_put
  have hi2 := meth_put
  obtain ⟨q0, q1, q2, q3, q4, q5, q6⟩ := h0.seven
  go_wp2_with fail
  refine (deed_put d _).mono ?_
  rintro r w3 ⟨hr', b1⟩
  rw [HD.out] at hr'
  obtain rfl := hr'
  replace l0 := l0.below h0.1 b1
  replace h0 := h0.below b1
  replace b0 := next b0 b1
  clear b1 q0 q1 q2 q3 q4 q5 q6 hi1 hi2
  have hd := holds_new w3 (ddC d) 27
  have ld := loose_new w3 (ddC d) 27
  replace l0 := l0.alloc h0.1 (.cells (ddC d) 27)
  have hne : w.heap.size < w3.heap.size := h0.1
  replace h0 := h0.alloc (.cells (ddC d) 27)
  replace b0 := b0.alloc b0.size (.cells (ddC d) 27)
  go_wp2_with fail
  refine (implShowDeed d _ (by unfold maxLen; omega) (by unfold maxLen; omega)).mono ?_
  rintro r w4 ⟨hr', b1⟩
  obtain rfl : r = .returned (.string ⟨(M.deedShow d).toArray⟩) := hr'
  replace l0 := l0.below h0.1 b1
  replace h0 := h0.below b1
  replace ld := ld.below hd.1 b1
  replace hd := hd.below b1
  replace b0 := next b0 b1
  clear b1
  obtain ⟨q0, q1, q2, q3, q4, q5, q6⟩ := hd.seven
  obtain ⟨t0, t1, t2, t3, t4, t5, t6⟩ := ld.seven
  go_wp2_with fail
  refine (clone_any d.name _ hn).mono ?_
  rintro r w5 ⟨rfl, b1⟩
  replace l0 := l0.below h0.1 b1
  replace h0 := h0.below b1
  replace ld := ld.below hd.1 b1
  replace hd := hd.below b1
  replace b0 := next b0 b1
  clear b1 q0 q1 q2 q3 q4 q5 q6 t0 t1 t2 t3 t4 t5 t6
  obtain ⟨q0, q1, q2, q3, q4, q5, q6⟩ := hd.seven
  obtain ⟨t0, t1, t2, t3, t4, t5, t6⟩ := ld.seven
  go_wp2_with fail
  refine (clone_any d.page _ hp).mono ?_
  rintro r w6 ⟨rfl, b1⟩
  clear q0 q1 q2 q3 q4 q5 q6 t0 t1 t2 t3 t4 t5 t6
  have hd1 := hd.set (j := 1) (v := .string d.name) rfl
  have h01 := h0.other (g := w3.heap.size) (j := 1) (v := .string d.name) (Nat.ne_of_lt hne)
  replace ld := (ld.set (g := w3.heap.size) (j := 1) (v := .string d.name)).below hd1.1 b1
  replace l0 := (l0.set (g := w3.heap.size) (j := 1) (v := .string d.name)).below h01.1 b1
  replace hd := hd1.below b1
  replace h0 := h01.below b1
  replace b0 := next (far b0 (Nat.le_of_lt hne) 1 (.string d.name)) b1
  clear b1 hd1 h01
  obtain ⟨q0, q1, q2, q3, q4, q5, q6⟩ := hd.seven
  obtain ⟨t0, t1, t2, t3, t4, t5, t6⟩ := ld.seven
  obtain ⟨u0, u1, u2, u3, u4, u5, u6⟩ := h0.seven
  obtain ⟨v0, v1, v2, v3, v4, v5, v6⟩ := l0.seven
  go_wp2
  exact bodyPost_ret (results_dd d true w.heap.size _ _ rfl rfl (((h0.other (Nat.ne_of_lt hne)).put7 _ _ _ _ _ _ _))) rfl ⟨rfl, far7 (far b0 (Nat.le_of_lt hne) _ _) (Nat.le_refl _) _ _ _ _ _ _ _⟩
set_option maxHeartbeats 2000000 in
theorem readDeed_veil_no (b : Bool) (s : ByteArray) (d : M.Dd) (w : World) (hs : s.size ≤ 1048576) (hl : Laid w) (hr : rsV (wordsOf s) = .iface 78 (veV b d)) (hd : (⟨if b then 3 else 4, d.name, d.ed, ⟨#[]⟩, d.who⟩ : M.Dd) = d) (hn : d.name.size ≤ maxLen) (hp : d.page.size ≤ maxLen) (he : M.deedShow d ≠ s.data.toList) :
    Calls Tryz.prog 8 #[.string s] w fun r w' => r = .returned (.tuple #[ddV M.zeroDd, .bool false]) ∧ Below w.heap.size w w' := by
  have HD := Lib.hid hd
  have t1 := txt_ne he
  have t2 : (M.deedShow d != s.toList) = true := by simp [bne, t1]
  clear hd he
  have b0 := (Below.refl w.heap.size w).alloc (Nat.le_refl _) (.cells zC 27)
  have h0 := holds_new w zC 27
  have l0 := loose_new w zC 27
  go_enter Tryz.func8, Tryz.ntmps8
  go_wp2_with fail
  refine (splitWords s _ hs (hl.alloc _)).mono ?_
  rintro r w1 ⟨⟨rfl, hg⟩, b1⟩
  simp only [World.size_alloc] at hg
  replace l0 := l0.below h0.1 b1
  replace h0 := h0.below b1
  replace b0 := next b0 b1
  clear b1
  go_wp2_with fail
  refine (readShape_any _ _ (wordsOf s) _ (hl.below b0) (words_few s) (by omega) (words_some s) hg (fun x hx => Nat.le_trans (words_short s x hx) hs)).mono ?_
  rintro r w2 ⟨rfl, b1⟩
  rw [hr]
  replace l0 := l0.below h0.1 b1
  replace h0 := h0.below b1
  replace b0 := next b0 b1
  clear b1 hg
  have hi1 := nil_veil
  have hi2 := meth_veil
  obtain ⟨q0, q1, q2, q3, q4, q5, q6⟩ := h0.seven
  go_wp2_with fail
  refine (deed_veil b d _).mono ?_
  rintro r w3 ⟨hr', b1⟩
  rw [HD.out] at hr'
  obtain rfl := hr'
  replace l0 := l0.below h0.1 b1
  replace h0 := h0.below b1
  replace b0 := next b0 b1
  clear b1 q0 q1 q2 q3 q4 q5 q6 hi1 hi2
  have hd := holds_new w3 (ddC d) 27
  have ld := loose_new w3 (ddC d) 27
  replace l0 := l0.alloc h0.1 (.cells (ddC d) 27)
  have hne : w.heap.size < w3.heap.size := h0.1
  replace h0 := h0.alloc (.cells (ddC d) 27)
  replace b0 := b0.alloc b0.size (.cells (ddC d) 27)
  go_wp2_with fail
  refine (implShowDeed d _ hn hp).mono ?_
  rintro r w4 ⟨hr', b1⟩
  obtain rfl : r = .returned (.string ⟨(M.deedShow d).toArray⟩) := hr'
  replace l0 := l0.below h0.1 b1
  replace h0 := h0.below b1
  replace ld := ld.below hd.1 b1
  replace hd := hd.below b1
  replace b0 := next b0 b1
  clear b1
  obtain ⟨q0, q1, q2, q3, q4, q5, q6⟩ := h0.seven
  obtain ⟨t0, t1, t2, t3, t4, t5, t6⟩ := l0.seven
  go_wp2
  exact bodyPost_ret (results_dd M.zeroDd false w.heap.size _ _ rfl rfl (h0.put7 _ _ _ _ _ _ _)) rfl ⟨rfl, far7 b0 (Nat.le_refl _) _ _ _ _ _ _ _⟩
set_option maxHeartbeats 4000000 in
theorem readDeed_veil_yes (b : Bool) (s : ByteArray) (d : M.Dd) (w : World) (hs : s.size ≤ 1048576) (hl : Laid w) (hr : rsV (wordsOf s) = .iface 78 (veV b d)) (hd : (⟨if b then 3 else 4, d.name, d.ed, ⟨#[]⟩, d.who⟩ : M.Dd) = d) (hn : d.name.size ≤ 1048576) (hp : d.page.size ≤ 1048576) (he : M.deedShow d = s.data.toList) :
    Calls Tryz.prog 8 #[.string s] w fun r w' => r = .returned (.tuple #[ddV d, .bool true]) ∧ Below w.heap.size w w' := by
  have HD := Lib.hid hd
  have t1 := txt_eq he
  have t2 : (M.deedShow d != s.toList) = false := by simp [bne, t1]
  clear hd he
  have b0 := (Below.refl w.heap.size w).alloc (Nat.le_refl _) (.cells zC 27)
  have h0 := holds_new w zC 27
  have l0 := loose_new w zC 27
  go_enter Tryz.func8, Tryz.ntmps8
  go_wp2_with fail
  refine (splitWords s _ hs (hl.alloc _)).mono ?_
  rintro r w1 ⟨⟨rfl, hg⟩, b1⟩
  simp only [World.size_alloc] at hg
  replace l0 := l0.below h0.1 b1
  replace h0 := h0.below b1
  replace b0 := next b0 b1
  clear b1
  go_wp2_with fail
  refine (readShape_any _ _ (wordsOf s) _ (hl.below b0) (words_few s) (by omega) (words_some s) hg (fun x hx => Nat.le_trans (words_short s x hx) hs)).mono ?_
  rintro r w2 ⟨rfl, b1⟩
  rw [hr]
  replace l0 := l0.below h0.1 b1
  replace h0 := h0.below b1
  replace b0 := next b0 b1
  clear b1 hg
  have hi1 := nil_veil
  have hi2 := meth_veil
  obtain ⟨q0, q1, q2, q3, q4, q5, q6⟩ := h0.seven
  go_wp2_with fail
  refine (deed_veil b d _).mono ?_
  rintro r w3 ⟨hr', b1⟩
  rw [HD.out] at hr'
  obtain rfl := hr'
  replace l0 := l0.below h0.1 b1
  replace h0 := h0.below b1
  replace b0 := next b0 b1
  clear b1 q0 q1 q2 q3 q4 q5 q6 hi1 hi2
  have hd := holds_new w3 (ddC d) 27
  have ld := loose_new w3 (ddC d) 27
  replace l0 := l0.alloc h0.1 (.cells (ddC d) 27)
  have hne : w.heap.size < w3.heap.size := h0.1
  replace h0 := h0.alloc (.cells (ddC d) 27)
  replace b0 := b0.alloc b0.size (.cells (ddC d) 27)
  go_wp2_with fail
  refine (implShowDeed d _ (by unfold maxLen; omega) (by unfold maxLen; omega)).mono ?_
  rintro r w4 ⟨hr', b1⟩
  obtain rfl : r = .returned (.string ⟨(M.deedShow d).toArray⟩) := hr'
  replace l0 := l0.below h0.1 b1
  replace h0 := h0.below b1
  replace ld := ld.below hd.1 b1
  replace hd := hd.below b1
  replace b0 := next b0 b1
  clear b1
  obtain ⟨q0, q1, q2, q3, q4, q5, q6⟩ := hd.seven
  obtain ⟨t0, t1, t2, t3, t4, t5, t6⟩ := ld.seven
  go_wp2_with fail
  refine (clone_any d.name _ hn).mono ?_
  rintro r w5 ⟨rfl, b1⟩
  replace l0 := l0.below h0.1 b1
  replace h0 := h0.below b1
  replace ld := ld.below hd.1 b1
  replace hd := hd.below b1
  replace b0 := next b0 b1
  clear b1 q0 q1 q2 q3 q4 q5 q6 t0 t1 t2 t3 t4 t5 t6
  obtain ⟨q0, q1, q2, q3, q4, q5, q6⟩ := hd.seven
  obtain ⟨t0, t1, t2, t3, t4, t5, t6⟩ := ld.seven
  go_wp2_with fail
  refine (clone_any d.page _ hp).mono ?_
  rintro r w6 ⟨rfl, b1⟩
  clear q0 q1 q2 q3 q4 q5 q6 t0 t1 t2 t3 t4 t5 t6
  have hd1 := hd.set (j := 1) (v := .string d.name) rfl
  have h01 := h0.other (g := w3.heap.size) (j := 1) (v := .string d.name) (Nat.ne_of_lt hne)
  replace ld := (ld.set (g := w3.heap.size) (j := 1) (v := .string d.name)).below hd1.1 b1
  replace l0 := (l0.set (g := w3.heap.size) (j := 1) (v := .string d.name)).below h01.1 b1
  replace hd := hd1.below b1
  replace h0 := h01.below b1
  replace b0 := next (far b0 (Nat.le_of_lt hne) 1 (.string d.name)) b1
  clear b1 hd1 h01
  obtain ⟨q0, q1, q2, q3, q4, q5, q6⟩ := hd.seven
  obtain ⟨t0, t1, t2, t3, t4, t5, t6⟩ := ld.seven
  obtain ⟨u0, u1, u2, u3, u4, u5, u6⟩ := h0.seven
  obtain ⟨v0, v1, v2, v3, v4, v5, v6⟩ := l0.seven
  go_wp2
  exact bodyPost_ret (results_dd d true w.heap.size _ _ rfl rfl (((h0.other (Nat.ne_of_lt hne)).put7 _ _ _ _ _ _ _))) rfl ⟨rfl, far7 (far b0 (Nat.le_of_lt hne) _ _) (Nat.le_refl _) _ _ _ _ _ _ _⟩
set_option maxHeartbeats 2000000 in
theorem readDeed_fetch_no (s : ByteArray) (d : M.Dd) (w : World) (hs : s.size ≤ 1048576) (hl : Laid w) (hr : rsV (wordsOf s) = .iface 81 (feV d)) (hd : (⟨5, d.name, d.ed, ⟨#[]⟩, 0⟩ : M.Dd) = d) (hn : d.name.size ≤ maxLen) (hp : d.page.size ≤ maxLen) (he : M.deedShow d ≠ s.data.toList) :
    Calls Tryz.prog 8 #[.string s] w fun r w' => r = .returned (.tuple #[ddV M.zeroDd, .bool false]) ∧ Below w.heap.size w w' := by
  have HD := Lib.hid hd
  have t1 := txt_ne he
  have t2 : (M.deedShow d != s.toList) = true := by simp [bne, t1]
  clear hd he
  have b0 := (Below.refl w.heap.size w).alloc (Nat.le_refl _) (.cells zC 27)
  have h0 := holds_new w zC 27
  have l0 := loose_new w zC 27
  go_enter Tryz.func8, Tryz.ntmps8
  go_wp2_with fail
  refine (splitWords s _ hs (hl.alloc _)).mono ?_
  rintro r w1 ⟨⟨rfl, hg⟩, b1⟩
  simp only [World.size_alloc] at hg
  replace l0 := l0.below h0.1 b1
  replace h0 := h0.below b1
  replace b0 := next b0 b1
  clear b1
  go_wp2_with fail
  refine (readShape_any _ _ (wordsOf s) _ (hl.below b0) (words_few s) (by omega) (words_some s) hg (fun x hx => Nat.le_trans (words_short s x hx) hs)).mono ?_
  rintro r w2 ⟨rfl, b1⟩
  rw [hr]
  replace l0 := l0.below h0.1 b1
  replace h0 := h0.below b1
  replace b0 := next b0 b1
  clear b1 hg
  have hi1 := nil_fetch
  have hi2 := meth_fetch
  obtain ⟨q0, q1, q2, q3, q4, q5, q6⟩ := h0.seven
  go_wp2_with fail
  refine (deed_fetch d _).mono ?_
  rintro r w3 ⟨hr', b1⟩
  rw [HD.out] at hr'
  obtain rfl := hr'
  replace l0 := l0.below h0.1 b1
  replace h0 := h0.below b1
  replace b0 := next b0 b1
  clear b1 q0 q1 q2 q3 q4 q5 q6 hi1 hi2
  have hd := holds_new w3 (ddC d) 27
  have ld := loose_new w3 (ddC d) 27
  replace l0 := l0.alloc h0.1 (.cells (ddC d) 27)
  have hne : w.heap.size < w3.heap.size := h0.1
  replace h0 := h0.alloc (.cells (ddC d) 27)
  replace b0 := b0.alloc b0.size (.cells (ddC d) 27)
  go_wp2_with fail
  refine (implShowDeed d _ hn hp).mono ?_
  rintro r w4 ⟨hr', b1⟩
  obtain rfl : r = .returned (.string ⟨(M.deedShow d).toArray⟩) := hr'
  replace l0 := l0.below h0.1 b1
  replace h0 := h0.below b1
  replace ld := ld.below hd.1 b1
  replace hd := hd.below b1
  replace b0 := next b0 b1
  clear b1
  obtain ⟨q0, q1, q2, q3, q4, q5, q6⟩ := h0.seven
  obtain ⟨t0, t1, t2, t3, t4, t5, t6⟩ := l0.seven
  go_wp2
  exact bodyPost_ret (results_dd M.zeroDd false w.heap.size _ _ rfl rfl (h0.put7 _ _ _ _ _ _ _)) rfl ⟨rfl, far7 b0 (Nat.le_refl _) _ _ _ _ _ _ _⟩
set_option maxHeartbeats 4000000 in
theorem readDeed_fetch_yes (s : ByteArray) (d : M.Dd) (w : World) (hs : s.size ≤ 1048576) (hl : Laid w) (hr : rsV (wordsOf s) = .iface 81 (feV d)) (hd : (⟨5, d.name, d.ed, ⟨#[]⟩, 0⟩ : M.Dd) = d) (hn : d.name.size ≤ 1048576) (hp : d.page.size ≤ 1048576) (he : M.deedShow d = s.data.toList) :
    Calls Tryz.prog 8 #[.string s] w fun r w' => r = .returned (.tuple #[ddV d, .bool true]) ∧ Below w.heap.size w w' := by
  have HD := Lib.hid hd
  have t1 := txt_eq he
  have t2 : (M.deedShow d != s.toList) = false := by simp [bne, t1]
  clear hd he
  have b0 := (Below.refl w.heap.size w).alloc (Nat.le_refl _) (.cells zC 27)
  have h0 := holds_new w zC 27
  have l0 := loose_new w zC 27
  go_enter Tryz.func8, Tryz.ntmps8
  go_wp2_with fail
  refine (splitWords s _ hs (hl.alloc _)).mono ?_
  rintro r w1 ⟨⟨rfl, hg⟩, b1⟩
  simp only [World.size_alloc] at hg
  replace l0 := l0.below h0.1 b1
  replace h0 := h0.below b1
  replace b0 := next b0 b1
  clear b1
  go_wp2_with fail
  refine (readShape_any _ _ (wordsOf s) _ (hl.below b0) (words_few s) (by omega) (words_some s) hg (fun x hx => Nat.le_trans (words_short s x hx) hs)).mono ?_
  rintro r w2 ⟨rfl, b1⟩
  rw [hr]
  replace l0 := l0.below h0.1 b1
  replace h0 := h0.below b1
  replace b0 := next b0 b1
  clear b1 hg
  have hi1 := nil_fetch
  have hi2 := meth_fetch
  obtain ⟨q0, q1, q2, q3, q4, q5, q6⟩ := h0.seven
  go_wp2_with fail
  refine (deed_fetch d _).mono ?_
  rintro r w3 ⟨hr', b1⟩
  rw [HD.out] at hr'
  obtain rfl := hr'
  replace l0 := l0.below h0.1 b1
  replace h0 := h0.below b1
  replace b0 := next b0 b1
  clear b1 q0 q1 q2 q3 q4 q5 q6 hi1 hi2
  have hd := holds_new w3 (ddC d) 27
  have ld := loose_new w3 (ddC d) 27
  replace l0 := l0.alloc h0.1 (.cells (ddC d) 27)
  have hne : w.heap.size < w3.heap.size := h0.1
  replace h0 := h0.alloc (.cells (ddC d) 27)
  replace b0 := b0.alloc b0.size (.cells (ddC d) 27)
  go_wp2_with fail
  refine (implShowDeed d _ (by unfold maxLen; omega) (by unfold maxLen; omega)).mono ?_
  rintro r w4 ⟨hr', b1⟩
  obtain rfl : r = .returned (.string ⟨(M.deedShow d).toArray⟩) := hr'
  replace l0 := l0.below h0.1 b1
  replace h0 := h0.below b1
  replace ld := ld.below hd.1 b1
  replace hd := hd.below b1
  replace b0 := next b0 b1
  clear b1
  obtain ⟨q0, q1, q2, q3, q4, q5, q6⟩ := hd.seven
  obtain ⟨t0, t1, t2, t3, t4, t5, t6⟩ := ld.seven
  go_wp2_with fail
  refine (clone_any d.name _ hn).mono ?_
  rintro r w5 ⟨rfl, b1⟩
  replace l0 := l0.below h0.1 b1
  replace h0 := h0.below b1
  replace ld := ld.below hd.1 b1
  replace hd := hd.below b1
  replace b0 := next b0 b1
  clear b1 q0 q1 q2 q3 q4 q5 q6 t0 t1 t2 t3 t4 t5 t6
  obtain ⟨q0, q1, q2, q3, q4, q5, q6⟩ := hd.seven
  obtain ⟨t0, t1, t2, t3, t4, t5, t6⟩ := ld.seven
  go_wp2_with fail
  refine (clone_any d.page _ hp).mono ?_
  rintro r w6 ⟨rfl, b1⟩
  clear q0 q1 q2 q3 q4 q5 q6 t0 t1 t2 t3 t4 t5 t6
  have hd1 := hd.set (j := 1) (v := .string d.name) rfl
  have h01 := h0.other (g := w3.heap.size) (j := 1) (v := .string d.name) (Nat.ne_of_lt hne)
  replace ld := (ld.set (g := w3.heap.size) (j := 1) (v := .string d.name)).below hd1.1 b1
  replace l0 := (l0.set (g := w3.heap.size) (j := 1) (v := .string d.name)).below h01.1 b1
  replace hd := hd1.below b1
  replace h0 := h01.below b1
  replace b0 := next (far b0 (Nat.le_of_lt hne) 1 (.string d.name)) b1
  clear b1 hd1 h01
  obtain ⟨q0, q1, q2, q3, q4, q5, q6⟩ := hd.seven
  obtain ⟨t0, t1, t2, t3, t4, t5, t6⟩ := ld.seven
  obtain ⟨u0, u1, u2, u3, u4, u5, u6⟩ := h0.seven
  obtain ⟨v0, v1, v2, v3, v4, v5, v6⟩ := l0.seven
  go_wp2
  exact bodyPost_ret (results_dd d true w.heap.size _ _ rfl rfl (((h0.other (Nat.ne_of_lt hne)).put7 _ _ _ _ _ _ _))) rfl ⟨rfl, far7 (far b0 (Nat.le_of_lt hne) _ _) (Nat.le_refl _) _ _ _ _ _ _ _⟩
set_option maxHeartbeats 2000000 in
theorem readDeed_give_no (s : ByteArray) (d : M.Dd) (w : World) (hs : s.size ≤ 1048576) (hl : Laid w) (hr : rsV (wordsOf s) = .iface 83 (giV d)) (hd : (⟨6, d.name, ⟨d.ed.ma, 0, 0⟩, ⟨#[]⟩, d.who⟩ : M.Dd) = d) (hn : d.name.size ≤ maxLen) (hp : d.page.size ≤ maxLen) (he : M.deedShow d ≠ s.data.toList) :
    Calls Tryz.prog 8 #[.string s] w fun r w' => r = .returned (.tuple #[ddV M.zeroDd, .bool false]) ∧ Below w.heap.size w w' := by
  have HD := Lib.hid hd
  have t1 := txt_ne he
  have t2 : (M.deedShow d != s.toList) = true := by simp [bne, t1]
  clear hd he
  have b0 := (Below.refl w.heap.size w).alloc (Nat.le_refl _) (.cells zC 27)
  have h0 := holds_new w zC 27
  have l0 := loose_new w zC 27
  go_enter Tryz.func8, Tryz.ntmps8
  go_wp2_with fail
  refine (splitWords s _ hs (hl.alloc _)).mono ?_
  rintro r w1 ⟨⟨rfl, hg⟩, b1⟩
  simp only [World.size_alloc] at hg
  replace l0 := l0.below h0.1 b1
  replace h0 := h0.below b1
  replace b0 := next b0 b1
  clear b1
  go_wp2_with fail
  refine (readShape_any _ _ (wordsOf s) _ (hl.below b0) (words_few s) (by omega) (words_some s) hg (fun x hx => Nat.le_trans (words_short s x hx) hs)).mono ?_
  rintro r w2 ⟨rfl, b1⟩
  rw [hr]
  replace l0 := l0.below h0.1 b1
  replace h0 := h0.below b1
  replace b0 := next b0 b1
  clear b1 hg
  have hi1 := nil_give
  have hi2 := meth_give
  obtain ⟨q0, q1, q2, q3, q4, q5, q6⟩ := h0.seven
  go_wp2_with fail
  refine (deed_give d _).mono ?_
  rintro r w3 ⟨hr', b1⟩
  rw [HD.out] at hr'
  obtain rfl := hr'
  replace l0 := l0.below h0.1 b1
  replace h0 := h0.below b1
  replace b0 := next b0 b1
  clear b1 q0 q1 q2 q3 q4 q5 q6 hi1 hi2
  have hd := holds_new w3 (ddC d) 27
  have ld := loose_new w3 (ddC d) 27
  replace l0 := l0.alloc h0.1 (.cells (ddC d) 27)
  have hne : w.heap.size < w3.heap.size := h0.1
  replace h0 := h0.alloc (.cells (ddC d) 27)
  replace b0 := b0.alloc b0.size (.cells (ddC d) 27)
  go_wp2_with fail
  refine (implShowDeed d _ hn hp).mono ?_
  rintro r w4 ⟨hr', b1⟩
  obtain rfl : r = .returned (.string ⟨(M.deedShow d).toArray⟩) := hr'
  replace l0 := l0.below h0.1 b1
  replace h0 := h0.below b1
  replace ld := ld.below hd.1 b1
  replace hd := hd.below b1
  replace b0 := next b0 b1
  clear b1
  obtain ⟨q0, q1, q2, q3, q4, q5, q6⟩ := h0.seven
  obtain ⟨t0, t1, t2, t3, t4, t5, t6⟩ := l0.seven
  go_wp2
  exact bodyPost_ret (results_dd M.zeroDd false w.heap.size _ _ rfl rfl (h0.put7 _ _ _ _ _ _ _)) rfl ⟨rfl, far7 b0 (Nat.le_refl _) _ _ _ _ _ _ _⟩
set_option maxHeartbeats 4000000 in
theorem readDeed_give_yes (s : ByteArray) (d : M.Dd) (w : World) (hs : s.size ≤ 1048576) (hl : Laid w) (hr : rsV (wordsOf s) = .iface 83 (giV d)) (hd : (⟨6, d.name, ⟨d.ed.ma, 0, 0⟩, ⟨#[]⟩, d.who⟩ : M.Dd) = d) (hn : d.name.size ≤ 1048576) (hp : d.page.size ≤ 1048576) (he : M.deedShow d = s.data.toList) :
    Calls Tryz.prog 8 #[.string s] w fun r w' => r = .returned (.tuple #[ddV d, .bool true]) ∧ Below w.heap.size w w' := by
  have HD := Lib.hid hd
  have t1 := txt_eq he
  have t2 : (M.deedShow d != s.toList) = false := by simp [bne, t1]
  clear hd he
  have b0 := (Below.refl w.heap.size w).alloc (Nat.le_refl _) (.cells zC 27)
  have h0 := holds_new w zC 27
  have l0 := loose_new w zC 27
  go_enter Tryz.func8, Tryz.ntmps8
  go_wp2_with fail
  refine (splitWords s _ hs (hl.alloc _)).mono ?_
  rintro r w1 ⟨⟨rfl, hg⟩, b1⟩
  simp only [World.size_alloc] at hg
  replace l0 := l0.below h0.1 b1
  replace h0 := h0.below b1
  replace b0 := next b0 b1
  clear b1
  go_wp2_with fail
  refine (readShape_any _ _ (wordsOf s) _ (hl.below b0) (words_few s) (by omega) (words_some s) hg (fun x hx => Nat.le_trans (words_short s x hx) hs)).mono ?_
  rintro r w2 ⟨rfl, b1⟩
  rw [hr]
  replace l0 := l0.below h0.1 b1
  replace h0 := h0.below b1
  replace b0 := next b0 b1
  clear b1 hg
  have hi1 := nil_give
  have hi2 := meth_give
  obtain ⟨q0, q1, q2, q3, q4, q5, q6⟩ := h0.seven
  go_wp2_with fail
  refine (deed_give d _).mono ?_
  rintro r w3 ⟨hr', b1⟩
  rw [HD.out] at hr'
  obtain rfl := hr'
  replace l0 := l0.below h0.1 b1
  replace h0 := h0.below b1
  replace b0 := next b0 b1
  clear b1 q0 q1 q2 q3 q4 q5 q6 hi1 hi2
  have hd := holds_new w3 (ddC d) 27
  have ld := loose_new w3 (ddC d) 27
  replace l0 := l0.alloc h0.1 (.cells (ddC d) 27)
  have hne : w.heap.size < w3.heap.size := h0.1
  replace h0 := h0.alloc (.cells (ddC d) 27)
  replace b0 := b0.alloc b0.size (.cells (ddC d) 27)
  go_wp2_with fail
  refine (implShowDeed d _ (by unfold maxLen; omega) (by unfold maxLen; omega)).mono ?_
  rintro r w4 ⟨hr', b1⟩
  obtain rfl : r = .returned (.string ⟨(M.deedShow d).toArray⟩) := hr'
  replace l0 := l0.below h0.1 b1
  replace h0 := h0.below b1
  replace ld := ld.below hd.1 b1
  replace hd := hd.below b1
  replace b0 := next b0 b1
  clear b1
  obtain ⟨q0, q1, q2, q3, q4, q5, q6⟩ := hd.seven
  obtain ⟨t0, t1, t2, t3, t4, t5, t6⟩ := ld.seven
  go_wp2_with fail
  refine (clone_any d.name _ hn).mono ?_
  rintro r w5 ⟨rfl, b1⟩
  replace l0 := l0.below h0.1 b1
  replace h0 := h0.below b1
  replace ld := ld.below hd.1 b1
  replace hd := hd.below b1
  replace b0 := next b0 b1
  clear b1 q0 q1 q2 q3 q4 q5 q6 t0 t1 t2 t3 t4 t5 t6
  obtain ⟨q0, q1, q2, q3, q4, q5, q6⟩ := hd.seven
  obtain ⟨t0, t1, t2, t3, t4, t5, t6⟩ := ld.seven
  go_wp2_with fail
  refine (clone_any d.page _ hp).mono ?_
  rintro r w6 ⟨rfl, b1⟩
  clear q0 q1 q2 q3 q4 q5 q6 t0 t1 t2 t3 t4 t5 t6
  have hd1 := hd.set (j := 1) (v := .string d.name) rfl
  have h01 := h0.other (g := w3.heap.size) (j := 1) (v := .string d.name) (Nat.ne_of_lt hne)
  replace ld := (ld.set (g := w3.heap.size) (j := 1) (v := .string d.name)).below hd1.1 b1
  replace l0 := (l0.set (g := w3.heap.size) (j := 1) (v := .string d.name)).below h01.1 b1
  replace hd := hd1.below b1
  replace h0 := h01.below b1
  replace b0 := next (far b0 (Nat.le_of_lt hne) 1 (.string d.name)) b1
  clear b1 hd1 h01
  obtain ⟨q0, q1, q2, q3, q4, q5, q6⟩ := hd.seven
  obtain ⟨t0, t1, t2, t3, t4, t5, t6⟩ := ld.seven
  obtain ⟨u0, u1, u2, u3, u4, u5, u6⟩ := h0.seven
  obtain ⟨v0, v1, v2, v3, v4, v5, v6⟩ := l0.seven
  go_wp2
  exact bodyPost_ret (results_dd d true w.heap.size _ _ rfl rfl (((h0.other (Nat.ne_of_lt hne)).put7 _ _ _ _ _ _ _))) rfl ⟨rfl, far7 (far b0 (Nat.le_of_lt hne) _ _) (Nat.le_refl _) _ _ _ _ _ _ _⟩

theorem page_size (l : List UInt8) : (M.pageRead l).size ≤ l.length := by
  unfold M.pageRead; split
  · exact Nat.zero_le _
  · exact Nat.le_refl _
/-- A deed that words tell has nothing beside what its kind tells, and its texts are words. -/
theorem shape_norm {ws : List (List UInt8)} {d : M.Dd} {g : Bool} (h : M.deedShape ws = some (d, g)) :
    ((d.kind = 1 ∧ (⟨1, d.name, ⟨0, 0, 0⟩, ⟨#[]⟩, d.who⟩ : M.Dd) = d) ∨ (d.kind = 2 ∧ (⟨2, d.name, d.ed, d.page, d.who⟩ : M.Dd) = d) ∨ (d.kind = 3 ∧ (⟨if true then 3 else 4, d.name, d.ed, ⟨#[]⟩, d.who⟩ : M.Dd) = d) ∨ (d.kind = 4 ∧ (⟨if false then 3 else 4, d.name, d.ed, ⟨#[]⟩, d.who⟩ : M.Dd) = d) ∨
      (d.kind = 5 ∧ (⟨5, d.name, d.ed, ⟨#[]⟩, 0⟩ : M.Dd) = d) ∨ (d.kind = 6 ∧ (⟨6, d.name, ⟨d.ed.ma, 0, 0⟩, ⟨#[]⟩, d.who⟩ : M.Dd) = d)) ∧ (∃ x ∈ ws, d.name.size ≤ x.length) ∧ (∃ x ∈ ws, d.page.size ≤ x.length) := by
  unfold M.deedShape at h
  split at h
  · rename_i k n a
    split at h
    · simp only [Option.some.injEq, Prod.mk.injEq] at h
      obtain ⟨rfl, -⟩ := h
      exact ⟨.inl ⟨rfl, rfl⟩, ⟨n, by simp, Nat.le_refl _⟩, ⟨n, by simp, Nat.zero_le _⟩⟩
    · split at h
      · simp only [Option.some.injEq, Prod.mk.injEq] at h
        obtain ⟨rfl, -⟩ := h
        exact ⟨.inr (.inr (.inr (.inr (.inl ⟨rfl, rfl⟩)))), ⟨n, by simp, Nat.le_refl _⟩, ⟨n, by simp, Nat.zero_le _⟩⟩
      · cases h
  · rename_i k n a b
    split at h
    · simp only [Option.some.injEq, Prod.mk.injEq] at h
      obtain ⟨rfl, -⟩ := h
      exact ⟨.inr (.inr (.inl ⟨rfl, rfl⟩)), ⟨n, by simp, Nat.le_refl _⟩, ⟨n, by simp, Nat.zero_le _⟩⟩
    · split at h
      · simp only [Option.some.injEq, Prod.mk.injEq] at h
        obtain ⟨rfl, -⟩ := h
        exact ⟨.inr (.inr (.inr (.inl ⟨rfl, rfl⟩))), ⟨n, by simp, Nat.le_refl _⟩, ⟨n, by simp, Nat.zero_le _⟩⟩
      · split at h
        · simp only [Option.some.injEq, Prod.mk.injEq] at h
          obtain ⟨rfl, -⟩ := h
          exact ⟨.inr (.inr (.inr (.inr (.inr ⟨rfl, rfl⟩)))), ⟨n, by simp, Nat.le_refl _⟩, ⟨n, by simp, Nat.zero_le _⟩⟩
        · cases h
  · rename_i k n a b c
    split at h
    · simp only [Option.some.injEq, Prod.mk.injEq] at h
      obtain ⟨rfl, -⟩ := h
      exact ⟨.inr (.inl ⟨rfl, rfl⟩), ⟨n, by simp, Nat.le_refl _⟩, ⟨b, by simp, page_size b⟩⟩
    · cases h
  · cases h

theorem implReadDeed (s : ByteArray) (w : World) (hs : s.size ≤ 1048576) (hl : Laid w) :
    Calls Tryz.prog 8 #[.string s] w fun r w' => r = .returned (.tuple #[ddV (M.deedRead s.data.toList).1, .bool (M.deedRead s.data.toList).2]) ∧ Below w.heap.size w w' := by
  have e := M.deedRead_impl s.data.toList
  rw [← words_list] at e
  rcases hsh : M.deedShape ((wordsOf s).map (·.data.toList)) with _ | ⟨d, g⟩
  · rw [hsh] at e
    rw [e]
    exact readDeed_nil s w hs hl (by unfold rsV; rw [hsh])
  · have hr : rsV (wordsOf s) = shV d := by unfold rsV; rw [hsh]
    rw [hsh] at e
    obtain ⟨hk, ⟨x, hx, hxn⟩, y, hy, hyn⟩ := shape_norm hsh
    obtain ⟨x', hx', rfl⟩ := List.mem_map.1 hx
    obtain ⟨y', hy', rfl⟩ := List.mem_map.1 hy
    have hn : d.name.size ≤ 1048576 := by have := words_short s x' hx'; rw [M.len0] at hxn; omega
    have hp : d.page.size ≤ 1048576 := by have := words_short s y' hy'; rw [M.len0] at hyn; omega
    have hn' : d.name.size ≤ maxLen := by unfold maxLen; omega
    have hp' : d.page.size ≤ maxLen := by unfold maxLen; omega
    by_cases he : M.deedShow d = s.data.toList
    · simp only at e
      rw [if_pos he] at e
      rw [e]
      rcases hk with ⟨hk, hd⟩ | ⟨hk, hd⟩ | ⟨hk, hd⟩ | ⟨hk, hd⟩ | ⟨hk, hd⟩ | ⟨hk, hd⟩
      · exact readDeed_claim_yes s d w hs hl (hr.trans (by simp [shV, hk])) hd hn hp he
      · exact readDeed_put_yes s d w hs hl (hr.trans (by simp [shV, hk])) hd hn hp he
      · exact readDeed_veil_yes true s d w hs hl (hr.trans (by simp [shV, hk])) hd hn hp he
      · exact readDeed_veil_yes false s d w hs hl (hr.trans (by simp [shV, hk])) hd hn hp he
      · exact readDeed_fetch_yes s d w hs hl (hr.trans (by simp [shV, hk])) hd hn hp he
      · exact readDeed_give_yes s d w hs hl (hr.trans (by simp [shV, hk])) hd hn hp he
    · simp only at e
      rw [if_neg he] at e
      rw [e]
      rcases hk with ⟨hk, hd⟩ | ⟨hk, hd⟩ | ⟨hk, hd⟩ | ⟨hk, hd⟩ | ⟨hk, hd⟩ | ⟨hk, hd⟩
      · exact readDeed_claim_no s d w hs hl (hr.trans (by simp [shV, hk])) hd hn' hp' he
      · exact readDeed_put_no s d w hs hl (hr.trans (by simp [shV, hk])) hd hn' hp' he
      · exact readDeed_veil_no true s d w hs hl (hr.trans (by simp [shV, hk])) hd hn' hp' he
      · exact readDeed_veil_no false s d w hs hl (hr.trans (by simp [shV, hk])) hd hn' hp' he
      · exact readDeed_fetch_no s d w hs hl (hr.trans (by simp [shV, hk])) hd hn' hp' he
      · exact readDeed_give_no s d w hs hl (hr.trans (by simp [shV, hk])) hd hn' hp' he
end Go.Proofs.YtiibklhalgookaaGreatDoor
