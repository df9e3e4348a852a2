/- Proved, in parts: Proved: contracts of the library over this program, each by one application of a theorem of the kit; what each asks stands in its head. Proved: a list of entries is copied into memory of its own, its texts too (newEntries), and likewise a roll's; nothing that was there is written. Condition: texts and lists of at most a million. -/
import Derived.Shelf.LaysM
import Derived.Shelf.Strconv.Clone
import Derived.Test.YtkpbfocnokbmiaaProg
import Derived.Test.YtkpbfocnokbmiaaPart09
import Derived.Test.YtkpbfocnokbmiaaPart03
import Derived.Laws.CopyOwn
namespace Go.Proofs
open Go.Shelf
open Go.RowKit
def Try.laysM316_ren : Go.Shelf.Ren := ⟨fun | 316 => 92 | n => n, fun | 9 => 9 | 3 => 3 | 4 => 4 | 37 => 22 | 0 => 0 | 127 => 119 | 5 => 5 | n => n, fun | n => n⟩
theorem Try.laysM316 : Go.Proofs.LaysM.n316 Try.prog Try.laysM316_ren := {
  mixed := by kernel_rfl
  f316 := Try.func92.trans (congrArg some (by kernel_rfl))
  t0 := Try.underlying0
  a0 := Try.isAgg0
  z0 := Try.sizeOf0
  v0 := Try.zeroValue0
  t3 := Try.underlying3
  a3 := Try.isAgg3
  z3 := Try.sizeOf3
  v3 := Try.zeroValue3
  t4 := Try.underlying4
  a4 := Try.isAgg4
  z4 := Try.sizeOf4
  v4 := Try.zeroValue4
  t9 := Try.underlying9
  a9 := Try.isAgg9
  z9 := Try.sizeOf9
  v9 := Try.zeroValue9
  t37 := Try.underlying22
  a37 := Try.isAgg22
  z37 := Try.sizeOf22
  v37 := Try.zeroValue22
  t127 := Try.underlying119
  a127 := Try.isAgg119
  z127 := Try.sizeOf119
  v127 := Try.zeroValue119
  t5 := Try.underlying5
  a5 := Try.isAgg5
  z5 := Try.sizeOf5
  v5 := Try.zeroValue5
  i0 := by kernel_rfl
  i3 := by kernel_rfl
  i4 := by kernel_rfl
  i5 := by kernel_rfl
  i9 := by kernel_rfl
  i37 := by kernel_rfl
  i127 := by kernel_rfl }
theorem Try.stringslite_Clone (s : ByteArray) (w : World) (hlim : s.size ≤ 281474976710656) :
    Calls Try.prog 92 #[.string s] w fun e w' => e = .returned (.string s) ∧ Below w.heap.size w w' := Any.stringslite_Clone Try.laysM316 s w hlim
end Go.Proofs
namespace Go.Proofs.Ytkpbfocnokbmiaa
open Go Go.RowKit
set_option maxRecDepth 20000
set_option linter.unusedVariables false
/-- A cell that is given what it holds stays as it is. -/
theorem setCell_id {w : World} {g j : Nat} {v : Value} (h : w.cell? ⟨g, j, none⟩ = some v) : w.setCell ⟨g, j, none⟩ v = w := by
  unfold World.cell? at h
  rcases hg : w.heap[g]? with _ | o
  · simp [hg] at h
  · rcases o with ⟨cur, t, fr⟩ | _ | _ | _
    all_goals first
      | (simp [hg] at h; done)
      | (simp only [hg] at h
         have h2 : cur[j]? = some v := by simpa using h
         rw [setCell_eq_setRow w g j cur t fr v hg]
         have e : cur.setIfInBounds j v = cur := by
           apply Array.ext
           · simp
           · intro k h1 h3
             rw [Array.getElem_setIfInBounds]
             split
             · rename_i hk
               subst hk
               have := (Array.getElem?_eq_some_iff.1 h2).2
               exact this.symm
             · rfl
         rw [e]
         exact setRow_self w g cur t fr hg)
theorem rclone_any (s : ByteArray) (w : World) (h : s.size ≤ 1048576) :
    Calls Try.prog 77 #[.string s] w fun r w' => r = .returned (.string s) ∧ Below w.heap.size w w' := by
  go_enter Try.func77, Try.ntmps77
  go_wp2_with fail
  refine (Try.stringslite_Clone s _ (by omega)).mono ?_
  rintro r w' ⟨rfl, hb⟩
  go_wp2
  go_ret
  exact ⟨rfl, hb⟩
/-- What is so of the entry's texts while they are copied. -/
def TwoTexts (w0 : World) (g o4 o8 : Nat) (n p : ByteArray) (w' : World) : Prop :=
  Below w0.heap.size w0 w' ∧ w'.cell? ⟨g, o4, none⟩ = some (.string n) ∧ w'.cell? ⟨g, o8, none⟩ = some (.string p) ∧ w'.frozen? ⟨g, o4, none⟩ = false ∧ w'.frozen? ⟨g, o8, none⟩ = false
theorem TwoTexts.below {w0 w1 w2 : World} {g o4 o8 : Nat} {n p : ByteArray} (h : TwoTexts w0 g o4 o8 n p w1) (hb : Below w1.heap.size w1 w2) : TwoTexts w0 g o4 o8 n p w2 := by
  obtain ⟨h0, h1, h2, h3, h4⟩ := h
  have hg : g < w1.heap.size := World.block_lt_of_cell? w1 _ h1
  exact ⟨next h0 hb, (hb.cell (p := ⟨g, o4, none⟩) hg).trans h1, (hb.cell (p := ⟨g, o8, none⟩) hg).trans h2, (hb.frozen (p := ⟨g, o4, none⟩) hg).trans h3, (hb.frozen (p := ⟨g, o8, none⟩) hg).trans h4⟩
theorem TwoTexts.drew {w0 w1 : World} {g o4 o8 : Nat} {n p : ByteArray} (h : TwoTexts w0 g o4 o8 n p w1) : TwoTexts w0 g o4 o8 n p w1.drew := ⟨h.1.drew, h.2⟩
set_option maxHeartbeats 4000000 in
/-- The texts of an entry at a place that may be written are copied: it stays as it is. -/
theorem ownTexts_any (g O : Nat) (n p : ByteArray) (w : World) (c4 : w.cell? ⟨g, O + 4, none⟩ = some (.string n)) (c8 : w.cell? ⟨g, O + 8, none⟩ = some (.string p)) (f4 : w.frozen? ⟨g, O + 4, none⟩ = false) (f8 : w.frozen? ⟨g, O + 8, none⟩ = false) (hn : n.size ≤ 1048576) (hp : p.size ≤ 1048576) :
    Calls Try.prog 51 #[.pointer (some ⟨g, O, none⟩)] w fun r w' => r = .returned (.tuple #[]) ∧ Below w.heap.size w w' := by
  go_enter Try.func51, Try.ntmps51
  go_upto_region 1 with (fail)
  refine wp_region_seq (TwoTexts w g (O + 4) (O + 8) n p) [(0, true), (1, true), (2, true), (3, true), (4, true), (5, true), (7, true), (8, true), (9, true), (10, true), (6, false), (11, false), (12, true), (13, true), (14, false), (15, true), (16, true), (17, false)] (by kernel_rfl) (by kernel_rfl) (fun _ _ _ _ _ h => h) (by kernel_rfl) (by decide) (show TwoTexts w g (O + 4) (O + 8) n p w.drew from TwoTexts.drew ⟨Below.refl _ _, c4, c8, f4, f8⟩) ?_
  intro hHeld
  repeat (first
    | (refine seq_skip (by simp only [List.getElem?_toArray, List.getElem?_cons_succ, List.getElem?_cons_zero]; first | done | rfl) (by rfl) ?_; (try simp only [Act.put, List.setIfInBounds_toArray, List.set_cons_zero, List.set_cons_succ]))
    | (refine seq_reads (by simp only [List.getElem?_toArray, List.getElem?_cons_succ, List.getElem?_cons_zero]; first | done | rfl) (by rfl) ?_; apply Exists.intro; apply And.intro; (focus (intro w hSw; obtain ⟨hbS, q4, q8, z4, z8⟩ := hSw; go_simp; (try with_reducible rfl); done)); (try simp only [Act.put, List.setIfInBounds_toArray, List.set_cons_zero, List.set_cons_succ]))
    | (refine seq_pass (by simp only [List.getElem?_toArray, List.getElem?_cons_succ, List.getElem?_cons_zero]; first | done | rfl) (by rfl) hHeld ?_; clear hHeld; intro hHeld; (try simp only [Act.put, List.setIfInBounds_toArray, List.set_cons_zero, List.set_cons_succ]))
    | (refine seq_call (by simp only [List.getElem?_toArray, List.getElem?_cons_succ, List.getElem?_cons_zero]; first | done | rfl) (by rfl) (fun K hK => ?_); go_simp; go_at_call 77; refine (rclone_any n _ hn).mono ?_; rintro r w1 ⟨rfl, b1⟩; go_simp; refine hK.out _ _ (hHeld.below b1) ?_; clear hK hHeld; intro hHeld; (try simp only [Act.put, List.setIfInBounds_toArray, List.set_cons_zero, List.set_cons_succ]))
    | (refine seq_call (by simp only [List.getElem?_toArray, List.getElem?_cons_succ, List.getElem?_cons_zero]; first | done | rfl) (by rfl) (fun K hK => ?_); go_simp; go_at_call 77; refine (rclone_any p _ hp).mono ?_; rintro r w1 ⟨rfl, b1⟩; go_simp; refine hK.out _ _ (hHeld.below b1) ?_; clear hK hHeld; intro hHeld; (try simp only [Act.put, List.setIfInBounds_toArray, List.set_cons_zero, List.set_cons_succ]))
    | (refine seq_call (by simp only [List.getElem?_toArray, List.getElem?_cons_succ, List.getElem?_cons_zero]; first | done | rfl) (by rfl) (fun K hK => ?_); obtain ⟨hbS, q4, q8, z4, z8⟩ := id hHeld; go_simp; refine hK.out _ _ (by rw [setCell_id (by assumption)]; exact hHeld) ?_; clear hK hHeld; intro hHeld; (try simp only [Act.put, List.setIfInBounds_toArray, List.set_cons_zero, List.set_cons_succ])))
  refine seq_end ?_
  have HB := Lib.hid hHeld.1
  clear hHeld
  go_wp2
  refine bodyPost_end (results_none rfl _ _ _) rfl ?_
  exact ⟨rfl, HB.out⟩
/-- copy of a list of records over a row of its length, of one's own. -/
theorem run_copy_rows {P : Program} (w : World) (dT sT ty elem : TypeId) (k g dLen dCap : Nat) (a : Addr) (sLen sCap : Nat) (cur : Array Value) (t : TypeId) (cs : List Value)
    (hu : P.underlying dT = some (.slice elem)) (hs : (P.info? elem).map (·.size) = some k)
    (hg : w.heap[g]? = some (.cells cur t (0, 0))) (hn : cs.length = Nat.min sLen dLen * k)
    (hsrc : ∀ j v, cs[j]? = some v → w.cell? (a.add j) = some v) (hfit : 0 + cs.length ≤ cur.size) (h1 : ∀ v ∈ cs, v.oneCell' = true) :
    (Builtin.copy_ #[dT, sT] ty #[.slice (some ⟨g, 0, none⟩) dLen dCap, .slice (some a) sLen sCap]).run P w =
      .ok (goInt (Nat.min sLen dLen)) (w.setRow g (cur.toList.take 0 ++ cs ++ cur.toList.drop (0 + cs.length)).toArray) := by
  have hl := run_loadCells_list (P := P) w a cs hsrc
  have hst := run_storeCells_at P g 0 t cs 0 cur w hg (by simpa using hfit) h1
  cases hq : P.info? elem with
  | none => simp [hq] at hs
  | some i =>
    have hi : i.size = k := by simpa [hq] using hs
    simp [Builtin.copy_, run_underlying hu, Builtin.lenOf, Builtin.firstCells, sizeOf, typeInfo, hq, hi, ← hn, hl, hst]
theorem run_copy_rows_none {P : Program} (w : World) (dT sT ty elem : TypeId) (k : Nat) (d a : Option Addr) (dLen dCap sLen sCap : Nat) (hu : P.underlying dT = some (.slice elem)) (hs : (P.info? elem).map (·.size) = some k) (hn : Nat.min sLen dLen = 0) :
    (Builtin.copy_ #[dT, sT] ty #[.slice d dLen dCap, .slice a sLen sCap]).run P w = .ok (goInt 0) w := by
  cases hq : P.info? elem with
  | none => simp [hq] at hs
  | some i =>
    have hl : ∀ (x : Addr), (loadCells x 0).run P w = .ok #[] w := fun x => by simpa using run_loadCells_list (P := P) w x [] (by simp)
    cases d <;> cases a <;> simp [Builtin.copy_, run_underlying hu, Builtin.lenOf, Builtin.firstCells, sizeOf, typeInfo, hq, hn, storeCells, hl]
theorem wpList_copy_flat {α : Type} {enc : α → List Value} {k : Nat} {P : Program} {w : World} {ops : Array Oper} {rest : List Oper} {o : Oper} {a : Act} {Q : Exit → Act → World → Prop} (hgd : o.guard = none) (d s : Operand) (dT sT : TypeId)
    (ho : o.op = .call { callee := .builtin .copy, args := #[d, s], argTypes := #[dT, sT] }) (e : TypeId) (hu : P.underlying dT = some (.slice e)) (hsz : (P.info? e).map (·.size) = some k)
    (hk : ∀ x, (enc x).length = k) (hk0 : 0 < k) (base g : Nat) (l : List α) (A : Option Addr) (c : Nat) (zs : List Value)
    (hd : a.eval d = .slice (some ⟨g, 0, none⟩) l.length l.length) (hs : a.eval s = .slice A l.length c)
    (hown : w.ownsRow base e k (.slice (some ⟨g, 0, none⟩) l.length l.length) l.length zs) (hfl : Flat enc k w A l) (h1 : ∀ u ∈ cellsOf enc l, u.oneCell' = true)
    (h : ∀ w', w'.ownsRow base e k (.slice (some ⟨g, 0, none⟩) l.length l.length) l.length (cellsOf enc l) → Below base w w' → wpList P ops Q rest (a.put o.dst (goInt l.length)) w') : wpList P ops Q (o :: rest) a w := by
  refine wpList_plain hgd fun K hK => ?_
  obtain ⟨hzl, ⟨hz, _⟩ | ⟨g', cap, cur, hv, hbg, hhg, hnc, hcm, hcs, htk⟩⟩ := hown
  · cases hz
  simp only [Value.slice.injEq, Option.some.injEq, Addr.mk.injEq, and_true, true_and] at hv
  obtain ⟨rfl, rfl⟩ := hv
  by_cases h0 : l.length = 0
  · obtain rfl : l = [] := List.eq_nil_of_length_eq_zero h0
    have hrun := run_copy_rows_none (P := P) w dT sT o.type e k (some ⟨g, 0, none⟩) A 0 0 0 c hu hsz (by simp)
    unfold Oper.wp
    simp only [List.length_nil] at hd hs
    simp [execOp, ho, resolve, invoke, builtin, hd, hs, hrun, Result.andThen]
    refine hK _ _ (h w ⟨by simp [cellsOf], .inr ⟨g, 0, cur, rfl, hbg, hhg, by simp, by simp, by simpa using hcs, by simp [cellsOf]⟩⟩ ⟨rfl, rfl, rfl, Nat.le_refl _, fun _ _ => rfl⟩)
  · rcases A with _ | ad
    · exact absurd (by rw [flat_none hfl]; rfl) h0
    have hmin : Nat.min l.length l.length = l.length := Nat.min_self _
    have hlen := cellsOf_len hk l
    have hrun := run_copy_rows (P := P) w dT sT o.type e k g l.length l.length ad l.length c cur e (cellsOf enc l) hu hsz hhg (by rw [hmin, hlen]) (flat_news hk hk0 hfl) (by rw [hlen, hcs]; omega) h1
    unfold Oper.wp
    simp [execOp, ho, resolve, invoke, builtin, hd, hs, hrun, Result.andThen]
    have hdrop : cur.toList.drop (l.length * k) = [] := List.drop_of_length_le (by simp [hcs])
    refine hK _ _ (h _ ⟨hlen, .inr ⟨g, l.length, _, rfl, hbg, setRow_heap w g cur _ e _ hhg, Nat.le_refl _, hcm, ?_, ?_⟩⟩ (below_setRow ⟨rfl, rfl, rfl, Nat.le_refl _, fun _ _ => rfl⟩ hbg _))
    · simp [hlen, hdrop]
    · simp only [hlen, hdrop, List.append_nil]
      exact List.take_of_length_le (by omega)
theorem en_one (l : List M.En) : ∀ u ∈ cellsOf enL l, u.oneCell' = true := by
  intro u hu
  unfold cellsOf at hu
  rw [List.mem_flatMap] at hu
  obtain ⟨c, _, hc⟩ := hu
  simp at hc
  rcases hc with rfl | rfl | rfl | rfl | rfl | rfl | rfl | rfl | rfl | rfl <;> rfl
theorem infoEn1 : (Try.prog.info? 37).map (fun i => i.size) = some 10 := by kernel_rfl
set_option maxHeartbeats 2000000 in
theorem newEntries_any (A : Option Addr) (l : List M.En) (cap : Nat) (w : World) (hl : Ens w A l) (hlen : l.length ≤ 1048576) (hp : ∀ e ∈ l, enIn 1048576 e) :
    Calls Try.prog 53 #[.slice A l.length cap] w fun r w' => r = .returned (.slice (some ⟨w.heap.size, 0, none⟩) l.length l.length) ∧ EnsOwn w.heap.size w' (.slice (some ⟨w.heap.size, 0, none⟩) l.length l.length) l ∧ Below w.heap.size w w' := by
  obtain ⟨i0, hi, hz0, hz1, hz2⟩ := info_parts infoEns
  have HP := Lib.hid hp
  clear hp
  go_enter Try.func53, Try.ntmps53
  go_wp2_with (at_make; refine wpList_make_full _ rfl _ _ 24 rfl w.heap.size 37 i0 _ 10 Try.underlying24 hi hz0 hz1 .i64 .i64 _ _ l.length rfl rfl rfl rfl (by rw [hz2]; omega) (by unfold maxLen; omega) (Nat.le_refl _) ?_; intro w1 hown hgrow; refine stop_mk ?_)
  have b1 : Below w.heap.size w w1 := (Below.refl _ _).grown hgrow (Nat.le_refl _) (fun k hk => by cases hk)
  have HL := Lib.hid (hl.below b1)
  have HO := Lib.hid hown
  have HB := Lib.hid b1
  clear hl hown hgrow b1
  refine stop_un ?_
  go_wp2_with (with_reducible show wpList _ _ _ (⟨some 10, _, _, _, _, _⟩ :: _) _ _; refine stop_mk ?_)
  refine stop_un ?_
  refine wpList_copy_flat (enc := enL) (k := 10) rfl _ _ 24 24 rfl 37 Try.underlying24 infoEn1 enL_len (by decide) w.heap.size w.heap.size l A cap _ rfl rfl HO.out HL.out (en_one l) ?_
  intro w2 hown2 hb2
  have HO2 := Lib.hid hown2
  have HB2 := Lib.hid (HB.out.trans hb2)
  clear hown2 hb2 HO
  go_wp2
  go_loopw [13] (fun i wr => ∃ j : Nat, i = .int .i64 j ∧ j ≤ l.length ∧ EnsOwn w.heap.size wr (.slice (some ⟨w.heap.size, 0, none⟩) l.length l.length) l ∧ Below w.heap.size w wr) (fun i _ => l.length - (intOf i).toNat)
  case atStart => exact ⟨0, rfl, Nat.zero_le _, HO2.out, HB2.out⟩
  case round =>
    obtain ⟨j, rfl, hj, hown, hb⟩ := hrel
    by_cases hlt : j < l.length
    · obtain ⟨hn, hg⟩ : enIn 1048576 l[j] := HP.out l[j] (List.getElem_mem hlt)
      obtain ⟨b, o, hA, zb, c0, c1, c2, c3, c4, c5, c6, c7, c8, c9⟩ := Ens_at (own_atEns hown) hlt
      obtain ⟨rfl, rfl⟩ : w.heap.size = b ∧ 0 = o := by simpa using hA
      have f4 := hown.frozenAt (0 + j * 10 + 4)
      have f8 := hown.frozenAt (0 + j * 10 + 8)
      have HOW := Lib.hid hown
      have hcall := ownTexts_any w.heap.size (0 + j * 10) l[j].order.deed.name l[j].order.deed.page wr c4 c8 f4 f8 hn hg
      have HC := Lib.hid hcall
      clear hown c0 c1 c2 c3 c4 c5 c6 c7 c8 c9 f4 f8 hA hcall
      go_wp2_with fail
      have hcall := HC.out
      simp only [Nat.zero_add] at hcall
      refine hcall.mono ?_
      rintro r w3 ⟨rfl, b3⟩
      have HOW3 := Lib.hid (Own.below HOW.out b3)
      clear hcall
      go_wp2
      go_roundw
      case rel => exact ⟨j + 1, by go_num, by omega, HOW3.out, next hb b3⟩
      case measure => simp [intOf]; omega
    · have hj' : j = l.length := by omega
      subst hj'
      have HOW := Lib.hid hown
      clear hown
      go_wp2
      go_ret
      exact ⟨rfl, HOW.out, hb⟩
end Go.Proofs.Ytkpbfocnokbmiaa
