/- Proved, in parts: Proved: the program's ShowShelf answers the shelf's text; it writes nothing that was there. Condition: texts and lists of at most a million. -/
import Derived.Test.YtdcdalbbjfjadaaGreatDoorPart36
import Derived.Test.YtdcdalbbjfjadaaGreatDoorPart08
import Derived.Test.YtdcdalbbjfjadaaGreatDoorPart37
import Derived.Test.YtdcdalbbjfjadaaGreatDoorPart07
import Derived.Test.YtdcdalbbjfjadaaGreatDoorPart01
namespace Go.Proofs.YtdcdalbbjfjadaaGreatDoor
open Go.RowKit
set_option maxRecDepth 20000

theorem ba_size (l : List UInt8) : (⟨l.toArray⟩ : ByteArray).size = l.length := by simp [ByteArray.size]
theorem one_size (b : UInt8) : (⟨#[b]⟩ : ByteArray).size = 1 := rfl
theorem numWord_any (x : Int) (h0 : 0 ≤ x) (h1 : x ≤ 99) (w : World) : Calls Tryz.prog 75 #[.int .i64 x] w fun r w' => r = .returned (.string ⟨(M.intText x).toArray⟩) ∧ Below w.heap.size w w' := by
  go_enter Tryz.func75, Tryz.ntmps75
  go_wp2_with fail
  refine (formatInt_small x h0 h1 _).mono ?_
  rintro r w' ⟨rfl, rfl⟩
  go_wp2
  go_ret
  exact ⟨rfl, Below.refl _ _⟩
theorem heap_new (w : World) (o : Obj) : (w.alloc o).heap[w.heap.size]? = some o := by
  rw [show (w.alloc o).heap = w.heap.push o from rfl]; simp
theorem ret_text {a : ByteArray} {l : List UInt8} (h : a.data.toList = l) : Ending.returned (.string a) = .returned (strOf l) := by
  unfold strOf
  rw [ba_ext (a := a) (b := ⟨l.toArray⟩) (by simpa using h)]
theorem str_text {a : ByteArray} {l : List UInt8} (h : a.data.toList = l) : Value.string a = strOf l := by
  unfold strOf
  rw [ba_ext (a := a) (b := ⟨l.toArray⟩) (by simpa using h)]

set_option maxHeartbeats 1000000 in
theorem copyWord_any (c : M.Cp) (w : World) (hk : M.cpOk c = true) :
    Calls Tryz.prog 76 #[cpV c] w fun r w' => r = .returned (strOf (M.cpText c)) ∧ Below w.heap.size w w' := by
  have he : M.edOk c.ed = true := by simp only [M.cpOk, Bool.and_eq_true] at hk; exact hk.1
  have hpl : c.page.size ≤ 12 := by
    simp only [M.cpOk, Bool.and_eq_true, M.pageOk, decide_eq_true_eq] at hk
    have := hk.2.1
    simpa using this
  have hel := M.edText_len c.ed he
  have hshow : ∀ y, Calls Tryz.prog 101 #[edV c.ed] y fun r w' => r = .returned (.string ⟨(M.edText c.ed).toArray⟩) ∧ Below y.heap.size y w' := fun y => by
    have h := implShowEdition c.ed y
    unfold strOf M.edShow at h
    rw [if_pos he] at h
    exact h
  obtain ⟨t1, hs1, ht1, k1⟩ := cat_ex Tryz.prog ⟨(M.edText c.ed).toArray⟩ ⟨#[61]⟩ (by rw [ba_size, one_size]; omega)
  have hz1 : t1.size ≤ 63 := by rw [hs1, ba_size, one_size]; omega
  obtain ⟨t2, hs2, ht2, k2⟩ := cat_ex Tryz.prog t1 c.page (by omega)
  have hz2 : t2.size ≤ 75 := by omega
  obtain ⟨t3, hs3, ht3, k3⟩ := cat_ex Tryz.prog t2 ⟨#[42]⟩ (by rw [one_size]; omega)
  have T2 : t2.data.toList = M.edText c.ed ++ ([61] ++ c.page.data.toList) := by rw [ht2, ht1]; simp
  have T3 : t3.data.toList = M.edText c.ed ++ ([61] ++ (c.page.data.toList ++ [42])) := by rw [ht3, T2]; simp
  have HT2 := Lib.hid T2
  have HT3 := Lib.hid T3
  clear T2 T3 ht1 ht2 ht3 hs1 hs2 hs3 hz1 hz2 hel hpl he
  have b0 := (Below.refl w.heap.size w).alloc (Nat.le_refl _) (.cells #[.int .i64 c.ed.ma, .int .i64 c.ed.mi, .int .i64 c.ed.pa, .string c.page, .bool c.hidden] 71)
  have hH := holds_new w #[.int .i64 c.ed.ma, .int .i64 c.ed.mi, .int .i64 c.ed.pa, .string c.page, .bool c.hidden] 71
  rcases hh : c.hidden with _ | _
  · rw [hh] at b0 hH
    have HE : Hid (M.cpText c = M.edText c.ed ++ ([61] ++ c.page.data.toList)) := Lib.hid (by simp [M.cpText, hh])
    go_enter Tryz.func76, Tryz.ntmps76
    go_wp2_with fail
    generalize w.alloc (.cells #[.int .i64 c.ed.ma, .int .i64 c.ed.mi, .int .i64 c.ed.pa, .string c.page, .bool false] 71) = W at b0 hH ⊢
    obtain ⟨p0, p1, p2, p3, p4⟩ := hH.five
    have pl := hH.1
    refine wp_region_seq (fun w' => Below W.heap.size W w') [(0, true), (1, true), (4, true), (5, true), (2, false), (3, true), (6, true), (7, true)] (by kernel_rfl) (by kernel_rfl) (fun _ _ _ _ _ h => h) (by kernel_rfl) (by decide) (Below.refl _ _).drew ?_
    intro hHeld
    repeat (first
      | (refine seq_skip (by simp only [List.getElem?_toArray, List.getElem?_cons_succ, List.getElem?_cons_zero]; first | done | rfl) (by rfl) ?_; (try simp only [Act.put, List.setIfInBounds_toArray, List.set_cons_zero, List.set_cons_succ]))
      | (refine seq_reads (by simp only [List.getElem?_toArray, List.getElem?_cons_succ, List.getElem?_cons_zero]; first | done | rfl) (by rfl) ?_; apply Exists.intro; apply And.intro; (focus (intro w hSw; obtain ⟨hcS, -⟩ := bcell hSw; go_simp; (try with_reducible rfl); done)); (try simp only [Act.put, List.setIfInBounds_toArray, List.set_cons_zero, List.set_cons_succ]))
      | (refine seq_pass (by simp only [List.getElem?_toArray, List.getElem?_cons_succ, List.getElem?_cons_zero]; first | done | rfl) (by rfl) hHeld ?_; clear hHeld; intro hHeld; (try simp only [Act.put, List.setIfInBounds_toArray, List.set_cons_zero, List.set_cons_succ]))
      | (refine seq_call (by simp only [List.getElem?_toArray, List.getElem?_cons_succ, List.getElem?_cons_zero]; first | done | rfl) (by rfl) (fun K hK => ?_); go_simp; go_at_call 101; refine (hshow _).mono ?_; rintro r w1 ⟨rfl, b1⟩; go_simp; refine hK.out _ _ (next hHeld b1) ?_; clear hK hHeld; intro hHeld; (try simp only [Act.put, List.setIfInBounds_toArray, List.set_cons_zero, List.set_cons_succ])))
    refine seq_end ?_
    obtain ⟨bc, -⟩ := bcell hHeld
    replace b0 := next b0 hHeld
    go_wp2
    go_ret
    exact ⟨ret_text (by rw [HE.out]; exact HT2.out), b0⟩
  · rw [hh] at b0 hH
    have HE : Hid (M.cpText c = M.edText c.ed ++ ([61] ++ (c.page.data.toList ++ [42]))) := Lib.hid (by simp [M.cpText, hh])
    go_enter Tryz.func76, Tryz.ntmps76
    go_wp2_with fail
    generalize w.alloc (.cells #[.int .i64 c.ed.ma, .int .i64 c.ed.mi, .int .i64 c.ed.pa, .string c.page, .bool true] 71) = W at b0 hH ⊢
    obtain ⟨p0, p1, p2, p3, p4⟩ := hH.five
    have pl := hH.1
    refine wp_region_seq (fun w' => Below W.heap.size W w') [(0, true), (1, true), (4, true), (5, true), (2, false), (3, true), (6, true), (7, true)] (by kernel_rfl) (by kernel_rfl) (fun _ _ _ _ _ h => h) (by kernel_rfl) (by decide) (Below.refl _ _).drew ?_
    intro hHeld
    repeat (first
      | (refine seq_skip (by simp only [List.getElem?_toArray, List.getElem?_cons_succ, List.getElem?_cons_zero]; first | done | rfl) (by rfl) ?_; (try simp only [Act.put, List.setIfInBounds_toArray, List.set_cons_zero, List.set_cons_succ]))
      | (refine seq_reads (by simp only [List.getElem?_toArray, List.getElem?_cons_succ, List.getElem?_cons_zero]; first | done | rfl) (by rfl) ?_; apply Exists.intro; apply And.intro; (focus (intro w hSw; obtain ⟨hcS, -⟩ := bcell hSw; go_simp; (try with_reducible rfl); done)); (try simp only [Act.put, List.setIfInBounds_toArray, List.set_cons_zero, List.set_cons_succ]))
      | (refine seq_pass (by simp only [List.getElem?_toArray, List.getElem?_cons_succ, List.getElem?_cons_zero]; first | done | rfl) (by rfl) hHeld ?_; clear hHeld; intro hHeld; (try simp only [Act.put, List.setIfInBounds_toArray, List.set_cons_zero, List.set_cons_succ]))
      | (refine seq_call (by simp only [List.getElem?_toArray, List.getElem?_cons_succ, List.getElem?_cons_zero]; first | done | rfl) (by rfl) (fun K hK => ?_); go_simp; go_at_call 101; refine (hshow _).mono ?_; rintro r w1 ⟨rfl, b1⟩; go_simp; refine hK.out _ _ (next hHeld b1) ?_; clear hK hHeld; intro hHeld; (try simp only [Act.put, List.setIfInBounds_toArray, List.set_cons_zero, List.set_cons_succ])))
    refine seq_end ?_
    obtain ⟨bc, -⟩ := bcell hHeld
    replace b0 := next b0 hHeld
    go_wp2
    go_ret
    exact ⟨ret_text (by rw [HE.out]; exact HT3.out), b0⟩

/-- strings.Join of a row of texts. -/
theorem joinRow {B g n c : Nat} {ls : List (List UInt8)} {sep : ByteArray} {w : World} (h : StrRow B w (.slice (some ⟨g, 0, none⟩) n c) ls) (hlen : (Lib.join ls sep.data.toList).length ≤ 1000000) (hl : ls.length ≤ 1000000) :
    Calls Tryz.prog 39 #[.slice (some ⟨g, 0, none⟩) n c, .string sep] w fun e w' => e = .returned (strOf (Lib.join ls sep.data.toList)) ∧ Below w.heap.size w w' := by
  have hmap : (ls.map fun l => (⟨l.toArray⟩ : ByteArray)).map (·.data.toList) = ls := by
    rw [List.map_map]
    conv => rhs; rw [← List.map_id ls]
    exact List.map_congr_left fun l _ => by simp
  obtain ⟨hl0, h0 | ⟨g', cap, cur, hv, hB, hg, hcap, hrest⟩⟩ := h
  · cases h0.1
  · injection hv with hA hn hc
    injection hA with hA
    injection hA with hA _ _
    subst hA hn hc
    have hrow : StrRow B w (.slice (some ⟨g, 0, none⟩) ls.length c) ls := ⟨hl0, .inr ⟨g, c, cur, rfl, hB, hg, hcap, hrest⟩⟩
    have hj := Tryz.strings_Join g 0 c (ls.map fun l => ⟨l.toArray⟩) sep w (fun j x hx => by
      have hj : j < ls.length := by
        rcases Nat.lt_or_ge j ls.length with h' | h'
        · exact h'
        · rw [List.getElem?_eq_none (by simpa using h')] at hx; cases hx
      rw [List.getElem?_map, List.getElem?_eq_getElem hj] at hx
      simp only [Option.map_some, Option.some.injEq] at hx
      subst hx
      have := World.ownsRow.cellAt hrow j (by omega)
      rw [Nat.zero_add, this]
      simp [hj, strOf]) (Array.getElem?_eq_some_iff.1 hg).1 (by simp; omega) (by simpa using hcap) (by rw [hmap]; omega)
    rw [hmap, List.length_map] at hj
    exact hj
theorem strRow_add {B : Nat} {w : World} {v : Value} {P : List (List UInt8)} {s : ByteArray} {x : List UInt8} (h : w.ownsRow B 9 1 v (P.length + 1) (P.map strOf ++ [.string s])) (hx : s.data.toList = x) : StrRow B w v (P ++ [x]) := by
  unfold StrRow
  rw [List.length_append, List.length_singleton, List.map_append, List.map_singleton, ← str_text hx]
  exact h

set_option maxHeartbeats 2000000 in
theorem workWord_any (name : ByteArray) (owner : Int) (A : Option Addr) (l : List M.Cp) (cap : Nat) (w : World) (hl : Cps w A l) (hk : M.wkOk ⟨name, owner, l⟩ = true) :
    Calls Tryz.prog 38 #[wkV name owner A l.length cap] w fun e w' => e = .returned (strOf (M.wkText ⟨name, owner, l⟩)) ∧ Below w.heap.size w w' := by
  obtain ⟨i0, hi, hz0, hz1, hz2⟩ := info_parts Tryz.infoStr
  have ho := M.wkOk_owner hk
  have hnl : name.size ≤ 8 := by have := M.wkOk_name hk; simpa using this
  have hcl : l.length ≤ 8 := M.wkOk_len hk
  have HCP : Hid (∀ c ∈ l, M.cpOk c = true) := Lib.hid (M.wkOk_cp hk)
  have HTL : Hid ((M.wkText ⟨name, owner, l⟩).length ≤ 1000000) := Lib.hid (Nat.le_trans (M.wkText_len hk) (by omega))
  have hil := M.intText_length owner
  simp only at ho
  obtain ⟨t1, hs1, ht1, k1⟩ := cat_ex Tryz.prog name ⟨#[64]⟩ (by rw [one_size]; omega)
  have hz1t : t1.size ≤ 9 := by rw [hs1, one_size]; omega
  obtain ⟨t2, hs2, ht2, k2⟩ := cat_ex Tryz.prog t1 ⟨(M.intText owner).toArray⟩ (by rw [ba_size (M.intText owner)]; omega)
  have HT2 : Hid (t2.data.toList = M.wkHead ⟨name, owner, l⟩) := Lib.hid (by rw [ht2, ht1]; simp [M.wkHead])
  clear hs1 hs2 ht1 ht2 hil hk hnl hz1t
  have b0 := (Below.refl w.heap.size w).alloc (Nat.le_refl _) (.cells (wkL name owner A l.length cap) 39)
  have hH := holds_new w (wkL name owner A l.length cap) 39
  have HL := Lib.hid hl
  clear hl
  go_enter Tryz.func38, Tryz.ntmps38
  go_wp2_with fail
  generalize w.alloc (.cells #[.string name, .int .i64 owner, .slice A l.length cap] 39) = W at b0 hH ⊢
  obtain ⟨p0, p1, p2⟩ := hH.three
  have pl := hH.1
  refine wp_region_seq (fun w' => Below W.heap.size W w') [(0, true), (1, true), (2, true), (3, true), (4, true), (5, false), (6, true), (7, false), (8, true)] (by kernel_rfl) (by kernel_rfl) (fun _ _ _ _ _ h => h) (by kernel_rfl) (by decide) (Below.refl _ _).drew ?_
  intro hHeld
  repeat (first
    | (refine seq_skip (by simp only [List.getElem?_toArray, List.getElem?_cons_succ, List.getElem?_cons_zero]; first | done | rfl) (by rfl) ?_; (try simp only [Act.put, List.setIfInBounds_toArray, List.set_cons_zero, List.set_cons_succ]))
    | (refine seq_reads (by simp only [List.getElem?_toArray, List.getElem?_cons_succ, List.getElem?_cons_zero]; first | done | rfl) (by rfl) ?_; apply Exists.intro; apply And.intro; (focus (intro w hSw; obtain ⟨hcS, -⟩ := bcell hSw; go_simp; (try with_reducible rfl); done)); (try simp only [Act.put, List.setIfInBounds_toArray, List.set_cons_zero, List.set_cons_succ]))
    | (refine seq_pass (by simp only [List.getElem?_toArray, List.getElem?_cons_succ, List.getElem?_cons_zero]; first | done | rfl) (by rfl) hHeld ?_; clear hHeld; intro hHeld; (try simp only [Act.put, List.setIfInBounds_toArray, List.set_cons_zero, List.set_cons_succ]))
    | (refine seq_call (by simp only [List.getElem?_toArray, List.getElem?_cons_succ, List.getElem?_cons_zero]; first | done | rfl) (by rfl) (fun K hK => ?_); go_simp; go_at_call 75; refine (numWord_any owner ho.1 (by omega) _).mono ?_; rintro r w1 ⟨rfl, b1⟩; go_simp; refine hK.out _ _ (next hHeld b1) ?_; clear hK hHeld; intro hHeld; (try simp only [Act.put, List.setIfInBounds_toArray, List.set_cons_zero, List.set_cons_succ]))
    | (refine seq_call (by simp only [List.getElem?_toArray, List.getElem?_cons_succ, List.getElem?_cons_zero]; first | done | rfl) (by rfl) (fun K hK => ?_); go_simp; refine hK.out _ _ (hHeld.alloc hHeld.size _) ?_; clear hK; (have HW := Lib.hid hHeld); clear hHeld; intro hHeld; (try simp only [Act.put, List.setIfInBounds_toArray, List.set_cons_zero, List.set_cons_succ])))
  refine seq_end ?_
  replace b0 := next b0 hHeld
  have hrow : StrRow w.heap.size (w1.alloc (.cells #[.string t2] 9)) (.slice (some ⟨w1.heap.size, 0, none⟩) 1 1) [M.wkHead ⟨name, owner, l⟩] := by
    unfold StrRow
    rw [List.map_singleton, ← str_text HT2.out]
    exact ⟨rfl, .inr ⟨w1.heap.size, 1, #[.string t2], rfl, by have := HW.out.size; omega, heap_new w1 _, Nat.le_refl _, by unfold maxLen; omega, rfl, rfl⟩⟩
  obtain ⟨q0, q1, q2⟩ := (hH.below hHeld).three
  have HROW := Lib.hid hrow
  clear hrow hH p0 p1 p2 pl HW hHeld k1 k2 b1
  go_wp2
  go_loopw [3, 17] (fun v i wr => ∃ j : Nat, i = .int .i64 j ∧ j ≤ l.length ∧ StrRow w.heap.size wr v (M.wkHead ⟨name, owner, l⟩ :: (l.take j).map M.cpText) ∧ Below w.heap.size w wr) (fun _ i _ => l.length - (intOf i).toNat)
  case atStart => exact ⟨0, rfl, Nat.zero_le _, HROW.out, b0⟩
  case round =>
    clear HROW b0 q0 q1 q2
    obtain ⟨j, rfl, hj, hrow, hb⟩ := hrel
    by_cases hlt : j < l.length
    · obtain ⟨b, o, hA, lb, c0, c1, c2, c3, c4⟩ := Cps_at (HL.out.below hb) hlt
      have hok := HCP.out _ (List.getElem_mem hlt)
      have HROW := Lib.hid hrow
      clear hrow
      subst hA
      go_wp2_with fail
      refine (copyWord_any l[j] _ hok).mono ?_
      rintro e y ⟨he, by1⟩
      obtain rfl : e = .returned (.string ⟨(M.cpText l[j]).toArray⟩) := he
      have hy := next (hb.alloc hb.size _) by1
      have hry := Own.below (Own.below HROW.out ((Below.refl _ _).alloc (Nat.le_refl _) _)) by1
      have hPl : (M.wkHead ⟨name, owner, l⟩ :: (l.take j).map M.cpText).length ≤ 9 := by simp only [List.length_cons, List.length_map, List.length_take]; omega
      clear by1
      go_wp2_with (at_builtin; refine wpList_append_own _ rfl _ _ 66 rfl w.heap.size 9 i0 (.string ⟨#[]⟩) 1 16 Tryz.underlying66 hi hz0 hz1 hz2 rfl (by decide) _ _ _ rfl (hry.alloc _) ⟨y.heap.size, 0, none⟩ 1 1 [.string ⟨(M.cpText l[j]).toArray⟩] rfl rfl (cell_one_new _ _ _) (by simp [Value.oneCell']) (by unfold maxLen; omega) (by omega) (by have := hy.size; simp; omega) ?_; intro v' w2 hown' hgrow _)
      go_roundw
      case rel =>
        refine ⟨j + 1, by go_num, by omega, ?_, below_grow hy hry hgrow⟩
        have e1 : M.wkHead ⟨name, owner, l⟩ :: (l.take (j + 1)).map M.cpText = (M.wkHead ⟨name, owner, l⟩ :: (l.take j).map M.cpText) ++ [M.cpText l[j]] := by
          rw [List.take_succ_eq_append_getElem hlt, List.map_append]; rfl
        rw [e1]
        unfold StrRow
        rw [List.length_append, List.length_singleton, List.map_append, List.map_singleton]
        exact hown'
      case measure => simp [intOf]; omega
    · have hj' : j = l.length := by omega
      have e1 : M.wkHead ⟨name, owner, l⟩ :: (l.take j).map M.cpText = M.wkWords ⟨name, owner, l⟩ := by rw [hj', List.take_length]; rfl
      rw [e1] at hrow
      obtain ⟨g, cc, hv, -, -, -⟩ := hrow.open (by simp [M.wkWords])
      subst hv
      have HROW := Lib.hid hrow
      clear hrow
      go_wp2_with fail
      refine (joinRow (sep := ⟨#[32]⟩) HROW.out HTL.out (by simp [M.wkWords]; omega)).mono ?_
      rintro e y ⟨rfl, by1⟩
      go_wp2
      go_ret
      exact ⟨rfl, next hb by1⟩

abbrev txts (l : List Wr) : List (List UInt8) := l.map fun r => M.wkText r.wk
theorem own_put1 {w : World} {base e g n cap j : Nat} {xs ys : List Value} {f a : Value} (h : w.ownsRow base e 1 (.slice (some ⟨g, 0, none⟩) n cap) n (xs ++ a :: ys)) (hj : j = xs.length) :
    (w.setCell ⟨g, j, none⟩ f).ownsRow base e 1 (.slice (some ⟨g, 0, none⟩) n cap) n (xs ++ f :: ys) := by
  have := (h.stored j f).1
  subst hj
  rw [show (xs ++ a :: ys).set xs.length f = xs ++ f :: ys by simp] at this
  exact this
theorem own_cell1 {w : World} {base e g n cap j : Nat} {xs ys : List Value} {a : Value} (h : w.ownsRow base e 1 (.slice (some ⟨g, 0, none⟩) n cap) n (xs ++ a :: ys)) (hj : j = xs.length) :
    w.cell? ⟨g, j, none⟩ = some a ∧ w.frozen? ⟨g, j, none⟩ = false := by
  have hl := h.1
  simp at hl
  subst hj
  refine ⟨?_, h.frozenAt _⟩
  rw [h.cellAt _ (by omega)]; simp

set_option maxHeartbeats 2000000 in
theorem implShowShelf (A : Option Addr) (l : List Wr) (cap : Nat) (w : World) (hl : Wks w A l) (hlen : l.length ≤ 1048576) (hp : WrsIn 1048576 l) :
    Calls Tryz.prog 14 #[.slice A l.length cap] w fun e w' => e = .returned (strOf (M.sfShow (l.map Wr.wk))) ∧ Below w.heap.size w w' := by
  have HP := Lib.hid hp
  have HL := Lib.hid hl
  clear hp hl
  obtain ⟨i0, hi, hz0, hz1, hz2⟩ := info_parts Tryz.infoStr
  rcases hk : M.sfOk (l.map Wr.wk) with _ | _
  · have HE : Hid (M.sfShow (l.map Wr.wk) = []) := Lib.hid (by simp [M.sfShow, hk])
    have HK := Lib.hid hk
    clear hk
    go_enter Tryz.func14, Tryz.ntmps14
    go_wp2_with fail
    refine (implShelfOk A l cap _ HL.out hlen HP.out).mono ?_
    rintro e y ⟨rfl, by0⟩
    rw [HK.out]
    go_wp2
    go_ret
    exact ⟨ret_text (by rw [HE.out]), by0⟩
  · obtain ⟨hall, h5⟩ := M.sfOk_all hk
    have HE : Hid (M.sfShow (l.map Wr.wk) = M.sfText (l.map Wr.wk)) := Lib.hid (by simp [M.sfShow, hk])
    have HTL : Hid ((M.sfText (l.map Wr.wk)).length ≤ 1000000) := Lib.hid (Nat.le_trans (M.sfText_len hk) (by omega))
    have HA : Hid (∀ r ∈ l, M.wkOk r.wk = true) := Lib.hid (fun r hr => hall _ (List.mem_map_of_mem hr))
    have HK := Lib.hid hk
    clear hk hall
    simp only [List.length_map] at h5
    go_enter Tryz.func14, Tryz.ntmps14
    go_wp2_with fail
    refine (implShelfOk A l cap _ HL.out hlen HP.out).mono ?_
    rintro e y ⟨rfl, by0⟩
    rw [HK.out]
    have HY := Lib.hid (HL.out.below by0)
    go_wp2_with (refine wpList_make_full _ rfl _ _ 66 rfl y.heap.size 9 i0 _ 1 Tryz.underlying66 hi hz0 hz1 .i64 .i64 _ _ l.length rfl rfl rfl rfl (by rw [hz2]; omega) (by unfold maxLen; omega) (Nat.le_refl _) ?_; intro w1 hown hgrow)
    have b1 : Below y.heap.size y w1 := (Below.refl _ _).grown hgrow (Nat.le_refl _) (fun k hk => by cases hk)
    have HOW := Lib.hid hown
    clear hown hgrow
    go_loopw [14] (fun i wr => ∃ (j : Nat) (rest : List Value), i = .int .i64 j ∧ j ≤ l.length ∧ rest.length = l.length - j ∧ wr.ownsRow y.heap.size 9 1 (.slice (some ⟨y.heap.size, 0, none⟩) l.length l.length) l.length (((txts l).take j).map strOf ++ rest) ∧ Below y.heap.size y wr) (fun i _ => l.length - (intOf i).toNat)
    case atStart => exact ⟨0, _, rfl, Nat.zero_le _, by have := HOW.out.1; simpa using this, HOW.out, b1⟩
    case round =>
      clear HOW b1
      obtain ⟨j, rest, rfl, hj, hr, hown, hb⟩ := hrel
      by_cases hlt : j < l.length
      · obtain ⟨a, rs, hrs⟩ : ∃ a rs, rest = a :: rs := by
          cases rest with
          | nil => simp at hr; omega
          | cons a rs => exact ⟨a, rs, rfl⟩
        subst hrs
        have HZ : Hid (j = (((txts l).take j).map strOf).length) := Lib.hid (by simp; omega)
        obtain ⟨b, o, hA, lb, c0, c1, c2, hc⟩ := Wks_at (HY.out.below hb) hlt
        subst hA
        have hok := HA.out _ (List.getElem_mem hlt)
        have HO := Lib.hid hown
        have HC := Lib.hid hc
        have HR := Lib.hid hr
        clear hown hc hr
        go_wp2_with fail
        refine (workWord_any l[j].name l[j].owner l[j].ad l[j].cps l[j].cap _ (HC.out.alloc _) hok).mono ?_
        rintro e y2 ⟨he, by1⟩
        obtain rfl : e = .returned (.string ⟨(M.wkText l[j].wk).toArray⟩) := he
        have ho2 := Own.below (Own.below HO.out ((Below.refl _ _).alloc (Nat.le_refl _) _)) by1
        have hb2 := next (hb.alloc hb.size _) by1
        obtain ⟨k0, f0⟩ := own_cell1 ho2 HZ.out
        have HO2 := Lib.hid ho2
        clear ho2 by1
        go_wp2
        go_roundw
        case rel =>
          refine ⟨j + 1, rs, by go_num, by omega, by have := HR.out; simp at this; omega, ?_, hb2.setCell (Nat.le_refl _) _⟩
          have e1 : ((txts l).take (j + 1)).map strOf = ((txts l).take j).map strOf ++ [.string ⟨(M.wkText l[j].wk).toArray⟩] := by
            rw [List.take_succ_eq_append_getElem (by simpa using hlt), List.map_append, List.map_singleton]
            simp [strOf]
          rw [e1, List.append_assoc]
          exact own_put1 HO2.out HZ.out
        case measure => simp [intOf]; omega
      · have hj' : j = l.length := by omega
        have hr0 : rest = [] := List.length_eq_zero_iff.1 (by rw [hr]; omega)
        subst hr0
        rw [List.append_nil, List.take_of_length_le (by simp; omega)] at hown
        have HO : Hid (StrRow y.heap.size wr (.slice (some ⟨y.heap.size, 0, none⟩) l.length l.length) (txts l)) := Lib.hid (by
          unfold StrRow
          rw [show (txts l).length = l.length by simp]
          exact hown)
        have HT : Hid ((Lib.join (txts l) [47]).length ≤ 1000000) := Lib.hid (by
          have := HTL.out
          unfold M.sfText at this
          rw [List.map_map] at this
          exact this)
        clear hown hr
        go_wp2_with fail
        refine (joinRow (sep := ⟨#[47]⟩) HO.out HT.out (by simp; omega)).mono ?_
        rintro e y3 ⟨rfl, by3⟩
        go_wp2
        go_ret
        refine ⟨?_, next by0 (next hb by3)⟩
        rw [HE.out]
        unfold M.sfText
        rw [List.map_map]
        rfl
end Go.Proofs.YtdcdalbbjfjadaaGreatDoor
