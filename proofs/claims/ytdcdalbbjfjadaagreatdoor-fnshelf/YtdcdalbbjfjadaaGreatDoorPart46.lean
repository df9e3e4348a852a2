/- Proved, in parts: Proved: what the plain Lean functions of the deeds leave of a right shelf is a right shelf; a right shelf's names, pages and lists are short. No program is named here; no condition. Proved: what the model draws of shelves, right or not: a small list of works, in new memory; the cursor stands, and its block alone is written. No condition. Proved: facts on a memory in which a draw's own cursor and boxes stand; no program's function is named here; no condition. Proved: an argument that is a list of bytes can be read byte by byte, and the laws' own test of its length; no condition. -/
import Derived.Test.YtdcdalbbjfjadaaGreatDoorPart25
import Derived.Test.YtdcdalbbjfjadaaGreatDoorPart45
import Derived.Test.YtdcdalbbjfjadaaGreatDoorPart43
import Derived.Test.YtdcdalbbjfjadaaGreatDoorPart35
import Derived.Test.YtdcdalbbjfjadaaGreatDoorPart40
import Derived.ProofKit
import Derived.OpenShut
import Derived.Carry
namespace Go.Proofs.YtdcdalbbjfjadaaGreatDoor
open Go.RowKit
set_option maxRecDepth 20000
namespace M
def toWr (k : Wk) : Wr := ⟨k.name, k.owner, none, 0, k.copies⟩
theorem toWr_wk (k : Wk) : (toWr k).wk = k := rfl
theorem map_toWr (l : List Wk) : (l.map toWr).map Wr.wk = l := by
  rw [List.map_map]
  have : (Wr.wk ∘ toWr) = id := rfl
  rw [this, List.map_id]
end M
theorem risesN_of : ∀ {l : List Wr}, RiseW l → M.risesN (l.map Wr.wk) = true
  | [], _ => rfl
  | [a], _ => rfl
  | a :: b :: l, h => by
    obtain ⟨h1, h2⟩ := List.pairwise_cons.1 h
    have hab : M.nameLt a.name b.name = true := (before_name a.name b.name).symm.trans (h1 b (by simp))
    have ih := risesN_of (l := b :: l) h2
    show (M.nameLt a.name b.name && M.risesN ((b :: l).map Wr.wk)) = true
    rw [hab, ih]; rfl
namespace M
theorem putN_rises {l : List Wk} (h : risesN l = true) (w : Wk) : risesN (putN l w) = true := by
  have h1 : RiseW (l.map toWr) := rise_of (by rw [map_toWr]; exact h)
  have h2 := risesN_of (putW_rise (r := toWr w) h1)
  rw [putW_wk, map_toWr, toWr_wk] at h2
  exact h2
theorem putN_len_old {l : List Wk} {w y : Wk} (hy : y ∈ l) (hn : y.name = w.name) : (putN l w).length ≤ l.length := by
  unfold putN
  rw [insN_length]
  have : (l.filter fun x : Wk => !(x.name.data.toList == w.name.data.toList)).length < l.length := by
    have h1 := List.length_filter_lt_length_iff_exists (p := fun x : Wk => !(x.name.data.toList == w.name.data.toList)) (l := l)
    exact h1.2 ⟨y, hy, by simp [hn]⟩
  omega
theorem sfOk_iff (l : List Wk) : sfOk l = true ↔ l.length ≤ 5 ∧ (∀ x ∈ l, wkOk x = true) ∧ risesN l = true := by
  unfold sfOk
  simp only [Bool.and_eq_true, decide_eq_true_eq, List.all_eq_true]
theorem putN_ok {l : List Wk} {w : Wk} (h : sfOk l = true) (hw : wkOk w = true) (hlen : (putN l w).length ≤ 5) : sfOk (putN l w) = true := by
  obtain ⟨h1, h2, h3⟩ := (sfOk_iff l).1 h
  refine (sfOk_iff _).2 ⟨hlen, fun x hx => ?_, putN_rises h3 w⟩
  rcases insN_mem hx with rfl | hx
  · exact hw
  · exact h2 x (List.mem_filter.1 hx).1
theorem putN_old {l : List Wk} {n : ByteArray} {y w : Wk} (h : sfOk l = true) (hg : getN l n = some y) (hn : w.name = y.name) (hw : wkOk w = true) : sfOk (putN l w) = true :=
  putN_ok h hw (Nat.le_trans (putN_len_old (getN_mem hg) hn.symm) ((sfOk_iff l).1 h).1)
theorem wkOk_give {w : Wk} {o : Int} (h : wkOk w = true) (ho : inI o 0 3 = true) : wkOk { w with owner := o } = true := by
  simp only [wkOk, Bool.and_eq_true] at h ⊢
  exact ⟨⟨⟨h.1.1.1, ho⟩, h.1.2⟩, h.2⟩
theorem keepVeil {l : List Wk} {d : Dd} (h : sfOk l = true) (b : Bool) : sfOk (doVeil l d b).1 = true := by
  unfold doVeil
  split
  · exact h
  · rename_i w hw
    split
    · split
      · rename_i hp
        exact putN_old h hw (veiled_name hp) (veil_law hp).1
      · exact h
    · exact h
theorem keep_doAll {l : List Wk} {d : Dd} (h : sfOk l = true) : sfOk (doAll l d).1 = true := by
  unfold doAll
  split
  · rename_i hd
    split
    · rename_i hk
      unfold doClaim
      split
      · exact h
      · split
        · exact h
        · rename_i hf h5
          refine putN_ok h ?_ ?_
          · simp only [deedOk, Bool.and_eq_true] at hd
            simp only [wkOk, Bool.and_eq_true]
            exact ⟨⟨⟨hd.1.1.1.1.1, hd.1.1.2⟩, rfl⟩, rfl⟩
          · unfold putN
            rw [insN_length]
            have := List.length_filter_le (fun x : Wk => !(x.name.data.toList == d.name.data.toList)) l
            show (l.filter fun x : Wk => !(x.name.data.toList == d.name.data.toList)).length + 1 ≤ 5
            omega
    · split
      · unfold doPut
        split
        · exact h
        · rename_i w hw
          split
          · split
            · exact h
            · split
              · rename_i hp
                exact putN_old h hw (printed_name hp) (print_law hp).1
              · exact h
          · exact h
      · split
        · exact keepVeil h true
        · split
          · exact keepVeil h false
          · split
            · unfold doFetch
              split
              · exact h
              · split
                · split <;> exact h
                · exact h
            · unfold doGive
              split
              · rename_i ho
                split
                · exact h
                · rename_i w hw
                  split
                  · exact putN_old (w := { w with owner := d.ed.ma }) h hw rfl (wkOk_give (((sfOk_iff l).1 h).2.1 w (getN_mem hw)) ho)
                  · exact h
              · exact h
  · exact h
theorem keep_does (l : List Wk) (d : Dd) : sfOk (does l d).1 = true := by
  unfold does
  split
  · rename_i h
    show sfOk (if (doAll l d).2.1 = 0 then (doAll l d).1 else l) = true
    split
    · exact keep_doAll h
    · exact h
  · rfl
end M
theorem wrs_ok {l : List Wr} (h : M.sfOk (l.map Wr.wk) = true) : l.length ≤ 5 ∧ WrsIn 12 l := by
  obtain ⟨h1, h2, h3⟩ := (M.sfOk_iff _).1 h
  refine ⟨by simpa using h1, fun r hr => ?_⟩
  have hw := h2 r.wk (List.mem_map_of_mem hr)
  simp only [M.wkOk, M.cpsOk, M.nameOk, Bool.and_eq_true, decide_eq_true_eq, List.all_eq_true] at hw
  obtain ⟨⟨⟨hn, -⟩, hl⟩, hc, -⟩ := hw
  refine ⟨?_, Nat.le_trans hl (by decide), fun c hc' => ?_⟩
  · have h := hn.1
    rw [M.len_toList] at h
    exact Nat.le_trans h (by decide)
  · have h := hc c hc'
    simp only [M.cpOk, M.pageOk, Bool.and_eq_true, decide_eq_true_eq] at h
    have h := h.2.1
    rw [M.len_toList] at h
    exact h
end Go.Proofs.YtdcdalbbjfjadaaGreatDoor
namespace Go.Proofs.YtdcdalbbjfjadaaGreatDoor
open Go.RowKit
set_option maxRecDepth 20000
set_option linter.unusedVariables false
/-- A small shelf, right or not, in new memory; the cursor stands, and its block alone is written. -/
def SfOut (B g : Nat) (w : World) (r : Ending) (w' : World) : Prop :=
  ∃ (A : Option Addr) (c : Nat) (rs : List Wr), r = .returned (.slice A rs.length c) ∧ SfOwn w.heap.size w' (.slice A rs.length c) rs ∧ (rs.length ≤ 6 ∧ WrsIn 64 rs) ∧ Cur B w' g ∧ w.grownBy w' (some g)
/-- One work more, its list newer than all that is there. -/
theorem SfOwn.pushD {B n0 : Nat} {x2 w4 : World} {v v' : Value} {rs : List Wr} {r : Wr} (h : SfOwn B x2 v rs) (hlt : ∀ g, blocksS v rs g → g < n0) (hB : B ≤ n0) (ho : CpOwn n0 x2 r.sl r.cps) (o : Obj) (hown : w4.ownsRow B 39 3 v' (rs.length + 1) (cellsOf wrL rs ++ cellsOf wrL [r])) (hg : (x2.alloc o).grownBy w4 v.ownBlock) (hat : v'.ownBlock = v.ownBlock ∨ v'.ownBlock = some (x2.alloc o).heap.size) : SfOwn B w4 v' (rs ++ [r]) := by
  have ba : Below x2.heap.size x2 (x2.alloc o) := (Below.refl _ _).alloc (Nat.le_refl _) o
  have hnew : Apart r.sl v := by
    unfold Apart
    rcases hr : r.sl.ownBlock with _ | k
    · exact .inl rfl
    · refine .inr fun e => ?_
      have h1 := (ho.lt k hr).1
      have h2 := hlt k (.inl e.symm)
      omega
  have hfar : ∀ y : Wr, CpOwn B (x2.alloc o) y.sl y.cps → Apart y.sl v → Apart y.sl v' := fun y hy ha => by
    rcases hat with e | e
    · unfold Apart at ha ⊢; rw [e]; exact ha
    · unfold Apart
      rcases hk : y.sl.ownBlock with _ | k
      · exact .inl rfl
      · refine .inr fun e' => ?_
        have h1 := (hy.lt k hk).2
        rw [e] at e'
        have := Option.some.inj e'
        omega
  have hold : ∀ y ∈ rs, CpOwn B (x2.alloc o) y.sl y.cps := fun y hy => (h.2.1 y hy).below ba
  have hnw : CpOwn B (x2.alloc o) r.sl r.cps := (ho.mono hB).below ba
  refine ⟨?_, fun y hy => ?_, fun y hy => ?_, ?_⟩
  · rw [cellsOf_append, List.length_append]
    exact hown
  · rcases List.mem_append.1 hy with hy | hy
    · exact World.ownsRow.kept (hold y hy) hg (h.2.2.1 y hy)
    · obtain rfl : y = r := by simpa using hy
      exact World.ownsRow.kept hnw hg hnew
  · rcases List.mem_append.1 hy with hy | hy
    · exact hfar y (hold y hy) (h.2.2.1 y hy)
    · obtain rfl : y = r := by simpa using hy
      exact hfar y hnw hnew
  · rw [List.pairwise_append]
    refine ⟨h.2.2.2, List.pairwise_singleton _ _, fun a ha b hb' => ?_⟩
    obtain rfl : b = r := by simpa using hb'
    exact own_differ (fun k hk => hlt k (.inr ⟨a, ha, hk⟩)) (fun k hk => (ho.lt k hk).1)
/-- What a draw of a shelf knows between two deeds. -/
def SfNow (w : World) (B g : Nat) (A : Option Addr) (c : Nat) (rs : List Wr) (x : World) : Prop :=
  SfOwn w.heap.size x (.slice A rs.length c) rs ∧ M.sfOk (rs.map Wr.wk) = true ∧ DrM w B g [] x
set_option maxHeartbeats 4000000 in
theorem l5Draw_any (B g : Nat) (w : World) (hc : Cur B w g) :
    Calls Tryz.prog 45 #[.pointer (some ⟨g, 0, none⟩)] w fun r w' => ∃ A c rs, r = .returned (.slice A rs.length c) ∧ SfNow w B g A c rs w' := by
  have m0 := (DrM.start hc).alloc (.cells #[] 39)
  have hlow := hc.2.1
  have ho0 := World.ownsRow_made (size := 3) (e := 39) w #[] 0 (base := w.heap.size) (Nat.le_refl _) (Nat.zero_le _) rfl
  have HO0 : Hid (SfOwn w.heap.size (w.alloc (.cells #[] 39)) (.slice (some ⟨w.heap.size, 0, none⟩) 0 0) []) := Lib.hid ⟨ho0, by simp, by simp, List.Pairwise.nil⟩
  clear hc ho0
  go_enter Tryz.func45, Tryz.ntmps45
  go_wp2_with fail
  refine (l1Below_any B g _ m0.cur 12 (by omega) (by omega)).mono ?_
  rintro r w1 ⟨n0, hn0, hn1, rfl, hc1, hg1⟩
  have HST : Hid (SfNow w B g (some ⟨w.heap.size, 0, none⟩) 0 [] w1) := Lib.hid ⟨HO0.out.by hg1 hlow, rfl, m0.by hg1 hc1⟩
  clear m0 HO0 hc1 hg1
  go_wp2_with fail
  go_loopw [3, 4] (fun s3 s4 wr => ∃ (A : Option Addr) (c : Nat) (rs : List Wr) (n : Int), s3 = .slice A rs.length c ∧ s4 = .int .i64 n ∧ 0 ≤ n ∧ n ≤ 11 ∧ SfNow w B g A c rs wr) (fun _ n _ => (intOf n).toNat)
  case atStart => exact ⟨_, _, _, _, rfl, rfl, hn0, by omega, HST.out⟩
  case round =>
    clear HST
    obtain ⟨A, c, rs, n, rfl, rfl, hn0', hn1', hnow⟩ := hrel
    have HN := Lib.hid hnow
    have HW := Lib.hid (wrs_ok hnow.2.1)
    clear hnow
    by_cases hlt : 0 < n
    · go_wp2_with fail
      refine (l3Draw_any B g _ HN.out.2.2.cur).mono ?_
      rintro r w2 ⟨d, ⟨hdn, hdp⟩, rfl, hc2, hg2⟩
      have HM := Lib.hid (HN.out.2.2.by hg2 hc2)
      have HO := Lib.hid (HN.out.1.by hg2 hlow)
      clear hc2 hg2
      by_cases h8 : 8 < n
      · have ba := (Below.refl w2.heap.size w2).alloc (Nat.le_refl _) (.cells (ddC ⟨1, d.name, ⟨0, 0, 0⟩, ⟨#[]⟩, d.who⟩) 28)
        go_wp2_with fail
        refine (specDoes_of A rs c ⟨1, d.name, ⟨0, 0, 0⟩, ⟨#[]⟩, d.who⟩ _ (l5Do_any _) (HO.out.below ba).wks.1 (fun r hr h => (HO.out.2.1 r hr).nilc h) (by have := HW.out.1; omega) (HW.out.2.mono (by omega)) (by show d.name.size ≤ 1048576; omega) (by show (0 : Nat) ≤ 1048576; omega)).mono ?_
        rintro r w3 ⟨v, l', rfl, ho3, hm3, b3⟩
        obtain ⟨A', c', rfl, -, -⟩ := ho3.open
        have hsz : w.heap.size ≤ (w2.alloc (.cells (ddC ⟨1, d.name, ⟨0, 0, 0⟩, ⟨#[]⟩, d.who⟩) 28)).heap.size := by have := HM.out.grown.size; simp; omega
        have HST : Hid (SfNow w B g A' c' l' w3) := Lib.hid ⟨ho3.mono hsz, by rw [hm3]; exact M.keep_does _ _, (HM.out.alloc _).below b3⟩
        clear ho3 hm3 b3 ba hsz
        go_wp2
        go_roundw
        case rel => exact ⟨A', c', l', n - 1, rfl, by go_num, by omega, by omega, HST.out⟩
        case measure => simp [intOf]; omega
      · have ba := (Below.refl w2.heap.size w2).alloc (Nat.le_refl _) (.cells (ddC d) 28)
        go_wp2_with fail
        refine (specDoes_of A rs c d _ (l5Do_any _) (HO.out.below ba).wks.1 (fun r hr h => (HO.out.2.1 r hr).nilc h) (by have := HW.out.1; omega) (HW.out.2.mono (by omega)) (by omega) (by omega)).mono ?_
        rintro r w3 ⟨v, l', rfl, ho3, hm3, b3⟩
        obtain ⟨A', c', rfl, -, -⟩ := ho3.open
        have hsz : w.heap.size ≤ (w2.alloc (.cells (ddC d) 28)).heap.size := by have := HM.out.grown.size; simp; omega
        have HST : Hid (SfNow w B g A' c' l' w3) := Lib.hid ⟨ho3.mono hsz, by rw [hm3]; exact M.keep_does _ _, (HM.out.alloc _).below b3⟩
        clear ho3 hm3 b3 ba hsz
        go_wp2
        go_roundw
        case rel => exact ⟨A', c', l', n - 1, rfl, by go_num, by omega, by omega, HST.out⟩
        case measure => simp [intOf]; omega
    · go_wp2
      go_ret
      exact ⟨A, c, rs, rfl, HN.out⟩
abbrev pqL : List Wr := [⟨⟨#[112]⟩, 0, none, 0, []⟩, ⟨⟨#[113]⟩, 0, none, 0, []⟩, ⟨⟨#[114]⟩, 0, none, 0, []⟩, ⟨⟨#[115]⟩, 0, none, 0, []⟩, ⟨⟨#[116]⟩, 0, none, 0, []⟩]
theorem pq_own (B : Nat) (x : World) (hB : B ≤ x.heap.size) : SfOwn B (x.alloc (.cells (cellsOf wrL pqL).toArray 39)) (.slice (some ⟨x.heap.size, 0, none⟩) 5 5) pqL := by
  refine ⟨⟨rfl, .inr ⟨x.heap.size, 5, _, rfl, hB, heap_alloc_new x _, Nat.le_refl _, by decide, rfl, rfl⟩⟩, fun r hr => ?_, fun r hr => ?_, ?_⟩
  · simp only [pqL, List.mem_cons, List.not_mem_nil, or_false] at hr
    rcases hr with rfl | rfl | rfl | rfl | rfl <;> exact World.ownsRow_nil _ _ _ _
  · simp only [pqL, List.mem_cons, List.not_mem_nil, or_false] at hr
    rcases hr with rfl | rfl | rfl | rfl | rfl <;> exact .inl rfl
  · simp only [pqL, List.pairwise_cons, List.mem_cons, List.not_mem_nil, or_false, List.Pairwise.nil, and_true]
    refine ⟨?_, ?_, ?_, ?_, ?_⟩ <;> intro r _ <;> exact .inl rfl
theorem pq_small : pqL.length ≤ 6 ∧ WrsIn 64 pqL := by
  refine ⟨by decide, fun r hr => ?_⟩
  simp only [pqL, List.mem_cons, List.not_mem_nil, or_false] at hr
  rcases hr with rfl | rfl | rfl | rfl | rfl <;> exact ⟨by decide, by decide, by simp⟩
/-- What the draw of any shelf knows ahead of its last choice. -/
def SfMid (w : World) (B g : Nat) (A : Option Addr) (c : Nat) (rs : List Wr) (x : World) : Prop :=
  SfOwn w.heap.size x (.slice A rs.length c) rs ∧ (rs.length ≤ 6 ∧ WrsIn 64 rs) ∧ DrM w B g [] x
set_option maxHeartbeats 4000000 in
theorem l5DrawAny_any (B g : Nat) (w : World) (hc : Cur B w g) :
    Calls Tryz.prog 19 #[.pointer (some ⟨g, 0, none⟩)] w (SfOut B g w) := by
  obtain ⟨i0, hi, hz0, hz1, hz2⟩ := info_parts infoWk
  have hlow := hc.2.1
  go_enter Tryz.func19, Tryz.ntmps19
  go_wp2_with fail
  refine (l5Draw_any B g _ hc).mono ?_
  rintro r w1 ⟨A, c, rs, rfl, ho, hok, hm⟩
  have hw := wrs_ok hok
  have HO := Lib.hid ho
  have HW := Lib.hid hw
  clear hc ho hok hw
  go_wp2_with fail
  refine (l1Once_any B g _ hm.cur 10 (by omega) (by omega)).mono ?_
  rintro r w2 ⟨b, rfl, hc2, hg2⟩
  replace hm := hm.by hg2 hc2
  replace HO := Lib.hid (HO.out.by hg2 hlow)
  clear hc2 hg2
  go_upto_if 7 with (fail)
  go_cut [3] (fun s3 wx => ∃ A c rs, s3 = .slice A rs.length c ∧ SfMid w B g A c rs wx)
  case first =>
    cases b
    · have HM := Lib.hid hm
      clear hm
      go_wp2
      go_meet
      exact ⟨A, c, rs, rfl, HO.out, ⟨by have := HW.out.1; omega, HW.out.2.mono (by omega)⟩, HM.out⟩
    · go_wp2_with fail
      refine (l4DrawAny_any B g _ hm.cur).mono ?_
      rintro r w3 ⟨wk, A', c', rfl, hs, ho3, hc3, hg3⟩
      have HM := Lib.hid (hm.by hg3 hc3)
      have HO3 := Lib.hid (HO.out.by hg3 hlow)
      have HC := Lib.hid ho3
      have HS := Lib.hid hs
      have HLT : Hid (∀ k, blocksS (.slice A rs.length c) rs k → k < w2.heap.size) := Lib.hid (fun k hk => (HO.out.ge hk).2)
      have HBS : Hid (w.heap.size ≤ w2.heap.size) := Lib.hid hm.grown.size
      clear hm hc3 hg3 ho3 hs HO
      go_wp2_with (at_builtin; refine wpList_append_flat_at (k := 3) (enc := wrL) (l := [(⟨wk.name, wk.owner, A', c', wk.copies⟩ : Wr)]) rfl _ _ 24 rfl w.heap.size 39 i0 _ 48 Tryz.underlying24 hi hz0 hz1 hz2 rfl (by decide) _ rs.length (cellsOf wrL rs) rfl (World.ownsRow.alloc HO3.out.1 _) (some ⟨w3.heap.size, 0, none⟩) 1 rfl (fun h => by cases h) (one_flatW w3 ⟨wk.name, wk.owner, A', c', wk.copies⟩ _) wrL_len (wr_one _) (by have := HW.out.1; simp only [List.length_singleton]; unfold maxLen; omega) (by have := HW.out.1; simp only [List.length_singleton]; omega) (by have := HM.out.grown.size; simp; omega) ?_; intro v' w4 hown4 hgrow4 hat4)
      have ho4 := SfOwn.pushD (r := ⟨wk.name, wk.owner, A', c', wk.copies⟩) HO3.out HLT.out HBS.out HC.out _ hown4 hgrow4 hat4
      obtain ⟨A4, c4, rfl, -, -⟩ := ho4.open
      have hm4 : DrM w B g [] w4 := (HM.out.alloc _).byRow hgrow4 (fun k hk => ⟨by have := (HO3.out.ge (g := k) (.inl hk)).1; omega, by simp⟩)
      have HEND : Hid (SfMid w B g A4 c4 (rs ++ [⟨wk.name, wk.owner, A', c', wk.copies⟩]) w4) := Lib.hid ⟨ho4, ⟨by have := HW.out.1; simp; omega, fun r hr => by
        rcases List.mem_append.1 hr with hr | hr
        · exact (HW.out.2.mono (show 12 ≤ 64 by omega)) r hr
        · obtain rfl := List.mem_singleton.1 hr
          exact ⟨HS.out.1, by have := HS.out.2.1; show wk.copies.length ≤ 64; omega, HS.out.2.2⟩⟩, hm4⟩
      clear hown4 hgrow4 hat4 ho4 hm4
      go_meet
      exact ⟨A4, c4, _, rfl, HEND.out⟩
  case rest =>
    obtain ⟨A1, c1, rs1, rfl, ho1, hs1, hm1⟩ := hcut
    have HO1 := Lib.hid ho1
    have HS1 := Lib.hid hs1
    clear ho1 hs1 hm HO HW
    go_wp2_with fail
    refine (l1Once_any B g _ hm1.cur 30 (by omega) (by omega)).mono ?_
    rintro r w5 ⟨b5, rfl, hc5, hg5⟩
    have HM5 := Lib.hid (hm1.by hg5 hc5)
    have HO5 := Lib.hid (HO1.out.by hg5 hlow)
    clear hm1 hc5 hg5 HO1
    cases b5
    · go_wp2
      go_ret
      exact ⟨A1, c1, rs1, rfl, HO5.out, HS1.out, HM5.out.cur, HM5.out.grown⟩
    · have hp := pq_own w.heap.size w5 HM5.out.grown.size
      have HP := Lib.hid hp
      have HA := Lib.hid (HM5.out.alloc (.cells (cellsOf wrL pqL).toArray 39))
      clear hp
      go_wp2
      go_ret
      exact ⟨some ⟨w5.heap.size, 0, none⟩, 5, pqL, rfl, HP.out, pq_small, HA.out.cur, HA.out.grown⟩
end Go.Proofs.YtdcdalbbjfjadaaGreatDoor
namespace Go.Proofs.YtdcdalbbjfjadaaGreatDoor
open Go.RowKit
set_option maxRecDepth 20000

/-- Nothing that was there in w0 has changed; the cursor, a newer block, stands; each box of bx is newer, another block, holds its cells and may be written. -/
structure DrT (w0 : World) (g : Nat) (bx : List (Nat × Array Value)) (x : World) : Prop where
  low : w0.heap.size ≤ g
  below : Below w0.heap.size w0 x
  cur : Cur w0.heap.size x g
  box : ∀ p ∈ bx, w0.heap.size ≤ p.1 ∧ p.1 ≠ g ∧ Holds x p.1 p.2 ∧ Loose x p.1
theorem DrT.start {w0 x0 x1 : World} {bx : List (Nat × Array Value)} {ls : List Nat} (hm : Mem w0 bx ls x0) (hl : ∀ p ∈ bx, w0.heap.size ≤ p.1 ∧ p.1 ∈ ls) (hg : x0.grownBy x1 none) (hc : Cur w0.heap.size x1 x0.heap.size) : DrT w0 x0.heap.size bx x1 := by
  have hb := below_of hg
  refine ⟨hm.1.size, hm.1.trans (hb.mono hm.1.size), hc, fun p hp => ?_⟩
  have hH := hm.2.1 p hp
  have hL := hm.2.2 p.1 (hl p hp).2
  exact ⟨(hl p hp).1, Nat.ne_of_lt hH.1, hH.below hb, hL.2.below hL.1 hb⟩
theorem DrT.by {w0 : World} {g : Nat} {bx : List (Nat × Array Value)} {x y : World} (h : DrT w0 g bx x) (hg : x.grownBy y (some g)) (hc : Cur w0.heap.size y g) : DrT w0 g bx y := by
  refine ⟨h.low, h.below.grown hg h.below.size (fun k e => by cases e; exact h.low), hc, fun p hp => ?_⟩
  obtain ⟨h1, h0, h2, h3⟩ := h.box p hp
  have hb : y.heap[p.1]? = x.heap[p.1]? := hg.block p.1 h2.1 (by
    intro e
    injection e with e
    exact h0 e)
  exact ⟨h1, h0, ⟨Nat.lt_of_lt_of_le h2.1 hg.size, fun j v hj => (World.cell?_of_block (a := ⟨p.1, j, none⟩) hb).trans (h2.2 j v hj)⟩, fun j => (World.frozen?_of_block (a := ⟨p.1, j, none⟩) hb).trans (h3 j)⟩
theorem DrT.drew {w0 : World} {g : Nat} {bx : List (Nat × Array Value)} {x : World} (h : DrT w0 g bx x) : DrT w0 g bx x.drew := ⟨h.low, h.below.drew, h.cur, h.box⟩
theorem DrT.sub {w0 : World} {g : Nat} {bx bx' : List (Nat × Array Value)} {x : World} (h : DrT w0 g bx x) (hs : ∀ p ∈ bx', p ∈ bx) : DrT w0 g bx' x := ⟨h.low, h.below, h.cur, fun p hp => h.box p (hs p hp)⟩
theorem DrT.new {w0 : World} {g : Nat} {bx : List (Nat × Array Value)} {x : World} (h : DrT w0 g bx x) (C : Array Value) (t : TypeId) : DrT w0 g ((x.heap.size, C) :: bx) (x.alloc (.cells C t)) := by
  have hb : Below x.heap.size x (x.alloc (.cells C t)) := (Below.refl _ _).alloc (Nat.le_refl _) _
  have h' := h.by (grown_of_below hb _) (h.cur.kept (grown_of_below hb none) (by simp))
  refine ⟨h'.low, h'.below, h'.cur, fun p hp => ?_⟩
  rcases List.mem_cons.1 hp with rfl | hp
  · have := h.cur.2.1
    exact ⟨h.below.size, by simp only; omega, holds_new x C t, loose_new x C t⟩
  · exact h'.box p hp
theorem DrT.put {w0 : World} {g R : Nat} {C : Array Value} {bx : List (Nat × Array Value)} {x : World} (h : DrT w0 g ((R, C) :: bx) x) (hn : ∀ p ∈ bx, p.1 ≠ R) (j : Nat) (v : Value) : DrT w0 g ((R, C.setIfInBounds j v) :: bx) (x.setCell ⟨R, j, none⟩ v) := by
  obtain ⟨hR, h0, hH, hL⟩ := h.box (R, C) (by simp)
  refine ⟨h.low, h.below.setCell hR v, h.cur.kept (grownBy_set x R j v) (by intro k e; cases e; exact ⟨Ne.symm h0, hR⟩), fun p hp => ?_⟩
  rcases List.mem_cons.1 hp with rfl | hp
  · exact ⟨hR, h0, hH.putM j v, fun i => by rw [World.frozen?_setCell]; exact hL i⟩
  · obtain ⟨h1, h4, h2, h3⟩ := h.box p (List.mem_cons_of_mem _ hp)
    exact ⟨h1, h4, h2.otherM (hn p hp), fun i => by rw [World.frozen?_setCell]; exact h3 i⟩
theorem DrT.put3 {w0 : World} {g R : Nat} {a b c : Value} {bx : List (Nat × Array Value)} {x : World} (h : DrT w0 g ((R, #[a, b, c]) :: bx) x) (hn : ∀ p ∈ bx, p.1 ≠ R) (a' b' c' : Value) :
    DrT w0 g ((R, #[a', b', c']) :: bx) (((x.setCell ⟨R, 0, none⟩ a').setCell ⟨R, 1, none⟩ b').setCell ⟨R, 2, none⟩ c') := by
  have := ((h.put hn 0 a').put hn 1 b').put hn 2 c'
  simpa using this
theorem DrT.get {w0 : World} {g : Nat} {bx : List (Nat × Array Value)} {x : World} (h : DrT w0 g bx x) {R : Nat} {C : Array Value} (hp : (R, C) ∈ bx) : Holds x R C ∧ Loose x R := (h.box (R, C) hp).2.2
end Go.Proofs.YtdcdalbbjfjadaaGreatDoor
namespace Go.Proofs.YtdcdalbbjfjadaaGreatDoor
open Go.ChangeShapes Go.WideShapes Go.ChangeAt Go.RowKit
set_option maxRecDepth 20000

theorem big_any (a : Option Addr) (len cap : Nat) (w : World) : Calls Tryz.prog 4 #[.slice a len cap] w fun e w' => e = .returned (.bool (decide (4096 < len))) ∧ w = w' := by
  by_cases h : 4096 < len
  · go_enter Tryz.func4, Tryz.ntmps4
    go_wp2
    go_ret
    exact ⟨ret_bool (decide_eq_decide.2 (by omega)), rfl⟩
  · go_enter Tryz.func4, Tryz.ntmps4
    go_wp2
    go_ret
    exact ⟨ret_bool (decide_eq_decide.2 (by omega)), rfl⟩

theorem CodeOk.later {w w' : World} {a : Option Addr} {len : Nat} (h : CodeOk w.heap.size w a len) (hb : Below w.heap.size w w') : CodeOk w'.heap.size w' a len := by
  intro j hj
  obtain ⟨b, off, n, ha, hlt, h0, h1, hc⟩ := h.kept hb.block j hj
  exact ⟨b, off, n, ha, Nat.lt_of_lt_of_le hlt hb.size, h0, h1, hc⟩

theorem open_code {H : Type} {enc : TypeId × Value → H} {W : World} {spare : Nat → Bool} {held : Bool} {r : Reach} {b0 : Nat} {v : Value} {d : DataW H} {p : List MemPlace}
    (hv : Value.okWide Tryz.prog W r b0 22 v) (h : DataW.Trod enc Tryz.prog W 0 spare held 22 v d p) :
    ∃ (a : Option Addr) (len cap : Nat), v = .slice a len cap ∧ CodeOk W.heap.size W a len := by
  obtain ⟨a0, len0, cap0, rfl⟩ := okWide_slice Tryz.underlying22 hv
  refine ⟨a0, len0, cap0, rfl, ?_⟩
  obtain ⟨fuel, hf⟩ := h
  rcases open_ints Tryz.underlying22 Tryz.underlying5 (by kernel_rfl) hf with ⟨hcs, _⟩ | ⟨x, l, c, zs, hcs, _, hl, hm, hz, _, hcell, hwz⟩
  · simp [Value.cells] at hcs
    obtain ⟨rfl, rfl, rfl⟩ := hcs
    intro j hj
    omega
  · simp [Value.cells] at hcs
    obtain ⟨rfl, rfl, rfl⟩ := hcs
    intro j hj
    have hz' : len0 ≤ zs.length := by
      rw [hz]; split <;> omega
    obtain ⟨b, off, rfl, hcs⟩ := ints_at hcell (by omega)
    have hcj := hcs j (by omega)
    have hlt := World.block_lt_of_cell? W _ hcj
    have hbd := bounds_u8 (hwz (zs.getD j 0) (by rw [List.getD_eq_getElem?_getD, List.getElem?_eq_getElem (by omega)]; exact List.getElem_mem _))
    exact ⟨b, off, _, rfl, hlt, hbd.1, hbd.2, hcj⟩
end Go.Proofs.YtdcdalbbjfjadaaGreatDoor
