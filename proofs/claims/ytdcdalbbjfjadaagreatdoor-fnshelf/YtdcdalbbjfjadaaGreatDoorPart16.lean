/- Proved, in parts: Proved: the program's inOrder answers the works of the map by their names, in new memory; it writes nothing that was there. Condition: names rise, at most a thousand works. Proved: nothing; what a reply's cells are. Proved: the program's look-up of a work that is one's own in the map; what a store leaves in it; nothing that was there is written. Condition: names of at most a million bytes. -/
import Derived.Test.YtdcdalbbjfjadaaGreatDoorPart15
import Derived.Test.YtdcdalbbjfjadaaGreatDoorPart09
import Derived.CallsIn
import Derived.Test.YtdcdalbbjfjadaaGreatDoorPart01
namespace Go.Proofs.YtdcdalbbjfjadaaGreatDoor
open Go.RowKit
set_option maxRecDepth 20000

theorem less_lt : ∀ x y : List UInt8, Op.bytesLess x y = decide (x < y)
  | [], [] => by simp [Op.bytesLess]
  | _ :: _, [] => by simp [Op.bytesLess]
  | [], _ :: _ => by simp [Op.bytesLess]
  | a :: x, b :: y => by
    rw [Op.bytesLess, less_lt x y, Bool.eq_iff_iff]
    simp [List.cons_lt_cons_iff]
theorem keys_sorted {l : List Wr} (hr : RiseW l) {ss : List (List UInt8)} (hp : ss.Perm (strKeys (mapD l))) : ss.mergeSort (fun x y => decide (x ≤ y)) = l.map nmL := by
  rw [mapD_keys] at hp
  have h1 : ss.mergeSort leB = (l.map nmL).mergeSort leB := Go.mergeSort_of_perm hp
  have h2 : (l.map nmL).Pairwise fun x y => leB x y = true := by
    rw [List.pairwise_map]
    refine hr.imp fun {a b} h => ?_
    rw [before_less, less_lt, decide_eq_true_eq] at h
    exact decide_eq_true (List.le_of_lt h)
  exact h1.trans (List.mergeSort_of_pairwise h2)
theorem wr_one (r : Wr) : ∀ u ∈ cellsOf wrL [r], u.oneCell' = true := by
  intro u hu
  simp [cellsOf, wrL] at hu
  rcases hu with rfl | rfl | rfl <;> rfl
theorem one_flatW (w : World) (r : Wr) (t : TypeId) : Flat wrL 3 (w.alloc (.cells (wkL r.name r.owner r.ad r.cps.length r.cap) t)) (some ⟨w.heap.size, 0, none⟩) [r] := by
  refine .inr ⟨w.heap.size, 0, rfl, by simp, fun i k x u hi hu => ?_⟩
  rcases i with _ | i
  · simp at hi
    subst hi
    rw [World.cell?_alloc_mark]
    simpa using hu
  · simp at hi
theorem find_at {l : List Wr} (hr : RiseW l) {j : Nat} (hj : j < l.length) : findW l (nmL l[j]) = some l[j] := by
  unfold findW
  rw [List.find?_eq_some_iff_getElem]
  refine ⟨by simp, j, hj, rfl, fun i hi => ?_⟩
  have h := (List.pairwise_iff_getElem.1 hr) i j (by omega) hj hi
  rw [(before_asymm h).2]; rfl

theorem strRow_cells {B : Nat} {w : World} {v : Value} {ls : List (List UInt8)} (h : StrRow B w v ls) : ∃ A c, v = .slice A ls.length c ∧ ∀ j (hj : j < ls.length), ∃ g, A = some ⟨g, 0, none⟩ ∧ g < w.heap.size ∧ w.cell? ⟨g, j, none⟩ = some (strOf ls[j]) := by
  by_cases hne : ls = []
  · subst hne
    obtain ⟨_, ⟨rfl, _⟩ | ⟨g, cap, cur, rfl, _⟩⟩ := h
    · exact ⟨none, 0, rfl, fun j hj => by simp at hj⟩
    · exact ⟨_, cap, rfl, fun j hj => by simp at hj⟩
  · obtain ⟨g, cap, rfl, _, hg, hc⟩ := h.open hne
    exact ⟨_, cap, rfl, fun j hj => ⟨g, rfl, hg, hc j hj⟩⟩
theorem str_name (s : ByteArray) : strOf s.data.toList = .string s := by
  unfold strOf
  rw [ba_ext (a := ⟨s.data.toList.toArray⟩) (b := s) (by simp)]
/-- What the map has at a name that is there. -/
theorem look_at {w : World} {b n : Nat} {l : List Wr} (hm : ShM w b n l) (hr : RiseW l) {j : Nat} (hj : j < l.length) (hn : l[j].name.size ≤ maxLen) :
    (Instr.lookup 52 (.map (some b)) (.string l[j].name) false).run Tryz.prog w = .ok (wrV l[j]) w := by
  obtain ⟨vv, ps, hrun, hv⟩ := hm.lookup kd Tryz.underlying52 (Tryz.zeroValue39 w) (zd := .held _) (zp := []) rfl (key_of hn)
  rw [mapD_at, show findW l l[j].name.data.toList = some l[j] from find_at hr hj] at hv
  simp only [heldR, Option.some.injEq, Prod.mk.injEq, DataW.held.injEq] at hv
  rw [hv.1] at hrun
  exact hrun

set_option maxHeartbeats 2000000 in
theorem inOrder_at (b n B : Nat) (l : List Wr) (w : World) (hm : ShM w b n l) (hr : RiseW l) (ho : RsOwn B w l) (hB : B ≤ w.heap.size) (hlen : l.length ≤ 1000) (hnm : ∀ r ∈ l, r.name.size ≤ 1048576) :
    Calls Tryz.prog 23 #[.map (some b)] w fun e w' => ∃ v, e = .returned v ∧ SfOwn B w' v l ∧ (∀ k, v.ownBlock = some k → w.heap.size ≤ k) ∧ Below w.heap.size w w' := by
  have HR := Lib.hid hr
  have HO := Lib.hid ho
  have HN := Lib.hid hnm
  clear hr ho hnm
  have b0 := (Below.refl w.heap.size w).alloc (Nat.le_refl _) (.cells #[.map (some b)] 52)
  obtain ⟨i0, hi, hz0, hz1, hz2⟩ := info_parts infoWk
  go_enter Tryz.func23, Tryz.ntmps23
  go_wp2_with fail
  refine ((callsIn_wide).1 (Tryz.maps_Keys (some b) _)).mono ?_
  rintro e w1 ⟨rfl, rfl⟩
  go_wp2_with fail
  refine ((callsIn_wide).1 (Tryz.slices_Sorted_keys b n (mapD l) heldR w hm (by rw [mapD_size]; unfold maxLen; omega) (by rw [mapD_size]; omega))).mono ?_
  rintro e w2 ⟨v, ss, rfl, hS, hrow, -, b2⟩
  rw [keys_sorted HR.out hS] at hrow
  have hlen2 : ss.length = (l.map nmL).length := by rw [hS.length_eq, mapD_keys]
  have hrow2 : StrRow (w.alloc (.cells #[.map (some b)] 52)).heap.size w2 v (l.map nmL) := by
    unfold StrRow
    rw [← hlen2]
    exact hrow
  obtain ⟨AN, cN, hv, hcells⟩ := strRow_cells hrow2
  rw [List.length_map] at hv
  subst hv
  have HCE := Lib.hid hcells
  have hm2 : ShM w2 b n l := (hm.alloc _).kept (grown_lw b2 none) (by simp)
  have HM2 := Lib.hid hm2
  have b02 := next b0 b2
  clear hrow hrow2 hlen2 hS hcells hm hm2 b2 b0
  go_wp2
  go_loopw [3, 10] (fun out i wr => ∃ j : Nat, i = .int .i64 j ∧ j ≤ l.length ∧ wr.ownsRow w2.heap.size 39 3 out j (cellsOf wrL (l.take j)) ∧ Below w2.heap.size w2 wr) (fun _ i _ => l.length - (intOf i).toNat)
  case atStart => exact ⟨0, rfl, Nat.zero_le _, World.ownsRow_nil _ _ _ _, Below.refl _ _⟩
  case round =>
    obtain ⟨j, rfl, hj, hown, hb⟩ := hrel
    have HOW := Lib.hid hown
    clear hown
    by_cases hlt : j < l.length
    · obtain ⟨gN, hA, hgl, hcell⟩ := HCE.out j (by simpa using hlt)
      subst hA
      have hcell2 : wr.cell? ⟨gN, j, none⟩ = some (.string l[j].name) := by
        rw [hb.cell (p := ⟨gN, j, none⟩) hgl, hcell]
        rw [List.getElem_map]
        exact congrArg some (str_name _)
      have hln : l[j].name.size ≤ maxLen := by have := HN.out _ (List.getElem_mem hlt); unfold maxLen; omega
      have hlk := look_at (HM2.out.kept (grown_lw hb none) (by simp)) HR.out hlt hln
      have hsz := hb.size
      clear hcell
      go_wp2_with (at_builtin; refine wpList_append_flat (k := 3) (enc := wrL) (l := [l[j]]) rfl _ _ 24 rfl w2.heap.size 39 i0 _ 48 Tryz.underlying24 hi hz0 hz1 hz2 rfl (by decide) _ j (cellsOf wrL (l.take j)) rfl (HOW.out.alloc _) (some ⟨wr.heap.size, 0, none⟩) 1 rfl (fun h => by cases h) (one_flatW wr l[j] _) wrL_len (wr_one _) (by simp only [List.length_singleton]; unfold maxLen; omega) (by simp only [List.length_singleton]; omega) (by simp; omega) ?_; intro v' w4 hown4 hgrow4)
      have HOW4 := Lib.hid hown4
      have HGR4 := Lib.hid hgrow4
      clear hown4 hgrow4
      go_roundw
      case rel =>
        refine ⟨j + 1, by go_num, by omega, ?_, ?_⟩
        · rw [List.take_succ_eq_append_getElem hlt, cellsOf_append]
          exact HOW4.out
        · exact below_grow hb HOW.out HGR4.out
      case measure => simp [intOf]; omega
    · have hj' : j = l.length := by omega
      have hown := HOW.out
      rw [hj', List.take_length] at hown
      have HOW2 := Lib.hid hown
      clear hown
      have bw := next b02 hb
      go_wp2
      go_ret
      refine ⟨_, rfl, ⟨World.ownsRow.mono HOW2.out (by have := b02.size; omega), fun r hr => ((HO.out.1 r hr).below bw), fun r hr => ?_, HO.out.2⟩, fun k hk => by
        have h1 := (World.ownsRow.lt HOW2.out k hk).1
        have h2 := b02.size
        omega, bw⟩
      exact own_differ (fun k hk => ((HO.out.1 r hr).lt k hk).2) (fun k hk => by
        have h1 := (World.ownsRow.lt HOW2.out k hk).1
        have h2 := b02.size
        omega)
theorem inOrder_any (b n B : Nat) (l : List Wr) (w : World) (hm : ShM w b n l) (hr : RiseW l) (ho : RsOwn B w l) (hB : B ≤ w.heap.size) (hlen : l.length ≤ 1000) (hnm : ∀ r ∈ l, r.name.size ≤ 1048576) :
    Calls Tryz.prog 23 #[.map (some b)] w fun e w' => ∃ v, e = .returned v ∧ SfOwn B w' v l ∧ Below w.heap.size w w' :=
  (inOrder_at b n B l w hm hr ho hB hlen hnm).mono fun _ _ ⟨v, h1, h2, _, h4⟩ => ⟨v, h1, h2, h4⟩
end Go.Proofs.YtdcdalbbjfjadaaGreatDoor
namespace Go.Proofs.YtdcdalbbjfjadaaGreatDoor
open Go.RowKit
abbrev rpA (c : Int) (p : ByteArray) : Array Value := #[.int .i64 c, .string p]
abbrev rpV (c : Int) (p : ByteArray) : Value := .agg (rpA c p)
abbrev noP : ByteArray := ⟨#[]⟩
end Go.Proofs.YtdcdalbbjfjadaaGreatDoor
namespace Go.Proofs.YtdcdalbbjfjadaaGreatDoor
open Go.RowKit
set_option maxRecDepth 20000

abbrev zW : Value := wkV ⟨#[]⟩ 0 none 0 0

theorem look_none {w : World} {b n : Nat} {l : List Wr} (hm : ShM w b n l) {s : ByteArray} (hs : s.size ≤ maxLen) (hf : findW l s.data.toList = none) :
    (Instr.lookup 52 (.map (some b)) (.string s) true).run Tryz.prog w = .ok (.tuple #[zW, .bool false]) w := by
  obtain ⟨vv, ps, hrun, hv⟩ := hm.look_ok kd Tryz.underlying52 (Tryz.zeroValue39 w) (zd := .held _) (zp := []) rfl (key_of hs)
  rw [mapD_at, hf] at hv
  simp only [heldR, Option.some.injEq, Prod.mk.injEq, DataW.held.injEq] at hv
  rw [hv.1, mapD_has, hf] at hrun
  exact hrun
theorem look_some {w : World} {b n : Nat} {l : List Wr} (hm : ShM w b n l) {s : ByteArray} (hs : s.size ≤ maxLen) {r : Wr} (hf : findW l s.data.toList = some r) :
    (Instr.lookup 52 (.map (some b)) (.string s) true).run Tryz.prog w = .ok (.tuple #[wrV r, .bool true]) w := by
  obtain ⟨vv, ps, hrun, hv⟩ := hm.look_ok kd Tryz.underlying52 (Tryz.zeroValue39 w) (zd := .held _) (zp := []) rfl (key_of hs)
  rw [mapD_at, hf] at hv
  simp only [heldR, Option.some.injEq, Prod.mk.injEq, DataW.held.injEq] at hv
  rw [hv.1, mapD_has, hf] at hrun
  exact hrun
theorem look1_none {w : World} {b n : Nat} {l : List Wr} (hm : ShM w b n l) {s : ByteArray} (hs : s.size ≤ maxLen) (hf : findW l s.data.toList = none) :
    (Instr.lookup 52 (.map (some b)) (.string s) false).run Tryz.prog w = .ok zW w := by
  obtain ⟨vv, ps, hrun, hv⟩ := hm.lookup kd Tryz.underlying52 (Tryz.zeroValue39 w) (zd := .held _) (zp := []) rfl (key_of hs)
  rw [mapD_at, hf] at hv
  simp only [heldR, Option.some.injEq, Prod.mk.injEq, DataW.held.injEq] at hv
  rw [hv.1] at hrun
  exact hrun
theorem look1_some {w : World} {b n : Nat} {l : List Wr} (hm : ShM w b n l) {s : ByteArray} (hs : s.size ≤ maxLen) {r : Wr} (hf : findW l s.data.toList = some r) :
    (Instr.lookup 52 (.map (some b)) (.string s) false).run Tryz.prog w = .ok (wrV r) w := by
  obtain ⟨vv, ps, hrun, hv⟩ := hm.lookup kd Tryz.underlying52 (Tryz.zeroValue39 w) (zd := .held _) (zp := []) rfl (key_of hs)
  rw [mapD_at, hf] at hv
  simp only [heldR, Option.some.injEq, Prod.mk.injEq, DataW.held.injEq] at hv
  rw [hv.1] at hrun
  exact hrun

/-- What owned answers. -/
def ownedV (rs : List Wr) (name : ByteArray) (who : Int) : Value × Int := match findW rs name.data.toList with
  | none => (zW, 1)
  | some r => if r.owner = who then (wrV r, 0) else (zW, 3)

set_option maxHeartbeats 2000000 in
theorem owned_any (b n : Nat) (rs : List Wr) (name : ByteArray) (who : Int) (w : World) (hm : ShM w b n rs) (hn : name.size ≤ maxLen) :
    Calls Tryz.prog 105 #[.map (some b), .string name, .int .i64 who] w fun e w' => e = .returned (.tuple #[(ownedV rs name who).1, rpV (ownedV rs name who).2 noP]) ∧ Below w.heap.size w w' := by
  have hm2 := (hm.alloc (.cells (wkL ⟨#[]⟩ 0 none 0 0) 39)).alloc (.cells (rpA 0 noP) 32)
  rcases hf : findW rs name.data.toList with _ | r
  · have hlk := look_none hm2 hn hf
    have HE : Hid (ownedV rs name who = (zW, 1)) := Lib.hid (by unfold ownedV; rw [hf])
    clear hm hm2
    go_enter Tryz.func105, Tryz.ntmps105
    go_wp2
    refine bodyPost_ret (v := .tuple #[zW, rpV 1 noP]) (by simp [results, Tryz.results105, go_sem]) rfl ⟨by rw [HE.out], ?_⟩
    repeat (first | exact Below.refl _ _ | refine Below.setCell ?_ (by simp <;> omega) _ | refine Below.alloc ?_ (by simp <;> omega) _)
  · have hlk := look_some hm2 hn hf
    by_cases ho : r.owner = who
    · have ho' : (r.owner != who) = false := by simp [ho]
      have HE : Hid (ownedV rs name who = (wrV r, 0)) := Lib.hid (by unfold ownedV; rw [hf]; simp [ho])
      clear hm hm2 ho
      go_enter Tryz.func105, Tryz.ntmps105
      go_wp2
      refine bodyPost_ret (v := .tuple #[wrV r, rpV 0 noP]) (by simp [results, Tryz.results105, go_sem]) rfl ⟨by rw [HE.out], ?_⟩
      repeat (first | exact Below.refl _ _ | refine Below.setCell ?_ (by simp <;> omega) _ | refine Below.alloc ?_ (by simp <;> omega) _)
    · have ho' : (r.owner != who) = true := by simp [ho]
      have HE : Hid (ownedV rs name who = (zW, 3)) := Lib.hid (by unfold ownedV; rw [hf]; simp [ho])
      clear hm hm2 ho
      go_enter Tryz.func105, Tryz.ntmps105
      go_wp2
      refine bodyPost_ret (v := .tuple #[zW, rpV 3 noP]) (by simp [results, Tryz.results105, go_sem]) rfl ⟨by rw [HE.out], ?_⟩
      repeat (first | exact Below.refl _ _ | refine Below.setCell ?_ (by simp <;> omega) _ | refine Below.alloc ?_ (by simp <;> omega) _)

/-! ### A store: the names rise still, each list is in a block of its own. -/
theorem before_trans {a b c : List UInt8} (h : bytesBefore a b = true) (k : bytesBefore b c = true) : bytesBefore a c = true := Go.WideShapes.bytes_trans a b c h k
theorem insW_mem {r x : Wr} : ∀ {l : List Wr}, x ∈ insW r l → x = r ∨ x ∈ l
  | [], h => .inl (by simpa [insW] using h)
  | y :: l, h => by
    unfold insW at h
    split at h
    · rcases List.mem_cons.1 h with h | h
      · exact .inl h
      · exact .inr h
    · rcases List.mem_cons.1 h with h | h
      · exact .inr (by rw [h]; simp)
      · rcases insW_mem h with h | h
        · exact .inl h
        · exact .inr (List.mem_cons_of_mem _ h)
theorem insW_perm (r : Wr) : ∀ l : List Wr, (insW r l).Perm (r :: l)
  | [] => List.Perm.refl _
  | y :: l => by
    unfold insW
    split
    · exact List.Perm.refl _
    · exact ((insW_perm r l).cons y).trans (List.Perm.swap r y l)
theorem insW_rise {r : Wr} : ∀ {l : List Wr}, RiseW l → (∀ x ∈ l, nmL x ≠ nmL r) → RiseW (insW r l)
  | [], _, _ => List.pairwise_singleton _ _
  | y :: l, h, hne => by
    obtain ⟨h1, h2⟩ := List.pairwise_cons.1 h
    unfold insW
    split
    · rename_i hb
      refine List.pairwise_cons.2 ⟨fun z hz => ?_, h⟩
      rcases List.mem_cons.1 hz with rfl | hz
      · exact hb
      · exact before_trans hb (h1 z hz)
    · rename_i hb
      have hyr : bytesBefore (nmL y) (nmL r) = true := by
        rcases Go.WideAt.bytes_total _ _ (hne y (by simp)) with h' | h'
        · exact h'
        · exact absurd h' hb
      refine List.pairwise_cons.2 ⟨fun z hz => ?_, insW_rise h2 fun x hx => hne x (List.mem_cons_of_mem _ hx)⟩
      rcases insW_mem hz with rfl | hz
      · exact hyr
      · exact h1 z hz
theorem putW_rise {l : List Wr} {r : Wr} (h : RiseW l) : RiseW (putW l r) := by
  unfold putW
  refine insW_rise (List.Pairwise.filter _ h) fun x hx => ?_
  have := (List.mem_filter.1 hx).2
  simpa using this
theorem Apart.symm {a b : Value} (h : Apart a b) : Apart b a := by
  unfold Apart at h ⊢
  rcases hb : b.ownBlock with _ | k
  · exact .inl rfl
  · refine .inr fun e => ?_
    rcases h with h | h
    · rw [h] at e; cases e
    · exact h (by rw [hb, ← e])
theorem RsOwn.put {B : Nat} {w : World} {rs : List Wr} {r : Wr} (h : RsOwn B w rs) (ho : CpOwn B w r.sl r.cps) (hap : ∀ x ∈ rs, nmL x ≠ nmL r → Apart r.sl x.sl) : RsOwn B w (putW rs r) := by
  have hp := insW_perm r (rs.filter fun x => !(nmL x == nmL r))
  refine ⟨fun x hx => ?_, ?_⟩
  · rcases insW_mem hx with rfl | hx
    · exact ho
    · exact h.1 x (List.mem_filter.1 hx).1
  · refine (hp.pairwise_iff (fun h => Apart.symm h)).2 (List.pairwise_cons.2 ⟨fun x hx => ?_, List.Pairwise.filter _ h.2⟩)
    obtain ⟨h1, h2⟩ := List.mem_filter.1 hx
    exact hap x h1 (by simpa using h2)
end Go.Proofs.YtdcdalbbjfjadaaGreatDoor
