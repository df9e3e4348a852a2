/- Proved, in parts: Proved: the program's fill and shelfOf lay a list of works whose names rise into the map, each in new memory; nothing else is written. Condition: texts and lists of at most a million. Proved: contracts of the library over this program, each by one application of a theorem of the kit; what each asks stands in its head. Proved: the program's inOrder answers the works of the map by their names, in new memory; it writes nothing that was there. Condition: names rise, at most a thousand works. Proved: nothing; what a reply's cells are. Proved: the program's look-up of a work that is one's own in the map; what a store leaves in it; nothing that was there is written. Condition: names of at most a million bytes. -/
import Derived.Test.YtkpbfocnokbmiaaGreatPart05
import Derived.Test.YtkpbfocnokbmiaaGreatPart09
import Derived.Shelf.SlIter.Nil
import Derived.Shelf.SortM.Plain
import Derived.Shelf.SortM.SortNone
import Derived.Ground.GgzProg
import Derived.Ground.SlgmProg
import Derived.Test.YtkpbfocnokbmiaaGreatProg
import Derived.Test.YtkpbfocnokbmiaaGreatPart06
import Derived.CallsIn
import Derived.Test.YtkpbfocnokbmiaaGreatPart01
namespace Go.Proofs.YtkpbfocnokbmiaaGreat
open Go.RowKit
set_option maxRecDepth 20000

abbrev mapT : TypeId := 58
abbrev ShM (w : World) (b n : Nat) (l : List Wr) : Prop := w.ownsMap Tryz.prog 9 heldR b n (mapD l)
theorem key_of {s : ByteArray} (hs : s.size ≤ maxLen) : keyOf Tryz.prog 9 (.string s) = some (.string s.data.toList) := Go.WideMaps.keyOf_string_mk Tryz.underlying9 hs
theorem kd : Go.Maps.Keyed Tryz.prog 9 := Go.Maps.string_keyed Tryz.underlying9

theorem grown_tr {a b c : World} {row : Option Nat} (h : a.grownBy b row) (k : b.grownBy c row) : a.grownBy c row :=
  ⟨k.os.trans h.os, k.tape.trans h.tape, k.output.trans h.output, Nat.le_trans h.size k.size, fun i hi hne => (k.block i (Nat.lt_of_lt_of_le hi h.size) hne).trans (h.block i hi hne)⟩
theorem grown_lw {x y : World} (h : Below x.heap.size x y) (row : Option Nat) : x.grownBy y row := ⟨h.os, h.tape, h.output, h.size, fun k hk _ => h.block k hk⟩
theorem grown_new {a b : World} {row : Option Nat} (h : a.grownBy b row) {p : Nat} (hp : a.heap.size ≤ p) (i : Nat) (v : Value) : a.grownBy (b.setCell ⟨p, i, none⟩ v) row :=
  ⟨h.os, h.tape, h.output, by have := h.size; simp; omega, fun k hk hne => by rw [Below.heap_setCell _ _ _ _ (by show k ≠ p; omega)]; exact h.block k hk hne⟩
theorem ShM.set {w : World} {b n g i : Nat} {D : DataW Value} {v : Value} (h : w.ownsMap Tryz.prog 9 heldR b n D) (hne : b ≠ g) : (w.setCell ⟨g, i, none⟩ v).ownsMap Tryz.prog 9 heldR b n D := World.ownsMap.setCell h (a := ⟨g, i, none⟩) hne v
theorem rs_names {rs l : List Wr} (h : rs.map Wr.wk = l.map Wr.wk) : rs.map nmL = l.map nmL := by
  have := congrArg (List.map fun k : M.Wk => k.name.data.toList) h
  simpa [List.map_map, Function.comp_def, Wr.wk] using this
/-- Of names that rise, all of the first j are ahead of the next one. -/
theorem rise_take {l : List Wr} (h : RiseW l) {j : Nat} (hj : j < l.length) {rs : List Wr} (hr : rs.map Wr.wk = (l.take j).map Wr.wk) {r : Wr} (hn : r.name = l[j].name) : ∀ x ∈ rs, bytesBefore (nmL x) (nmL r) = true := by
  intro x hx
  have h1 : nmL x ∈ (l.take j).map nmL := by rw [← rs_names hr]; exact List.mem_map_of_mem hx
  obtain ⟨y, hy, e⟩ := List.mem_map.1 h1
  obtain ⟨i, hi, rfl⟩ := List.mem_iff_getElem.1 hy
  have hi' : i < j := by simp at hi; omega
  have h2 := (List.pairwise_iff_getElem.1 h) i j (by omega) hj hi'
  rw [List.getElem_take] at e
  unfold nmL at e ⊢
  rw [← e, hn]
  exact h2

set_option maxHeartbeats 2000000 in
theorem fill_any (b n : Nat) (D : DataW Value) (A : Option Addr) (l : List Wr) (cap : Nat) (w : World) (hm : w.ownsMap Tryz.prog 9 heldR b n D) (hl : ∀ x, w.grownBy x (some b) → Wks x A l) (hr : RiseW l) (hlen : l.length ≤ 1048576) (hp : WrsIn 1048576 l) :
    Calls Tryz.prog 73 #[.map (some b), .slice A l.length cap] w fun e w' => e = .returned (.tuple #[]) ∧ ∃ rs : List Wr, rs.map Wr.wk = l.map Wr.wk ∧ ShM w' b l.length rs ∧ RsOwn w.heap.size w' rs ∧ w.grownBy w' (some b) := by
  have HP := Lib.hid hp
  have HL := Lib.hid hl
  have HRI := Lib.hid hr
  have hblt := hm.lt
  clear hp hl hr
  go_enter Tryz.func73, Tryz.ntmps73
  go_wp2_with (refine wpList_clear_own rfl _ mapT rfl 9 100 Tryz.underlying58 b n D rfl hm ?_; intro w1 hm1 hg1)
  have hg0 := hg1
  clear hm
  go_loopw [9] (fun i wr => ∃ (j : Nat) (rs : List Wr), i = .int .i64 j ∧ j ≤ l.length ∧ rs.map Wr.wk = (l.take j).map Wr.wk ∧ ShM wr b j rs ∧ RsOwn w.heap.size wr rs ∧ w.grownBy wr (some b)) (fun i _ => l.length - (intOf i).toNat)
  case atStart => exact ⟨0, [], rfl, Nat.zero_le _, rfl, hm1, RsOwn.nil _ _, hg0⟩
  case round =>
    clear hm1 hg0 hg1
    obtain ⟨j, rs, rfl, hj, hrm, hmr, hor, hgr⟩ := hrel
    have HM := Lib.hid hmr
    have HO := Lib.hid hor
    have HRM := Lib.hid hrm
    clear hmr hor hrm
    by_cases hlt : j < l.length
    · obtain ⟨bA, oA, hA, lb, c0, c1, c2, hcp⟩ := Wks_at (HL.out wr hgr) hlt
      subst hA
      obtain ⟨hpn, hpl, hpp⟩ := HP.out _ (List.getElem_mem hlt)
      have HPP := Lib.hid hpp
      have HCP := Lib.hid (hcp.alloc (.cells (wkL l[j].name l[j].owner l[j].ad l[j].cps.length l[j].cap) 100))
      have hsz := hgr.size
      clear hpp hcp
      go_wp2_with fail
      refine (newWork_any l[j].name l[j].owner l[j].ad l[j].cps l[j].cap _ HCP.out hpn hpl HPP.out).mono ?_
      rintro e y ⟨A', c', rfl, ho, by1⟩
      have hH := (holds_new wr (wkL l[j].name l[j].owner l[j].ad l[j].cps.length l[j].cap) 100).below by1
      have hL := (loose_new wr (wkL l[j].name l[j].owner l[j].ad l[j].cps.length l[j].cap) 100).below (by simp) by1
      obtain ⟨p0, p1, p2⟩ := hH.three
      have z0 := hL 0
      have z1 := hL 1
      have z2 := hL 2
      have hRb : b ≠ wr.heap.size := by omega
      have hnm : l[j].name.size ≤ maxLen := by unfold maxLen; omega
      have hm2 : (((y.setCell ⟨wr.heap.size, 0, none⟩ (.string l[j].name)).setCell ⟨wr.heap.size, 1, none⟩ (.int .i64 l[j].owner)).setCell ⟨wr.heap.size, 2, none⟩ (.slice A' l[j].cps.length c')).ownsMap Tryz.prog 9 heldR b j (mapD rs) :=
        ShM.set (ShM.set (ShM.set ((HM.out.alloc _).kept (grown_lw by1 none) (by simp)) hRb) hRb) hRb
      have ho2 := HO.out.below ((Below.refl _ _).alloc (Nat.le_refl _) (.cells (wkL l[j].name l[j].owner l[j].ad l[j].cps.length l[j].cap) 100))
      have ho3 := ho2.snoc by1 (by simp; omega) ⟨l[j].name, l[j].owner, A', c', l[j].cps⟩ ho
      have hne : ∀ r ∈ rs ++ [(⟨l[j].name, l[j].owner, A', c', l[j].cps⟩ : Wr)], r.sl.ownBlock ≠ some wr.heap.size := fun r hr e => by
        rcases List.mem_append.1 hr with hr | hr
        · have := ((HO.out.1 r hr).lt _ e).2; omega
        · obtain rfl := List.mem_singleton.1 hr
          have := (ho.lt _ e).1
          simp at this; omega
      have ho4 := ((ho3.set hne 0 (.string l[j].name)).set hne 1 (.int .i64 l[j].owner)).set hne 2 (.slice A' l[j].cps.length c')
      have hg4 : w.grownBy (((y.setCell ⟨wr.heap.size, 0, none⟩ (.string l[j].name)).setCell ⟨wr.heap.size, 1, none⟩ (.int .i64 l[j].owner)).setCell ⟨wr.heap.size, 2, none⟩ (.slice A' l[j].cps.length c')) (some b) :=
        grown_new (grown_new (grown_new (grown_tr hgr (grown_tr (World.grownBy_alloc wr _ _) (grown_lw by1 _))) hsz _ _) hsz _ _) hsz _ _
      have HM2 := Lib.hid hm2
      have HO4 := Lib.hid ho4
      have HG4 := Lib.hid hg4
      clear hm2 ho2 ho3 ho4 hg4 hne hH hL by1 ho
      go_wp2_with (at_mapUpdate; refine wpList_mapUpdate_own _ rfl _ _ _ mapT rfl 9 100 kd Tryz.underlying58 heldR b j (mapD rs) rfl HM2.out (by unfold maxLen; omega) (.string l[j].name) (wkV l[j].name l[j].owner A' l[j].cps.length c') (.string l[j].name.data.toList) rfl rfl (key_of hnm) (.held (wkV l[j].name l[j].owner A' l[j].cps.length c')) [] rfl ?_; intro w3 hm3 hg3)
      have HM3 := Lib.hid hm3
      have HG3 := Lib.hid hg3
      clear hm3 hg3
      go_roundw
      case rel =>
        refine ⟨j + 1, rs ++ [⟨l[j].name, l[j].owner, A', c', l[j].cps⟩], by go_num, by omega, ?_, ?_, HO4.out.by HG3.out hblt, grown_tr HG4.out HG3.out⟩
        · rw [List.map_append, HRM.out, List.take_succ_eq_append_getElem hlt, List.map_append]; rfl
        · have e1 := mapD_put rs ⟨l[j].name, l[j].owner, A', c', l[j].cps⟩
          rw [putW_snoc (rise_take (r := ⟨l[j].name, l[j].owner, A', c', l[j].cps⟩) HRI.out hlt HRM.out rfl)] at e1
          have h3 := HM3.out
          rw [show (mapD rs).put (.string l[j].name.data.toList) (.held (wkV l[j].name l[j].owner A' l[j].cps.length c')) = mapD (rs ++ [⟨l[j].name, l[j].owner, A', c', l[j].cps⟩]) from e1] at h3
          exact h3
      case measure => simp [intOf]; omega
    · have hj' : j = l.length := by omega
      have hrm := HRM.out
      have hmm := HM.out
      rw [hj'] at hrm hmm
      rw [List.take_length] at hrm
      have HRM2 := Lib.hid hrm
      have HM2 := Lib.hid hmm
      clear hrm hmm
      go_wp2
      exact bodyPost_end (v := .tuple #[]) (by simp [results, Tryz.results73, go_sem]) rfl ⟨rfl, rs, HRM2.out, HM2.out, HO.out, hgr⟩

set_option maxHeartbeats 1000000 in
theorem shelfOf_any (A : Option Addr) (l : List Wr) (cap : Nat) (w : World) (hl : Wks w A l) (hr : RiseW l) (hlen : l.length ≤ 1048576) (hp : WrsIn 1048576 l) :
    Calls Tryz.prog 49 #[.slice A l.length cap] w fun e w' => e = .returned (.map (some w.heap.size)) ∧ ∃ rs : List Wr, rs.map Wr.wk = l.map Wr.wk ∧ ShM w' w.heap.size l.length rs ∧ RsOwn (w.heap.size + 1) w' rs ∧ Below w.heap.size w w' := by
  have b0 := (Below.refl w.heap.size w).alloc (Nat.le_refl _) (.map #[] 0)
  have hm := World.ownsMap_made w Tryz.prog 9 heldR
  have hmk : (Instr.makeMap 58 none).run Tryz.prog w = .ok (.map (some w.heap.size)) (w.alloc (.map #[] 0)) := run_makeMap _ w
  go_enter Tryz.func49, Tryz.ntmps49
  go_wp2_with fail
  refine (fill_any w.heap.size 0 (.map []) A l cap _ hm (fun x hg => hl.below (b0.grown hg (by simp) (fun k e => by cases e; exact Nat.le_refl _))) hr hlen hp).mono ?_
  rintro e w1 ⟨rfl, rs, h1, h2, h3, h4⟩
  rw [World.size_alloc] at h3
  have b1 : Below w.heap.size w w1 := b0.grown h4 (by simp) (fun k e => by cases e; exact Nat.le_refl _)
  have HM := Lib.hid h2
  clear h2 h4 hm
  go_wp2
  go_ret
  exact ⟨rfl, rs, h1, HM.out, h3, b1⟩
end Go.Proofs.YtkpbfocnokbmiaaGreat
namespace Go.Proofs
open Go.RowKit Go.Maps Go.Sort Go.Shelf
def Tryz.keys79_ren : Go.Shelf.Ren := ⟨fun | 7 => 79 | 10 => 109 | n => n, fun | 23 => 58 | 26 => 9 | 3 => 100 | 28 => 119 | 0 => 0 | 27 => 118 | 33 => 133 | 4 => 4 | n => n, fun | n => n⟩
theorem Tryz.keys79 : Go.Proofs.SlLaysZ.n7 Tryz.prog Tryz.keys79_ren := {
  mixed := by kernel_rfl
  f7 := ⟨Tryz.f79.name, by decide, Tryz.func79.trans (congrArg some (by kernel_rfl))⟩
  f10 := ⟨Tryz.f109.name, by decide, Tryz.func109.trans (congrArg some (by kernel_rfl))⟩
  t0 := Tryz.underlying0
  a0 := Tryz.isAgg0
  z0 := Tryz.sizeOf0
  v0 := Tryz.zeroValue0
  t4 := Tryz.underlying4
  a4 := Tryz.isAgg4
  z4 := Tryz.sizeOf4
  v4 := Tryz.zeroValue4
  t23 := Tryz.underlying58
  a23 := Tryz.isAgg58
  z23 := Tryz.sizeOf58
  v23 := Tryz.zeroValue58
  t26 := Tryz.underlying9
  a26 := Tryz.isAgg9
  z26 := Tryz.sizeOf9
  v26 := Tryz.zeroValue9
  t27 := Tryz.underlying118
  a27 := Tryz.isAgg118
  z27 := Tryz.sizeOf118
  v27 := Tryz.zeroValue118
  t28 := Tryz.underlying119
  a28 := Tryz.isAgg119
  z28 := Tryz.sizeOf119
  v28 := Tryz.zeroValue119
  t33 := Tryz.underlying133
  a33 := Tryz.isAgg133
  z33 := Tryz.sizeOf133
  v33 := Tryz.zeroValue133 }
def Tryz.sorted78_ren : Go.Shelf.Ren := ⟨fun | 6 => 78 | 8 => 107 | 9 => 108 | 11 => 129 | 13 => 131 | 12 => 130 | 23 => 153 | 24 => 154 | 14 => 144 | 15 => 145 | 16 => 146 | 17 => 147 | 18 => 148 | 19 => 149 | 20 => 150 | 21 => 151 | 22 => 152 | 25 => 157 | 26 => 158 | 27 => 159 | 28 => 160 | 29 => 161 | 30 => 162 | 31 => 164 | n => n, fun | 26 => 9 | 28 => 119 | 24 => 116 | 0 => 0 | 3 => 3 | 37 => 121 | 48 => 194 | 50 => 196 | 4 => 4 | 40 => 187 | 39 => 186 | 45 => 111 | 5 => 5 | 9 => 9 | 51 => 199 | 55 => 203 | 57 => 205 | 58 => 206 | 33 => 133 | n => n, fun | n => n⟩
theorem Tryz.sorted78 : Go.Proofs.SlLaysZ.n6 Tryz.prog Tryz.sorted78_ren := {
  mixed := by kernel_rfl
  f6 := ⟨Tryz.f78.name, by decide, Tryz.func78.trans (congrArg some (by kernel_rfl))⟩
  f8 := ⟨Tryz.f107.name, by decide, Tryz.func107.trans (congrArg some (by kernel_rfl))⟩
  f11 := ⟨Tryz.f129.name, by decide, Tryz.func129.trans (congrArg some (by kernel_rfl))⟩
  t0 := Tryz.underlying0
  a0 := Tryz.isAgg0
  z0 := Tryz.sizeOf0
  v0 := Tryz.zeroValue0
  t24 := Tryz.underlying116
  a24 := Tryz.isAgg116
  z24 := Tryz.sizeOf116
  v24 := Tryz.zeroValue116
  t26 := Tryz.underlying9
  a26 := Tryz.isAgg9
  z26 := Tryz.sizeOf9
  v26 := Tryz.zeroValue9
  t28 := Tryz.underlying119
  a28 := Tryz.isAgg119
  z28 := Tryz.sizeOf119
  v28 := Tryz.zeroValue119
  i26 := by kernel_rfl }
def Tryz.sort108_ren : Go.Shelf.Ren := ⟨fun | 6 => 108 | 8 => 131 | 9 => 130 | 19 => 153 | 20 => 154 | 21 => 144 | 22 => 145 | 23 => 146 | 24 => 147 | 25 => 148 | 26 => 149 | 27 => 150 | 28 => 151 | 29 => 152 | 36 => 157 | 31 => 158 | 32 => 159 | 37 => 160 | 38 => 161 | 39 => 162 | 41 => 164 | n => n, fun | 27 => 116 | 29 => 9 | 3 => 3 | 32 => 121 | 26 => 116 | 0 => 0 | 44 => 194 | 46 => 196 | 4 => 4 | 36 => 187 | 35 => 186 | 41 => 111 | 5 => 5 | 9 => 9 | 53 => 199 | 57 => 203 | 63 => 205 | 64 => 206 | n => n, fun | n => n⟩
theorem Tryz.sort108 : Go.Proofs.SlLaysM.n6 Tryz.prog Tryz.sort108_ren := {
  mixed := by kernel_rfl
  f6 := ⟨Tryz.f108.name, by decide, Tryz.func108.trans (congrArg some (by kernel_rfl))⟩
  f8 := Tryz.func131.trans (congrArg some (by kernel_rfl))
  f9 := ⟨Tryz.f130.name, by decide, Tryz.func130.trans (congrArg some (by kernel_rfl))⟩
  f19 := Tryz.func153.trans (congrArg some (by kernel_rfl))
  f20 := Tryz.func154.trans (congrArg some (by kernel_rfl))
  f21 := ⟨Tryz.f144.name, by decide, Tryz.func144.trans (congrArg some (by kernel_rfl))⟩
  f22 := ⟨Tryz.f145.name, by decide, Tryz.func145.trans (congrArg some (by kernel_rfl))⟩
  f23 := ⟨Tryz.f146.name, by decide, Tryz.func146.trans (congrArg some (by kernel_rfl))⟩
  f24 := ⟨Tryz.f147.name, by decide, Tryz.func147.trans (congrArg some (by kernel_rfl))⟩
  f25 := ⟨Tryz.f148.name, by decide, Tryz.func148.trans (congrArg some (by kernel_rfl))⟩
  f26 := ⟨Tryz.f149.name, by decide, Tryz.func149.trans (congrArg some (by kernel_rfl))⟩
  f27 := ⟨Tryz.f150.name, by decide, Tryz.func150.trans (congrArg some (by kernel_rfl))⟩
  f28 := ⟨Tryz.f151.name, by decide, Tryz.func151.trans (congrArg some (by kernel_rfl))⟩
  f29 := ⟨Tryz.f152.name, by decide, Tryz.func152.trans (congrArg some (by kernel_rfl))⟩
  f31 := Tryz.func158.trans (congrArg some (by kernel_rfl))
  f32 := Tryz.func159.trans (congrArg some (by kernel_rfl))
  f36 := ⟨Tryz.f157.name, by decide, Tryz.func157.trans (congrArg some (by kernel_rfl))⟩
  f37 := ⟨Tryz.f160.name, by decide, Tryz.func160.trans (congrArg some (by kernel_rfl))⟩
  f38 := ⟨Tryz.f161.name, by decide, Tryz.func161.trans (congrArg some (by kernel_rfl))⟩
  f39 := ⟨Tryz.f162.name, by decide, Tryz.func162.trans (congrArg some (by kernel_rfl))⟩
  f41 := ⟨Tryz.f164.name, by decide, Tryz.func164.trans (congrArg some (by kernel_rfl))⟩
  t0 := Tryz.underlying0
  a0 := Tryz.isAgg0
  z0 := Tryz.sizeOf0
  v0 := Tryz.zeroValue0
  t3 := Tryz.underlying3
  a3 := Tryz.isAgg3
  z3 := Tryz.sizeOf3
  v3 := Tryz.zeroValue3
  t4 := Tryz.underlying4
  a4 := Tryz.isAgg4
  z4 := Tryz.sizeOf4
  v4 := Tryz.zeroValue4
  t5 := Tryz.underlying5
  a5 := Tryz.isAgg5
  z5 := Tryz.sizeOf5
  v5 := Tryz.zeroValue5
  t9 := Tryz.underlying9
  a9 := Tryz.isAgg9
  z9 := Tryz.sizeOf9
  v9 := Tryz.zeroValue9
  t26 := Tryz.underlying116
  a26 := Tryz.isAgg116
  z26 := Tryz.sizeOf116
  v26 := Tryz.zeroValue116
  t27 := Tryz.underlying116
  a27 := Tryz.isAgg116
  z27 := Tryz.sizeOf116
  v27 := Tryz.zeroValue116
  t29 := Tryz.underlying9
  a29 := Tryz.isAgg9
  z29 := Tryz.sizeOf9
  v29 := Tryz.zeroValue9
  t32 := Tryz.underlying121
  a32 := Tryz.isAgg121
  z32 := Tryz.sizeOf121
  v32 := Tryz.zeroValue121
  t35 := Tryz.underlying186
  a35 := Tryz.isAgg186
  z35 := Tryz.sizeOf186
  v35 := Tryz.zeroValue186
  t36 := Tryz.underlying187
  a36 := Tryz.isAgg187
  z36 := Tryz.sizeOf187
  v36 := Tryz.zeroValue187
  t41 := Tryz.underlying111
  a41 := Tryz.isAgg111
  z41 := Tryz.sizeOf111
  v41 := Tryz.zeroValue111
  t44 := Tryz.underlying194
  a44 := Tryz.isAgg194
  z44 := Tryz.sizeOf194
  v44 := Tryz.zeroValue194
  t46 := Tryz.underlying196
  a46 := Tryz.isAgg196
  z46 := Tryz.sizeOf196
  v46 := Tryz.zeroValue196
  t53 := Tryz.underlying199
  a53 := Tryz.isAgg199
  z53 := Tryz.sizeOf199
  v53 := Tryz.zeroValue199
  t57 := Tryz.underlying203
  a57 := Tryz.isAgg203
  z57 := Tryz.sizeOf203
  v57 := Tryz.zeroValue203
  t63 := Tryz.underlying205
  a63 := Tryz.isAgg205
  z63 := Tryz.sizeOf205
  v63 := Tryz.zeroValue205
  t64 := Tryz.underlying206
  a64 := Tryz.isAgg206
  z64 := Tryz.sizeOf206
  v64 := Tryz.zeroValue206 }
theorem Tryz.sorts78 (m : Nat) : AnyZ.SortsIn Tryz.prog Tryz.sorted78_ren Fence.wide m :=
  ⟨fun blk off cap ss W hH hblk hsz => callsIn_wide.2 (AnyM.slices_Sort_string Tryz.sort108 blk off cap ss W hH hblk hsz),
   fun p cap W => callsIn_wide.2 (AnyM.slices_Sort_string_none Tryz.sort108 p cap W)⟩

theorem Tryz.maps_Keys (mb : Option Nat) (W : World) : CallsIn Fence.wide 5 Tryz.prog 79 #[.map mb] W fun e w' => e = .returned (.func (.func 109) #[] #[.pointer (some ⟨W.heap.size, 0, none⟩)]) ∧ w' = W.alloc (.cells #[.map mb] 58) :=
  AnyZ.keys_in Tryz.keys79 Fence.wide 5 trivial rfl mb W

set_option maxHeartbeats 1000000 in
theorem Tryz.slices_Sorted_keys {H : Type} (b nn : Nat) (D0 : DataW H) (R : Value → Option (DataW H × List MemPlace)) (w : World) (hown : w.ownsMap Tryz.prog 9 R b nn D0) (hmax : Maps.size D0 ≤ maxLen) (hbytes : Maps.size D0 * 16 ≤ 140737488355328) :
    CallsIn Fence.wide 5 Tryz.prog 78 #[.func (.func 109) #[] #[.pointer (some ⟨w.heap.size, 0, none⟩)]] (w.alloc (.cells #[.map (some b)] 58)) fun e w' => ∃ (v : Value) (ss : List (List UInt8)), e = .returned v ∧ ss.Perm (strKeys D0) ∧
      w'.ownsRow (w.alloc (.cells #[.map (some b)] 58)).heap.size 9 1 v ss.length ((ss.mergeSort (fun x y => decide (x ≤ y))).map encStr) ∧ (v = .slice none 0 0 ↔ ss = []) ∧ Below (w.alloc (.cells #[.map (some b)] 58)).heap.size (w.alloc (.cells #[.map (some b)] 58)) w' := by
  have hbl := hown.lt
  have hseq : SeqGives Fence.wide 2 Tryz.prog 109 #[.pointer (some ⟨w.heap.size, 0, none⟩)] encStr (fun ss => ss.Perm (strKeys D0)) (Maps.size D0) (w.alloc (.cells #[.map (some b)] 58)) :=
    AnyZ.keys_gives (ρ := Tryz.keys79_ren) { Tryz.keys79 with } Fence.wide _ trivial rfl (by omega) w.heap.size b nn D0 _ (by simp) (by simp) (by
      obtain ⟨es, clock, hb, Ft, hs, hD⟩ := hown
      exact ⟨es, clock, (Below.heap_alloc _ _ b hbl).trans hb, Ft, hs, hD⟩)
  exact AnyZ.sorted_in Tryz.sorted78 Fence.wide 5 trivial trivial trivial trivial rfl (by omega) (Tryz.sorts78 _) (enters_of Tryz.func108 (by kernel_rfl) rfl) 109 #[.pointer (some ⟨w.heap.size, 0, none⟩)] trivial (enters_of Tryz.func109 (by kernel_rfl) rfl) _ _ hmax hbytes _ hseq

end Go.Proofs
namespace Go.Proofs.YtkpbfocnokbmiaaGreat
open Go.RowKit
set_option maxRecDepth 20000

theorem less_lt : ∀ x y : List UInt8, Op.bytesLess x y = decide (x < y)
  | [], [] => by simp [Op.bytesLess]
  | _ :: _, [] => by simp [Op.bytesLess]
  | [], _ :: _ => by simp [Op.bytesLess]
  | a :: x, b :: y => by
    rw [Op.bytesLess, less_lt x y, Bool.eq_iff_iff]
    simp [List.cons_lt_cons_iff]
theorem keys_sorted {l : List Wr} (hr : RiseW l) {ss : List (List UInt8)} (hp : ss.Perm (strKeys (mapD l))) : ss.mergeSort (fun x y => decide (x ≤ y)) = l.map nmL := by
  rw [mapD_keys] at hp
  have h1 : ss.mergeSort leB = (l.map nmL).mergeSort leB := Go.mergeSort_of_perm hp
  have h2 : (l.map nmL).Pairwise fun x y => leB x y = true := by
    rw [List.pairwise_map]
    refine hr.imp fun {a b} h => ?_
    rw [before_less, less_lt, decide_eq_true_eq] at h
    exact decide_eq_true (List.le_of_lt h)
  exact h1.trans (List.mergeSort_of_pairwise h2)
theorem wr_one (r : Wr) : ∀ u ∈ cellsOf wrL [r], u.oneCell' = true := by
  intro u hu
  simp [cellsOf, wrL] at hu
  rcases hu with rfl | rfl | rfl <;> rfl
theorem one_flatW (w : World) (r : Wr) (t : TypeId) : Flat wrL 3 (w.alloc (.cells (wkL r.name r.owner r.ad r.cps.length r.cap) t)) (some ⟨w.heap.size, 0, none⟩) [r] := by
  refine .inr ⟨w.heap.size, 0, rfl, by simp, fun i k x u hi hu => ?_⟩
  rcases i with _ | i
  · simp at hi
    subst hi
    rw [World.cell?_alloc_mark]
    simpa using hu
  · simp at hi
theorem find_at {l : List Wr} (hr : RiseW l) {j : Nat} (hj : j < l.length) : findW l (nmL l[j]) = some l[j] := by
  unfold findW
  rw [List.find?_eq_some_iff_getElem]
  refine ⟨by simp, j, hj, rfl, fun i hi => ?_⟩
  have h := (List.pairwise_iff_getElem.1 hr) i j (by omega) hj hi
  rw [(before_asymm h).2]; rfl

theorem strRow_cells {B : Nat} {w : World} {v : Value} {ls : List (List UInt8)} (h : StrRow B w v ls) : ∃ A c, v = .slice A ls.length c ∧ ∀ j (hj : j < ls.length), ∃ g, A = some ⟨g, 0, none⟩ ∧ g < w.heap.size ∧ w.cell? ⟨g, j, none⟩ = some (strOf ls[j]) := by
  by_cases hne : ls = []
  · subst hne
    obtain ⟨_, ⟨rfl, _⟩ | ⟨g, cap, cur, rfl, _⟩⟩ := h
    · exact ⟨none, 0, rfl, fun j hj => by simp at hj⟩
    · exact ⟨_, cap, rfl, fun j hj => by simp at hj⟩
  · obtain ⟨g, cap, rfl, _, hg, hc⟩ := h.open hne
    exact ⟨_, cap, rfl, fun j hj => ⟨g, rfl, hg, hc j hj⟩⟩
theorem str_name (s : ByteArray) : strOf s.data.toList = .string s := by
  unfold strOf
  rw [ba_ext (a := ⟨s.data.toList.toArray⟩) (b := s) (by simp)]
/-- What the map has at a name that is there. -/
theorem look_at {w : World} {b n : Nat} {l : List Wr} (hm : ShM w b n l) (hr : RiseW l) {j : Nat} (hj : j < l.length) (hn : l[j].name.size ≤ maxLen) :
    (Instr.lookup 58 (.map (some b)) (.string l[j].name) false).run Tryz.prog w = .ok (wrV l[j]) w := by
  obtain ⟨vv, ps, hrun, hv⟩ := hm.lookup kd Tryz.underlying58 (Tryz.zeroValue100 w) (zd := .held _) (zp := []) rfl (key_of hn)
  rw [mapD_at, show findW l l[j].name.data.toList = some l[j] from find_at hr hj] at hv
  simp only [heldR, Option.some.injEq, Prod.mk.injEq, DataW.held.injEq] at hv
  rw [hv.1] at hrun
  exact hrun

set_option maxHeartbeats 2000000 in
theorem inOrder_at (b n B : Nat) (l : List Wr) (w : World) (hm : ShM w b n l) (hr : RiseW l) (ho : RsOwn B w l) (hB : B ≤ w.heap.size) (hlen : l.length ≤ 1000) (hnm : ∀ r ∈ l, r.name.size ≤ 1048576) :
    Calls Tryz.prog 53 #[.map (some b)] w fun e w' => ∃ v, e = .returned v ∧ SfOwn B w' v l ∧ (∀ k, v.ownBlock = some k → w.heap.size ≤ k) ∧ Below w.heap.size w w' := by
  have HR := Lib.hid hr
  have HO := Lib.hid ho
  have HN := Lib.hid hnm
  clear hr ho hnm
  have b0 := (Below.refl w.heap.size w).alloc (Nat.le_refl _) (.cells #[.map (some b)] 58)
  obtain ⟨i0, hi, hz0, hz1, hz2⟩ := info_parts infoWk
  go_enter Tryz.func53, Tryz.ntmps53
  go_wp2_with fail
  refine ((callsIn_wide).1 (Tryz.maps_Keys (some b) _)).mono ?_
  rintro e w1 ⟨rfl, rfl⟩
  go_wp2_with fail
  refine ((callsIn_wide).1 (Tryz.slices_Sorted_keys b n (mapD l) heldR w hm (by rw [mapD_size]; unfold maxLen; omega) (by rw [mapD_size]; omega))).mono ?_
  rintro e w2 ⟨v, ss, rfl, hS, hrow, -, b2⟩
  rw [keys_sorted HR.out hS] at hrow
  have hlen2 : ss.length = (l.map nmL).length := by rw [hS.length_eq, mapD_keys]
  have hrow2 : StrRow (w.alloc (.cells #[.map (some b)] 58)).heap.size w2 v (l.map nmL) := by
    unfold StrRow
    rw [← hlen2]
    exact hrow
  obtain ⟨AN, cN, hv, hcells⟩ := strRow_cells hrow2
  rw [List.length_map] at hv
  subst hv
  have HCE := Lib.hid hcells
  have hm2 : ShM w2 b n l := (hm.alloc _).kept (grown_lw b2 none) (by simp)
  have HM2 := Lib.hid hm2
  have b02 := next b0 b2
  clear hrow hrow2 hlen2 hS hcells hm hm2 b2 b0
  go_wp2
  go_loopw [3, 10] (fun out i wr => ∃ j : Nat, i = .int .i64 j ∧ j ≤ l.length ∧ wr.ownsRow w2.heap.size 100 3 out j (cellsOf wrL (l.take j)) ∧ Below w2.heap.size w2 wr) (fun _ i _ => l.length - (intOf i).toNat)
  case atStart => exact ⟨0, rfl, Nat.zero_le _, World.ownsRow_nil _ _ _ _, Below.refl _ _⟩
  case round =>
    obtain ⟨j, rfl, hj, hown, hb⟩ := hrel
    have HOW := Lib.hid hown
    clear hown
    by_cases hlt : j < l.length
    · obtain ⟨gN, hA, hgl, hcell⟩ := HCE.out j (by simpa using hlt)
      subst hA
      have hcell2 : wr.cell? ⟨gN, j, none⟩ = some (.string l[j].name) := by
        rw [hb.cell (p := ⟨gN, j, none⟩) hgl, hcell]
        rw [List.getElem_map]
        exact congrArg some (str_name _)
      have hln : l[j].name.size ≤ maxLen := by have := HN.out _ (List.getElem_mem hlt); unfold maxLen; omega
      have hlk := look_at (HM2.out.kept (grown_lw hb none) (by simp)) HR.out hlt hln
      have hsz := hb.size
      clear hcell
      go_wp2_with (at_builtin; refine wpList_append_flat (k := 3) (enc := wrL) (l := [l[j]]) rfl _ _ 24 rfl w2.heap.size 100 i0 _ 48 Tryz.underlying24 hi hz0 hz1 hz2 rfl (by decide) _ j (cellsOf wrL (l.take j)) rfl (HOW.out.alloc _) (some ⟨wr.heap.size, 0, none⟩) 1 rfl (fun h => by cases h) (one_flatW wr l[j] _) wrL_len (wr_one _) (by simp only [List.length_singleton]; unfold maxLen; omega) (by simp only [List.length_singleton]; omega) (by simp; omega) ?_; intro v' w4 hown4 hgrow4)
      have HOW4 := Lib.hid hown4
      have HGR4 := Lib.hid hgrow4
      clear hown4 hgrow4
      go_roundw
      case rel =>
        refine ⟨j + 1, by go_num, by omega, ?_, ?_⟩
        · rw [List.take_succ_eq_append_getElem hlt, cellsOf_append]
          exact HOW4.out
        · exact below_grow hb HOW.out HGR4.out
      case measure => simp [intOf]; omega
    · have hj' : j = l.length := by omega
      have hown := HOW.out
      rw [hj', List.take_length] at hown
      have HOW2 := Lib.hid hown
      clear hown
      have bw := next b02 hb
      go_wp2
      go_ret
      refine ⟨_, rfl, ⟨World.ownsRow.mono HOW2.out (by have := b02.size; omega), fun r hr => ((HO.out.1 r hr).below bw), fun r hr => ?_, HO.out.2⟩, fun k hk => by
        have h1 := (World.ownsRow.lt HOW2.out k hk).1
        have h2 := b02.size
        omega, bw⟩
      exact own_differ (fun k hk => ((HO.out.1 r hr).lt k hk).2) (fun k hk => by
        have h1 := (World.ownsRow.lt HOW2.out k hk).1
        have h2 := b02.size
        omega)
theorem inOrder_any (b n B : Nat) (l : List Wr) (w : World) (hm : ShM w b n l) (hr : RiseW l) (ho : RsOwn B w l) (hB : B ≤ w.heap.size) (hlen : l.length ≤ 1000) (hnm : ∀ r ∈ l, r.name.size ≤ 1048576) :
    Calls Tryz.prog 53 #[.map (some b)] w fun e w' => ∃ v, e = .returned v ∧ SfOwn B w' v l ∧ Below w.heap.size w w' :=
  (inOrder_at b n B l w hm hr ho hB hlen hnm).mono fun _ _ ⟨v, h1, h2, _, h4⟩ => ⟨v, h1, h2, h4⟩
end Go.Proofs.YtkpbfocnokbmiaaGreat
namespace Go.Proofs.YtkpbfocnokbmiaaGreat
open Go.RowKit
abbrev rpA (c : Int) (p : ByteArray) : Array Value := #[.int .i64 c, .string p]
abbrev rpV (c : Int) (p : ByteArray) : Value := .agg (rpA c p)
abbrev noP : ByteArray := ⟨#[]⟩
end Go.Proofs.YtkpbfocnokbmiaaGreat
namespace Go.Proofs.YtkpbfocnokbmiaaGreat
open Go.RowKit
set_option maxRecDepth 20000

abbrev zW : Value := wkV ⟨#[]⟩ 0 none 0 0

theorem look_none {w : World} {b n : Nat} {l : List Wr} (hm : ShM w b n l) {s : ByteArray} (hs : s.size ≤ maxLen) (hf : findW l s.data.toList = none) :
    (Instr.lookup 58 (.map (some b)) (.string s) true).run Tryz.prog w = .ok (.tuple #[zW, .bool false]) w := by
  obtain ⟨vv, ps, hrun, hv⟩ := hm.look_ok kd Tryz.underlying58 (Tryz.zeroValue100 w) (zd := .held _) (zp := []) rfl (key_of hs)
  rw [mapD_at, hf] at hv
  simp only [heldR, Option.some.injEq, Prod.mk.injEq, DataW.held.injEq] at hv
  rw [hv.1, mapD_has, hf] at hrun
  exact hrun
theorem look_some {w : World} {b n : Nat} {l : List Wr} (hm : ShM w b n l) {s : ByteArray} (hs : s.size ≤ maxLen) {r : Wr} (hf : findW l s.data.toList = some r) :
    (Instr.lookup 58 (.map (some b)) (.string s) true).run Tryz.prog w = .ok (.tuple #[wrV r, .bool true]) w := by
  obtain ⟨vv, ps, hrun, hv⟩ := hm.look_ok kd Tryz.underlying58 (Tryz.zeroValue100 w) (zd := .held _) (zp := []) rfl (key_of hs)
  rw [mapD_at, hf] at hv
  simp only [heldR, Option.some.injEq, Prod.mk.injEq, DataW.held.injEq] at hv
  rw [hv.1, mapD_has, hf] at hrun
  exact hrun
theorem look1_none {w : World} {b n : Nat} {l : List Wr} (hm : ShM w b n l) {s : ByteArray} (hs : s.size ≤ maxLen) (hf : findW l s.data.toList = none) :
    (Instr.lookup 58 (.map (some b)) (.string s) false).run Tryz.prog w = .ok zW w := by
  obtain ⟨vv, ps, hrun, hv⟩ := hm.lookup kd Tryz.underlying58 (Tryz.zeroValue100 w) (zd := .held _) (zp := []) rfl (key_of hs)
  rw [mapD_at, hf] at hv
  simp only [heldR, Option.some.injEq, Prod.mk.injEq, DataW.held.injEq] at hv
  rw [hv.1] at hrun
  exact hrun
theorem look1_some {w : World} {b n : Nat} {l : List Wr} (hm : ShM w b n l) {s : ByteArray} (hs : s.size ≤ maxLen) {r : Wr} (hf : findW l s.data.toList = some r) :
    (Instr.lookup 58 (.map (some b)) (.string s) false).run Tryz.prog w = .ok (wrV r) w := by
  obtain ⟨vv, ps, hrun, hv⟩ := hm.lookup kd Tryz.underlying58 (Tryz.zeroValue100 w) (zd := .held _) (zp := []) rfl (key_of hs)
  rw [mapD_at, hf] at hv
  simp only [heldR, Option.some.injEq, Prod.mk.injEq, DataW.held.injEq] at hv
  rw [hv.1] at hrun
  exact hrun

/-- What owned answers. -/
def ownedV (rs : List Wr) (name : ByteArray) (who : Int) : Value × Int := match findW rs name.data.toList with
  | none => (zW, 1)
  | some r => if r.owner = who then (wrV r, 0) else (zW, 3)

set_option maxHeartbeats 2000000 in
theorem owned_any (b n : Nat) (rs : List Wr) (name : ByteArray) (who : Int) (w : World) (hm : ShM w b n rs) (hn : name.size ≤ maxLen) :
    Calls Tryz.prog 140 #[.map (some b), .string name, .int .i64 who] w fun e w' => e = .returned (.tuple #[(ownedV rs name who).1, rpV (ownedV rs name who).2 noP]) ∧ Below w.heap.size w w' := by
  have hm2 := (hm.alloc (.cells (wkL ⟨#[]⟩ 0 none 0 0) 100)).alloc (.cells (rpA 0 noP) 39)
  rcases hf : findW rs name.data.toList with _ | r
  · have hlk := look_none hm2 hn hf
    have HE : Hid (ownedV rs name who = (zW, 1)) := Lib.hid (by unfold ownedV; rw [hf])
    clear hm hm2
    go_enter Tryz.func140, Tryz.ntmps140
    go_wp2
    refine bodyPost_ret (v := .tuple #[zW, rpV 1 noP]) (by simp [results, Tryz.results140, go_sem]) rfl ⟨by rw [HE.out], ?_⟩
    repeat (first | exact Below.refl _ _ | refine Below.setCell ?_ (by simp <;> omega) _ | refine Below.alloc ?_ (by simp <;> omega) _)
  · have hlk := look_some hm2 hn hf
    by_cases ho : r.owner = who
    · have ho' : (r.owner != who) = false := by simp [ho]
      have HE : Hid (ownedV rs name who = (wrV r, 0)) := Lib.hid (by unfold ownedV; rw [hf]; simp [ho])
      clear hm hm2 ho
      go_enter Tryz.func140, Tryz.ntmps140
      go_wp2
      refine bodyPost_ret (v := .tuple #[wrV r, rpV 0 noP]) (by simp [results, Tryz.results140, go_sem]) rfl ⟨by rw [HE.out], ?_⟩
      repeat (first | exact Below.refl _ _ | refine Below.setCell ?_ (by simp <;> omega) _ | refine Below.alloc ?_ (by simp <;> omega) _)
    · have ho' : (r.owner != who) = true := by simp [ho]
      have HE : Hid (ownedV rs name who = (zW, 3)) := Lib.hid (by unfold ownedV; rw [hf]; simp [ho])
      clear hm hm2 ho
      go_enter Tryz.func140, Tryz.ntmps140
      go_wp2
      refine bodyPost_ret (v := .tuple #[zW, rpV 3 noP]) (by simp [results, Tryz.results140, go_sem]) rfl ⟨by rw [HE.out], ?_⟩
      repeat (first | exact Below.refl _ _ | refine Below.setCell ?_ (by simp <;> omega) _ | refine Below.alloc ?_ (by simp <;> omega) _)

/-! ### A store: the names rise still, each list is in a block of its own. -/
theorem before_trans {a b c : List UInt8} (h : bytesBefore a b = true) (k : bytesBefore b c = true) : bytesBefore a c = true := Go.WideShapes.bytes_trans a b c h k
theorem insW_mem {r x : Wr} : ∀ {l : List Wr}, x ∈ insW r l → x = r ∨ x ∈ l
  | [], h => .inl (by simpa [insW] using h)
  | y :: l, h => by
    unfold insW at h
    split at h
    · rcases List.mem_cons.1 h with h | h
      · exact .inl h
      · exact .inr h
    · rcases List.mem_cons.1 h with h | h
      · exact .inr (by rw [h]; simp)
      · rcases insW_mem h with h | h
        · exact .inl h
        · exact .inr (List.mem_cons_of_mem _ h)
theorem insW_perm (r : Wr) : ∀ l : List Wr, (insW r l).Perm (r :: l)
  | [] => List.Perm.refl _
  | y :: l => by
    unfold insW
    split
    · exact List.Perm.refl _
    · exact ((insW_perm r l).cons y).trans (List.Perm.swap r y l)
theorem insW_rise {r : Wr} : ∀ {l : List Wr}, RiseW l → (∀ x ∈ l, nmL x ≠ nmL r) → RiseW (insW r l)
  | [], _, _ => List.pairwise_singleton _ _
  | y :: l, h, hne => by
    obtain ⟨h1, h2⟩ := List.pairwise_cons.1 h
    unfold insW
    split
    · rename_i hb
      refine List.pairwise_cons.2 ⟨fun z hz => ?_, h⟩
      rcases List.mem_cons.1 hz with rfl | hz
      · exact hb
      · exact before_trans hb (h1 z hz)
    · rename_i hb
      have hyr : bytesBefore (nmL y) (nmL r) = true := by
        rcases Go.WideAt.bytes_total _ _ (hne y (by simp)) with h' | h'
        · exact h'
        · exact absurd h' hb
      refine List.pairwise_cons.2 ⟨fun z hz => ?_, insW_rise h2 fun x hx => hne x (List.mem_cons_of_mem _ hx)⟩
      rcases insW_mem hz with rfl | hz
      · exact hyr
      · exact h1 z hz
theorem putW_rise {l : List Wr} {r : Wr} (h : RiseW l) : RiseW (putW l r) := by
  unfold putW
  refine insW_rise (List.Pairwise.filter _ h) fun x hx => ?_
  have := (List.mem_filter.1 hx).2
  simpa using this
theorem Apart.symm {a b : Value} (h : Apart a b) : Apart b a := by
  unfold Apart at h ⊢
  rcases hb : b.ownBlock with _ | k
  · exact .inl rfl
  · refine .inr fun e => ?_
    rcases h with h | h
    · rw [h] at e; cases e
    · exact h (by rw [hb, ← e])
theorem RsOwn.put {B : Nat} {w : World} {rs : List Wr} {r : Wr} (h : RsOwn B w rs) (ho : CpOwn B w r.sl r.cps) (hap : ∀ x ∈ rs, nmL x ≠ nmL r → Apart r.sl x.sl) : RsOwn B w (putW rs r) := by
  have hp := insW_perm r (rs.filter fun x => !(nmL x == nmL r))
  refine ⟨fun x hx => ?_, ?_⟩
  · rcases insW_mem hx with rfl | hx
    · exact ho
    · exact h.1 x (List.mem_filter.1 hx).1
  · refine (hp.pairwise_iff (fun h => Apart.symm h)).2 (List.pairwise_cons.2 ⟨fun x hx => ?_, List.Pairwise.filter _ h.2⟩)
    obtain ⟨h1, h2⟩ := List.mem_filter.1 hx
    exact hap x h1 (by simpa using h2)
end Go.Proofs.YtkpbfocnokbmiaaGreat
