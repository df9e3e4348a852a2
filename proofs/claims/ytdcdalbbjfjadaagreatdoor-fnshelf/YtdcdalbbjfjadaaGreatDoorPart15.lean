/- Proved, in parts: Proved: the program's fill and shelfOf lay a list of works whose names rise into the map, each in new memory; nothing else is written. Condition: texts and lists of at most a million. Proved: contracts of the library over this program, each by one application of a theorem of the kit; what each asks stands in its head. -/
import Derived.Test.YtdcdalbbjfjadaaGreatDoorPart08
import Derived.Test.YtdcdalbbjfjadaaGreatDoorPart14
import Derived.Shelf.SlIter.Nil
import Derived.Shelf.SortM.Plain
import Derived.Shelf.SortM.SortNone
import Derived.Ground.GgzProg
import Derived.Ground.SlgmProg
import Derived.Test.YtdcdalbbjfjadaaGreatDoorProg
namespace Go.Proofs.YtdcdalbbjfjadaaGreatDoor
open Go.RowKit
set_option maxRecDepth 20000

abbrev mapT : TypeId := 52
abbrev ShM (w : World) (b n : Nat) (l : List Wr) : Prop := w.ownsMap Tryz.prog 9 heldR b n (mapD l)
theorem key_of {s : ByteArray} (hs : s.size ≤ maxLen) : keyOf Tryz.prog 9 (.string s) = some (.string s.data.toList) := Go.WideMaps.keyOf_string_mk Tryz.underlying9 hs
theorem kd : Go.Maps.Keyed Tryz.prog 9 := Go.Maps.string_keyed Tryz.underlying9

theorem grown_tr {a b c : World} {row : Option Nat} (h : a.grownBy b row) (k : b.grownBy c row) : a.grownBy c row :=
  ⟨k.os.trans h.os, k.tape.trans h.tape, k.output.trans h.output, Nat.le_trans h.size k.size, fun i hi hne => (k.block i (Nat.lt_of_lt_of_le hi h.size) hne).trans (h.block i hi hne)⟩
theorem grown_lw {x y : World} (h : Below x.heap.size x y) (row : Option Nat) : x.grownBy y row := ⟨h.os, h.tape, h.output, h.size, fun k hk _ => h.block k hk⟩
theorem grown_new {a b : World} {row : Option Nat} (h : a.grownBy b row) {p : Nat} (hp : a.heap.size ≤ p) (i : Nat) (v : Value) : a.grownBy (b.setCell ⟨p, i, none⟩ v) row :=
  ⟨h.os, h.tape, h.output, by have := h.size; simp; omega, fun k hk hne => by rw [Below.heap_setCell _ _ _ _ (by show k ≠ p; omega)]; exact h.block k hk hne⟩
theorem ShM.set {w : World} {b n g i : Nat} {D : DataW Value} {v : Value} (h : w.ownsMap Tryz.prog 9 heldR b n D) (hne : b ≠ g) : (w.setCell ⟨g, i, none⟩ v).ownsMap Tryz.prog 9 heldR b n D := World.ownsMap.setCell h (a := ⟨g, i, none⟩) hne v
theorem rs_names {rs l : List Wr} (h : rs.map Wr.wk = l.map Wr.wk) : rs.map nmL = l.map nmL := by
  have := congrArg (List.map fun k : M.Wk => k.name.data.toList) h
  simpa [List.map_map, Function.comp_def, Wr.wk] using this
/-- Of names that rise, all of the first j are ahead of the next one. -/
theorem rise_take {l : List Wr} (h : RiseW l) {j : Nat} (hj : j < l.length) {rs : List Wr} (hr : rs.map Wr.wk = (l.take j).map Wr.wk) {r : Wr} (hn : r.name = l[j].name) : ∀ x ∈ rs, bytesBefore (nmL x) (nmL r) = true := by
  intro x hx
  have h1 : nmL x ∈ (l.take j).map nmL := by rw [← rs_names hr]; exact List.mem_map_of_mem hx
  obtain ⟨y, hy, e⟩ := List.mem_map.1 h1
  obtain ⟨i, hi, rfl⟩ := List.mem_iff_getElem.1 hy
  have hi' : i < j := by simp at hi; omega
  have h2 := (List.pairwise_iff_getElem.1 h) i j (by omega) hj hi'
  rw [List.getElem_take] at e
  unfold nmL at e ⊢
  rw [← e, hn]
  exact h2

set_option maxHeartbeats 2000000 in
theorem fill_any (b n : Nat) (D : DataW Value) (A : Option Addr) (l : List Wr) (cap : Nat) (w : World) (hm : w.ownsMap Tryz.prog 9 heldR b n D) (hl : ∀ x, w.grownBy x (some b) → Wks x A l) (hr : RiseW l) (hlen : l.length ≤ 1048576) (hp : WrsIn 1048576 l) :
    Calls Tryz.prog 53 #[.map (some b), .slice A l.length cap] w fun e w' => e = .returned (.tuple #[]) ∧ ∃ rs : List Wr, rs.map Wr.wk = l.map Wr.wk ∧ ShM w' b l.length rs ∧ RsOwn w.heap.size w' rs ∧ w.grownBy w' (some b) := by
  have HP := Lib.hid hp
  have HL := Lib.hid hl
  have HRI := Lib.hid hr
  have hblt := hm.lt
  clear hp hl hr
  go_enter Tryz.func53, Tryz.ntmps53
  go_wp2_with (refine wpList_clear_own rfl _ mapT rfl 9 39 Tryz.underlying52 b n D rfl hm ?_; intro w1 hm1 hg1)
  have hg0 := hg1
  clear hm
  go_loopw [9] (fun i wr => ∃ (j : Nat) (rs : List Wr), i = .int .i64 j ∧ j ≤ l.length ∧ rs.map Wr.wk = (l.take j).map Wr.wk ∧ ShM wr b j rs ∧ RsOwn w.heap.size wr rs ∧ w.grownBy wr (some b)) (fun i _ => l.length - (intOf i).toNat)
  case atStart => exact ⟨0, [], rfl, Nat.zero_le _, rfl, hm1, RsOwn.nil _ _, hg0⟩
  case round =>
    clear hm1 hg0 hg1
    obtain ⟨j, rs, rfl, hj, hrm, hmr, hor, hgr⟩ := hrel
    have HM := Lib.hid hmr
    have HO := Lib.hid hor
    have HRM := Lib.hid hrm
    clear hmr hor hrm
    by_cases hlt : j < l.length
    · obtain ⟨bA, oA, hA, lb, c0, c1, c2, hcp⟩ := Wks_at (HL.out wr hgr) hlt
      subst hA
      obtain ⟨hpn, hpl, hpp⟩ := HP.out _ (List.getElem_mem hlt)
      have HPP := Lib.hid hpp
      have HCP := Lib.hid (hcp.alloc (.cells (wkL l[j].name l[j].owner l[j].ad l[j].cps.length l[j].cap) 39))
      have hsz := hgr.size
      clear hpp hcp
      go_wp2_with fail
      refine (newWork_any l[j].name l[j].owner l[j].ad l[j].cps l[j].cap _ HCP.out hpn hpl HPP.out).mono ?_
      rintro e y ⟨A', c', rfl, ho, by1⟩
      have hH := (holds_new wr (wkL l[j].name l[j].owner l[j].ad l[j].cps.length l[j].cap) 39).below by1
      have hL := (loose_new wr (wkL l[j].name l[j].owner l[j].ad l[j].cps.length l[j].cap) 39).below (by simp) by1
      obtain ⟨p0, p1, p2⟩ := hH.three
      have z0 := hL 0
      have z1 := hL 1
      have z2 := hL 2
      have hRb : b ≠ wr.heap.size := by omega
      have hnm : l[j].name.size ≤ maxLen := by unfold maxLen; omega
      have hm2 : (((y.setCell ⟨wr.heap.size, 0, none⟩ (.string l[j].name)).setCell ⟨wr.heap.size, 1, none⟩ (.int .i64 l[j].owner)).setCell ⟨wr.heap.size, 2, none⟩ (.slice A' l[j].cps.length c')).ownsMap Tryz.prog 9 heldR b j (mapD rs) :=
        ShM.set (ShM.set (ShM.set ((HM.out.alloc _).kept (grown_lw by1 none) (by simp)) hRb) hRb) hRb
      have ho2 := HO.out.below ((Below.refl _ _).alloc (Nat.le_refl _) (.cells (wkL l[j].name l[j].owner l[j].ad l[j].cps.length l[j].cap) 39))
      have ho3 := ho2.snoc by1 (by simp; omega) ⟨l[j].name, l[j].owner, A', c', l[j].cps⟩ ho
      have hne : ∀ r ∈ rs ++ [(⟨l[j].name, l[j].owner, A', c', l[j].cps⟩ : Wr)], r.sl.ownBlock ≠ some wr.heap.size := fun r hr e => by
        rcases List.mem_append.1 hr with hr | hr
        · have := ((HO.out.1 r hr).lt _ e).2; omega
        · obtain rfl := List.mem_singleton.1 hr
          have := (ho.lt _ e).1
          simp at this; omega
      have ho4 := ((ho3.set hne 0 (.string l[j].name)).set hne 1 (.int .i64 l[j].owner)).set hne 2 (.slice A' l[j].cps.length c')
      have hg4 : w.grownBy (((y.setCell ⟨wr.heap.size, 0, none⟩ (.string l[j].name)).setCell ⟨wr.heap.size, 1, none⟩ (.int .i64 l[j].owner)).setCell ⟨wr.heap.size, 2, none⟩ (.slice A' l[j].cps.length c')) (some b) :=
        grown_new (grown_new (grown_new (grown_tr hgr (grown_tr (World.grownBy_alloc wr _ _) (grown_lw by1 _))) hsz _ _) hsz _ _) hsz _ _
      have HM2 := Lib.hid hm2
      have HO4 := Lib.hid ho4
      have HG4 := Lib.hid hg4
      clear hm2 ho2 ho3 ho4 hg4 hne hH hL by1 ho
      go_wp2_with (at_mapUpdate; refine wpList_mapUpdate_own _ rfl _ _ _ mapT rfl 9 39 kd Tryz.underlying52 heldR b j (mapD rs) rfl HM2.out (by unfold maxLen; omega) (.string l[j].name) (wkV l[j].name l[j].owner A' l[j].cps.length c') (.string l[j].name.data.toList) rfl rfl (key_of hnm) (.held (wkV l[j].name l[j].owner A' l[j].cps.length c')) [] rfl ?_; intro w3 hm3 hg3)
      have HM3 := Lib.hid hm3
      have HG3 := Lib.hid hg3
      clear hm3 hg3
      go_roundw
      case rel =>
        refine ⟨j + 1, rs ++ [⟨l[j].name, l[j].owner, A', c', l[j].cps⟩], by go_num, by omega, ?_, ?_, HO4.out.by HG3.out hblt, grown_tr HG4.out HG3.out⟩
        · rw [List.map_append, HRM.out, List.take_succ_eq_append_getElem hlt, List.map_append]; rfl
        · have e1 := mapD_put rs ⟨l[j].name, l[j].owner, A', c', l[j].cps⟩
          rw [putW_snoc (rise_take (r := ⟨l[j].name, l[j].owner, A', c', l[j].cps⟩) HRI.out hlt HRM.out rfl)] at e1
          have h3 := HM3.out
          rw [show (mapD rs).put (.string l[j].name.data.toList) (.held (wkV l[j].name l[j].owner A' l[j].cps.length c')) = mapD (rs ++ [⟨l[j].name, l[j].owner, A', c', l[j].cps⟩]) from e1] at h3
          exact h3
      case measure => simp [intOf]; omega
    · have hj' : j = l.length := by omega
      have hrm := HRM.out
      have hmm := HM.out
      rw [hj'] at hrm hmm
      rw [List.take_length] at hrm
      have HRM2 := Lib.hid hrm
      have HM2 := Lib.hid hmm
      clear hrm hmm
      go_wp2
      exact bodyPost_end (v := .tuple #[]) (by simp [results, Tryz.results53, go_sem]) rfl ⟨rfl, rs, HRM2.out, HM2.out, HO.out, hgr⟩

set_option maxHeartbeats 1000000 in
theorem shelfOf_any (A : Option Addr) (l : List Wr) (cap : Nat) (w : World) (hl : Wks w A l) (hr : RiseW l) (hlen : l.length ≤ 1048576) (hp : WrsIn 1048576 l) :
    Calls Tryz.prog 21 #[.slice A l.length cap] w fun e w' => e = .returned (.map (some w.heap.size)) ∧ ∃ rs : List Wr, rs.map Wr.wk = l.map Wr.wk ∧ ShM w' w.heap.size l.length rs ∧ RsOwn (w.heap.size + 1) w' rs ∧ Below w.heap.size w w' := by
  have b0 := (Below.refl w.heap.size w).alloc (Nat.le_refl _) (.map #[] 0)
  have hm := World.ownsMap_made w Tryz.prog 9 heldR
  have hmk : (Instr.makeMap 52 none).run Tryz.prog w = .ok (.map (some w.heap.size)) (w.alloc (.map #[] 0)) := run_makeMap _ w
  go_enter Tryz.func21, Tryz.ntmps21
  go_wp2_with fail
  refine (fill_any w.heap.size 0 (.map []) A l cap _ hm (fun x hg => hl.below (b0.grown hg (by simp) (fun k e => by cases e; exact Nat.le_refl _))) hr hlen hp).mono ?_
  rintro e w1 ⟨rfl, rs, h1, h2, h3, h4⟩
  rw [World.size_alloc] at h3
  have b1 : Below w.heap.size w w1 := b0.grown h4 (by simp) (fun k e => by cases e; exact Nat.le_refl _)
  have HM := Lib.hid h2
  clear h2 h4 hm
  go_wp2
  go_ret
  exact ⟨rfl, rs, h1, HM.out, h3, b1⟩
end Go.Proofs.YtdcdalbbjfjadaaGreatDoor
namespace Go.Proofs
open Go.RowKit Go.Maps Go.Sort Go.Shelf
def Tryz.keys56_ren : Go.Shelf.Ren := ⟨fun | 7 => 56 | 10 => 93 | n => n, fun | 23 => 52 | 26 => 9 | 3 => 39 | 28 => 85 | 0 => 0 | 27 => 84 | 33 => 91 | 4 => 4 | n => n, fun | n => n⟩
theorem Tryz.keys56 : Go.Proofs.SlLaysZ.n7 Tryz.prog Tryz.keys56_ren := {
  mixed := by kernel_rfl
  f7 := ⟨Tryz.f56.name, by decide, Tryz.func56.trans (congrArg some (by kernel_rfl))⟩
  f10 := ⟨Tryz.f93.name, by decide, Tryz.func93.trans (congrArg some (by kernel_rfl))⟩
  t0 := Tryz.underlying0
  a0 := Tryz.isAgg0
  z0 := Tryz.sizeOf0
  v0 := Tryz.zeroValue0
  t4 := Tryz.underlying4
  a4 := Tryz.isAgg4
  z4 := Tryz.sizeOf4
  v4 := Tryz.zeroValue4
  t23 := Tryz.underlying52
  a23 := Tryz.isAgg52
  z23 := Tryz.sizeOf52
  v23 := Tryz.zeroValue52
  t26 := Tryz.underlying9
  a26 := Tryz.isAgg9
  z26 := Tryz.sizeOf9
  v26 := Tryz.zeroValue9
  t27 := Tryz.underlying84
  a27 := Tryz.isAgg84
  z27 := Tryz.sizeOf84
  v27 := Tryz.zeroValue84
  t28 := Tryz.underlying85
  a28 := Tryz.isAgg85
  z28 := Tryz.sizeOf85
  v28 := Tryz.zeroValue85
  t33 := Tryz.underlying91
  a33 := Tryz.isAgg91
  z33 := Tryz.sizeOf91
  v33 := Tryz.zeroValue91 }
def Tryz.sorted55_ren : Go.Shelf.Ren := ⟨fun | 6 => 55 | 8 => 91 | 9 => 92 | 11 => 109 | 13 => 111 | 12 => 110 | 23 => 132 | 24 => 133 | 14 => 123 | 15 => 124 | 16 => 125 | 17 => 126 | 18 => 127 | 19 => 128 | 20 => 129 | 21 => 130 | 22 => 131 | 25 => 140 | 26 => 141 | 27 => 142 | 28 => 143 | 29 => 144 | 30 => 145 | 31 => 150 | n => n, fun | 26 => 9 | 28 => 85 | 24 => 66 | 0 => 0 | 3 => 3 | 37 => 141 | 48 => 168 | 50 => 170 | 4 => 4 | 40 => 161 | 39 => 160 | 45 => 156 | 5 => 5 | 9 => 9 | 51 => 176 | 55 => 180 | 57 => 187 | 58 => 188 | 33 => 91 | n => n, fun | n => n⟩
theorem Tryz.sorted55 : Go.Proofs.SlLaysZ.n6 Tryz.prog Tryz.sorted55_ren := {
  mixed := by kernel_rfl
  f6 := ⟨Tryz.f55.name, by decide, Tryz.func55.trans (congrArg some (by kernel_rfl))⟩
  f8 := ⟨Tryz.f91.name, by decide, Tryz.func91.trans (congrArg some (by kernel_rfl))⟩
  f11 := ⟨Tryz.f109.name, by decide, Tryz.func109.trans (congrArg some (by kernel_rfl))⟩
  t0 := Tryz.underlying0
  a0 := Tryz.isAgg0
  z0 := Tryz.sizeOf0
  v0 := Tryz.zeroValue0
  t24 := Tryz.underlying66
  a24 := Tryz.isAgg66
  z24 := Tryz.sizeOf66
  v24 := Tryz.zeroValue66
  t26 := Tryz.underlying9
  a26 := Tryz.isAgg9
  z26 := Tryz.sizeOf9
  v26 := Tryz.zeroValue9
  t28 := Tryz.underlying85
  a28 := Tryz.isAgg85
  z28 := Tryz.sizeOf85
  v28 := Tryz.zeroValue85
  i26 := by kernel_rfl }
def Tryz.sort92_ren : Go.Shelf.Ren := ⟨fun | 6 => 92 | 8 => 111 | 9 => 110 | 19 => 132 | 20 => 133 | 21 => 123 | 22 => 124 | 23 => 125 | 24 => 126 | 25 => 127 | 26 => 128 | 27 => 129 | 28 => 130 | 29 => 131 | 36 => 140 | 31 => 141 | 32 => 142 | 37 => 143 | 38 => 144 | 39 => 145 | 41 => 150 | n => n, fun | 27 => 66 | 29 => 9 | 3 => 3 | 32 => 141 | 26 => 66 | 0 => 0 | 44 => 168 | 46 => 170 | 4 => 4 | 36 => 161 | 35 => 160 | 41 => 156 | 5 => 5 | 9 => 9 | 53 => 176 | 57 => 180 | 63 => 187 | 64 => 188 | n => n, fun | n => n⟩
theorem Tryz.sort92 : Go.Proofs.SlLaysM.n6 Tryz.prog Tryz.sort92_ren := {
  mixed := by kernel_rfl
  f6 := ⟨Tryz.f92.name, by decide, Tryz.func92.trans (congrArg some (by kernel_rfl))⟩
  f8 := Tryz.func111.trans (congrArg some (by kernel_rfl))
  f9 := ⟨Tryz.f110.name, by decide, Tryz.func110.trans (congrArg some (by kernel_rfl))⟩
  f19 := Tryz.func132.trans (congrArg some (by kernel_rfl))
  f20 := Tryz.func133.trans (congrArg some (by kernel_rfl))
  f21 := ⟨Tryz.f123.name, by decide, Tryz.func123.trans (congrArg some (by kernel_rfl))⟩
  f22 := ⟨Tryz.f124.name, by decide, Tryz.func124.trans (congrArg some (by kernel_rfl))⟩
  f23 := ⟨Tryz.f125.name, by decide, Tryz.func125.trans (congrArg some (by kernel_rfl))⟩
  f24 := ⟨Tryz.f126.name, by decide, Tryz.func126.trans (congrArg some (by kernel_rfl))⟩
  f25 := ⟨Tryz.f127.name, by decide, Tryz.func127.trans (congrArg some (by kernel_rfl))⟩
  f26 := ⟨Tryz.f128.name, by decide, Tryz.func128.trans (congrArg some (by kernel_rfl))⟩
  f27 := ⟨Tryz.f129.name, by decide, Tryz.func129.trans (congrArg some (by kernel_rfl))⟩
  f28 := ⟨Tryz.f130.name, by decide, Tryz.func130.trans (congrArg some (by kernel_rfl))⟩
  f29 := ⟨Tryz.f131.name, by decide, Tryz.func131.trans (congrArg some (by kernel_rfl))⟩
  f31 := Tryz.func141.trans (congrArg some (by kernel_rfl))
  f32 := Tryz.func142.trans (congrArg some (by kernel_rfl))
  f36 := ⟨Tryz.f140.name, by decide, Tryz.func140.trans (congrArg some (by kernel_rfl))⟩
  f37 := ⟨Tryz.f143.name, by decide, Tryz.func143.trans (congrArg some (by kernel_rfl))⟩
  f38 := ⟨Tryz.f144.name, by decide, Tryz.func144.trans (congrArg some (by kernel_rfl))⟩
  f39 := ⟨Tryz.f145.name, by decide, Tryz.func145.trans (congrArg some (by kernel_rfl))⟩
  f41 := ⟨Tryz.f150.name, by decide, Tryz.func150.trans (congrArg some (by kernel_rfl))⟩
  t0 := Tryz.underlying0
  a0 := Tryz.isAgg0
  z0 := Tryz.sizeOf0
  v0 := Tryz.zeroValue0
  t3 := Tryz.underlying3
  a3 := Tryz.isAgg3
  z3 := Tryz.sizeOf3
  v3 := Tryz.zeroValue3
  t4 := Tryz.underlying4
  a4 := Tryz.isAgg4
  z4 := Tryz.sizeOf4
  v4 := Tryz.zeroValue4
  t5 := Tryz.underlying5
  a5 := Tryz.isAgg5
  z5 := Tryz.sizeOf5
  v5 := Tryz.zeroValue5
  t9 := Tryz.underlying9
  a9 := Tryz.isAgg9
  z9 := Tryz.sizeOf9
  v9 := Tryz.zeroValue9
  t26 := Tryz.underlying66
  a26 := Tryz.isAgg66
  z26 := Tryz.sizeOf66
  v26 := Tryz.zeroValue66
  t27 := Tryz.underlying66
  a27 := Tryz.isAgg66
  z27 := Tryz.sizeOf66
  v27 := Tryz.zeroValue66
  t29 := Tryz.underlying9
  a29 := Tryz.isAgg9
  z29 := Tryz.sizeOf9
  v29 := Tryz.zeroValue9
  t32 := Tryz.underlying141
  a32 := Tryz.isAgg141
  z32 := Tryz.sizeOf141
  v32 := Tryz.zeroValue141
  t35 := Tryz.underlying160
  a35 := Tryz.isAgg160
  z35 := Tryz.sizeOf160
  v35 := Tryz.zeroValue160
  t36 := Tryz.underlying161
  a36 := Tryz.isAgg161
  z36 := Tryz.sizeOf161
  v36 := Tryz.zeroValue161
  t41 := Tryz.underlying156
  a41 := Tryz.isAgg156
  z41 := Tryz.sizeOf156
  v41 := Tryz.zeroValue156
  t44 := Tryz.underlying168
  a44 := Tryz.isAgg168
  z44 := Tryz.sizeOf168
  v44 := Tryz.zeroValue168
  t46 := Tryz.underlying170
  a46 := Tryz.isAgg170
  z46 := Tryz.sizeOf170
  v46 := Tryz.zeroValue170
  t53 := Tryz.underlying176
  a53 := Tryz.isAgg176
  z53 := Tryz.sizeOf176
  v53 := Tryz.zeroValue176
  t57 := Tryz.underlying180
  a57 := Tryz.isAgg180
  z57 := Tryz.sizeOf180
  v57 := Tryz.zeroValue180
  t63 := Tryz.underlying187
  a63 := Tryz.isAgg187
  z63 := Tryz.sizeOf187
  v63 := Tryz.zeroValue187
  t64 := Tryz.underlying188
  a64 := Tryz.isAgg188
  z64 := Tryz.sizeOf188
  v64 := Tryz.zeroValue188 }
theorem Tryz.sorts55 (m : Nat) : AnyZ.SortsIn Tryz.prog Tryz.sorted55_ren Fence.wide m :=
  ⟨fun blk off cap ss W hH hblk hsz => callsIn_wide.2 (AnyM.slices_Sort_string Tryz.sort92 blk off cap ss W hH hblk hsz),
   fun p cap W => callsIn_wide.2 (AnyM.slices_Sort_string_none Tryz.sort92 p cap W)⟩

theorem Tryz.maps_Keys (mb : Option Nat) (W : World) : CallsIn Fence.wide 5 Tryz.prog 56 #[.map mb] W fun e w' => e = .returned (.func (.func 93) #[] #[.pointer (some ⟨W.heap.size, 0, none⟩)]) ∧ w' = W.alloc (.cells #[.map mb] 52) :=
  AnyZ.keys_in Tryz.keys56 Fence.wide 5 trivial rfl mb W

set_option maxHeartbeats 1000000 in
theorem Tryz.slices_Sorted_keys {H : Type} (b nn : Nat) (D0 : DataW H) (R : Value → Option (DataW H × List MemPlace)) (w : World) (hown : w.ownsMap Tryz.prog 9 R b nn D0) (hmax : Maps.size D0 ≤ maxLen) (hbytes : Maps.size D0 * 16 ≤ 140737488355328) :
    CallsIn Fence.wide 5 Tryz.prog 55 #[.func (.func 93) #[] #[.pointer (some ⟨w.heap.size, 0, none⟩)]] (w.alloc (.cells #[.map (some b)] 52)) fun e w' => ∃ (v : Value) (ss : List (List UInt8)), e = .returned v ∧ ss.Perm (strKeys D0) ∧
      w'.ownsRow (w.alloc (.cells #[.map (some b)] 52)).heap.size 9 1 v ss.length ((ss.mergeSort (fun x y => decide (x ≤ y))).map encStr) ∧ (v = .slice none 0 0 ↔ ss = []) ∧ Below (w.alloc (.cells #[.map (some b)] 52)).heap.size (w.alloc (.cells #[.map (some b)] 52)) w' := by
  have hbl := hown.lt
  have hseq : SeqGives Fence.wide 2 Tryz.prog 93 #[.pointer (some ⟨w.heap.size, 0, none⟩)] encStr (fun ss => ss.Perm (strKeys D0)) (Maps.size D0) (w.alloc (.cells #[.map (some b)] 52)) :=
    AnyZ.keys_gives (ρ := Tryz.keys56_ren) { Tryz.keys56 with } Fence.wide _ trivial rfl (by omega) w.heap.size b nn D0 _ (by simp) (by simp) (by
      obtain ⟨es, clock, hb, Ft, hs, hD⟩ := hown
      exact ⟨es, clock, (Below.heap_alloc _ _ b hbl).trans hb, Ft, hs, hD⟩)
  exact AnyZ.sorted_in Tryz.sorted55 Fence.wide 5 trivial trivial trivial trivial rfl (by omega) (Tryz.sorts55 _) (enters_of Tryz.func92 (by kernel_rfl) rfl) 93 #[.pointer (some ⟨w.heap.size, 0, none⟩)] trivial (enters_of Tryz.func93 (by kernel_rfl) rfl) _ _ hmax hbytes _ hseq

end Go.Proofs
