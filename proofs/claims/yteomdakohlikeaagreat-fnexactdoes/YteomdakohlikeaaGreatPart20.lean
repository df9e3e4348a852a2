/- Proved, in parts: Proved: the program's fill and shelfOf lay a list of works whose names rise into the map, each in new memory; nothing else is written. Condition: texts and lists of at most a million. Proved: contracts of the library over this program, each by one application of a theorem of the kit; what each asks stands in its head. -/
import Derived.Test.YteomdakohlikeaaGreatPart11
import Derived.Test.YteomdakohlikeaaGreatPart19
import Derived.Shelf.SlIter.Nil
import Derived.Shelf.SortM.Plain
import Derived.Shelf.SortM.SortNone
import Derived.Ground.GgzProg
import Derived.Ground.SlgmProg
import Derived.Test.YteomdakohlikeaaGreatProg
namespace Go.Proofs.YteomdakohlikeaaGreat
open Go.RowKit
set_option maxRecDepth 20000

abbrev mapT : TypeId := 100
abbrev ShM (w : World) (b n : Nat) (l : List Wr) : Prop := w.ownsMap Tryz.prog 9 heldR b n (mapD l)
theorem key_of {s : ByteArray} (hs : s.size ≤ maxLen) : keyOf Tryz.prog 9 (.string s) = some (.string s.data.toList) := Go.WideMaps.keyOf_string_mk Tryz.underlying9 hs
theorem kd : Go.Maps.Keyed Tryz.prog 9 := Go.Maps.string_keyed Tryz.underlying9

theorem grown_tr {a b c : World} {row : Option Nat} (h : a.grownBy b row) (k : b.grownBy c row) : a.grownBy c row :=
  ⟨k.os.trans h.os, k.tape.trans h.tape, k.output.trans h.output, Nat.le_trans h.size k.size, fun i hi hne => (k.block i (Nat.lt_of_lt_of_le hi h.size) hne).trans (h.block i hi hne)⟩
theorem grown_lw {x y : World} (h : Below x.heap.size x y) (row : Option Nat) : x.grownBy y row := ⟨h.os, h.tape, h.output, h.size, fun k hk _ => h.block k hk⟩
theorem grown_new {a b : World} {row : Option Nat} (h : a.grownBy b row) {p : Nat} (hp : a.heap.size ≤ p) (i : Nat) (v : Value) : a.grownBy (b.setCell ⟨p, i, none⟩ v) row :=
  ⟨h.os, h.tape, h.output, by have := h.size; simp; omega, fun k hk hne => by rw [Below.heap_setCell _ _ _ _ (by show k ≠ p; omega)]; exact h.block k hk hne⟩
theorem ShM.set {w : World} {b n g i : Nat} {D : DataW Value} {v : Value} (h : w.ownsMap Tryz.prog 9 heldR b n D) (hne : b ≠ g) : (w.setCell ⟨g, i, none⟩ v).ownsMap Tryz.prog 9 heldR b n D := World.ownsMap.setCell h (a := ⟨g, i, none⟩) hne v
theorem rs_names {rs l : List Wr} (h : rs.map Wr.wk = l.map Wr.wk) : rs.map nmL = l.map nmL := by
  have := congrArg (List.map fun k : M.Wk => k.name.data.toList) h
  simpa [List.map_map, Function.comp_def, Wr.wk] using this
/-- Of names that rise, all of the first j are ahead of the next one. -/
theorem rise_take {l : List Wr} (h : RiseW l) {j : Nat} (hj : j < l.length) {rs : List Wr} (hr : rs.map Wr.wk = (l.take j).map Wr.wk) {r : Wr} (hn : r.name = l[j].name) : ∀ x ∈ rs, bytesBefore (nmL x) (nmL r) = true := by
  intro x hx
  have h1 : nmL x ∈ (l.take j).map nmL := by rw [← rs_names hr]; exact List.mem_map_of_mem hx
  obtain ⟨y, hy, e⟩ := List.mem_map.1 h1
  obtain ⟨i, hi, rfl⟩ := List.mem_iff_getElem.1 hy
  have hi' : i < j := by simp at hi; omega
  have h2 := (List.pairwise_iff_getElem.1 h) i j (by omega) hj hi'
  rw [List.getElem_take] at e
  unfold nmL at e ⊢
  rw [← e, hn]
  exact h2

set_option maxHeartbeats 2000000 in
theorem fill_any (b n : Nat) (D : DataW Value) (A : Option Addr) (l : List Wr) (cap : Nat) (w : World) (hm : w.ownsMap Tryz.prog 9 heldR b n D) (hl : ∀ x, w.grownBy x (some b) → Wks x A l) (hr : RiseW l) (hlen : l.length ≤ 1048576) (hp : WrsIn 1048576 l) :
    Calls Tryz.prog 90 #[.map (some b), .slice A l.length cap] w fun e w' => e = .returned (.tuple #[]) ∧ ∃ rs : List Wr, rs.map Wr.wk = l.map Wr.wk ∧ ShM w' b l.length rs ∧ RsOwn w.heap.size w' rs ∧ w.grownBy w' (some b) := by
  have HP := Lib.hid hp
  have HL := Lib.hid hl
  have HRI := Lib.hid hr
  have hblt := hm.lt
  clear hp hl hr
  go_enter Tryz.func90, Tryz.ntmps90
  go_wp2_with (refine wpList_clear_own rfl _ mapT rfl 9 44 Tryz.underlying100 b n D rfl hm ?_; intro w1 hm1 hg1)
  have hg0 := hg1
  clear hm
  go_loopw [9] (fun i wr => ∃ (j : Nat) (rs : List Wr), i = .int .i64 j ∧ j ≤ l.length ∧ rs.map Wr.wk = (l.take j).map Wr.wk ∧ ShM wr b j rs ∧ RsOwn w.heap.size wr rs ∧ w.grownBy wr (some b)) (fun i _ => l.length - (intOf i).toNat)
  case atStart => exact ⟨0, [], rfl, Nat.zero_le _, rfl, hm1, RsOwn.nil _ _, hg0⟩
  case round =>
    clear hm1 hg0 hg1
    obtain ⟨j, rs, rfl, hj, hrm, hmr, hor, hgr⟩ := hrel
    have HM := Lib.hid hmr
    have HO := Lib.hid hor
    have HRM := Lib.hid hrm
    clear hmr hor hrm
    by_cases hlt : j < l.length
    · obtain ⟨bA, oA, hA, lb, c0, c1, c2, hcp⟩ := Wks_at (HL.out wr hgr) hlt
      subst hA
      obtain ⟨hpn, hpl, hpp⟩ := HP.out _ (List.getElem_mem hlt)
      have HPP := Lib.hid hpp
      have HCP := Lib.hid (hcp.alloc (.cells (wkL l[j].name l[j].owner l[j].ad l[j].cps.length l[j].cap) 44))
      have hsz := hgr.size
      clear hpp hcp
      go_wp2_with fail
      refine (newWork_any l[j].name l[j].owner l[j].ad l[j].cps l[j].cap _ HCP.out hpn hpl HPP.out).mono ?_
      rintro e y ⟨A', c', rfl, ho, by1⟩
      have hH := (holds_new wr (wkL l[j].name l[j].owner l[j].ad l[j].cps.length l[j].cap) 44).below by1
      have hL := (loose_new wr (wkL l[j].name l[j].owner l[j].ad l[j].cps.length l[j].cap) 44).below (by simp) by1
      obtain ⟨p0, p1, p2⟩ := hH.three
      have z0 := hL 0
      have z1 := hL 1
      have z2 := hL 2
      have hRb : b ≠ wr.heap.size := by omega
      have hnm : l[j].name.size ≤ maxLen := by unfold maxLen; omega
      have hm2 : (((y.setCell ⟨wr.heap.size, 0, none⟩ (.string l[j].name)).setCell ⟨wr.heap.size, 1, none⟩ (.int .i64 l[j].owner)).setCell ⟨wr.heap.size, 2, none⟩ (.slice A' l[j].cps.length c')).ownsMap Tryz.prog 9 heldR b j (mapD rs) :=
        ShM.set (ShM.set (ShM.set ((HM.out.alloc _).kept (grown_lw by1 none) (by simp)) hRb) hRb) hRb
      have ho2 := HO.out.below ((Below.refl _ _).alloc (Nat.le_refl _) (.cells (wkL l[j].name l[j].owner l[j].ad l[j].cps.length l[j].cap) 44))
      have ho3 := ho2.snoc by1 (by simp; omega) ⟨l[j].name, l[j].owner, A', c', l[j].cps⟩ ho
      have hne : ∀ r ∈ rs ++ [(⟨l[j].name, l[j].owner, A', c', l[j].cps⟩ : Wr)], r.sl.ownBlock ≠ some wr.heap.size := fun r hr e => by
        rcases List.mem_append.1 hr with hr | hr
        · have := ((HO.out.1 r hr).lt _ e).2; omega
        · obtain rfl := List.mem_singleton.1 hr
          have := (ho.lt _ e).1
          simp at this; omega
      have ho4 := ((ho3.set hne 0 (.string l[j].name)).set hne 1 (.int .i64 l[j].owner)).set hne 2 (.slice A' l[j].cps.length c')
      have hg4 : w.grownBy (((y.setCell ⟨wr.heap.size, 0, none⟩ (.string l[j].name)).setCell ⟨wr.heap.size, 1, none⟩ (.int .i64 l[j].owner)).setCell ⟨wr.heap.size, 2, none⟩ (.slice A' l[j].cps.length c')) (some b) :=
        grown_new (grown_new (grown_new (grown_tr hgr (grown_tr (World.grownBy_alloc wr _ _) (grown_lw by1 _))) hsz _ _) hsz _ _) hsz _ _
      have HM2 := Lib.hid hm2
      have HO4 := Lib.hid ho4
      have HG4 := Lib.hid hg4
      clear hm2 ho2 ho3 ho4 hg4 hne hH hL by1 ho
      go_wp2_with (at_mapUpdate; refine wpList_mapUpdate_own _ rfl _ _ _ mapT rfl 9 44 kd Tryz.underlying100 heldR b j (mapD rs) rfl HM2.out (by unfold maxLen; omega) (.string l[j].name) (wkV l[j].name l[j].owner A' l[j].cps.length c') (.string l[j].name.data.toList) rfl rfl (key_of hnm) (.held (wkV l[j].name l[j].owner A' l[j].cps.length c')) [] rfl ?_; intro w3 hm3 hg3)
      have HM3 := Lib.hid hm3
      have HG3 := Lib.hid hg3
      clear hm3 hg3
      go_roundw
      case rel =>
        refine ⟨j + 1, rs ++ [⟨l[j].name, l[j].owner, A', c', l[j].cps⟩], by go_num, by omega, ?_, ?_, HO4.out.by HG3.out hblt, grown_tr HG4.out HG3.out⟩
        · rw [List.map_append, HRM.out, List.take_succ_eq_append_getElem hlt, List.map_append]; rfl
        · have e1 := mapD_put rs ⟨l[j].name, l[j].owner, A', c', l[j].cps⟩
          rw [putW_snoc (rise_take (r := ⟨l[j].name, l[j].owner, A', c', l[j].cps⟩) HRI.out hlt HRM.out rfl)] at e1
          have h3 := HM3.out
          rw [show (mapD rs).put (.string l[j].name.data.toList) (.held (wkV l[j].name l[j].owner A' l[j].cps.length c')) = mapD (rs ++ [⟨l[j].name, l[j].owner, A', c', l[j].cps⟩]) from e1] at h3
          exact h3
      case measure => simp [intOf]; omega
    · have hj' : j = l.length := by omega
      have hrm := HRM.out
      have hmm := HM.out
      rw [hj'] at hrm hmm
      rw [List.take_length] at hrm
      have HRM2 := Lib.hid hrm
      have HM2 := Lib.hid hmm
      clear hrm hmm
      go_wp2
      exact bodyPost_end (v := .tuple #[]) (by simp [results, Tryz.results90, go_sem]) rfl ⟨rfl, rs, HRM2.out, HM2.out, HO.out, hgr⟩

set_option maxHeartbeats 1000000 in
theorem shelfOf_any (A : Option Addr) (l : List Wr) (cap : Nat) (w : World) (hl : Wks w A l) (hr : RiseW l) (hlen : l.length ≤ 1048576) (hp : WrsIn 1048576 l) :
    Calls Tryz.prog 49 #[.slice A l.length cap] w fun e w' => e = .returned (.map (some w.heap.size)) ∧ ∃ rs : List Wr, rs.map Wr.wk = l.map Wr.wk ∧ ShM w' w.heap.size l.length rs ∧ RsOwn (w.heap.size + 1) w' rs ∧ Below w.heap.size w w' := by
  have b0 := (Below.refl w.heap.size w).alloc (Nat.le_refl _) (.map #[] 0)
  have hm := World.ownsMap_made w Tryz.prog 9 heldR
  have hmk : (Instr.makeMap 100 none).run Tryz.prog w = .ok (.map (some w.heap.size)) (w.alloc (.map #[] 0)) := run_makeMap _ w
  go_enter Tryz.func49, Tryz.ntmps49
  go_wp2_with fail
  refine (fill_any w.heap.size 0 (.map []) A l cap _ hm (fun x hg => hl.below (b0.grown hg (by simp) (fun k e => by cases e; exact Nat.le_refl _))) hr hlen hp).mono ?_
  rintro e w1 ⟨rfl, rs, h1, h2, h3, h4⟩
  rw [World.size_alloc] at h3
  have b1 : Below w.heap.size w w1 := b0.grown h4 (by simp) (fun k e => by cases e; exact Nat.le_refl _)
  have HM := Lib.hid h2
  clear h2 h4 hm
  go_wp2
  go_ret
  exact ⟨rfl, rs, h1, HM.out, h3, b1⟩
end Go.Proofs.YteomdakohlikeaaGreat
namespace Go.Proofs
open Go.RowKit Go.Maps Go.Sort Go.Shelf
def Tryz.keys93_ren : Go.Shelf.Ren := ⟨fun | 7 => 93 | 10 => 140 | n => n, fun | 23 => 100 | 26 => 9 | 3 => 44 | 28 => 146 | 0 => 0 | 27 => 145 | 33 => 150 | 4 => 4 | n => n, fun | n => n⟩
theorem Tryz.keys93 : Go.Proofs.SlLaysZ.n7 Tryz.prog Tryz.keys93_ren := {
  mixed := by kernel_rfl
  f7 := ⟨Tryz.f93.name, by decide, Tryz.func93.trans (congrArg some (by kernel_rfl))⟩
  f10 := ⟨Tryz.f140.name, by decide, Tryz.func140.trans (congrArg some (by kernel_rfl))⟩
  t0 := Tryz.underlying0
  a0 := Tryz.isAgg0
  z0 := Tryz.sizeOf0
  v0 := Tryz.zeroValue0
  t4 := Tryz.underlying4
  a4 := Tryz.isAgg4
  z4 := Tryz.sizeOf4
  v4 := Tryz.zeroValue4
  t23 := Tryz.underlying100
  a23 := Tryz.isAgg100
  z23 := Tryz.sizeOf100
  v23 := Tryz.zeroValue100
  t26 := Tryz.underlying9
  a26 := Tryz.isAgg9
  z26 := Tryz.sizeOf9
  v26 := Tryz.zeroValue9
  t27 := Tryz.underlying145
  a27 := Tryz.isAgg145
  z27 := Tryz.sizeOf145
  v27 := Tryz.zeroValue145
  t28 := Tryz.underlying146
  a28 := Tryz.isAgg146
  z28 := Tryz.sizeOf146
  v28 := Tryz.zeroValue146
  t33 := Tryz.underlying150
  a33 := Tryz.isAgg150
  z33 := Tryz.sizeOf150
  v33 := Tryz.zeroValue150 }
def Tryz.sorted92_ren : Go.Shelf.Ren := ⟨fun | 6 => 92 | 8 => 138 | 9 => 139 | 11 => 169 | 13 => 171 | 12 => 170 | 23 => 189 | 24 => 190 | 14 => 180 | 15 => 181 | 16 => 182 | 17 => 183 | 18 => 184 | 19 => 185 | 20 => 186 | 21 => 187 | 22 => 188 | 25 => 194 | 26 => 195 | 27 => 196 | 28 => 197 | 29 => 198 | 30 => 199 | 31 => 200 | n => n, fun | 26 => 9 | 28 => 146 | 24 => 143 | 0 => 0 | 3 => 3 | 37 => 179 | 48 => 238 | 50 => 240 | 4 => 4 | 40 => 231 | 39 => 230 | 45 => 172 | 5 => 5 | 9 => 9 | 51 => 245 | 55 => 249 | 57 => 251 | 58 => 252 | 33 => 150 | n => n, fun | n => n⟩
theorem Tryz.sorted92 : Go.Proofs.SlLaysZ.n6 Tryz.prog Tryz.sorted92_ren := {
  mixed := by kernel_rfl
  f6 := ⟨Tryz.f92.name, by decide, Tryz.func92.trans (congrArg some (by kernel_rfl))⟩
  f8 := ⟨Tryz.f138.name, by decide, Tryz.func138.trans (congrArg some (by kernel_rfl))⟩
  f11 := ⟨Tryz.f169.name, by decide, Tryz.func169.trans (congrArg some (by kernel_rfl))⟩
  t0 := Tryz.underlying0
  a0 := Tryz.isAgg0
  z0 := Tryz.sizeOf0
  v0 := Tryz.zeroValue0
  t24 := Tryz.underlying143
  a24 := Tryz.isAgg143
  z24 := Tryz.sizeOf143
  v24 := Tryz.zeroValue143
  t26 := Tryz.underlying9
  a26 := Tryz.isAgg9
  z26 := Tryz.sizeOf9
  v26 := Tryz.zeroValue9
  t28 := Tryz.underlying146
  a28 := Tryz.isAgg146
  z28 := Tryz.sizeOf146
  v28 := Tryz.zeroValue146
  i26 := by kernel_rfl }
def Tryz.sort139_ren : Go.Shelf.Ren := ⟨fun | 6 => 139 | 8 => 171 | 9 => 170 | 19 => 189 | 20 => 190 | 21 => 180 | 22 => 181 | 23 => 182 | 24 => 183 | 25 => 184 | 26 => 185 | 27 => 186 | 28 => 187 | 29 => 188 | 36 => 194 | 31 => 195 | 32 => 196 | 37 => 197 | 38 => 198 | 39 => 199 | 41 => 200 | n => n, fun | 27 => 143 | 29 => 9 | 3 => 3 | 32 => 179 | 26 => 143 | 0 => 0 | 44 => 238 | 46 => 240 | 4 => 4 | 36 => 231 | 35 => 230 | 41 => 172 | 5 => 5 | 9 => 9 | 53 => 245 | 57 => 249 | 63 => 251 | 64 => 252 | n => n, fun | n => n⟩
theorem Tryz.sort139 : Go.Proofs.SlLaysM.n6 Tryz.prog Tryz.sort139_ren := {
  mixed := by kernel_rfl
  f6 := ⟨Tryz.f139.name, by decide, Tryz.func139.trans (congrArg some (by kernel_rfl))⟩
  f8 := Tryz.func171.trans (congrArg some (by kernel_rfl))
  f9 := ⟨Tryz.f170.name, by decide, Tryz.func170.trans (congrArg some (by kernel_rfl))⟩
  f19 := Tryz.func189.trans (congrArg some (by kernel_rfl))
  f20 := Tryz.func190.trans (congrArg some (by kernel_rfl))
  f21 := ⟨Tryz.f180.name, by decide, Tryz.func180.trans (congrArg some (by kernel_rfl))⟩
  f22 := ⟨Tryz.f181.name, by decide, Tryz.func181.trans (congrArg some (by kernel_rfl))⟩
  f23 := ⟨Tryz.f182.name, by decide, Tryz.func182.trans (congrArg some (by kernel_rfl))⟩
  f24 := ⟨Tryz.f183.name, by decide, Tryz.func183.trans (congrArg some (by kernel_rfl))⟩
  f25 := ⟨Tryz.f184.name, by decide, Tryz.func184.trans (congrArg some (by kernel_rfl))⟩
  f26 := ⟨Tryz.f185.name, by decide, Tryz.func185.trans (congrArg some (by kernel_rfl))⟩
  f27 := ⟨Tryz.f186.name, by decide, Tryz.func186.trans (congrArg some (by kernel_rfl))⟩
  f28 := ⟨Tryz.f187.name, by decide, Tryz.func187.trans (congrArg some (by kernel_rfl))⟩
  f29 := ⟨Tryz.f188.name, by decide, Tryz.func188.trans (congrArg some (by kernel_rfl))⟩
  f31 := Tryz.func195.trans (congrArg some (by kernel_rfl))
  f32 := Tryz.func196.trans (congrArg some (by kernel_rfl))
  f36 := ⟨Tryz.f194.name, by decide, Tryz.func194.trans (congrArg some (by kernel_rfl))⟩
  f37 := ⟨Tryz.f197.name, by decide, Tryz.func197.trans (congrArg some (by kernel_rfl))⟩
  f38 := ⟨Tryz.f198.name, by decide, Tryz.func198.trans (congrArg some (by kernel_rfl))⟩
  f39 := ⟨Tryz.f199.name, by decide, Tryz.func199.trans (congrArg some (by kernel_rfl))⟩
  f41 := ⟨Tryz.f200.name, by decide, Tryz.func200.trans (congrArg some (by kernel_rfl))⟩
  t0 := Tryz.underlying0
  a0 := Tryz.isAgg0
  z0 := Tryz.sizeOf0
  v0 := Tryz.zeroValue0
  t3 := Tryz.underlying3
  a3 := Tryz.isAgg3
  z3 := Tryz.sizeOf3
  v3 := Tryz.zeroValue3
  t4 := Tryz.underlying4
  a4 := Tryz.isAgg4
  z4 := Tryz.sizeOf4
  v4 := Tryz.zeroValue4
  t5 := Tryz.underlying5
  a5 := Tryz.isAgg5
  z5 := Tryz.sizeOf5
  v5 := Tryz.zeroValue5
  t9 := Tryz.underlying9
  a9 := Tryz.isAgg9
  z9 := Tryz.sizeOf9
  v9 := Tryz.zeroValue9
  t26 := Tryz.underlying143
  a26 := Tryz.isAgg143
  z26 := Tryz.sizeOf143
  v26 := Tryz.zeroValue143
  t27 := Tryz.underlying143
  a27 := Tryz.isAgg143
  z27 := Tryz.sizeOf143
  v27 := Tryz.zeroValue143
  t29 := Tryz.underlying9
  a29 := Tryz.isAgg9
  z29 := Tryz.sizeOf9
  v29 := Tryz.zeroValue9
  t32 := Tryz.underlying179
  a32 := Tryz.isAgg179
  z32 := Tryz.sizeOf179
  v32 := Tryz.zeroValue179
  t35 := Tryz.underlying230
  a35 := Tryz.isAgg230
  z35 := Tryz.sizeOf230
  v35 := Tryz.zeroValue230
  t36 := Tryz.underlying231
  a36 := Tryz.isAgg231
  z36 := Tryz.sizeOf231
  v36 := Tryz.zeroValue231
  t41 := Tryz.underlying172
  a41 := Tryz.isAgg172
  z41 := Tryz.sizeOf172
  v41 := Tryz.zeroValue172
  t44 := Tryz.underlying238
  a44 := Tryz.isAgg238
  z44 := Tryz.sizeOf238
  v44 := Tryz.zeroValue238
  t46 := Tryz.underlying240
  a46 := Tryz.isAgg240
  z46 := Tryz.sizeOf240
  v46 := Tryz.zeroValue240
  t53 := Tryz.underlying245
  a53 := Tryz.isAgg245
  z53 := Tryz.sizeOf245
  v53 := Tryz.zeroValue245
  t57 := Tryz.underlying249
  a57 := Tryz.isAgg249
  z57 := Tryz.sizeOf249
  v57 := Tryz.zeroValue249
  t63 := Tryz.underlying251
  a63 := Tryz.isAgg251
  z63 := Tryz.sizeOf251
  v63 := Tryz.zeroValue251
  t64 := Tryz.underlying252
  a64 := Tryz.isAgg252
  z64 := Tryz.sizeOf252
  v64 := Tryz.zeroValue252 }
theorem Tryz.sorts92 (m : Nat) : AnyZ.SortsIn Tryz.prog Tryz.sorted92_ren Fence.wide m :=
  ⟨fun blk off cap ss W hH hblk hsz => callsIn_wide.2 (AnyM.slices_Sort_string Tryz.sort139 blk off cap ss W hH hblk hsz),
   fun p cap W => callsIn_wide.2 (AnyM.slices_Sort_string_none Tryz.sort139 p cap W)⟩

theorem Tryz.maps_Keys (mb : Option Nat) (W : World) : CallsIn Fence.wide 5 Tryz.prog 93 #[.map mb] W fun e w' => e = .returned (.func (.func 140) #[] #[.pointer (some ⟨W.heap.size, 0, none⟩)]) ∧ w' = W.alloc (.cells #[.map mb] 100) :=
  AnyZ.keys_in Tryz.keys93 Fence.wide 5 trivial rfl mb W

set_option maxHeartbeats 1000000 in
theorem Tryz.slices_Sorted_keys {H : Type} (b nn : Nat) (D0 : DataW H) (R : Value → Option (DataW H × List MemPlace)) (w : World) (hown : w.ownsMap Tryz.prog 9 R b nn D0) (hmax : Maps.size D0 ≤ maxLen) (hbytes : Maps.size D0 * 16 ≤ 140737488355328) :
    CallsIn Fence.wide 5 Tryz.prog 92 #[.func (.func 140) #[] #[.pointer (some ⟨w.heap.size, 0, none⟩)]] (w.alloc (.cells #[.map (some b)] 100)) fun e w' => ∃ (v : Value) (ss : List (List UInt8)), e = .returned v ∧ ss.Perm (strKeys D0) ∧
      w'.ownsRow (w.alloc (.cells #[.map (some b)] 100)).heap.size 9 1 v ss.length ((ss.mergeSort (fun x y => decide (x ≤ y))).map encStr) ∧ (v = .slice none 0 0 ↔ ss = []) ∧ Below (w.alloc (.cells #[.map (some b)] 100)).heap.size (w.alloc (.cells #[.map (some b)] 100)) w' := by
  have hbl := hown.lt
  have hseq : SeqGives Fence.wide 2 Tryz.prog 140 #[.pointer (some ⟨w.heap.size, 0, none⟩)] encStr (fun ss => ss.Perm (strKeys D0)) (Maps.size D0) (w.alloc (.cells #[.map (some b)] 100)) :=
    AnyZ.keys_gives (ρ := Tryz.keys93_ren) { Tryz.keys93 with } Fence.wide _ trivial rfl (by omega) w.heap.size b nn D0 _ (by simp) (by simp) (by
      obtain ⟨es, clock, hb, Ft, hs, hD⟩ := hown
      exact ⟨es, clock, (Below.heap_alloc _ _ b hbl).trans hb, Ft, hs, hD⟩)
  exact AnyZ.sorted_in Tryz.sorted92 Fence.wide 5 trivial trivial trivial trivial rfl (by omega) (Tryz.sorts92 _) (enters_of Tryz.func139 (by kernel_rfl) rfl) 140 #[.pointer (some ⟨w.heap.size, 0, none⟩)] trivial (enters_of Tryz.func140 (by kernel_rfl) rfl) _ _ hmax hbytes _ hseq

end Go.Proofs
