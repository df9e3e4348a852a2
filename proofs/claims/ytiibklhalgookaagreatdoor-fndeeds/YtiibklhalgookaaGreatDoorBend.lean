/- Proved: the model's l1Bend gives some text that is at most two bytes longer; the cursor stands, and its block alone is written. -/
import Derived.Test.YtiibklhalgookaaGreatDoorDrawEd
import Derived.Test.YtiibklhalgookaaGreatDoorBytes
import Derived.Deep.RegionLaw

namespace Go.Proofs.YtiibklhalgookaaGreatDoor
open Go.RowKit

/-- append onto a row of one's own, as one step of a region that draws. -/
theorem step_append_own {P : Program} {ops : Array Oper} {o : Oper} {a : Act} {w : World} {K : Act → World → Prop} {Q : Exit → Act → World → Prop} {E : Prop}
    (hgd : o.guard = none) (s x : Operand) (t : TypeId) (ho : o.op = .call { callee := .builtin .append, args := #[s, x], argTypes := #[t, t] })
    (base : Nat) (e : TypeId) (i : TypeInfo) (z : Value) (size bytes : Nat) (ht : P.underlying t = some (.slice e)) (hi : P.info? e = some i) (hz : i.zero = some z)
    (hsize : i.size = size) (hby : i.bytes = bytes) (hzs : z.cells.size = size) (hsz : 0 < size)
    (v : Value) (n : Nat) (xs : List Value) (hs : a.eval s = v) (hown : w.ownsRow base e size v n xs)
    (ad : Addr) (m c : Nat) (news : List Value) (hx : a.eval x = .slice (some ad) m c) (hl : news.length = m * size) (hnews : ∀ j u, news[j]? = some u → w.cell? (ad.add j) = some u) (h1 : ∀ u ∈ news, u.oneCell' = true)
    (h63 : n + m ≤ maxLen) (hbytes : (n + m) * bytes ≤ 140737488355328) (hbase : base ≤ w.heap.size)
    (h : ∀ v' w', w'.ownsRow base e size v' (n + m) (xs ++ news) → w.grownBy w' v.ownBlock → (v' = .slice none 0 0 ↔ v = .slice none 0 0 ∧ m = 0) → K (a.put o.dst v') w') :
    if Region.wanted o (yielded ops a.tmps) = true then Oper.wp P o a w K Q else E := by
  have hw : Region.wanted o (yielded ops a.tmps) = true := by simp [Region.wanted, hgd]
  rw [if_pos hw]
  exact wp_append_own w s x t ho base e i z size bytes ht hi hz hsize hby hzs hsz v n xs hs hown ad m c news hx hl hnews h1 h63 hbytes hbase h

theorem Tryz.infoByte : (Tryz.prog.info? 5).map (fun i => (i.zero, i.size, i.bytes)) = some (some (.int .u8 0), 1, 1) := by kernel_rfl

def u8V (c : UInt8) : Value := .int .u8 (c.toNat : Int)
/-- v is a list of n bytes, in a block of one's own from base on. -/
def BB (base : Nat) (w : World) (v : Value) (n : Nat) : Prop :=
  ∃ (p cap : Nat) (l : List UInt8), v = .slice (some ⟨p, 0, none⟩) n cap ∧ base ≤ p ∧ n ≤ cap ∧ l.length = n ∧ BRow w p l

theorem row_news {w : World} {p : Nat} {l : List UInt8} (h : BRow w p l) (a b : Nat) : ∀ j u, (((l.drop a).take b).map u8V)[j]? = some u → w.cell? ((⟨p, a, none⟩ : Addr).add j) = some u := by
  intro j u hu
  have hadd : (⟨p, a, none⟩ : Addr).add j = ⟨p, a + j, none⟩ := by unfold Addr.add; split <;> simp_all
  have hj : j < ((l.drop a).take b).length := by
    have := (List.getElem?_eq_some_iff.1 hu).1
    simpa using this
  have hj2 : a + j < l.length := by simp at hj; omega
  rw [List.getElem?_eq_getElem (by simpa using hj)] at hu
  simp only [List.getElem_map, List.getElem_take, List.getElem_drop, Option.some.injEq] at hu
  rw [hadd, (h.2 (a + j) hj2).1, ← hu]; rfl
theorem news_one (l : List UInt8) : ∀ u ∈ l.map u8V, u.oneCell' = true := by
  intro u hu
  obtain ⟨c, _, rfl⟩ := List.mem_map.1 hu
  rfl
theorem brow_own {base : Nat} {w : World} {v : Value} {n : Nat} {l : List UInt8} (h : w.ownsRow base 5 1 v n (l.map u8V)) (hne : v ≠ .slice none 0 0) : BB base w v n := by
  rcases h.2 with ⟨h0, _⟩ | ⟨p, cap, cur, rfl, hb, hg, hnc, hcm, hcs, htake⟩
  · exact absurd h0 hne
  · have hl := h.1
    simp at hl
    refine ⟨p, cap, l, rfl, hb, hnc, hl, (Array.getElem?_eq_some_iff.1 hg).1, fun j hj => ⟨?_, h.frozenAt j⟩⟩
    rw [h.cellAt j (by omega)]
    simp [hj, u8V]

/-- What holds all through the bending: the old bytes, the cursor, and what has been written since w. -/
def St (B g p : Nat) (l : List UInt8) (w W : World) : Prop := BRow W p l ∧ Cur B W g ∧ w.grownBy W (some g)
theorem St.drew {B g p : Nat} {l : List UInt8} {w W : World} (h : St B g p l w W) : St B g p l w W.drew := ⟨h.1, h.2.1, h.2.2.os, h.2.2.tape, h.2.2.output, h.2.2.size, h.2.2.block⟩
theorem St.alloc {B g p : Nat} {l : List UInt8} {w W : World} (h : St B g p l w W) (o : Obj) : St B g p l w (W.alloc o) :=
  ⟨h.1.kept (World.grownBy_alloc W o none) (by simp), h.2.1.alloc o, grownBy_trans h.2.2 (World.grownBy_alloc W o _)⟩
theorem St.call {B g p : Nat} {l : List UInt8} {w W W' : World} (h : St B g p l w W) (hpg : p ≠ g) (hc : Cur B W' g) (hg : W.grownBy W' (some g)) : St B g p l w W' :=
  ⟨h.1.kept hg (fun e => hpg (Option.some.inj e)), hc, grownBy_trans h.2.2 hg⟩
theorem St.grow {B g p base : Nat} {l : List UInt8} {w W W' : World} {v : Value} {n : Nat} {xs : List Value} (h : St B g p l w W) (hB : B ≤ w.heap.size) (hgw : g < w.heap.size) (hb : w.heap.size ≤ base) (hp : p < base) (ho : W.ownsRow base 5 1 v n xs) (hg : W.grownBy W' v.ownBlock) : St B g p l w W' := by
  refine ⟨h.1.kept hg (fun e => by have := (ho.lt p e.symm).1; omega), h.2.1.kept hg (fun k e => ?_), ?_⟩
  · have := (ho.lt k e).1; omega
  · refine ⟨hg.os.trans h.2.2.os, hg.tape.trans h.2.2.tape, hg.output.trans h.2.2.output, Nat.le_trans h.2.2.size hg.size, fun k hk hne => ?_⟩
    rw [hg.block k (Nat.lt_of_lt_of_le hk h.2.2.size) (fun e => by have := (ho.lt k e.symm).1; omega)]
    exact h.2.2.block k hk hne
theorem own_not_g {w W : World} {base n g : Nat} {v : Value} {xs : List Value} (h : W.ownsRow base 5 1 v n xs) (hb : w.heap.size ≤ base) (hg : g < w.heap.size) : v.ownBlock = none ∨ v.ownBlock ≠ some g := by
  cases e : v.ownBlock with
  | none => exact .inl rfl
  | some k => exact .inr (fun e2 => by have := (h.lt k e).1; have := Option.some.inj e2; omega)
theorem BB.mono {a b : Nat} {w : World} {v : Value} {n : Nat} (h : BB a w v n) (hb : b ≤ a) : BB b w v n := by
  obtain ⟨p, cap, l, h1, h2, h3⟩ := h
  exact ⟨p, cap, l, h1, Nat.le_trans hb h2, h3⟩
theorem made {base : Nat} {W : World} (h : base ≤ W.heap.size) : (W.alloc (.cells #[] 5)).ownsRow base 5 1 (.slice (some ⟨W.heap.size, 0, none⟩) 0 0) 0 (List.map u8V []) := World.ownsRow_made W #[] 0 h (Nat.zero_le _) rfl
theorem app_cells {w : World} {base : Nat} {v : Value} {n : Nat} {a b : List UInt8} (h : w.ownsRow base 5 1 v n (a.map u8V ++ b.map u8V)) : w.ownsRow base 5 1 v n ((a ++ b).map u8V) := by rw [List.map_append]; exact h

set_option maxRecDepth 20000 in
set_option maxHeartbeats 2000000 in
theorem l1Bend_any (B g : Nat) (w : World) (hc : Cur B w g) (s t : ByteArray) (hs : s.size ≤ 100000) (ht : 1 ≤ t.size) (ht' : t.size ≤ 100) :
    Calls Tryz.prog 20 #[.pointer (some ⟨g, 0, none⟩), .string s, .string t] w (fun e w' => ∃ r : ByteArray, r.size ≤ s.size + 2 ∧ e = .returned (.string r) ∧ Cur B w' g ∧ w.grownBy w' (some g)) := by
  obtain ⟨i0, hi, hz0, hz1, hz2⟩ := info_parts Tryz.infoByte
  have hlt := hc.2.1
  have hconv := run_bytes_of_string (P := Tryz.prog) w 9 22 5 s Tryz.underlying9 Tryz.underlying22 Tryz.underlying5
  have hrow := BRow.of_conv w s (grownCap w s.size 0 5) 5
  have hcap := grownCap_ge w s.size 0 5
  generalize grownCap w s.size 0 5 = cap at hconv hrow hcap
  generalize bytesRow s cap = C at hconv hrow
  have HR := Lib.hid hrow
  clear hrow
  go_enter Tryz.func20, Tryz.ntmps20
  go_wp2_with fail
  refine (l1Below_any B g _ (hc.alloc _).drew 3 (by omega) (by omega)).mono ?_
  rintro e w1 ⟨m0, hm0, hm1, rfl, hc1, hg1⟩
  have HR1 : Hid (BB w.heap.size w1 (.slice (some ⟨w.heap.size, 0, none⟩) s.size cap) s.size) := Lib.hid ⟨w.heap.size, cap, s.data.toList, rfl, Nat.le_refl _, hcap, M.len0 s, HR.out.kept (undrew hg1) (by simp; omega)⟩
  have HG1 := Lib.hid (grownBy_trans (World.grownBy_alloc w _ _) (undrew hg1))
  clear hconv HR hg1
  obtain ⟨mn, rfl⟩ := Int.eq_ofNat_of_zero_le hm0
  go_wp2
  go_loopw [7, 8] (fun b n wr => ∃ (m len : Nat), n = .int .i64 m ∧ m ≤ 2 ∧ len + m ≤ s.size + 2 ∧ BB w.heap.size wr b len ∧ Cur B wr g ∧ w.grownBy wr (some g)) (fun _ n _ => (intOf n).toNat)
  case atStart => exact ⟨mn, s.size, rfl, by omega, by omega, HR1.out, hc1, HG1.out⟩
  case round =>
    clear HR1 HG1 hc1
    obtain ⟨m, len, rfl, hm, hlen, ⟨p, cp, l, rfl, hp, hcp, hll, hrow⟩, hcr, hgr⟩ := hrel
    have hpg : p ≠ g := by omega
    have HW := Lib.hid hrow
    clear hrow
    by_cases hgo : 0 < m ∧ 0 < len
    · obtain ⟨hgo1, hgo2⟩ := hgo
      go_wp2_with fail
      refine (l1Below_any B g _ hcr len (by omega) (by omega)).mono ?_
      rintro e w2 ⟨k, hk0, hk1, rfl, hc2, hg2⟩
      obtain ⟨kn, rfl⟩ := Int.eq_ofNat_of_zero_le hk0
      have hkn : kn < len := by omega
      go_wp2_with fail
      refine (l1Below_any B g _ hc2 4 (by omega) (by omega)).mono ?_
      rintro e w3 ⟨z, hzz0, hzz1, rfl, hc3, hg3⟩
      have hg23 := grownBy_trans hg2 hg3
      have HW3 := Lib.hid (HW.out.kept hg23 (by simp; omega))
      have hgr3 := grownBy_trans hgr hg23
      have hz3 := hgr3.size
      clear hg2 hg3 hg23 hgr hcr hc2 HW
      rcases (show z = 0 ∨ z = 1 ∨ z = 2 ∨ z = 3 by omega) with hz | hz | hz | hz
      · have e0 : (z == 0) = true := by simp; omega
        clear hz
        go_wp2_with fail
        refine (l1Below_any B g _ hc3 t.size (by omega) (by omega)).mono ?_
        rintro e w4 ⟨y, hy0, hy1, rfl, hc4, hg4⟩
        obtain ⟨yn, rfl⟩ := Int.eq_ofNat_of_zero_le hy0
        have hyn : yn < t.size := by omega
        have HW4 := Lib.hid (HW3.out.kept hg4 (by simp; omega))
        have hcell := HW4.out.2 kn (by omega)
        obtain ⟨q1, q2⟩ := hcell
        have HS := Lib.hid (HW4.out.store kn t[yn])
        have hgr4 := grownBy_trans hgr3 hg4
        clear HW3 hgr3 hg4
        go_wp2
        go_roundw
        case rel => exact ⟨m - 1, len, by go_num, by omega, by omega, ⟨p, cp, l.set kn t[yn], rfl, hp, hcp, by simpa using hll, HS.out⟩, hc4.kept (grownBy_set _ p kn _) (by intro q e; cases e; exact ⟨fun e => hpg e.symm, by have := hc.1; omega⟩), grownBy_setNew hgr4 hp _ _⟩
        case measure => simp [intOf]; omega
      · have e0 : (z == 0) = false := by simp; omega
        have e1 : (z == 1) = true := by simp; omega
        clear hz
        have HT : Hid (BRow w3 p (l.take kn)) := Lib.hid ⟨HW3.out.1, fun j hj => by
          have hj' : j < kn ∧ j < l.length := by simp at hj; omega
          have := HW3.out.2 j hj'.2
          simpa using this⟩
        go_wp2
        go_roundw
        case rel => exact ⟨m - 1, kn, by go_num, by omega, by omega, ⟨p, cp, l.take kn, rfl, hp, by omega, by simp; omega, HT.out⟩, hc3, hgr3⟩
        case measure => simp [intOf]; omega
      · have e0 : (z == 0) = false := by simp; omega
        have e1 : (z == 1) = false := by simp; omega
        have e2 : (z == 2) = true := by simp; omega
        clear hz
        have hkI : (kn : Int) + 1 ≤ (len : Int) := by omega
        have hkc : kn ≤ cp := by omega
        have hkc' : (kn : Int) ≤ (cp : Int) := by omega
        have hkw : IntKind.i64.wrap ((kn : Int) + 1) = (kn : Int) + 1 := IntWalk.i64_in _ (by omega)
        have hk1' : (0 : Int) ≤ (kn : Int) + 1 := by omega
        have hk1n : ((kn : Int) + 1).toNat = kn + 1 := by omega
        have hBw : B ≤ w.heap.size := by have := hc.1; omega
        have st3 : St B g p l w w3 := ⟨HW3.out, hc3, hgr3⟩
        have st3a := (st3.alloc (.cells #[] 5)).drew
        have hpw : p < w3.heap.size := st3.1.1
        by_cases hcc : kn + 1 = cp
        · subst hcc
          have hkk : (kn : Int) ≤ (kn : Int) + 1 := by omega
          have hle : len = kn + 1 := by omega
          subst hle
          go_wp2_with fail
          go_region_law (first | (refine step_append_own rfl (.tmp 47) (.tmp 50) 22 rfl w3.heap.size 5 i0 (.int .u8 0) 1 1 Tryz.underlying22 hi hz0 hz1 hz2 rfl (by decide) _ _ _ rfl ((made (Nat.le_refl w3.heap.size)).drew) ⟨p, 0, none⟩ kn (kn + 1) (List.map u8V ((l.drop 0).take kn)) rfl (by simp; omega) (row_news st3a.1 0 kn) (news_one _) (by unfold maxLen; omega) (by omega) (by first | (simp; done) | (simp; omega) | omega) ?_; intro v1 w4 hown1 hgrow1 hnil1; have st4 := st3a.grow hBw hlt hz3 hpw (made (Nat.le_refl w3.heap.size)).drew hgrow1; replace hown1 := app_cells hown1; rw [Nat.zero_add, List.nil_append] at hown1; have hz4 := hgrow1.size; rw [World.size_drew, World.size_alloc] at hz4) | (refine step_append_own rfl (.tmp 51) (.tmp 55) 22 rfl w3.heap.size 5 i0 (.int .u8 0) 1 1 Tryz.underlying22 hi hz0 hz1 hz2 rfl (by decide) _ _ _ rfl (hown1) ⟨p, 0, none⟩ 0 0 (List.map u8V []) rfl (by simp) (by simp) (news_one _) (by unfold maxLen; omega) (by omega) (by first | (simp; done) | (simp; omega) | omega) ?_; intro v2 w5 hown2 hgrow2 hnil2; have st5 := st4.grow hBw hlt hz3 hpw hown1 hgrow2; replace hown2 := app_cells hown2))
          go_wp2
          go_roundw
          case rel => exact ⟨m - 1, kn + 0, by go_num, by omega, by omega, (brow_own hown2 (fun e => nomatch (show Value.slice (some ⟨w3.heap.size, 0, none⟩) 0 0 = .slice none 0 0 from (hnil1.1 (hnil2.1 e).1).1))).mono hz3, st5.2.1, st5.2.2⟩
          case measure => simp [intOf]; omega
        · have hcc' : ¬ cp = kn + 1 := fun e => hcc e.symm
          go_wp2_with fail
          go_region_law (first | (refine step_append_own rfl (.tmp 47) (.tmp 50) 22 rfl w3.heap.size 5 i0 (.int .u8 0) 1 1 Tryz.underlying22 hi hz0 hz1 hz2 rfl (by decide) _ _ _ rfl ((made (Nat.le_refl w3.heap.size)).drew) ⟨p, 0, none⟩ kn cp (List.map u8V ((l.drop 0).take kn)) rfl (by simp; omega) (row_news st3a.1 0 kn) (news_one _) (by unfold maxLen; omega) (by omega) (by first | (simp; done) | (simp; omega) | omega) ?_; intro v1 w4 hown1 hgrow1 hnil1; have st4 := st3a.grow hBw hlt hz3 hpw (made (Nat.le_refl w3.heap.size)).drew hgrow1; replace hown1 := app_cells hown1; rw [Nat.zero_add, List.nil_append] at hown1; have hz4 := hgrow1.size; rw [World.size_drew, World.size_alloc] at hz4) | (refine step_append_own rfl (.tmp 51) (.tmp 55) 22 rfl w3.heap.size 5 i0 (.int .u8 0) 1 1 Tryz.underlying22 hi hz0 hz1 hz2 rfl (by decide) _ _ _ rfl (hown1) ⟨p, kn + 1, none⟩ (len - (kn + 1)) (cp - (kn + 1)) (List.map u8V ((l.drop (kn + 1)).take (len - (kn + 1)))) rfl (by simp; omega) (row_news st4.1 (kn + 1) (len - (kn + 1))) (news_one _) (by unfold maxLen; omega) (by omega) (by first | (simp; done) | (simp; omega) | omega) ?_; intro v2 w5 hown2 hgrow2 hnil2; have st5 := st4.grow hBw hlt hz3 hpw hown1 hgrow2; replace hown2 := app_cells hown2))
          go_wp2
          go_roundw
          case rel => exact ⟨m - 1, kn + (len - (kn + 1)), by go_num, by omega, by omega, (brow_own hown2 (fun e => nomatch (show Value.slice (some ⟨w3.heap.size, 0, none⟩) 0 0 = .slice none 0 0 from (hnil1.1 (hnil2.1 e).1).1))).mono hz3, st5.2.1, st5.2.2⟩
          case measure => simp [intOf]; omega
      · have e0 : (z == 0) = false := by simp; omega
        have e1 : (z == 1) = false := by simp; omega
        have e2 : (z == 2) = false := by simp; omega
        have e3 : (z == 3) = true := by simp; omega
        clear hz
        have hkc : kn ≤ cp := by omega
        have hkc' : (kn : Int) ≤ (cp : Int) := by omega
        have hkl' : (kn : Int) ≤ (len : Int) := by omega
        have hcc' : ¬ cp = kn := by omega
        have hBw : B ≤ w.heap.size := by have := hc.1; omega
        have st3 : St B g p l w w3 := ⟨HW3.out, hc3, hgr3⟩
        have st3a := (st3.alloc (.cells #[] 5)).drew
        have hpw : p < w3.heap.size := st3.1.1
        go_wp2_with fail
        go_region_law (first | (refine step_append_own rfl (.tmp 59) (.tmp 62) 22 rfl w3.heap.size 5 i0 (.int .u8 0) 1 1 Tryz.underlying22 hi hz0 hz1 hz2 rfl (by decide) _ _ _ rfl ((made (Nat.le_refl w3.heap.size)).drew) ⟨p, 0, none⟩ kn cp (List.map u8V ((l.drop 0).take kn)) rfl (by simp; omega) (row_news st3a.1 0 kn) (news_one _) (by unfold maxLen; omega) (by omega) (by first | (simp; done) | (simp; omega) | omega) ?_; intro v1 w4 hown1 hgrow1 hnil1; have st4 := st3a.grow hBw hlt hz3 hpw (made (Nat.le_refl w3.heap.size)).drew hgrow1; replace hown1 := app_cells hown1; rw [Nat.zero_add, List.nil_append] at hown1; have hz4 := hgrow1.size; rw [World.size_drew, World.size_alloc] at hz4) | (go_simp; go_at_call 46; have hc4 := st4.2.1; ((with_reducible refine (l1Below_any B g _ hc4 (t.size : Int) (by omega) (by omega)).mono ?_); rintro e wc ⟨y, hy0, hy1, rfl, hcy, hgc⟩; have stc := st4.call hpg hcy hgc; have hownc := hown1.kept hgc (own_not_g hown1 hz3 hlt); obtain ⟨yn, rfl⟩ := Int.eq_ofNat_of_zero_le hy0; have hyn : yn < t.size := (by omega); have hzc := hgc.size; have hy1' : (yn : Int) < (t.size : Int) := (by omega))) | (refine step_append_own rfl (.tmp 63) (.tmp 70) 22 rfl w3.heap.size 5 i0 (.int .u8 0) 1 1 Tryz.underlying22 hi hz0 hz1 hz2 rfl (by decide) _ _ _ rfl (hownc.alloc _) ⟨wc.heap.size, 0, none⟩ 1 1 (List.map u8V [t[yn]]) rfl (by simp) (cell_one_new _ _ _) (news_one _) (by unfold maxLen; omega) (by omega) (by first | (simp; done) | (simp; omega) | omega) ?_; intro v2 w5 hown2 hgrow2 hnil2; have st5 := (stc.alloc _).grow hBw hlt hz3 hpw (hownc.alloc _) hgrow2; replace hown2 := app_cells hown2; have hz5 := hgrow2.size; rw [World.size_alloc] at hz5) | (refine step_append_own rfl (.tmp 71) (.tmp 74) 22 rfl w3.heap.size 5 i0 (.int .u8 0) 1 1 Tryz.underlying22 hi hz0 hz1 hz2 rfl (by decide) _ _ _ rfl (hown2) ⟨p, kn, none⟩ (len - kn) (cp - kn) (List.map u8V ((l.drop kn).take (len - kn))) rfl (by simp; omega) (row_news st5.1 kn (len - kn)) (news_one _) (by unfold maxLen; omega) (by omega) (by first | (simp; done) | (simp; omega) | omega) ?_; intro v3 w6 hown3 hgrow3 hnil3; have st6 := st5.grow hBw hlt hz3 hpw hown2 hgrow3; replace hown3 := app_cells hown3))
        go_wp2
        go_roundw
        case rel => exact ⟨m - 1, kn + 1 + (len - kn), by go_num, by omega, by omega, (brow_own hown3 (fun e => nomatch (show Value.slice (some ⟨w3.heap.size, 0, none⟩) 0 0 = .slice none 0 0 from (hnil1.1 (hnil2.1 (hnil3.1 e).1).1).1))).mono hz3, st6.2.1, st6.2.2⟩
        case measure => simp [intOf]; omega
    · obtain ⟨hback⟩ : Nonempty (∀ n cap, l.length = n → (convert 22 9 (.slice (some ⟨p, 0, none⟩) n cap)).run Tryz.prog wr = .ok (.string ⟨l.toArray⟩) wr) := ⟨fun n cap hn => HW.out.back 22 9 5 cap n hn Tryz.underlying22 Tryz.underlying5 Tryz.underlying9⟩
      have hb := hback len cp hll
      clear hback
      by_cases h1 : 0 < m
      · have h2 : len = 0 := by omega
        have h2' : len ≤ 0 := by omega
        clear h2 hgo
        go_wp2
        go_ret
        exact ⟨⟨l.toArray⟩, by show l.length ≤ _; omega, rfl, hcr, hgr⟩
      · clear hgo
        go_wp2
        go_ret
        exact ⟨⟨l.toArray⟩, by show l.length ≤ _; omega, rfl, hcr, hgr⟩
end Go.Proofs.YtiibklhalgookaaGreatDoor
