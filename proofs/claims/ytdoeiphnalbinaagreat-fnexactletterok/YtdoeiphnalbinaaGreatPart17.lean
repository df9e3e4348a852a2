/- Proved, in parts: Proved: how a letter stands in memory, with the places of its lists, and what it is as plain data; when it can be read, and when its memory is its own. No program's function is named here; no condition. Proved: what a block's write leaves of rows that lie elsewhere. No program is named here; no condition. Proved: the laws' helper counts a list of works as the plain Lean function does; it writes nothing that was there. Proved: the laws' own test tells two lists of works alike that are; it writes nothing that was there. No condition. Proved: the laws' helpers on a book (its size, its copy in new memory, its likeness) answer as they should; they write nothing that was there. Condition: texts and lists of at most a million. -/
import Derived.Test.YtdoeiphnalbinaaGreatPart16
import Derived.Test.YtdoeiphnalbinaaGreatPart08
import Derived.Test.YtdoeiphnalbinaaGreatPart05
import Derived.Test.YtdoeiphnalbinaaGreatPart09
import Derived.Test.YtdoeiphnalbinaaGreatPart13
import Derived.Test.YtdoeiphnalbinaaGreatPart01
namespace Go.Proofs.YtdoeiphnalbinaaGreat
open Go.RowKit

structure LLt where
  kind : Int
  frm : Int
  dst : Int
  reign : Int
  index : Int
  mark : Int
  en : Sl M.En
  commit : Int
  yes : Bool
  bk : LBk
namespace M
structure Lt where
  kind : Int
  frm : Int
  dst : Int
  reign : Int
  index : Int
  mark : Int
  list : List En
  commit : Int
  yes : Bool
  book : Bk
end M
def LLt.d (s : LLt) : M.Lt := ⟨s.kind, s.frm, s.dst, s.reign, s.index, s.mark, s.en.l, s.commit, s.yes, s.bk.d⟩
abbrev ltA (s : LLt) : Array Value := #[.int .i64 s.kind, .int .i64 s.frm, .int .i64 s.dst, .int .i64 s.reign, .int .i64 s.index, .int .i64 s.mark, s.en.v, .int .i64 s.commit, .bool s.yes, s.bk.sf.v, s.bk.la.v]
abbrev ltV (s : LLt) : Value := .agg (ltA s)
/-- A list of entries can be read, and is of at most n. -/
structure ErIn (n : Nat) (w : World) (s : Sl M.En) : Prop where
  en : Ens w s.ad s.l
  len : s.l.length ≤ n
  cap : s.l.length ≤ s.cap
  none : s.ad = .none → s.cap = 0
  txt : ∀ e ∈ s.l, enIn n e
structure LtIn (n : Nat) (w : World) (s : LLt) : Prop where
  en : ErIn n w s.en
  bk : BkIn n w s.bk
theorem ErIn.below {n : Nat} {w w' : World} {s : Sl M.En} (h : ErIn n w s) (hb : Below w.heap.size w w') : ErIn n w' s := { h with en := h.en.below hb }
theorem LtIn.below {n : Nat} {w w' : World} {s : LLt} (h : LtIn n w s) (hb : Below w.heap.size w w') : LtIn n w' s := ⟨h.en.below hb, h.bk.below hb⟩
/-- The components of a letter. -/
def ltCs (B : Nat) (s : LLt) : List Cmp := [enCmp B s.en, sfCmp B s.bk.sf, laCmp B s.bk.la]
abbrev LtOwn (B : Nat) (w : World) (s : LLt) : Prop := Has (ltCs B s) w
theorem lt_le {B B' : Nat} (hB : B' ≤ B) (s : LLt) : Les (ltCs B s) (ltCs B' s) := ⟨en_le hB _, sf_le hB _, la_le hB _, trivial⟩
theorem LtOwn.mono {B B' : Nat} {w : World} {s : LLt} (h : LtOwn B w s) (hB : B' ≤ B) : LtOwn B' w s := Has.le h (lt_le hB s)
/-- How large the texts and lists of a letter are. -/
structure LtSmall (n : Nat) (s : M.Lt) : Prop where
  enl : s.list.length ≤ n
  ent : ∀ e ∈ s.list, enIn n e
  kl : s.book.1.length ≤ n
  kt : ∀ k ∈ s.book.1, k.name.size ≤ n ∧ k.copies.length ≤ n ∧ ∀ c ∈ k.copies, c.page.size ≤ n
  kal : s.book.2.length ≤ n
  kat : ∀ c ∈ s.book.2, laIn n c
theorem LtOwn.in {B n : Nat} {w : World} {s : LLt} (h : LtOwn B w s) (hs : LtSmall n s.d) : LtIn n w s := by
  have h1 : EnsOwn B w s.en.v s.en.l := h.all (enCmp B s.en) (by simp [ltCs])
  have h2 : SfOwn B w s.bk.sf.v s.bk.sf.l := h.all (sfCmp B s.bk.sf) (by simp [ltCs])
  have h3 : LasOwn B w s.bk.la.v s.bk.la.l := h.all (laCmp B s.bk.la) (by simp [ltCs])
  obtain ⟨k1, k2, k3, k4⟩ := SfOwn.in h2 hs.kl hs.kt
  have f1 := (own_flat (k := 10) (enc := enL) (fun _ => rfl) h1)
  have f3 := (own_flat (k := 4) (enc := laL) (fun _ => rfl) h3)
  obtain ⟨A1, c1, e1, -, g1⟩ := f1
  obtain ⟨A3, c3, e3, -, g3⟩ := f3
  injection e1 with a1; injection e3 with a3
  rw [← a1] at g1; rw [← a3] at g3
  exact ⟨⟨g1, hs.enl, (row_nil h1).2, (row_nil h1).1, hs.ent⟩, ⟨k1, k2, k3, k4, g3, (row_nil h3).1, hs.kal, hs.kat⟩⟩
theorem LtIn.small {n : Nat} {w : World} {s : LLt} (h : LtIn n w s) : LtSmall n s.d :=
  ⟨h.en.len, h.en.txt, by show (s.bk.sf.l.map Wr.wk).length ≤ n; rw [List.length_map]; exact h.bk.sfl, wks_small h.bk.sft, h.bk.lal, h.bk.lat⟩
/-- What answers a letter. -/
def LtRet (w : World) (q : M.Lt) (e : Ending) (w' : World) : Prop := ∃ s : LLt, e = .returned (ltV s) ∧ LtOwn w.heap.size w' s ∧ s.d = q ∧ Below w.heap.size w w'
theorem Has.set11 {cs : List Cmp} {w : World} {g B : Nat} (h : Has cs w) (hB : From B cs) (hg : g < B) (a0 a1 a2 a3 a4 a5 a6 a7 a8 a9 a10 : Value) : Has cs (((((((((((w.setCell ⟨g, 0, none⟩ a0).setCell ⟨g, 1, none⟩ a1).setCell ⟨g, 2, none⟩ a2).setCell ⟨g, 3, none⟩ a3).setCell ⟨g, 4, none⟩ a4).setCell ⟨g, 5, none⟩ a5).setCell ⟨g, 6, none⟩ a6).setCell ⟨g, 7, none⟩ a7).setCell ⟨g, 8, none⟩ a8).setCell ⟨g, 9, none⟩ a9).setCell ⟨g, 10, none⟩ a10) :=
  (Has.setLow (Has.setLow (Has.setLow (Has.setLow (Has.setLow (Has.setLow (Has.setLow (Has.setLow (Has.setLow (Has.setLow (Has.setLow h hB hg 0 a0) hB hg 1 a1) hB hg 2 a2) hB hg 3 a3) hB hg 4 a4) hB hg 5 a5) hB hg 6 a6) hB hg 7 a7) hB hg 8 a8) hB hg 9 a9) hB hg 10 a10)
theorem Mem.put11 {w0 w : World} {g : Nat} {c0 c1 c2 c3 c4 c5 c6 c7 c8 c9 c10 : Value} {hs : List (Nat × Array Value)} {ls : List Nat} (h : Mem w0 ((g, #[c0, c1, c2, c3, c4, c5, c6, c7, c8, c9, c10]) :: hs) ls w) (hg : w0.heap.size ≤ g) (hn : ∀ p ∈ hs, p.1 ≠ g) (a0 a1 a2 a3 a4 a5 a6 a7 a8 a9 a10 : Value) : Mem w0 ((g, #[a0, a1, a2, a3, a4, a5, a6, a7, a8, a9, a10]) :: hs) ls (((((((((((w.setCell ⟨g, 0, none⟩ a0).setCell ⟨g, 1, none⟩ a1).setCell ⟨g, 2, none⟩ a2).setCell ⟨g, 3, none⟩ a3).setCell ⟨g, 4, none⟩ a4).setCell ⟨g, 5, none⟩ a5).setCell ⟨g, 6, none⟩ a6).setCell ⟨g, 7, none⟩ a7).setCell ⟨g, 8, none⟩ a8).setCell ⟨g, 9, none⟩ a9).setCell ⟨g, 10, none⟩ a10) := by
  have := (Mem.put (Mem.put (Mem.put (Mem.put (Mem.put (Mem.put (Mem.put (Mem.put (Mem.put (Mem.put (Mem.put h hg hn 0 a0) hg hn 1 a1) hg hn 2 a2) hg hn 3 a3) hg hn 4 a4) hg hn 5 a5) hg hn 6 a6) hg hn 7 a7) hg hn 8 a8) hg hn 9 a9) hg hn 10 a10)
  simpa only [List.setIfInBounds_toArray, List.set_cons_zero, List.set_cons_succ] using this
end Go.Proofs.YtdoeiphnalbinaaGreat
namespace Go.Proofs.YtdoeiphnalbinaaGreat
open Go.RowKit
theorem own_set {B g : Nat} {w : World} {t : TypeId} {kk n : Nat} {v : Value} {C : List Value} (h : w.ownsRow B t kk v n C) (hg : g < B) (i : Nat) (u : Value) : (w.setCell ⟨g, i, none⟩ u).ownsRow B t kk v n C := by
  obtain ⟨hl, h0 | ⟨k, cap, cur, rfl, hb, hh, hr⟩⟩ := h
  · exact ⟨hl, .inl h0⟩
  · exact ⟨hl, .inr ⟨k, cap, cur, rfl, hb, (Below.heap_setCell _ _ _ _ (by show k ≠ g; omega)).trans hh, hr⟩⟩
theorem SfOwn.set {B g : Nat} {w : World} {v : Value} {l : List Wr} (h : SfOwn B w v l) (hg : g < B) (i : Nat) (u : Value) : SfOwn B (w.setCell ⟨g, i, none⟩ u) v l :=
  ⟨own_set h.1 hg i u, fun r hr => own_set (h.2.1 r hr) hg i u, h.2.2⟩
end Go.Proofs.YtdoeiphnalbinaaGreat
namespace Go.Proofs.YtdoeiphnalbinaaGreat
open Go.RowKit

set_option maxHeartbeats 1000000 in
theorem szWorkS_small (A : Option Addr) (l : List Wr) (cap : Nat) (n : Int) (w : World) (h1 : n ≤ 1048576) (hl : Wks w A l) (h : (l.length + szWrs l : Int) ≤ n) :
    Calls Tryz.prog 26 #[.slice A l.length cap, .int .i64 n] w fun r w' => r = .returned (.int .i64 (n - l.length - szWrs l)) ∧ Below w.heap.size w w' := by
  go_enter Tryz.func26, Tryz.ntmps26
  go_wp2
  go_loopw [1, 5] (fun x i wr => ∃ j : Nat, i = .int .i64 j ∧ j ≤ l.length ∧ x = .int .i64 (n - l.length - szWrs (l.take j)) ∧ Wks wr A l ∧ Below w.heap.size w wr) (fun _ i _ => l.length - (intOf i).toNat)
  case atStart => exact ⟨0, rfl, Nat.zero_le _, by simp [szWrs], hl, Below.refl _ _⟩
  case round =>
    obtain ⟨j, rfl, hj, rfl, hl', hb⟩ := hrel
    have hle := szWrs_take_le l j
    by_cases hlt : j < l.length
    · have hs := szWrs_take l j hlt
      have hle' := szWrs_take_le l (j + 1)
      have HS := Lib.hid hs
      have hp : (szWr l[j] : Int) ≤ n - l.length - szWrs (l.take j) := by omega
      have HP := Lib.hid hp
      clear hs hp
      obtain ⟨b, o, rfl, hbl, c0, c1, c2, hc⟩ := Wks_at hl' hlt
      have HC := Lib.hid hc
      clear hc
      go_wp2_with fail
      refine (szWork_small l[j].name l[j].owner l[j].ad l[j].cps l[j].cap _ _ (by omega) HC.out (by have := HP.out; unfold szWr at this; omega)).mono ?_
      rintro r w1 ⟨rfl, b1⟩
      have h0 : 0 ≤ n - (l.length : Int) - (szWrs (l.take j) : Int) - (l[j].name.size : Int) - (l[j].cps.length : Int) - (M.szPages l[j].cps : Int) := by have := HP.out; unfold szWr at this; omega
      go_wp2
      go_roundw
      case rel => exact ⟨j + 1, by go_num, by omega, by rw [HS.out]; unfold szWr; go_num, hl'.below b1, next hb b1⟩
      case measure => simp [intOf]; omega
    · have hj' : j = l.length := by omega
      subst hj'
      go_wp2
      go_ret
      exact ⟨ret_int (by rw [List.take_length]), hb⟩

set_option maxHeartbeats 1000000 in
theorem szWorkS_big (A : Option Addr) (l : List Wr) (cap : Nat) (n : Int) (w : World) (h0 : 0 ≤ n) (h1 : n ≤ 1048576) (hl : Wks w A l) (hlen : l.length ≤ maxLen) (hp : WrsIn maxLen l) (h : n < (l.length + szWrs l : Int)) :
    Calls Tryz.prog 26 #[.slice A l.length cap, .int .i64 n] w fun r w' => r = .returned (.int .i64 (-1)) ∧ Below w.heap.size w w' := by
  unfold maxLen at hlen
  by_cases hshort : n < l.length
  · go_enter Tryz.func26, Tryz.ntmps26
    go_wp2
    go_ret
    exact ⟨rfl, Below.refl _ _⟩
  · go_enter Tryz.func26, Tryz.ntmps26
    go_wp2
    go_loopw [1, 5] (fun x i wr => ∃ j : Nat, i = .int .i64 j ∧ j ≤ l.length ∧ (szWrs (l.take j) : Int) ≤ n - l.length ∧ x = .int .i64 (n - l.length - szWrs (l.take j)) ∧ Wks wr A l ∧ Below w.heap.size w wr) (fun _ i _ => l.length - (intOf i).toNat)
    case atStart => exact ⟨0, rfl, Nat.zero_le _, by simp [szWrs]; omega, by simp [szWrs], hl, Below.refl _ _⟩
    case round =>
      obtain ⟨j, rfl, hj, hle, rfl, hl', hb⟩ := hrel
      by_cases hlt : j < l.length
      · have HS := Lib.hid (szWrs_take l j hlt)
        have HPJ := Lib.hid (hp l[j] (List.getElem_mem hlt))
        obtain ⟨b, o, rfl, hbl, c0, c1, c2, hc⟩ := Wks_at hl' hlt
        have HC := Lib.hid hc
        clear hc
        by_cases hfit : (szWr l[j] : Int) ≤ n - l.length - szWrs (l.take j)
        · have HP := Lib.hid hfit
          clear hfit
          go_wp2_with fail
          refine (szWork_small l[j].name l[j].owner l[j].ad l[j].cps l[j].cap _ _ (by omega) HC.out (by have := HP.out; unfold szWr at this; omega)).mono ?_
          rintro r w1 ⟨rfl, b1⟩
          have h0 : 0 ≤ n - (l.length : Int) - (szWrs (l.take j) : Int) - (l[j].name.size : Int) - (l[j].cps.length : Int) - (M.szPages l[j].cps : Int) := by have := HP.out; unfold szWr at this; omega
          go_wp2
          go_roundw
          case rel => exact ⟨j + 1, by go_num, by omega, by have := HP.out; rw [HS.out]; simp; omega, by rw [HS.out]; unfold szWr; go_num, hl'.below b1, next hb b1⟩
          case measure => simp [intOf]; omega
        · have HP : Hid (n - l.length - szWrs (l.take j) < (szWr l[j] : Int)) := Lib.hid (by omega)
          clear hfit
          go_wp2_with fail
          refine (szWork_big l[j].name l[j].owner l[j].ad l[j].cps l[j].cap _ _ (by omega) (by omega) HC.out HPJ.out.1 HPJ.out.2.1 HPJ.out.2.2 (by have := HP.out; unfold szWr at this; omega)).mono ?_
          rintro r w1 ⟨rfl, b1⟩
          go_wp2
          go_ret
          exact ⟨rfl, next hb b1⟩
      · have hj' : j = l.length := by omega
        subst hj'
        rw [List.take_length] at hle
        omega
end Go.Proofs.YtdoeiphnalbinaaGreat
namespace Go.Proofs.YtdoeiphnalbinaaGreat
open Go.RowKit
set_option maxRecDepth 20000

theorem wk_at {l m : List Wr} (h : l.map Wr.wk = m.map Wr.wk) {j : Nat} (hl : j < l.length) (hm : j < m.length) : l[j].name = m[j].name ∧ l[j].owner = m[j].owner ∧ l[j].cps = m[j].cps := by
  have h1 : (l.map Wr.wk)[j]'(by simpa using hl) = (m.map Wr.wk)[j]'(by simpa using hm) := by simp only [h]
  simp only [List.getElem_map, Wr.wk] at h1
  injection h1 with a b c
  exact ⟨a, b, c⟩

set_option maxHeartbeats 1000000 in
theorem eqWorkS_same (A B : Option Addr) (l m : List Wr) (ca cb : Nat) (w : World) (ha : Wks w A l) (hb : Wks w B m) (he : l.map Wr.wk = m.map Wr.wk) (hlen : l.length ≤ maxLen) (hp : WrsIn maxLen l) :
    Calls Tryz.prog 53 #[.slice A l.length ca, .slice B m.length cb] w fun r w' => r = .returned (.bool true) ∧ Below w.heap.size w w' := by
  have hml : m.length = l.length := by have := congrArg List.length he; simpa using this.symm
  rw [hml]
  unfold maxLen at hlen
  have HP := Lib.hid hp
  have HM := Lib.hid hml
  have HE := Lib.hid he
  clear hp hml he
  have he : ((l.length : Int) != (l.length : Int)) = false := by simp
  go_enter Tryz.func53, Tryz.ntmps53
  go_wp2
  go_loopw [5] (fun i wr => ∃ j : Nat, i = .int .i64 j ∧ j ≤ l.length ∧ Below w.heap.size w wr) (fun i _ => l.length - (intOf i).toNat)
  case atStart => exact ⟨0, rfl, Nat.zero_le _, Below.refl _ _⟩
  case round =>
    obtain ⟨j, rfl, hj, hbl⟩ := hrel
    by_cases hlt : j < l.length
    · have hltm : j < m.length := by have := HM.out; omega
      obtain ⟨b, o, rfl, _, c0, c1, c2, hc⟩ := Wks_at (ha.below hbl) hlt
      obtain ⟨b', o', rfl, _, d0, d1, d2, hd⟩ := Wks_at (hb.below hbl) hltm
      obtain ⟨e1, e2, e3⟩ := wk_at HE.out hlt hltm
      rw [← e1] at d0
      rw [← e2] at d1
      rw [← e3] at d2 hd
      have HA := Lib.hid ha
      have HB := Lib.hid hb
      have HC := Lib.hid hc
      have HD := Lib.hid hd
      clear ha hb hc hd e1 e2 e3
      go_wp2_with fail
      go_still_tail 8, (by kernel_rfl)
      change wpList _ _ _ _ _ wr.drew
      go_wp2_with fail
      refine (eqWork_same l[j].name l[j].owner l[j].ad m[j].ad l[j].cps l[j].cap m[j].cap _ (show Cps wr.drew _ _ from HC.out) (show Cps wr.drew _ _ from HD.out) (HP.out _ (List.getElem_mem hlt)).2.1).mono ?_
      rintro r w1 ⟨rfl, b1⟩
      go_wp2
      go_roundw
      case rel => exact ⟨j + 1, by go_num, by omega, next hbl.drew b1⟩
      case measure => simp [intOf]; omega
    · have hj' : j = l.length := by omega
      subst hj'
      go_wp2
      go_ret
      exact ⟨rfl, hbl⟩
end Go.Proofs.YtdoeiphnalbinaaGreat
namespace Go.Proofs.YtdoeiphnalbinaaGreat
open Go.RowKit
set_option maxRecDepth 20000
set_option maxHeartbeats 1000000 in
theorem szBook_small (A : Option Addr) (l : List Wr) (cap : Nat) (B : Option Addr) (m : List M.La) (cb : Nat) (n : Int) (w : World) (h1 : n ≤ 1048576) (hl : Wks w A l) (hm : Las w B m) (h : (l.length + szWrs l + (m.length + szLas m) : Int) ≤ n) :
    Calls Tryz.prog 10 #[bkV A l.length cap B m.length cb, .int .i64 n] w fun r w' => r = .returned (.int .i64 (n - l.length - szWrs l - m.length - szLas m)) ∧ Below w.heap.size w w' := by
  have b0 := (Below.refl w.heap.size w).alloc (Nat.le_refl _) (.cells (bkA A l.length cap B m.length cb) 26)
  have h0 := holds_new w (bkA A l.length cap B m.length cb) 26
  have HN : Hid (0 ≤ n - (l.length : Int) - (szWrs l : Int)) := Lib.hid (by omega)
  have HN2 : Hid (0 ≤ n - (l.length : Int) - (szWrs l : Int) - (m.length : Int) - (szLas m : Int)) := Lib.hid (by omega)
  have HM := Lib.hid hm
  clear hm
  go_enter Tryz.func10, Tryz.ntmps10
  go_wp2_with fail
  refine (szWorkS_small A l cap n _ h1 (hl.below b0) (by omega)).mono ?_
  rintro r w1 ⟨rfl, b1⟩
  replace h0 := h0.below b1
  replace b0 := next b0 b1
  obtain ⟨k0, k1⟩ := h0.two
  have hn := HN.out
  clear b1
  go_wp2_with fail
  refine (laszS_small B m cb _ _ (by omega) (HM.out.below b0) (by have := HN2.out; omega)).mono ?_
  rintro r w2 ⟨rfl, b2⟩
  have hn2 := HN2.out
  go_wp2
  go_ret
  exact ⟨rfl, next b0 b2⟩
set_option maxHeartbeats 1000000 in
theorem szBook_big (A : Option Addr) (l : List Wr) (cap : Nat) (B : Option Addr) (m : List M.La) (cb : Nat) (n : Int) (w : World) (h0n : 0 ≤ n) (h1 : n ≤ 1048576) (hl : Wks w A l) (hm : Las w B m) (hlen : l.length ≤ maxLen) (hp : WrsIn maxLen l) (hml : m.length ≤ maxLen) (hmp : ∀ c ∈ m, laIn maxLen c) (h : n < (l.length + szWrs l + (m.length + szLas m) : Int)) :
    Calls Tryz.prog 10 #[bkV A l.length cap B m.length cb, .int .i64 n] w fun r w' => r = .returned (.int .i64 (-1)) ∧ Below w.heap.size w w' := by
  have b0 := (Below.refl w.heap.size w).alloc (Nat.le_refl _) (.cells (bkA A l.length cap B m.length cb) 26)
  have h0 := holds_new w (bkA A l.length cap B m.length cb) 26
  have HM := Lib.hid hm
  clear hm
  by_cases hbig : n < (l.length + szWrs l : Int)
  · go_enter Tryz.func10, Tryz.ntmps10
    go_wp2_with fail
    refine (szWorkS_big A l cap n _ h0n h1 (hl.below b0) hlen hp hbig).mono ?_
    rintro r w1 ⟨rfl, b1⟩
    go_wp2
    go_ret
    exact ⟨rfl, next b0 b1⟩
  · have hn : 0 ≤ n - (l.length : Int) - (szWrs l : Int) := by omega
    go_enter Tryz.func10, Tryz.ntmps10
    go_wp2_with fail
    refine (szWorkS_small A l cap n _ h1 (hl.below b0) (by omega)).mono ?_
    rintro r w1 ⟨rfl, b1⟩
    replace h0 := h0.below b1
    replace b0 := next b0 b1
    obtain ⟨k0, k1⟩ := h0.two
    clear b1
    go_wp2_with fail
    refine (laszS_big B m cb _ _ (by omega) (by omega) (HM.out.below b0) hml hmp (by omega)).mono ?_
    rintro r w2 ⟨rfl, b2⟩
    go_wp2
    go_ret
    exact ⟨rfl, next b0 b2⟩

theorem results_toBook (A : Option Addr) (n c : Nat) (B : Option Addr) (m e : Nat) (R : Nat) (W : World) (tmps : Array Value) (h2 : tmps.getD 2 undef = .pointer (some ⟨R, 0, none⟩)) (hW : Holds W R (bkA A n c B m e)) :
    (results Tryz.f16 tmps).run Tryz.prog W = .ok (bkV A n c B m e) W := by
  obtain ⟨q0, q1⟩ := hW.two
  simp at h2
  simp [results, Tryz.results16, go_sem, h2, q0, q1]
/-- v is a book in memory of one's own from block B on. -/
def BkOwn (W : Nat) (w : World) (v : Value) (l : List Wr) (m : List M.La) : Prop :=
  ∃ gA gB, v = bkV (some ⟨gA, 0, none⟩) l.length l.length (some ⟨gB, 0, none⟩) m.length m.length ∧ SfOwn W w (.slice (some ⟨gA, 0, none⟩) l.length l.length) l ∧ LasOwn W w (.slice (some ⟨gB, 0, none⟩) m.length m.length) m ∧ gA < gB ∧ ∀ r ∈ l, ∀ k, r.sl.ownBlock = some k → k < gB
set_option maxHeartbeats 2000000 in
theorem toBook_any (A : Option Addr) (l : List Wr) (cap : Nat) (B : Option Addr) (m : List M.La) (cb : Nat) (w : World) (hl : Wks w A l) (hlen : l.length ≤ 1048576) (hp : WrsIn 1048576 l) (hml : Las w B m) (hmlen : m.length ≤ 1048576) :
    Calls Tryz.prog 16 #[bkV A l.length cap B m.length cb] w fun r w' => ∃ (v : Value) (rs : List Wr), r = .returned v ∧ rs.map Wr.wk = l.map Wr.wk ∧ rs.length = l.length ∧ (∀ x ∈ rs, x.ad ≠ none ∧ x.cap = x.cps.length) ∧ BkOwn w.heap.size w' v rs m ∧ Below w.heap.size w w' := by
  have HL := Lib.hid hl
  have HP := Lib.hid hp
  have HM := Lib.hid hml
  clear hl hp hml
  have hm := (((Mem.start w).new (bkA A l.length cap B m.length cb) 26).new (bkA none 0 0 none 0 0) 35).new (bkA none 0 0 none 0 0) 35
  simp only [World.size_alloc] at hm
  go_enter Tryz.func16, Tryz.ntmps16
  go_wp2_with fail
  refine (toWorkS_any A l cap _ (HL.out.below hm.1) hlen HP.out).mono ?_
  rintro r w1 ⟨rs, hrs, hrl, hra, rfl, o1, b1⟩
  have hm1 := hm.below b1
  have hs1 := b1.size
  simp only [World.size_alloc] at o1 hs1 ⊢
  have HRS := Lib.hid hrs
  have HRL := Lib.hid hrl
  have HRA := Lib.hid hra
  have HO1 := Lib.hid o1
  clear hm hrs hrl hra o1 b1
  obtain ⟨p0, p1⟩ := (hm1.get w.heap.size (bkA A l.length cap B m.length cb) (by simp)).two
  obtain ⟨q0, q1⟩ := (hm1.get (w.heap.size + 1 + 1) (bkA none 0 0 none 0 0) (by simp)).two
  have z0 := hm1.loose (w.heap.size + 1 + 1) (by simp) 0
  have zz := (hm1.get (w.heap.size + 1 + 1) (bkA none 0 0 none 0 0) (by simp)).1
  have hm2 := hm1.put (by omega) (by simp; omega) 0 (.slice (some ⟨w.heap.size + 1 + 1 + 1, 0, none⟩) l.length l.length)
  clear hm1
  go_wp2_with fail
  refine (latoS_any B m cb _ (HM.out.below hm2.1) hmlen).mono ?_
  rintro r w2 ⟨rfl, o2, b2⟩
  have hm3 := hm2.below b2
  have hs2 := b2.size
  simp only [World.size_setCell] at o2 hs2 ⊢
  have HO2 := Lib.hid o2
  have HO1B := Lib.hid (((HO1.out.set (g := w.heap.size + 1 + 1) (by omega) 0 (.slice (some ⟨w.heap.size + 1 + 1 + 1, 0, none⟩) l.length l.length))).below b2)
  have HLT : Hid (∀ r ∈ rs, ∀ k, r.sl.ownBlock = some k → k < w1.heap.size) := Lib.hid (fun r hr k e => ((HO1.out.2.1 r hr).lt k e).2)
  clear hm2 o2 b2 p0 p1 q0 q1 z0 zz
  simp only [List.setIfInBounds_toArray, List.set_cons_zero] at hm3
  obtain ⟨q0, q1⟩ := (hm3.get (w.heap.size + 1 + 1) (bkA (some ⟨w.heap.size + 1 + 1 + 1, 0, none⟩) l.length l.length none 0 0) (by simp)).two
  obtain ⟨p0, p1⟩ := (hm3.get (w.heap.size + 1) (bkA none 0 0 none 0 0) (by simp)).two
  have z1 := hm3.loose (w.heap.size + 1 + 1) (by simp) 1
  have y0 := hm3.loose (w.heap.size + 1) (by simp) 0
  have y1 := hm3.loose (w.heap.size + 1) (by simp) 1
  have HM3 := Lib.hid hm3
  clear hm3
  go_wp2
  have hm4 := HM3.out.put (by omega) (by simp; omega) 1 (.slice (some ⟨w1.heap.size, 0, none⟩) m.length m.length)
  refine bodyPost_ret (results_toBook (some ⟨w.heap.size + 1 + 1 + 1, 0, none⟩) l.length l.length (some ⟨w1.heap.size, 0, none⟩) m.length m.length (w.heap.size + 1) _ _ rfl ?_) rfl ⟨_, rs, rfl, HRS.out, HRL.out, HRA.out, ⟨w.heap.size + 1 + 1 + 1, w1.heap.size, by rw [HRL.out], ?_, ?_, ?_, HLT.out⟩, ?_⟩
  · simpa using (((hm4.get (w.heap.size + 1) (bkA none 0 0 none 0 0) (by simp)).putM 0 (.slice (some ⟨w.heap.size + 1 + 1 + 1, 0, none⟩) l.length l.length)).putM 1 (.slice (some ⟨w1.heap.size, 0, none⟩) m.length m.length))
  · rw [HRL.out]
    exact (((HO1B.out.set (by omega) 1 _).set (by omega) 0 _).set (by omega) 1 _).mono (by omega)
  · exact World.ownsRow.mono (own_set (own_set (own_set HO2.out (by omega) 1 _) (by omega) 0 _) (by omega) 1 _) (by omega)
  · exact (World.ownsRow.lt HO1.out.1 _ rfl).2
  · exact (hm4.1.setCell (by show w.heap.size ≤ w.heap.size + 1; omega) _).setCell (by show w.heap.size ≤ w.heap.size + 1; omega) _

set_option maxHeartbeats 2000000 in
theorem eqBook_same (A A' : Option Addr) (l l' : List Wr) (c c' : Nat) (B B' : Option Addr) (m : List M.La) (e e' : Nat) (w : World) (hl : Wks w A l) (hl' : Wks w A' l') (hmap : l.map Wr.wk = l'.map Wr.wk) (hlen : l.length ≤ maxLen) (hp : WrsIn maxLen l) (hm : Las w B m) (hm' : Las w B' m) (hml : m.length ≤ maxLen) :
    Calls Tryz.prog 24 #[bkV A l.length c B m.length e, bkV A' l'.length c' B' m.length e'] w fun r w' => r = .returned (.bool true) ∧ Below w.heap.size w w' := by
  have b0 := ((Below.refl w.heap.size w).alloc (Nat.le_refl _) (.cells (bkA A l.length c B m.length e) 35)).alloc (by simp) (.cells (bkA A' l'.length c' B' m.length e') 35)
  have h0 := (holds_new w (bkA A l.length c B m.length e) 35).alloc (.cells (bkA A' l'.length c' B' m.length e') 35)
  have h1 := holds_new (w.alloc (.cells (bkA A l.length c B m.length e) 35)) (bkA A' l'.length c' B' m.length e') 35
  simp only [World.size_alloc] at h1
  have HM := Lib.hid hm
  have HM' := Lib.hid hm'
  have HP := Lib.hid hp
  have HMAP := Lib.hid hmap
  clear hm hm' hp hmap
  go_enter Tryz.func24, Tryz.ntmps24
  go_wp2_with fail
  refine (eqWorkS_same A A' l l' c c' _ (hl.below b0) (hl'.below b0) HMAP.out hlen HP.out).mono ?_
  rintro r w1 ⟨rfl, b1⟩
  replace h0 := h0.below b1
  replace h1 := h1.below b1
  replace b0 := next b0 b1
  obtain ⟨k0, k1⟩ := h0.two
  obtain ⟨j0, j1⟩ := h1.two
  clear b1
  go_wp2_with fail
  refine (laeqS_same B B' m e e' _ (HM.out.below b0) (HM'.out.below b0) hml).mono ?_
  rintro r w2 ⟨rfl, b2⟩
  go_wp2
  go_ret
  exact ⟨rfl, next b0 b2⟩
end Go.Proofs.YtdoeiphnalbinaaGreat
