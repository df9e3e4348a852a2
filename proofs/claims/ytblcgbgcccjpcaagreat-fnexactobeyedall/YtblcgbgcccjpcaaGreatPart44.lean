/- Proved, in parts: Proved: the laws' helpers that write marks into a book, and look whether they are there, do so and write nothing else. Condition: at most a million works, copies and lasts. Proved: the laws' helper counts a list of works as the plain Lean function does; it writes nothing that was there. Proved: the laws' own test tells two lists of works alike that are; it writes nothing that was there. No condition. Proved: the laws' helpers on a book (its size, its copy in new memory, its likeness) answer as they should; they write nothing that was there. Condition: texts and lists of at most a million. -/
import Derived.Test.YtblcgbgcccjpcaaGreatPart43
import Derived.Test.YtblcgbgcccjpcaaGreatPart38
import Derived.Test.YtblcgbgcccjpcaaGreatPart08
import Derived.Test.YtblcgbgcccjpcaaGreatPart22
import Derived.Test.YtblcgbgcccjpcaaGreatPart23
import Derived.Test.YtblcgbgcccjpcaaGreatPart21
import Derived.Test.YtblcgbgcccjpcaaGreatPart07
namespace Go.Proofs.YtblcgbgcccjpcaaGreat
open Go.RowKit
set_option maxRecDepth 20000
theorem TouchS.thenS {S T : Nat → Prop} {w w1 w2 : World} (h : TouchS S w w1) (h2 : TouchS T w1 w2) (hT : ∀ g, T g → S g) : TouchS S w w2 :=
  ⟨Nat.le_trans h.size h2.size, fun B hB hS => (h.low B hB hS).trans (h2.low B (Nat.le_trans hB h.size) (fun g hg => hS g (hT g hg))), fun k hk hne => (h2.block k (Nat.lt_of_lt_of_le hk h.size) (fun e => hne (hT k e))).trans (h.block k hk hne)⟩
/-- The blocks of a book. -/
def blocksB (v1 v2 : Value) (l : List Wr) (g : Nat) : Prop := blocksS v1 l g ∨ v2.ownBlock = some g
set_option maxHeartbeats 4000000 in
theorem markBook_any (A : Option Addr) (l : List Wr) (c : Nat) (A2 : Option Addr) (m : List M.La) (c2 k B : Nat) (w : World) (hs : SfOwn B w (.slice A l.length c) l) (hla : LasOwn B w (.slice A2 m.length c2) m) (hap : ∀ g, (Value.slice A2 m.length c2).ownBlock = some g → ¬ blocksS (.slice A l.length c) l g) (hlen : l.length ≤ 2000000) (hk0 : 0 < k) (hk : k + mlen l + 4 * m.length ≤ 20000000) :
    Calls Tryz.prog 48 #[bkV A l.length c A2 m.length c2, .int .i64 k] w fun r w' => r = .returned (.int .i64 (k + mlen l + 4 * m.length : Nat)) ∧ SfOwn B w' (.slice A l.length c) (mrows k l) ∧ LasOwn B w' (.slice A2 m.length c2) (lamks (k + mlen l) m.length) ∧ TouchS (blocksB (.slice A l.length c) (.slice A2 m.length c2) l) w w' := by
  have b0 := (Below.refl w.heap.size w).alloc (Nat.le_refl _) (.cells (bkA A l.length c A2 m.length c2) 27)
  have h0 := holds_new w (bkA A l.length c A2 m.length c2) 27
  have HS := Lib.hid hs
  have HLA := Lib.hid hla
  have HAP := Lib.hid hap
  have HB0 := Lib.hid b0
  clear hs hla hap b0
  go_enter Tryz.func48, Tryz.ntmps48
  go_wp2_with fail
  refine (markWorkS_any A l c k B _ (HS.out.below HB0.out) hlen hk0 (by omega)).mono ?_
  rintro r w1 ⟨rfl, o1, t1⟩
  replace h0 := t1.holds h0 (fun hg => by have := (HS.out.ge hg).2; omega)
  have ho2 : LasOwn B w1 (.slice A2 m.length c2) m := t1.row (LasOwn.below HLA.out HB0.out) (fun g hg => HAP.out g hg)
  obtain ⟨k0, k1⟩ := h0.two
  have z0 := h0.1
  have HO1 := Lib.hid o1
  have HO2 := Lib.hid ho2
  have HT1 := Lib.hid t1
  clear o1 ho2 t1 h0
  go_wp2_with fail
  refine (lamark_own A2 m c2 (k + mlen l) B _ HO2.out (by omega) (by omega)).mono ?_
  rintro r w2 ⟨rfl, o2, t2⟩
  have HT2 := Lib.hid ((TouchS.refl (fun g => (Value.slice A2 m.length c2).ownBlock = some g) w1).then t2 (fun g hg => hg))
  have HO2 := Lib.hid o2
  clear o2 t2 k0 k1 z0
  go_wp2
  go_ret
  exact ⟨rfl, HT2.out.sf HO1.out (fun g hg e => HAP.out g e (blocks_mrows.1 hg)), HO2.out, (((TouchS.refl _ w).below HB0.out).thenS HT1.out (fun g hg => .inl hg)).thenS HT2.out (fun g hg => .inr hg)⟩
set_option maxHeartbeats 4000000 in
theorem heldBook_any (A : Option Addr) (l : List Wr) (c : Nat) (A2 : Option Addr) (n c2 k : Nat) (w : World) (hl : Wks w A (mrows k l)) (hm : Las w A2 (lamks (k + mlen l) n)) (hlen : l.length ≤ 2000000) (hk0 : 0 < k) (hk : k + mlen l + 4 * n ≤ 20000000) :
    Calls Tryz.prog 49 #[bkV A l.length c A2 n c2, .int .i64 k] w fun r w' => r = .returned (.int .i64 (k + mlen l + 4 * n : Nat)) ∧ Below w.heap.size w w' := by
  have b0 := (Below.refl w.heap.size w).alloc (Nat.le_refl _) (.cells (bkA A l.length c A2 n c2) 27)
  have h0 := holds_new w (bkA A l.length c A2 n c2) 27
  have HL := Lib.hid hl
  have HM := Lib.hid hm
  clear hl hm
  go_enter Tryz.func49, Tryz.ntmps49
  go_wp2_with fail
  refine (heldWorkS_any A l c k _ (HL.out.below b0) hk0 (by omega) hlen).mono ?_
  rintro r w1 ⟨rfl, b1⟩
  replace h0 := h0.below b1
  replace b0 := next b0 b1
  obtain ⟨k0, k1⟩ := h0.two
  have z0 := h0.1
  obtain ⟨q, hq⟩ : ∃ q : Nat, k + mlen l = q := ⟨_, rfl⟩
  rw [hq]
  rw [hq] at hk
  have HQ := Lib.hid hq
  have hneg : ¬ ((q : Int) < 0) := by omega
  clear hq b1
  go_wp2_with fail
  refine (laheld_any A2 n c2 q _ (by have h := HM.out; rw [HQ.out] at h; exact h.below b0) (by have := HQ.out; omega) hk).mono ?_
  rintro r w2 ⟨rfl, b2⟩
  obtain ⟨p, hp⟩ : ∃ p : Nat, q + 4 * n = p := ⟨_, rfl⟩
  rw [hp]
  have hneg2 : ¬ ((p : Int) < 0) := by omega
  have HP := Lib.hid hp
  clear hp
  go_wp2
  go_ret
  exact ⟨ret_int (by rw [HQ.out, HP.out]), next b0 b2⟩
end Go.Proofs.YtblcgbgcccjpcaaGreat
namespace Go.Proofs.YtblcgbgcccjpcaaGreat
open Go.RowKit

set_option maxHeartbeats 1000000 in
theorem szWorkS_small (A : Option Addr) (l : List Wr) (cap : Nat) (n : Int) (w : World) (h1 : n ≤ 1048576) (hl : Wks w A l) (h : (l.length + szWrs l : Int) ≤ n) :
    Calls Tryz.prog 93 #[.slice A l.length cap, .int .i64 n] w fun r w' => r = .returned (.int .i64 (n - l.length - szWrs l)) ∧ Below w.heap.size w w' := by
  go_enter Tryz.func93, Tryz.ntmps93
  go_wp2
  go_loopw [1, 5] (fun x i wr => ∃ j : Nat, i = .int .i64 j ∧ j ≤ l.length ∧ x = .int .i64 (n - l.length - szWrs (l.take j)) ∧ Wks wr A l ∧ Below w.heap.size w wr) (fun _ i _ => l.length - (intOf i).toNat)
  case atStart => exact ⟨0, rfl, Nat.zero_le _, by simp [szWrs], hl, Below.refl _ _⟩
  case round =>
    obtain ⟨j, rfl, hj, rfl, hl', hb⟩ := hrel
    have hle := szWrs_take_le l j
    by_cases hlt : j < l.length
    · have hs := szWrs_take l j hlt
      have hle' := szWrs_take_le l (j + 1)
      have HS := Lib.hid hs
      have hp : (szWr l[j] : Int) ≤ n - l.length - szWrs (l.take j) := by omega
      have HP := Lib.hid hp
      clear hs hp
      obtain ⟨b, o, rfl, hbl, c0, c1, c2, hc⟩ := Wks_at hl' hlt
      have HC := Lib.hid hc
      clear hc
      go_wp2_with fail
      refine (szWork_small l[j].name l[j].owner l[j].ad l[j].cps l[j].cap _ _ (by omega) HC.out (by have := HP.out; unfold szWr at this; omega)).mono ?_
      rintro r w1 ⟨rfl, b1⟩
      have h0 : 0 ≤ n - (l.length : Int) - (szWrs (l.take j) : Int) - (l[j].name.size : Int) - (l[j].cps.length : Int) - (M.szPages l[j].cps : Int) := by have := HP.out; unfold szWr at this; omega
      go_wp2
      go_roundw
      case rel => exact ⟨j + 1, by go_num, by omega, by rw [HS.out]; unfold szWr; go_num, hl'.below b1, next hb b1⟩
      case measure => simp [intOf]; omega
    · have hj' : j = l.length := by omega
      subst hj'
      go_wp2
      go_ret
      exact ⟨ret_int (by rw [List.take_length]), hb⟩

set_option maxHeartbeats 1000000 in
theorem szWorkS_big (A : Option Addr) (l : List Wr) (cap : Nat) (n : Int) (w : World) (h0 : 0 ≤ n) (h1 : n ≤ 1048576) (hl : Wks w A l) (hlen : l.length ≤ maxLen) (hp : WrsIn maxLen l) (h : n < (l.length + szWrs l : Int)) :
    Calls Tryz.prog 93 #[.slice A l.length cap, .int .i64 n] w fun r w' => r = .returned (.int .i64 (-1)) ∧ Below w.heap.size w w' := by
  unfold maxLen at hlen
  by_cases hshort : n < l.length
  · go_enter Tryz.func93, Tryz.ntmps93
    go_wp2
    go_ret
    exact ⟨rfl, Below.refl _ _⟩
  · go_enter Tryz.func93, Tryz.ntmps93
    go_wp2
    go_loopw [1, 5] (fun x i wr => ∃ j : Nat, i = .int .i64 j ∧ j ≤ l.length ∧ (szWrs (l.take j) : Int) ≤ n - l.length ∧ x = .int .i64 (n - l.length - szWrs (l.take j)) ∧ Wks wr A l ∧ Below w.heap.size w wr) (fun _ i _ => l.length - (intOf i).toNat)
    case atStart => exact ⟨0, rfl, Nat.zero_le _, by simp [szWrs]; omega, by simp [szWrs], hl, Below.refl _ _⟩
    case round =>
      obtain ⟨j, rfl, hj, hle, rfl, hl', hb⟩ := hrel
      by_cases hlt : j < l.length
      · have HS := Lib.hid (szWrs_take l j hlt)
        have HPJ := Lib.hid (hp l[j] (List.getElem_mem hlt))
        obtain ⟨b, o, rfl, hbl, c0, c1, c2, hc⟩ := Wks_at hl' hlt
        have HC := Lib.hid hc
        clear hc
        by_cases hfit : (szWr l[j] : Int) ≤ n - l.length - szWrs (l.take j)
        · have HP := Lib.hid hfit
          clear hfit
          go_wp2_with fail
          refine (szWork_small l[j].name l[j].owner l[j].ad l[j].cps l[j].cap _ _ (by omega) HC.out (by have := HP.out; unfold szWr at this; omega)).mono ?_
          rintro r w1 ⟨rfl, b1⟩
          have h0 : 0 ≤ n - (l.length : Int) - (szWrs (l.take j) : Int) - (l[j].name.size : Int) - (l[j].cps.length : Int) - (M.szPages l[j].cps : Int) := by have := HP.out; unfold szWr at this; omega
          go_wp2
          go_roundw
          case rel => exact ⟨j + 1, by go_num, by omega, by have := HP.out; rw [HS.out]; simp; omega, by rw [HS.out]; unfold szWr; go_num, hl'.below b1, next hb b1⟩
          case measure => simp [intOf]; omega
        · have HP : Hid (n - l.length - szWrs (l.take j) < (szWr l[j] : Int)) := Lib.hid (by omega)
          clear hfit
          go_wp2_with fail
          refine (szWork_big l[j].name l[j].owner l[j].ad l[j].cps l[j].cap _ _ (by omega) (by omega) HC.out HPJ.out.1 HPJ.out.2.1 HPJ.out.2.2 (by have := HP.out; unfold szWr at this; omega)).mono ?_
          rintro r w1 ⟨rfl, b1⟩
          go_wp2
          go_ret
          exact ⟨rfl, next hb b1⟩
      · have hj' : j = l.length := by omega
        subst hj'
        rw [List.take_length] at hle
        omega
end Go.Proofs.YtblcgbgcccjpcaaGreat
namespace Go.Proofs.YtblcgbgcccjpcaaGreat
open Go.RowKit
set_option maxRecDepth 20000

theorem wk_at {l m : List Wr} (h : l.map Wr.wk = m.map Wr.wk) {j : Nat} (hl : j < l.length) (hm : j < m.length) : l[j].name = m[j].name ∧ l[j].owner = m[j].owner ∧ l[j].cps = m[j].cps := by
  have h1 : (l.map Wr.wk)[j]'(by simpa using hl) = (m.map Wr.wk)[j]'(by simpa using hm) := by simp only [h]
  simp only [List.getElem_map, Wr.wk] at h1
  injection h1 with a b c
  exact ⟨a, b, c⟩

set_option maxHeartbeats 1000000 in
theorem eqWorkS_same (A B : Option Addr) (l m : List Wr) (ca cb : Nat) (w : World) (ha : Wks w A l) (hb : Wks w B m) (he : l.map Wr.wk = m.map Wr.wk) (hlen : l.length ≤ maxLen) (hp : WrsIn maxLen l) :
    Calls Tryz.prog 99 #[.slice A l.length ca, .slice B m.length cb] w fun r w' => r = .returned (.bool true) ∧ Below w.heap.size w w' := by
  have hml : m.length = l.length := by have := congrArg List.length he; simpa using this.symm
  rw [hml]
  unfold maxLen at hlen
  have HP := Lib.hid hp
  have HM := Lib.hid hml
  have HE := Lib.hid he
  clear hp hml he
  have he : ((l.length : Int) != (l.length : Int)) = false := by simp
  go_enter Tryz.func99, Tryz.ntmps99
  go_wp2
  go_loopw [5] (fun i wr => ∃ j : Nat, i = .int .i64 j ∧ j ≤ l.length ∧ Below w.heap.size w wr) (fun i _ => l.length - (intOf i).toNat)
  case atStart => exact ⟨0, rfl, Nat.zero_le _, Below.refl _ _⟩
  case round =>
    obtain ⟨j, rfl, hj, hbl⟩ := hrel
    by_cases hlt : j < l.length
    · have hltm : j < m.length := by have := HM.out; omega
      obtain ⟨b, o, rfl, _, c0, c1, c2, hc⟩ := Wks_at (ha.below hbl) hlt
      obtain ⟨b', o', rfl, _, d0, d1, d2, hd⟩ := Wks_at (hb.below hbl) hltm
      obtain ⟨e1, e2, e3⟩ := wk_at HE.out hlt hltm
      rw [← e1] at d0
      rw [← e2] at d1
      rw [← e3] at d2 hd
      have HA := Lib.hid ha
      have HB := Lib.hid hb
      have HC := Lib.hid hc
      have HD := Lib.hid hd
      clear ha hb hc hd e1 e2 e3
      go_wp2_with fail
      go_still_tail 8, (by kernel_rfl)
      change wpList _ _ _ _ _ wr.drew
      go_wp2_with fail
      refine (eqWork_same l[j].name l[j].owner l[j].ad m[j].ad l[j].cps l[j].cap m[j].cap _ (show Cps wr.drew _ _ from HC.out) (show Cps wr.drew _ _ from HD.out) (HP.out _ (List.getElem_mem hlt)).2.1).mono ?_
      rintro r w1 ⟨rfl, b1⟩
      go_wp2
      go_roundw
      case rel => exact ⟨j + 1, by go_num, by omega, next hbl.drew b1⟩
      case measure => simp [intOf]; omega
    · have hj' : j = l.length := by omega
      subst hj'
      go_wp2
      go_ret
      exact ⟨rfl, hbl⟩
end Go.Proofs.YtblcgbgcccjpcaaGreat
namespace Go.Proofs.YtblcgbgcccjpcaaGreat
open Go.RowKit
set_option maxRecDepth 20000
set_option maxHeartbeats 1000000 in
theorem szBook_small (A : Option Addr) (l : List Wr) (cap : Nat) (B : Option Addr) (m : List M.La) (cb : Nat) (n : Int) (w : World) (h1 : n ≤ 1048576) (hl : Wks w A l) (hm : Las w B m) (h : (l.length + szWrs l + (m.length + szLas m) : Int) ≤ n) :
    Calls Tryz.prog 42 #[bkV A l.length cap B m.length cb, .int .i64 n] w fun r w' => r = .returned (.int .i64 (n - l.length - szWrs l - m.length - szLas m)) ∧ Below w.heap.size w w' := by
  have b0 := (Below.refl w.heap.size w).alloc (Nat.le_refl _) (.cells (bkA A l.length cap B m.length cb) 86)
  have h0 := holds_new w (bkA A l.length cap B m.length cb) 86
  have HN : Hid (0 ≤ n - (l.length : Int) - (szWrs l : Int)) := Lib.hid (by omega)
  have HN2 : Hid (0 ≤ n - (l.length : Int) - (szWrs l : Int) - (m.length : Int) - (szLas m : Int)) := Lib.hid (by omega)
  have HM := Lib.hid hm
  clear hm
  go_enter Tryz.func42, Tryz.ntmps42
  go_wp2_with fail
  refine (szWorkS_small A l cap n _ h1 (hl.below b0) (by omega)).mono ?_
  rintro r w1 ⟨rfl, b1⟩
  replace h0 := h0.below b1
  replace b0 := next b0 b1
  obtain ⟨k0, k1⟩ := h0.two
  have hn := HN.out
  clear b1
  go_wp2_with fail
  refine (laszS_small B m cb _ _ (by omega) (HM.out.below b0) (by have := HN2.out; omega)).mono ?_
  rintro r w2 ⟨rfl, b2⟩
  have hn2 := HN2.out
  go_wp2
  go_ret
  exact ⟨rfl, next b0 b2⟩
set_option maxHeartbeats 1000000 in
theorem szBook_big (A : Option Addr) (l : List Wr) (cap : Nat) (B : Option Addr) (m : List M.La) (cb : Nat) (n : Int) (w : World) (h0n : 0 ≤ n) (h1 : n ≤ 1048576) (hl : Wks w A l) (hm : Las w B m) (hlen : l.length ≤ maxLen) (hp : WrsIn maxLen l) (hml : m.length ≤ maxLen) (hmp : ∀ c ∈ m, laIn maxLen c) (h : n < (l.length + szWrs l + (m.length + szLas m) : Int)) :
    Calls Tryz.prog 42 #[bkV A l.length cap B m.length cb, .int .i64 n] w fun r w' => r = .returned (.int .i64 (-1)) ∧ Below w.heap.size w w' := by
  have b0 := (Below.refl w.heap.size w).alloc (Nat.le_refl _) (.cells (bkA A l.length cap B m.length cb) 86)
  have h0 := holds_new w (bkA A l.length cap B m.length cb) 86
  have HM := Lib.hid hm
  clear hm
  by_cases hbig : n < (l.length + szWrs l : Int)
  · go_enter Tryz.func42, Tryz.ntmps42
    go_wp2_with fail
    refine (szWorkS_big A l cap n _ h0n h1 (hl.below b0) hlen hp hbig).mono ?_
    rintro r w1 ⟨rfl, b1⟩
    go_wp2
    go_ret
    exact ⟨rfl, next b0 b1⟩
  · have hn : 0 ≤ n - (l.length : Int) - (szWrs l : Int) := by omega
    go_enter Tryz.func42, Tryz.ntmps42
    go_wp2_with fail
    refine (szWorkS_small A l cap n _ h1 (hl.below b0) (by omega)).mono ?_
    rintro r w1 ⟨rfl, b1⟩
    replace h0 := h0.below b1
    replace b0 := next b0 b1
    obtain ⟨k0, k1⟩ := h0.two
    clear b1
    go_wp2_with fail
    refine (laszS_big B m cb _ _ (by omega) (by omega) (HM.out.below b0) hml hmp (by omega)).mono ?_
    rintro r w2 ⟨rfl, b2⟩
    go_wp2
    go_ret
    exact ⟨rfl, next b0 b2⟩

theorem wrs_eq {l rs : List Wr} {n : Nat} (h : rs.map Wr.wk = l.map Wr.wk) (hp : WrsIn n l) : WrsIn n rs := fun r hr => by
  have h1 : r.wk ∈ l.map Wr.wk := h ▸ List.mem_map_of_mem hr
  obtain ⟨x, hx, e⟩ := List.mem_map.1 h1
  have h2 := hp x hx
  have e1 : x.name = r.name := congrArg M.Wk.name e
  have e2 : x.cps = r.cps := congrArg M.Wk.copies e
  rw [e1, e2] at h2
  exact h2
theorem results_toBook (A : Option Addr) (n c : Nat) (B : Option Addr) (m e : Nat) (R : Nat) (W : World) (tmps : Array Value) (h2 : tmps.getD 2 undef = .pointer (some ⟨R, 0, none⟩)) (hW : Holds W R (bkA A n c B m e)) :
    (results Tryz.f44 tmps).run Tryz.prog W = .ok (bkV A n c B m e) W := by
  obtain ⟨q0, q1⟩ := hW.two
  simp at h2
  simp [results, Tryz.results44, go_sem, h2, q0, q1]
/-- v is a book in memory of one's own from block B on. -/
def BkOwn (W : Nat) (w : World) (v : Value) (l : List Wr) (m : List M.La) : Prop :=
  ∃ gA gB, v = bkV (some ⟨gA, 0, none⟩) l.length l.length (some ⟨gB, 0, none⟩) m.length m.length ∧ SfOwn W w (.slice (some ⟨gA, 0, none⟩) l.length l.length) l ∧ LasOwn W w (.slice (some ⟨gB, 0, none⟩) m.length m.length) m ∧ gA < gB ∧ ∀ r ∈ l, ∀ k, r.sl.ownBlock = some k → k < gB
set_option maxHeartbeats 2000000 in
theorem toBook_any (A : Option Addr) (l : List Wr) (cap : Nat) (B : Option Addr) (m : List M.La) (cb : Nat) (w : World) (hl : Wks w A l) (hlen : l.length ≤ 1048576) (hp : WrsIn 1048576 l) (hml : Las w B m) (hmlen : m.length ≤ 1048576) :
    Calls Tryz.prog 44 #[bkV A l.length cap B m.length cb] w fun r w' => ∃ (v : Value) (rs : List Wr), r = .returned v ∧ rs.map Wr.wk = l.map Wr.wk ∧ rs.length = l.length ∧ (∀ x ∈ rs, x.ad ≠ none ∧ x.cap = x.cps.length) ∧ BkOwn w.heap.size w' v rs m ∧ Below w.heap.size w w' := by
  have HL := Lib.hid hl
  have HP := Lib.hid hp
  have HM := Lib.hid hml
  clear hl hp hml
  have hm := (((Mem.start w).new (bkA A l.length cap B m.length cb) 86).new (bkA none 0 0 none 0 0) 27).new (bkA none 0 0 none 0 0) 27
  simp only [World.size_alloc] at hm
  go_enter Tryz.func44, Tryz.ntmps44
  go_wp2_with fail
  refine (toWorkS_any A l cap _ (HL.out.below hm.1) hlen HP.out).mono ?_
  rintro r w1 ⟨rs, hrs, hrl, hra, rfl, o1, b1⟩
  have hm1 := hm.below b1
  have hs1 := b1.size
  simp only [World.size_alloc] at o1 hs1 ⊢
  have HRS := Lib.hid hrs
  have HRL := Lib.hid hrl
  have HRA := Lib.hid hra
  have HO1 := Lib.hid o1
  clear hm hrs hrl hra o1 b1
  obtain ⟨p0, p1⟩ := (hm1.get w.heap.size (bkA A l.length cap B m.length cb) (by simp)).two
  obtain ⟨q0, q1⟩ := (hm1.get (w.heap.size + 1 + 1) (bkA none 0 0 none 0 0) (by simp)).two
  have z0 := hm1.loose (w.heap.size + 1 + 1) (by simp) 0
  have zz := (hm1.get (w.heap.size + 1 + 1) (bkA none 0 0 none 0 0) (by simp)).1
  have hm2 := hm1.put (by omega) (by simp; omega) 0 (.slice (some ⟨w.heap.size + 1 + 1 + 1, 0, none⟩) l.length l.length)
  clear hm1
  go_wp2_with fail
  refine (latoS_any B m cb _ (HM.out.below hm2.1) hmlen).mono ?_
  rintro r w2 ⟨rfl, o2, b2⟩
  have hm3 := hm2.below b2
  have hs2 := b2.size
  simp only [World.size_setCell] at o2 hs2 ⊢
  have HO2 := Lib.hid o2
  have HO1B := Lib.hid (((HO1.out.set (g := w.heap.size + 1 + 1) (by omega) 0 (.slice (some ⟨w.heap.size + 1 + 1 + 1, 0, none⟩) l.length l.length))).below b2)
  have HLT : Hid (∀ r ∈ rs, ∀ k, r.sl.ownBlock = some k → k < w1.heap.size) := Lib.hid (fun r hr k e => ((HO1.out.2.1 r hr).lt k e).2)
  clear hm2 o2 b2 p0 p1 q0 q1 z0 zz
  simp only [List.setIfInBounds_toArray, List.set_cons_zero] at hm3
  obtain ⟨q0, q1⟩ := (hm3.get (w.heap.size + 1 + 1) (bkA (some ⟨w.heap.size + 1 + 1 + 1, 0, none⟩) l.length l.length none 0 0) (by simp)).two
  obtain ⟨p0, p1⟩ := (hm3.get (w.heap.size + 1) (bkA none 0 0 none 0 0) (by simp)).two
  have z1 := hm3.loose (w.heap.size + 1 + 1) (by simp) 1
  have y0 := hm3.loose (w.heap.size + 1) (by simp) 0
  have y1 := hm3.loose (w.heap.size + 1) (by simp) 1
  have HM3 := Lib.hid hm3
  clear hm3
  go_wp2
  have hm4 := HM3.out.put (by omega) (by simp; omega) 1 (.slice (some ⟨w1.heap.size, 0, none⟩) m.length m.length)
  refine bodyPost_ret (results_toBook (some ⟨w.heap.size + 1 + 1 + 1, 0, none⟩) l.length l.length (some ⟨w1.heap.size, 0, none⟩) m.length m.length (w.heap.size + 1) _ _ rfl ?_) rfl ⟨_, rs, rfl, HRS.out, HRL.out, HRA.out, ⟨w.heap.size + 1 + 1 + 1, w1.heap.size, by rw [HRL.out], ?_, ?_, ?_, HLT.out⟩, ?_⟩
  · simpa using (((hm4.get (w.heap.size + 1) (bkA none 0 0 none 0 0) (by simp)).putM 0 (.slice (some ⟨w.heap.size + 1 + 1 + 1, 0, none⟩) l.length l.length)).putM 1 (.slice (some ⟨w1.heap.size, 0, none⟩) m.length m.length))
  · rw [HRL.out]
    exact (((HO1B.out.set (by omega) 1 _).set (by omega) 0 _).set (by omega) 1 _).mono (by omega)
  · exact World.ownsRow.mono (own_set (own_set (own_set HO2.out (by omega) 1 _) (by omega) 0 _) (by omega) 1 _) (by omega)
  · exact (World.ownsRow.lt HO1.out.1 _ rfl).2
  · exact (hm4.1.setCell (by show w.heap.size ≤ w.heap.size + 1; omega) _).setCell (by show w.heap.size ≤ w.heap.size + 1; omega) _

set_option maxHeartbeats 2000000 in
theorem eqBook_same (A A' : Option Addr) (l l' : List Wr) (c c' : Nat) (B B' : Option Addr) (m : List M.La) (e e' : Nat) (w : World) (hl : Wks w A l) (hl' : Wks w A' l') (hmap : l.map Wr.wk = l'.map Wr.wk) (hlen : l.length ≤ maxLen) (hp : WrsIn maxLen l) (hm : Las w B m) (hm' : Las w B' m) (hml : m.length ≤ maxLen) :
    Calls Tryz.prog 46 #[bkV A l.length c B m.length e, bkV A' l'.length c' B' m.length e'] w fun r w' => r = .returned (.bool true) ∧ Below w.heap.size w w' := by
  have b0 := ((Below.refl w.heap.size w).alloc (Nat.le_refl _) (.cells (bkA A l.length c B m.length e) 27)).alloc (by simp) (.cells (bkA A' l'.length c' B' m.length e') 27)
  have h0 := (holds_new w (bkA A l.length c B m.length e) 27).alloc (.cells (bkA A' l'.length c' B' m.length e') 27)
  have h1 := holds_new (w.alloc (.cells (bkA A l.length c B m.length e) 27)) (bkA A' l'.length c' B' m.length e') 27
  simp only [World.size_alloc] at h1
  have HM := Lib.hid hm
  have HM' := Lib.hid hm'
  have HP := Lib.hid hp
  have HMAP := Lib.hid hmap
  clear hm hm' hp hmap
  go_enter Tryz.func46, Tryz.ntmps46
  go_wp2_with fail
  refine (eqWorkS_same A A' l l' c c' _ (hl.below b0) (hl'.below b0) HMAP.out hlen HP.out).mono ?_
  rintro r w1 ⟨rfl, b1⟩
  replace h0 := h0.below b1
  replace h1 := h1.below b1
  replace b0 := next b0 b1
  obtain ⟨k0, k1⟩ := h0.two
  obtain ⟨j0, j1⟩ := h1.two
  clear b1
  go_wp2_with fail
  refine (laeqS_same B B' m e e' _ (HM.out.below b0) (HM'.out.below b0) hml).mono ?_
  rintro r w2 ⟨rfl, b2⟩
  go_wp2
  go_ret
  exact ⟨rfl, next b0 b2⟩
end Go.Proofs.YtblcgbgcccjpcaaGreat
