/- Proved: what the model's cursor over a draw's bytes gives: numbers within their bounds; it writes its own block alone. Conditions: the cursor's block is as its maker leaves it. -/
import Derived.Test.YtnelgadfgeakjaaCore
import Derived.Deep.QuietTactic
import Derived.BigQuiet
import Derived.Deep.DeepCutAuto
import Derived.IntWalk
import Derived.Deep.RegionWith
import Derived.Laws.IdiomStrings
import Derived.KernelRfl
namespace Go.Proofs.Ytnelgadfgeakjaa
open Go.RowKit

/-- The bytes of a draw: below block B, readable. -/
def CodeOk (B : Nat) (w : World) (a : Option Addr) (len : Nat) : Prop :=
  ∀ j, j < len → ∃ (b off : Nat) (n : Int), a = some ⟨b, off, none⟩ ∧ b < B ∧ 0 ≤ n ∧ n ≤ 255 ∧ w.cell? ⟨b, off + j, none⟩ = some (.int .u8 n)

/-- Block g, from B on, is a cursor. -/
def Cur (B : Nat) (w : World) (g : Nat) : Prop :=
  B ≤ g ∧ g < w.heap.size ∧ ∃ (a : Option Addr) (len cap i : Nat) (h : Int), len ≤ maxLen ∧ i ≤ len ∧ CodeOk B w a len ∧
    w.cell? ⟨g, 0, none⟩ = some (.slice a len cap) ∧ w.cell? ⟨g, 1, none⟩ = some (.int .i64 i) ∧ w.cell? ⟨g, 2, none⟩ = some (.int .i64 h) ∧
    w.frozen? ⟨g, 1, none⟩ = false ∧ w.frozen? ⟨g, 2, none⟩ = false

/-- A number from lo to hi; the cursor stands, and its block alone is written. -/
def IntOut (B g : Nat) (lo hi : Int) (w : World) (e : Ending) (w' : World) : Prop :=
  ∃ n : Int, lo ≤ n ∧ n ≤ hi ∧ e = .returned (.int .i64 n) ∧ Cur B w' g ∧ w.grownBy w' (some g)

theorem and_mask_bd (x : Int) (m : Nat) (hm : m < 2 ^ 63) : 0 ≤ bits BinOp.and IntKind.i64 x (m : Int) ∧ bits BinOp.and IntKind.i64 x (m : Int) ≤ m := by
  have key : (BitVec.ofInt 64 x &&& BitVec.ofInt 64 (m : Int)).toNat ≤ m := by
    rw [BitVec.toNat_and]
    refine Nat.le_trans Nat.and_le_right ?_
    rw [BitVec.ofInt_natCast, BitVec.toNat_ofNat]
    exact Nat.mod_le _ _
  show 0 ≤ IntKind.i64.wrap ((BitVec.ofInt 64 x &&& BitVec.ofInt 64 (m : Int)).toNat : Int) ∧ IntKind.i64.wrap ((BitVec.ofInt 64 x &&& BitVec.ofInt 64 (m : Int)).toNat : Int) ≤ m
  generalize (BitVec.ofInt 64 x &&& BitVec.ofInt 64 (m : Int)).toNat = n at key ⊢
  have e : IntKind.i64.wrap (n : Int) = n := by
    exact IntWalk.i64_in _ (by omega)
  rw [e]; omega

/-- The cursor's cells, by their values. -/
def CurAt (B g : Nat) (w : World) (a : Option Addr) (len cap i : Nat) (h : Int) : Prop :=
  g < w.heap.size ∧ CodeOk B w a len ∧
    w.cell? ⟨g, 0, none⟩ = some (.slice a len cap) ∧ w.cell? ⟨g, 1, none⟩ = some (.int .i64 i) ∧ w.cell? ⟨g, 2, none⟩ = some (.int .i64 h) ∧
    w.frozen? ⟨g, 1, none⟩ = false ∧ w.frozen? ⟨g, 2, none⟩ = false

theorem grownBy_set (w : World) (g i : Nat) (v : Value) : w.grownBy (w.setCell ⟨g, i, none⟩ v) (some g) :=
  ⟨rfl, rfl, rfl, by simp, fun k _ hk => Below.heap_setCell _ _ _ _ (fun e => hk (by rw [e]))⟩

theorem grownBy_trans {a b c : World} {row : Option Nat} (h : a.grownBy b row) (k : b.grownBy c row) : a.grownBy c row :=
  ⟨k.os.trans h.os, k.tape.trans h.tape, k.output.trans h.output, Nat.le_trans h.size k.size, fun i hi hne => (k.block i (Nat.lt_of_lt_of_le hi h.size) hne).trans (h.block i hi hne)⟩

theorem grownBy_drewN {a b : World} {row : Option Nat} (h : a.grownBy b row) (n : Nat) : a.grownBy (b.drewN n) row :=
  ⟨h.os, h.tape, h.output, h.size, h.block⟩

theorem CodeOk.kept {B : Nat} {w w' : World} {a : Option Addr} {len : Nat} (h : CodeOk B w a len) (hb : ∀ k, k < B → w'.heap[k]? = w.heap[k]?) : CodeOk B w' a len := by
  intro j hj
  obtain ⟨b, off, n, ha, hlt, h0, h1, hc⟩ := h j hj
  exact ⟨b, off, n, ha, hlt, h0, h1, (World.cell?_of_block (hb b hlt)).trans hc⟩

theorem CurAt.kept {B g : Nat} {w w' : World} {a : Option Addr} {len cap i : Nat} {h : Int} (hc : CurAt B g w a len cap i h) (hB : B ≤ g) {row : Option Nat} (hg : w.grownBy w' row) (hr : ∀ k, row = some k → g ≠ k ∧ B ≤ k) : CurAt B g w' a len cap i h := by
  obtain ⟨hlt, hcode, c0, c1, c2, f1, f2⟩ := hc
  have hbg : w'.heap[g]? = w.heap[g]? := hg.block g hlt (fun e => (hr g e.symm).1 rfl)
  refine ⟨Nat.lt_of_lt_of_le hlt hg.size, hcode.kept fun k hk => hg.block k (by omega) (fun e => by have := (hr k e.symm).2; omega), ?_, ?_, ?_, ?_, ?_⟩
  · exact (World.cell?_of_block (a := ⟨g, 0, none⟩) hbg).trans c0
  · exact (World.cell?_of_block (a := ⟨g, 1, none⟩) hbg).trans c1
  · exact (World.cell?_of_block (a := ⟨g, 2, none⟩) hbg).trans c2
  · exact (World.frozen?_of_block (a := ⟨g, 1, none⟩) hbg).trans f1
  · exact (World.frozen?_of_block (a := ⟨g, 2, none⟩) hbg).trans f2

theorem CurAt.setH {B g : Nat} {w : World} {a : Option Addr} {len cap i : Nat} {h : Int} (hc : CurAt B g w a len cap i h) (hB : B ≤ g) (x : Int) : CurAt B g (w.setCell ⟨g, 2, none⟩ (.int .i64 x)) a len cap i x := by
  obtain ⟨hlt, hcode, c0, c1, c2, f1, f2⟩ := hc
  refine ⟨by simpa using hlt, hcode.kept fun k hk => Below.heap_setCell _ _ _ _ (by show k ≠ g; omega), ?_, ?_, ?_, ?_, ?_⟩
  · rw [World.cell?_setCell_other w _ _ _ (by simp)]; exact c0
  · rw [World.cell?_setCell_other w _ _ _ (by simp)]; exact c1
  · exact World.cell?_setCell_same w _ _ c2
  · rw [World.frozen?_setCell]; exact f1
  · rw [World.frozen?_setCell]; exact f2

theorem CurAt.setI {B g : Nat} {w : World} {a : Option Addr} {len cap i : Nat} {h : Int} (hc : CurAt B g w a len cap i h) (hB : B ≤ g) (x : Nat) : CurAt B g (w.setCell ⟨g, 1, none⟩ (.int .i64 x)) a len cap x h := by
  obtain ⟨hlt, hcode, c0, c1, c2, f1, f2⟩ := hc
  refine ⟨by simpa using hlt, hcode.kept fun k hk => Below.heap_setCell _ _ _ _ (by show k ≠ g; omega), ?_, ?_, ?_, ?_, ?_⟩
  · rw [World.cell?_setCell_other w _ _ _ (by simp)]; exact c0
  · exact World.cell?_setCell_same w _ _ c1
  · rw [World.cell?_setCell_other w _ _ _ (by simp)]; exact c2
  · rw [World.frozen?_setCell]; exact f1
  · rw [World.frozen?_setCell]; exact f2

theorem CurAt.drewN {B g : Nat} {w : World} {a : Option Addr} {len cap i : Nat} {h : Int} (hc : CurAt B g w a len cap i h) (n : Nat) : CurAt B g (w.drewN n) a len cap i h := hc

theorem cur_of {B g : Nat} {w : World} {a : Option Addr} {len cap i : Nat} {h : Int} (hB : B ≤ g) (hl : len ≤ maxLen) (hi : i ≤ len) (hc : CurAt B g w a len cap i h) : Cur B w g :=
  ⟨hB, hc.1, a, len, cap, i, h, hl, hi, hc.2⟩

theorem Cur.kept {B g : Nat} {w w' : World} (hc : Cur B w g) {row : Option Nat} (hg : w.grownBy w' row) (hr : ∀ k, row = some k → g ≠ k ∧ B ≤ k) : Cur B w' g := by
  obtain ⟨hB, hlt, a, len, cap, i, h, hl, hi, hc⟩ := hc
  exact cur_of hB hl hi (CurAt.kept (w := w) ⟨hlt, hc⟩ hB hg hr)

set_option maxHeartbeats 1000000 in
theorem l1Byte_any (B g : Nat) (w : World) (hc : Cur B w g) :
    Calls Try.prog 44 #[.pointer (some ⟨g, 0, none⟩)] w (IntOut B g 0 255 w) := by
  obtain ⟨hB, hg, a, len, cap, i, h, hlen, hi, hcode, h0, h1, h2, f1, f2⟩ := hc
  have HC : Hid (CurAt B g w a len cap i h) := Lib.hid ⟨hg, hcode, h0, h1, h2, f1, f2⟩
  unfold maxLen at hlen
  go_enter Try.func44, Try.ntmps44
  go_upto_region 2 with (fail)
  go_cut [3] (fun s3 wx => ∃ (x h' : Int), s3 = .int .i64 x ∧ 0 ≤ x ∧ x ≤ 255 ∧ CurAt B g wx a len cap i h' ∧ w.grownBy wx (some g))
  case first =>
    go_quiet (fail)
    go_wp2
    go_meet
    exact ⟨_, _, rfl, (and_mask_bd _ 255 (by decide)).1, (and_mask_bd _ 255 (by decide)).2, (HC.out.setH hB _).drewN _, grownBy_drewN (grownBy_set w g 2 _) _⟩
  case rest =>
    obtain ⟨x, h', rfl, hx0, hx1, hcur, hgr⟩ := hcut
    clear HC hcode h0 h1 h2 f1 f2
    have HX := Lib.hid hcur
    obtain ⟨hg', hcode, c0, c1, c2, f1, f2⟩ := hcur
    by_cases hlt : i < len
    · obtain ⟨b, off, n, rfl, hb, hn0, hn1, hcell⟩ := hcode i hlt
      clear hcode
      have hbx : b ≠ g := by omega
      go_wp2
      go_quiet (fail)
      go_wp2
      go_quiet (fail)
      go_wp2
      go_ret
      refine ⟨_, (and_mask_bd _ 255 (by decide)).1, (and_mask_bd _ 255 (by decide)).2, rfl, ?_, ?_⟩
      · exact cur_of hB (by unfold maxLen; omega) hlt ((HX.out.drewN _).setI hB (i + 1))
      · exact grownBy_trans (grownBy_drewN hgr _) (grownBy_set _ _ _ _)
    · clear hcode
      go_wp2
      go_quiet (fail)
      go_wp2
      go_ret
      exact ⟨x, hx0, hx1, rfl, cur_of hB (by unfold maxLen; omega) hi (HX.out.drewN _), grownBy_drewN hgr _⟩

set_option maxHeartbeats 1000000 in
theorem l1Below_any (B g : Nat) (w : World) (hc : Cur B w g) (n : Int) (hn : 1 ≤ n) (hn' : n ≤ 4294967296) :
    Calls Try.prog 38 #[.pointer (some ⟨g, 0, none⟩), .int .i64 n] w (IntOut B g 0 (n - 1) w) := by
  by_cases h : n ≤ 256
  · go_enter Try.func38, Try.ntmps38
    go_wp2_with fail
    refine (l1Byte_any B g _ hc).mono ?_
    rintro e w1 ⟨x, hx0, hx1, rfl, hc1, hg1⟩
    go_wp2
    go_ret
    exact ⟨_, Int.emod_nonneg _ (by omega), by have := Int.emod_lt_of_pos x (show 0 < n by omega); omega, rfl, hc1, hg1⟩
  · go_enter Try.func38, Try.ntmps38
    go_wp2_with fail
    refine (l1Byte_any B g _ hc).mono ?_
    rintro e w1 ⟨x, hx0, hx1, rfl, hc1, hg1⟩
    go_wp2_with fail
    refine (l1Byte_any B g _ hc1).mono ?_
    rintro e w2 ⟨y, hy0, hy1, rfl, hc2, hg2⟩
    go_wp2_with fail
    refine (l1Byte_any B g _ hc2).mono ?_
    rintro e w3 ⟨z, hz0, hz1, rfl, hc3, hg3⟩
    go_wp2_with fail
    refine (l1Byte_any B g _ hc3).mono ?_
    rintro e w4 ⟨v, hv0, hv1, rfl, hc4, hg4⟩
    go_wp2
    go_ret
    exact ⟨_, Int.emod_nonneg _ (by omega), by have := Int.emod_lt_of_pos (x * 16777216 + y * 65536 + z * 256 + v) (show 0 < n by omega); omega, rfl, hc4, grownBy_trans hg1 (grownBy_trans hg2 (grownBy_trans hg3 hg4))⟩

/-- A bool; the cursor stands, and its block alone is written. -/
def BoolOut (B g : Nat) (w : World) (e : Ending) (w' : World) : Prop :=
  ∃ b : Bool, e = .returned (.bool b) ∧ Cur B w' g ∧ w.grownBy w' (some g)

theorem l1Once_any (B g : Nat) (w : World) (hc : Cur B w g) (n : Int) (hn : 1 ≤ n) (hn' : n ≤ 4294967296) :
    Calls Try.prog 39 #[.pointer (some ⟨g, 0, none⟩), .int .i64 n] w (BoolOut B g w) := by
  go_enter Try.func39, Try.ntmps39
  go_wp2_with fail
  refine (l1Below_any B g _ hc n hn hn').mono ?_
  rintro e w1 ⟨x, hx0, hx1, rfl, hc1, hg1⟩
  go_wp2
  go_ret
  exact ⟨_, rfl, hc1, hg1⟩

/-- A short text; the cursor stands, and its block alone is written. -/
def StrOut (B g : Nat) (w : World) (e : Ending) (w' : World) : Prop :=
  ∃ s : ByteArray, s.size ≤ 64 ∧ e = .returned (.string s) ∧ Cur B w' g ∧ w.grownBy w' (some g)

def strB : Value → Bool
  | .string s => decide (s.size ≤ 64)
  | _ => false

theorem lit_str {w w1 : World} {g : Nat} {C : Array Value} {t : TypeId} (hg : (w.alloc (.cells C t)).grownBy w1 (some g)) (hne : g < w.heap.size) (n : Int) (h0 : 0 ≤ n) (h1 : n < C.size) (hC : C.all strB = true) :
    ∃ s : ByteArray, s.size ≤ 64 ∧ w1.cell? ⟨w.heap.size, n.toNat, none⟩ = some (.string s) := by
  have hlt : n.toNat < C.size := by omega
  have e1 : w1.cell? ⟨w.heap.size, n.toNat, none⟩ = C[n.toNat]? := by
    rw [World.cell?_of_block (w := w.alloc (.cells C t)) (hg.block w.heap.size (by simp) (by simp; omega)), World.cell?_alloc_mark]
  rw [e1, Array.getElem?_eq_getElem hlt]
  have hv := (Array.all_eq_true.1 hC) n.toNat hlt
  cases hv' : C[n.toNat] <;> rw [hv'] at hv <;> simp [strB] at hv
  exact ⟨_, hv, rfl⟩

theorem Cur.alloc {B g : Nat} {w : World} (hc : Cur B w g) (o : Obj) : Cur B (w.alloc o) g :=
  hc.kept (World.grownBy_alloc w o none) (by simp)

theorem cur_new {B : Nat} {w : World} {a : Option Addr} {len cap : Nat} {x : Int} {t : TypeId} (hB : B ≤ w.heap.size) (hl : len ≤ maxLen) (hc : CodeOk B w a len) :
    Cur B (w.alloc (.cells #[.slice a len cap, .int .i64 0, .int .i64 x] t)) w.heap.size := by
  have h0 := fun j => World.cell?_alloc_mark w #[.slice a len cap, .int .i64 0, .int .i64 x] t (0, 0) j
  have h1 := fun j => World.frozen?_alloc_mark w #[.slice a len cap, .int .i64 0, .int .i64 x] t 0 0 j
  refine ⟨hB, by simp, a, len, cap, 0, x, hl, Nat.zero_le _, hc.kept fun k hk => Below.heap_alloc _ _ _ (by omega), ?_, ?_, ?_, ?_, ?_⟩
  · rw [h0]; rfl
  · rw [h0]; rfl
  · rw [h0]; rfl
  · rw [h1]; simp
  · rw [h1]; simp

/-- A new cursor, in block g; nothing that was there is written. -/
def CurOut (B : Nat) (w : World) (e : Ending) (w' : World) : Prop :=
  e = .returned (.pointer (some ⟨w.heap.size, 0, none⟩)) ∧ Cur B w' w.heap.size ∧ w.grownBy w' none

set_option maxHeartbeats 1000000 in
theorem l1New_any (B : Nat) (w : World) (a : Option Addr) (len cap : Nat) (hB : B ≤ w.heap.size) (hl : len ≤ 4096) (hc : CodeOk B w a len) :
    Calls Try.prog 37 #[.slice a len cap] w (CurOut B w) := by
  go_enter Try.func37, Try.ntmps37
  go_wp2
  go_loop [3, 4] (fun h i => ∃ (k : Nat) (x : Int), k ≤ len ∧ i = .int .i64 k ∧ h = .int .i64 x) (fun _ i => len - (intOf i).toNat)
  case atStart => exact ⟨0, _, Nat.zero_le _, rfl, rfl⟩
  case round =>
    obtain ⟨k, x, hk, rfl, rfl⟩ := hrel
    by_cases hlt : k < len
    · obtain ⟨b, off, n, rfl, hb, hn0, hn1, hcell⟩ := hc k hlt
      have HC := Lib.hid hc
      clear hc
      go_wp2
      go_round
      case rel => exact ⟨k + 1, _, by omega, by go_num, rfl⟩
      case measure => simp [intOf]; omega
    · have HC := Lib.hid hc
      clear hc
      go_wp2
      go_ret
      exact ⟨rfl, cur_new hB (by unfold maxLen; omega) HC.out, World.grownBy_alloc _ _ _⟩

/-- A short text; nothing that was there is written. -/
def TextOut (w : World) (e : Ending) (w' : World) : Prop :=
  ∃ s : ByteArray, s.size ≤ 64 ∧ e = .returned (.string s) ∧ Below w.heap.size w w'
/-- Two short texts; nothing that was there is written. -/
def TwoOut (w : World) (e : Ending) (w' : World) : Prop :=
  ∃ s t : ByteArray, s.size ≤ 64 ∧ t.size ≤ 64 ∧ e = .returned (.tuple #[.string s, .string t]) ∧ Below w.heap.size w w'

theorem Cur.drew {B g : Nat} {w : World} (h : Cur B w g) : Cur B w.drew g := h
theorem undrew {w w1 : World} {row : Option Nat} (h : w.drew.grownBy w1 row) : w.grownBy w1 row := ⟨h.os, h.tape, h.output, h.size, h.block⟩

theorem below_of {w w1 : World} (h : w.grownBy w1 none) : Below w.heap.size w w1 :=
  ⟨h.os, h.tape, h.output, h.size, fun k hk => h.block k hk (by simp)⟩

theorem below_by {w w1 w2 : World} (h : Below w.heap.size w w1) (k : w1.grownBy w2 (some w.heap.size)) : Below w.heap.size w w2 :=
  h.grown k h.size (fun j e => by cases e; exact Nat.le_refl _)

end Go.Proofs.Ytnelgadfgeakjaa
