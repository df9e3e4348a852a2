/- Proved, in parts: Proved: the laws' own measure of a book; when a book can be read. Condition: lists that Go can hold. Proved: the laws' own measure of a letter is how many texts and list places it has, -1 where these are more than may be; nothing that was there is written. Condition: lists that Go can hold. Proved: the laws' own copy of a book is the same book in memory of its own; three new boxes. Condition: texts and lists of at most a million. -/
import Derived.Test.YtdoeiphnalbinaaGreatPart16
import Derived.Test.YtdoeiphnalbinaaGreatPart17
namespace Go.Proofs.YtdoeiphnalbinaaGreat
open Go.RowKit
set_option maxRecDepth 20000
def LBk.sz (b : LBk) : Nat := b.sf.l.length + szWrs b.sf.l + (b.la.l.length + szLas b.la.l)
/-- A scribe that can be read, its lists and texts of at most n. -/
structure BkRd (n : Nat) (w : World) (b : LBk) : Prop where
  sf : Wks w b.sf.ad b.sf.l
  sfl : b.sf.l.length ≤ n
  sft : WrsIn n b.sf.l
  la : Las w b.la.ad b.la.l
  lal : b.la.l.length ≤ n
  lat : ∀ c ∈ b.la.l, laIn n c
theorem BkRd.below {n : Nat} {w w' : World} {b : LBk} (h : BkRd n w b) (hb : Below w.heap.size w w') : BkRd n w' b := { h with sf := h.sf.below hb, la := h.la.below hb }
theorem szBookL (b : LBk) (n : Int) (w : World) (h1 : n ≤ 1048576) (hb : BkRd maxLen w b) (h : (b.sz : Int) ≤ n) : Calls Tryz.prog 10 #[b.v, .int .i64 n] w fun e w' => e = .returned (.int .i64 (n - b.sz)) ∧ Below w.heap.size w w' :=
  (szBook_small b.sf.ad b.sf.l b.sf.cap b.la.ad b.la.l b.la.cap n w h1 hb.sf hb.la (by unfold LBk.sz at h; omega)).mono fun e w' ⟨a, b⟩ => ⟨by rw [a]; unfold LBk.sz; congr 2; omega, b⟩
theorem szBook_bigL (b : LBk) (n : Int) (w : World) (h0 : 0 ≤ n) (h1 : n ≤ 1048576) (hb : BkRd maxLen w b) (h : n < (b.sz : Int)) : Calls Tryz.prog 10 #[b.v, .int .i64 n] w fun e w' => e = .returned (.int .i64 (-1)) ∧ Below w.heap.size w w' :=
  szBook_big b.sf.ad b.sf.l b.sf.cap b.la.ad b.la.l b.la.cap n w h0 h1 hb.sf hb.la hb.sfl hb.sft hb.lal hb.lat (by unfold LBk.sz at h; omega)
/-- What the measure leaves of n. -/
def leftOf (n : Int) (k : Nat) : Int := if (k : Int) ≤ n then n - k else -1
set_option maxHeartbeats 16000000 in
/-- What a likeness asks of a book, of a scribe: how long the lists are, not the texts of entries and lasts. -/
structure BkLk (w : World) (b : LBk) : Prop where
  sf : Wks w b.sf.ad b.sf.l
  sfl : b.sf.l.length ≤ maxLen
  sft : WrsIn maxLen b.sf.l
  la : Las w b.la.ad b.la.l
  lal : b.la.l.length ≤ maxLen
end Go.Proofs.YtdoeiphnalbinaaGreat
namespace Go.Proofs.YtdoeiphnalbinaaGreat
open Go.RowKit
set_option maxRecDepth 20000

def LLt.sz (s : LLt) : Nat := s.en.l.length + szEns s.en.l + s.bk.sz
structure LtRd (n : Nat) (w : World) (s : LLt) : Prop where
  en : Ens w s.en.ad s.en.l
  enl : s.en.l.length ≤ n
  ent : ∀ e ∈ s.en.l, enIn n e
  bk : BkRd n w s.bk
theorem LtRd.below {n : Nat} {w w' : World} {s : LLt} (h : LtRd n w s) (hb : Below w.heap.size w w') : LtRd n w' s := { h with en := h.en.below hb, bk := h.bk.below hb }
set_option maxHeartbeats 8000000 in
theorem szLetter_any (s : LLt) (n : Int) (w : World) (h0 : 0 ≤ n) (h1 : n ≤ 1048576) (hs : LtRd maxLen w s) :
    Calls Tryz.prog 4 #[ltV s, .int .i64 n] w fun e w' => e = .returned (.int .i64 (leftOf n s.sz)) ∧ Below w.heap.size w w' := by
  have b0 := (Below.refl w.heap.size w).alloc (Nat.le_refl _) (.cells (ltA s) 28)
  have h00 := holds_new w (ltA s) 28
  have HS := Lib.hid hs
  have HSZ : Hid (s.sz = s.en.l.length + szEns s.en.l + s.bk.sz) := Lib.hid rfl
  clear hs
  go_enter Tryz.func4, Tryz.ntmps4
  obtain ⟨k0, k1, k2, k3, k4, k5, k6, k7, k8, k9, k10⟩ := h00.at11
  by_cases g0 : n < (s.en.l.length + szEns s.en.l : Int)
  · go_wp2_with fail
    refine (enszS_big s.en.ad s.en.l s.en.cap _ _ (by omega) (by omega) (HS.out.en.below b0) HS.out.enl HS.out.ent (by omega)).mono ?_
    rintro r w1 ⟨rfl, b1⟩
    go_wp2
    go_ret
    exact ⟨by unfold leftOf; rw [if_neg (by have := HSZ.out; omega)]; rfl, next b0 b1⟩
  · go_wp2_with fail
    refine (enszS_small s.en.ad s.en.l s.en.cap _ _ (by omega) (HS.out.en.below b0) (by omega)).mono ?_
    rintro r w1 ⟨rfl, b1⟩
    replace h00 := h00.below b1
    replace b0 := next b0 b1
    clear k0 k1 k2 k3 k4 k5 k6 k7 k8 k9 k10 b1
    obtain ⟨k0, k1, k2, k3, k4, k5, k6, k7, k8, k9, k10⟩ := h00.at11
    obtain ⟨n0, hn0⟩ : ∃ x : Int, n - s.en.l.length - szEns s.en.l = x := ⟨_, rfl⟩
    rw [hn0]
    have p0 : 0 ≤ n0 := by omega
    have q0 : n0 ≤ 1048576 := by omega
    by_cases g1 : n0 < ((s.bk.sz : Nat) : Int)
    · go_wp2_with fail
      refine (szBook_bigL s.bk _ _ (by omega) (by omega) (HS.out.bk.below b0) (by omega)).mono ?_
      rintro r w1 ⟨rfl, b1⟩
      go_wp2
      go_ret
      exact ⟨by unfold leftOf; rw [if_neg (by have := HSZ.out; omega)]; rfl, next b0 b1⟩
    · go_wp2_with fail
      refine (szBookL s.bk _ _ (by omega) (HS.out.bk.below b0) (by omega)).mono ?_
      rintro r w1 ⟨rfl, b1⟩
      replace b0 := next b0 b1
      clear k0 k1 k2 k3 k4 k5 k6 k7 k8 k9 k10 b1
      obtain ⟨n1, hn1⟩ : ∃ x : Int, n0 - (s.bk.sz : Nat) = x := ⟨_, rfl⟩
      rw [hn1]
      have p1 : 0 ≤ n1 := by omega
      have q1 : n1 ≤ 1048576 := by omega
      have hfin : leftOf n s.sz = n1 := by unfold leftOf; rw [if_pos (by have := HSZ.out; omega)]; have := HSZ.out; omega
      have HF := Lib.hid hfin
      clear hn0 hn1 hfin
      go_wp2
      go_ret
      exact ⟨by rw [HF.out]; rfl, b0⟩
end Go.Proofs.YtdoeiphnalbinaaGreat
namespace Go.Proofs.YtdoeiphnalbinaaGreat
open Go.RowKit
set_option maxRecDepth 20000
theorem toBookL (b : LBk) (w : World) (h : BkRd 1048576 w b) : Calls Tryz.prog 16 #[b.v] w (BkOut w b.d) :=
  (toBook_any b.sf.ad b.sf.l b.sf.cap b.la.ad b.la.l b.la.cap w h.sf h.sfl h.sft h.la h.lal).mono fun e w' ⟨v, rs, e1, e2, e3, e4, ⟨gA, gB, e5, e6, e7, e8, e9⟩, e10⟩ => by
    obtain ⟨q, k1, k2, k3⟩ := book_laid (B := w.heap.size) (q := b.d) (e := e) (rs := rs) (by rw [e1, e5]) e6 (by rw [e2]; rfl) e7 (fun g hg hb => by
      have hgB : g = gB := by
        have h' : (some gB : Option Nat) = some g := hg
        injection h' with h'; exact h'.symm
      subst hgB
      rcases hb with hb | ⟨r, hr, hb⟩
      · have h' : (some gA : Option Nat) = some g := hb
        injection h' with h'; omega
      · have := e9 r hr g hb; omega)
    exact ⟨q, k1, k2, k3, e10⟩
theorem mem_three (w : World) (C D E : Array Value) (t u v : TypeId) : Mem w [(w.heap.size + 1 + 1, E), (w.heap.size + 1, D), (w.heap.size, C)] [w.heap.size + 1 + 1, w.heap.size + 1, w.heap.size] (((w.alloc (.cells C t)).alloc (.cells D u)).alloc (.cells E v)) := by
  have h := (((Mem.start w).new C t).new D u).new E v
  simp only [World.size_alloc] at h
  exact h
end Go.Proofs.YtdoeiphnalbinaaGreat
