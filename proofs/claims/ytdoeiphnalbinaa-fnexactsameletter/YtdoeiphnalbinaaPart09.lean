/- Proved, in parts: Proved: the laws' helpers on a book (its size, its copy in new memory, its likeness) answer as they should; they write nothing that was there. Condition: texts and lists of at most a million. Proved: the laws' own measure of a book; when a book can be read. Condition: lists that Go can hold. Proved: the laws' own measure of a letter is how many texts and list places it has, -1 where these are more than may be; nothing that was there is written. Condition: lists that Go can hold. Proved: the laws' own copy of a book is the same book in memory of its own; three new boxes. Condition: texts and lists of at most a million. -/
import Derived.Test.YtdoeiphnalbinaaPart05
import Derived.Test.YtdoeiphnalbinaaPart08
import Derived.Test.YtdoeiphnalbinaaPart01
import Derived.Test.YtdoeiphnalbinaaPart07
namespace Go.Proofs.Ytdoeiphnalbinaa
open Go.RowKit
set_option maxRecDepth 20000
set_option maxHeartbeats 1000000 in
theorem szBook_small (A : Option Addr) (l : List Wr) (cap : Nat) (B : Option Addr) (m : List M.La) (cb : Nat) (n : Int) (w : World) (h1 : n ≤ 1048576) (hl : Wks w A l) (hm : Las w B m) (h : (l.length + szWrs l + (m.length + szLas m) : Int) ≤ n) :
    Calls Try.prog 13 #[bkV A l.length cap B m.length cb, .int .i64 n] w fun r w' => r = .returned (.int .i64 (n - l.length - szWrs l - m.length - szLas m)) ∧ Below w.heap.size w w' := by
  have b0 := (Below.refl w.heap.size w).alloc (Nat.le_refl _) (.cells (bkA A l.length cap B m.length cb) 26)
  have h0 := holds_new w (bkA A l.length cap B m.length cb) 26
  have HN : Hid (0 ≤ n - (l.length : Int) - (szWrs l : Int)) := Lib.hid (by omega)
  have HN2 : Hid (0 ≤ n - (l.length : Int) - (szWrs l : Int) - (m.length : Int) - (szLas m : Int)) := Lib.hid (by omega)
  have HM := Lib.hid hm
  clear hm
  go_enter Try.func13, Try.ntmps13
  go_wp2_with fail
  refine (szWorkS_small A l cap n _ h1 (hl.below b0) (by omega)).mono ?_
  rintro r w1 ⟨rfl, b1⟩
  replace h0 := h0.below b1
  replace b0 := next b0 b1
  obtain ⟨k0, k1⟩ := h0.two
  have hn := HN.out
  clear b1
  go_wp2_with fail
  refine (laszS_small B m cb _ _ (by omega) (HM.out.below b0) (by have := HN2.out; omega)).mono ?_
  rintro r w2 ⟨rfl, b2⟩
  have hn2 := HN2.out
  go_wp2
  go_ret
  exact ⟨rfl, next b0 b2⟩
set_option maxHeartbeats 1000000 in
theorem szBook_big (A : Option Addr) (l : List Wr) (cap : Nat) (B : Option Addr) (m : List M.La) (cb : Nat) (n : Int) (w : World) (h0n : 0 ≤ n) (h1 : n ≤ 1048576) (hl : Wks w A l) (hm : Las w B m) (hlen : l.length ≤ maxLen) (hp : WrsIn maxLen l) (hml : m.length ≤ maxLen) (hmp : ∀ c ∈ m, laIn maxLen c) (h : n < (l.length + szWrs l + (m.length + szLas m) : Int)) :
    Calls Try.prog 13 #[bkV A l.length cap B m.length cb, .int .i64 n] w fun r w' => r = .returned (.int .i64 (-1)) ∧ Below w.heap.size w w' := by
  have b0 := (Below.refl w.heap.size w).alloc (Nat.le_refl _) (.cells (bkA A l.length cap B m.length cb) 26)
  have h0 := holds_new w (bkA A l.length cap B m.length cb) 26
  have HM := Lib.hid hm
  clear hm
  by_cases hbig : n < (l.length + szWrs l : Int)
  · go_enter Try.func13, Try.ntmps13
    go_wp2_with fail
    refine (szWorkS_big A l cap n _ h0n h1 (hl.below b0) hlen hp hbig).mono ?_
    rintro r w1 ⟨rfl, b1⟩
    go_wp2
    go_ret
    exact ⟨rfl, next b0 b1⟩
  · have hn : 0 ≤ n - (l.length : Int) - (szWrs l : Int) := by omega
    go_enter Try.func13, Try.ntmps13
    go_wp2_with fail
    refine (szWorkS_small A l cap n _ h1 (hl.below b0) (by omega)).mono ?_
    rintro r w1 ⟨rfl, b1⟩
    replace h0 := h0.below b1
    replace b0 := next b0 b1
    obtain ⟨k0, k1⟩ := h0.two
    clear b1
    go_wp2_with fail
    refine (laszS_big B m cb _ _ (by omega) (by omega) (HM.out.below b0) hml hmp (by omega)).mono ?_
    rintro r w2 ⟨rfl, b2⟩
    go_wp2
    go_ret
    exact ⟨rfl, next b0 b2⟩

theorem results_toBook (A : Option Addr) (n c : Nat) (B : Option Addr) (m e : Nat) (R : Nat) (W : World) (tmps : Array Value) (h2 : tmps.getD 2 undef = .pointer (some ⟨R, 0, none⟩)) (hW : Holds W R (bkA A n c B m e)) :
    (results Try.f16 tmps).run Try.prog W = .ok (bkV A n c B m e) W := by
  obtain ⟨q0, q1⟩ := hW.two
  simp at h2
  simp [results, Try.results16, go_sem, h2, q0, q1]
/-- v is a book in memory of one's own from block B on. -/
def BkOwn (W : Nat) (w : World) (v : Value) (l : List Wr) (m : List M.La) : Prop :=
  ∃ gA gB, v = bkV (some ⟨gA, 0, none⟩) l.length l.length (some ⟨gB, 0, none⟩) m.length m.length ∧ SfOwn W w (.slice (some ⟨gA, 0, none⟩) l.length l.length) l ∧ LasOwn W w (.slice (some ⟨gB, 0, none⟩) m.length m.length) m ∧ gA < gB ∧ ∀ r ∈ l, ∀ k, r.sl.ownBlock = some k → k < gB
set_option maxHeartbeats 2000000 in
theorem toBook_any (A : Option Addr) (l : List Wr) (cap : Nat) (B : Option Addr) (m : List M.La) (cb : Nat) (w : World) (hl : Wks w A l) (hlen : l.length ≤ 1048576) (hp : WrsIn 1048576 l) (hml : Las w B m) (hmlen : m.length ≤ 1048576) :
    Calls Try.prog 16 #[bkV A l.length cap B m.length cb] w fun r w' => ∃ (v : Value) (rs : List Wr), r = .returned v ∧ rs.map Wr.wk = l.map Wr.wk ∧ rs.length = l.length ∧ (∀ x ∈ rs, x.ad ≠ none ∧ x.cap = x.cps.length) ∧ BkOwn w.heap.size w' v rs m ∧ Below w.heap.size w w' := by
  have HL := Lib.hid hl
  have HP := Lib.hid hp
  have HM := Lib.hid hml
  clear hl hp hml
  have hm := (((Mem.start w).new (bkA A l.length cap B m.length cb) 26).new (bkA none 0 0 none 0 0) 35).new (bkA none 0 0 none 0 0) 35
  simp only [World.size_alloc] at hm
  go_enter Try.func16, Try.ntmps16
  go_wp2_with fail
  refine (toWorkS_any A l cap _ (HL.out.below hm.1) hlen HP.out).mono ?_
  rintro r w1 ⟨rs, hrs, hrl, hra, rfl, o1, b1⟩
  have hm1 := hm.below b1
  have hs1 := b1.size
  simp only [World.size_alloc] at o1 hs1 ⊢
  have HRS := Lib.hid hrs
  have HRL := Lib.hid hrl
  have HRA := Lib.hid hra
  have HO1 := Lib.hid o1
  clear hm hrs hrl hra o1 b1
  obtain ⟨p0, p1⟩ := (hm1.get w.heap.size (bkA A l.length cap B m.length cb) (by simp)).two
  obtain ⟨q0, q1⟩ := (hm1.get (w.heap.size + 1 + 1) (bkA none 0 0 none 0 0) (by simp)).two
  have z0 := hm1.loose (w.heap.size + 1 + 1) (by simp) 0
  have zz := (hm1.get (w.heap.size + 1 + 1) (bkA none 0 0 none 0 0) (by simp)).1
  have hm2 := hm1.put (by omega) (by simp; omega) 0 (.slice (some ⟨w.heap.size + 1 + 1 + 1, 0, none⟩) l.length l.length)
  clear hm1
  go_wp2_with fail
  refine (latoS_any B m cb _ (HM.out.below hm2.1) hmlen).mono ?_
  rintro r w2 ⟨rfl, o2, b2⟩
  have hm3 := hm2.below b2
  have hs2 := b2.size
  simp only [World.size_setCell] at o2 hs2 ⊢
  have HO2 := Lib.hid o2
  have HO1B := Lib.hid (((HO1.out.set (g := w.heap.size + 1 + 1) (by omega) 0 (.slice (some ⟨w.heap.size + 1 + 1 + 1, 0, none⟩) l.length l.length))).below b2)
  have HLT : Hid (∀ r ∈ rs, ∀ k, r.sl.ownBlock = some k → k < w1.heap.size) := Lib.hid (fun r hr k e => ((HO1.out.2.1 r hr).lt k e).2)
  clear hm2 o2 b2 p0 p1 q0 q1 z0 zz
  simp only [List.setIfInBounds_toArray, List.set_cons_zero] at hm3
  obtain ⟨q0, q1⟩ := (hm3.get (w.heap.size + 1 + 1) (bkA (some ⟨w.heap.size + 1 + 1 + 1, 0, none⟩) l.length l.length none 0 0) (by simp)).two
  obtain ⟨p0, p1⟩ := (hm3.get (w.heap.size + 1) (bkA none 0 0 none 0 0) (by simp)).two
  have z1 := hm3.loose (w.heap.size + 1 + 1) (by simp) 1
  have y0 := hm3.loose (w.heap.size + 1) (by simp) 0
  have y1 := hm3.loose (w.heap.size + 1) (by simp) 1
  have HM3 := Lib.hid hm3
  clear hm3
  go_wp2
  have hm4 := HM3.out.put (by omega) (by simp; omega) 1 (.slice (some ⟨w1.heap.size, 0, none⟩) m.length m.length)
  refine bodyPost_ret (results_toBook (some ⟨w.heap.size + 1 + 1 + 1, 0, none⟩) l.length l.length (some ⟨w1.heap.size, 0, none⟩) m.length m.length (w.heap.size + 1) _ _ rfl ?_) rfl ⟨_, rs, rfl, HRS.out, HRL.out, HRA.out, ⟨w.heap.size + 1 + 1 + 1, w1.heap.size, by rw [HRL.out], ?_, ?_, ?_, HLT.out⟩, ?_⟩
  · simpa using (((hm4.get (w.heap.size + 1) (bkA none 0 0 none 0 0) (by simp)).putM 0 (.slice (some ⟨w.heap.size + 1 + 1 + 1, 0, none⟩) l.length l.length)).putM 1 (.slice (some ⟨w1.heap.size, 0, none⟩) m.length m.length))
  · rw [HRL.out]
    exact (((HO1B.out.set (by omega) 1 _).set (by omega) 0 _).set (by omega) 1 _).mono (by omega)
  · exact World.ownsRow.mono (own_set (own_set (own_set HO2.out (by omega) 1 _) (by omega) 0 _) (by omega) 1 _) (by omega)
  · exact (World.ownsRow.lt HO1.out.1 _ rfl).2
  · exact (hm4.1.setCell (by show w.heap.size ≤ w.heap.size + 1; omega) _).setCell (by show w.heap.size ≤ w.heap.size + 1; omega) _

set_option maxHeartbeats 2000000 in
theorem eqBook_same (A A' : Option Addr) (l l' : List Wr) (c c' : Nat) (B B' : Option Addr) (m : List M.La) (e e' : Nat) (w : World) (hl : Wks w A l) (hl' : Wks w A' l') (hmap : l.map Wr.wk = l'.map Wr.wk) (hlen : l.length ≤ maxLen) (hp : WrsIn maxLen l) (hm : Las w B m) (hm' : Las w B' m) (hml : m.length ≤ maxLen) :
    Calls Try.prog 18 #[bkV A l.length c B m.length e, bkV A' l'.length c' B' m.length e'] w fun r w' => r = .returned (.bool true) ∧ Below w.heap.size w w' := by
  have b0 := ((Below.refl w.heap.size w).alloc (Nat.le_refl _) (.cells (bkA A l.length c B m.length e) 35)).alloc (by simp) (.cells (bkA A' l'.length c' B' m.length e') 35)
  have h0 := (holds_new w (bkA A l.length c B m.length e) 35).alloc (.cells (bkA A' l'.length c' B' m.length e') 35)
  have h1 := holds_new (w.alloc (.cells (bkA A l.length c B m.length e) 35)) (bkA A' l'.length c' B' m.length e') 35
  simp only [World.size_alloc] at h1
  have HM := Lib.hid hm
  have HM' := Lib.hid hm'
  have HP := Lib.hid hp
  have HMAP := Lib.hid hmap
  clear hm hm' hp hmap
  go_enter Try.func18, Try.ntmps18
  go_wp2_with fail
  refine (eqWorkS_same A A' l l' c c' _ (hl.below b0) (hl'.below b0) HMAP.out hlen HP.out).mono ?_
  rintro r w1 ⟨rfl, b1⟩
  replace h0 := h0.below b1
  replace h1 := h1.below b1
  replace b0 := next b0 b1
  obtain ⟨k0, k1⟩ := h0.two
  obtain ⟨j0, j1⟩ := h1.two
  clear b1
  go_wp2_with fail
  refine (laeqS_same B B' m e e' _ (HM.out.below b0) (HM'.out.below b0) hml).mono ?_
  rintro r w2 ⟨rfl, b2⟩
  go_wp2
  go_ret
  exact ⟨rfl, next b0 b2⟩
end Go.Proofs.Ytdoeiphnalbinaa
namespace Go.Proofs.Ytdoeiphnalbinaa
open Go.RowKit
set_option maxRecDepth 20000
def LBk.sz (b : LBk) : Nat := b.sf.l.length + szWrs b.sf.l + (b.la.l.length + szLas b.la.l)
/-- A scribe that can be read, its lists and texts of at most n. -/
structure BkRd (n : Nat) (w : World) (b : LBk) : Prop where
  sf : Wks w b.sf.ad b.sf.l
  sfl : b.sf.l.length ≤ n
  sft : WrsIn n b.sf.l
  la : Las w b.la.ad b.la.l
  lal : b.la.l.length ≤ n
  lat : ∀ c ∈ b.la.l, laIn n c
theorem BkRd.below {n : Nat} {w w' : World} {b : LBk} (h : BkRd n w b) (hb : Below w.heap.size w w') : BkRd n w' b := { h with sf := h.sf.below hb, la := h.la.below hb }
theorem szBookL (b : LBk) (n : Int) (w : World) (h1 : n ≤ 1048576) (hb : BkRd maxLen w b) (h : (b.sz : Int) ≤ n) : Calls Try.prog 13 #[b.v, .int .i64 n] w fun e w' => e = .returned (.int .i64 (n - b.sz)) ∧ Below w.heap.size w w' :=
  (szBook_small b.sf.ad b.sf.l b.sf.cap b.la.ad b.la.l b.la.cap n w h1 hb.sf hb.la (by unfold LBk.sz at h; omega)).mono fun e w' ⟨a, b⟩ => ⟨by rw [a]; unfold LBk.sz; congr 2; omega, b⟩
theorem szBook_bigL (b : LBk) (n : Int) (w : World) (h0 : 0 ≤ n) (h1 : n ≤ 1048576) (hb : BkRd maxLen w b) (h : n < (b.sz : Int)) : Calls Try.prog 13 #[b.v, .int .i64 n] w fun e w' => e = .returned (.int .i64 (-1)) ∧ Below w.heap.size w w' :=
  szBook_big b.sf.ad b.sf.l b.sf.cap b.la.ad b.la.l b.la.cap n w h0 h1 hb.sf hb.la hb.sfl hb.sft hb.lal hb.lat (by unfold LBk.sz at h; omega)
/-- What the measure leaves of n. -/
def leftOf (n : Int) (k : Nat) : Int := if (k : Int) ≤ n then n - k else -1
set_option maxHeartbeats 16000000 in
/-- What a likeness asks of a book, of a scribe: how long the lists are, not the texts of entries and lasts. -/
structure BkLk (w : World) (b : LBk) : Prop where
  sf : Wks w b.sf.ad b.sf.l
  sfl : b.sf.l.length ≤ maxLen
  sft : WrsIn maxLen b.sf.l
  la : Las w b.la.ad b.la.l
  lal : b.la.l.length ≤ maxLen
end Go.Proofs.Ytdoeiphnalbinaa
namespace Go.Proofs.Ytdoeiphnalbinaa
open Go.RowKit
set_option maxRecDepth 20000

def LLt.sz (s : LLt) : Nat := s.en.l.length + szEns s.en.l + s.bk.sz
structure LtRd (n : Nat) (w : World) (s : LLt) : Prop where
  en : Ens w s.en.ad s.en.l
  enl : s.en.l.length ≤ n
  ent : ∀ e ∈ s.en.l, enIn n e
  bk : BkRd n w s.bk
theorem LtRd.below {n : Nat} {w w' : World} {s : LLt} (h : LtRd n w s) (hb : Below w.heap.size w w') : LtRd n w' s := { h with en := h.en.below hb, bk := h.bk.below hb }
set_option maxHeartbeats 8000000 in
theorem szLetter_any (s : LLt) (n : Int) (w : World) (h0 : 0 ≤ n) (h1 : n ≤ 1048576) (hs : LtRd maxLen w s) :
    Calls Try.prog 5 #[ltV s, .int .i64 n] w fun e w' => e = .returned (.int .i64 (leftOf n s.sz)) ∧ Below w.heap.size w w' := by
  have b0 := (Below.refl w.heap.size w).alloc (Nat.le_refl _) (.cells (ltA s) 28)
  have h00 := holds_new w (ltA s) 28
  have HS := Lib.hid hs
  have HSZ : Hid (s.sz = s.en.l.length + szEns s.en.l + s.bk.sz) := Lib.hid rfl
  clear hs
  go_enter Try.func5, Try.ntmps5
  obtain ⟨k0, k1, k2, k3, k4, k5, k6, k7, k8, k9, k10⟩ := h00.at11
  by_cases g0 : n < (s.en.l.length + szEns s.en.l : Int)
  · go_wp2_with fail
    refine (enszS_big s.en.ad s.en.l s.en.cap _ _ (by omega) (by omega) (HS.out.en.below b0) HS.out.enl HS.out.ent (by omega)).mono ?_
    rintro r w1 ⟨rfl, b1⟩
    go_wp2
    go_ret
    exact ⟨by unfold leftOf; rw [if_neg (by have := HSZ.out; omega)]; rfl, next b0 b1⟩
  · go_wp2_with fail
    refine (enszS_small s.en.ad s.en.l s.en.cap _ _ (by omega) (HS.out.en.below b0) (by omega)).mono ?_
    rintro r w1 ⟨rfl, b1⟩
    replace h00 := h00.below b1
    replace b0 := next b0 b1
    clear k0 k1 k2 k3 k4 k5 k6 k7 k8 k9 k10 b1
    obtain ⟨k0, k1, k2, k3, k4, k5, k6, k7, k8, k9, k10⟩ := h00.at11
    obtain ⟨n0, hn0⟩ : ∃ x : Int, n - s.en.l.length - szEns s.en.l = x := ⟨_, rfl⟩
    rw [hn0]
    have p0 : 0 ≤ n0 := by omega
    have q0 : n0 ≤ 1048576 := by omega
    by_cases g1 : n0 < ((s.bk.sz : Nat) : Int)
    · go_wp2_with fail
      refine (szBook_bigL s.bk _ _ (by omega) (by omega) (HS.out.bk.below b0) (by omega)).mono ?_
      rintro r w1 ⟨rfl, b1⟩
      go_wp2
      go_ret
      exact ⟨by unfold leftOf; rw [if_neg (by have := HSZ.out; omega)]; rfl, next b0 b1⟩
    · go_wp2_with fail
      refine (szBookL s.bk _ _ (by omega) (HS.out.bk.below b0) (by omega)).mono ?_
      rintro r w1 ⟨rfl, b1⟩
      replace b0 := next b0 b1
      clear k0 k1 k2 k3 k4 k5 k6 k7 k8 k9 k10 b1
      obtain ⟨n1, hn1⟩ : ∃ x : Int, n0 - (s.bk.sz : Nat) = x := ⟨_, rfl⟩
      rw [hn1]
      have p1 : 0 ≤ n1 := by omega
      have q1 : n1 ≤ 1048576 := by omega
      have hfin : leftOf n s.sz = n1 := by unfold leftOf; rw [if_pos (by have := HSZ.out; omega)]; have := HSZ.out; omega
      have HF := Lib.hid hfin
      clear hn0 hn1 hfin
      go_wp2
      go_ret
      exact ⟨by rw [HF.out]; rfl, b0⟩
end Go.Proofs.Ytdoeiphnalbinaa
namespace Go.Proofs.Ytdoeiphnalbinaa
open Go.RowKit
set_option maxRecDepth 20000
theorem toBookL (b : LBk) (w : World) (h : BkRd 1048576 w b) : Calls Try.prog 16 #[b.v] w (BkOut w b.d) :=
  (toBook_any b.sf.ad b.sf.l b.sf.cap b.la.ad b.la.l b.la.cap w h.sf h.sfl h.sft h.la h.lal).mono fun e w' ⟨v, rs, e1, e2, e3, e4, ⟨gA, gB, e5, e6, e7, e8, e9⟩, e10⟩ => by
    obtain ⟨q, k1, k2, k3⟩ := book_laid (B := w.heap.size) (q := b.d) (e := e) (rs := rs) (by rw [e1, e5]) e6 (by rw [e2]; rfl) e7 (fun g hg hb => by
      have hgB : g = gB := by
        have h' : (some gB : Option Nat) = some g := hg
        injection h' with h'; exact h'.symm
      subst hgB
      rcases hb with hb | ⟨r, hr, hb⟩
      · have h' : (some gA : Option Nat) = some g := hb
        injection h' with h'; omega
      · have := e9 r hr g hb; omega)
    exact ⟨q, k1, k2, k3, e10⟩
theorem mem_three (w : World) (C D E : Array Value) (t u v : TypeId) : Mem w [(w.heap.size + 1 + 1, E), (w.heap.size + 1, D), (w.heap.size, C)] [w.heap.size + 1 + 1, w.heap.size + 1, w.heap.size] (((w.alloc (.cells C t)).alloc (.cells D u)).alloc (.cells E v)) := by
  have h := (((Mem.start w).new C t).new D u).new E v
  simp only [World.size_alloc] at h
  exact h
end Go.Proofs.Ytdoeiphnalbinaa
