/- Proved, in parts: Proved: the program's newRoll, EntryAt, Tail and Cut answer plain Lean functions, lists in memory of their own; nothing that was there is written. Condition: texts and lists of at most a million. -/
import Derived.Test.YtkpbfocnokbmiaaPart10
namespace Go.Proofs.Ytkpbfocnokbmiaa
open Go.RowKit
set_option maxRecDepth 20000
set_option linter.unusedVariables false
/-- A list of entries, in memory of one's own. -/
def EnsRet (w : World) (q : List M.En) (e : Ending) (w' : World) : Prop :=
  ∃ A c, e = .returned (.slice A q.length c) ∧ EnsOwn w.heap.size w' (.slice A q.length c) q ∧ Below w.heap.size w w'
/-- A roll, its list in memory of one's own. -/
def RoRet (w : World) (b r : Int) (q : List M.En) (e : Ending) (w' : World) : Prop :=
  ∃ A c, e = .returned (roV b r A q.length c) ∧ EnsOwn w.heap.size w' (.slice A q.length c) q ∧ Below w.heap.size w w'
/-- A roll and a flag. -/
def RcRet (w : World) (q : (Int × Int × List M.En) × Bool) (e : Ending) (w' : World) : Prop :=
  ∃ A c, e = .returned (.tuple #[roV q.1.1 q.1.2.1 A q.1.2.2.length c, .bool q.2]) ∧ EnsOwn w.heap.size w' (.slice A q.1.2.2.length c) q.1.2.2 ∧ Below w.heap.size w w'
namespace M
end M
theorem row_set {B g : Nat} {w : World} {t : TypeId} {kk n : Nat} {v : Value} {C : List Value} (h : w.ownsRow B t kk v n C) (hg : g < B) (i : Nat) (u : Value) : (w.setCell ⟨g, i, none⟩ u).ownsRow B t kk v n C := by
  obtain ⟨hl, h0 | ⟨k, cap, cur, rfl, hb, hh, hr⟩⟩ := h
  · exact ⟨hl, .inl h0⟩
  · exact ⟨hl, .inr ⟨k, cap, cur, rfl, hb, (Below.heap_setCell _ _ _ _ (by show k ≠ g; omega)).trans hh, hr⟩⟩
theorem row_set3 {B g : Nat} {w : World} {t : TypeId} {kk n : Nat} {v : Value} {C : List Value} (h : w.ownsRow B t kk v n C) (hg : g < B) (a0 a1 a2 : Value) : (((w.setCell ⟨g, 0, none⟩ a0).setCell ⟨g, 1, none⟩ a1).setCell ⟨g, 2, none⟩ a2).ownsRow B t kk v n C :=
  row_set (row_set (row_set h hg 0 _) hg 1 _) hg 2 _
theorem ens_nil (B : Nat) (w : World) : EnsOwn B w (.slice none 0 0) [] := World.ownsRow_nil _ _ _ _
theorem ens_of {B n c : Nat} {w : World} {A : Option Addr} {l : List M.En} (h : EnsOwn B w (.slice A n c) l) : Ens w A l := by
  obtain ⟨A', c', hv, _, hf⟩ := own_flat enL_len h
  have hA : A = A' := by injection hv
  rw [hA]; exact hf
theorem ens_nilc {B n c : Nat} {w : World} {A : Option Addr} {l : List M.En} (h : EnsOwn B w (.slice A n c) l) : A = none → c = 0 := by
  rintro rfl
  obtain ⟨_, ⟨hv, _⟩ | ⟨g, cap, cur, hv, _⟩⟩ := h
  · injection hv
  · cases hv
theorem results_newRoll (b r : Int) (A : Option Addr) (n c : Nat) (R : Nat) (W : World) (tmps : Array Value) (h2 : tmps.getD 2 undef = .pointer (some ⟨R, 0, none⟩)) (hW : Holds W R (roA b r A n c)) :
    (results Try.f67 tmps).run Try.prog W = .ok (roV b r A n c) W := by
  obtain ⟨q0, q1, q2⟩ := hW.three
  simp at h2
  simp [results, Try.results67, go_sem, h2, q0, q1, q2]
set_option maxHeartbeats 2000000 in
theorem newRoll_any (b r : Int) (A : Option Addr) (l : List M.En) (cap : Nat) (w : World) (hl : Ens w A l) (hlen : l.length ≤ 1048576) (hp : ∀ e ∈ l, enIn 1048576 e) :
    Calls Try.prog 67 #[roV b r A l.length cap] w (RoRet w b r l) := by
  have hM := ((Mem.start w).new (roA b r A l.length cap) 26).new (roA 0 0 none 0 0) 26
  simp only [World.size_alloc] at hM
  have HL := Lib.hid hl
  clear hl
  go_enter Try.func67, Try.ntmps67
  go_wp2_with fail
  refine (newEntries_any A l cap _ (HL.out.below hM.1) hlen hp).mono ?_
  rintro e x1 ⟨rfl, ho, b1⟩
  have hM1 := hM.below b1
  have hs1 := b1.size
  simp only [World.size_alloc] at ho hs1 ⊢
  have HO := Lib.hid ho
  clear hM b1 ho
  obtain ⟨p0, p1, p2⟩ := (hM1.get w.heap.size (roA b r A l.length cap) (by simp)).three
  obtain ⟨q0, q1, q2⟩ := (hM1.get (w.heap.size + 1) (roA 0 0 none 0 0) (by simp)).three
  have y2 := hM1.loose w.heap.size (by simp) 2
  have z0 := hM1.loose (w.heap.size + 1) (by simp) 0
  have z1 := hM1.loose (w.heap.size + 1) (by simp) 1
  have z2 := hM1.loose (w.heap.size + 1) (by simp) 2
  have zp := (hM1.get w.heap.size (roA b r A l.length cap) (by simp)).1
  have zq := (hM1.get (w.heap.size + 1) (roA 0 0 none 0 0) (by simp)).1
  have HM1 := Lib.hid hM1
  clear hM1
  go_wp2
  refine bodyPost_ret (results_newRoll b r (some ⟨w.heap.size + 1 + 1, 0, none⟩) l.length l.length (w.heap.size + 1) _ _ rfl ?_) rfl ⟨some ⟨w.heap.size + 1 + 1, 0, none⟩, l.length, rfl, ?_, ?_⟩
  · exact ((HM1.out.get (w.heap.size + 1) (roA 0 0 none 0 0) (by simp)).otherM (by omega)).wr3 _ _ _
  · exact World.ownsRow.mono (row_set3 (row_set HO.out (by omega) 2 _) (by omega) _ _ _) (by omega)
  · exact far_3 (HM1.out.1.setCell (Nat.le_refl _) _) (by omega) _ _ _
/-- Where a number stands to what may be asked of a roll's tail. -/
theorem tail_of (b i : Int) (n : Nat) : i ≤ b ∨ b + n + 1 < i ∨ ∃ k : Nat, k ≤ n ∧ i = b + k + 1 := by
  by_cases h : i ≤ b
  · exact .inl h
  · by_cases h2 : b + n + 1 < i
    · exact .inr (.inl h2)
    · exact .inr (.inr ⟨(i - b - 1).toNat, by omega, by omega⟩)
theorem results_iCut (b r : Int) (A : Option Addr) (n c : Nat) (t : Bool) (R : Nat) (W : World) (tmps : Array Value) (h4 : tmps.getD 4 undef = .pointer (some ⟨R, 0, none⟩)) (h5 : tmps.getD 5 undef = .bool t) (hW : Holds W R (roA b r A n c)) :
    (results Try.f34 tmps).run Try.prog W = .ok (.tuple #[roV b r A n c, .bool t]) W := by
  obtain ⟨q0, q1, q2⟩ := hW.three
  simp at h4 h5
  simp [results, Try.results34, go_sem, h4, h5, q0, q1, q2]
/-- What is so while Cut's answer is put together: the roll's box stands, the answer's box may be written, nothing old has changed. -/
def CutS (w : World) (C : Array Value) (w' : World) : Prop :=
  Below w.heap.size w w' ∧ Holds w' w.heap.size C ∧ w.heap.size + 1 < w'.heap.size ∧ (∃ a0 a1 a2, Holds w' (w.heap.size + 1) #[a0, a1, a2]) ∧ Loose w' (w.heap.size + 1)
theorem CutS.below {w w1 w2 : World} {C : Array Value} (h : CutS w C w1) (hb : Below w1.heap.size w1 w2) : CutS w C w2 := by
  obtain ⟨h0, h1, h2, ⟨a0, a1, a2, h3⟩, h4⟩ := h
  exact ⟨next h0 hb, h1.below hb, Nat.lt_of_lt_of_le h2 hb.size, ⟨a0, a1, a2, h3.below hb⟩, h4.below h2 hb⟩
theorem CutS.put {w w1 : World} {C : Array Value} (h : CutS w C w1) (x0 x1 x2 : Value) : CutS w C (((w1.setCell ⟨w.heap.size + 1, 0, none⟩ x0).setCell ⟨w.heap.size + 1, 1, none⟩ x1).setCell ⟨w.heap.size + 1, 2, none⟩ x2) := by
  obtain ⟨h0, h1, h2, ⟨a0, a1, a2, h3⟩, h4⟩ := h
  exact ⟨far_3 h0 (by omega) _ _ _, h1.off3 (by omega) _ _ _, by simpa using h2, ⟨x0, x1, x2, h3.wr3 _ _ _⟩, h4.wr3 _ _ _⟩
theorem CutS.drew {w w1 : World} {C : Array Value} (h : CutS w C w1) : CutS w C w1.drew := ⟨h.1.drew, h.2⟩
theorem CutS.of {w x : World} {C : Array Value} (h : Mem w [(w.heap.size + 1, roA 0 0 none 0 0), (w.heap.size, C)] [w.heap.size + 1, w.heap.size] x) : CutS w C x :=
  ⟨h.1, h.get w.heap.size C (by simp), (h.get (w.heap.size + 1) (roA 0 0 none 0 0) (by simp)).1, ⟨_, _, _, h.get (w.heap.size + 1) (roA 0 0 none 0 0) (by simp)⟩, h.loose (w.heap.size + 1) (by simp)⟩
set_option maxHeartbeats 4000000 in
theorem implCut_bad (b r : Int) (A : Option Addr) (l : List M.En) (cap : Nat) (i : Int) (w : World) (hl : Ens w A l) (hlen : l.length ≤ 1048576) (hp : ∀ e ∈ l, enIn 1048576 e) (h1 : M.rollOk b r l = false) :
  Calls Try.prog 34 #[roV b r A l.length cap, .int .i64 i] w (RcRet w (M.cut b r l i)) := by
  have hM := ((Mem.start w).new (roA b r A l.length cap) 26).new (roA 0 0 none 0 0) 26
  simp only [World.size_alloc] at hM
  have HL := Lib.hid hl
  have HP := Lib.hid hp
  clear hl hp
  have HE : Hid (M.cut b r l i = ((0, 0, []), false)) := Lib.hid (M.cut_bad h1)
  have H1 := Lib.hid h1
  clear h1
  go_enter Try.func34, Try.ntmps34
  go_wp2_with fail
  refine (implRollOk b r A l cap _ (HL.out.below hM.1) hlen HP.out).mono ?_
  rintro e x1 ⟨rfl, b1⟩
  rw [H1.out]
  replace hM := hM.below b1
  clear b1
  have hM1 := hM
  clear hM
  obtain ⟨q0, q1, q2⟩ := (hM1.get (w.heap.size + 1) (roA 0 0 none 0 0) (by simp)).three
  have z0 := hM1.loose (w.heap.size + 1) (by simp) 0
  have z1 := hM1.loose (w.heap.size + 1) (by simp) 1
  have z2 := hM1.loose (w.heap.size + 1) (by simp) 2
  have zq := (hM1.get (w.heap.size + 1) (roA 0 0 none 0 0) (by simp)).1
  have HM1 := Lib.hid hM1
  clear hM1
  go_wp2
  refine bodyPost_ret (results_iCut 0 0 none 0 0 false (w.heap.size + 1) _ _ rfl rfl ((HM1.out.get (w.heap.size + 1) (roA 0 0 none 0 0) (by simp)).wr3 _ _ _)) rfl ⟨none, 0, by rw [HE.out]; rfl, by rw [HE.out]; exact ens_nil _ _, far_3 HM1.out.1 (by omega) _ _ _⟩
set_option maxHeartbeats 4000000 in
theorem implCut_out (b r : Int) (A : Option Addr) (l : List M.En) (cap : Nat) (i : Int) (w : World) (hl : Ens w A l) (hlen : l.length ≤ 1048576) (hp : ∀ e ∈ l, enIn 1048576 e) (hlc : l.length ≤ cap) (h1 : M.rollOk b r l = true) (hi : i < b ∨ b + l.length < i) :
    Calls Try.prog 34 #[roV b r A l.length cap, .int .i64 i] w (RcRet w (M.cut b r l i)) := by
  have hM := ((Mem.start w).new (roA b r A l.length cap) 26).new (roA 0 0 none 0 0) 26
  simp only [World.size_alloc] at hM
  have HL := Lib.hid hl
  have HP := Lib.hid hp
  clear hl hp
  have HE : Hid (M.cut b r l i = ((b, r, l), false)) := Lib.hid (M.cut_out h1 (by omega))
  obtain ⟨g0, g1, -⟩ := M.rollOk_parts h1
  have H1 := Lib.hid h1
  clear h1
  have HK : Hid ((decide (b ≤ i) && decide (i ≤ b + l.length)) = false) := Lib.hid (by simp; omega)
  clear hi
  go_enter Try.func34, Try.ntmps34
  go_wp2_with fail
  refine (implRollOk b r A l cap _ (HL.out.below hM.1) hlen HP.out).mono ?_
  rintro e x1 ⟨rfl, b1⟩
  rw [H1.out]
  replace hM := hM.below b1
  clear b1
  obtain ⟨p0, p1, p2⟩ := (hM.get w.heap.size (roA b r A l.length cap) (by simp)).three
  go_wp2_with fail
  refine (knows_any b r A l cap i _ g0 g1 hlen).mono ?_
  rintro e x2 ⟨rfl, b2⟩
  rw [HK.out]
  replace hM := hM.below b2
  clear b2
  clear p0 p1 p2
  obtain ⟨p0, p1, p2⟩ := (hM.get w.heap.size (roA b r A l.length cap) (by simp)).three
  go_wp2_with fail
  refine (newRoll_any b r A l cap _ (HL.out.below hM.1) hlen HP.out).mono ?_
  rintro e x8 ⟨A8, c8, rfl, ho, b8⟩
  have hs8 := hM.1.size
  have hb8 := (hM.get (w.heap.size + 1) (roA 0 0 none 0 0) (by simp)).1
  have hM1 := hM.below b8
  have HO := Lib.hid ho
  clear hM b8 ho p0 p1 p2
  obtain ⟨q0, q1, q2⟩ := (hM1.get (w.heap.size + 1) (roA 0 0 none 0 0) (by simp)).three
  have z0 := hM1.loose (w.heap.size + 1) (by simp) 0
  have z1 := hM1.loose (w.heap.size + 1) (by simp) 1
  have z2 := hM1.loose (w.heap.size + 1) (by simp) 2
  have zq := (hM1.get (w.heap.size + 1) (roA 0 0 none 0 0) (by simp)).1
  have HM1 := Lib.hid hM1
  clear hM1
  go_wp2
  refine bodyPost_ret (results_iCut b r A8 l.length c8 false (w.heap.size + 1) _ _ rfl rfl ((HM1.out.get (w.heap.size + 1) (roA 0 0 none 0 0) (by simp)).wr3 _ _ _)) rfl ⟨A8, c8, by rw [HE.out], ?_, far_3 HM1.out.1 (by omega) _ _ _⟩
  rw [HE.out]
  exact World.ownsRow.mono (row_set3 HO.out hb8 _ _ _) hs8
set_option maxHeartbeats 4000000 in
theorem implCut_far (b r : Int) (A : Option Addr) (l : List M.En) (cap : Nat) (i : Int) (w : World) (hl : Ens w A l) (hlen : l.length ≤ 1048576) (hp : ∀ e ∈ l, enIn 1048576 e) (hlc : l.length ≤ cap) (h1 : M.rollOk b r l = true) (hi : b ≤ i ∧ i ≤ b + l.length) (h3 : 300 < i) :
    Calls Try.prog 34 #[roV b r A l.length cap, .int .i64 i] w (RcRet w (M.cut b r l i)) := by
  have hM := ((Mem.start w).new (roA b r A l.length cap) 26).new (roA 0 0 none 0 0) 26
  simp only [World.size_alloc] at hM
  have HL := Lib.hid hl
  have HP := Lib.hid hp
  clear hl hp
  have HE : Hid (M.cut b r l i = ((b, r, l), false)) := Lib.hid (M.cut_out h1 (by omega))
  obtain ⟨g0, g1, -⟩ := M.rollOk_parts h1
  have H1 := Lib.hid h1
  clear h1
  have HK : Hid ((decide (b ≤ i) && decide (i ≤ b + l.length)) = true) := Lib.hid (by simp; omega)
  clear hi
  go_enter Try.func34, Try.ntmps34
  go_wp2_with fail
  refine (implRollOk b r A l cap _ (HL.out.below hM.1) hlen HP.out).mono ?_
  rintro e x1 ⟨rfl, b1⟩
  rw [H1.out]
  replace hM := hM.below b1
  clear b1
  obtain ⟨p0, p1, p2⟩ := (hM.get w.heap.size (roA b r A l.length cap) (by simp)).three
  go_wp2_with fail
  refine (knows_any b r A l cap i _ g0 g1 hlen).mono ?_
  rintro e x2 ⟨rfl, b2⟩
  rw [HK.out]
  replace hM := hM.below b2
  clear b2
  clear p0 p1 p2
  obtain ⟨p0, p1, p2⟩ := (hM.get w.heap.size (roA b r A l.length cap) (by simp)).three
  go_wp2_with fail
  refine (newRoll_any b r A l cap _ (HL.out.below hM.1) hlen HP.out).mono ?_
  rintro e x8 ⟨A8, c8, rfl, ho, b8⟩
  have hs8 := hM.1.size
  have hb8 := (hM.get (w.heap.size + 1) (roA 0 0 none 0 0) (by simp)).1
  have hM1 := hM.below b8
  have HO := Lib.hid ho
  clear hM b8 ho p0 p1 p2
  obtain ⟨q0, q1, q2⟩ := (hM1.get (w.heap.size + 1) (roA 0 0 none 0 0) (by simp)).three
  have z0 := hM1.loose (w.heap.size + 1) (by simp) 0
  have z1 := hM1.loose (w.heap.size + 1) (by simp) 1
  have z2 := hM1.loose (w.heap.size + 1) (by simp) 2
  have zq := (hM1.get (w.heap.size + 1) (roA 0 0 none 0 0) (by simp)).1
  have HM1 := Lib.hid hM1
  clear hM1
  go_wp2
  refine bodyPost_ret (results_iCut b r A8 l.length c8 false (w.heap.size + 1) _ _ rfl rfl ((HM1.out.get (w.heap.size + 1) (roA 0 0 none 0 0) (by simp)).wr3 _ _ _)) rfl ⟨A8, c8, by rw [HE.out], ?_, far_3 HM1.out.1 (by omega) _ _ _⟩
  rw [HE.out]
  exact World.ownsRow.mono (row_set3 HO.out hb8 _ _ _) hs8
set_option maxHeartbeats 8000000 in
theorem implCut_base (b r : Int) (A : Option Addr) (l : List M.En) (cap : Nat) (w : World) (hl : Ens w A l) (hlen : l.length ≤ 1048576) (hp : ∀ e ∈ l, enIn 1048576 e) (hlc : l.length ≤ cap) (h1 : M.rollOk b r l = true) (h3 : b ≤ 300) :
    Calls Try.prog 34 #[roV b r A l.length cap, .int .i64 b] w (RcRet w (M.cut b r l b)) := by
  have hM := ((Mem.start w).new (roA b r A l.length cap) 26).new (roA 0 0 none 0 0) 26
  simp only [World.size_alloc] at hM
  have HL := Lib.hid hl
  have HP := Lib.hid hp
  clear hl hp
  have HE : Hid (M.cut b r l b = ((b, r, l.drop 0), true)) := Lib.hid (by
    have h := M.cut_at (b := b) (r := r) (l := l) (k := 0) h1 (Nat.zero_le _) (by omega)
    simpa [M.reignIn_base] using h)
  obtain ⟨g0, g1, -⟩ := M.rollOk_parts h1
  have H1 := Lib.hid h1
  have HDL : Hid ((l.drop 0).length = l.length - 0) := Lib.hid List.length_drop
  clear h1
  have hk : 0 ≤ l.length := Nat.zero_le _
  have HK : Hid ((decide (b ≤ b) && decide (b ≤ b + l.length)) = true) := Lib.hid (by simp; omega)
  have e9 : ¬ 300 < b := by omega
  have HBH : Hid (∀ x, Calls Try.prog 50 #[roV b r A l.length cap, .int .i64 b] x fun e x' => e = .returned (.slice (cutAt A l.length 0 10) (l.length - 0) (l.length - 0)) ∧ Below x.heap.size x x') := Lib.hid (fun x => by
    have hc := behind_any b r A l cap 0 x g0 g1 hlen hlc hk
    rw [show b + ((0 : Nat) : Int) = b by omega] at hc
    exact hc)
  have HNR : Hid (∀ x, Below w.heap.size w x → Calls Try.prog 67 #[roV b r (cutAt A l.length 0 10) (l.length - 0) (l.length - 0)] x (RoRet x b r (l.drop 0))) := Lib.hid (fun x hb => by
    have hcall := newRoll_any b r (cutAt A l.length 0 10) (l.drop 0) (l.length - 0) x ((HL.out.below hb).cutDrop 0 (Nat.le_refl l.length)) (by rw [HDL.out]; omega) (fun e he => HP.out e (List.mem_of_mem_drop he))
    rw [HDL.out] at hcall
    exact hcall)
  go_enter Try.func34, Try.ntmps34
  go_wp2_with fail
  refine (implRollOk b r A l cap _ (HL.out.below hM.1) hlen HP.out).mono ?_
  rintro e x1 ⟨rfl, b1⟩
  rw [H1.out]
  replace hM := hM.below b1
  clear b1
  obtain ⟨p0, p1, p2⟩ := (hM.get w.heap.size (roA b r A l.length cap) (by simp)).three
  go_wp2_with fail
  refine (knows_any b r A l cap _ _ g0 g1 hlen).mono ?_
  rintro e x2 ⟨rfl, b2⟩
  rw [HK.out]
  replace hM := hM.below b2
  clear b2
  clear p0 p1 p2
  obtain ⟨p0, p1, p2⟩ := (hM.get w.heap.size (roA b r A l.length cap) (by simp)).three
  clear p0 p1 p2
  go_upto_region 5 with (fail)
  refine wp_region_seq (CutS w (roA b r A l.length cap)) [(0, true), (1, true), (2, true), (4, true), (5, true), (3, false), (6, false), (7, true), (8, false), (9, false), (10, true)] (by kernel_rfl) (by kernel_rfl) (fun _ _ _ _ _ h => h) (by kernel_rfl) (by decide) (CutS.of hM).drew ?_
  intro hHeld
  repeat (first
    | (refine seq_skip (by simp only [List.getElem?_toArray, List.getElem?_cons_succ, List.getElem?_cons_zero]; first | done | rfl) (by rfl) ?_; (try simp only [Act.put, List.setIfInBounds_toArray, List.set_cons_zero, List.set_cons_succ]))
    | (refine seq_reads (by simp only [List.getElem?_toArray, List.getElem?_cons_succ, List.getElem?_cons_zero]; first | done | rfl) (by rfl) ?_; apply Exists.intro; apply And.intro; (focus (intro w hSw; obtain ⟨hbS, hhS, -⟩ := hSw; obtain ⟨k0, k1, k2⟩ := hhS.three; go_simp; (try with_reducible rfl); done)); (try simp only [Act.put, List.setIfInBounds_toArray, List.set_cons_zero, List.set_cons_succ]))
    | (refine seq_pass (by simp only [List.getElem?_toArray, List.getElem?_cons_succ, List.getElem?_cons_zero]; first | done | rfl) (by rfl) hHeld ?_; clear hHeld; intro hHeld; (try simp only [Act.put, List.setIfInBounds_toArray, List.set_cons_zero, List.set_cons_succ]))
    | (refine seq_call (by simp only [List.getElem?_toArray, List.getElem?_cons_succ, List.getElem?_cons_zero]; first | done | rfl) (by rfl) (fun K hK => ?_); go_simp; go_at_call 49; refine (reign_base b r A l cap _).mono ?_; rintro r1 w1 ⟨rfl, b1⟩; go_simp; refine hK.out _ _ (hHeld.below b1) ?_; (try clear b1); clear hK hHeld; intro hHeld; (try simp only [Act.put, List.setIfInBounds_toArray, List.set_cons_zero, List.set_cons_succ]))
    | (refine seq_call (by simp only [List.getElem?_toArray, List.getElem?_cons_succ, List.getElem?_cons_zero]; first | done | rfl) (by rfl) (fun K hK => ?_); go_simp; go_at_call 50; refine (HBH.out _).mono ?_; rintro r1 w1 ⟨rfl, b1⟩; go_simp; refine hK.out _ _ (hHeld.below b1) ?_; (try clear b1); clear hK hHeld; intro hHeld; (try simp only [Act.put, List.setIfInBounds_toArray, List.set_cons_zero, List.set_cons_succ]))
    | (refine seq_call (by simp only [List.getElem?_toArray, List.getElem?_cons_succ, List.getElem?_cons_zero]; first | done | rfl) (by rfl) (fun K hK => ?_); go_simp; go_at_call 67; refine (HNR.out _ hHeld.1).mono ?_; rintro r1 w1 ⟨A8, c8, rfl, ho, b1⟩; (have HO := Lib.hid (show _ ∧ _ ∧ _ from ⟨ho, hHeld.1.size, hHeld.2.2.1⟩)); (have HB8 := Lib.hid b1); clear ho; go_simp; refine hK.out _ _ (hHeld.below b1) ?_; (try clear b1); clear hK hHeld; intro hHeld; (try simp only [Act.put, List.setIfInBounds_toArray, List.set_cons_zero, List.set_cons_succ]))
    | (refine seq_call (by simp only [List.getElem?_toArray, List.getElem?_cons_succ, List.getElem?_cons_zero]; first | done | rfl) (by rfl) (fun K hK => ?_); (have hst := hHeld); obtain ⟨-, -, zq, ⟨a0, a1, a2, hq⟩, hlo⟩ := hst; obtain ⟨q0, q1, q2⟩ := hq.three; (have z0 := hlo 0); (have z1 := hlo 1); (have z2 := hlo 2); (have HQ := Lib.hid hq); clear hq hlo; go_simp; refine hK.out _ _ (hHeld.put _ _ _) ?_; clear hK q0 q1 q2 z0 z1 z2; (have HLD := Lib.hid hHeld); clear hHeld; intro hHeld; (try simp only [Act.put, List.setIfInBounds_toArray, List.set_cons_zero, List.set_cons_succ])))
  refine seq_end ?_
  have hb8 := HB8.out
  have hds := HO.out.2.2
  have HM1 := Lib.hid hHeld
  have HQ1 := Lib.hid (HQ.out.wr3 (.int .i64 b) (.int .i64 r) (.slice A8 (l.length - 0) c8))
  clear hHeld
  go_wp2
  refine bodyPost_ret (results_iCut b r A8 (l.length - 0) c8 true (w.heap.size + 1) _ _ rfl rfl HQ1.out) rfl ⟨A8, c8, by rw [HE.out]; simp only [HDL.out], ?_, HM1.out.1⟩
  rw [HE.out]
  exact World.ownsRow.mono (row_set3 HO.out.1 hds _ _ _) HO.out.2.1
set_option maxHeartbeats 8000000 in
theorem implCut_at (b r : Int) (A : Option Addr) (l : List M.En) (cap : Nat) (k : Nat) (w : World) (hl : Ens w A l) (hlen : l.length ≤ 1048576) (hp : ∀ e ∈ l, enIn 1048576 e) (hlc : l.length ≤ cap) (h1 : M.rollOk b r l = true) (hkk : k < l.length) (h3 : b + k + 1 ≤ 300) :
    Calls Try.prog 34 #[roV b r A l.length cap, .int .i64 (b + k + 1)] w (RcRet w (M.cut b r l (b + k + 1))) := by
  have hM := ((Mem.start w).new (roA b r A l.length cap) 26).new (roA 0 0 none 0 0) 26
  simp only [World.size_alloc] at hM
  have HL := Lib.hid hl
  have HP := Lib.hid hp
  clear hl hp
  have HE : Hid (M.cut b r l (b + k + 1) = (((b + k + 1), (l[k]).reign, l.drop (k + 1)), true)) := Lib.hid (by
    have h := M.cut_at (b := b) (r := r) (l := l) (k := k + 1) h1 hkk (by omega)
    have e : b + ((k + 1 : Nat) : Int) = b + k + 1 := by omega
    rw [e] at h
    rw [h, M.reignIn_at hkk])
  obtain ⟨g0, g1, -⟩ := M.rollOk_parts h1
  have H1 := Lib.hid h1
  have HDL : Hid ((l.drop (k + 1)).length = l.length - (k + 1)) := Lib.hid List.length_drop
  clear h1
  have hk : k + 1 ≤ l.length := hkk
  have HK : Hid ((decide (b ≤ b + (k : Int) + 1) && decide (b + (k : Int) + 1 ≤ b + l.length)) = true) := Lib.hid (by simp; omega)
  have e9 : ¬ 300 < b + (k : Int) + 1 := by omega
  have HBH : Hid (∀ x, Calls Try.prog 50 #[roV b r A l.length cap, .int .i64 (b + k + 1)] x fun e x' => e = .returned (.slice (cutAt A l.length (k + 1) 10) (l.length - (k + 1)) (l.length - (k + 1))) ∧ Below x.heap.size x x') := Lib.hid (fun x => by
    have hc := behind_any b r A l cap (k + 1) x g0 g1 hlen hlc hk
    rw [show b + (((k + 1) : Nat) : Int) = (b + k + 1) by omega] at hc
    exact hc)
  have HNR : Hid (∀ x, Below w.heap.size w x → Calls Try.prog 67 #[roV (b + k + 1) (l[k]).reign (cutAt A l.length (k + 1) 10) (l.length - (k + 1)) (l.length - (k + 1))] x (RoRet x (b + k + 1) (l[k]).reign (l.drop (k + 1)))) := Lib.hid (fun x hb => by
    have hcall := newRoll_any (b + k + 1) (l[k]).reign (cutAt A l.length (k + 1) 10) (l.drop (k + 1)) (l.length - (k + 1)) x ((HL.out.below hb).cutDrop (k + 1) (Nat.le_refl l.length)) (by rw [HDL.out]; omega) (fun e he => HP.out e (List.mem_of_mem_drop he))
    rw [HDL.out] at hcall
    exact hcall)
  go_enter Try.func34, Try.ntmps34
  go_wp2_with fail
  refine (implRollOk b r A l cap _ (HL.out.below hM.1) hlen HP.out).mono ?_
  rintro e x1 ⟨rfl, b1⟩
  rw [H1.out]
  replace hM := hM.below b1
  clear b1
  obtain ⟨p0, p1, p2⟩ := (hM.get w.heap.size (roA b r A l.length cap) (by simp)).three
  go_wp2_with fail
  refine (knows_any b r A l cap _ _ g0 g1 hlen).mono ?_
  rintro e x2 ⟨rfl, b2⟩
  rw [HK.out]
  replace hM := hM.below b2
  clear b2
  clear p0 p1 p2
  obtain ⟨p0, p1, p2⟩ := (hM.get w.heap.size (roA b r A l.length cap) (by simp)).three
  clear p0 p1 p2
  go_upto_region 5 with (fail)
  refine wp_region_seq (CutS w (roA b r A l.length cap)) [(0, true), (1, true), (2, true), (4, true), (5, true), (3, false), (6, false), (7, true), (8, false), (9, false), (10, true)] (by kernel_rfl) (by kernel_rfl) (fun _ _ _ _ _ h => h) (by kernel_rfl) (by decide) (CutS.of hM).drew ?_
  intro hHeld
  repeat (first
    | (refine seq_skip (by simp only [List.getElem?_toArray, List.getElem?_cons_succ, List.getElem?_cons_zero]; first | done | rfl) (by rfl) ?_; (try simp only [Act.put, List.setIfInBounds_toArray, List.set_cons_zero, List.set_cons_succ]))
    | (refine seq_reads (by simp only [List.getElem?_toArray, List.getElem?_cons_succ, List.getElem?_cons_zero]; first | done | rfl) (by rfl) ?_; apply Exists.intro; apply And.intro; (focus (intro w hSw; obtain ⟨hbS, hhS, -⟩ := hSw; obtain ⟨k0, k1, k2⟩ := hhS.three; go_simp; (try with_reducible rfl); done)); (try simp only [Act.put, List.setIfInBounds_toArray, List.set_cons_zero, List.set_cons_succ]))
    | (refine seq_pass (by simp only [List.getElem?_toArray, List.getElem?_cons_succ, List.getElem?_cons_zero]; first | done | rfl) (by rfl) hHeld ?_; clear hHeld; intro hHeld; (try simp only [Act.put, List.setIfInBounds_toArray, List.set_cons_zero, List.set_cons_succ]))
    | (refine seq_call (by simp only [List.getElem?_toArray, List.getElem?_cons_succ, List.getElem?_cons_zero]; first | done | rfl) (by rfl) (fun K hK => ?_); go_simp; go_at_call 49; refine (reign_at b r A l cap k _ g0 g1 (HL.out.below hHeld.1) hlen hlc hkk).mono ?_; rintro r1 w1 ⟨rfl, b1⟩; go_simp; refine hK.out _ _ (hHeld.below b1) ?_; (try clear b1); clear hK hHeld; intro hHeld; (try simp only [Act.put, List.setIfInBounds_toArray, List.set_cons_zero, List.set_cons_succ]))
    | (refine seq_call (by simp only [List.getElem?_toArray, List.getElem?_cons_succ, List.getElem?_cons_zero]; first | done | rfl) (by rfl) (fun K hK => ?_); go_simp; go_at_call 50; refine (HBH.out _).mono ?_; rintro r1 w1 ⟨rfl, b1⟩; go_simp; refine hK.out _ _ (hHeld.below b1) ?_; (try clear b1); clear hK hHeld; intro hHeld; (try simp only [Act.put, List.setIfInBounds_toArray, List.set_cons_zero, List.set_cons_succ]))
    | (refine seq_call (by simp only [List.getElem?_toArray, List.getElem?_cons_succ, List.getElem?_cons_zero]; first | done | rfl) (by rfl) (fun K hK => ?_); go_simp; go_at_call 67; refine (HNR.out _ hHeld.1).mono ?_; rintro r1 w1 ⟨A8, c8, rfl, ho, b1⟩; (have HO := Lib.hid (show _ ∧ _ ∧ _ from ⟨ho, hHeld.1.size, hHeld.2.2.1⟩)); (have HB8 := Lib.hid b1); clear ho; go_simp; refine hK.out _ _ (hHeld.below b1) ?_; (try clear b1); clear hK hHeld; intro hHeld; (try simp only [Act.put, List.setIfInBounds_toArray, List.set_cons_zero, List.set_cons_succ]))
    | (refine seq_call (by simp only [List.getElem?_toArray, List.getElem?_cons_succ, List.getElem?_cons_zero]; first | done | rfl) (by rfl) (fun K hK => ?_); (have hst := hHeld); obtain ⟨-, -, zq, ⟨a0, a1, a2, hq⟩, hlo⟩ := hst; obtain ⟨q0, q1, q2⟩ := hq.three; (have z0 := hlo 0); (have z1 := hlo 1); (have z2 := hlo 2); (have HQ := Lib.hid hq); clear hq hlo; go_simp; refine hK.out _ _ (hHeld.put _ _ _) ?_; clear hK q0 q1 q2 z0 z1 z2; (have HLD := Lib.hid hHeld); clear hHeld; intro hHeld; (try simp only [Act.put, List.setIfInBounds_toArray, List.set_cons_zero, List.set_cons_succ])))
  refine seq_end ?_
  have hb8 := HB8.out
  have hds := HO.out.2.2
  have HM1 := Lib.hid hHeld
  have HQ1 := Lib.hid (HQ.out.wr3 (.int .i64 (b + k + 1)) (.int .i64 (l[k]).reign) (.slice A8 (l.length - (k + 1)) c8))
  clear hHeld
  go_wp2
  refine bodyPost_ret (results_iCut (b + k + 1) (l[k]).reign A8 (l.length - (k + 1)) c8 true (w.heap.size + 1) _ _ rfl rfl HQ1.out) rfl ⟨A8, c8, by rw [HE.out]; simp only [HDL.out], ?_, HM1.out.1⟩
  rw [HE.out]
  exact World.ownsRow.mono (row_set3 HO.out.1 hds _ _ _) HO.out.2.1
theorem implCut (b r : Int) (A : Option Addr) (l : List M.En) (cap : Nat) (i : Int) (w : World) (hl : Ens w A l) (hlen : l.length ≤ 1048576) (hp : ∀ e ∈ l, enIn 1048576 e) (hlc : l.length ≤ cap) :
    Calls Try.prog 34 #[roV b r A l.length cap, .int .i64 i] w (RcRet w (M.cut b r l i)) := by
  rcases h1 : M.rollOk b r l with _ | _
  · exact implCut_bad b r A l cap i w hl hlen hp h1
  · rcases place_of b i l.length with hi | hi | ⟨k, hk, hi⟩
    · exact implCut_out b r A l cap i w hl hlen hp hlc h1 hi
    · subst hi
      exact implCut_base i r A l cap w hl hlen hp hlc h1 (M.rollOk_parts h1).2.1
    · subst hi
      by_cases h3 : b + (k : Int) + 1 ≤ 300
      · exact implCut_at b r A l cap k w hl hlen hp hlc h1 hk h3
      · exact implCut_far b r A l cap _ w hl hlen hp hlc h1 (by omega) (by omega)
end Go.Proofs.Ytkpbfocnokbmiaa
