/- Proved, in parts: Proved: the program's newRoll, EntryAt, Tail and Cut answer plain Lean functions, lists in memory of their own; nothing that was there is written. Condition: texts and lists of at most a million. -/
import Derived.Test.YtkpbfocnokbmiaaPart10
namespace Go.Proofs.Ytkpbfocnokbmiaa
open Go.RowKit
set_option maxRecDepth 20000
set_option linter.unusedVariables false
/-- A list of entries, in memory of one's own. -/
def EnsRet (w : World) (q : List M.En) (e : Ending) (w' : World) : Prop :=
  ∃ A c, e = .returned (.slice A q.length c) ∧ EnsOwn w.heap.size w' (.slice A q.length c) q ∧ Below w.heap.size w w'
/-- A roll and a flag. -/
def RcRet (w : World) (q : (Int × Int × List M.En) × Bool) (e : Ending) (w' : World) : Prop :=
  ∃ A c, e = .returned (.tuple #[roV q.1.1 q.1.2.1 A q.1.2.2.length c, .bool q.2]) ∧ EnsOwn w.heap.size w' (.slice A q.1.2.2.length c) q.1.2.2 ∧ Below w.heap.size w w'
namespace M
def entryAns (b r : Int) (l : List En) (i : Int) : En × Bool := match entryAt b r l i with
  | some e => (e, true)
  | none => (⟨0, or0⟩, false)
end M
theorem row_set {B g : Nat} {w : World} {t : TypeId} {kk n : Nat} {v : Value} {C : List Value} (h : w.ownsRow B t kk v n C) (hg : g < B) (i : Nat) (u : Value) : (w.setCell ⟨g, i, none⟩ u).ownsRow B t kk v n C := by
  obtain ⟨hl, h0 | ⟨k, cap, cur, rfl, hb, hh, hr⟩⟩ := h
  · exact ⟨hl, .inl h0⟩
  · exact ⟨hl, .inr ⟨k, cap, cur, rfl, hb, (Below.heap_setCell _ _ _ _ (by show k ≠ g; omega)).trans hh, hr⟩⟩
theorem row_set3 {B g : Nat} {w : World} {t : TypeId} {kk n : Nat} {v : Value} {C : List Value} (h : w.ownsRow B t kk v n C) (hg : g < B) (a0 a1 a2 : Value) : (((w.setCell ⟨g, 0, none⟩ a0).setCell ⟨g, 1, none⟩ a1).setCell ⟨g, 2, none⟩ a2).ownsRow B t kk v n C :=
  row_set (row_set (row_set h hg 0 _) hg 1 _) hg 2 _
theorem ens_nil (B : Nat) (w : World) : EnsOwn B w (.slice none 0 0) [] := World.ownsRow_nil _ _ _ _
theorem ens_of {B n c : Nat} {w : World} {A : Option Addr} {l : List M.En} (h : EnsOwn B w (.slice A n c) l) : Ens w A l := by
  obtain ⟨A', c', hv, _, hf⟩ := own_flat enL_len h
  have hA : A = A' := by injection hv
  rw [hA]; exact hf
theorem ens_nilc {B n c : Nat} {w : World} {A : Option Addr} {l : List M.En} (h : EnsOwn B w (.slice A n c) l) : A = none → c = 0 := by
  rintro rfl
  obtain ⟨_, ⟨hv, _⟩ | ⟨g, cap, cur, hv, _⟩⟩ := h
  · injection hv
  · cases hv
theorem results_iEntryAt (e : M.En) (t : Bool) (R : Nat) (W : World) (tmps : Array Value) (h4 : tmps.getD 4 undef = .pointer (some ⟨R, 0, none⟩)) (h5 : tmps.getD 5 undef = .bool t) (hW : Holds W R (enC e)) :
    (results Try.f16 tmps).run Try.prog W = .ok (.tuple #[enV e, .bool t]) W := by
  obtain ⟨q0, q1, q2, q3, q4, q5, q6, q7, q8, q9⟩ := hW.ten
  simp at h4 h5
  simp [results, Try.results16, go_sem, h4, h5, q0, q1, q2, q3, q4, q5, q6, q7, q8, q9]
set_option maxHeartbeats 4000000 in
theorem implEntryAt (b r : Int) (A : Option Addr) (l : List M.En) (cap : Nat) (i : Int) (w : World) (hl : Ens w A l) (hlen : l.length ≤ 1048576) (hp : ∀ e ∈ l, enIn 1048576 e) (hlc : l.length ≤ cap) :
    Calls Try.prog 16 #[roV b r A l.length cap, .int .i64 i] w fun e w' => e = .returned (.tuple #[enV (M.entryAns b r l i).1, .bool (M.entryAns b r l i).2]) ∧ Below w.heap.size w w' := by
  have hM := ((Mem.start w).new (roA b r A l.length cap) 26).new (enC ⟨0, M.or0⟩) 37
  simp only [World.size_alloc] at hM
  have HL := Lib.hid hl
  have HP := Lib.hid hp
  clear hl hp
  rcases h1 : M.rollOk b r l with _ | _
  · have HE : Hid (M.entryAns b r l i = (⟨0, M.or0⟩, false)) := Lib.hid (by unfold M.entryAns; rw [M.entryAt_none (.inl h1)])
    have H1 := Lib.hid h1
    clear h1
    go_enter Try.func16, Try.ntmps16
    go_wp2_with fail
    refine (implRollOk b r A l cap _ (HL.out.below hM.1) hlen HP.out).mono ?_
    rintro e x1 ⟨rfl, b1⟩
    rw [H1.out]
    replace hM := hM.below b1
    clear b1
    have hM1 := hM
    clear hM
    obtain ⟨q0, q1, q2, q3, q4, q5, q6, q7, q8, q9⟩ := (hM1.get (w.heap.size + 1) (enC ⟨0, M.or0⟩) (by simp)).ten
    have z0 := hM1.loose (w.heap.size + 1) (by simp) 0
    have z1 := hM1.loose (w.heap.size + 1) (by simp) 1
    have z2 := hM1.loose (w.heap.size + 1) (by simp) 2
    have z3 := hM1.loose (w.heap.size + 1) (by simp) 3
    have z4 := hM1.loose (w.heap.size + 1) (by simp) 4
    have z5 := hM1.loose (w.heap.size + 1) (by simp) 5
    have z6 := hM1.loose (w.heap.size + 1) (by simp) 6
    have z7 := hM1.loose (w.heap.size + 1) (by simp) 7
    have z8 := hM1.loose (w.heap.size + 1) (by simp) 8
    have z9 := hM1.loose (w.heap.size + 1) (by simp) 9
    have zq := (hM1.get (w.heap.size + 1) (enC ⟨0, M.or0⟩) (by simp)).1
    have HM1 := Lib.hid hM1
    clear hM1
    go_wp2
    refine bodyPost_ret (results_iEntryAt ⟨0, M.or0⟩ false (w.heap.size + 1) _ _ rfl rfl ((HM1.out.get (w.heap.size + 1) (enC ⟨0, M.or0⟩) (by simp)).wr10 _ _ _ _ _ _ _ _ _ _)) rfl ⟨by rw [HE.out], far_10 HM1.out.1 (by omega) _ _ _ _ _ _ _ _ _ _⟩
  obtain ⟨g0, g1, -⟩ := M.rollOk_parts h1
  rcases place_of b i l.length with hi | hi | ⟨k, hk, hi⟩
  · have HE : Hid (M.entryAns b r l i = (⟨0, M.or0⟩, false)) := Lib.hid (by unfold M.entryAns; rw [M.entryAt_none (by omega)])
    have HK : Hid ((decide (b ≤ i) && decide (i ≤ b + l.length)) = false) := Lib.hid (by simp; omega)
    have H1 := Lib.hid h1
    clear h1 hi
    go_enter Try.func16, Try.ntmps16
    go_wp2_with fail
    refine (implRollOk b r A l cap _ (HL.out.below hM.1) hlen HP.out).mono ?_
    rintro e x1 ⟨rfl, b1⟩
    rw [H1.out]
    replace hM := hM.below b1
    clear b1
    obtain ⟨p0, p1, p2⟩ := (hM.get w.heap.size (roA b r A l.length cap) (by simp)).three
    go_wp2_with fail
    refine (knows_any b r A l cap i _ g0 g1 hlen).mono ?_
    rintro e x2 ⟨rfl, b2⟩
    rw [HK.out]
    replace hM := hM.below b2
    clear b2
    clear p0 p1 p2
    have hM1 := hM
    clear hM
    obtain ⟨q0, q1, q2, q3, q4, q5, q6, q7, q8, q9⟩ := (hM1.get (w.heap.size + 1) (enC ⟨0, M.or0⟩) (by simp)).ten
    have z0 := hM1.loose (w.heap.size + 1) (by simp) 0
    have z1 := hM1.loose (w.heap.size + 1) (by simp) 1
    have z2 := hM1.loose (w.heap.size + 1) (by simp) 2
    have z3 := hM1.loose (w.heap.size + 1) (by simp) 3
    have z4 := hM1.loose (w.heap.size + 1) (by simp) 4
    have z5 := hM1.loose (w.heap.size + 1) (by simp) 5
    have z6 := hM1.loose (w.heap.size + 1) (by simp) 6
    have z7 := hM1.loose (w.heap.size + 1) (by simp) 7
    have z8 := hM1.loose (w.heap.size + 1) (by simp) 8
    have z9 := hM1.loose (w.heap.size + 1) (by simp) 9
    have zq := (hM1.get (w.heap.size + 1) (enC ⟨0, M.or0⟩) (by simp)).1
    have HM1 := Lib.hid hM1
    clear hM1
    go_wp2
    refine bodyPost_ret (results_iEntryAt ⟨0, M.or0⟩ false (w.heap.size + 1) _ _ rfl rfl ((HM1.out.get (w.heap.size + 1) (enC ⟨0, M.or0⟩) (by simp)).wr10 _ _ _ _ _ _ _ _ _ _)) rfl ⟨by rw [HE.out], far_10 HM1.out.1 (by omega) _ _ _ _ _ _ _ _ _ _⟩
  · subst hi
    have HE : Hid (M.entryAns i r l i = (⟨0, M.or0⟩, false)) := Lib.hid (by unfold M.entryAns; rw [M.entryAt_none (by omega)])
    have HK : Hid ((decide (i ≤ i) && decide (i ≤ i + l.length)) = true) := Lib.hid (by simp; omega)
    have H1 := Lib.hid h1
    clear h1
    go_enter Try.func16, Try.ntmps16
    go_wp2_with fail
    refine (implRollOk i r A l cap _ (HL.out.below hM.1) hlen HP.out).mono ?_
    rintro e x1 ⟨rfl, b1⟩
    rw [H1.out]
    replace hM := hM.below b1
    clear b1
    obtain ⟨p0, p1, p2⟩ := (hM.get w.heap.size (roA i r A l.length cap) (by simp)).three
    go_wp2_with fail
    refine (knows_any i r A l cap i _ g0 g1 hlen).mono ?_
    rintro e x2 ⟨rfl, b2⟩
    rw [HK.out]
    replace hM := hM.below b2
    clear b2
    clear p0 p1 p2
    obtain ⟨p0, p1, p2⟩ := (hM.get w.heap.size (roA i r A l.length cap) (by simp)).three
    have hM1 := hM
    clear hM
    obtain ⟨q0, q1, q2, q3, q4, q5, q6, q7, q8, q9⟩ := (hM1.get (w.heap.size + 1) (enC ⟨0, M.or0⟩) (by simp)).ten
    have z0 := hM1.loose (w.heap.size + 1) (by simp) 0
    have z1 := hM1.loose (w.heap.size + 1) (by simp) 1
    have z2 := hM1.loose (w.heap.size + 1) (by simp) 2
    have z3 := hM1.loose (w.heap.size + 1) (by simp) 3
    have z4 := hM1.loose (w.heap.size + 1) (by simp) 4
    have z5 := hM1.loose (w.heap.size + 1) (by simp) 5
    have z6 := hM1.loose (w.heap.size + 1) (by simp) 6
    have z7 := hM1.loose (w.heap.size + 1) (by simp) 7
    have z8 := hM1.loose (w.heap.size + 1) (by simp) 8
    have z9 := hM1.loose (w.heap.size + 1) (by simp) 9
    have zq := (hM1.get (w.heap.size + 1) (enC ⟨0, M.or0⟩) (by simp)).1
    have HM1 := Lib.hid hM1
    clear hM1
    go_wp2
    refine bodyPost_ret (results_iEntryAt ⟨0, M.or0⟩ false (w.heap.size + 1) _ _ rfl rfl ((HM1.out.get (w.heap.size + 1) (enC ⟨0, M.or0⟩) (by simp)).wr10 _ _ _ _ _ _ _ _ _ _)) rfl ⟨by rw [HE.out], far_10 HM1.out.1 (by omega) _ _ _ _ _ _ _ _ _ _⟩
  · subst hi
    have HE : Hid (M.entryAns b r l (b + k + 1) = (l[k], true)) := Lib.hid (by unfold M.entryAns; rw [M.entryAt_at hk h1])
    have HK : Hid ((decide (b ≤ b + (k : Int) + 1) && decide (b + (k : Int) + 1 ≤ b + l.length)) = true) := Lib.hid (by simp; omega)
    have H1 := Lib.hid h1
    obtain ⟨hn, hg⟩ : enIn 1048576 l[k] := HP.out l[k] (List.getElem_mem hk)
    have e1 : b + (k : Int) + 1 - 1 = b + k := by omega
    have e2 : ¬ b + (k : Int) + 1 = b := by omega
    have hlk : 0 < l.length - k := by omega
    clear h1
    go_enter Try.func16, Try.ntmps16
    go_wp2_with fail
    refine (implRollOk b r A l cap _ (HL.out.below hM.1) hlen HP.out).mono ?_
    rintro e x1 ⟨rfl, b1⟩
    rw [H1.out]
    replace hM := hM.below b1
    clear b1
    obtain ⟨p0, p1, p2⟩ := (hM.get w.heap.size (roA b r A l.length cap) (by simp)).three
    go_wp2_with fail
    refine (knows_any b r A l cap _ _ g0 g1 hlen).mono ?_
    rintro e x2 ⟨rfl, b2⟩
    rw [HK.out]
    replace hM := hM.below b2
    clear b2
    clear p0 p1 p2
    obtain ⟨p0, p1, p2⟩ := (hM.get w.heap.size (roA b r A l.length cap) (by simp)).three
    go_wp2_with fail
    refine (behind_any b r A l cap k _ g0 g1 hlen hlc (by omega)).mono ?_
    rintro e x3 ⟨rfl, b3⟩
    replace hM := hM.below b3
    clear b3
    have hd := (HL.out.below hM.1).cutDrop k (Nat.le_refl l.length)
    have hz : 0 < (l.drop k).length := by rw [List.length_drop]; omega
    have HZ : Hid ((l.drop k)[0] = l[k]) := Lib.hid (by simp)
    obtain ⟨bb, oo, hA, -, c0, c1, c2, c3, c4, c5, c6, c7, c8, c9⟩ := Ens_at hd hz
    rw [hA]
    simp only [Nat.zero_mul, Nat.add_zero, HZ.out] at c0 c1 c2 c3 c4 c5 c6 c7 c8 c9
    replace hM := hM.new (enC l[k]) 37
    clear hA hd p0 p1 p2
    have u4 := (hM.get x3.heap.size (enC l[k]) (by simp)).ten.2.2.2.2.1
    have u8 := (hM.get x3.heap.size (enC l[k]) (by simp)).ten.2.2.2.2.2.2.2.2.1
    have f4 := hM.loose x3.heap.size (by simp) 4
    have f8 := hM.loose x3.heap.size (by simp) 8
    have hcall := ownTexts_any x3.heap.size 0 l[k].order.deed.name l[k].order.deed.page _ u4 u8 f4 f8 hn hg
    have HC := Lib.hid hcall
    clear u4 u8 f4 f8 hcall
    go_wp2_with fail
    refine HC.out.mono ?_
    rintro e x4 ⟨rfl, b4⟩
    have hM1 := hM.below b4
    clear hM b4 c0 c1 c2 c3 c4 c5 c6 c7 c8 c9
    obtain ⟨c0, c1, c2, c3, c4, c5, c6, c7, c8, c9⟩ := (hM1.get x3.heap.size (enC l[k]) (by simp)).ten
    obtain ⟨q0, q1, q2, q3, q4, q5, q6, q7, q8, q9⟩ := (hM1.get (w.heap.size + 1) (enC ⟨0, M.or0⟩) (by simp)).ten
    have z0 := hM1.loose (w.heap.size + 1) (by simp) 0
    have z1 := hM1.loose (w.heap.size + 1) (by simp) 1
    have z2 := hM1.loose (w.heap.size + 1) (by simp) 2
    have z3 := hM1.loose (w.heap.size + 1) (by simp) 3
    have z4 := hM1.loose (w.heap.size + 1) (by simp) 4
    have z5 := hM1.loose (w.heap.size + 1) (by simp) 5
    have z6 := hM1.loose (w.heap.size + 1) (by simp) 6
    have z7 := hM1.loose (w.heap.size + 1) (by simp) 7
    have z8 := hM1.loose (w.heap.size + 1) (by simp) 8
    have z9 := hM1.loose (w.heap.size + 1) (by simp) 9
    have zq := (hM1.get (w.heap.size + 1) (enC ⟨0, M.or0⟩) (by simp)).1
    have HM1 := Lib.hid hM1
    clear hM1
    go_wp2
    refine bodyPost_ret (results_iEntryAt l[k] true (w.heap.size + 1) _ _ rfl rfl ((HM1.out.get (w.heap.size + 1) (enC ⟨0, M.or0⟩) (by simp)).wr10 _ _ _ _ _ _ _ _ _ _)) rfl ⟨by rw [HE.out], far_10 HM1.out.1 (by omega) _ _ _ _ _ _ _ _ _ _⟩
/-- Where a number stands to what may be asked of a roll's tail. -/
theorem tail_of (b i : Int) (n : Nat) : i ≤ b ∨ b + n + 1 < i ∨ ∃ k : Nat, k ≤ n ∧ i = b + k + 1 := by
  by_cases h : i ≤ b
  · exact .inl h
  · by_cases h2 : b + n + 1 < i
    · exact .inr (.inl h2)
    · exact .inr (.inr ⟨(i - b - 1).toNat, by omega, by omega⟩)
set_option maxHeartbeats 4000000 in
theorem implTail (b r : Int) (A : Option Addr) (l : List M.En) (cap : Nat) (i : Int) (w : World) (hl : Ens w A l) (hlen : l.length ≤ 1048576) (hp : ∀ e ∈ l, enIn 1048576 e) (hlc : l.length ≤ cap) :
    Calls Try.prog 17 #[roV b r A l.length cap, .int .i64 i] w (EnsRet w (M.tail b r l i)) := by
  have hM := (Mem.start w).new (roA b r A l.length cap) 26
  have HL := Lib.hid hl
  have HP := Lib.hid hp
  clear hl hp
  rcases h1 : M.rollOk b r l with _ | _
  · have HE : Hid (M.tail b r l i = []) := Lib.hid (M.tail_none (.inl h1))
    have H1 := Lib.hid h1
    clear h1
    go_enter Try.func17, Try.ntmps17
    go_wp2_with fail
    refine (implRollOk b r A l cap _ (HL.out.below hM.1) hlen HP.out).mono ?_
    rintro e x1 ⟨rfl, b1⟩
    rw [H1.out]
    replace hM := hM.below b1
    clear b1
    go_wp2
    go_ret
    exact ⟨none, 0, by rw [HE.out]; rfl, by rw [HE.out]; exact ens_nil _ _, hM.1⟩
  obtain ⟨g0, g1, -⟩ := M.rollOk_parts h1
  rcases tail_of b i l.length with hi | hi | ⟨k, hk, hi⟩
  · have HE : Hid (M.tail b r l i = []) := Lib.hid (M.tail_none (.inr (.inl hi)))
    have H1 := Lib.hid h1
    clear h1
    go_enter Try.func17, Try.ntmps17
    go_wp2_with fail
    refine (implRollOk b r A l cap _ (HL.out.below hM.1) hlen HP.out).mono ?_
    rintro e x1 ⟨rfl, b1⟩
    rw [H1.out]
    replace hM := hM.below b1
    clear b1
    obtain ⟨p0, p1, p2⟩ := (hM.get w.heap.size (roA b r A l.length cap) (by simp)).three
    go_wp2
    go_ret
    exact ⟨none, 0, by rw [HE.out]; rfl, by rw [HE.out]; exact ens_nil _ _, hM.1⟩
  · have HE : Hid (M.tail b r l i = []) := Lib.hid (M.tail_none (.inr (.inr hi)))
    have H1 := Lib.hid h1
    have e0 : ¬ i ≤ b := by omega
    clear h1
    go_enter Try.func17, Try.ntmps17
    go_wp2_with fail
    refine (implRollOk b r A l cap _ (HL.out.below hM.1) hlen HP.out).mono ?_
    rintro e x1 ⟨rfl, b1⟩
    rw [H1.out]
    replace hM := hM.below b1
    clear b1
    obtain ⟨p0, p1, p2⟩ := (hM.get w.heap.size (roA b r A l.length cap) (by simp)).three
    go_wp2_with fail
    refine (last_any b r A l cap _ g0 g1 hlen).mono ?_
    rintro e x2 ⟨rfl, b2⟩
    replace hM := hM.below b2
    clear b2
    clear p0 p1 p2
    go_wp2
    go_ret
    exact ⟨none, 0, by rw [HE.out]; rfl, by rw [HE.out]; exact ens_nil _ _, hM.1⟩
  · subst hi
    have HE : Hid (M.tail b r l (b + k + 1) = l.drop k) := Lib.hid (M.tail_at hk h1)
    have H1 := Lib.hid h1
    have e0 : ¬ b + (k : Int) + 1 ≤ b := by omega
    have e1 : b + (k : Int) + 1 - 1 = b + k := by omega
    have e2 : ¬ b + (l.length : Int) + 1 < b + k + 1 := by omega
    have HDL : Hid ((l.drop k).length = l.length - k) := Lib.hid List.length_drop
    clear h1
    go_enter Try.func17, Try.ntmps17
    go_wp2_with fail
    refine (implRollOk b r A l cap _ (HL.out.below hM.1) hlen HP.out).mono ?_
    rintro e x1 ⟨rfl, b1⟩
    rw [H1.out]
    replace hM := hM.below b1
    clear b1
    obtain ⟨p0, p1, p2⟩ := (hM.get w.heap.size (roA b r A l.length cap) (by simp)).three
    go_wp2_with fail
    refine (last_any b r A l cap _ g0 g1 hlen).mono ?_
    rintro e x2 ⟨rfl, b2⟩
    replace hM := hM.below b2
    clear b2
    clear p0 p1 p2
    obtain ⟨p0, p1, p2⟩ := (hM.get w.heap.size (roA b r A l.length cap) (by simp)).three
    go_wp2_with fail
    refine (behind_any b r A l cap k _ g0 g1 hlen hlc hk).mono ?_
    rintro e x3 ⟨rfl, b3⟩
    replace hM := hM.below b3
    clear b3
    clear p0 p1 p2
    have hcall := newEntries_any (cutAt A l.length k 10) (l.drop k) (l.length - k) x3 ((HL.out.below hM.1).cutDrop k (Nat.le_refl l.length)) (by rw [HDL.out]; omega) (fun e he => HP.out e (List.mem_of_mem_drop he))
    rw [HDL.out] at hcall
    have HC := Lib.hid hcall
    clear hcall
    go_wp2_with fail
    refine HC.out.mono ?_
    rintro e x4 ⟨rfl, ho, b4⟩
    have HO := Lib.hid ho
    have hs := hM.1.size
    clear ho
    go_wp2
    go_ret
    refine ⟨some ⟨x3.heap.size, 0, none⟩, l.length - k, by rw [HE.out, HDL.out]; rfl, ?_, hM.1.trans (b4.mono hs)⟩
    rw [HE.out, HDL.out]
    exact World.ownsRow.mono HO.out hs
/-- What is so while Cut's answer is put together: the roll's box stands, the answer's box may be written, nothing old has changed. -/
def CutS (w : World) (C : Array Value) (w' : World) : Prop :=
  Below w.heap.size w w' ∧ Holds w' w.heap.size C ∧ w.heap.size + 1 < w'.heap.size ∧ (∃ a0 a1 a2, Holds w' (w.heap.size + 1) #[a0, a1, a2]) ∧ Loose w' (w.heap.size + 1)
theorem CutS.below {w w1 w2 : World} {C : Array Value} (h : CutS w C w1) (hb : Below w1.heap.size w1 w2) : CutS w C w2 := by
  obtain ⟨h0, h1, h2, ⟨a0, a1, a2, h3⟩, h4⟩ := h
  exact ⟨next h0 hb, h1.below hb, Nat.lt_of_lt_of_le h2 hb.size, ⟨a0, a1, a2, h3.below hb⟩, h4.below h2 hb⟩
theorem CutS.put {w w1 : World} {C : Array Value} (h : CutS w C w1) (x0 x1 x2 : Value) : CutS w C (((w1.setCell ⟨w.heap.size + 1, 0, none⟩ x0).setCell ⟨w.heap.size + 1, 1, none⟩ x1).setCell ⟨w.heap.size + 1, 2, none⟩ x2) := by
  obtain ⟨h0, h1, h2, ⟨a0, a1, a2, h3⟩, h4⟩ := h
  exact ⟨far_3 h0 (by omega) _ _ _, h1.off3 (by omega) _ _ _, by simpa using h2, ⟨x0, x1, x2, h3.wr3 _ _ _⟩, h4.wr3 _ _ _⟩
theorem CutS.drew {w w1 : World} {C : Array Value} (h : CutS w C w1) : CutS w C w1.drew := ⟨h.1.drew, h.2⟩
theorem CutS.of {w x : World} {C : Array Value} (h : Mem w [(w.heap.size + 1, roA 0 0 none 0 0), (w.heap.size, C)] [w.heap.size + 1, w.heap.size] x) : CutS w C x :=
  ⟨h.1, h.get w.heap.size C (by simp), (h.get (w.heap.size + 1) (roA 0 0 none 0 0) (by simp)).1, ⟨_, _, _, h.get (w.heap.size + 1) (roA 0 0 none 0 0) (by simp)⟩, h.loose (w.heap.size + 1) (by simp)⟩
end Go.Proofs.Ytkpbfocnokbmiaa
