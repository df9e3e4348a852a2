/- Proved: the model's functions on editions answer plain Lean functions, at every edition; they write nothing that was there. -/
import Derived.Test.YtpbgnbalmflleaaDoorSplitWalks
import Derived.Test.YtpbgnbalmflleaaDoorEdMath
import Derived.Deep.RegionHeld3
import Derived.Deep.DeepCutAuto
namespace Go.Proofs.YtpbgnbalmflleaaDoor
open Go.RowKit

abbrev edV (e : M.Ed) : Value := .agg #[.int .i64 e.ma, .int .i64 e.mi, .int .i64 e.pa]

theorem in_i (x lo hi : Int) (w : World) : Calls Tryd.prog 50 #[.int .i64 x, .int .i64 lo, .int .i64 hi] w fun e w' => e = .returned (.bool (M.inI x lo hi)) ∧ w = w' := in_any x lo hi w

set_option maxHeartbeats 1000000 in
theorem specEditionOk (e : M.Ed) (w : World) :
    Calls Tryd.prog 48 #[edV e] w fun r w' => r = .returned (.bool (M.edOk e)) ∧ Below w.heap.size w w' := by
  rcases h1 : M.inI e.ma 0 99 with _ | _
  · have HE : Hid (M.edOk e = false) := Lib.hid (by simp [M.edOk, h1])
    go_enter Tryd.func48, Tryd.ntmps48
    go_wp2_with (go_at_call 50; refine (in_i _ _ _ _).mono ?_; rintro e w' ⟨rfl, rfl⟩)
    go_ret
    exact ⟨ret_bool HE.out.symm, (Below.refl _ _).alloc (Nat.le_refl _) _⟩
  · rcases h2 : M.inI e.mi 0 99 with _ | _
    · have HE : Hid (M.edOk e = false) := Lib.hid (by simp [M.edOk, h2])
      go_enter Tryd.func48, Tryd.ntmps48
      go_wp2_with (go_at_call 50; refine (in_i _ _ _ _).mono ?_; rintro e w' ⟨rfl, rfl⟩)
      go_ret
      exact ⟨ret_bool HE.out.symm, (Below.refl _ _).alloc (Nat.le_refl _) _⟩
    · have HE : Hid (M.edOk e = M.inI e.pa 0 99) := Lib.hid (by simp [M.edOk, h1, h2])
      go_enter Tryd.func48, Tryd.ntmps48
      go_wp2_with (go_at_call 50; refine (in_i _ _ _ _).mono ?_; rintro e w' ⟨rfl, rfl⟩)
      go_ret
      exact ⟨ret_bool HE.out.symm, (Below.refl _ _).alloc (Nat.le_refl _) _⟩

set_option maxHeartbeats 1000000 in
theorem specOlder (a b : M.Ed) (w : World) :
    Calls Tryd.prog 34 #[edV a, edV b] w fun r w' => r = .returned (.bool (M.older a b)) ∧ Below w.heap.size w w' := by
  by_cases h1 : a.ma = b.ma
  · have h1' : (a.ma != b.ma) = false := by simpa using h1
    have h1'' : (a.ma == b.ma) = true := by simpa using h1
    by_cases h2 : a.mi = b.mi
    · have h2' : (a.mi != b.mi) = false := by simpa using h2
      have HE : Hid (M.older a b = decide (a.pa < b.pa)) := Lib.hid (by unfold M.older; rw [if_neg (by simpa using h1), if_neg (by simpa using h2)])
      clear h1 h2
      go_enter Tryd.func34, Tryd.ntmps34
      go_wp2
      go_ret
      exact ⟨ret_bool HE.out.symm, ((Below.refl _ _).alloc (Nat.le_refl _) _).alloc (by simp) _⟩
    · have h2' : (a.mi != b.mi) = true := by simpa using h2
      have HE : Hid (M.older a b = decide (a.mi < b.mi)) := Lib.hid (by unfold M.older; rw [if_neg (by simpa using h1), if_pos h2])
      clear h1 h2
      go_enter Tryd.func34, Tryd.ntmps34
      go_wp2
      go_ret
      exact ⟨ret_bool HE.out.symm, ((Below.refl _ _).alloc (Nat.le_refl _) _).alloc (by simp) _⟩
  · have h1' : (a.ma != b.ma) = true := by simpa using h1
    have HE : Hid (M.older a b = decide (a.ma < b.ma)) := Lib.hid (by unfold M.older; rw [if_pos h1])
    clear h1
    go_enter Tryd.func34, Tryd.ntmps34
    go_wp2
    go_ret
    exact ⟨ret_bool HE.out.symm, ((Below.refl _ _).alloc (Nat.le_refl _) _).alloc (by simp) _⟩

def dS (n : Nat) : ByteArray := ⟨(M.digs n).toArray⟩
theorem dS_list (n : Nat) : (dS n).data.toList = M.digs n := rfl
theorem dS_size (n : Nat) : (dS n).size ≤ 20 := M.digs_length n

theorem l1Int_held (W0 : World) (g : Nat) (x y z : Int) (N : Nat) (hN : N < 9223372036854775808) (w : World) (hb0 : Below W0.heap.size W0 w) (hg : g < w.heap.size) (h0 : w.cell? ⟨g, 0, none⟩ = some (.int .i64 x)) (h1 : w.cell? ⟨g, 1, none⟩ = some (.int .i64 y)) (h2 : w.cell? ⟨g, 2, none⟩ = some (.int .i64 z)) :
    Calls Tryd.prog 11 #[.int .i64 N] w fun e w' => e = .returned (.string (dS N)) ∧ Below W0.heap.size W0 w' ∧ g < w'.heap.size ∧ w'.cell? ⟨g, 0, none⟩ = some (.int .i64 x) ∧ w'.cell? ⟨g, 1, none⟩ = some (.int .i64 y) ∧ w'.cell? ⟨g, 2, none⟩ = some (.int .i64 z) :=
  (l1Int_pos N hN w).mono fun _ _ ⟨he, hb⟩ => ⟨he, next hb0 hb, Nat.lt_of_lt_of_le hg hb.size, (hb.cell (p := ⟨g, 0, none⟩) hg).trans h0, (hb.cell (p := ⟨g, 1, none⟩) hg).trans h1, (hb.cell (p := ⟨g, 2, none⟩) hg).trans h2⟩

set_option maxHeartbeats 1000000 in
theorem l2Show_any (e : M.Ed) (w : World) (h : M.edOk e = true) :
    Calls Tryd.prog 12 #[edV e] w fun r w' => r = .returned (strOf (M.edText e)) ∧ Below w.heap.size w w' := by
  have hb : (0 ≤ e.ma ∧ e.ma ≤ 99) ∧ (0 ≤ e.mi ∧ e.mi ≤ 99) ∧ (0 ≤ e.pa ∧ e.pa ≤ 99) := by
    simp [M.edOk, M.inI] at h; omega
  obtain ⟨⟨h1, h2⟩, ⟨h3, h4⟩, h5, h6⟩ := hb
  obtain ⟨a, ha⟩ := Int.eq_ofNat_of_zero_le h1
  obtain ⟨b, hb⟩ := Int.eq_ofNat_of_zero_le h3
  obtain ⟨c, hc⟩ := Int.eq_ofNat_of_zero_le h5
  have HT : Hid (M.edText e = M.digs a ++ ([46] ++ (M.digs b ++ ([46] ++ M.digs c)))) := Lib.hid (by
    unfold M.edText M.intText
    rw [if_neg (by omega), if_neg (by omega), if_neg (by omega), ha, hb, hc]; rfl)
  have b0 : Below w.heap.size w (w.alloc (.cells #[.int .i64 e.ma, .int .i64 e.mi, .int .i64 e.pa] 40)) := (Below.refl _ _).alloc (Nat.le_refl _) _
  rw [ha] at h2; rw [hb] at h4; rw [hc] at h6
  simp only [edV, ha, hb, hc] at b0 ⊢
  clear h ha hb hc h1 h3 h5
  have la := dS_size a
  have lb := dS_size b
  have lc := dS_size c
  obtain ⟨A1, z1, e1, s1⟩ := cat_ex Tryd.prog (dS a) ⟨#[46]⟩ (by show _ + 1 ≤ _; omega)
  have z1' : A1.size = (dS a).size + 1 := z1
  obtain ⟨A2, z2, e2, s2⟩ := cat_ex Tryd.prog A1 (dS b) (by omega)
  obtain ⟨A3, z3, e3, s3⟩ := cat_ex Tryd.prog A2 ⟨#[46]⟩ (by show _ + 1 ≤ _; omega)
  have z3' : A3.size = A2.size + 1 := z3
  obtain ⟨A4, z4, e4, s4⟩ := cat_ex Tryd.prog A3 (dS c) (by omega)
  have HA : Hid (A4.data.toList = M.edText e) := Lib.hid (by rw [HT.out, e4, e3, e2, e1]; simp [dS_list])
  clear z1 z2 z3 z4 e1 e2 e3 e4 z1' z3' la lb lc
  go_enter Tryd.func12, Tryd.ntmps12
  go_wp2_with fail
  go_region_held3 (fun w' => w'.cell? ⟨w.heap.size, 0, none⟩ = some (.int .i64 a) ∧ w'.cell? ⟨w.heap.size, 1, none⟩ = some (.int .i64 b) ∧ w'.cell? ⟨w.heap.size, 2, none⟩ = some (.int .i64 c))
    (first | go_keep | exact ⟨by assumption, by assumption, by assumption⟩)
    (first | (go_at_call 11; refine (l1Int_held w w.heap.size a b c _ (by omega) _ ?_ ?_ ?_ ?_ ?_).mono ?_; (first | exact b0.drew | assumption | exact Below.drew (by assumption)); (simp [*]); (simp [*]); (simp [*]); (simp [*]); rintro e w1 ⟨rfl, b1, k3, k0, k1, k2⟩))
  go_wp2
  go_ret
  exact ⟨ret_ba HA.out, by assumption⟩

theorem set3 {w w1 : World} (h : Below w.heap.size w w1) (x y z : Value) : Below w.heap.size w (((w1.setCell ⟨w.heap.size, 0, none⟩ x).setCell ⟨w.heap.size, 1, none⟩ y).setCell ⟨w.heap.size, 2, none⟩ z) :=
  ((h.setCell (Nat.le_refl _) _).setCell (Nat.le_refl _) _).setCell (Nat.le_refl _) _

theorem ret_ed {p : M.Ed × Bool} {a b c : Int} {k : Bool} (h : p = (⟨a, b, c⟩, k)) : Ending.returned (.tuple #[.agg #[.int .i64 a, .int .i64 b, .int .i64 c], .bool k]) = .returned (.tuple #[edV p.1, .bool p.2]) := by rw [h]

theorem strRow_three {B : Nat} {w : World} {v : Value} {ls : List (List UInt8)} {a b c : List UInt8} (h : StrRow B w v ls) (hl : ls = [a, b, c]) :
    ∃ g cap, v = .slice (some ⟨g, 0, none⟩) 3 cap ∧ B ≤ g ∧ g < w.heap.size ∧ w.cell? ⟨g, 0, none⟩ = some (.string ⟨a.toArray⟩) ∧ w.cell? ⟨g, 1, none⟩ = some (.string ⟨b.toArray⟩) ∧ w.cell? ⟨g, 2, none⟩ = some (.string ⟨c.toArray⟩) := by
  subst hl
  obtain ⟨g, cap, rfl, h0, h1, hc⟩ := h.open (by simp)
  exact ⟨g, cap, rfl, h0, h1, hc 0 (by simp), hc 1 (by simp), hc 2 (by simp)⟩

theorem edRead_other {l : List UInt8} (h : (M.split 46 l).length ≠ 3) : M.edRead l = (⟨0, 0, 0⟩, false) := by
  unfold M.edRead
  split
  · rename_i a b c e; rw [e] at h; exact absurd rfl h
  · rfl
theorem edRead_three {l a b c : List UInt8} (h : M.split 46 l = [a, b, c]) : M.edRead l = if (M.rd a).2 && (M.rd b).2 && (M.rd c).2 && M.edOk ⟨(M.rd a).1, (M.rd b).1, (M.rd c).1⟩ then (⟨(M.rd a).1, (M.rd b).1, (M.rd c).1⟩, true) else (⟨0, 0, 0⟩, false) := by
  unfold M.edRead; rw [h]; rfl

end Go.Proofs.YtpbgnbalmflleaaDoor
