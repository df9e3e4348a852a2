/- Proved: the model's functions on editions answer plain Lean functions, at every edition; they write nothing that was there. -/
import Derived.Test.YtiibklhalgookaaGreatDoorSplitWalks
import Derived.Test.YtiibklhalgookaaGreatDoorEdMath
import Derived.Deep.RegionHeld3
import Derived.Deep.DeepCutAuto
namespace Go.Proofs.YtiibklhalgookaaGreatDoor
open Go.RowKit

abbrev edV (e : M.Ed) : Value := .agg #[.int .i64 e.ma, .int .i64 e.mi, .int .i64 e.pa]

theorem in_i (x lo hi : Int) (w : World) : Calls Tryz.prog 27 #[.int .i64 x, .int .i64 lo, .int .i64 hi] w fun e w' => e = .returned (.bool (M.inI x lo hi)) ∧ w = w' := in_any x lo hi w

set_option maxHeartbeats 1000000 in
theorem specEditionOk (e : M.Ed) (w : World) :
    Calls Tryz.prog 35 #[edV e] w fun r w' => r = .returned (.bool (M.edOk e)) ∧ Below w.heap.size w w' := by
  rcases h1 : M.inI e.ma 0 99 with _ | _
  · have HE : Hid (M.edOk e = false) := Lib.hid (by simp [M.edOk, h1])
    go_enter Tryz.func35, Tryz.ntmps35
    go_wp2_with (go_at_call 27; refine (in_i _ _ _ _).mono ?_; rintro e w' ⟨rfl, rfl⟩)
    go_ret
    exact ⟨ret_bool HE.out.symm, (Below.refl _ _).alloc (Nat.le_refl _) _⟩
  · rcases h2 : M.inI e.mi 0 99 with _ | _
    · have HE : Hid (M.edOk e = false) := Lib.hid (by simp [M.edOk, h2])
      go_enter Tryz.func35, Tryz.ntmps35
      go_wp2_with (go_at_call 27; refine (in_i _ _ _ _).mono ?_; rintro e w' ⟨rfl, rfl⟩)
      go_ret
      exact ⟨ret_bool HE.out.symm, (Below.refl _ _).alloc (Nat.le_refl _) _⟩
    · have HE : Hid (M.edOk e = M.inI e.pa 0 99) := Lib.hid (by simp [M.edOk, h1, h2])
      go_enter Tryz.func35, Tryz.ntmps35
      go_wp2_with (go_at_call 27; refine (in_i _ _ _ _).mono ?_; rintro e w' ⟨rfl, rfl⟩)
      go_ret
      exact ⟨ret_bool HE.out.symm, (Below.refl _ _).alloc (Nat.le_refl _) _⟩

def dS (n : Nat) : ByteArray := ⟨(M.digs n).toArray⟩
theorem dS_list (n : Nat) : (dS n).data.toList = M.digs n := rfl
theorem dS_size (n : Nat) : (dS n).size ≤ 20 := M.digs_length n

theorem l1Int_held (W0 : World) (g : Nat) (x y z : Int) (N : Nat) (hN : N < 9223372036854775808) (w : World) (hb0 : Below W0.heap.size W0 w) (hg : g < w.heap.size) (h0 : w.cell? ⟨g, 0, none⟩ = some (.int .i64 x)) (h1 : w.cell? ⟨g, 1, none⟩ = some (.int .i64 y)) (h2 : w.cell? ⟨g, 2, none⟩ = some (.int .i64 z)) :
    Calls Tryz.prog 32 #[.int .i64 N] w fun e w' => e = .returned (.string (dS N)) ∧ Below W0.heap.size W0 w' ∧ g < w'.heap.size ∧ w'.cell? ⟨g, 0, none⟩ = some (.int .i64 x) ∧ w'.cell? ⟨g, 1, none⟩ = some (.int .i64 y) ∧ w'.cell? ⟨g, 2, none⟩ = some (.int .i64 z) :=
  (l1Int_pos N hN w).mono fun _ _ ⟨he, hb⟩ => ⟨he, next hb0 hb, Nat.lt_of_lt_of_le hg hb.size, (hb.cell (p := ⟨g, 0, none⟩) hg).trans h0, (hb.cell (p := ⟨g, 1, none⟩) hg).trans h1, (hb.cell (p := ⟨g, 2, none⟩) hg).trans h2⟩

set_option maxHeartbeats 1000000 in
theorem l2Show_any (e : M.Ed) (w : World) (h : M.edOk e = true) :
    Calls Tryz.prog 30 #[edV e] w fun r w' => r = .returned (strOf (M.edText e)) ∧ Below w.heap.size w w' := by
  have hb : (0 ≤ e.ma ∧ e.ma ≤ 99) ∧ (0 ≤ e.mi ∧ e.mi ≤ 99) ∧ (0 ≤ e.pa ∧ e.pa ≤ 99) := by
    simp [M.edOk, M.inI] at h; omega
  obtain ⟨⟨h1, h2⟩, ⟨h3, h4⟩, h5, h6⟩ := hb
  obtain ⟨a, ha⟩ := Int.eq_ofNat_of_zero_le h1
  obtain ⟨b, hb⟩ := Int.eq_ofNat_of_zero_le h3
  obtain ⟨c, hc⟩ := Int.eq_ofNat_of_zero_le h5
  have HT : Hid (M.edText e = M.digs a ++ ([46] ++ (M.digs b ++ ([46] ++ M.digs c)))) := Lib.hid (by
    unfold M.edText M.intText
    rw [if_neg (by omega), if_neg (by omega), if_neg (by omega), ha, hb, hc]; rfl)
  have b0 : Below w.heap.size w (w.alloc (.cells #[.int .i64 e.ma, .int .i64 e.mi, .int .i64 e.pa] 25)) := (Below.refl _ _).alloc (Nat.le_refl _) _
  rw [ha] at h2; rw [hb] at h4; rw [hc] at h6
  simp only [edV, ha, hb, hc] at b0 ⊢
  clear h ha hb hc h1 h3 h5
  have la := dS_size a
  have lb := dS_size b
  have lc := dS_size c
  obtain ⟨A1, z1, e1, s1⟩ := cat_ex Tryz.prog (dS a) ⟨#[46]⟩ (by show _ + 1 ≤ _; omega)
  have z1' : A1.size = (dS a).size + 1 := z1
  obtain ⟨A2, z2, e2, s2⟩ := cat_ex Tryz.prog A1 (dS b) (by omega)
  obtain ⟨A3, z3, e3, s3⟩ := cat_ex Tryz.prog A2 ⟨#[46]⟩ (by show _ + 1 ≤ _; omega)
  have z3' : A3.size = A2.size + 1 := z3
  obtain ⟨A4, z4, e4, s4⟩ := cat_ex Tryz.prog A3 (dS c) (by omega)
  have HA : Hid (A4.data.toList = M.edText e) := Lib.hid (by rw [HT.out, e4, e3, e2, e1]; simp [dS_list])
  clear z1 z2 z3 z4 e1 e2 e3 e4 z1' z3' la lb lc
  go_enter Tryz.func30, Tryz.ntmps30
  go_wp2_with fail
  go_region_held3 (fun w' => w'.cell? ⟨w.heap.size, 0, none⟩ = some (.int .i64 a) ∧ w'.cell? ⟨w.heap.size, 1, none⟩ = some (.int .i64 b) ∧ w'.cell? ⟨w.heap.size, 2, none⟩ = some (.int .i64 c))
    (first | go_keep | exact ⟨by assumption, by assumption, by assumption⟩)
    (first | (go_at_call 32; refine (l1Int_held w w.heap.size a b c _ (by omega) _ ?_ ?_ ?_ ?_ ?_).mono ?_; (first | exact b0.drew | assumption | exact Below.drew (by assumption)); (simp [*]); (simp [*]); (simp [*]); (simp [*]); rintro e w1 ⟨rfl, b1, k3, k0, k1, k2⟩))
  go_wp2
  go_ret
  exact ⟨ret_ba HA.out, by assumption⟩

theorem set3 {w w1 : World} (h : Below w.heap.size w w1) (x y z : Value) : Below w.heap.size w (((w1.setCell ⟨w.heap.size, 0, none⟩ x).setCell ⟨w.heap.size, 1, none⟩ y).setCell ⟨w.heap.size, 2, none⟩ z) :=
  ((h.setCell (Nat.le_refl _) _).setCell (Nat.le_refl _) _).setCell (Nat.le_refl _) _

theorem ret_ed {p : M.Ed × Bool} {a b c : Int} {k : Bool} (h : p = (⟨a, b, c⟩, k)) : Ending.returned (.tuple #[.agg #[.int .i64 a, .int .i64 b, .int .i64 c], .bool k]) = .returned (.tuple #[edV p.1, .bool p.2]) := by rw [h]

theorem strRow_three {B : Nat} {w : World} {v : Value} {ls : List (List UInt8)} {a b c : List UInt8} (h : StrRow B w v ls) (hl : ls = [a, b, c]) :
    ∃ g cap, v = .slice (some ⟨g, 0, none⟩) 3 cap ∧ B ≤ g ∧ g < w.heap.size ∧ w.cell? ⟨g, 0, none⟩ = some (.string ⟨a.toArray⟩) ∧ w.cell? ⟨g, 1, none⟩ = some (.string ⟨b.toArray⟩) ∧ w.cell? ⟨g, 2, none⟩ = some (.string ⟨c.toArray⟩) := by
  subst hl
  obtain ⟨g, cap, rfl, h0, h1, hc⟩ := h.open (by simp)
  exact ⟨g, cap, rfl, h0, h1, hc 0 (by simp), hc 1 (by simp), hc 2 (by simp)⟩

theorem edRead_other {l : List UInt8} (h : (M.split 46 l).length ≠ 3) : M.edRead l = (⟨0, 0, 0⟩, false) := by
  unfold M.edRead
  split
  · rename_i a b c e; rw [e] at h; exact absurd rfl h
  · rfl
theorem edRead_three {l a b c : List UInt8} (h : M.split 46 l = [a, b, c]) : M.edRead l = if (M.rd a).2 && (M.rd b).2 && (M.rd c).2 && M.edOk ⟨(M.rd a).1, (M.rd b).1, (M.rd c).1⟩ then (⟨(M.rd a).1, (M.rd b).1, (M.rd c).1⟩, true) else (⟨0, 0, 0⟩, false) := by
  unfold M.edRead; rw [h]; rfl

set_option maxHeartbeats 1000000 in
theorem specReadEdition (s : ByteArray) (w : World) (hs : s.size ≤ 1048576) :
    Calls Tryz.prog 28 #[.string s] w fun r w' => r = .returned (.tuple #[edV (M.edRead s.data.toList).1, .bool (M.edRead s.data.toList).2]) ∧ Below w.heap.size w w' := by
  have b0 : Below w.heap.size w (w.alloc (.cells #[.int .i64 0, .int .i64 0, .int .i64 0] 25)) := (Below.refl _ _).alloc (Nat.le_refl _) _
  by_cases h3 : (M.split 46 s.data.toList).length = 3
  · obtain ⟨a, b, c, hl⟩ : ∃ a b c, M.split 46 s.data.toList = [a, b, c] := by
      match hm : M.split 46 s.data.toList, h3 with
      | [a, b, c], _ => exact ⟨a, b, c, rfl⟩
    have HL := Lib.hid hl
    have he := edRead_three hl
    have hsz := M.split_le 46 s.data.toList
    rw [hl] at hsz
    have ha : (⟨a.toArray⟩ : ByteArray).size ≤ maxLen := by have := hsz a (by simp); rw [M.len0] at this; show a.length ≤ _; unfold maxLen; omega
    have hb : (⟨b.toArray⟩ : ByteArray).size ≤ maxLen := by have := hsz b (by simp); rw [M.len0] at this; show b.length ≤ _; unfold maxLen; omega
    have hc : (⟨c.toArray⟩ : ByteArray).size ≤ maxLen := by have := hsz c (by simp); rw [M.len0] at this; show c.length ≤ _; unfold maxLen; omega
    have h3' : (((M.split 46 s.data.toList).length : Int) != 3) = false := by simp; omega
    clear h3 hl hsz
    rcases h1 : (M.rd a).2 with _ | _
    · have HE : Hid (M.edRead s.data.toList = (⟨0, 0, 0⟩, false)) := Lib.hid (by rw [he]; simp [h1])
      clear he
      go_enter Tryz.func28, Tryz.ntmps28
      go_wp2_with fail
      refine (l1Split_any s 46 _ hs).mono ?_
      rintro r w1 ⟨v, rfl, hrow, b1⟩
      obtain ⟨g, cap, rfl, hg0, hg1, k0, k1, k2⟩ := strRow_three hrow HL.out
      obtain ⟨c1, f1⟩ := bcell b1
      have z1 : w.heap.size < w1.heap.size := by have := b1.size; simp at this; omega
      have bb := (next b0 b1).alloc (next b0 b1).size (.cells #[.int .i64 (M.rd a).1, .int .i64 (M.rd b).1, .int .i64 (M.rd c).1] 25)
      go_wp2_with fail
      refine (l1Read_any _ _ ha).mono ?_
      rintro r w' ⟨rfl, rfl⟩
      go_wp2_with fail
      refine (l1Read_any _ _ hb).mono ?_
      rintro r w' ⟨rfl, rfl⟩
      go_wp2_with fail
      refine (l1Read_any _ _ hc).mono ?_
      rintro r w' ⟨rfl, rfl⟩
      go_wp2
      exact bodyPost_ret (v := .tuple #[.agg #[.int .i64 0, .int .i64 0, .int .i64 0], .bool false]) (by simp [results, Tryz.results28, go_sem, c1, z1]) rfl ⟨ret_ed HE.out, (set3 (next b0 b1) _ _ _).alloc (by have := (next b0 b1).size; simp; omega) _⟩
    · rcases h2 : (M.rd b).2 with _ | _
      · have HE : Hid (M.edRead s.data.toList = (⟨0, 0, 0⟩, false)) := Lib.hid (by rw [he]; simp [h2])
        clear he
        go_enter Tryz.func28, Tryz.ntmps28
        go_wp2_with fail
        refine (l1Split_any s 46 _ hs).mono ?_
        rintro r w1 ⟨v, rfl, hrow, b1⟩
        obtain ⟨g, cap, rfl, hg0, hg1, k0, k1, k2⟩ := strRow_three hrow HL.out
        obtain ⟨c1, f1⟩ := bcell b1
        have z1 : w.heap.size < w1.heap.size := by have := b1.size; simp at this; omega
        have bb := (next b0 b1).alloc (next b0 b1).size (.cells #[.int .i64 (M.rd a).1, .int .i64 (M.rd b).1, .int .i64 (M.rd c).1] 25)
        go_wp2_with fail
        refine (l1Read_any _ _ ha).mono ?_
        rintro r w' ⟨rfl, rfl⟩
        go_wp2_with fail
        refine (l1Read_any _ _ hb).mono ?_
        rintro r w' ⟨rfl, rfl⟩
        go_wp2_with fail
        refine (l1Read_any _ _ hc).mono ?_
        rintro r w' ⟨rfl, rfl⟩
        go_wp2
        exact bodyPost_ret (v := .tuple #[.agg #[.int .i64 0, .int .i64 0, .int .i64 0], .bool false]) (by simp [results, Tryz.results28, go_sem, c1, z1]) rfl ⟨ret_ed HE.out, (set3 (next b0 b1) _ _ _).alloc (by have := (next b0 b1).size; simp; omega) _⟩
      · rcases h4 : (M.rd c).2 with _ | _
        · have HE : Hid (M.edRead s.data.toList = (⟨0, 0, 0⟩, false)) := Lib.hid (by rw [he]; simp [h4])
          clear he
          go_enter Tryz.func28, Tryz.ntmps28
          go_wp2_with fail
          refine (l1Split_any s 46 _ hs).mono ?_
          rintro r w1 ⟨v, rfl, hrow, b1⟩
          obtain ⟨g, cap, rfl, hg0, hg1, k0, k1, k2⟩ := strRow_three hrow HL.out
          obtain ⟨c1, f1⟩ := bcell b1
          have z1 : w.heap.size < w1.heap.size := by have := b1.size; simp at this; omega
          have bb := (next b0 b1).alloc (next b0 b1).size (.cells #[.int .i64 (M.rd a).1, .int .i64 (M.rd b).1, .int .i64 (M.rd c).1] 25)
          go_wp2_with fail
          refine (l1Read_any _ _ ha).mono ?_
          rintro r w' ⟨rfl, rfl⟩
          go_wp2_with fail
          refine (l1Read_any _ _ hb).mono ?_
          rintro r w' ⟨rfl, rfl⟩
          go_wp2_with fail
          refine (l1Read_any _ _ hc).mono ?_
          rintro r w' ⟨rfl, rfl⟩
          go_wp2
          exact bodyPost_ret (v := .tuple #[.agg #[.int .i64 0, .int .i64 0, .int .i64 0], .bool false]) (by simp [results, Tryz.results28, go_sem, c1, z1]) rfl ⟨ret_ed HE.out, (set3 (next b0 b1) _ _ _).alloc (by have := (next b0 b1).size; simp; omega) _⟩
        · rcases h5 : M.edOk ⟨(M.rd a).1, (M.rd b).1, (M.rd c).1⟩ with _ | _
          · have HE : Hid (M.edRead s.data.toList = (⟨0, 0, 0⟩, false)) := Lib.hid (by rw [he]; simp [h5])
            clear he
            go_enter Tryz.func28, Tryz.ntmps28
            go_wp2_with fail
            refine (l1Split_any s 46 _ hs).mono ?_
            rintro r w1 ⟨v, rfl, hrow, b1⟩
            obtain ⟨g, cap, rfl, hg0, hg1, k0, k1, k2⟩ := strRow_three hrow HL.out
            obtain ⟨c1, f1⟩ := bcell b1
            have z1 : w.heap.size < w1.heap.size := by have := b1.size; simp at this; omega
            have bb := (next b0 b1).alloc (next b0 b1).size (.cells #[.int .i64 (M.rd a).1, .int .i64 (M.rd b).1, .int .i64 (M.rd c).1] 25)
            go_wp2_with fail
            refine (l1Read_any _ _ ha).mono ?_
            rintro r w' ⟨rfl, rfl⟩
            go_wp2_with fail
            refine (l1Read_any _ _ hb).mono ?_
            rintro r w' ⟨rfl, rfl⟩
            go_wp2_with fail
            refine (l1Read_any _ _ hc).mono ?_
            rintro r w' ⟨rfl, rfl⟩
            go_wp2_with fail
            refine (specEditionOk ⟨(M.rd a).1, (M.rd b).1, (M.rd c).1⟩ _).mono ?_
            rintro r w2 ⟨rfl, b2⟩
            obtain ⟨c2, f2⟩ := bcell b2
            have bc := next bb b2
            have bx := next (b1.alloc b1.size (.cells #[.int .i64 (M.rd a).1, .int .i64 (M.rd b).1, .int .i64 (M.rd c).1] 25)) b2
            have d0 := box_cells bx 0
            have d1 := box_cells bx 1
            have d2 := box_cells bx 2
            simp at d0 d1 d2
            clear bb b0 b1 b2 bx
            go_wp2
            exact bodyPost_ret (v := .tuple #[.agg #[.int .i64 0, .int .i64 0, .int .i64 0], .bool false]) (by simp [results, Tryz.results28, go_sem, d0, d1, d2]) rfl ⟨ret_ed HE.out, set3 bc _ _ _⟩
          · have HE : Hid (M.edRead s.data.toList = (⟨(M.rd a).1, (M.rd b).1, (M.rd c).1⟩, true)) := Lib.hid (by rw [he]; simp [h1, h2, h4, h5])
            clear he
            go_enter Tryz.func28, Tryz.ntmps28
            go_wp2_with fail
            refine (l1Split_any s 46 _ hs).mono ?_
            rintro r w1 ⟨v, rfl, hrow, b1⟩
            obtain ⟨g, cap, rfl, hg0, hg1, k0, k1, k2⟩ := strRow_three hrow HL.out
            obtain ⟨c1, f1⟩ := bcell b1
            have z1 : w.heap.size < w1.heap.size := by have := b1.size; simp at this; omega
            have bb := (next b0 b1).alloc (next b0 b1).size (.cells #[.int .i64 (M.rd a).1, .int .i64 (M.rd b).1, .int .i64 (M.rd c).1] 25)
            go_wp2_with fail
            refine (l1Read_any _ _ ha).mono ?_
            rintro r w' ⟨rfl, rfl⟩
            go_wp2_with fail
            refine (l1Read_any _ _ hb).mono ?_
            rintro r w' ⟨rfl, rfl⟩
            go_wp2_with fail
            refine (l1Read_any _ _ hc).mono ?_
            rintro r w' ⟨rfl, rfl⟩
            go_wp2_with fail
            refine (specEditionOk ⟨(M.rd a).1, (M.rd b).1, (M.rd c).1⟩ _).mono ?_
            rintro r w2 ⟨rfl, b2⟩
            obtain ⟨c2, f2⟩ := bcell b2
            have bc := next bb b2
            have bx := next (b1.alloc b1.size (.cells #[.int .i64 (M.rd a).1, .int .i64 (M.rd b).1, .int .i64 (M.rd c).1] 25)) b2
            have d0 := box_cells bx 0
            have d1 := box_cells bx 1
            have d2 := box_cells bx 2
            simp at d0 d1 d2
            clear bb b0 b1 b2 bx
            go_wp2
            exact bodyPost_ret (v := .tuple #[.agg #[.int .i64 (M.rd a).1, .int .i64 (M.rd b).1, .int .i64 (M.rd c).1], .bool true]) (by simp [results, Tryz.results28, go_sem, d0, d1, d2]) rfl ⟨ret_ed HE.out, set3 bc _ _ _⟩
  · have HE := Lib.hid (edRead_other h3)
    have h3' : (((M.split 46 s.data.toList).length : Int) != 3) = true := by simp; omega
    have hne := M.split_ne 46 s.data.toList
    have HN := Lib.hid hne
    clear h3 hne
    go_enter Tryz.func28, Tryz.ntmps28
    go_wp2_with fail
    refine (l1Split_any s 46 _ hs).mono ?_
    rintro r w1 ⟨v, rfl, hrow, b1⟩
    obtain ⟨g, cap, rfl, hg0, hg1, hcells⟩ := hrow.open HN.out
    obtain ⟨c1, f1⟩ := bcell b1
    have z1 : w.heap.size < w1.heap.size := by have := b1.size; simp at this; omega
    clear hcells
    go_wp2
    exact bodyPost_ret (v := .tuple #[.agg #[.int .i64 0, .int .i64 0, .int .i64 0], .bool false]) (by simp [results, Tryz.results28, go_sem, c1]) rfl ⟨ret_ed HE.out, set3 (next b0 b1) _ _ _⟩
end Go.Proofs.YtiibklhalgookaaGreatDoor
