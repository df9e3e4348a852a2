/- Proved: the program's ReadEdition answers the same plain Lean function as the model's, at every text of at most 1048576 bytes; it writes nothing that was there. Condition: 'Laid'. -/
import Derived.Test.YtiibklhalgookaaGreatDoorReadNumber
import Derived.Test.YtiibklhalgookaaGreatDoorCutN
import Derived.Test.YtiibklhalgookaaGreatDoorEdImpl
namespace Go.Proofs.YtiibklhalgookaaGreatDoor
open Go.RowKit
set_option maxRecDepth 20000

/-- What SplitN leaves: three texts, or another number of them. -/
theorem splitN_three (s a b c : ByteArray) (w : World) (hs : s.size ≤ 1048576) (hl : Laid w) (h : Lib.splitB ⟨#[46]⟩ 0 (min 3 (s.size + 1) - 1) s = [a, b, c]) :
    Calls Tryz.prog 22 #[.string s, .string ⟨#[46]⟩, .int .i64 3] w fun e w' => e = .returned (.slice (some ⟨w.heap.size, 0, none⟩) 3 3) ∧ w' = w.alloc (.cells #[.string a, .string b, .string c] 9) := by
  obtain ⟨_, _, _, m, hm⟩ := hl
  have hc := Tryz.strings_SplitN s ⟨#[46]⟩ 3 m w (by omega) hm (by show 1 ≤ 1; omega) (by omega) (by omega)
  rw [h] at hc
  have h3 : min 3 (s.size + 1) = 3 := by
    have hlen := Lib.splitB_length_le ⟨#[46]⟩ 0 (min 3 (s.size + 1) - 1) s
    rw [h] at hlen
    simp at hlen; omega
  rw [h3] at hc
  exact hc
def OtherOut (w : World) (e : Ending) (w' : World) : Prop := ∃ (n cap : Nat), ((n : Int) != 3) = true ∧ e = .returned (.slice (some ⟨w.heap.size, 0, none⟩) n cap) ∧ Below w.heap.size w w'
theorem splitN_other (s : ByteArray) (w : World) (hs : s.size ≤ 1048576) (hl : Laid w) (h : (Lib.splitB ⟨#[46]⟩ 0 (min 3 (s.size + 1) - 1) s).length ≠ 3) :
    Calls Tryz.prog 22 #[.string s, .string ⟨#[46]⟩, .int .i64 3] w (OtherOut w) := by
  obtain ⟨_, _, _, m, hm⟩ := hl
  refine (Tryz.strings_SplitN s ⟨#[46]⟩ 3 m w (by omega) hm (by show 1 ≤ 1; omega) (by omega) (by omega)).mono ?_
  rintro e w' ⟨rfl, rfl⟩
  exact ⟨_, _, by simp; omega, rfl, (Below.refl _ _).alloc (Nat.le_refl _) _⟩

theorem splitB_list (s : ByteArray) : (Lib.splitB ⟨#[46]⟩ 0 (min 3 (s.size + 1) - 1) s).map (·.data.toList) = Lib.splitK [46] 0 (min 3 (s.data.toList.length + 1) - 1) s.data.toList := by
  rw [M.len0]; exact Lib.splitB_data ⟨#[46]⟩ 0 _ s

/-- The result's box stays as it was made, and may be written. -/
theorem zero_box {w w1 : World} {o : Obj} (hb : Below ((w.alloc (.cells #[.int .i64 0, .int .i64 0, .int .i64 0] 25)).alloc o).heap.size ((w.alloc (.cells #[.int .i64 0, .int .i64 0, .int .i64 0] 25)).alloc o) w1) :
    (w1.cell? ⟨w.heap.size, 0, none⟩ = some (.int .i64 0) ∧ w1.cell? ⟨w.heap.size, 1, none⟩ = some (.int .i64 0) ∧ w1.cell? ⟨w.heap.size, 2, none⟩ = some (.int .i64 0)) ∧ w1.frozen? ⟨w.heap.size, 0, none⟩ = false ∧ w1.frozen? ⟨w.heap.size, 1, none⟩ = false ∧ w1.frozen? ⟨w.heap.size, 2, none⟩ = false := by
  have ht : Three w1 w.heap.size ⟨0, 0, 0⟩ := (Three.alloc (three_new w ⟨0, 0, 0⟩ 25) o).below hb
  have hr : Room w1 w.heap.size := (room_new w (.int .i64 0) (.int .i64 0) (.int .i64 0) 25).later ((hb.block w.heap.size (by simp; omega)).trans (Below.heap_alloc _ o _ (by simp)))
  exact ⟨ht, hr.2⟩

/-- The memory at the head of each round: the result's box, the three numbers so far, the three texts. -/
def ReadW (w : World) (a b c : ByteArray) (x y z : Int) (wy : World) : Prop :=
  Below w.heap.size w wy ∧ (Three wy w.heap.size ⟨0, 0, 0⟩ ∧ Room wy w.heap.size) ∧ (Three wy (w.heap.size + 1) ⟨x, y, z⟩ ∧ Room wy (w.heap.size + 1)) ∧
    wy.cell? ⟨w.heap.size + 2, 0, none⟩ = some (.string a) ∧ wy.cell? ⟨w.heap.size + 2, 1, none⟩ = some (.string b) ∧ wy.cell? ⟨w.heap.size + 2, 2, none⟩ = some (.string c)
theorem ReadW.later {w : World} {a b c : ByteArray} {x y z : Int} {wy w1 : World} (h : ReadW w a b c x y z wy) (hb : Below wy.heap.size wy w1) : ReadW w a b c x y z w1 := by
  obtain ⟨h0, ⟨h1, h2⟩, ⟨h3, h4⟩, h5, h6, h7⟩ := h
  have hl := World.block_lt_of_cell? wy _ h5
  exact ⟨next h0 hb, ⟨h1.below hb, h2.later (hb.block _ h1.lt)⟩, ⟨h3.below hb, h4.later (hb.block _ h3.lt)⟩, (hb.cell (p := ⟨w.heap.size + 2, 0, none⟩) hl).trans h5, (hb.cell (p := ⟨w.heap.size + 2, 1, none⟩) hl).trans h6, (hb.cell (p := ⟨w.heap.size + 2, 2, none⟩) hl).trans h7⟩
theorem set_other {w : World} {g k j i : Nat} {v : Value} (h : k ≠ g) : (w.setCell ⟨g, j, none⟩ v).cell? ⟨k, i, none⟩ = w.cell? ⟨k, i, none⟩ :=
  World.cell?_of_block (a := ⟨k, i, none⟩) (Below.heap_setCell _ _ _ _ h)
theorem room_set {w : World} {g j : Nat} {v : Value} (h : Room w g) : Room (w.setCell ⟨g, j, none⟩ v) g := by
  obtain ⟨⟨h0, h1, h2⟩, h3, h4, h5⟩ := h
  have key : ∀ i, (w.cell? ⟨g, i, none⟩).isSome = true → ((w.setCell ⟨g, j, none⟩ v).cell? ⟨g, i, none⟩).isSome = true := by
    intro i hi
    obtain ⟨u, hu⟩ := Option.isSome_iff_exists.1 hi
    by_cases e : j = i
    · subst e; rw [World.cell?_setCell_same w _ _ hu]; rfl
    · rw [World.cell?_setCell_other w _ _ _ (fun h => e (by injection h))]; exact hi
  exact ⟨⟨key 0 h0, key 1 h1, key 2 h2⟩, by rw [World.frozen?_setCell]; exact h3, by rw [World.frozen?_setCell]; exact h4, by rw [World.frozen?_setCell]; exact h5⟩
theorem ReadW.set {w : World} {a b c : ByteArray} {x y z x' y' z' : Int} {wy : World} {j : Nat} {v : Value} (h : ReadW w a b c x y z wy) (ht : Three (wy.setCell ⟨w.heap.size + 1, j, none⟩ v) (w.heap.size + 1) ⟨x', y', z'⟩) : ReadW w a b c x' y' z' (wy.setCell ⟨w.heap.size + 1, j, none⟩ v) := by
  obtain ⟨h0, ⟨h1, h2⟩, ⟨h3, h4⟩, h5, h6, h7⟩ := h
  exact ⟨h0.setCell (by show _ ≤ w.heap.size + 1; omega) _, ⟨h1.later (Below.heap_setCell _ _ _ _ (by show w.heap.size ≠ w.heap.size + 1; omega)), h2.later (Below.heap_setCell _ _ _ _ (by show w.heap.size ≠ w.heap.size + 1; omega))⟩, ⟨ht, room_set h4⟩, (set_other (by omega)).trans h5, (set_other (by omega)).trans h6, (set_other (by omega)).trans h7⟩
theorem ReadW.set0 {w : World} {a b c : ByteArray} {x y z : Int} {wy : World} (h : ReadW w a b c x y z wy) (n : Int) : ReadW w a b c n y z (wy.setCell ⟨w.heap.size + 1, 0, none⟩ (.int .i64 n)) := by
  refine h.set ?_
  obtain ⟨k0, k1, k2⟩ := h.2.2.1.1
  exact ⟨World.cell?_setCell_same wy _ _ k0, by rw [World.cell?_setCell_other wy _ _ _ (by simp)]; exact k1, by rw [World.cell?_setCell_other wy _ _ _ (by simp)]; exact k2⟩
theorem ReadW.set1 {w : World} {a b c : ByteArray} {x y z : Int} {wy : World} (h : ReadW w a b c x y z wy) (n : Int) : ReadW w a b c x n z (wy.setCell ⟨w.heap.size + 1, 1, none⟩ (.int .i64 n)) := by
  refine h.set ?_
  obtain ⟨k0, k1, k2⟩ := h.2.2.1.1
  exact ⟨by rw [World.cell?_setCell_other wy _ _ _ (by simp)]; exact k0, World.cell?_setCell_same wy _ _ k1, by rw [World.cell?_setCell_other wy _ _ _ (by simp)]; exact k2⟩
theorem ReadW.set2 {w : World} {a b c : ByteArray} {x y z : Int} {wy : World} (h : ReadW w a b c x y z wy) (n : Int) : ReadW w a b c x y n (wy.setCell ⟨w.heap.size + 1, 2, none⟩ (.int .i64 n)) := by
  refine h.set ?_
  obtain ⟨k0, k1, k2⟩ := h.2.2.1.1
  exact ⟨by rw [World.cell?_setCell_other wy _ _ _ (by simp)]; exact k0, by rw [World.cell?_setCell_other wy _ _ _ (by simp)]; exact k1, World.cell?_setCell_same wy _ _ k2⟩

set_option maxHeartbeats 1000000 in
theorem implReadEdition (s : ByteArray) (w : World) (hs : s.size ≤ 1048576) (hl : Laid w) :
    Calls Tryz.prog 68 #[.string s] w fun r w' => r = .returned (.tuple #[edV (M.edRead s.data.toList).1, .bool (M.edRead s.data.toList).2]) ∧ Below w.heap.size w w' := by
  have b0 : Below w.heap.size w ((w.alloc (.cells #[.int .i64 0, .int .i64 0, .int .i64 0] 25)).alloc (.cells #[.int .i64 0, .int .i64 0, .int .i64 0] 97)) := ((Below.refl _ _).alloc (Nat.le_refl _) _).alloc (by simp) _
  have hl0 := (hl.alloc (.cells #[.int .i64 0, .int .i64 0, .int .i64 0] 25)).alloc (.cells #[.int .i64 0, .int .i64 0, .int .i64 0] 97)
  rcases M.cut3 s.data.toList with ⟨la, lb, lc, hcut, ha, hb, hk⟩ | ⟨hn, hk⟩
  · have he := M.edRead_cut hcut ha hb
    have hm := splitB_list s
    rw [hk] at hm
    obtain ⟨a, b, c, hB, rfl, rfl, rfl⟩ : ∃ a b c : ByteArray, Lib.splitB ⟨#[46]⟩ 0 (min 3 (s.size + 1) - 1) s = [a, b, c] ∧ a.data.toList = la ∧ b.data.toList = lb ∧ c.data.toList = lc := by
      match hq : Lib.splitB ⟨#[46]⟩ 0 (min 3 (s.size + 1) - 1) s, hm with
      | [a, b, c], hm => simp at hm; exact ⟨a, b, c, rfl, hm.1, hm.2.1, hm.2.2⟩
      | [], hm => simp at hm
      | [_], hm => simp at hm
      | [_, _], hm => simp at hm
      | _ :: _ :: _ :: _ :: _, hm => simp at hm
    have hlen := congrArg List.length hcut
    rw [M.len0] at hlen
    simp at hlen
    have sa : a.size ≤ 1048576 := by have : a.size = a.data.size := rfl
                                     omega
    have sb : b.size ≤ 1048576 := by have : b.size = b.data.size := rfl
                                     omega
    have sc : c.size ≤ 1048576 := by have : c.size = c.data.size := rfl
                                     omega
    have HB := Lib.hid hB
    clear hk hm hB hcut hlen ha hb
    go_enter Tryz.func68, Tryz.ntmps68
    go_wp2_with fail
    refine (splitN_three s a b c _ hs hl0 HB.out).mono ?_
    rintro r w1 ⟨rfl, rfl⟩
    have HQ := Lib.hid he
    clear he
    have w0 : ReadW w a b c 0 0 0 (((w.alloc (.cells #[.int .i64 0, .int .i64 0, .int .i64 0] 25)).alloc (.cells #[.int .i64 0, .int .i64 0, .int .i64 0] 97)).alloc (.cells #[.string a, .string b, .string c] 9)) := by
      have r1 : Room ((w.alloc (.cells #[.int .i64 0, .int .i64 0, .int .i64 0] 25)).alloc (.cells #[.int .i64 0, .int .i64 0, .int .i64 0] 97)) (w.heap.size + 1) := by simpa using room_new (w.alloc (.cells #[.int .i64 0, .int .i64 0, .int .i64 0] 25)) (.int .i64 0) (.int .i64 0) (.int .i64 0) 97
      have t1 : Three ((w.alloc (.cells #[.int .i64 0, .int .i64 0, .int .i64 0] 25)).alloc (.cells #[.int .i64 0, .int .i64 0, .int .i64 0] 97)) (w.heap.size + 1) ⟨0, 0, 0⟩ := by simpa using three_new (w.alloc (.cells #[.int .i64 0, .int .i64 0, .int .i64 0] 25)) ⟨0, 0, 0⟩ 97
      refine ⟨b0.alloc b0.size _, ⟨((three_new w ⟨0, 0, 0⟩ 25).alloc _).alloc _, ((room_new w (.int .i64 0) (.int .i64 0) (.int .i64 0) 25).later (Below.heap_alloc _ _ _ (by simp))).later (Below.heap_alloc _ _ _ (by simp; omega))⟩, ⟨t1.alloc _, r1.later (Below.heap_alloc _ _ _ (by simp))⟩, ?_, ?_, ?_⟩ <;> simp [go_sem]
    go_wp2
    go_loopw [19] (fun i wy => ∃ x y z : Int, ReadW w a b c x y z wy ∧ (i = .int .i64 0 ∨ (i = .int .i64 1 ∧ (M.rd a.data.toList).2 = true ∧ x = (M.rd a.data.toList).1) ∨ (i = .int .i64 2 ∧ (M.rd a.data.toList).2 = true ∧ (M.rd b.data.toList).2 = true ∧ x = (M.rd a.data.toList).1 ∧ y = (M.rd b.data.toList).1) ∨
      (i = .int .i64 3 ∧ (M.rd a.data.toList).2 = true ∧ (M.rd b.data.toList).2 = true ∧ (M.rd c.data.toList).2 = true ∧ x = (M.rd a.data.toList).1 ∧ y = (M.rd b.data.toList).1 ∧ z = (M.rd c.data.toList).1))) (fun i _ => 3 - (intOf i).toNat)
    case atStart => exact ⟨0, 0, 0, w0, .inl rfl⟩
    case round =>
      obtain ⟨x, y, z, hw, hi⟩ := hrel
      have HW := Lib.hid hw
      clear hw w0 hl0 b0
      rcases hi with rfl | ⟨rfl, ha, rfl⟩ | ⟨rfl, ha, hb, rfl, rfl⟩ | ⟨rfl, ha, hb, hc, rfl, rfl, rfl⟩
      · obtain ⟨bb, ⟨⟨d0, d1, d2⟩, -, g0, g1, g2⟩, ⟨⟨m0, m1, m2⟩, -, n0, n1, n2⟩, k0, k1, k2⟩ := HW.out
        clear d0 d1 d2 g0 g1 g2 m0 m1 m2 n0 n1 n2
        rcases hr : (M.rd a.data.toList).2 with _ | _
        · have HF : Hid (M.edRead s.data.toList = (⟨0, 0, 0⟩, false)) := Lib.hid (by rw [HQ.out]; simp [hr])
          go_wp2_with fail
          refine (implReadNumber a _ sa (hl.below bb)).mono ?_
          rintro r w1 ⟨he, b1⟩
          rw [hr] at he
          obtain rfl := he
          obtain ⟨bb1, ⟨⟨d0, d1, d2⟩, -, g0, g1, g2⟩, -⟩ := HW.out.later b1
          clear k0 k1 k2
          go_wp2
          exact bodyPost_ret (v := .tuple #[.agg #[.int .i64 0, .int .i64 0, .int .i64 0], .bool false]) (by simp [results, Tryz.results68, go_sem, d0, d1, d2]) rfl ⟨ret_ed HF.out, set3 bb1 _ _ _⟩
        · go_wp2_with fail
          refine (implReadNumber a _ sa (hl.below bb)).mono ?_
          rintro r w1 ⟨he, b1⟩
          rw [hr] at he
          obtain rfl := he
          have HW1 := Lib.hid (HW.out.later b1)
          obtain ⟨bb1, -, ⟨⟨m0, m1, m2⟩, -, n0, n1, n2⟩, -⟩ := HW1.out
          clear k0 k1 k2
          go_wp2
          go_roundw
          case rel => exact ⟨_, _, _, HW1.out.set0 _, .inr (.inl ⟨rfl, by trivial, rfl⟩)⟩
          case measure => simp [intOf]
      · obtain ⟨bb, ⟨⟨d0, d1, d2⟩, -, g0, g1, g2⟩, ⟨⟨m0, m1, m2⟩, -, n0, n1, n2⟩, k0, k1, k2⟩ := HW.out
        clear d0 d1 d2 g0 g1 g2 m0 m1 m2 n0 n1 n2
        rcases hr : (M.rd b.data.toList).2 with _ | _
        · have HF : Hid (M.edRead s.data.toList = (⟨0, 0, 0⟩, false)) := Lib.hid (by rw [HQ.out]; simp [hr])
          go_wp2_with fail
          refine (implReadNumber b _ sb (hl.below bb)).mono ?_
          rintro r w1 ⟨he, b1⟩
          rw [hr] at he
          obtain rfl := he
          obtain ⟨bb1, ⟨⟨d0, d1, d2⟩, -, g0, g1, g2⟩, -⟩ := HW.out.later b1
          clear k0 k1 k2
          go_wp2
          exact bodyPost_ret (v := .tuple #[.agg #[.int .i64 0, .int .i64 0, .int .i64 0], .bool false]) (by simp [results, Tryz.results68, go_sem, d0, d1, d2]) rfl ⟨ret_ed HF.out, set3 bb1 _ _ _⟩
        · go_wp2_with fail
          refine (implReadNumber b _ sb (hl.below bb)).mono ?_
          rintro r w1 ⟨he, b1⟩
          rw [hr] at he
          obtain rfl := he
          have HW1 := Lib.hid (HW.out.later b1)
          obtain ⟨bb1, -, ⟨⟨m0, m1, m2⟩, -, n0, n1, n2⟩, -⟩ := HW1.out
          clear k0 k1 k2
          go_wp2
          go_roundw
          case rel => exact ⟨_, _, _, HW1.out.set1 _, .inr (.inr (.inl ⟨rfl, ha, by trivial, rfl, rfl⟩))⟩
          case measure => simp [intOf]
      · obtain ⟨bb, ⟨⟨d0, d1, d2⟩, -, g0, g1, g2⟩, ⟨⟨m0, m1, m2⟩, -, n0, n1, n2⟩, k0, k1, k2⟩ := HW.out
        clear d0 d1 d2 g0 g1 g2 m0 m1 m2 n0 n1 n2
        rcases hr : (M.rd c.data.toList).2 with _ | _
        · have HF : Hid (M.edRead s.data.toList = (⟨0, 0, 0⟩, false)) := Lib.hid (by rw [HQ.out]; simp [hr])
          go_wp2_with fail
          refine (implReadNumber c _ sc (hl.below bb)).mono ?_
          rintro r w1 ⟨he, b1⟩
          rw [hr] at he
          obtain rfl := he
          obtain ⟨bb1, ⟨⟨d0, d1, d2⟩, -, g0, g1, g2⟩, -⟩ := HW.out.later b1
          clear k0 k1 k2
          go_wp2
          exact bodyPost_ret (v := .tuple #[.agg #[.int .i64 0, .int .i64 0, .int .i64 0], .bool false]) (by simp [results, Tryz.results68, go_sem, d0, d1, d2]) rfl ⟨ret_ed HF.out, set3 bb1 _ _ _⟩
        · go_wp2_with fail
          refine (implReadNumber c _ sc (hl.below bb)).mono ?_
          rintro r w1 ⟨he, b1⟩
          rw [hr] at he
          obtain rfl := he
          have HW1 := Lib.hid (HW.out.later b1)
          obtain ⟨bb1, -, ⟨⟨m0, m1, m2⟩, -, n0, n1, n2⟩, -⟩ := HW1.out
          clear k0 k1 k2
          go_wp2
          go_roundw
          case rel => exact ⟨_, _, _, HW1.out.set2 _, .inr (.inr (.inr ⟨rfl, ha, hb, by trivial, rfl, rfl, rfl⟩))⟩
          case measure => simp [intOf]
      · obtain ⟨bb, -, ⟨⟨m0, m1, m2⟩, -⟩, -⟩ := HW.out
        rcases hk : M.edOk ⟨(M.rd a.data.toList).1, (M.rd b.data.toList).1, (M.rd c.data.toList).1⟩ with _ | _
        · have HF : Hid (M.edRead s.data.toList = (⟨0, 0, 0⟩, false)) := Lib.hid (by rw [HQ.out]; simp [hk])
          go_wp2_with fail
          refine (implEditionOk ⟨(M.rd a.data.toList).1, (M.rd b.data.toList).1, (M.rd c.data.toList).1⟩ _).mono ?_
          rintro r w1 ⟨he, b1⟩
          rw [hk] at he
          obtain rfl := he
          obtain ⟨bb1, ⟨⟨d0, d1, d2⟩, -, g0, g1, g2⟩, -⟩ := HW.out.later (next ((Below.refl _ _).alloc (Nat.le_refl _) _) b1)
          clear m0 m1 m2
          go_wp2
          exact bodyPost_ret (v := .tuple #[.agg #[.int .i64 0, .int .i64 0, .int .i64 0], .bool false]) (by simp [results, Tryz.results68, go_sem, d0, d1, d2]) rfl ⟨ret_ed HF.out, set3 bb1 _ _ _⟩
        · have HF : Hid (M.edRead s.data.toList = (⟨(M.rd a.data.toList).1, (M.rd b.data.toList).1, (M.rd c.data.toList).1⟩, true)) := Lib.hid (by rw [HQ.out]; simp [hk, ha, hb, hc])
          go_wp2_with fail
          refine (implEditionOk ⟨(M.rd a.data.toList).1, (M.rd b.data.toList).1, (M.rd c.data.toList).1⟩ _).mono ?_
          rintro r w1 ⟨he, b1⟩
          rw [hk] at he
          obtain rfl := he
          obtain ⟨bb1, ⟨⟨d0, d1, d2⟩, -, g0, g1, g2⟩, -⟩ := HW.out.later (next ((Below.refl _ _).alloc (Nat.le_refl _) _) b1)
          obtain ⟨q0, q1, q2⟩ := (three_new wr ⟨(M.rd a.data.toList).1, (M.rd b.data.toList).1, (M.rd c.data.toList).1⟩ 25).below b1
          clear m0 m1 m2
          go_wp2
          exact bodyPost_ret (v := .tuple #[.agg #[.int .i64 (M.rd a.data.toList).1, .int .i64 (M.rd b.data.toList).1, .int .i64 (M.rd c.data.toList).1], .bool true]) (by simp [results, Tryz.results68, go_sem, d0, d1, d2]) rfl ⟨ret_ed HF.out, set3 bb1 _ _ _⟩
  · have HE : Hid (M.edRead s.data.toList = (⟨0, 0, 0⟩, false)) := Lib.hid (edRead_other hn)
    have HK : Hid ((Lib.splitB ⟨#[46]⟩ 0 (min 3 (s.size + 1) - 1) s).length ≠ 3) := Lib.hid (by rw [← splitB_list] at hk; simpa using hk)
    clear hn hk
    go_enter Tryz.func68, Tryz.ntmps68
    go_wp2_with fail
    refine (splitN_other s _ hs hl0 HK.out).mono ?_
    rintro r w1 ⟨n, cap, hn, rfl, b1⟩
    obtain ⟨⟨d0, d1, d2⟩, g0, g1, g2⟩ := zero_box b1
    go_wp2
    exact bodyPost_ret (v := .tuple #[.agg #[.int .i64 0, .int .i64 0, .int .i64 0], .bool false]) (by simp [results, Tryz.results68, go_sem, d0, d1, d2]) rfl ⟨ret_ed HE.out, set3 (next b0 b1) _ _ _⟩
end Go.Proofs.YtiibklhalgookaaGreatDoor
