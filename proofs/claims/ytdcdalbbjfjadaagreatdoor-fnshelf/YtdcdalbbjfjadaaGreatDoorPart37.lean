/- Proved, in parts: Proved: the program's ShowEdition answers the same plain Lean function as the model's, at every edition; it writes nothing that was there. No condition. -/
import Derived.Test.YtdcdalbbjfjadaaGreatDoorPart36
import Derived.Test.YtdcdalbbjfjadaaGreatDoorPart04
import Derived.Test.YtdcdalbbjfjadaaGreatDoorPart02
namespace Go.Proofs.YtdcdalbbjfjadaaGreatDoor
open Go.RowKit
set_option maxRecDepth 20000

abbrev tx (n : Int) : ByteArray := ⟨(M.intText n).toArray⟩
theorem join3 (a b c : ByteArray) (l : List UInt8) (h : a.data.toList ++ ([46] ++ (b.data.toList ++ ([46] ++ c.data.toList))) = l) : Lib.join ([a, b, c].map (·.data.toList)) [46] = l := by
  rw [← h]; simp [Lib.join, List.intercalate]

theorem joinDots (bk : Nat) (a b c : ByteArray) (l : List UInt8) (w : World) (h0 : w.cell? ⟨bk, 0, none⟩ = some (.string a)) (h1 : w.cell? ⟨bk, 1, none⟩ = some (.string b)) (h2 : w.cell? ⟨bk, 2, none⟩ = some (.string c))
    (hl : a.data.toList ++ ([46] ++ (b.data.toList ++ ([46] ++ c.data.toList))) = l) (hlen : l.length ≤ 1000) :
    Calls Tryz.prog 39 #[.slice (some ⟨bk, 0, none⟩) 3 3, .string ⟨#[46]⟩] w fun e w' => e = .returned (strOf l) ∧ Below w.heap.size w w' := by
  have hj : Lib.join ([a, b, c].map (·.data.toList)) (⟨#[46]⟩ : ByteArray).data.toList = l := join3 a b c l hl
  have h := Tryz.strings_Join bk 0 3 [a, b, c] ⟨#[46]⟩ w (by
    intro j x hx
    match j, hx with
    | 0, hx => simp at hx; subst hx; exact h0
    | 1, hx => simp at hx; subst hx; exact h1
    | 2, hx => simp at hx; subst hx; exact h2
    | j + 3, hx => simp at hx) (World.block_lt_of_cell? w _ h0) (by simp) (by simp) (by rw [hj]; omega)
  rw [hj] at h
  exact h

theorem make3 (w : World) : (Instr.makeSlice 66 (.int .i64 3) (.int .i64 3)).run Tryz.prog w = .ok (.slice (some ⟨w.heap.size, 0, none⟩) 3 3) (w.alloc (.cells #[.string ⟨#[]⟩, .string ⟨#[]⟩, .string ⟨#[]⟩] 9)) := by kernel_rfl

set_option maxHeartbeats 1000000 in
theorem implShowEdition (e : M.Ed) (w : World) :
    Calls Tryz.prog 101 #[edV e] w fun r w' => r = .returned (strOf (M.edShow e)) ∧ Below w.heap.size w w' := by
  have b0 : Below w.heap.size w (w.alloc (.cells #[.int .i64 e.ma, .int .i64 e.mi, .int .i64 e.pa] 26)) := (Below.refl _ _).alloc (Nat.le_refl _) _
  rcases h : M.edOk e with _ | _
  · have HE : Hid (M.edShow e = []) := Lib.hid (by simp [M.edShow, h])
    go_enter Tryz.func101, Tryz.ntmps101
    go_wp2_with fail
    refine (implEditionOk e _).mono ?_
    rintro r w1 ⟨rfl, b1⟩
    go_wp2
    go_ret
    exact ⟨ret_ba (by rw [HE.out]), next b0 b1⟩
  · have HE : Hid (M.edShow e = M.edText e) := Lib.hid (by simp [M.edShow, h])
    have hb : (0 ≤ e.ma ∧ e.ma ≤ 99) ∧ (0 ≤ e.mi ∧ e.mi ≤ 99) ∧ (0 ≤ e.pa ∧ e.pa ≤ 99) := by
      simp [M.edOk, M.inI] at h; omega
    obtain ⟨⟨h1, h2⟩, ⟨h3, h4⟩, h5, h6⟩ := hb
    have p0 := fun w => (part_at e.ma e.mi e.pa w).1
    have p1 := fun w => (part_at e.ma e.mi e.pa w).2.1
    have p2 := fun w => (part_at e.ma e.mi e.pa w).2.2
    go_enter Tryz.func101, Tryz.ntmps101
    go_wp2_with fail
    refine (implEditionOk e _).mono ?_
    rintro r w1 ⟨rfl, b1⟩
    obtain ⟨c1, f1⟩ := bcell b1
    go_wp2_with fail
    refine (partsOf_any e _).mono ?_
    rintro r w2 ⟨rfl, b2⟩
    have bb := (next (next b0 b1) b2).alloc (next (next b0 b1) b2).size (.cells #[.int .i64 e.ma, .int .i64 e.mi, .int .i64 e.pa] 151)
    clear b0 b1 b2 c1 f1
    have mk := make3
    go_wp2
    go_loopw [14] (fun i wy => (i = .int .i64 0 ∧ wy = (w2.alloc (.cells #[.int .i64 e.ma, .int .i64 e.mi, .int .i64 e.pa] 151)).alloc (.cells #[.string ⟨#[]⟩, .string ⟨#[]⟩, .string ⟨#[]⟩] 9)) ∨ (i = .int .i64 1 ∧ wy = (w2.alloc (.cells #[.int .i64 e.ma, .int .i64 e.mi, .int .i64 e.pa] 151)).alloc (.cells #[.string (tx e.ma), .string ⟨#[]⟩, .string ⟨#[]⟩] 9)) ∨
      (i = .int .i64 2 ∧ wy = (w2.alloc (.cells #[.int .i64 e.ma, .int .i64 e.mi, .int .i64 e.pa] 151)).alloc (.cells #[.string (tx e.ma), .string (tx e.mi), .string ⟨#[]⟩] 9)) ∨ (i = .int .i64 3 ∧ wy = (w2.alloc (.cells #[.int .i64 e.ma, .int .i64 e.mi, .int .i64 e.pa] 151)).alloc (.cells #[.string (tx e.ma), .string (tx e.mi), .string (tx e.pa)] 9))) (fun i _ => 3 - (intOf i).toNat)
    case atStart => exact .inl ⟨rfl, rfl⟩
    case round =>
      rcases hrel with ⟨rfl, rfl⟩ | ⟨rfl, rfl⟩ | ⟨rfl, rfl⟩ | ⟨rfl, rfl⟩
      · go_wp2_with fail
        refine (formatInt_small e.ma h1 h2 _).mono ?_
        rintro r w' ⟨rfl, rfl⟩
        go_wp2
        go_roundw
        case rel => exact .inr (.inl ⟨rfl, by trivial⟩)
        case measure => simp [intOf]
      · go_wp2_with fail
        refine (formatInt_small e.mi h3 h4 _).mono ?_
        rintro r w' ⟨rfl, rfl⟩
        go_wp2
        go_roundw
        case rel => exact .inr (.inr (.inl ⟨rfl, by trivial⟩))
        case measure => simp [intOf]
      · go_wp2_with fail
        refine (formatInt_small e.pa h5 h6 _).mono ?_
        rintro r w' ⟨rfl, rfl⟩
        go_wp2
        go_roundw
        case rel => exact .inr (.inr (.inr ⟨rfl, by trivial⟩))
        case measure => simp [intOf]
      · have hlen := M.edText_len e h
        go_wp2_with fail
        refine (joinDots (w2.heap.size + 1) (tx e.ma) (tx e.mi) (tx e.pa) (M.edText e) _ (by simp [go_sem]) (by simp [go_sem]) (by simp [go_sem]) rfl (by omega)).mono ?_
        rintro r w3 ⟨rfl, b3⟩
        go_wp2
        go_ret
        exact ⟨ret_ba (by rw [HE.out]), next (bb.alloc bb.size _) b3⟩
end Go.Proofs.YtdcdalbbjfjadaaGreatDoor
