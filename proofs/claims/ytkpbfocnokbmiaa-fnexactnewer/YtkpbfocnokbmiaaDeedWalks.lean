/- Proved: the functions on deeds that tell whether one is right, of the program and of its model, answer one plain Lean function at every deed; they write nothing that was there. Condition: texts of at most maxLen bytes. -/
import Derived.Test.YtkpbfocnokbmiaaNameWalks
import Derived.Test.YtkpbfocnokbmiaaEdImpl
import Derived.Test.YtkpbfocnokbmiaaDeedDefs
import Derived.Test.YtkpbfocnokbmiaaBoxes
namespace Go.Proofs.Ytkpbfocnokbmiaa
open Go.RowKit
set_option maxRecDepth 20000

abbrev ddC (d : M.Dd) : Array Value := #[.int .i64 d.kind, .string d.name, .int .i64 d.ed.ma, .int .i64 d.ed.mi, .int .i64 d.ed.pa, .string d.page, .int .i64 d.who]
abbrev ddV (d : M.Dd) : Value := .agg #[.int .i64 d.kind, .string d.name, .int .i64 d.ed.ma, .int .i64 d.ed.mi, .int .i64 d.ed.pa, .string d.page, .int .i64 d.who]
abbrev zC : Array Value := #[.int .i64 0, .string ⟨#[]⟩, .int .i64 0, .int .i64 0, .int .i64 0, .string ⟨#[]⟩, .int .i64 0]

theorem far {w w1 : World} {B g : Nat} (h : Below B w w1) (hg : B ≤ g) (j : Nat) (v : Value) : Below B w (w1.setCell ⟨g, j, none⟩ v) := h.setCell hg v

theorem toEdition_at (e : M.Ed) (w : World) :
    Calls Try.prog 122 #[edV e] w fun r w' => r = .returned (edV e) ∧ w' = ((w.alloc (.cells #[.int .i64 e.ma, .int .i64 e.mi, .int .i64 e.pa] 104)).alloc (.cells #[.int .i64 e.ma, .int .i64 e.mi, .int .i64 e.pa] 31)).alloc (.cells #[.int .i64 e.ma, .int .i64 e.mi, .int .i64 e.pa] 31) := by
  go_enter Try.func122, Try.ntmps122
  go_wp2
  exact bodyPost_ret (v := edV e) (by simp [results, Try.results122, go_sem]) rfl ⟨rfl, rfl⟩

set_option maxHeartbeats 1000000 in
theorem toDeed_any (d : M.Dd) (w : World) :
    Calls Try.prog 111 #[ddV d] w fun r w' => r = .returned (ddV d) ∧ Below w.heap.size w w' := by
  go_enter Try.func111, Try.ntmps111
  go_wp2_with fail
  refine (toEdition_at d.ed _).mono ?_
  rintro r w1 ⟨rfl, rfl⟩
  go_wp2
  refine bodyPost_ret (v := ddV d) (by simp [results, Try.results111, go_sem]) rfl ⟨rfl, ?_⟩
  repeat (first | exact Below.refl _ _ | refine Below.alloc ?_ (by simp <;> omega) _)

theorem l3Who_any (n : Int) (w : World) : Calls Try.prog 121 #[.int .i64 n] w fun e w' => e = .returned (.bool (M.inI n 0 3)) ∧ w = w' := by
  go_enter Try.func121, Try.ntmps121
  go_wp2_with fail
  refine (in_i _ _ _ _).mono ?_
  rintro e w' ⟨rfl, rfl⟩
  go_wp2
  go_ret
  exact ⟨rfl, rfl⟩
theorem whoOk_any (n : Int) (w : World) : Calls Try.prog 115 #[.int .i64 n] w fun e w' => e = .returned (.bool (M.inI n 0 3)) ∧ w = w' := by
  by_cases h1 : 0 ≤ n
  · go_enter Try.func115, Try.ntmps115
    go_wp2
    go_ret
    exact ⟨by simp [M.inI, h1], rfl⟩
  · go_enter Try.func115, Try.ntmps115
    go_wp2
    go_ret
    exact ⟨by simp [M.inI]; omega, rfl⟩

set_option maxHeartbeats 1000000 in
theorem szDeed_small (d : M.Dd) (w : World) (h : d.name.size + d.page.size ≤ 1048576) :
    Calls Try.prog 110 #[ddV d, .int .i64 1048576] w fun r w' => (∃ n : Nat, r = .returned (.int .i64 n)) ∧ Below w.heap.size w w' := by
  go_enter Try.func110, Try.ntmps110
  go_wp2
  go_ret
  exact ⟨⟨1048576 - d.name.size - d.page.size, ret_int (by omega)⟩, (Below.refl _ _).alloc (Nat.le_refl _) _⟩
set_option maxHeartbeats 1000000 in
theorem szDeed_big (d : M.Dd) (w : World) (hn : d.name.size ≤ maxLen) (hp : d.page.size ≤ maxLen) (h : 1048576 < d.name.size + d.page.size) :
    Calls Try.prog 110 #[ddV d, .int .i64 1048576] w fun r w' => r = .returned (.int .i64 (-1)) ∧ Below w.heap.size w w' := by
  unfold maxLen at hn hp
  by_cases h1 : 1048576 < d.name.size
  · go_enter Try.func110, Try.ntmps110
    go_wp2
    go_ret
    exact ⟨rfl, (Below.refl _ _).alloc (Nat.le_refl _) _⟩
  · go_enter Try.func110, Try.ntmps110
    go_wp2
    go_ret
    exact ⟨rfl, (Below.refl _ _).alloc (Nat.le_refl _) _⟩

theorem no_text {s : ByteArray} (h : s.size = 0) : (s.toList == []) = true ∧ (s.toList != []) = false := by
  have e : s.toList = [] := by rw [ByteArray.toList_eq]; exact List.eq_nil_of_length_eq_zero (by simpa using h)
  rw [e]; exact ⟨rfl, rfl⟩
theorem some_text {s : ByteArray} (h : s.size ≠ 0) : (s.toList == []) = false ∧ (s.toList != []) = true := by
  have e : s.toList ≠ [] := by rw [ByteArray.toList_eq]; intro e; exact h (by have := congrArg List.length e; simpa using this)
  exact ⟨by simpa using e, by simpa using e⟩

set_option maxHeartbeats 1000000 in
theorem specDeedOk (d : M.Dd) (w : World) (hn : d.name.size ≤ maxLen) (hp : d.page.size ≤ maxLen) :
    Calls Try.prog 106 #[ddV d] w fun r w' => r = .returned (.bool (M.deedOk d)) ∧ Below w.heap.size w w' := by
  have b0 : Below w.heap.size w (w.alloc (.cells (ddC d) 33)) := (Below.refl _ _).alloc (Nat.le_refl _) _
  have h0 := holds_new w (ddC d) 33
  rcases h1 : M.nameOk d.name.data.toList with _ | _
  · have HE : Hid (M.deedOk d = false) := Lib.hid (by simp [M.deedOk, h1])
    clear h0
    go_enter Try.func106, Try.ntmps106
    go_wp2_with fail
    refine (specNameOk d.name _ hn).mono ?_
    rintro r w1 ⟨rfl, rfl⟩
    go_wp2
    go_ret
    exact ⟨ret_bool HE.out.symm, b0⟩
  · rcases h2 : M.edOk d.ed with _ | _
    · have HE : Hid (M.deedOk d = false) := Lib.hid (by simp [M.deedOk, h2])
      clear h0
      go_enter Try.func106, Try.ntmps106
      go_wp2_with fail
      refine (specNameOk d.name _ hn).mono ?_
      rintro r w1 ⟨rfl, rfl⟩
      go_wp2_with fail
      refine (specEditionOk d.ed _).mono ?_
      rintro r w1 ⟨rfl, b1⟩
      go_wp2
      go_ret
      exact ⟨ret_bool HE.out.symm, next b0 b1⟩
    · go_enter Try.func106, Try.ntmps106
      go_wp2_with fail
      refine (specNameOk d.name _ hn).mono ?_
      rintro r w1 ⟨rfl, rfl⟩
      go_wp2_with fail
      refine (specEditionOk d.ed _).mono ?_
      rintro r w1 ⟨rfl, b1⟩
      replace h0 := h0.below b1
      obtain ⟨p0, p1, p2, p3, p4, p5, p6⟩ := h0.seven
      have bb := next b0 b1
      clear b0 b1 h0
      rcases h3 : M.pageOk d.page.data.toList with _ | _
      · have HE : Hid (M.deedOk d = false) := Lib.hid (by simp [M.deedOk, h3])
        go_wp2_with fail
        refine (specPageOk d.page _ hp).mono ?_
        rintro r w2 ⟨rfl, rfl⟩
        go_wp2
        go_ret
        exact ⟨ret_bool HE.out.symm, bb⟩
      · rcases h4 : M.inI d.who 0 3 with _ | _
        · have HE : Hid (M.deedOk d = false) := Lib.hid (by simp [M.deedOk, h4])
          go_wp2_with fail
          refine (specPageOk d.page _ hp).mono ?_
          rintro r w2 ⟨rfl, rfl⟩
          go_wp2_with fail
          refine (l3Who_any d.who _).mono ?_
          rintro r w2 ⟨rfl, rfl⟩
          go_wp2
          go_ret
          exact ⟨ret_bool HE.out.symm, bb⟩
        · go_wp2_with fail
          refine (specPageOk d.page _ hp).mono ?_
          rintro r w2 ⟨rfl, rfl⟩
          go_wp2_with fail
          refine (l3Who_any d.who _).mono ?_
          rintro r w2 ⟨rfl, rfl⟩
          by_cases k2 : d.kind = 2
          · have HE : Hid (M.deedOk d = M.inI d.kind 2 4) := Lib.hid (by simp [M.deedOk, h1, h2, h3, h4, k2])
            have k2' : (d.kind != 2) = false := by simpa using k2
            have k1' : (d.kind == 1) = false := by simp [k2]
            have k5' : (d.kind == 5) = false := by simp [k2]
            have k6' : (d.kind == 6) = false := by simp [k2]
            clear k2
            go_wp2_with fail
            refine (in_i _ _ _ _).mono ?_
            rintro e w' ⟨rfl, rfl⟩
            go_wp2
            go_ret
            exact ⟨ret_bool HE.out.symm, bb⟩
          · have k2' : (d.kind != 2) = true := by simpa using k2
            by_cases hz : d.page.size = 0
            · have hz' := no_text hz
              by_cases k1 : d.kind = 1
              · have HE : Hid (M.deedOk d = decide (d.ed = M.zeroEd)) := Lib.hid (by simp [M.deedOk, h1, h2, h3, h4, k1, hz])
                have k1' : (d.kind == 1) = true := by simp [k1]
                clear k1 k2 hz
                go_wp2
                all_goals
                  go_ret
                  exact ⟨ret_bool (by rw [HE.out]; simp [M.ed_ext, M.zeroEd, *]), bb⟩
              · have k1' : (d.kind == 1) = false := by simpa using k1
                by_cases k5 : d.kind = 5
                · have HE : Hid (M.deedOk d = decide (d.who = 0)) := Lib.hid (by simp [M.deedOk, h1, h2, h3, h4, k5, hz])
                  have k5' : (d.kind == 5) = true := by simp [k5]
                  clear k1 k2 k5 hz
                  go_wp2
                  go_ret
                  exact ⟨ret_bool (by rw [HE.out]; rfl), bb⟩
                · have k5' : (d.kind == 5) = false := by simpa using k5
                  by_cases k6 : d.kind = 6
                  · have HE : Hid (M.deedOk d = (decide (d.ed.mi = 0) && decide (d.ed.pa = 0))) := Lib.hid (by simp [M.deedOk, h1, h2, h3, h4, k6, hz])
                    have k6' : (d.kind == 6) = true := by simp [k6]
                    clear k1 k2 k5 k6 hz
                    go_wp2
                    all_goals
                      go_ret
                      exact ⟨ret_bool (by rw [HE.out]; simp [*] <;> rfl), bb⟩
                  · have HE : Hid (M.deedOk d = M.inI d.kind 2 4) := Lib.hid (by simp [M.deedOk, h1, h2, h3, h4, k1, k5, k6, hz])
                    have k6' : (d.kind == 6) = false := by simpa using k6
                    clear k1 k2 k5 k6 hz
                    go_wp2_with fail
                    refine (in_i _ _ _ _).mono ?_
                    rintro e w' ⟨rfl, rfl⟩
                    go_wp2
                    go_ret
                    exact ⟨ret_bool HE.out.symm, bb⟩
            · have HE : Hid (M.deedOk d = false) := Lib.hid (by simp [M.deedOk, k2, hz])
              have hz' := some_text hz
              clear k2 hz
              go_wp2
              go_ret
              exact ⟨ret_bool HE.out.symm, bb⟩
end Go.Proofs.Ytkpbfocnokbmiaa
