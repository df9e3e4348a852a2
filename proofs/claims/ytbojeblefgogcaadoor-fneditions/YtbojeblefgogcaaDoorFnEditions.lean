/- Proved: the law FnEditions returns true at every list of bytes, and the list reads afterwards as before; the variables of the library that the card lists lie as their initialisers lay them. -/
import Derived.Test.YtbojeblefgogcaaDoorShowEd
import Derived.Test.YtbojeblefgogcaaDoorReadEd
import Derived.Test.YtbojeblefgogcaaDoorDrawEdText
import Derived.Test.YtbojeblefgogcaaDoorEqlEd
import Derived.Test.YtbojeblefgogcaaDoorLaidOf
import Derived.Test.YtbojeblefgogcaaDoorCode
import Derived.Test.YtbojeblefgogcaaDoorTie
import Derived.Test.YtbojeblefgogcaaDoorCards
import Derived.Test.YtbojeblefgogcaaDoorShellD
import Derived.Test.YtbojeblefgogcaaDoorShell
import Derived.Lib.SmallJoins
namespace Go.Proofs.YtbojeblefgogcaaDoor.fnEditions
open Go.ChangeShapes Go.WideShapes Go.ChangeAt Go.RowKit Go.Joins Go.Deep
open Go.ChangeMaps (open_string shut_string)
set_option linter.unusedVariables false

set_option maxRecDepth 100000 in
set_option maxHeartbeats 16000000 in
theorem walk (a0 : Option Addr) (len0 cap0 : Nat) (w : World) (hc : CodeOk w.heap.size w a0 len0) (hl : Laid w) :
    Calls Tryd.prog 3 #[.slice a0 len0 cap0] w fun e w' => e = .returned (.bool true) ∧ Below w.heap.size w w' := by
  have HC := Lib.hid hc
  clear hc
  by_cases hbig : 4096 < len0
  · go_enter Tryd.func3, Tryd.ntmps3
    go_wp2_with fail
    refine (big_any a0 len0 cap0 _).mono ?_
    rintro e w' ⟨rfl, rfl⟩
    go_wp2
    go_ret
    exact ⟨rfl, Below.refl _ _⟩
  · have hl4 : len0 ≤ 4096 := by omega
    go_enter Tryd.func3, Tryd.ntmps3
    go_wp2_with fail
    refine (big_any a0 len0 cap0 _).mono ?_
    rintro e w' ⟨rfl, rfl⟩
    go_wp2_with fail
    refine (DrawShowEdition_any _ a0 len0 cap0 hl4 HC.out).mono ?_
    rintro r x1 ⟨e, rfl, b1⟩
    have HC1 := Lib.hid ((HC.out.later b1).alloc (Nat.le_refl _) (.cells #[.int .i64 e.ma, .int .i64 e.mi, .int .i64 e.pa] 25))
    have bb := b1.alloc b1.size (.cells #[.int .i64 e.ma, .int .i64 e.mi, .int .i64 e.pa] 25)
    have te := three_new x1 e 25
    clear HC b1
    go_wp2_with fail
    refine (implShowEdition e _).mono ?_
    rintro r x2 ⟨hr, b2⟩
    obtain rfl : r = .returned (.string ⟨(M.edShow e).toArray⟩) := hr
    have HC2 := Lib.hid ((HC1.out.later' (by simp)).later b2)
    replace bb := next bb b2
    replace te := te.below b2
    clear HC1 b2
    go_wp2_with fail
    refine (DrawReadEdition_any _ a0 len0 cap0 hl4 HC2.out).mono ?_
    rintro r x3 ⟨t, ht0, rfl, b3⟩
    have ht : t.size ≤ 1048576 := by omega
    have HC3 := Lib.hid (HC2.out.later b3)
    replace bb := next bb b3
    replace te := te.below b3
    clear HC2 b3
    go_wp2_with fail
    refine (implReadEdition t _ ht (hl.below bb)).mono ?_
    rintro r x4 ⟨rfl, b4⟩
    have HC4 := Lib.hid ((HC3.out.later b4).alloc (Nat.le_refl _) (.cells #[.int .i64 (M.edRead t.data.toList).1.ma, .int .i64 (M.edRead t.data.toList).1.mi, .int .i64 (M.edRead t.data.toList).1.pa] 25))
    replace bb := (next bb b4).alloc (next bb b4).size (.cells #[.int .i64 (M.edRead t.data.toList).1.ma, .int .i64 (M.edRead t.data.toList).1.mi, .int .i64 (M.edRead t.data.toList).1.pa] 25)
    replace te := (te.below b4).alloc (.cells #[.int .i64 (M.edRead t.data.toList).1.ma, .int .i64 (M.edRead t.data.toList).1.mi, .int .i64 (M.edRead t.data.toList).1.pa] 25)
    have tx := three_new x4 (M.edRead t.data.toList).1 25
    clear HC3 b4
    go_wp2_with fail
    refine (DrawOlder_any _ a0 len0 cap0 hl4 (HC4.out.later' (by simp))).mono ?_
    rintro r x5 ⟨a, b, rfl, b5⟩
    replace bb := ((next bb b5).alloc (next bb b5).size (.cells #[.int .i64 a.ma, .int .i64 a.mi, .int .i64 a.pa] 25)).alloc (by have := (next bb b5).size; simp; omega) (.cells #[.int .i64 b.ma, .int .i64 b.mi, .int .i64 b.pa] 25)
    replace te := ((te.below b5).alloc (.cells #[.int .i64 a.ma, .int .i64 a.mi, .int .i64 a.pa] 25)).alloc (.cells #[.int .i64 b.ma, .int .i64 b.mi, .int .i64 b.pa] 25)
    replace tx := ((tx.below b5).alloc (.cells #[.int .i64 a.ma, .int .i64 a.mi, .int .i64 a.pa] 25)).alloc (.cells #[.int .i64 b.ma, .int .i64 b.mi, .int .i64 b.pa] 25)
    have ta := (three_new x5 a 25).alloc (.cells #[.int .i64 b.ma, .int .i64 b.mi, .int .i64 b.pa] 25)
    have tb := three_new (x5.alloc (.cells #[.int .i64 a.ma, .int .i64 a.mi, .int .i64 a.pa] 25)) b 25
    simp only [World.size_alloc] at tb
    clear HC4 b5
    go_wp2_with fail
    refine (specReadEdition t _ ht).mono ?_
    rintro r x6 ⟨rfl, b6⟩
    replace bb := (next bb b6).alloc (next bb b6).size (.cells #[.int .i64 (M.edRead t.data.toList).1.ma, .int .i64 (M.edRead t.data.toList).1.mi, .int .i64 (M.edRead t.data.toList).1.pa] 25)
    replace te := (te.below b6).alloc (.cells #[.int .i64 (M.edRead t.data.toList).1.ma, .int .i64 (M.edRead t.data.toList).1.mi, .int .i64 (M.edRead t.data.toList).1.pa] 25)
    replace tx := (tx.below b6).alloc (.cells #[.int .i64 (M.edRead t.data.toList).1.ma, .int .i64 (M.edRead t.data.toList).1.mi, .int .i64 (M.edRead t.data.toList).1.pa] 25)
    replace ta := (ta.below b6).alloc (.cells #[.int .i64 (M.edRead t.data.toList).1.ma, .int .i64 (M.edRead t.data.toList).1.mi, .int .i64 (M.edRead t.data.toList).1.pa] 25)
    replace tb := (tb.below b6).alloc (.cells #[.int .i64 (M.edRead t.data.toList).1.ma, .int .i64 (M.edRead t.data.toList).1.mi, .int .i64 (M.edRead t.data.toList).1.pa] 25)
    have ty := three_new x6 (M.edRead t.data.toList).1 25
    clear b6
    obtain ⟨e0, e1, e2⟩ := te
    obtain ⟨r0, r1, r2⟩ := tx
    obtain ⟨m0, m1, m2⟩ := ta
    obtain ⟨n0, n1, n2⟩ := tb
    obtain ⟨y0, y1, y2⟩ := ty
    go_upto_region 9 with (fail)
    go_cut [66] (fun s66 wx => s66 = .bool false ∧ Below w.heap.size w wx ∧ wx.cell? ⟨x1.heap.size, 0, none⟩ = some (.int .i64 e.ma) ∧ wx.cell? ⟨x1.heap.size, 1, none⟩ = some (.int .i64 e.mi) ∧ wx.cell? ⟨x1.heap.size, 2, none⟩ = some (.int .i64 e.pa) ∧ wx.cell? ⟨x4.heap.size, 0, none⟩ = some (.int .i64 (M.edRead t.data.toList).1.ma) ∧ wx.cell? ⟨x4.heap.size, 1, none⟩ = some (.int .i64 (M.edRead t.data.toList).1.mi) ∧ wx.cell? ⟨x4.heap.size, 2, none⟩ = some (.int .i64 (M.edRead t.data.toList).1.pa) ∧ wx.cell? ⟨x5.heap.size, 0, none⟩ = some (.int .i64 a.ma) ∧ wx.cell? ⟨x5.heap.size, 1, none⟩ = some (.int .i64 a.mi) ∧ wx.cell? ⟨x5.heap.size, 2, none⟩ = some (.int .i64 a.pa) ∧ wx.cell? ⟨x5.heap.size + 1, 0, none⟩ = some (.int .i64 b.ma) ∧ wx.cell? ⟨x5.heap.size + 1, 1, none⟩ = some (.int .i64 b.mi) ∧ wx.cell? ⟨x5.heap.size + 1, 2, none⟩ = some (.int .i64 b.pa) ∧ wx.cell? ⟨x6.heap.size, 0, none⟩ = some (.int .i64 (M.edRead t.data.toList).1.ma) ∧ wx.cell? ⟨x6.heap.size, 1, none⟩ = some (.int .i64 (M.edRead t.data.toList).1.mi) ∧ wx.cell? ⟨x6.heap.size, 2, none⟩ = some (.int .i64 (M.edRead t.data.toList).1.pa))
    case first =>
      refine wp_region_seq (fun w' => Below w.heap.size w w' ∧ w'.cell? ⟨x1.heap.size, 0, none⟩ = some (.int .i64 e.ma) ∧ w'.cell? ⟨x1.heap.size, 1, none⟩ = some (.int .i64 e.mi) ∧ w'.cell? ⟨x1.heap.size, 2, none⟩ = some (.int .i64 e.pa) ∧ w'.cell? ⟨x4.heap.size, 0, none⟩ = some (.int .i64 (M.edRead t.data.toList).1.ma) ∧ w'.cell? ⟨x4.heap.size, 1, none⟩ = some (.int .i64 (M.edRead t.data.toList).1.mi) ∧ w'.cell? ⟨x4.heap.size, 2, none⟩ = some (.int .i64 (M.edRead t.data.toList).1.pa) ∧ w'.cell? ⟨x5.heap.size, 0, none⟩ = some (.int .i64 a.ma) ∧ w'.cell? ⟨x5.heap.size, 1, none⟩ = some (.int .i64 a.mi) ∧ w'.cell? ⟨x5.heap.size, 2, none⟩ = some (.int .i64 a.pa) ∧ w'.cell? ⟨x5.heap.size + 1, 0, none⟩ = some (.int .i64 b.ma) ∧ w'.cell? ⟨x5.heap.size + 1, 1, none⟩ = some (.int .i64 b.mi) ∧ w'.cell? ⟨x5.heap.size + 1, 2, none⟩ = some (.int .i64 b.pa) ∧ w'.cell? ⟨x6.heap.size, 0, none⟩ = some (.int .i64 (M.edRead t.data.toList).1.ma) ∧ w'.cell? ⟨x6.heap.size, 1, none⟩ = some (.int .i64 (M.edRead t.data.toList).1.mi) ∧ w'.cell? ⟨x6.heap.size, 2, none⟩ = some (.int .i64 (M.edRead t.data.toList).1.pa)) [(0, true), (1, true), (2, true), (3, true), (4, true), (5, true), (6, true), (7, true), (8, true), (9, true), (10, true), (11, false), (12, true), (13, true), (14, true), (15, true), (17, true), (16, false), (18, false), (19, true), (20, true), (21, true), (22, true), (23, true), (25, true), (26, true), (24, false), (27, false), (28, true), (29, true)] (by kernel_rfl) (by kernel_rfl) (fun _ _ _ _ _ h => h) (by kernel_rfl) (by decide) ?_ ?_
      · ((try dsimp only); (repeat' apply And.intro) <;> first | assumption | (exact Below.drew (by assumption)) | (simp [go_sem]; done))
      clear bb e0 e1 e2 r0 r1 r2 m0 m1 m2 n0 n1 n2 y0 y1 y2
      intro hHeld
      repeat (first
        | (refine seq_skip (by simp only [List.getElem?_toArray, List.getElem?_cons_succ, List.getElem?_cons_zero]; first | done | rfl) (by rfl) ?_; (try simp only [Act.put, List.setIfInBounds_toArray, List.set_cons_zero, List.set_cons_succ]))
        | (refine seq_reads (by simp only [List.getElem?_toArray, List.getElem?_cons_succ, List.getElem?_cons_zero]; first | done | rfl) (by rfl) ?_; apply Exists.intro; apply And.intro; (focus (intro w hSw; (try dsimp only at hSw); go_split_ands; go_simp; (try with_reducible rfl); done)); (try simp only [Act.put, List.setIfInBounds_toArray, List.set_cons_zero, List.set_cons_succ]))
        | (refine seq_pass (by simp only [List.getElem?_toArray, List.getElem?_cons_succ, List.getElem?_cons_zero]; first | done | rfl) (by rfl) hHeld ?_; clear hHeld; intro hHeld; (try simp only [Act.put, List.setIfInBounds_toArray, List.set_cons_zero, List.set_cons_succ]))
        | (refine seq_call (by simp only [List.getElem?_toArray, List.getElem?_cons_succ, List.getElem?_cons_zero]; first | done | rfl) (by rfl) (fun K hK => ?_); go_simp; go_at_call 13; refine (keeps (specShowEdition _ _) (W0 := w) hHeld.1).mono ?_; rintro r w1 ⟨hr, b1, kp⟩; obtain rfl : r = .returned (.string ⟨(M.edShow e).toArray⟩) := hr; go_simp; refine hK.out _ _ ⟨b1, kp _ _ _ hHeld.2.1, kp _ _ _ hHeld.2.2.1, kp _ _ _ hHeld.2.2.2.1, kp _ _ _ hHeld.2.2.2.2.1, kp _ _ _ hHeld.2.2.2.2.2.1, kp _ _ _ hHeld.2.2.2.2.2.2.1, kp _ _ _ hHeld.2.2.2.2.2.2.2.1, kp _ _ _ hHeld.2.2.2.2.2.2.2.2.1, kp _ _ _ hHeld.2.2.2.2.2.2.2.2.2.1, kp _ _ _ hHeld.2.2.2.2.2.2.2.2.2.2.1, kp _ _ _ hHeld.2.2.2.2.2.2.2.2.2.2.2.1, kp _ _ _ hHeld.2.2.2.2.2.2.2.2.2.2.2.2.1, kp _ _ _ hHeld.2.2.2.2.2.2.2.2.2.2.2.2.2.1, kp _ _ _ hHeld.2.2.2.2.2.2.2.2.2.2.2.2.2.2.1, kp _ _ _ hHeld.2.2.2.2.2.2.2.2.2.2.2.2.2.2.2⟩ ?_; clear hHeld kp b1 hK; intro hHeld; (try simp only [Act.put, List.setIfInBounds_toArray, List.set_cons_zero, List.set_cons_succ]))
        | (refine seq_call (by simp only [List.getElem?_toArray, List.getElem?_cons_succ, List.getElem?_cons_zero]; first | done | rfl) (by rfl) (fun K hK => ?_); go_simp; go_at_call 14; refine (keeps (implEditionOk _ _) (W0 := w) hHeld.1).mono ?_; rintro r w1 ⟨rfl, b1, kp⟩; go_simp; refine hK.out _ _ ⟨b1, kp _ _ _ hHeld.2.1, kp _ _ _ hHeld.2.2.1, kp _ _ _ hHeld.2.2.2.1, kp _ _ _ hHeld.2.2.2.2.1, kp _ _ _ hHeld.2.2.2.2.2.1, kp _ _ _ hHeld.2.2.2.2.2.2.1, kp _ _ _ hHeld.2.2.2.2.2.2.2.1, kp _ _ _ hHeld.2.2.2.2.2.2.2.2.1, kp _ _ _ hHeld.2.2.2.2.2.2.2.2.2.1, kp _ _ _ hHeld.2.2.2.2.2.2.2.2.2.2.1, kp _ _ _ hHeld.2.2.2.2.2.2.2.2.2.2.2.1, kp _ _ _ hHeld.2.2.2.2.2.2.2.2.2.2.2.2.1, kp _ _ _ hHeld.2.2.2.2.2.2.2.2.2.2.2.2.2.1, kp _ _ _ hHeld.2.2.2.2.2.2.2.2.2.2.2.2.2.2.1, kp _ _ _ hHeld.2.2.2.2.2.2.2.2.2.2.2.2.2.2.2⟩ ?_; clear hHeld kp b1 hK; intro hHeld; (try simp only [Act.put, List.setIfInBounds_toArray, List.set_cons_zero, List.set_cons_succ]))
        | (refine seq_call (by simp only [List.getElem?_toArray, List.getElem?_cons_succ, List.getElem?_cons_zero]; first | done | rfl) (by rfl) (fun K hK => ?_); go_simp; go_at_call 15; refine (keeps (specEditionOk _ _) (W0 := w) hHeld.1).mono ?_; rintro r w1 ⟨rfl, b1, kp⟩; go_simp; refine hK.out _ _ ⟨b1, kp _ _ _ hHeld.2.1, kp _ _ _ hHeld.2.2.1, kp _ _ _ hHeld.2.2.2.1, kp _ _ _ hHeld.2.2.2.2.1, kp _ _ _ hHeld.2.2.2.2.2.1, kp _ _ _ hHeld.2.2.2.2.2.2.1, kp _ _ _ hHeld.2.2.2.2.2.2.2.1, kp _ _ _ hHeld.2.2.2.2.2.2.2.2.1, kp _ _ _ hHeld.2.2.2.2.2.2.2.2.2.1, kp _ _ _ hHeld.2.2.2.2.2.2.2.2.2.2.1, kp _ _ _ hHeld.2.2.2.2.2.2.2.2.2.2.2.1, kp _ _ _ hHeld.2.2.2.2.2.2.2.2.2.2.2.2.1, kp _ _ _ hHeld.2.2.2.2.2.2.2.2.2.2.2.2.2.1, kp _ _ _ hHeld.2.2.2.2.2.2.2.2.2.2.2.2.2.2.1, kp _ _ _ hHeld.2.2.2.2.2.2.2.2.2.2.2.2.2.2.2⟩ ?_; clear hHeld kp b1 hK; intro hHeld; (try simp only [Act.put, List.setIfInBounds_toArray, List.set_cons_zero, List.set_cons_succ]))
        | (refine seq_call (by simp only [List.getElem?_toArray, List.getElem?_cons_succ, List.getElem?_cons_zero]; first | done | rfl) (by rfl) (fun K hK => ?_); go_simp; go_at_call 16; refine (keeps (implOlder _ _ _) (W0 := w) hHeld.1).mono ?_; rintro r w1 ⟨rfl, b1, kp⟩; go_simp; refine hK.out _ _ ⟨b1, kp _ _ _ hHeld.2.1, kp _ _ _ hHeld.2.2.1, kp _ _ _ hHeld.2.2.2.1, kp _ _ _ hHeld.2.2.2.2.1, kp _ _ _ hHeld.2.2.2.2.2.1, kp _ _ _ hHeld.2.2.2.2.2.2.1, kp _ _ _ hHeld.2.2.2.2.2.2.2.1, kp _ _ _ hHeld.2.2.2.2.2.2.2.2.1, kp _ _ _ hHeld.2.2.2.2.2.2.2.2.2.1, kp _ _ _ hHeld.2.2.2.2.2.2.2.2.2.2.1, kp _ _ _ hHeld.2.2.2.2.2.2.2.2.2.2.2.1, kp _ _ _ hHeld.2.2.2.2.2.2.2.2.2.2.2.2.1, kp _ _ _ hHeld.2.2.2.2.2.2.2.2.2.2.2.2.2.1, kp _ _ _ hHeld.2.2.2.2.2.2.2.2.2.2.2.2.2.2.1, kp _ _ _ hHeld.2.2.2.2.2.2.2.2.2.2.2.2.2.2.2⟩ ?_; clear hHeld kp b1 hK; intro hHeld; (try simp only [Act.put, List.setIfInBounds_toArray, List.set_cons_zero, List.set_cons_succ]))
        | (refine seq_call (by simp only [List.getElem?_toArray, List.getElem?_cons_succ, List.getElem?_cons_zero]; first | done | rfl) (by rfl) (fun K hK => ?_); go_simp; go_at_call 17; refine (keeps (specOlder _ _ _) (W0 := w) hHeld.1).mono ?_; rintro r w1 ⟨rfl, b1, kp⟩; go_simp; refine hK.out _ _ ⟨b1, kp _ _ _ hHeld.2.1, kp _ _ _ hHeld.2.2.1, kp _ _ _ hHeld.2.2.2.1, kp _ _ _ hHeld.2.2.2.2.1, kp _ _ _ hHeld.2.2.2.2.2.1, kp _ _ _ hHeld.2.2.2.2.2.2.1, kp _ _ _ hHeld.2.2.2.2.2.2.2.1, kp _ _ _ hHeld.2.2.2.2.2.2.2.2.1, kp _ _ _ hHeld.2.2.2.2.2.2.2.2.2.1, kp _ _ _ hHeld.2.2.2.2.2.2.2.2.2.2.1, kp _ _ _ hHeld.2.2.2.2.2.2.2.2.2.2.2.1, kp _ _ _ hHeld.2.2.2.2.2.2.2.2.2.2.2.2.1, kp _ _ _ hHeld.2.2.2.2.2.2.2.2.2.2.2.2.2.1, kp _ _ _ hHeld.2.2.2.2.2.2.2.2.2.2.2.2.2.2.1, kp _ _ _ hHeld.2.2.2.2.2.2.2.2.2.2.2.2.2.2.2⟩ ?_; clear hHeld kp b1 hK; intro hHeld; (try simp only [Act.put, List.setIfInBounds_toArray, List.set_cons_zero, List.set_cons_succ])))
      refine seq_end ?_
      go_split_ands
      go_wp2
      go_meet
      (repeat' apply And.intro) <;> first | rfl | assumption
    case rest =>
      clear bb e0 e1 e2 r0 r1 r2 m0 m1 m2 n0 n1 n2 y0 y1 y2
      obtain ⟨rfl, bb, e0, e1, e2, r0, r1, r2, m0, m1, m2, n0, n1, n2, y0, y1, y2⟩ := hcut
      go_upto_region 11 with (fail)
      go_cut [7, 11, 113] (fun s7 _ s113 wx => s7 = .bool (M.edRead t.data.toList).2 ∧ s113 = .bool false ∧ Below w.heap.size w wx ∧ wx.cell? ⟨x1.heap.size, 0, none⟩ = some (.int .i64 e.ma) ∧ wx.cell? ⟨x1.heap.size, 1, none⟩ = some (.int .i64 e.mi) ∧ wx.cell? ⟨x1.heap.size, 2, none⟩ = some (.int .i64 e.pa) ∧ wx.cell? ⟨x4.heap.size, 0, none⟩ = some (.int .i64 (M.edRead t.data.toList).1.ma) ∧ wx.cell? ⟨x4.heap.size, 1, none⟩ = some (.int .i64 (M.edRead t.data.toList).1.mi) ∧ wx.cell? ⟨x4.heap.size, 2, none⟩ = some (.int .i64 (M.edRead t.data.toList).1.pa) ∧ wx.cell? ⟨x5.heap.size, 0, none⟩ = some (.int .i64 a.ma) ∧ wx.cell? ⟨x5.heap.size, 1, none⟩ = some (.int .i64 a.mi) ∧ wx.cell? ⟨x5.heap.size, 2, none⟩ = some (.int .i64 a.pa) ∧ wx.cell? ⟨x5.heap.size + 1, 0, none⟩ = some (.int .i64 b.ma) ∧ wx.cell? ⟨x5.heap.size + 1, 1, none⟩ = some (.int .i64 b.mi) ∧ wx.cell? ⟨x5.heap.size + 1, 2, none⟩ = some (.int .i64 b.pa) ∧ wx.cell? ⟨x6.heap.size, 0, none⟩ = some (.int .i64 (M.edRead t.data.toList).1.ma) ∧ wx.cell? ⟨x6.heap.size, 1, none⟩ = some (.int .i64 (M.edRead t.data.toList).1.mi) ∧ wx.cell? ⟨x6.heap.size, 2, none⟩ = some (.int .i64 (M.edRead t.data.toList).1.pa))
      case first =>
        rcases hab : M.older a b with _ | _
        · rcases hba : M.older b a with _ | _
          · have hd : decide (a = b) = true := by simpa using M.older_total a b hab hba
            rcases hi : (M.edRead t.data.toList).2 with _ | _
            · refine wp_region_seq (fun w' => Below w.heap.size w w' ∧ w'.cell? ⟨x1.heap.size, 0, none⟩ = some (.int .i64 e.ma) ∧ w'.cell? ⟨x1.heap.size, 1, none⟩ = some (.int .i64 e.mi) ∧ w'.cell? ⟨x1.heap.size, 2, none⟩ = some (.int .i64 e.pa) ∧ w'.cell? ⟨x4.heap.size, 0, none⟩ = some (.int .i64 (M.edRead t.data.toList).1.ma) ∧ w'.cell? ⟨x4.heap.size, 1, none⟩ = some (.int .i64 (M.edRead t.data.toList).1.mi) ∧ w'.cell? ⟨x4.heap.size, 2, none⟩ = some (.int .i64 (M.edRead t.data.toList).1.pa) ∧ w'.cell? ⟨x5.heap.size, 0, none⟩ = some (.int .i64 a.ma) ∧ w'.cell? ⟨x5.heap.size, 1, none⟩ = some (.int .i64 a.mi) ∧ w'.cell? ⟨x5.heap.size, 2, none⟩ = some (.int .i64 a.pa) ∧ w'.cell? ⟨x5.heap.size + 1, 0, none⟩ = some (.int .i64 b.ma) ∧ w'.cell? ⟨x5.heap.size + 1, 1, none⟩ = some (.int .i64 b.mi) ∧ w'.cell? ⟨x5.heap.size + 1, 2, none⟩ = some (.int .i64 b.pa) ∧ w'.cell? ⟨x6.heap.size, 0, none⟩ = some (.int .i64 (M.edRead t.data.toList).1.ma) ∧ w'.cell? ⟨x6.heap.size, 1, none⟩ = some (.int .i64 (M.edRead t.data.toList).1.mi) ∧ w'.cell? ⟨x6.heap.size, 2, none⟩ = some (.int .i64 (M.edRead t.data.toList).1.pa)) [(0, true), (1, true), (2, true), (4, true), (3, false), (5, true), (6, true), (7, true), (8, true), (9, true), (16, true), (17, true), (18, true), (10, false), (11, true), (12, true), (13, true), (14, false), (15, true), (19, true), (20, true), (21, true), (22, true), (23, true), (24, false), (25, true), (26, true), (27, true), (28, false), (29, true), (30, true), (31, true), (32, true), (33, true), (34, false), (35, true), (36, true), (37, true), (38, false), (39, true), (40, true), (41, true), (42, true), (43, false), (44, true), (45, true), (46, true)] (by kernel_rfl) (by kernel_rfl) (fun _ _ _ _ _ h => h) (by kernel_rfl) (by decide) ?_ ?_
              · ((try dsimp only); (repeat' apply And.intro) <;> first | assumption | (exact Below.drew (by assumption)) | (simp [go_sem]; done))
              clear bb e0 e1 e2 r0 r1 r2 m0 m1 m2 n0 n1 n2 y0 y1 y2
              intro hHeld
              repeat (first
                | (refine seq_reads (by simp only [List.getElem?_toArray, List.getElem?_cons_succ, List.getElem?_cons_zero]; first | done | rfl) (by rfl) ⟨_, fun w _ => eql_read (a := a) (b := b) rfl rfl rfl w, ?_⟩; (try simp only [Act.put, List.setIfInBounds_toArray, List.set_cons_zero, List.set_cons_succ]))
                | (refine seq_skip (by simp only [List.getElem?_toArray, List.getElem?_cons_succ, List.getElem?_cons_zero]; first | done | rfl) (by rfl) ?_; (try simp only [Act.put, List.setIfInBounds_toArray, List.set_cons_zero, List.set_cons_succ]))
                | (refine seq_reads (by simp only [List.getElem?_toArray, List.getElem?_cons_succ, List.getElem?_cons_zero]; first | done | rfl) (by rfl) ?_; apply Exists.intro; apply And.intro; (focus (intro w hSw; (try dsimp only at hSw); go_split_ands; go_simp; (try with_reducible rfl); done)); (try simp only [Act.put, List.setIfInBounds_toArray, List.set_cons_zero, List.set_cons_succ]))
                | (refine seq_pass (by simp only [List.getElem?_toArray, List.getElem?_cons_succ, List.getElem?_cons_zero]; first | done | rfl) (by rfl) hHeld ?_; clear hHeld; intro hHeld; (try simp only [Act.put, List.setIfInBounds_toArray, List.set_cons_zero, List.set_cons_succ]))
                | (refine seq_call (by simp only [List.getElem?_toArray, List.getElem?_cons_succ, List.getElem?_cons_zero]; first | done | rfl) (by rfl) (fun K hK => ?_); go_simp; go_at_call 8; refine (keeps (implShowEdition _ _) (W0 := w) hHeld.1).mono ?_; rintro r w1 ⟨hr, b1, kp⟩; obtain rfl : r = .returned (.string ⟨(M.edShow (M.edRead t.data.toList).1).toArray⟩) := hr; go_simp; refine hK.out _ _ ⟨b1, kp _ _ _ hHeld.2.1, kp _ _ _ hHeld.2.2.1, kp _ _ _ hHeld.2.2.2.1, kp _ _ _ hHeld.2.2.2.2.1, kp _ _ _ hHeld.2.2.2.2.2.1, kp _ _ _ hHeld.2.2.2.2.2.2.1, kp _ _ _ hHeld.2.2.2.2.2.2.2.1, kp _ _ _ hHeld.2.2.2.2.2.2.2.2.1, kp _ _ _ hHeld.2.2.2.2.2.2.2.2.2.1, kp _ _ _ hHeld.2.2.2.2.2.2.2.2.2.2.1, kp _ _ _ hHeld.2.2.2.2.2.2.2.2.2.2.2.1, kp _ _ _ hHeld.2.2.2.2.2.2.2.2.2.2.2.2.1, kp _ _ _ hHeld.2.2.2.2.2.2.2.2.2.2.2.2.2.1, kp _ _ _ hHeld.2.2.2.2.2.2.2.2.2.2.2.2.2.2.1, kp _ _ _ hHeld.2.2.2.2.2.2.2.2.2.2.2.2.2.2.2⟩ ?_; clear hHeld kp b1 hK; intro hHeld; (try simp only [Act.put, List.setIfInBounds_toArray, List.set_cons_zero, List.set_cons_succ]))
                | (refine seq_call (by simp only [List.getElem?_toArray, List.getElem?_cons_succ, List.getElem?_cons_zero]; first | done | rfl) (by rfl) (fun K hK => ?_); go_simp; go_at_call 16; refine (keeps (implOlder _ _ _) (W0 := w) hHeld.1).mono ?_; rintro r w1 ⟨rfl, b1, kp⟩; go_simp; refine hK.out _ _ ⟨b1, kp _ _ _ hHeld.2.1, kp _ _ _ hHeld.2.2.1, kp _ _ _ hHeld.2.2.2.1, kp _ _ _ hHeld.2.2.2.2.1, kp _ _ _ hHeld.2.2.2.2.2.1, kp _ _ _ hHeld.2.2.2.2.2.2.1, kp _ _ _ hHeld.2.2.2.2.2.2.2.1, kp _ _ _ hHeld.2.2.2.2.2.2.2.2.1, kp _ _ _ hHeld.2.2.2.2.2.2.2.2.2.1, kp _ _ _ hHeld.2.2.2.2.2.2.2.2.2.2.1, kp _ _ _ hHeld.2.2.2.2.2.2.2.2.2.2.2.1, kp _ _ _ hHeld.2.2.2.2.2.2.2.2.2.2.2.2.1, kp _ _ _ hHeld.2.2.2.2.2.2.2.2.2.2.2.2.2.1, kp _ _ _ hHeld.2.2.2.2.2.2.2.2.2.2.2.2.2.2.1, kp _ _ _ hHeld.2.2.2.2.2.2.2.2.2.2.2.2.2.2.2⟩ ?_; clear hHeld kp b1 hK; intro hHeld; (try simp only [Act.put, List.setIfInBounds_toArray, List.set_cons_zero, List.set_cons_succ])))
              refine seq_end ?_
              go_split_ands
              go_wp2
              go_meet
              (repeat' apply And.intro) <;> first | rfl | assumption | (rw [hi])
            · have hsh := (M.edShow_read hi).1
              have hsh' : (M.edShow (M.edRead t.data.toList).1 == t.toList) = true := by rw [hsh, ByteArray.toList_eq]; simp
              clear hsh
              refine wp_region_seq (fun w' => Below w.heap.size w w' ∧ w'.cell? ⟨x1.heap.size, 0, none⟩ = some (.int .i64 e.ma) ∧ w'.cell? ⟨x1.heap.size, 1, none⟩ = some (.int .i64 e.mi) ∧ w'.cell? ⟨x1.heap.size, 2, none⟩ = some (.int .i64 e.pa) ∧ w'.cell? ⟨x4.heap.size, 0, none⟩ = some (.int .i64 (M.edRead t.data.toList).1.ma) ∧ w'.cell? ⟨x4.heap.size, 1, none⟩ = some (.int .i64 (M.edRead t.data.toList).1.mi) ∧ w'.cell? ⟨x4.heap.size, 2, none⟩ = some (.int .i64 (M.edRead t.data.toList).1.pa) ∧ w'.cell? ⟨x5.heap.size, 0, none⟩ = some (.int .i64 a.ma) ∧ w'.cell? ⟨x5.heap.size, 1, none⟩ = some (.int .i64 a.mi) ∧ w'.cell? ⟨x5.heap.size, 2, none⟩ = some (.int .i64 a.pa) ∧ w'.cell? ⟨x5.heap.size + 1, 0, none⟩ = some (.int .i64 b.ma) ∧ w'.cell? ⟨x5.heap.size + 1, 1, none⟩ = some (.int .i64 b.mi) ∧ w'.cell? ⟨x5.heap.size + 1, 2, none⟩ = some (.int .i64 b.pa) ∧ w'.cell? ⟨x6.heap.size, 0, none⟩ = some (.int .i64 (M.edRead t.data.toList).1.ma) ∧ w'.cell? ⟨x6.heap.size, 1, none⟩ = some (.int .i64 (M.edRead t.data.toList).1.mi) ∧ w'.cell? ⟨x6.heap.size, 2, none⟩ = some (.int .i64 (M.edRead t.data.toList).1.pa)) [(0, true), (1, true), (2, true), (4, true), (3, false), (5, true), (6, true), (7, true), (8, true), (9, true), (16, true), (17, true), (18, true), (10, false), (11, true), (12, true), (13, true), (14, false), (15, true), (19, true), (20, true), (21, true), (22, true), (23, true), (24, false), (25, true), (26, true), (27, true), (28, false), (29, true), (30, true), (31, true), (32, true), (33, true), (34, false), (35, true), (36, true), (37, true), (38, false), (39, true), (40, true), (41, true), (42, true), (43, false), (44, true), (45, true), (46, true)] (by kernel_rfl) (by kernel_rfl) (fun _ _ _ _ _ h => h) (by kernel_rfl) (by decide) ?_ ?_
              · ((try dsimp only); (repeat' apply And.intro) <;> first | assumption | (exact Below.drew (by assumption)) | (simp [go_sem]; done))
              clear bb e0 e1 e2 r0 r1 r2 m0 m1 m2 n0 n1 n2 y0 y1 y2
              intro hHeld
              repeat (first
                | (refine seq_reads (by simp only [List.getElem?_toArray, List.getElem?_cons_succ, List.getElem?_cons_zero]; first | done | rfl) (by rfl) ⟨_, fun w _ => eql_read (a := a) (b := b) rfl rfl rfl w, ?_⟩; (try simp only [Act.put, List.setIfInBounds_toArray, List.set_cons_zero, List.set_cons_succ]))
                | (refine seq_skip (by simp only [List.getElem?_toArray, List.getElem?_cons_succ, List.getElem?_cons_zero]; first | done | rfl) (by rfl) ?_; (try simp only [Act.put, List.setIfInBounds_toArray, List.set_cons_zero, List.set_cons_succ]))
                | (refine seq_reads (by simp only [List.getElem?_toArray, List.getElem?_cons_succ, List.getElem?_cons_zero]; first | done | rfl) (by rfl) ?_; apply Exists.intro; apply And.intro; (focus (intro w hSw; (try dsimp only at hSw); go_split_ands; go_simp; (try with_reducible rfl); done)); (try simp only [Act.put, List.setIfInBounds_toArray, List.set_cons_zero, List.set_cons_succ]))
                | (refine seq_pass (by simp only [List.getElem?_toArray, List.getElem?_cons_succ, List.getElem?_cons_zero]; first | done | rfl) (by rfl) hHeld ?_; clear hHeld; intro hHeld; (try simp only [Act.put, List.setIfInBounds_toArray, List.set_cons_zero, List.set_cons_succ]))
                | (refine seq_call (by simp only [List.getElem?_toArray, List.getElem?_cons_succ, List.getElem?_cons_zero]; first | done | rfl) (by rfl) (fun K hK => ?_); go_simp; go_at_call 8; refine (keeps (implShowEdition _ _) (W0 := w) hHeld.1).mono ?_; rintro r w1 ⟨hr, b1, kp⟩; obtain rfl : r = .returned (.string ⟨(M.edShow (M.edRead t.data.toList).1).toArray⟩) := hr; go_simp; refine hK.out _ _ ⟨b1, kp _ _ _ hHeld.2.1, kp _ _ _ hHeld.2.2.1, kp _ _ _ hHeld.2.2.2.1, kp _ _ _ hHeld.2.2.2.2.1, kp _ _ _ hHeld.2.2.2.2.2.1, kp _ _ _ hHeld.2.2.2.2.2.2.1, kp _ _ _ hHeld.2.2.2.2.2.2.2.1, kp _ _ _ hHeld.2.2.2.2.2.2.2.2.1, kp _ _ _ hHeld.2.2.2.2.2.2.2.2.2.1, kp _ _ _ hHeld.2.2.2.2.2.2.2.2.2.2.1, kp _ _ _ hHeld.2.2.2.2.2.2.2.2.2.2.2.1, kp _ _ _ hHeld.2.2.2.2.2.2.2.2.2.2.2.2.1, kp _ _ _ hHeld.2.2.2.2.2.2.2.2.2.2.2.2.2.1, kp _ _ _ hHeld.2.2.2.2.2.2.2.2.2.2.2.2.2.2.1, kp _ _ _ hHeld.2.2.2.2.2.2.2.2.2.2.2.2.2.2.2⟩ ?_; clear hHeld kp b1 hK; intro hHeld; (try simp only [Act.put, List.setIfInBounds_toArray, List.set_cons_zero, List.set_cons_succ]))
                | (refine seq_call (by simp only [List.getElem?_toArray, List.getElem?_cons_succ, List.getElem?_cons_zero]; first | done | rfl) (by rfl) (fun K hK => ?_); go_simp; go_at_call 16; refine (keeps (implOlder _ _ _) (W0 := w) hHeld.1).mono ?_; rintro r w1 ⟨rfl, b1, kp⟩; go_simp; refine hK.out _ _ ⟨b1, kp _ _ _ hHeld.2.1, kp _ _ _ hHeld.2.2.1, kp _ _ _ hHeld.2.2.2.1, kp _ _ _ hHeld.2.2.2.2.1, kp _ _ _ hHeld.2.2.2.2.2.1, kp _ _ _ hHeld.2.2.2.2.2.2.1, kp _ _ _ hHeld.2.2.2.2.2.2.2.1, kp _ _ _ hHeld.2.2.2.2.2.2.2.2.1, kp _ _ _ hHeld.2.2.2.2.2.2.2.2.2.1, kp _ _ _ hHeld.2.2.2.2.2.2.2.2.2.2.1, kp _ _ _ hHeld.2.2.2.2.2.2.2.2.2.2.2.1, kp _ _ _ hHeld.2.2.2.2.2.2.2.2.2.2.2.2.1, kp _ _ _ hHeld.2.2.2.2.2.2.2.2.2.2.2.2.2.1, kp _ _ _ hHeld.2.2.2.2.2.2.2.2.2.2.2.2.2.2.1, kp _ _ _ hHeld.2.2.2.2.2.2.2.2.2.2.2.2.2.2.2⟩ ?_; clear hHeld kp b1 hK; intro hHeld; (try simp only [Act.put, List.setIfInBounds_toArray, List.set_cons_zero, List.set_cons_succ])))
              refine seq_end ?_
              go_split_ands
              go_wp2
              go_meet
              (repeat' apply And.intro) <;> first | rfl | assumption | (rw [hi])
          · have hd : decide (a = b) = false := by simp; rintro rfl; rw [M.older_irrefl] at hba; cases hba
            rcases hi : (M.edRead t.data.toList).2 with _ | _
            · refine wp_region_seq (fun w' => Below w.heap.size w w' ∧ w'.cell? ⟨x1.heap.size, 0, none⟩ = some (.int .i64 e.ma) ∧ w'.cell? ⟨x1.heap.size, 1, none⟩ = some (.int .i64 e.mi) ∧ w'.cell? ⟨x1.heap.size, 2, none⟩ = some (.int .i64 e.pa) ∧ w'.cell? ⟨x4.heap.size, 0, none⟩ = some (.int .i64 (M.edRead t.data.toList).1.ma) ∧ w'.cell? ⟨x4.heap.size, 1, none⟩ = some (.int .i64 (M.edRead t.data.toList).1.mi) ∧ w'.cell? ⟨x4.heap.size, 2, none⟩ = some (.int .i64 (M.edRead t.data.toList).1.pa) ∧ w'.cell? ⟨x5.heap.size, 0, none⟩ = some (.int .i64 a.ma) ∧ w'.cell? ⟨x5.heap.size, 1, none⟩ = some (.int .i64 a.mi) ∧ w'.cell? ⟨x5.heap.size, 2, none⟩ = some (.int .i64 a.pa) ∧ w'.cell? ⟨x5.heap.size + 1, 0, none⟩ = some (.int .i64 b.ma) ∧ w'.cell? ⟨x5.heap.size + 1, 1, none⟩ = some (.int .i64 b.mi) ∧ w'.cell? ⟨x5.heap.size + 1, 2, none⟩ = some (.int .i64 b.pa) ∧ w'.cell? ⟨x6.heap.size, 0, none⟩ = some (.int .i64 (M.edRead t.data.toList).1.ma) ∧ w'.cell? ⟨x6.heap.size, 1, none⟩ = some (.int .i64 (M.edRead t.data.toList).1.mi) ∧ w'.cell? ⟨x6.heap.size, 2, none⟩ = some (.int .i64 (M.edRead t.data.toList).1.pa)) [(0, true), (1, true), (2, true), (4, true), (3, false), (5, true), (6, true), (7, true), (8, true), (9, true), (16, true), (17, true), (18, true), (10, false), (11, true), (12, true), (13, true), (14, false), (15, true), (19, true), (20, true), (21, true), (22, true), (23, true), (24, false), (25, true), (26, true), (27, true), (28, false), (29, true), (30, true), (31, true), (32, true), (33, true), (34, false), (35, true), (36, true), (37, true), (38, false), (39, true), (40, true), (41, true), (42, true), (43, false), (44, true), (45, true), (46, true)] (by kernel_rfl) (by kernel_rfl) (fun _ _ _ _ _ h => h) (by kernel_rfl) (by decide) ?_ ?_
              · ((try dsimp only); (repeat' apply And.intro) <;> first | assumption | (exact Below.drew (by assumption)) | (simp [go_sem]; done))
              clear bb e0 e1 e2 r0 r1 r2 m0 m1 m2 n0 n1 n2 y0 y1 y2
              intro hHeld
              repeat (first
                | (refine seq_reads (by simp only [List.getElem?_toArray, List.getElem?_cons_succ, List.getElem?_cons_zero]; first | done | rfl) (by rfl) ⟨_, fun w _ => eql_read (a := a) (b := b) rfl rfl rfl w, ?_⟩; (try simp only [Act.put, List.setIfInBounds_toArray, List.set_cons_zero, List.set_cons_succ]))
                | (refine seq_skip (by simp only [List.getElem?_toArray, List.getElem?_cons_succ, List.getElem?_cons_zero]; first | done | rfl) (by rfl) ?_; (try simp only [Act.put, List.setIfInBounds_toArray, List.set_cons_zero, List.set_cons_succ]))
                | (refine seq_reads (by simp only [List.getElem?_toArray, List.getElem?_cons_succ, List.getElem?_cons_zero]; first | done | rfl) (by rfl) ?_; apply Exists.intro; apply And.intro; (focus (intro w hSw; (try dsimp only at hSw); go_split_ands; go_simp; (try with_reducible rfl); done)); (try simp only [Act.put, List.setIfInBounds_toArray, List.set_cons_zero, List.set_cons_succ]))
                | (refine seq_pass (by simp only [List.getElem?_toArray, List.getElem?_cons_succ, List.getElem?_cons_zero]; first | done | rfl) (by rfl) hHeld ?_; clear hHeld; intro hHeld; (try simp only [Act.put, List.setIfInBounds_toArray, List.set_cons_zero, List.set_cons_succ]))
                | (refine seq_call (by simp only [List.getElem?_toArray, List.getElem?_cons_succ, List.getElem?_cons_zero]; first | done | rfl) (by rfl) (fun K hK => ?_); go_simp; go_at_call 8; refine (keeps (implShowEdition _ _) (W0 := w) hHeld.1).mono ?_; rintro r w1 ⟨hr, b1, kp⟩; obtain rfl : r = .returned (.string ⟨(M.edShow (M.edRead t.data.toList).1).toArray⟩) := hr; go_simp; refine hK.out _ _ ⟨b1, kp _ _ _ hHeld.2.1, kp _ _ _ hHeld.2.2.1, kp _ _ _ hHeld.2.2.2.1, kp _ _ _ hHeld.2.2.2.2.1, kp _ _ _ hHeld.2.2.2.2.2.1, kp _ _ _ hHeld.2.2.2.2.2.2.1, kp _ _ _ hHeld.2.2.2.2.2.2.2.1, kp _ _ _ hHeld.2.2.2.2.2.2.2.2.1, kp _ _ _ hHeld.2.2.2.2.2.2.2.2.2.1, kp _ _ _ hHeld.2.2.2.2.2.2.2.2.2.2.1, kp _ _ _ hHeld.2.2.2.2.2.2.2.2.2.2.2.1, kp _ _ _ hHeld.2.2.2.2.2.2.2.2.2.2.2.2.1, kp _ _ _ hHeld.2.2.2.2.2.2.2.2.2.2.2.2.2.1, kp _ _ _ hHeld.2.2.2.2.2.2.2.2.2.2.2.2.2.2.1, kp _ _ _ hHeld.2.2.2.2.2.2.2.2.2.2.2.2.2.2.2⟩ ?_; clear hHeld kp b1 hK; intro hHeld; (try simp only [Act.put, List.setIfInBounds_toArray, List.set_cons_zero, List.set_cons_succ]))
                | (refine seq_call (by simp only [List.getElem?_toArray, List.getElem?_cons_succ, List.getElem?_cons_zero]; first | done | rfl) (by rfl) (fun K hK => ?_); go_simp; go_at_call 16; refine (keeps (implOlder _ _ _) (W0 := w) hHeld.1).mono ?_; rintro r w1 ⟨rfl, b1, kp⟩; go_simp; refine hK.out _ _ ⟨b1, kp _ _ _ hHeld.2.1, kp _ _ _ hHeld.2.2.1, kp _ _ _ hHeld.2.2.2.1, kp _ _ _ hHeld.2.2.2.2.1, kp _ _ _ hHeld.2.2.2.2.2.1, kp _ _ _ hHeld.2.2.2.2.2.2.1, kp _ _ _ hHeld.2.2.2.2.2.2.2.1, kp _ _ _ hHeld.2.2.2.2.2.2.2.2.1, kp _ _ _ hHeld.2.2.2.2.2.2.2.2.2.1, kp _ _ _ hHeld.2.2.2.2.2.2.2.2.2.2.1, kp _ _ _ hHeld.2.2.2.2.2.2.2.2.2.2.2.1, kp _ _ _ hHeld.2.2.2.2.2.2.2.2.2.2.2.2.1, kp _ _ _ hHeld.2.2.2.2.2.2.2.2.2.2.2.2.2.1, kp _ _ _ hHeld.2.2.2.2.2.2.2.2.2.2.2.2.2.2.1, kp _ _ _ hHeld.2.2.2.2.2.2.2.2.2.2.2.2.2.2.2⟩ ?_; clear hHeld kp b1 hK; intro hHeld; (try simp only [Act.put, List.setIfInBounds_toArray, List.set_cons_zero, List.set_cons_succ])))
              refine seq_end ?_
              go_split_ands
              go_wp2
              go_meet
              (repeat' apply And.intro) <;> first | rfl | assumption | (rw [hi])
            · have hsh := (M.edShow_read hi).1
              have hsh' : (M.edShow (M.edRead t.data.toList).1 == t.toList) = true := by rw [hsh, ByteArray.toList_eq]; simp
              clear hsh
              refine wp_region_seq (fun w' => Below w.heap.size w w' ∧ w'.cell? ⟨x1.heap.size, 0, none⟩ = some (.int .i64 e.ma) ∧ w'.cell? ⟨x1.heap.size, 1, none⟩ = some (.int .i64 e.mi) ∧ w'.cell? ⟨x1.heap.size, 2, none⟩ = some (.int .i64 e.pa) ∧ w'.cell? ⟨x4.heap.size, 0, none⟩ = some (.int .i64 (M.edRead t.data.toList).1.ma) ∧ w'.cell? ⟨x4.heap.size, 1, none⟩ = some (.int .i64 (M.edRead t.data.toList).1.mi) ∧ w'.cell? ⟨x4.heap.size, 2, none⟩ = some (.int .i64 (M.edRead t.data.toList).1.pa) ∧ w'.cell? ⟨x5.heap.size, 0, none⟩ = some (.int .i64 a.ma) ∧ w'.cell? ⟨x5.heap.size, 1, none⟩ = some (.int .i64 a.mi) ∧ w'.cell? ⟨x5.heap.size, 2, none⟩ = some (.int .i64 a.pa) ∧ w'.cell? ⟨x5.heap.size + 1, 0, none⟩ = some (.int .i64 b.ma) ∧ w'.cell? ⟨x5.heap.size + 1, 1, none⟩ = some (.int .i64 b.mi) ∧ w'.cell? ⟨x5.heap.size + 1, 2, none⟩ = some (.int .i64 b.pa) ∧ w'.cell? ⟨x6.heap.size, 0, none⟩ = some (.int .i64 (M.edRead t.data.toList).1.ma) ∧ w'.cell? ⟨x6.heap.size, 1, none⟩ = some (.int .i64 (M.edRead t.data.toList).1.mi) ∧ w'.cell? ⟨x6.heap.size, 2, none⟩ = some (.int .i64 (M.edRead t.data.toList).1.pa)) [(0, true), (1, true), (2, true), (4, true), (3, false), (5, true), (6, true), (7, true), (8, true), (9, true), (16, true), (17, true), (18, true), (10, false), (11, true), (12, true), (13, true), (14, false), (15, true), (19, true), (20, true), (21, true), (22, true), (23, true), (24, false), (25, true), (26, true), (27, true), (28, false), (29, true), (30, true), (31, true), (32, true), (33, true), (34, false), (35, true), (36, true), (37, true), (38, false), (39, true), (40, true), (41, true), (42, true), (43, false), (44, true), (45, true), (46, true)] (by kernel_rfl) (by kernel_rfl) (fun _ _ _ _ _ h => h) (by kernel_rfl) (by decide) ?_ ?_
              · ((try dsimp only); (repeat' apply And.intro) <;> first | assumption | (exact Below.drew (by assumption)) | (simp [go_sem]; done))
              clear bb e0 e1 e2 r0 r1 r2 m0 m1 m2 n0 n1 n2 y0 y1 y2
              intro hHeld
              repeat (first
                | (refine seq_reads (by simp only [List.getElem?_toArray, List.getElem?_cons_succ, List.getElem?_cons_zero]; first | done | rfl) (by rfl) ⟨_, fun w _ => eql_read (a := a) (b := b) rfl rfl rfl w, ?_⟩; (try simp only [Act.put, List.setIfInBounds_toArray, List.set_cons_zero, List.set_cons_succ]))
                | (refine seq_skip (by simp only [List.getElem?_toArray, List.getElem?_cons_succ, List.getElem?_cons_zero]; first | done | rfl) (by rfl) ?_; (try simp only [Act.put, List.setIfInBounds_toArray, List.set_cons_zero, List.set_cons_succ]))
                | (refine seq_reads (by simp only [List.getElem?_toArray, List.getElem?_cons_succ, List.getElem?_cons_zero]; first | done | rfl) (by rfl) ?_; apply Exists.intro; apply And.intro; (focus (intro w hSw; (try dsimp only at hSw); go_split_ands; go_simp; (try with_reducible rfl); done)); (try simp only [Act.put, List.setIfInBounds_toArray, List.set_cons_zero, List.set_cons_succ]))
                | (refine seq_pass (by simp only [List.getElem?_toArray, List.getElem?_cons_succ, List.getElem?_cons_zero]; first | done | rfl) (by rfl) hHeld ?_; clear hHeld; intro hHeld; (try simp only [Act.put, List.setIfInBounds_toArray, List.set_cons_zero, List.set_cons_succ]))
                | (refine seq_call (by simp only [List.getElem?_toArray, List.getElem?_cons_succ, List.getElem?_cons_zero]; first | done | rfl) (by rfl) (fun K hK => ?_); go_simp; go_at_call 8; refine (keeps (implShowEdition _ _) (W0 := w) hHeld.1).mono ?_; rintro r w1 ⟨hr, b1, kp⟩; obtain rfl : r = .returned (.string ⟨(M.edShow (M.edRead t.data.toList).1).toArray⟩) := hr; go_simp; refine hK.out _ _ ⟨b1, kp _ _ _ hHeld.2.1, kp _ _ _ hHeld.2.2.1, kp _ _ _ hHeld.2.2.2.1, kp _ _ _ hHeld.2.2.2.2.1, kp _ _ _ hHeld.2.2.2.2.2.1, kp _ _ _ hHeld.2.2.2.2.2.2.1, kp _ _ _ hHeld.2.2.2.2.2.2.2.1, kp _ _ _ hHeld.2.2.2.2.2.2.2.2.1, kp _ _ _ hHeld.2.2.2.2.2.2.2.2.2.1, kp _ _ _ hHeld.2.2.2.2.2.2.2.2.2.2.1, kp _ _ _ hHeld.2.2.2.2.2.2.2.2.2.2.2.1, kp _ _ _ hHeld.2.2.2.2.2.2.2.2.2.2.2.2.1, kp _ _ _ hHeld.2.2.2.2.2.2.2.2.2.2.2.2.2.1, kp _ _ _ hHeld.2.2.2.2.2.2.2.2.2.2.2.2.2.2.1, kp _ _ _ hHeld.2.2.2.2.2.2.2.2.2.2.2.2.2.2.2⟩ ?_; clear hHeld kp b1 hK; intro hHeld; (try simp only [Act.put, List.setIfInBounds_toArray, List.set_cons_zero, List.set_cons_succ]))
                | (refine seq_call (by simp only [List.getElem?_toArray, List.getElem?_cons_succ, List.getElem?_cons_zero]; first | done | rfl) (by rfl) (fun K hK => ?_); go_simp; go_at_call 16; refine (keeps (implOlder _ _ _) (W0 := w) hHeld.1).mono ?_; rintro r w1 ⟨rfl, b1, kp⟩; go_simp; refine hK.out _ _ ⟨b1, kp _ _ _ hHeld.2.1, kp _ _ _ hHeld.2.2.1, kp _ _ _ hHeld.2.2.2.1, kp _ _ _ hHeld.2.2.2.2.1, kp _ _ _ hHeld.2.2.2.2.2.1, kp _ _ _ hHeld.2.2.2.2.2.2.1, kp _ _ _ hHeld.2.2.2.2.2.2.2.1, kp _ _ _ hHeld.2.2.2.2.2.2.2.2.1, kp _ _ _ hHeld.2.2.2.2.2.2.2.2.2.1, kp _ _ _ hHeld.2.2.2.2.2.2.2.2.2.2.1, kp _ _ _ hHeld.2.2.2.2.2.2.2.2.2.2.2.1, kp _ _ _ hHeld.2.2.2.2.2.2.2.2.2.2.2.2.1, kp _ _ _ hHeld.2.2.2.2.2.2.2.2.2.2.2.2.2.1, kp _ _ _ hHeld.2.2.2.2.2.2.2.2.2.2.2.2.2.2.1, kp _ _ _ hHeld.2.2.2.2.2.2.2.2.2.2.2.2.2.2.2⟩ ?_; clear hHeld kp b1 hK; intro hHeld; (try simp only [Act.put, List.setIfInBounds_toArray, List.set_cons_zero, List.set_cons_succ])))
              refine seq_end ?_
              go_split_ands
              go_wp2
              go_meet
              (repeat' apply And.intro) <;> first | rfl | assumption | (rw [hi])
        · have hba := M.older_asymm a b hab
          have hd : decide (a = b) = false := by simp; rintro rfl; rw [M.older_irrefl] at hab; cases hab
          rcases hbe : M.older b e with _ | _
          · skip
            rcases hi : (M.edRead t.data.toList).2 with _ | _
            · refine wp_region_seq (fun w' => Below w.heap.size w w' ∧ w'.cell? ⟨x1.heap.size, 0, none⟩ = some (.int .i64 e.ma) ∧ w'.cell? ⟨x1.heap.size, 1, none⟩ = some (.int .i64 e.mi) ∧ w'.cell? ⟨x1.heap.size, 2, none⟩ = some (.int .i64 e.pa) ∧ w'.cell? ⟨x4.heap.size, 0, none⟩ = some (.int .i64 (M.edRead t.data.toList).1.ma) ∧ w'.cell? ⟨x4.heap.size, 1, none⟩ = some (.int .i64 (M.edRead t.data.toList).1.mi) ∧ w'.cell? ⟨x4.heap.size, 2, none⟩ = some (.int .i64 (M.edRead t.data.toList).1.pa) ∧ w'.cell? ⟨x5.heap.size, 0, none⟩ = some (.int .i64 a.ma) ∧ w'.cell? ⟨x5.heap.size, 1, none⟩ = some (.int .i64 a.mi) ∧ w'.cell? ⟨x5.heap.size, 2, none⟩ = some (.int .i64 a.pa) ∧ w'.cell? ⟨x5.heap.size + 1, 0, none⟩ = some (.int .i64 b.ma) ∧ w'.cell? ⟨x5.heap.size + 1, 1, none⟩ = some (.int .i64 b.mi) ∧ w'.cell? ⟨x5.heap.size + 1, 2, none⟩ = some (.int .i64 b.pa) ∧ w'.cell? ⟨x6.heap.size, 0, none⟩ = some (.int .i64 (M.edRead t.data.toList).1.ma) ∧ w'.cell? ⟨x6.heap.size, 1, none⟩ = some (.int .i64 (M.edRead t.data.toList).1.mi) ∧ w'.cell? ⟨x6.heap.size, 2, none⟩ = some (.int .i64 (M.edRead t.data.toList).1.pa)) [(0, true), (1, true), (2, true), (4, true), (3, false), (5, true), (6, true), (7, true), (8, true), (9, true), (16, true), (17, true), (18, true), (10, false), (11, true), (12, true), (13, true), (14, false), (15, true), (19, true), (20, true), (21, true), (22, true), (23, true), (24, false), (25, true), (26, true), (27, true), (28, false), (29, true), (30, true), (31, true), (32, true), (33, true), (34, false), (35, true), (36, true), (37, true), (38, false), (39, true), (40, true), (41, true), (42, true), (43, false), (44, true), (45, true), (46, true)] (by kernel_rfl) (by kernel_rfl) (fun _ _ _ _ _ h => h) (by kernel_rfl) (by decide) ?_ ?_
              · ((try dsimp only); (repeat' apply And.intro) <;> first | assumption | (exact Below.drew (by assumption)) | (simp [go_sem]; done))
              clear bb e0 e1 e2 r0 r1 r2 m0 m1 m2 n0 n1 n2 y0 y1 y2
              intro hHeld
              repeat (first
                | (refine seq_reads (by simp only [List.getElem?_toArray, List.getElem?_cons_succ, List.getElem?_cons_zero]; first | done | rfl) (by rfl) ⟨_, fun w _ => eql_read (a := a) (b := b) rfl rfl rfl w, ?_⟩; (try simp only [Act.put, List.setIfInBounds_toArray, List.set_cons_zero, List.set_cons_succ]))
                | (refine seq_skip (by simp only [List.getElem?_toArray, List.getElem?_cons_succ, List.getElem?_cons_zero]; first | done | rfl) (by rfl) ?_; (try simp only [Act.put, List.setIfInBounds_toArray, List.set_cons_zero, List.set_cons_succ]))
                | (refine seq_reads (by simp only [List.getElem?_toArray, List.getElem?_cons_succ, List.getElem?_cons_zero]; first | done | rfl) (by rfl) ?_; apply Exists.intro; apply And.intro; (focus (intro w hSw; (try dsimp only at hSw); go_split_ands; go_simp; (try with_reducible rfl); done)); (try simp only [Act.put, List.setIfInBounds_toArray, List.set_cons_zero, List.set_cons_succ]))
                | (refine seq_pass (by simp only [List.getElem?_toArray, List.getElem?_cons_succ, List.getElem?_cons_zero]; first | done | rfl) (by rfl) hHeld ?_; clear hHeld; intro hHeld; (try simp only [Act.put, List.setIfInBounds_toArray, List.set_cons_zero, List.set_cons_succ]))
                | (refine seq_call (by simp only [List.getElem?_toArray, List.getElem?_cons_succ, List.getElem?_cons_zero]; first | done | rfl) (by rfl) (fun K hK => ?_); go_simp; go_at_call 8; refine (keeps (implShowEdition _ _) (W0 := w) hHeld.1).mono ?_; rintro r w1 ⟨hr, b1, kp⟩; obtain rfl : r = .returned (.string ⟨(M.edShow (M.edRead t.data.toList).1).toArray⟩) := hr; go_simp; refine hK.out _ _ ⟨b1, kp _ _ _ hHeld.2.1, kp _ _ _ hHeld.2.2.1, kp _ _ _ hHeld.2.2.2.1, kp _ _ _ hHeld.2.2.2.2.1, kp _ _ _ hHeld.2.2.2.2.2.1, kp _ _ _ hHeld.2.2.2.2.2.2.1, kp _ _ _ hHeld.2.2.2.2.2.2.2.1, kp _ _ _ hHeld.2.2.2.2.2.2.2.2.1, kp _ _ _ hHeld.2.2.2.2.2.2.2.2.2.1, kp _ _ _ hHeld.2.2.2.2.2.2.2.2.2.2.1, kp _ _ _ hHeld.2.2.2.2.2.2.2.2.2.2.2.1, kp _ _ _ hHeld.2.2.2.2.2.2.2.2.2.2.2.2.1, kp _ _ _ hHeld.2.2.2.2.2.2.2.2.2.2.2.2.2.1, kp _ _ _ hHeld.2.2.2.2.2.2.2.2.2.2.2.2.2.2.1, kp _ _ _ hHeld.2.2.2.2.2.2.2.2.2.2.2.2.2.2.2⟩ ?_; clear hHeld kp b1 hK; intro hHeld; (try simp only [Act.put, List.setIfInBounds_toArray, List.set_cons_zero, List.set_cons_succ]))
                | (refine seq_call (by simp only [List.getElem?_toArray, List.getElem?_cons_succ, List.getElem?_cons_zero]; first | done | rfl) (by rfl) (fun K hK => ?_); go_simp; go_at_call 16; refine (keeps (implOlder _ _ _) (W0 := w) hHeld.1).mono ?_; rintro r w1 ⟨rfl, b1, kp⟩; go_simp; refine hK.out _ _ ⟨b1, kp _ _ _ hHeld.2.1, kp _ _ _ hHeld.2.2.1, kp _ _ _ hHeld.2.2.2.1, kp _ _ _ hHeld.2.2.2.2.1, kp _ _ _ hHeld.2.2.2.2.2.1, kp _ _ _ hHeld.2.2.2.2.2.2.1, kp _ _ _ hHeld.2.2.2.2.2.2.2.1, kp _ _ _ hHeld.2.2.2.2.2.2.2.2.1, kp _ _ _ hHeld.2.2.2.2.2.2.2.2.2.1, kp _ _ _ hHeld.2.2.2.2.2.2.2.2.2.2.1, kp _ _ _ hHeld.2.2.2.2.2.2.2.2.2.2.2.1, kp _ _ _ hHeld.2.2.2.2.2.2.2.2.2.2.2.2.1, kp _ _ _ hHeld.2.2.2.2.2.2.2.2.2.2.2.2.2.1, kp _ _ _ hHeld.2.2.2.2.2.2.2.2.2.2.2.2.2.2.1, kp _ _ _ hHeld.2.2.2.2.2.2.2.2.2.2.2.2.2.2.2⟩ ?_; clear hHeld kp b1 hK; intro hHeld; (try simp only [Act.put, List.setIfInBounds_toArray, List.set_cons_zero, List.set_cons_succ])))
              refine seq_end ?_
              go_split_ands
              go_wp2
              go_meet
              (repeat' apply And.intro) <;> first | rfl | assumption | (rw [hi])
            · have hsh := (M.edShow_read hi).1
              have hsh' : (M.edShow (M.edRead t.data.toList).1 == t.toList) = true := by rw [hsh, ByteArray.toList_eq]; simp
              clear hsh
              refine wp_region_seq (fun w' => Below w.heap.size w w' ∧ w'.cell? ⟨x1.heap.size, 0, none⟩ = some (.int .i64 e.ma) ∧ w'.cell? ⟨x1.heap.size, 1, none⟩ = some (.int .i64 e.mi) ∧ w'.cell? ⟨x1.heap.size, 2, none⟩ = some (.int .i64 e.pa) ∧ w'.cell? ⟨x4.heap.size, 0, none⟩ = some (.int .i64 (M.edRead t.data.toList).1.ma) ∧ w'.cell? ⟨x4.heap.size, 1, none⟩ = some (.int .i64 (M.edRead t.data.toList).1.mi) ∧ w'.cell? ⟨x4.heap.size, 2, none⟩ = some (.int .i64 (M.edRead t.data.toList).1.pa) ∧ w'.cell? ⟨x5.heap.size, 0, none⟩ = some (.int .i64 a.ma) ∧ w'.cell? ⟨x5.heap.size, 1, none⟩ = some (.int .i64 a.mi) ∧ w'.cell? ⟨x5.heap.size, 2, none⟩ = some (.int .i64 a.pa) ∧ w'.cell? ⟨x5.heap.size + 1, 0, none⟩ = some (.int .i64 b.ma) ∧ w'.cell? ⟨x5.heap.size + 1, 1, none⟩ = some (.int .i64 b.mi) ∧ w'.cell? ⟨x5.heap.size + 1, 2, none⟩ = some (.int .i64 b.pa) ∧ w'.cell? ⟨x6.heap.size, 0, none⟩ = some (.int .i64 (M.edRead t.data.toList).1.ma) ∧ w'.cell? ⟨x6.heap.size, 1, none⟩ = some (.int .i64 (M.edRead t.data.toList).1.mi) ∧ w'.cell? ⟨x6.heap.size, 2, none⟩ = some (.int .i64 (M.edRead t.data.toList).1.pa)) [(0, true), (1, true), (2, true), (4, true), (3, false), (5, true), (6, true), (7, true), (8, true), (9, true), (16, true), (17, true), (18, true), (10, false), (11, true), (12, true), (13, true), (14, false), (15, true), (19, true), (20, true), (21, true), (22, true), (23, true), (24, false), (25, true), (26, true), (27, true), (28, false), (29, true), (30, true), (31, true), (32, true), (33, true), (34, false), (35, true), (36, true), (37, true), (38, false), (39, true), (40, true), (41, true), (42, true), (43, false), (44, true), (45, true), (46, true)] (by kernel_rfl) (by kernel_rfl) (fun _ _ _ _ _ h => h) (by kernel_rfl) (by decide) ?_ ?_
              · ((try dsimp only); (repeat' apply And.intro) <;> first | assumption | (exact Below.drew (by assumption)) | (simp [go_sem]; done))
              clear bb e0 e1 e2 r0 r1 r2 m0 m1 m2 n0 n1 n2 y0 y1 y2
              intro hHeld
              repeat (first
                | (refine seq_reads (by simp only [List.getElem?_toArray, List.getElem?_cons_succ, List.getElem?_cons_zero]; first | done | rfl) (by rfl) ⟨_, fun w _ => eql_read (a := a) (b := b) rfl rfl rfl w, ?_⟩; (try simp only [Act.put, List.setIfInBounds_toArray, List.set_cons_zero, List.set_cons_succ]))
                | (refine seq_skip (by simp only [List.getElem?_toArray, List.getElem?_cons_succ, List.getElem?_cons_zero]; first | done | rfl) (by rfl) ?_; (try simp only [Act.put, List.setIfInBounds_toArray, List.set_cons_zero, List.set_cons_succ]))
                | (refine seq_reads (by simp only [List.getElem?_toArray, List.getElem?_cons_succ, List.getElem?_cons_zero]; first | done | rfl) (by rfl) ?_; apply Exists.intro; apply And.intro; (focus (intro w hSw; (try dsimp only at hSw); go_split_ands; go_simp; (try with_reducible rfl); done)); (try simp only [Act.put, List.setIfInBounds_toArray, List.set_cons_zero, List.set_cons_succ]))
                | (refine seq_pass (by simp only [List.getElem?_toArray, List.getElem?_cons_succ, List.getElem?_cons_zero]; first | done | rfl) (by rfl) hHeld ?_; clear hHeld; intro hHeld; (try simp only [Act.put, List.setIfInBounds_toArray, List.set_cons_zero, List.set_cons_succ]))
                | (refine seq_call (by simp only [List.getElem?_toArray, List.getElem?_cons_succ, List.getElem?_cons_zero]; first | done | rfl) (by rfl) (fun K hK => ?_); go_simp; go_at_call 8; refine (keeps (implShowEdition _ _) (W0 := w) hHeld.1).mono ?_; rintro r w1 ⟨hr, b1, kp⟩; obtain rfl : r = .returned (.string ⟨(M.edShow (M.edRead t.data.toList).1).toArray⟩) := hr; go_simp; refine hK.out _ _ ⟨b1, kp _ _ _ hHeld.2.1, kp _ _ _ hHeld.2.2.1, kp _ _ _ hHeld.2.2.2.1, kp _ _ _ hHeld.2.2.2.2.1, kp _ _ _ hHeld.2.2.2.2.2.1, kp _ _ _ hHeld.2.2.2.2.2.2.1, kp _ _ _ hHeld.2.2.2.2.2.2.2.1, kp _ _ _ hHeld.2.2.2.2.2.2.2.2.1, kp _ _ _ hHeld.2.2.2.2.2.2.2.2.2.1, kp _ _ _ hHeld.2.2.2.2.2.2.2.2.2.2.1, kp _ _ _ hHeld.2.2.2.2.2.2.2.2.2.2.2.1, kp _ _ _ hHeld.2.2.2.2.2.2.2.2.2.2.2.2.1, kp _ _ _ hHeld.2.2.2.2.2.2.2.2.2.2.2.2.2.1, kp _ _ _ hHeld.2.2.2.2.2.2.2.2.2.2.2.2.2.2.1, kp _ _ _ hHeld.2.2.2.2.2.2.2.2.2.2.2.2.2.2.2⟩ ?_; clear hHeld kp b1 hK; intro hHeld; (try simp only [Act.put, List.setIfInBounds_toArray, List.set_cons_zero, List.set_cons_succ]))
                | (refine seq_call (by simp only [List.getElem?_toArray, List.getElem?_cons_succ, List.getElem?_cons_zero]; first | done | rfl) (by rfl) (fun K hK => ?_); go_simp; go_at_call 16; refine (keeps (implOlder _ _ _) (W0 := w) hHeld.1).mono ?_; rintro r w1 ⟨rfl, b1, kp⟩; go_simp; refine hK.out _ _ ⟨b1, kp _ _ _ hHeld.2.1, kp _ _ _ hHeld.2.2.1, kp _ _ _ hHeld.2.2.2.1, kp _ _ _ hHeld.2.2.2.2.1, kp _ _ _ hHeld.2.2.2.2.2.1, kp _ _ _ hHeld.2.2.2.2.2.2.1, kp _ _ _ hHeld.2.2.2.2.2.2.2.1, kp _ _ _ hHeld.2.2.2.2.2.2.2.2.1, kp _ _ _ hHeld.2.2.2.2.2.2.2.2.2.1, kp _ _ _ hHeld.2.2.2.2.2.2.2.2.2.2.1, kp _ _ _ hHeld.2.2.2.2.2.2.2.2.2.2.2.1, kp _ _ _ hHeld.2.2.2.2.2.2.2.2.2.2.2.2.1, kp _ _ _ hHeld.2.2.2.2.2.2.2.2.2.2.2.2.2.1, kp _ _ _ hHeld.2.2.2.2.2.2.2.2.2.2.2.2.2.2.1, kp _ _ _ hHeld.2.2.2.2.2.2.2.2.2.2.2.2.2.2.2⟩ ?_; clear hHeld kp b1 hK; intro hHeld; (try simp only [Act.put, List.setIfInBounds_toArray, List.set_cons_zero, List.set_cons_succ])))
              refine seq_end ?_
              go_split_ands
              go_wp2
              go_meet
              (repeat' apply And.intro) <;> first | rfl | assumption | (rw [hi])
          · have hae := M.older_trans a b e hab hbe
            rcases hi : (M.edRead t.data.toList).2 with _ | _
            · refine wp_region_seq (fun w' => Below w.heap.size w w' ∧ w'.cell? ⟨x1.heap.size, 0, none⟩ = some (.int .i64 e.ma) ∧ w'.cell? ⟨x1.heap.size, 1, none⟩ = some (.int .i64 e.mi) ∧ w'.cell? ⟨x1.heap.size, 2, none⟩ = some (.int .i64 e.pa) ∧ w'.cell? ⟨x4.heap.size, 0, none⟩ = some (.int .i64 (M.edRead t.data.toList).1.ma) ∧ w'.cell? ⟨x4.heap.size, 1, none⟩ = some (.int .i64 (M.edRead t.data.toList).1.mi) ∧ w'.cell? ⟨x4.heap.size, 2, none⟩ = some (.int .i64 (M.edRead t.data.toList).1.pa) ∧ w'.cell? ⟨x5.heap.size, 0, none⟩ = some (.int .i64 a.ma) ∧ w'.cell? ⟨x5.heap.size, 1, none⟩ = some (.int .i64 a.mi) ∧ w'.cell? ⟨x5.heap.size, 2, none⟩ = some (.int .i64 a.pa) ∧ w'.cell? ⟨x5.heap.size + 1, 0, none⟩ = some (.int .i64 b.ma) ∧ w'.cell? ⟨x5.heap.size + 1, 1, none⟩ = some (.int .i64 b.mi) ∧ w'.cell? ⟨x5.heap.size + 1, 2, none⟩ = some (.int .i64 b.pa) ∧ w'.cell? ⟨x6.heap.size, 0, none⟩ = some (.int .i64 (M.edRead t.data.toList).1.ma) ∧ w'.cell? ⟨x6.heap.size, 1, none⟩ = some (.int .i64 (M.edRead t.data.toList).1.mi) ∧ w'.cell? ⟨x6.heap.size, 2, none⟩ = some (.int .i64 (M.edRead t.data.toList).1.pa)) [(0, true), (1, true), (2, true), (4, true), (3, false), (5, true), (6, true), (7, true), (8, true), (9, true), (16, true), (17, true), (18, true), (10, false), (11, true), (12, true), (13, true), (14, false), (15, true), (19, true), (20, true), (21, true), (22, true), (23, true), (24, false), (25, true), (26, true), (27, true), (28, false), (29, true), (30, true), (31, true), (32, true), (33, true), (34, false), (35, true), (36, true), (37, true), (38, false), (39, true), (40, true), (41, true), (42, true), (43, false), (44, true), (45, true), (46, true)] (by kernel_rfl) (by kernel_rfl) (fun _ _ _ _ _ h => h) (by kernel_rfl) (by decide) ?_ ?_
              · ((try dsimp only); (repeat' apply And.intro) <;> first | assumption | (exact Below.drew (by assumption)) | (simp [go_sem]; done))
              clear bb e0 e1 e2 r0 r1 r2 m0 m1 m2 n0 n1 n2 y0 y1 y2
              intro hHeld
              repeat (first
                | (refine seq_reads (by simp only [List.getElem?_toArray, List.getElem?_cons_succ, List.getElem?_cons_zero]; first | done | rfl) (by rfl) ⟨_, fun w _ => eql_read (a := a) (b := b) rfl rfl rfl w, ?_⟩; (try simp only [Act.put, List.setIfInBounds_toArray, List.set_cons_zero, List.set_cons_succ]))
                | (refine seq_skip (by simp only [List.getElem?_toArray, List.getElem?_cons_succ, List.getElem?_cons_zero]; first | done | rfl) (by rfl) ?_; (try simp only [Act.put, List.setIfInBounds_toArray, List.set_cons_zero, List.set_cons_succ]))
                | (refine seq_reads (by simp only [List.getElem?_toArray, List.getElem?_cons_succ, List.getElem?_cons_zero]; first | done | rfl) (by rfl) ?_; apply Exists.intro; apply And.intro; (focus (intro w hSw; (try dsimp only at hSw); go_split_ands; go_simp; (try with_reducible rfl); done)); (try simp only [Act.put, List.setIfInBounds_toArray, List.set_cons_zero, List.set_cons_succ]))
                | (refine seq_pass (by simp only [List.getElem?_toArray, List.getElem?_cons_succ, List.getElem?_cons_zero]; first | done | rfl) (by rfl) hHeld ?_; clear hHeld; intro hHeld; (try simp only [Act.put, List.setIfInBounds_toArray, List.set_cons_zero, List.set_cons_succ]))
                | (refine seq_call (by simp only [List.getElem?_toArray, List.getElem?_cons_succ, List.getElem?_cons_zero]; first | done | rfl) (by rfl) (fun K hK => ?_); go_simp; go_at_call 8; refine (keeps (implShowEdition _ _) (W0 := w) hHeld.1).mono ?_; rintro r w1 ⟨hr, b1, kp⟩; obtain rfl : r = .returned (.string ⟨(M.edShow (M.edRead t.data.toList).1).toArray⟩) := hr; go_simp; refine hK.out _ _ ⟨b1, kp _ _ _ hHeld.2.1, kp _ _ _ hHeld.2.2.1, kp _ _ _ hHeld.2.2.2.1, kp _ _ _ hHeld.2.2.2.2.1, kp _ _ _ hHeld.2.2.2.2.2.1, kp _ _ _ hHeld.2.2.2.2.2.2.1, kp _ _ _ hHeld.2.2.2.2.2.2.2.1, kp _ _ _ hHeld.2.2.2.2.2.2.2.2.1, kp _ _ _ hHeld.2.2.2.2.2.2.2.2.2.1, kp _ _ _ hHeld.2.2.2.2.2.2.2.2.2.2.1, kp _ _ _ hHeld.2.2.2.2.2.2.2.2.2.2.2.1, kp _ _ _ hHeld.2.2.2.2.2.2.2.2.2.2.2.2.1, kp _ _ _ hHeld.2.2.2.2.2.2.2.2.2.2.2.2.2.1, kp _ _ _ hHeld.2.2.2.2.2.2.2.2.2.2.2.2.2.2.1, kp _ _ _ hHeld.2.2.2.2.2.2.2.2.2.2.2.2.2.2.2⟩ ?_; clear hHeld kp b1 hK; intro hHeld; (try simp only [Act.put, List.setIfInBounds_toArray, List.set_cons_zero, List.set_cons_succ]))
                | (refine seq_call (by simp only [List.getElem?_toArray, List.getElem?_cons_succ, List.getElem?_cons_zero]; first | done | rfl) (by rfl) (fun K hK => ?_); go_simp; go_at_call 16; refine (keeps (implOlder _ _ _) (W0 := w) hHeld.1).mono ?_; rintro r w1 ⟨rfl, b1, kp⟩; go_simp; refine hK.out _ _ ⟨b1, kp _ _ _ hHeld.2.1, kp _ _ _ hHeld.2.2.1, kp _ _ _ hHeld.2.2.2.1, kp _ _ _ hHeld.2.2.2.2.1, kp _ _ _ hHeld.2.2.2.2.2.1, kp _ _ _ hHeld.2.2.2.2.2.2.1, kp _ _ _ hHeld.2.2.2.2.2.2.2.1, kp _ _ _ hHeld.2.2.2.2.2.2.2.2.1, kp _ _ _ hHeld.2.2.2.2.2.2.2.2.2.1, kp _ _ _ hHeld.2.2.2.2.2.2.2.2.2.2.1, kp _ _ _ hHeld.2.2.2.2.2.2.2.2.2.2.2.1, kp _ _ _ hHeld.2.2.2.2.2.2.2.2.2.2.2.2.1, kp _ _ _ hHeld.2.2.2.2.2.2.2.2.2.2.2.2.2.1, kp _ _ _ hHeld.2.2.2.2.2.2.2.2.2.2.2.2.2.2.1, kp _ _ _ hHeld.2.2.2.2.2.2.2.2.2.2.2.2.2.2.2⟩ ?_; clear hHeld kp b1 hK; intro hHeld; (try simp only [Act.put, List.setIfInBounds_toArray, List.set_cons_zero, List.set_cons_succ])))
              refine seq_end ?_
              go_split_ands
              go_wp2
              go_meet
              (repeat' apply And.intro) <;> first | rfl | assumption | (rw [hi])
            · have hsh := (M.edShow_read hi).1
              have hsh' : (M.edShow (M.edRead t.data.toList).1 == t.toList) = true := by rw [hsh, ByteArray.toList_eq]; simp
              clear hsh
              refine wp_region_seq (fun w' => Below w.heap.size w w' ∧ w'.cell? ⟨x1.heap.size, 0, none⟩ = some (.int .i64 e.ma) ∧ w'.cell? ⟨x1.heap.size, 1, none⟩ = some (.int .i64 e.mi) ∧ w'.cell? ⟨x1.heap.size, 2, none⟩ = some (.int .i64 e.pa) ∧ w'.cell? ⟨x4.heap.size, 0, none⟩ = some (.int .i64 (M.edRead t.data.toList).1.ma) ∧ w'.cell? ⟨x4.heap.size, 1, none⟩ = some (.int .i64 (M.edRead t.data.toList).1.mi) ∧ w'.cell? ⟨x4.heap.size, 2, none⟩ = some (.int .i64 (M.edRead t.data.toList).1.pa) ∧ w'.cell? ⟨x5.heap.size, 0, none⟩ = some (.int .i64 a.ma) ∧ w'.cell? ⟨x5.heap.size, 1, none⟩ = some (.int .i64 a.mi) ∧ w'.cell? ⟨x5.heap.size, 2, none⟩ = some (.int .i64 a.pa) ∧ w'.cell? ⟨x5.heap.size + 1, 0, none⟩ = some (.int .i64 b.ma) ∧ w'.cell? ⟨x5.heap.size + 1, 1, none⟩ = some (.int .i64 b.mi) ∧ w'.cell? ⟨x5.heap.size + 1, 2, none⟩ = some (.int .i64 b.pa) ∧ w'.cell? ⟨x6.heap.size, 0, none⟩ = some (.int .i64 (M.edRead t.data.toList).1.ma) ∧ w'.cell? ⟨x6.heap.size, 1, none⟩ = some (.int .i64 (M.edRead t.data.toList).1.mi) ∧ w'.cell? ⟨x6.heap.size, 2, none⟩ = some (.int .i64 (M.edRead t.data.toList).1.pa)) [(0, true), (1, true), (2, true), (4, true), (3, false), (5, true), (6, true), (7, true), (8, true), (9, true), (16, true), (17, true), (18, true), (10, false), (11, true), (12, true), (13, true), (14, false), (15, true), (19, true), (20, true), (21, true), (22, true), (23, true), (24, false), (25, true), (26, true), (27, true), (28, false), (29, true), (30, true), (31, true), (32, true), (33, true), (34, false), (35, true), (36, true), (37, true), (38, false), (39, true), (40, true), (41, true), (42, true), (43, false), (44, true), (45, true), (46, true)] (by kernel_rfl) (by kernel_rfl) (fun _ _ _ _ _ h => h) (by kernel_rfl) (by decide) ?_ ?_
              · ((try dsimp only); (repeat' apply And.intro) <;> first | assumption | (exact Below.drew (by assumption)) | (simp [go_sem]; done))
              clear bb e0 e1 e2 r0 r1 r2 m0 m1 m2 n0 n1 n2 y0 y1 y2
              intro hHeld
              repeat (first
                | (refine seq_reads (by simp only [List.getElem?_toArray, List.getElem?_cons_succ, List.getElem?_cons_zero]; first | done | rfl) (by rfl) ⟨_, fun w _ => eql_read (a := a) (b := b) rfl rfl rfl w, ?_⟩; (try simp only [Act.put, List.setIfInBounds_toArray, List.set_cons_zero, List.set_cons_succ]))
                | (refine seq_skip (by simp only [List.getElem?_toArray, List.getElem?_cons_succ, List.getElem?_cons_zero]; first | done | rfl) (by rfl) ?_; (try simp only [Act.put, List.setIfInBounds_toArray, List.set_cons_zero, List.set_cons_succ]))
                | (refine seq_reads (by simp only [List.getElem?_toArray, List.getElem?_cons_succ, List.getElem?_cons_zero]; first | done | rfl) (by rfl) ?_; apply Exists.intro; apply And.intro; (focus (intro w hSw; (try dsimp only at hSw); go_split_ands; go_simp; (try with_reducible rfl); done)); (try simp only [Act.put, List.setIfInBounds_toArray, List.set_cons_zero, List.set_cons_succ]))
                | (refine seq_pass (by simp only [List.getElem?_toArray, List.getElem?_cons_succ, List.getElem?_cons_zero]; first | done | rfl) (by rfl) hHeld ?_; clear hHeld; intro hHeld; (try simp only [Act.put, List.setIfInBounds_toArray, List.set_cons_zero, List.set_cons_succ]))
                | (refine seq_call (by simp only [List.getElem?_toArray, List.getElem?_cons_succ, List.getElem?_cons_zero]; first | done | rfl) (by rfl) (fun K hK => ?_); go_simp; go_at_call 8; refine (keeps (implShowEdition _ _) (W0 := w) hHeld.1).mono ?_; rintro r w1 ⟨hr, b1, kp⟩; obtain rfl : r = .returned (.string ⟨(M.edShow (M.edRead t.data.toList).1).toArray⟩) := hr; go_simp; refine hK.out _ _ ⟨b1, kp _ _ _ hHeld.2.1, kp _ _ _ hHeld.2.2.1, kp _ _ _ hHeld.2.2.2.1, kp _ _ _ hHeld.2.2.2.2.1, kp _ _ _ hHeld.2.2.2.2.2.1, kp _ _ _ hHeld.2.2.2.2.2.2.1, kp _ _ _ hHeld.2.2.2.2.2.2.2.1, kp _ _ _ hHeld.2.2.2.2.2.2.2.2.1, kp _ _ _ hHeld.2.2.2.2.2.2.2.2.2.1, kp _ _ _ hHeld.2.2.2.2.2.2.2.2.2.2.1, kp _ _ _ hHeld.2.2.2.2.2.2.2.2.2.2.2.1, kp _ _ _ hHeld.2.2.2.2.2.2.2.2.2.2.2.2.1, kp _ _ _ hHeld.2.2.2.2.2.2.2.2.2.2.2.2.2.1, kp _ _ _ hHeld.2.2.2.2.2.2.2.2.2.2.2.2.2.2.1, kp _ _ _ hHeld.2.2.2.2.2.2.2.2.2.2.2.2.2.2.2⟩ ?_; clear hHeld kp b1 hK; intro hHeld; (try simp only [Act.put, List.setIfInBounds_toArray, List.set_cons_zero, List.set_cons_succ]))
                | (refine seq_call (by simp only [List.getElem?_toArray, List.getElem?_cons_succ, List.getElem?_cons_zero]; first | done | rfl) (by rfl) (fun K hK => ?_); go_simp; go_at_call 16; refine (keeps (implOlder _ _ _) (W0 := w) hHeld.1).mono ?_; rintro r w1 ⟨rfl, b1, kp⟩; go_simp; refine hK.out _ _ ⟨b1, kp _ _ _ hHeld.2.1, kp _ _ _ hHeld.2.2.1, kp _ _ _ hHeld.2.2.2.1, kp _ _ _ hHeld.2.2.2.2.1, kp _ _ _ hHeld.2.2.2.2.2.1, kp _ _ _ hHeld.2.2.2.2.2.2.1, kp _ _ _ hHeld.2.2.2.2.2.2.2.1, kp _ _ _ hHeld.2.2.2.2.2.2.2.2.1, kp _ _ _ hHeld.2.2.2.2.2.2.2.2.2.1, kp _ _ _ hHeld.2.2.2.2.2.2.2.2.2.2.1, kp _ _ _ hHeld.2.2.2.2.2.2.2.2.2.2.2.1, kp _ _ _ hHeld.2.2.2.2.2.2.2.2.2.2.2.2.1, kp _ _ _ hHeld.2.2.2.2.2.2.2.2.2.2.2.2.2.1, kp _ _ _ hHeld.2.2.2.2.2.2.2.2.2.2.2.2.2.2.1, kp _ _ _ hHeld.2.2.2.2.2.2.2.2.2.2.2.2.2.2.2⟩ ?_; clear hHeld kp b1 hK; intro hHeld; (try simp only [Act.put, List.setIfInBounds_toArray, List.set_cons_zero, List.set_cons_succ])))
              refine seq_end ?_
              go_split_ands
              go_wp2
              go_meet
              (repeat' apply And.intro) <;> first | rfl | assumption | (rw [hi])
      case rest =>
        clear bb e0 e1 e2 r0 r1 r2 m0 m1 m2 n0 n1 n2 y0 y1 y2
        obtain ⟨rfl, rfl, bb, e0, e1, e2, -⟩ := hcut
        rcases hk : M.edOk e with _ | _
        · have hs : M.edShow e = [] := (M.edShow_empty e).2 hk
          have hs' : (M.edShow e == ([] : List UInt8)) = true := by simp [hs]
          have hs'' : (M.edShow e).isEmpty = true := by simp [hs]
          clear hs
          go_wp2_with fail
          refine (implEditionOk e _).mono ?_
          rintro r w1 ⟨hr, b1⟩
          rw [hk] at hr
          obtain rfl := hr
          go_wp2
          go_ret
          exact ⟨rfl, next bb b1⟩
        · have hn : M.edShow e ≠ [] := fun h => by rw [M.edShow_empty, hk] at h; cases h
          have hs' : (M.edShow e == ([] : List UInt8)) = false := by simpa using hn
          have hs'' : (M.edShow e).isEmpty = false := by simpa using hn
          have HR := Lib.hid (M.edRead_show e hk)
          have hlen : (⟨(M.edShow e).toArray⟩ : ByteArray).size ≤ 1048576 := by
            have := M.edText_len e hk
            show (M.edShow e).length ≤ _
            unfold M.edShow; rw [if_pos hk]; omega
          clear hn
          go_wp2_with fail
          refine (implReadEdition ⟨(M.edShow e).toArray⟩ _ hlen (hl.below bb)).mono ?_
          rintro r w1 ⟨hr, b1⟩
          rw [show (⟨(M.edShow e).toArray⟩ : ByteArray).data.toList = M.edShow e from rfl, HR.out] at hr
          obtain rfl := hr
          have te : Three _ x1.heap.size e := ⟨e0, e1, e2⟩
          obtain ⟨q0, q1, q2⟩ := (te.below b1).alloc (.cells #[.int .i64 e.ma, .int .i64 e.mi, .int .i64 e.pa] 25)
          have bb1 := (next bb b1).alloc (next bb b1).size (.cells #[.int .i64 e.ma, .int .i64 e.mi, .int .i64 e.pa] 25)
          clear e0 e1 e2 te
          go_wp2
          go_ret
          exact ⟨rfl, bb1⟩

set_option maxRecDepth 100000 in
theorem lifted (os : Os) (started : os.Started) (H : Type) (enc : TypeId × Value → H) :
    ReturnsInHanded {} Tryd.checked os 3 .any (fun w args => (Rows.fnEditionsSpec.pre enc Tryd.prog Tryd.f3 Rows.fnEditionsRow.domain false w args ∧ laidMetH Tryd.prog Rows.fnEditionsRow.laid w) ∧ sizedMet enc Tryd.prog Tryd.f3 (OpenSpec.ofChange Rows.fnEditionsSpec) false w args)
      (Rows.fnEditionsSpec.post enc Tryd.prog Tryd.f3 false true false false) := by
  refine handed_laid (C := Tryd.checked) (X := fun w _ => laidMetH Tryd.prog Rows.fnEditionsRow.laid w) (fun _ _ _ hh h => h.of_heap hh) own started (by kernel_rfl) Tryd.func3
    (ChangeSpec.witness_shaped (enc := enc) (C := Tryd.checked) (os := os) (X := fun w _ => laidMetH Tryd.prog Rows.fnEditionsRow.laid w) false (World.laidAll Tryd.prog os Rows.fnEditionsRow.laid) #[.slice none 0 0] 8 (World.laidAll_os _ _ _)
      (World.shaped_of_ZipB (by kernel_rfl) (by kernel_rfl)) (by kernel_rfl) (by kernel_rfl) (by kernel_rfl)
      (by rw [MakeChecks.laidMetH_plain _ _ _ (by kernel_rfl)]; exact laidMet_laidAll _ (by kernel_rfl) (by kernel_rfl))) ?_
  intro W base args ds gs before hval0 hW hL hsh
  have hval : ∀ (j : Nat) t v, Tryd.f3.params[j]? = some t → args[j]? = some v → Value.okWide Tryd.prog W .any base t v := hval0
  have hW' := hW
  obtain ⟨p, q, hA0, -⟩ := hW
  have hA : DataW.TrodAll enc Tryd.prog W 0 (fun _ => true) true Tryd.f3.params.toList args.toList ds p := hA0
  rw [Tryd.params3] at hA hval
  obtain ⟨v0, vs0, d0, ds0, p0, q0, hargs, rfl, rfl, h0, r0⟩ := trodAll_cons hA
  obtain ⟨rfl, rfl, rfl⟩ := trodAll_nil r0
  obtain rfl : args = #[v0] := by cases args; simp_all
  clear hA0 hval0
  have hv0 := hval 0 _ v0 rfl rfl
  obtain ⟨a0, len0, cap0, rfl, hc⟩ := open_code hv0 h0
  have hl : Laid W := laid_of hL hsh rfl rfl rfl
  exact (walk a0 len0 cap0 W hc hl).mono fun r W' ⟨he, hb⟩ => ⟨_, he, law_post rfl rfl Tryd.underlying4 (by kernel_rfl) (n := 1)
    (fun ds' hd => by rcases ds' with _ | ⟨x0, _ | ⟨y, z⟩⟩ <;> simp at hd <;> exact ⟨rfl, rfl, rfl⟩) rfl hW' hb⟩

theorem over : Rows.fnEditionsRow.holds Tryd.pinned (OpenSpec.ofChange Rows.fnEditionsSpec) :=
  OpenClaim.holds_of_wide 3 Tryd.f3 rfl rfl rfl rfl rfl rfl rfl ⟨rfl, rfl, rfl, rfl, rfl⟩ rfl rfl rfl rfl rfl (by kernel_rfl) Tryd.func3 (by kernel_rfl)
    (of_decide_eq_true (by kernel_rfl)) (by unfold Func.isWrapper; first | (rw [if_pos (by decide +kernel)]; kernel_rfl) | (rw [if_neg (by decide +kernel)]; exact ⟨rfl, rfl⟩))
    (fun os started H enc _ => lifted os started H enc)

theorem proved : Rows.FnEditionsCardSaid :=
  Claim7.holds_tied_plain_at .later [] [.data, .data, .data, .data, .sentinel, .sentinel, .pinned] true (true, "080cb4001b1922b937291c88701213f93f9bec70713935c758c8297674a0e9ac") true
    over (fun _ h => by cases h) (by kernel_rfl) (fun _ h => by cases h) fnEditions_row_tie rfl ⟨rfl, rfl⟩ (by kernel_rfl) rfl
    (fun f fn hf hfn => by
      obtain rfl : f = 3 := Option.some.inj ((show Tryd.prog.funcNamed "loop.example/g00572/laws.FnEditions" = some 3 by kernel_rfl).symm.trans hf) |>.symm
      obtain rfl : fn = Tryd.f3 := (Option.some.inj (Tryd.func3.symm.trans hfn)).symm
      exact ⟨by kernel_rfl, fun j t ht => by
        rw [Tryd.params3] at ht
        have hm : t ∈ [22] := by simpa using Array.mem_of_getElem? ht
        have hall : ([22].all fun u => !Tryd.prog.wantsStandIn u) = true := by kernel_rfl
        exact (show Tryd.prog.wantsStandIn t = false by simpa using List.all_eq_true.1 hall t hm)⟩)
    (by kernel_rfl)
#print axioms proved
end Go.Proofs.YtbojeblefgogcaaDoor.fnEditions
