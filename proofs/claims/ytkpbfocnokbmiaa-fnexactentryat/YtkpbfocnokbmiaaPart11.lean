/- Proved, in parts: Proved: facts on blocks of a few cells: what they hold, that they may be written, and what they hold behind writes into all of their cells; no program's function is named here; no condition. Proved: contracts of the library over this program, each by one application of a theorem of the kit; what each asks stands in its head. Proved: a list of entries is copied into memory of its own, its texts too (newEntries), and likewise a roll's; nothing that was there is written. Condition: texts and lists of at most a million. Proved: the program's newRoll, EntryAt, Tail and Cut answer plain Lean functions, lists in memory of their own; nothing that was there is written. Condition: texts and lists of at most a million. -/
import Derived.Test.YtkpbfocnokbmiaaPart08
import Derived.Shelf.LaysM
import Derived.Shelf.Strconv.Clone
import Derived.Test.YtkpbfocnokbmiaaProg
import Derived.Test.YtkpbfocnokbmiaaPart10
import Derived.Test.YtkpbfocnokbmiaaPart03
import Derived.Laws.CopyOwn
namespace Go.Proofs.Ytkpbfocnokbmiaa
open Go.RowKit

theorem Holds.wr3 {w : World} {g : Nat} {c0 c1 c2 : Value} (h : Holds w g #[c0, c1, c2]) (a0 a1 a2 : Value) : Holds (((w.setCell ⟨g, 0, none⟩ a0).setCell ⟨g, 1, none⟩ a1).setCell ⟨g, 2, none⟩ a2) g #[a0, a1, a2] := by
  have := (((h.putM 0 a0).putM 1 a1).putM 2 a2)
  simpa only [List.setIfInBounds_toArray, List.set_cons_zero, List.set_cons_succ] using this
theorem far_3 {w w1 : World} {B g : Nat} (h : Below B w w1) (hg : B ≤ g) (a0 a1 a2 : Value) : Below B w (((w1.setCell ⟨g, 0, none⟩ a0).setCell ⟨g, 1, none⟩ a1).setCell ⟨g, 2, none⟩ a2) :=
  farM (farM (farM h hg _ _) hg _ _) hg _ _
theorem Holds.off3 {w : World} {g k : Nat} {C : Array Value} (h : Holds w k C) (hk : k ≠ g) (a0 a1 a2 : Value) : Holds (((w.setCell ⟨g, 0, none⟩ a0).setCell ⟨g, 1, none⟩ a1).setCell ⟨g, 2, none⟩ a2) k C :=
  (((h.otherM hk).otherM hk).otherM hk)
theorem Holds.wr10 {w : World} {g : Nat} {c0 c1 c2 c3 c4 c5 c6 c7 c8 c9 : Value} (h : Holds w g #[c0, c1, c2, c3, c4, c5, c6, c7, c8, c9]) (a0 a1 a2 a3 a4 a5 a6 a7 a8 a9 : Value) : Holds ((((((((((w.setCell ⟨g, 0, none⟩ a0).setCell ⟨g, 1, none⟩ a1).setCell ⟨g, 2, none⟩ a2).setCell ⟨g, 3, none⟩ a3).setCell ⟨g, 4, none⟩ a4).setCell ⟨g, 5, none⟩ a5).setCell ⟨g, 6, none⟩ a6).setCell ⟨g, 7, none⟩ a7).setCell ⟨g, 8, none⟩ a8).setCell ⟨g, 9, none⟩ a9) g #[a0, a1, a2, a3, a4, a5, a6, a7, a8, a9] := by
  have := ((((((((((h.putM 0 a0).putM 1 a1).putM 2 a2).putM 3 a3).putM 4 a4).putM 5 a5).putM 6 a6).putM 7 a7).putM 8 a8).putM 9 a9)
  simpa only [List.setIfInBounds_toArray, List.set_cons_zero, List.set_cons_succ] using this
theorem far_10 {w w1 : World} {B g : Nat} (h : Below B w w1) (hg : B ≤ g) (a0 a1 a2 a3 a4 a5 a6 a7 a8 a9 : Value) : Below B w ((((((((((w1.setCell ⟨g, 0, none⟩ a0).setCell ⟨g, 1, none⟩ a1).setCell ⟨g, 2, none⟩ a2).setCell ⟨g, 3, none⟩ a3).setCell ⟨g, 4, none⟩ a4).setCell ⟨g, 5, none⟩ a5).setCell ⟨g, 6, none⟩ a6).setCell ⟨g, 7, none⟩ a7).setCell ⟨g, 8, none⟩ a8).setCell ⟨g, 9, none⟩ a9) :=
  farM (farM (farM (farM (farM (farM (farM (farM (farM (farM h hg _ _) hg _ _) hg _ _) hg _ _) hg _ _) hg _ _) hg _ _) hg _ _) hg _ _) hg _ _
theorem Loose.putM {w : World} {g k j : Nat} (h : Loose w k) (v : Value) : Loose (w.setCell ⟨g, j, none⟩ v) k := fun i => by rw [World.frozen?_setCell]; exact h i
theorem Loose.wr3 {w : World} {g k : Nat} (h : Loose w k) (a0 a1 a2 : Value) : Loose (((w.setCell ⟨g, 0, none⟩ a0).setCell ⟨g, 1, none⟩ a1).setCell ⟨g, 2, none⟩ a2) k := (((h.putM a0).putM a1).putM a2)
theorem Loose.wr10 {w : World} {g k : Nat} (h : Loose w k) (a0 a1 a2 a3 a4 a5 a6 a7 a8 a9 : Value) : Loose ((((((((((w.setCell ⟨g, 0, none⟩ a0).setCell ⟨g, 1, none⟩ a1).setCell ⟨g, 2, none⟩ a2).setCell ⟨g, 3, none⟩ a3).setCell ⟨g, 4, none⟩ a4).setCell ⟨g, 5, none⟩ a5).setCell ⟨g, 6, none⟩ a6).setCell ⟨g, 7, none⟩ a7).setCell ⟨g, 8, none⟩ a8).setCell ⟨g, 9, none⟩ a9) k := ((((((((((h.putM a0).putM a1).putM a2).putM a3).putM a4).putM a5).putM a6).putM a7).putM a8).putM a9)
end Go.Proofs.Ytkpbfocnokbmiaa
namespace Go.Proofs
open Go.Shelf
open Go.RowKit
def Try.laysM316_ren : Go.Shelf.Ren := ⟨fun | 316 => 92 | n => n, fun | 9 => 9 | 3 => 3 | 4 => 4 | 37 => 22 | 0 => 0 | 127 => 119 | 5 => 5 | n => n, fun | n => n⟩
theorem Try.laysM316 : Go.Proofs.LaysM.n316 Try.prog Try.laysM316_ren := {
  mixed := by kernel_rfl
  f316 := Try.func92.trans (congrArg some (by kernel_rfl))
  t0 := Try.underlying0
  a0 := Try.isAgg0
  z0 := Try.sizeOf0
  v0 := Try.zeroValue0
  t3 := Try.underlying3
  a3 := Try.isAgg3
  z3 := Try.sizeOf3
  v3 := Try.zeroValue3
  t4 := Try.underlying4
  a4 := Try.isAgg4
  z4 := Try.sizeOf4
  v4 := Try.zeroValue4
  t9 := Try.underlying9
  a9 := Try.isAgg9
  z9 := Try.sizeOf9
  v9 := Try.zeroValue9
  t37 := Try.underlying22
  a37 := Try.isAgg22
  z37 := Try.sizeOf22
  v37 := Try.zeroValue22
  t127 := Try.underlying119
  a127 := Try.isAgg119
  z127 := Try.sizeOf119
  v127 := Try.zeroValue119
  t5 := Try.underlying5
  a5 := Try.isAgg5
  z5 := Try.sizeOf5
  v5 := Try.zeroValue5
  i0 := by kernel_rfl
  i3 := by kernel_rfl
  i4 := by kernel_rfl
  i5 := by kernel_rfl
  i9 := by kernel_rfl
  i37 := by kernel_rfl
  i127 := by kernel_rfl }
theorem Try.stringslite_Clone (s : ByteArray) (w : World) (hlim : s.size ≤ 281474976710656) :
    Calls Try.prog 92 #[.string s] w fun e w' => e = .returned (.string s) ∧ Below w.heap.size w w' := Any.stringslite_Clone Try.laysM316 s w hlim
end Go.Proofs
namespace Go.Proofs.Ytkpbfocnokbmiaa
open Go Go.RowKit
set_option maxRecDepth 20000
set_option linter.unusedVariables false
/-- A cell that is given what it holds stays as it is. -/
theorem setCell_id {w : World} {g j : Nat} {v : Value} (h : w.cell? ⟨g, j, none⟩ = some v) : w.setCell ⟨g, j, none⟩ v = w := by
  unfold World.cell? at h
  rcases hg : w.heap[g]? with _ | o
  · simp [hg] at h
  · rcases o with ⟨cur, t, fr⟩ | _ | _ | _
    all_goals first
      | (simp [hg] at h; done)
      | (simp only [hg] at h
         have h2 : cur[j]? = some v := by simpa using h
         rw [setCell_eq_setRow w g j cur t fr v hg]
         have e : cur.setIfInBounds j v = cur := by
           apply Array.ext
           · simp
           · intro k h1 h3
             rw [Array.getElem_setIfInBounds]
             split
             · rename_i hk
               subst hk
               have := (Array.getElem?_eq_some_iff.1 h2).2
               exact this.symm
             · rfl
         rw [e]
         exact setRow_self w g cur t fr hg)
theorem rclone_any (s : ByteArray) (w : World) (h : s.size ≤ 1048576) :
    Calls Try.prog 77 #[.string s] w fun r w' => r = .returned (.string s) ∧ Below w.heap.size w w' := by
  go_enter Try.func77, Try.ntmps77
  go_wp2_with fail
  refine (Try.stringslite_Clone s _ (by omega)).mono ?_
  rintro r w' ⟨rfl, hb⟩
  go_wp2
  go_ret
  exact ⟨rfl, hb⟩
/-- What is so of the entry's texts while they are copied. -/
def TwoTexts (w0 : World) (g o4 o8 : Nat) (n p : ByteArray) (w' : World) : Prop :=
  Below w0.heap.size w0 w' ∧ w'.cell? ⟨g, o4, none⟩ = some (.string n) ∧ w'.cell? ⟨g, o8, none⟩ = some (.string p) ∧ w'.frozen? ⟨g, o4, none⟩ = false ∧ w'.frozen? ⟨g, o8, none⟩ = false
theorem TwoTexts.below {w0 w1 w2 : World} {g o4 o8 : Nat} {n p : ByteArray} (h : TwoTexts w0 g o4 o8 n p w1) (hb : Below w1.heap.size w1 w2) : TwoTexts w0 g o4 o8 n p w2 := by
  obtain ⟨h0, h1, h2, h3, h4⟩ := h
  have hg : g < w1.heap.size := World.block_lt_of_cell? w1 _ h1
  exact ⟨next h0 hb, (hb.cell (p := ⟨g, o4, none⟩) hg).trans h1, (hb.cell (p := ⟨g, o8, none⟩) hg).trans h2, (hb.frozen (p := ⟨g, o4, none⟩) hg).trans h3, (hb.frozen (p := ⟨g, o8, none⟩) hg).trans h4⟩
theorem TwoTexts.drew {w0 w1 : World} {g o4 o8 : Nat} {n p : ByteArray} (h : TwoTexts w0 g o4 o8 n p w1) : TwoTexts w0 g o4 o8 n p w1.drew := ⟨h.1.drew, h.2⟩
set_option maxHeartbeats 4000000 in
/-- The texts of an entry at a place that may be written are copied: it stays as it is. -/
theorem ownTexts_any (g O : Nat) (n p : ByteArray) (w : World) (c4 : w.cell? ⟨g, O + 4, none⟩ = some (.string n)) (c8 : w.cell? ⟨g, O + 8, none⟩ = some (.string p)) (f4 : w.frozen? ⟨g, O + 4, none⟩ = false) (f8 : w.frozen? ⟨g, O + 8, none⟩ = false) (hn : n.size ≤ 1048576) (hp : p.size ≤ 1048576) :
    Calls Try.prog 51 #[.pointer (some ⟨g, O, none⟩)] w fun r w' => r = .returned (.tuple #[]) ∧ Below w.heap.size w w' := by
  go_enter Try.func51, Try.ntmps51
  go_upto_region 1 with (fail)
  refine wp_region_seq (TwoTexts w g (O + 4) (O + 8) n p) [(0, true), (1, true), (2, true), (3, true), (4, true), (5, true), (7, true), (8, true), (9, true), (10, true), (6, false), (11, false), (12, true), (13, true), (14, false), (15, true), (16, true), (17, false)] (by kernel_rfl) (by kernel_rfl) (fun _ _ _ _ _ h => h) (by kernel_rfl) (by decide) (show TwoTexts w g (O + 4) (O + 8) n p w.drew from TwoTexts.drew ⟨Below.refl _ _, c4, c8, f4, f8⟩) ?_
  intro hHeld
  repeat (first
    | (refine seq_skip (by simp only [List.getElem?_toArray, List.getElem?_cons_succ, List.getElem?_cons_zero]; first | done | rfl) (by rfl) ?_; (try simp only [Act.put, List.setIfInBounds_toArray, List.set_cons_zero, List.set_cons_succ]))
    | (refine seq_reads (by simp only [List.getElem?_toArray, List.getElem?_cons_succ, List.getElem?_cons_zero]; first | done | rfl) (by rfl) ?_; apply Exists.intro; apply And.intro; (focus (intro w hSw; obtain ⟨hbS, q4, q8, z4, z8⟩ := hSw; go_simp; (try with_reducible rfl); done)); (try simp only [Act.put, List.setIfInBounds_toArray, List.set_cons_zero, List.set_cons_succ]))
    | (refine seq_pass (by simp only [List.getElem?_toArray, List.getElem?_cons_succ, List.getElem?_cons_zero]; first | done | rfl) (by rfl) hHeld ?_; clear hHeld; intro hHeld; (try simp only [Act.put, List.setIfInBounds_toArray, List.set_cons_zero, List.set_cons_succ]))
    | (refine seq_call (by simp only [List.getElem?_toArray, List.getElem?_cons_succ, List.getElem?_cons_zero]; first | done | rfl) (by rfl) (fun K hK => ?_); go_simp; go_at_call 77; refine (rclone_any n _ hn).mono ?_; rintro r w1 ⟨rfl, b1⟩; go_simp; refine hK.out _ _ (hHeld.below b1) ?_; clear hK hHeld; intro hHeld; (try simp only [Act.put, List.setIfInBounds_toArray, List.set_cons_zero, List.set_cons_succ]))
    | (refine seq_call (by simp only [List.getElem?_toArray, List.getElem?_cons_succ, List.getElem?_cons_zero]; first | done | rfl) (by rfl) (fun K hK => ?_); go_simp; go_at_call 77; refine (rclone_any p _ hp).mono ?_; rintro r w1 ⟨rfl, b1⟩; go_simp; refine hK.out _ _ (hHeld.below b1) ?_; clear hK hHeld; intro hHeld; (try simp only [Act.put, List.setIfInBounds_toArray, List.set_cons_zero, List.set_cons_succ]))
    | (refine seq_call (by simp only [List.getElem?_toArray, List.getElem?_cons_succ, List.getElem?_cons_zero]; first | done | rfl) (by rfl) (fun K hK => ?_); obtain ⟨hbS, q4, q8, z4, z8⟩ := id hHeld; go_simp; refine hK.out _ _ (by rw [setCell_id (by assumption)]; exact hHeld) ?_; clear hK hHeld; intro hHeld; (try simp only [Act.put, List.setIfInBounds_toArray, List.set_cons_zero, List.set_cons_succ])))
  refine seq_end ?_
  have HB := Lib.hid hHeld.1
  clear hHeld
  go_wp2
  refine bodyPost_end (results_none rfl _ _ _) rfl ?_
  exact ⟨rfl, HB.out⟩
end Go.Proofs.Ytkpbfocnokbmiaa
namespace Go.Proofs.Ytkpbfocnokbmiaa
open Go.RowKit
set_option maxRecDepth 20000
set_option linter.unusedVariables false
namespace M
def entryAns (b r : Int) (l : List En) (i : Int) : En × Bool := match entryAt b r l i with
  | some e => (e, true)
  | none => (⟨0, or0⟩, false)
end M
theorem row_set {B g : Nat} {w : World} {t : TypeId} {kk n : Nat} {v : Value} {C : List Value} (h : w.ownsRow B t kk v n C) (hg : g < B) (i : Nat) (u : Value) : (w.setCell ⟨g, i, none⟩ u).ownsRow B t kk v n C := by
  obtain ⟨hl, h0 | ⟨k, cap, cur, rfl, hb, hh, hr⟩⟩ := h
  · exact ⟨hl, .inl h0⟩
  · exact ⟨hl, .inr ⟨k, cap, cur, rfl, hb, (Below.heap_setCell _ _ _ _ (by show k ≠ g; omega)).trans hh, hr⟩⟩
theorem row_set3 {B g : Nat} {w : World} {t : TypeId} {kk n : Nat} {v : Value} {C : List Value} (h : w.ownsRow B t kk v n C) (hg : g < B) (a0 a1 a2 : Value) : (((w.setCell ⟨g, 0, none⟩ a0).setCell ⟨g, 1, none⟩ a1).setCell ⟨g, 2, none⟩ a2).ownsRow B t kk v n C :=
  row_set (row_set (row_set h hg 0 _) hg 1 _) hg 2 _
theorem results_iEntryAt (e : M.En) (t : Bool) (R : Nat) (W : World) (tmps : Array Value) (h4 : tmps.getD 4 undef = .pointer (some ⟨R, 0, none⟩)) (h5 : tmps.getD 5 undef = .bool t) (hW : Holds W R (enC e)) :
    (results Try.f16 tmps).run Try.prog W = .ok (.tuple #[enV e, .bool t]) W := by
  obtain ⟨q0, q1, q2, q3, q4, q5, q6, q7, q8, q9⟩ := hW.ten
  simp at h4 h5
  simp [results, Try.results16, go_sem, h4, h5, q0, q1, q2, q3, q4, q5, q6, q7, q8, q9]
set_option maxHeartbeats 4000000 in
theorem implEntryAt (b r : Int) (A : Option Addr) (l : List M.En) (cap : Nat) (i : Int) (w : World) (hl : Ens w A l) (hlen : l.length ≤ 1048576) (hp : ∀ e ∈ l, enIn 1048576 e) (hlc : l.length ≤ cap) :
    Calls Try.prog 16 #[roV b r A l.length cap, .int .i64 i] w fun e w' => e = .returned (.tuple #[enV (M.entryAns b r l i).1, .bool (M.entryAns b r l i).2]) ∧ Below w.heap.size w w' := by
  have hM := ((Mem.start w).new (roA b r A l.length cap) 26).new (enC ⟨0, M.or0⟩) 37
  simp only [World.size_alloc] at hM
  have HL := Lib.hid hl
  have HP := Lib.hid hp
  clear hl hp
  rcases h1 : M.rollOk b r l with _ | _
  · have HE : Hid (M.entryAns b r l i = (⟨0, M.or0⟩, false)) := Lib.hid (by unfold M.entryAns; rw [M.entryAt_none (.inl h1)])
    have H1 := Lib.hid h1
    clear h1
    go_enter Try.func16, Try.ntmps16
    go_wp2_with fail
    refine (implRollOk b r A l cap _ (HL.out.below hM.1) hlen HP.out).mono ?_
    rintro e x1 ⟨rfl, b1⟩
    rw [H1.out]
    replace hM := hM.below b1
    clear b1
    have hM1 := hM
    clear hM
    obtain ⟨q0, q1, q2, q3, q4, q5, q6, q7, q8, q9⟩ := (hM1.get (w.heap.size + 1) (enC ⟨0, M.or0⟩) (by simp)).ten
    have z0 := hM1.loose (w.heap.size + 1) (by simp) 0
    have z1 := hM1.loose (w.heap.size + 1) (by simp) 1
    have z2 := hM1.loose (w.heap.size + 1) (by simp) 2
    have z3 := hM1.loose (w.heap.size + 1) (by simp) 3
    have z4 := hM1.loose (w.heap.size + 1) (by simp) 4
    have z5 := hM1.loose (w.heap.size + 1) (by simp) 5
    have z6 := hM1.loose (w.heap.size + 1) (by simp) 6
    have z7 := hM1.loose (w.heap.size + 1) (by simp) 7
    have z8 := hM1.loose (w.heap.size + 1) (by simp) 8
    have z9 := hM1.loose (w.heap.size + 1) (by simp) 9
    have zq := (hM1.get (w.heap.size + 1) (enC ⟨0, M.or0⟩) (by simp)).1
    have HM1 := Lib.hid hM1
    clear hM1
    go_wp2
    refine bodyPost_ret (results_iEntryAt ⟨0, M.or0⟩ false (w.heap.size + 1) _ _ rfl rfl ((HM1.out.get (w.heap.size + 1) (enC ⟨0, M.or0⟩) (by simp)).wr10 _ _ _ _ _ _ _ _ _ _)) rfl ⟨by rw [HE.out], far_10 HM1.out.1 (by omega) _ _ _ _ _ _ _ _ _ _⟩
  obtain ⟨g0, g1, -⟩ := M.rollOk_parts h1
  rcases place_of b i l.length with hi | hi | ⟨k, hk, hi⟩
  · have HE : Hid (M.entryAns b r l i = (⟨0, M.or0⟩, false)) := Lib.hid (by unfold M.entryAns; rw [M.entryAt_none (by omega)])
    have HK : Hid ((decide (b ≤ i) && decide (i ≤ b + l.length)) = false) := Lib.hid (by simp; omega)
    have H1 := Lib.hid h1
    clear h1 hi
    go_enter Try.func16, Try.ntmps16
    go_wp2_with fail
    refine (implRollOk b r A l cap _ (HL.out.below hM.1) hlen HP.out).mono ?_
    rintro e x1 ⟨rfl, b1⟩
    rw [H1.out]
    replace hM := hM.below b1
    clear b1
    obtain ⟨p0, p1, p2⟩ := (hM.get w.heap.size (roA b r A l.length cap) (by simp)).three
    go_wp2_with fail
    refine (knows_any b r A l cap i _ g0 g1 hlen).mono ?_
    rintro e x2 ⟨rfl, b2⟩
    rw [HK.out]
    replace hM := hM.below b2
    clear b2
    clear p0 p1 p2
    have hM1 := hM
    clear hM
    obtain ⟨q0, q1, q2, q3, q4, q5, q6, q7, q8, q9⟩ := (hM1.get (w.heap.size + 1) (enC ⟨0, M.or0⟩) (by simp)).ten
    have z0 := hM1.loose (w.heap.size + 1) (by simp) 0
    have z1 := hM1.loose (w.heap.size + 1) (by simp) 1
    have z2 := hM1.loose (w.heap.size + 1) (by simp) 2
    have z3 := hM1.loose (w.heap.size + 1) (by simp) 3
    have z4 := hM1.loose (w.heap.size + 1) (by simp) 4
    have z5 := hM1.loose (w.heap.size + 1) (by simp) 5
    have z6 := hM1.loose (w.heap.size + 1) (by simp) 6
    have z7 := hM1.loose (w.heap.size + 1) (by simp) 7
    have z8 := hM1.loose (w.heap.size + 1) (by simp) 8
    have z9 := hM1.loose (w.heap.size + 1) (by simp) 9
    have zq := (hM1.get (w.heap.size + 1) (enC ⟨0, M.or0⟩) (by simp)).1
    have HM1 := Lib.hid hM1
    clear hM1
    go_wp2
    refine bodyPost_ret (results_iEntryAt ⟨0, M.or0⟩ false (w.heap.size + 1) _ _ rfl rfl ((HM1.out.get (w.heap.size + 1) (enC ⟨0, M.or0⟩) (by simp)).wr10 _ _ _ _ _ _ _ _ _ _)) rfl ⟨by rw [HE.out], far_10 HM1.out.1 (by omega) _ _ _ _ _ _ _ _ _ _⟩
  · subst hi
    have HE : Hid (M.entryAns i r l i = (⟨0, M.or0⟩, false)) := Lib.hid (by unfold M.entryAns; rw [M.entryAt_none (by omega)])
    have HK : Hid ((decide (i ≤ i) && decide (i ≤ i + l.length)) = true) := Lib.hid (by simp; omega)
    have H1 := Lib.hid h1
    clear h1
    go_enter Try.func16, Try.ntmps16
    go_wp2_with fail
    refine (implRollOk i r A l cap _ (HL.out.below hM.1) hlen HP.out).mono ?_
    rintro e x1 ⟨rfl, b1⟩
    rw [H1.out]
    replace hM := hM.below b1
    clear b1
    obtain ⟨p0, p1, p2⟩ := (hM.get w.heap.size (roA i r A l.length cap) (by simp)).three
    go_wp2_with fail
    refine (knows_any i r A l cap i _ g0 g1 hlen).mono ?_
    rintro e x2 ⟨rfl, b2⟩
    rw [HK.out]
    replace hM := hM.below b2
    clear b2
    clear p0 p1 p2
    obtain ⟨p0, p1, p2⟩ := (hM.get w.heap.size (roA i r A l.length cap) (by simp)).three
    have hM1 := hM
    clear hM
    obtain ⟨q0, q1, q2, q3, q4, q5, q6, q7, q8, q9⟩ := (hM1.get (w.heap.size + 1) (enC ⟨0, M.or0⟩) (by simp)).ten
    have z0 := hM1.loose (w.heap.size + 1) (by simp) 0
    have z1 := hM1.loose (w.heap.size + 1) (by simp) 1
    have z2 := hM1.loose (w.heap.size + 1) (by simp) 2
    have z3 := hM1.loose (w.heap.size + 1) (by simp) 3
    have z4 := hM1.loose (w.heap.size + 1) (by simp) 4
    have z5 := hM1.loose (w.heap.size + 1) (by simp) 5
    have z6 := hM1.loose (w.heap.size + 1) (by simp) 6
    have z7 := hM1.loose (w.heap.size + 1) (by simp) 7
    have z8 := hM1.loose (w.heap.size + 1) (by simp) 8
    have z9 := hM1.loose (w.heap.size + 1) (by simp) 9
    have zq := (hM1.get (w.heap.size + 1) (enC ⟨0, M.or0⟩) (by simp)).1
    have HM1 := Lib.hid hM1
    clear hM1
    go_wp2
    refine bodyPost_ret (results_iEntryAt ⟨0, M.or0⟩ false (w.heap.size + 1) _ _ rfl rfl ((HM1.out.get (w.heap.size + 1) (enC ⟨0, M.or0⟩) (by simp)).wr10 _ _ _ _ _ _ _ _ _ _)) rfl ⟨by rw [HE.out], far_10 HM1.out.1 (by omega) _ _ _ _ _ _ _ _ _ _⟩
  · subst hi
    have HE : Hid (M.entryAns b r l (b + k + 1) = (l[k], true)) := Lib.hid (by unfold M.entryAns; rw [M.entryAt_at hk h1])
    have HK : Hid ((decide (b ≤ b + (k : Int) + 1) && decide (b + (k : Int) + 1 ≤ b + l.length)) = true) := Lib.hid (by simp; omega)
    have H1 := Lib.hid h1
    obtain ⟨hn, hg⟩ : enIn 1048576 l[k] := HP.out l[k] (List.getElem_mem hk)
    have e1 : b + (k : Int) + 1 - 1 = b + k := by omega
    have e2 : ¬ b + (k : Int) + 1 = b := by omega
    have hlk : 0 < l.length - k := by omega
    clear h1
    go_enter Try.func16, Try.ntmps16
    go_wp2_with fail
    refine (implRollOk b r A l cap _ (HL.out.below hM.1) hlen HP.out).mono ?_
    rintro e x1 ⟨rfl, b1⟩
    rw [H1.out]
    replace hM := hM.below b1
    clear b1
    obtain ⟨p0, p1, p2⟩ := (hM.get w.heap.size (roA b r A l.length cap) (by simp)).three
    go_wp2_with fail
    refine (knows_any b r A l cap _ _ g0 g1 hlen).mono ?_
    rintro e x2 ⟨rfl, b2⟩
    rw [HK.out]
    replace hM := hM.below b2
    clear b2
    clear p0 p1 p2
    obtain ⟨p0, p1, p2⟩ := (hM.get w.heap.size (roA b r A l.length cap) (by simp)).three
    go_wp2_with fail
    refine (behind_any b r A l cap k _ g0 g1 hlen hlc (by omega)).mono ?_
    rintro e x3 ⟨rfl, b3⟩
    replace hM := hM.below b3
    clear b3
    have hd := (HL.out.below hM.1).cutDrop k (Nat.le_refl l.length)
    have hz : 0 < (l.drop k).length := by rw [List.length_drop]; omega
    have HZ : Hid ((l.drop k)[0] = l[k]) := Lib.hid (by simp)
    obtain ⟨bb, oo, hA, -, c0, c1, c2, c3, c4, c5, c6, c7, c8, c9⟩ := Ens_at hd hz
    rw [hA]
    simp only [Nat.zero_mul, Nat.add_zero, HZ.out] at c0 c1 c2 c3 c4 c5 c6 c7 c8 c9
    replace hM := hM.new (enC l[k]) 37
    clear hA hd p0 p1 p2
    have u4 := (hM.get x3.heap.size (enC l[k]) (by simp)).ten.2.2.2.2.1
    have u8 := (hM.get x3.heap.size (enC l[k]) (by simp)).ten.2.2.2.2.2.2.2.2.1
    have f4 := hM.loose x3.heap.size (by simp) 4
    have f8 := hM.loose x3.heap.size (by simp) 8
    have hcall := ownTexts_any x3.heap.size 0 l[k].order.deed.name l[k].order.deed.page _ u4 u8 f4 f8 hn hg
    have HC := Lib.hid hcall
    clear u4 u8 f4 f8 hcall
    go_wp2_with fail
    refine HC.out.mono ?_
    rintro e x4 ⟨rfl, b4⟩
    have hM1 := hM.below b4
    clear hM b4 c0 c1 c2 c3 c4 c5 c6 c7 c8 c9
    obtain ⟨c0, c1, c2, c3, c4, c5, c6, c7, c8, c9⟩ := (hM1.get x3.heap.size (enC l[k]) (by simp)).ten
    obtain ⟨q0, q1, q2, q3, q4, q5, q6, q7, q8, q9⟩ := (hM1.get (w.heap.size + 1) (enC ⟨0, M.or0⟩) (by simp)).ten
    have z0 := hM1.loose (w.heap.size + 1) (by simp) 0
    have z1 := hM1.loose (w.heap.size + 1) (by simp) 1
    have z2 := hM1.loose (w.heap.size + 1) (by simp) 2
    have z3 := hM1.loose (w.heap.size + 1) (by simp) 3
    have z4 := hM1.loose (w.heap.size + 1) (by simp) 4
    have z5 := hM1.loose (w.heap.size + 1) (by simp) 5
    have z6 := hM1.loose (w.heap.size + 1) (by simp) 6
    have z7 := hM1.loose (w.heap.size + 1) (by simp) 7
    have z8 := hM1.loose (w.heap.size + 1) (by simp) 8
    have z9 := hM1.loose (w.heap.size + 1) (by simp) 9
    have zq := (hM1.get (w.heap.size + 1) (enC ⟨0, M.or0⟩) (by simp)).1
    have HM1 := Lib.hid hM1
    clear hM1
    go_wp2
    refine bodyPost_ret (results_iEntryAt l[k] true (w.heap.size + 1) _ _ rfl rfl ((HM1.out.get (w.heap.size + 1) (enC ⟨0, M.or0⟩) (by simp)).wr10 _ _ _ _ _ _ _ _ _ _)) rfl ⟨by rw [HE.out], far_10 HM1.out.1 (by omega) _ _ _ _ _ _ _ _ _ _⟩
/-- What is so while Cut's answer is put together: the roll's box stands, the answer's box may be written, nothing old has changed. -/
def CutS (w : World) (C : Array Value) (w' : World) : Prop :=
  Below w.heap.size w w' ∧ Holds w' w.heap.size C ∧ w.heap.size + 1 < w'.heap.size ∧ (∃ a0 a1 a2, Holds w' (w.heap.size + 1) #[a0, a1, a2]) ∧ Loose w' (w.heap.size + 1)
theorem CutS.below {w w1 w2 : World} {C : Array Value} (h : CutS w C w1) (hb : Below w1.heap.size w1 w2) : CutS w C w2 := by
  obtain ⟨h0, h1, h2, ⟨a0, a1, a2, h3⟩, h4⟩ := h
  exact ⟨next h0 hb, h1.below hb, Nat.lt_of_lt_of_le h2 hb.size, ⟨a0, a1, a2, h3.below hb⟩, h4.below h2 hb⟩
theorem CutS.put {w w1 : World} {C : Array Value} (h : CutS w C w1) (x0 x1 x2 : Value) : CutS w C (((w1.setCell ⟨w.heap.size + 1, 0, none⟩ x0).setCell ⟨w.heap.size + 1, 1, none⟩ x1).setCell ⟨w.heap.size + 1, 2, none⟩ x2) := by
  obtain ⟨h0, h1, h2, ⟨a0, a1, a2, h3⟩, h4⟩ := h
  exact ⟨far_3 h0 (by omega) _ _ _, h1.off3 (by omega) _ _ _, by simpa using h2, ⟨x0, x1, x2, h3.wr3 _ _ _⟩, h4.wr3 _ _ _⟩
theorem CutS.drew {w w1 : World} {C : Array Value} (h : CutS w C w1) : CutS w C w1.drew := ⟨h.1.drew, h.2⟩
theorem CutS.of {w x : World} {C : Array Value} (h : Mem w [(w.heap.size + 1, roA 0 0 none 0 0), (w.heap.size, C)] [w.heap.size + 1, w.heap.size] x) : CutS w C x :=
  ⟨h.1, h.get w.heap.size C (by simp), (h.get (w.heap.size + 1) (roA 0 0 none 0 0) (by simp)).1, ⟨_, _, _, h.get (w.heap.size + 1) (roA 0 0 none 0 0) (by simp)⟩, h.loose (w.heap.size + 1) (by simp)⟩
end Go.Proofs.Ytkpbfocnokbmiaa
