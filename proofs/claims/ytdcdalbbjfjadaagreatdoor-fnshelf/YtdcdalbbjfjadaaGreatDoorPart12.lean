/- Proved, in parts: Proved: CopyIn of the model and of the program answer one plain Lean function; they write nothing that was there. Condition: texts of at most a million bytes, at most a million copies. -/
import Derived.Test.YtdcdalbbjfjadaaGreatDoorPart10
import Derived.Test.YtdcdalbbjfjadaaGreatDoorPart07
import Derived.Test.YtdcdalbbjfjadaaGreatDoorPart11
namespace Go.Proofs.YtdcdalbbjfjadaaGreatDoor
open Go.RowKit
set_option maxRecDepth 20000

abbrev edL (e : M.Ed) : Array Value := #[.int .i64 e.ma, .int .i64 e.mi, .int .i64 e.pa]


set_option maxHeartbeats 2000000 in
theorem l4Find_any (name : ByteArray) (owner : Int) (A : Option Addr) (l : List M.Cp) (cap : Nat) (e : M.Ed) (w : World) (hl : Cps w A l) (hlen : l.length ≤ 1048576) :
    Calls Tryz.prog 67 #[wkV name owner A l.length cap, edV e] w fun r w' => r = .returned (.int .i64 (M.findInt l e)) ∧ Below w.heap.size w w' := by
  have b0 := ((Below.refl w.heap.size w).alloc (Nat.le_refl _) (.cells (wkL name owner A l.length cap) 39)).alloc (by simp) (.cells (edL e) 26)
  have h0 := (holds_new w (wkL name owner A l.length cap) 39).alloc (.cells (edL e) 26)
  have h1 := holds_new (w.alloc (.cells (wkL name owner A l.length cap) 39)) (edL e) 26
  simp only [World.size_alloc] at h1
  have HQ := Lib.hid (show _ ∧ _ ∧ _ from ⟨b0, h0, h1⟩)
  clear b0 h0 h1
  go_enter Tryz.func67, Tryz.ntmps67
  go_wp2
  go_loopw [5] (fun i wr => ∃ j : Nat, i = .int .i64 j ∧ j ≤ l.length ∧ NoneTo (M.isEd e) l j ∧ Below w.heap.size w wr ∧ Holds wr w.heap.size (wkL name owner A l.length cap) ∧ Holds wr (w.heap.size + 1) (edL e)) (fun i _ => l.length - (intOf i).toNat)
  case atStart => exact ⟨0, rfl, Nat.zero_le _, NoneTo.zero _ l, HQ.out⟩
  case round =>
    obtain ⟨j, rfl, hj, hn, hb, h0, h1⟩ := hrel
    clear HQ
    have z0 := h0.1
    have z1 := h1.1
    obtain ⟨p0, p1, p2⟩ := h0.three
    obtain ⟨q0, q1, q2⟩ := h1.three
    have HN := Lib.hid hn
    have H0 := Lib.hid h0
    have H1 := Lib.hid h1
    clear h0 h1 hn
    by_cases hlt : j < l.length
    · obtain ⟨b, o, rfl, zb, c0, c1, c2, c3, c4⟩ := Cps_at (hl.below hb) hlt
      have HL := Lib.hid hl
      clear hl c3 c4
      rcases hc : decide (l[j].ed = e) with _ | _
      · have HC := Lib.hid hc
        clear hc
        go_wp2_with fail
        refine wp_region_seq (fun w' => Below wr.heap.size wr w') [(0, true), (1, true), (2, true), (3, true), (4, true), (5, true), (6, true), (7, true)] (by kernel_rfl) (by kernel_rfl) (fun _ _ _ _ _ h => h) (by kernel_rfl) (by decide) (Below.refl _ _).drew ?_
        intro hHeld
        repeat (first
          | (refine seq_read (by simp only [List.getElem?_toArray, List.getElem?_cons_succ, List.getElem?_cons_zero]; first | done | rfl) (by rfl) (fun w _ => eql_read rfl rfl rfl w) ?_; (try simp only [Act.put, List.setIfInBounds_toArray, List.set_cons_zero, List.set_cons_succ]))
          | (refine seq_skip (by simp only [List.getElem?_toArray, List.getElem?_cons_succ, List.getElem?_cons_zero]; first | done | rfl) (by rfl) ?_; (try simp only [Act.put, List.setIfInBounds_toArray, List.set_cons_zero, List.set_cons_succ]))
          | (refine seq_reads (by simp only [List.getElem?_toArray, List.getElem?_cons_succ, List.getElem?_cons_zero]; first | done | rfl) (by rfl) ?_; apply Exists.intro; apply And.intro; (focus (intro w hSw; obtain ⟨hcS, -⟩ := bcell hSw; go_simp; (try with_reducible rfl); done)); (try simp only [Act.put, List.setIfInBounds_toArray, List.set_cons_zero, List.set_cons_succ]))
          | (refine seq_pass (by simp only [List.getElem?_toArray, List.getElem?_cons_succ, List.getElem?_cons_zero]; first | done | rfl) (by rfl) hHeld ?_; clear hHeld; intro hHeld; (try simp only [Act.put, List.setIfInBounds_toArray, List.set_cons_zero, List.set_cons_succ])))
        refine seq_end ?_
        rw [HC.out]
        go_wp2
        go_roundw
        case rel => exact ⟨j + 1, by go_num, by omega, HN.out.next hlt HC.out, next hb hHeld, H0.out.below hHeld, H1.out.below hHeld⟩
        case measure => simp [intOf]; omega
      · have HC := Lib.hid hc
        have hf : M.findEd l e = j := HN.out.hit hlt hc
        have HF := Lib.hid hf
        clear hc hf
        go_wp2_with fail
        refine wp_region_seq (fun w' => Below wr.heap.size wr w') [(0, true), (1, true), (2, true), (3, true), (4, true), (5, true), (6, true), (7, true)] (by kernel_rfl) (by kernel_rfl) (fun _ _ _ _ _ h => h) (by kernel_rfl) (by decide) (Below.refl _ _).drew ?_
        intro hHeld
        repeat (first
          | (refine seq_read (by simp only [List.getElem?_toArray, List.getElem?_cons_succ, List.getElem?_cons_zero]; first | done | rfl) (by rfl) (fun w _ => eql_read rfl rfl rfl w) ?_; (try simp only [Act.put, List.setIfInBounds_toArray, List.set_cons_zero, List.set_cons_succ]))
          | (refine seq_skip (by simp only [List.getElem?_toArray, List.getElem?_cons_succ, List.getElem?_cons_zero]; first | done | rfl) (by rfl) ?_; (try simp only [Act.put, List.setIfInBounds_toArray, List.set_cons_zero, List.set_cons_succ]))
          | (refine seq_reads (by simp only [List.getElem?_toArray, List.getElem?_cons_succ, List.getElem?_cons_zero]; first | done | rfl) (by rfl) ?_; apply Exists.intro; apply And.intro; (focus (intro w hSw; obtain ⟨hcS, -⟩ := bcell hSw; go_simp; (try with_reducible rfl); done)); (try simp only [Act.put, List.setIfInBounds_toArray, List.set_cons_zero, List.set_cons_succ]))
          | (refine seq_pass (by simp only [List.getElem?_toArray, List.getElem?_cons_succ, List.getElem?_cons_zero]; first | done | rfl) (by rfl) hHeld ?_; clear hHeld; intro hHeld; (try simp only [Act.put, List.setIfInBounds_toArray, List.set_cons_zero, List.set_cons_succ])))
        refine seq_end ?_
        rw [HC.out]
        go_wp2
        go_ret
        exact ⟨ret_int (by rw [M.findInt_pos (by rw [HF.out]; exact hlt), HF.out]), next hb hHeld⟩
    · have hj' : j = l.length := by omega
      subst hj'
      have hf : M.findEd l e = l.length := HN.out.all
      have HF := Lib.hid hf
      clear hf
      go_wp2
      go_ret
      exact ⟨ret_int (M.findInt_neg HF.out).symm, hb⟩


theorem results_sci (c : M.Cp) (b : Bool) (R : Nat) (W : World) (tmps : Array Value) (h2 : tmps.getD 4 undef = .pointer (some ⟨R, 0, none⟩)) (h3 : tmps.getD 5 undef = .bool b) (hW : Holds W R #[.int .i64 c.ed.ma, .int .i64 c.ed.mi, .int .i64 c.ed.pa, .string c.page, .bool c.hidden]) :
    (results Tryz.f65 tmps).run Tryz.prog W = .ok (.tuple #[cpV c, .bool b]) W := by
  obtain ⟨q0, q1, q2, q3, q4⟩ := hW.at5
  simp at h2 h3
  simp [results, Tryz.results65, go_sem, h2, h3, q0, q1, q2, q3, q4]

theorem results_ici (c : M.Cp) (b : Bool) (R : Nat) (W : World) (tmps : Array Value) (h2 : tmps.getD 4 undef = .pointer (some ⟨R, 0, none⟩)) (h3 : tmps.getD 5 undef = .bool b) (hW : Holds W R #[.int .i64 c.ed.ma, .int .i64 c.ed.mi, .int .i64 c.ed.pa, .string c.page, .bool c.hidden]) :
    (results Tryz.f106 tmps).run Tryz.prog W = .ok (.tuple #[cpV c, .bool b]) W := by
  obtain ⟨q0, q1, q2, q3, q4⟩ := hW.at5
  simp at h2 h3
  simp [results, Tryz.results106, go_sem, h2, h3, q0, q1, q2, q3, q4]


set_option maxHeartbeats 2000000 in
theorem specCopyIn (name : ByteArray) (owner : Int) (A : Option Addr) (l : List M.Cp) (cap : Nat) (e : M.Ed) (w : World) (hl : Cps w A l) (hn : name.size ≤ maxLen) (hlen : l.length ≤ 1048576) (hp : ∀ c ∈ l, c.page.size ≤ maxLen) :
    Calls Tryz.prog 65 #[wkV name owner A l.length cap, edV e] w fun r w' => r = .returned (.tuple #[cpV (M.copyIn ⟨name, owner, l⟩ e).1, .bool (M.copyIn ⟨name, owner, l⟩ e).2]) ∧ Below w.heap.size w w' := by
  have HP := Lib.hid hp
  clear hp
  have b0 := (((Below.refl w.heap.size w).alloc (Nat.le_refl _) (.cells (wkL name owner A l.length cap) 39)).alloc (by simp) (.cells (edL e) 26)).alloc (by simp; omega) (.cells (cpV M.zeroCp).cells 71)
  have h0 := ((holds_new w (wkL name owner A l.length cap) 39).alloc (.cells (edL e) 26)).alloc (.cells (cpV M.zeroCp).cells 71)
  have h1 := (holds_new (w.alloc (.cells (wkL name owner A l.length cap) 39)) (edL e) 26).alloc (.cells (cpV M.zeroCp).cells 71)
  have h2 := holds_new ((w.alloc (.cells (wkL name owner A l.length cap) 39)).alloc (.cells (edL e) 26)) (cpV M.zeroCp).cells 71
  have f2 := loose_new ((w.alloc (.cells (wkL name owner A l.length cap) 39)).alloc (.cells (edL e) 26)) (cpV M.zeroCp).cells 71
  have hl3 := ((hl.alloc (.cells (wkL name owner A l.length cap) 39)).alloc (.cells (edL e) 26)).alloc (.cells (cpV M.zeroCp).cells 71)
  simp only [World.size_alloc] at h1 h2 f2
  by_cases hf : M.findEd l e < l.length
  · have HI := Lib.hid (M.findInt_pos hf)
    rcases hk : M.wkOk ⟨name, owner, l⟩ with _ | _
    · have HE := Lib.hid (M.copyIn_bad e hk)
      have HK := Lib.hid hk
      clear hk
      go_enter Tryz.func65, Tryz.ntmps65
      go_wp2_with fail
      refine (l4Find_any name owner A l cap e _ hl3 hlen).mono ?_
      rintro r w1 ⟨rfl, b1⟩
      rw [HI.out]
      have hl4 := hl3.below b1
      replace h0 := h0.below b1
      replace h1 := h1.below b1
      replace f2 := f2.below h2.1 b1
      replace h2 := h2.below b1
      replace b0 := next b0 b1
      obtain ⟨p0, p1, p2⟩ := h0.at3
      obtain ⟨q0, q1, q2⟩ := h1.at3
      obtain ⟨r0, r1, r2, r3, r4⟩ := h2.at5
      obtain ⟨s0, s1, s2, s3, s4⟩ := f2.fz5
      have z2 := h2.1
      clear b1
      go_wp2_with fail
      refine (specWorkOk name owner A l cap _ hl4 hn hlen HP.out).mono ?_
      rintro r w2 ⟨rfl, b2⟩
      rw [HK.out]
      clear p0 p1 p2 q0 q1 q2 r0 r1 r2 r3 r4 s0 s1 s2 s3 s4 z2
      replace h0 := h0.below b2
      replace h1 := h1.below b2
      replace f2 := f2.below h2.1 b2
      replace h2 := h2.below b2
      replace b0 := next b0 b2
      obtain ⟨p0, p1, p2⟩ := h0.at3
      obtain ⟨q0, q1, q2⟩ := h1.at3
      obtain ⟨r0, r1, r2, r3, r4⟩ := h2.at5
      obtain ⟨s0, s1, s2, s3, s4⟩ := f2.fz5
      have z2 := h2.1
      clear b2
      go_wp2
      exact bodyPost_ret (results_sci M.zeroCp false (w.heap.size + 1 + 1) _ _ rfl rfl (h2.wr5 _ _ _ _ _)) rfl ⟨by rw [HE.out], far_5 b0 (by omega) _ _ _ _ _⟩
    · have HE := Lib.hid (M.copyIn_some (w := ⟨name, owner, l⟩) hk hf)
      have HK := Lib.hid hk
      clear hk
      go_enter Tryz.func65, Tryz.ntmps65
      go_wp2_with fail
      refine (l4Find_any name owner A l cap e _ hl3 hlen).mono ?_
      rintro r w1 ⟨rfl, b1⟩
      rw [HI.out]
      have hl4 := hl3.below b1
      replace h0 := h0.below b1
      replace h1 := h1.below b1
      replace f2 := f2.below h2.1 b1
      replace h2 := h2.below b1
      replace b0 := next b0 b1
      obtain ⟨p0, p1, p2⟩ := h0.at3
      obtain ⟨q0, q1, q2⟩ := h1.at3
      obtain ⟨r0, r1, r2, r3, r4⟩ := h2.at5
      obtain ⟨s0, s1, s2, s3, s4⟩ := f2.fz5
      have z2 := h2.1
      clear b1
      go_wp2_with fail
      refine (specWorkOk name owner A l cap _ hl4 hn hlen HP.out).mono ?_
      rintro r w2 ⟨rfl, b2⟩
      rw [HK.out]
      have hl5 := hl4.below b2
      clear p0 p1 p2 q0 q1 q2 r0 r1 r2 r3 r4 s0 s1 s2 s3 s4 z2
      replace h0 := h0.below b2
      replace h1 := h1.below b2
      replace f2 := f2.below h2.1 b2
      replace h2 := h2.below b2
      replace b0 := next b0 b2
      obtain ⟨p0, p1, p2⟩ := h0.at3
      obtain ⟨q0, q1, q2⟩ := h1.at3
      obtain ⟨r0, r1, r2, r3, r4⟩ := h2.at5
      obtain ⟨s0, s1, s2, s3, s4⟩ := f2.fz5
      have z2 := h2.1
      clear b2
      obtain ⟨b, o, rfl, zb, c0, c1, c2, c3, c4⟩ := Cps_at hl5 hf
      have HL := Lib.hid (show _ ∧ _ ∧ _ ∧ _ from ⟨hl, hl3, hl4, hl5⟩)
      clear hl hl3 hl4 hl5
      go_wp2
      exact bodyPost_ret (results_sci l[M.findEd l e] true (w.heap.size + 1 + 1) _ _ rfl rfl (h2.wr5 _ _ _ _ _)) rfl ⟨by rw [HE.out], far_5 b0 (by omega) _ _ _ _ _⟩
  · have hf' : M.findEd l e = l.length := by
      have := List.findIdx_le_length (p := M.isEd e) (xs := l)
      unfold M.findEd at hf ⊢; omega
    have HI := Lib.hid (M.findInt_neg hf')
    have HE := Lib.hid (M.copyIn_none (w := ⟨name, owner, l⟩) hf')
    clear hf'
    go_enter Tryz.func65, Tryz.ntmps65
    go_wp2_with fail
    refine (l4Find_any name owner A l cap e _ hl3 hlen).mono ?_
    rintro r w1 ⟨rfl, b1⟩
    rw [HI.out]
    replace h0 := h0.below b1
    replace h1 := h1.below b1
    replace f2 := f2.below h2.1 b1
    replace h2 := h2.below b1
    replace b0 := next b0 b1
    obtain ⟨p0, p1, p2⟩ := h0.at3
    obtain ⟨q0, q1, q2⟩ := h1.at3
    obtain ⟨r0, r1, r2, r3, r4⟩ := h2.at5
    obtain ⟨s0, s1, s2, s3, s4⟩ := f2.fz5
    have z2 := h2.1
    clear b1
    go_wp2
    exact bodyPost_ret (results_sci M.zeroCp false (w.heap.size + 1 + 1) _ _ rfl rfl (h2.wr5 _ _ _ _ _)) rfl ⟨by rw [HE.out], far_5 b0 (by omega) _ _ _ _ _⟩


set_option maxHeartbeats 1000000 in
theorem place1_any (c : M.Cp) (e : M.Ed) (g : Nat) (w : World) (hg : Holds w g (edL e)) :
    Calls Tryz.prog 139 #[cpV c, .pointer (some ⟨g, 0, none⟩)] w fun r w' => r = .returned (.bool (M.notOlder e c)) ∧ Below w.heap.size w w' := by
  have b0 := (Below.refl w.heap.size w).alloc (Nat.le_refl _) (.cells (cpV c).cells 71)
  have hgl := hg.1
  obtain ⟨q0, q1, q2⟩ := hg.at3
  clear hg
  go_enter Tryz.func139, Tryz.ntmps139
  go_wp2_with fail
  refine (implOlder c.ed e _).mono ?_
  rintro r w1 ⟨rfl, b1⟩
  go_wp2
  go_ret
  exact ⟨rfl, next b0 b1⟩

theorem first_at (A : Option Addr) (l : List M.Cp) (cap : Nat) (e : M.Ed) (g : Nat) (w : World) (hl : Cps w A l) (hlen : l.length ≤ 1048576) (hg : Holds w g (edL e)) :
    Calls Tryz.prog 112 #[.slice A l.length cap, .func (.func 139) #[] #[.pointer (some ⟨g, 0, none⟩)]] w fun r w' => r = .returned (.int .i64 (M.place l e : Nat)) ∧ Below w.heap.size w w' :=
  first_place (M.notOlder e) A l cap _ w hl hlen (fun c w' _ hb => place1_any c e _ w' (hg.below hb))
theorem isAt_lt {l : List M.Cp} {e : M.Ed} (h : M.place l e < l.length) : M.isAt l e = decide (l[M.place l e].ed = e) := by
  unfold M.isAt
  rw [List.getElem?_eq_getElem h]
  rfl
theorem isAt_ge {l : List M.Cp} {e : M.Ed} (h : ¬ M.place l e < l.length) : M.isAt l e = false := by
  unfold M.isAt
  rw [List.getElem?_eq_none (by omega)]

set_option maxHeartbeats 2000000 in
theorem placeOf_any (A : Option Addr) (l : List M.Cp) (cap : Nat) (e : M.Ed) (w : World) (hl : Cps w A l) (hlen : l.length ≤ 1048576) :
    Calls Tryz.prog 121 #[.slice A l.length cap, edV e] w fun r w' => r = .returned (.tuple #[.int .i64 (M.place l e : Nat), .bool (M.isAt l e)]) ∧ Below w.heap.size w w' := by
  have b0 := (Below.refl w.heap.size w).alloc (Nat.le_refl _) (.cells (edL e) 26)
  have h0 := holds_new w (edL e) 26
  by_cases hf : M.place l e < l.length
  · have HE := Lib.hid (isAt_lt hf)
    go_enter Tryz.func121, Tryz.ntmps121
    go_wp2_with fail
    refine (first_at A l cap e _ _ (hl.alloc _) hlen h0).mono ?_
    rintro r w1 ⟨rfl, b1⟩
    obtain ⟨q0, q1, q2⟩ := (h0.below b1).at3
    have z0 := (h0.below b1).1
    obtain ⟨b, o, rfl, zb, c0, c1, c2, c3, c4⟩ := Cps_at ((hl.alloc _).below b1) hf
    replace b0 := next b0 b1
    have HL := Lib.hid (show _ ∧ _ from ⟨hl, h0⟩)
    clear hl h0 b1 c3 c4
    go_wp2_with fail
    refine wp_region_seq (fun w' => Below w1.heap.size w1 w') [(0, true), (1, true), (2, true), (3, true), (4, true), (5, true), (6, true), (7, true), (8, true), (9, true), (10, true), (11, true), (12, true), (13, true), (14, true), (15, true)] (by kernel_rfl) (by kernel_rfl) (fun _ _ _ _ _ h => h) (by kernel_rfl) (by decide) (Below.refl _ _).drew ?_
    intro hHeld
    repeat (first
      | (refine seq_read (by simp only [List.getElem?_toArray, List.getElem?_cons_succ, List.getElem?_cons_zero]; first | done | rfl) (by rfl) (fun w _ => eql_read rfl rfl rfl w) ?_; (try simp only [Act.put, List.setIfInBounds_toArray, List.set_cons_zero, List.set_cons_succ]))
      | (refine seq_skip (by simp only [List.getElem?_toArray, List.getElem?_cons_succ, List.getElem?_cons_zero]; first | done | rfl) (by rfl) ?_; (try simp only [Act.put, List.setIfInBounds_toArray, List.set_cons_zero, List.set_cons_succ]))
      | (refine seq_reads (by simp only [List.getElem?_toArray, List.getElem?_cons_succ, List.getElem?_cons_zero]; first | done | rfl) (by rfl) ?_; apply Exists.intro; apply And.intro; (focus (intro w hSw; obtain ⟨hcS, -⟩ := bcell hSw; go_simp; (try with_reducible rfl); done)); (try simp only [Act.put, List.setIfInBounds_toArray, List.set_cons_zero, List.set_cons_succ]))
      | (refine seq_pass (by simp only [List.getElem?_toArray, List.getElem?_cons_succ, List.getElem?_cons_zero]; first | done | rfl) (by rfl) hHeld ?_; clear hHeld; intro hHeld; (try simp only [Act.put, List.setIfInBounds_toArray, List.set_cons_zero, List.set_cons_succ])))
    refine seq_end ?_
    go_wp2
    go_ret2
    exact ⟨by rw [HE.out]; rfl, next b0 hHeld⟩
  · have HE := Lib.hid (isAt_ge hf)
    go_enter Tryz.func121, Tryz.ntmps121
    go_wp2_with fail
    refine (first_at A l cap e _ _ (hl.alloc _) hlen h0).mono ?_
    rintro r w1 ⟨rfl, b1⟩
    replace b0 := next b0 b1
    have HL := Lib.hid (show _ ∧ _ from ⟨hl, h0⟩)
    clear hl h0 b1
    go_wp2_with fail
    refine wp_region_seq (fun w' => Below w1.heap.size w1 w') [(0, true), (1, true), (2, true), (3, true), (4, true), (5, true), (6, true), (7, true), (8, true), (9, true), (10, true), (11, true), (12, true), (13, true), (14, true), (15, true)] (by kernel_rfl) (by kernel_rfl) (fun _ _ _ _ _ h => h) (by kernel_rfl) (by decide) (Below.refl _ _).drew ?_
    intro hHeld
    repeat (first
      | (refine seq_read (by simp only [List.getElem?_toArray, List.getElem?_cons_succ, List.getElem?_cons_zero]; first | done | rfl) (by rfl) (fun w _ => eql_read rfl rfl rfl w) ?_; (try simp only [Act.put, List.setIfInBounds_toArray, List.set_cons_zero, List.set_cons_succ]))
      | (refine seq_skip (by simp only [List.getElem?_toArray, List.getElem?_cons_succ, List.getElem?_cons_zero]; first | done | rfl) (by rfl) ?_; (try simp only [Act.put, List.setIfInBounds_toArray, List.set_cons_zero, List.set_cons_succ]))
      | (refine seq_reads (by simp only [List.getElem?_toArray, List.getElem?_cons_succ, List.getElem?_cons_zero]; first | done | rfl) (by rfl) ?_; apply Exists.intro; apply And.intro; (focus (intro w hSw; obtain ⟨hcS, -⟩ := bcell hSw; go_simp; (try with_reducible rfl); done)); (try simp only [Act.put, List.setIfInBounds_toArray, List.set_cons_zero, List.set_cons_succ]))
      | (refine seq_pass (by simp only [List.getElem?_toArray, List.getElem?_cons_succ, List.getElem?_cons_zero]; first | done | rfl) (by rfl) hHeld ?_; clear hHeld; intro hHeld; (try simp only [Act.put, List.setIfInBounds_toArray, List.set_cons_zero, List.set_cons_succ])))
    refine seq_end ?_
    go_wp2
    go_ret2
    exact ⟨by rw [HE.out]; rfl, next b0 hHeld⟩

set_option maxHeartbeats 1000000 in
theorem clone_any (s : ByteArray) (w : World) (h : s.size ≤ 1048576) :
    Calls Tryz.prog 57 #[.string s] w fun r w' => r = .returned (.string s) ∧ Below w.heap.size w w' := by
  go_enter Tryz.func57, Tryz.ntmps57
  go_wp2_with fail
  refine (Tryz.stringslite_Clone s _ (by omega)).mono ?_
  rintro r w1 ⟨rfl, b1⟩
  go_wp2
  go_ret
  exact ⟨rfl, b1⟩

theorem results_nc (c : M.Cp) (R : Nat) (W : World) (tmps : Array Value) (h2 : tmps.getD 2 undef = .pointer (some ⟨R, 0, none⟩)) (hW : Holds W R #[.int .i64 c.ed.ma, .int .i64 c.ed.mi, .int .i64 c.ed.pa, .string c.page, .bool c.hidden]) :
    (results Tryz.f59 tmps).run Tryz.prog W = .ok (cpV c) W := by
  obtain ⟨q0, q1, q2, q3, q4⟩ := hW.at5
  simp at h2
  simp [results, Tryz.results59, go_sem, h2, q0, q1, q2, q3, q4]

set_option maxHeartbeats 1000000 in
theorem newCopy_any (c : M.Cp) (w : World) (h : c.page.size ≤ 1048576) :
    Calls Tryz.prog 59 #[cpV c] w fun r w' => r = .returned (cpV c) ∧ Below w.heap.size w w' := by
  have b0 := ((Below.refl w.heap.size w).alloc (Nat.le_refl _) (.cells (cpV c).cells 71)).alloc (by simp) (.cells (cpV M.zeroCp).cells 71)
  have h0 := (holds_new w (cpV c).cells 71).alloc (.cells (cpV M.zeroCp).cells 71)
  have f0 := (loose_new w (cpV c).cells 71).alloc (by simp) (.cells (cpV M.zeroCp).cells 71)
  have h1 := holds_new (w.alloc (.cells (cpV c).cells 71)) (cpV M.zeroCp).cells 71
  have f1 := loose_new (w.alloc (.cells (cpV c).cells 71)) (cpV M.zeroCp).cells 71
  simp only [World.size_alloc] at h1 f1
  go_enter Tryz.func59, Tryz.ntmps59
  go_wp2_with fail
  refine (clone_any c.page _ h).mono ?_
  rintro r w1 ⟨rfl, b1⟩
  replace f0 := f0.below h0.1 b1
  replace h0 := h0.below b1
  replace f1 := f1.below h1.1 b1
  replace h1 := h1.below b1
  replace b0 := next b0 b1
  have z1 := h1.1
  obtain ⟨p0, p1, p2, p3, p4⟩ := h0.at5
  obtain ⟨s0, s1, s2, s3, s4⟩ := f0.fz5
  obtain ⟨r0, r1, r2, r3, r4⟩ := h1.at5
  obtain ⟨t0, t1, t2, t3, t4⟩ := f1.fz5
  clear b1
  go_wp2
  exact bodyPost_ret (results_nc c (w.heap.size + 1) _ _ rfl ((h1.otherM (by omega)).wr5 _ _ _ _ _)) rfl ⟨rfl, far_5 (farM b0 (Nat.le_refl _) _ _) (by omega) _ _ _ _ _⟩


set_option maxHeartbeats 2000000 in
theorem implCopyIn (name : ByteArray) (owner : Int) (A : Option Addr) (l : List M.Cp) (cap : Nat) (e : M.Ed) (w : World) (hl : Cps w A l) (hn : name.size ≤ maxLen) (hlen : l.length ≤ 1048576) (hp : ∀ c ∈ l, c.page.size ≤ 1048576) :
    Calls Tryz.prog 106 #[wkV name owner A l.length cap, edV e] w fun r w' => r = .returned (.tuple #[cpV (M.copyIn ⟨name, owner, l⟩ e).1, .bool (M.copyIn ⟨name, owner, l⟩ e).2]) ∧ Below w.heap.size w w' := by
  have HP := Lib.hid hp
  clear hp
  have b0 := (((Below.refl w.heap.size w).alloc (Nat.le_refl _) (.cells (wkL name owner A l.length cap) 39)).alloc (by simp) (.cells (edL e) 26)).alloc (by simp; omega) (.cells (cpV M.zeroCp).cells 71)
  have h0 := ((holds_new w (wkL name owner A l.length cap) 39).alloc (.cells (edL e) 26)).alloc (.cells (cpV M.zeroCp).cells 71)
  have h1 := (holds_new (w.alloc (.cells (wkL name owner A l.length cap) 39)) (edL e) 26).alloc (.cells (cpV M.zeroCp).cells 71)
  have h2 := holds_new ((w.alloc (.cells (wkL name owner A l.length cap) 39)).alloc (.cells (edL e) 26)) (cpV M.zeroCp).cells 71
  have f2 := loose_new ((w.alloc (.cells (wkL name owner A l.length cap) 39)).alloc (.cells (edL e) 26)) (cpV M.zeroCp).cells 71
  have hl3 := ((hl.alloc (.cells (wkL name owner A l.length cap) 39)).alloc (.cells (edL e) 26)).alloc (.cells (cpV M.zeroCp).cells 71)
  simp only [World.size_alloc] at h1 h2 f2
  rcases hk : M.wkOk ⟨name, owner, l⟩ with _ | _
  · have HE := Lib.hid (M.copyIn_bad e hk)
    have HK := Lib.hid hk
    clear hk
    go_enter Tryz.func106, Tryz.ntmps106
    go_wp2_with fail
    refine (implWorkOk name owner A l cap _ hl3 hn hlen (fun c hc => Nat.le_trans (HP.out c hc) (by unfold maxLen; omega))).mono ?_
    rintro r w1 ⟨rfl, b1⟩
    rw [HK.out]
    have hl4 := hl3.below b1
    replace h0 := h0.below b1
    replace h1 := h1.below b1
    replace f2 := f2.below h2.1 b1
    replace h2 := h2.below b1
    replace b0 := next b0 b1
    obtain ⟨p0, p1, p2⟩ := h0.at3
    obtain ⟨q0, q1, q2⟩ := h1.at3
    obtain ⟨r0, r1, r2, r3, r4⟩ := h2.at5
    obtain ⟨s0, s1, s2, s3, s4⟩ := f2.fz5
    have z2 := h2.1
    clear b1
    go_wp2
    exact bodyPost_ret (results_ici M.zeroCp false (w.heap.size + 1 + 1) _ _ rfl rfl (h2.wr5 _ _ _ _ _)) rfl ⟨by rw [HE.out], far_5 b0 (by omega) _ _ _ _ _⟩
  · have hr : M.risesB l = true := (M.wkOk_rises hk).1
    have HK := Lib.hid hk
    rcases M.place_find hr e with ⟨ha, hf, hpl⟩ | ⟨ha, hf⟩
    · have hlt : M.place l e < l.length := by rw [hpl]; exact hf
      have HE : Hid (M.copyIn ⟨name, owner, l⟩ e = (l[M.place l e], true)) := Lib.hid (by rw [M.copyIn_some (w := ⟨name, owner, l⟩) hk hf]; simp only [hpl])
      have HA := Lib.hid ha
      clear hk hr ha hpl hf
      go_enter Tryz.func106, Tryz.ntmps106
      go_wp2_with fail
      refine (implWorkOk name owner A l cap _ hl3 hn hlen (fun c hc => Nat.le_trans (HP.out c hc) (by unfold maxLen; omega))).mono ?_
      rintro r w1 ⟨rfl, b1⟩
      rw [HK.out]
      have hl4 := hl3.below b1
      replace h0 := h0.below b1
      replace h1 := h1.below b1
      replace f2 := f2.below h2.1 b1
      replace h2 := h2.below b1
      replace b0 := next b0 b1
      obtain ⟨p0, p1, p2⟩ := h0.at3
      obtain ⟨q0, q1, q2⟩ := h1.at3
      obtain ⟨r0, r1, r2, r3, r4⟩ := h2.at5
      obtain ⟨s0, s1, s2, s3, s4⟩ := f2.fz5
      have z2 := h2.1
      clear b1
      go_wp2_with fail
      refine (placeOf_any A l cap e _ hl4 hlen).mono ?_
      rintro r w2 ⟨rfl, b2⟩
      rw [HA.out]
      have hl5 := hl4.below b2
      clear p0 p1 p2 q0 q1 q2 r0 r1 r2 r3 r4 s0 s1 s2 s3 s4 z2
      replace h0 := h0.below b2
      replace h1 := h1.below b2
      replace f2 := f2.below h2.1 b2
      replace h2 := h2.below b2
      replace b0 := next b0 b2
      obtain ⟨p0, p1, p2⟩ := h0.at3
      obtain ⟨q0, q1, q2⟩ := h1.at3
      obtain ⟨r0, r1, r2, r3, r4⟩ := h2.at5
      obtain ⟨s0, s1, s2, s3, s4⟩ := f2.fz5
      have z2 := h2.1
      clear b2
      obtain ⟨b, o, rfl, zb, c0, c1, c2, c3, c4⟩ := Cps_at hl5 hlt
      have HL := Lib.hid (show _ ∧ _ ∧ _ ∧ _ from ⟨hl, hl3, hl4, hl5⟩)
      clear hl hl3 hl4 hl5
      go_wp2_with fail
      refine (newCopy_any l[M.place l e] _ (HP.out _ (List.getElem_mem hlt))).mono ?_
      rintro r w3 ⟨rfl, b3⟩
      clear p0 p1 p2 q0 q1 q2 r0 r1 r2 r3 r4 s0 s1 s2 s3 s4 z2 c0 c1 c2 c3 c4
      replace h0 := h0.below b3
      replace h1 := h1.below b3
      replace f2 := f2.below h2.1 b3
      replace h2 := h2.below b3
      replace b0 := next b0 b3
      obtain ⟨p0, p1, p2⟩ := h0.at3
      obtain ⟨q0, q1, q2⟩ := h1.at3
      obtain ⟨r0, r1, r2, r3, r4⟩ := h2.at5
      obtain ⟨s0, s1, s2, s3, s4⟩ := f2.fz5
      have z2 := h2.1
      clear b3
      go_wp2
      exact bodyPost_ret (results_ici l[M.place l e] true (w.heap.size + 1 + 1) _ _ rfl rfl (h2.wr5 _ _ _ _ _)) rfl ⟨by rw [HE.out], far_5 b0 (by omega) _ _ _ _ _⟩
    · have HE := Lib.hid (M.copyIn_none (w := ⟨name, owner, l⟩) hf)
      have HA := Lib.hid ha
      clear hk hr ha hf
      go_enter Tryz.func106, Tryz.ntmps106
      go_wp2_with fail
      refine (implWorkOk name owner A l cap _ hl3 hn hlen (fun c hc => Nat.le_trans (HP.out c hc) (by unfold maxLen; omega))).mono ?_
      rintro r w1 ⟨rfl, b1⟩
      rw [HK.out]
      have hl4 := hl3.below b1
      replace h0 := h0.below b1
      replace h1 := h1.below b1
      replace f2 := f2.below h2.1 b1
      replace h2 := h2.below b1
      replace b0 := next b0 b1
      obtain ⟨p0, p1, p2⟩ := h0.at3
      obtain ⟨q0, q1, q2⟩ := h1.at3
      obtain ⟨r0, r1, r2, r3, r4⟩ := h2.at5
      obtain ⟨s0, s1, s2, s3, s4⟩ := f2.fz5
      have z2 := h2.1
      clear b1
      go_wp2_with fail
      refine (placeOf_any A l cap e _ hl4 hlen).mono ?_
      rintro r w2 ⟨rfl, b2⟩
      rw [HA.out]
      have hl5 := hl4.below b2
      clear p0 p1 p2 q0 q1 q2 r0 r1 r2 r3 r4 s0 s1 s2 s3 s4 z2
      replace h0 := h0.below b2
      replace h1 := h1.below b2
      replace f2 := f2.below h2.1 b2
      replace h2 := h2.below b2
      replace b0 := next b0 b2
      obtain ⟨p0, p1, p2⟩ := h0.at3
      obtain ⟨q0, q1, q2⟩ := h1.at3
      obtain ⟨r0, r1, r2, r3, r4⟩ := h2.at5
      obtain ⟨s0, s1, s2, s3, s4⟩ := f2.fz5
      have z2 := h2.1
      clear b2
      go_wp2
      exact bodyPost_ret (results_ici M.zeroCp false (w.heap.size + 1 + 1) _ _ rfl rfl (h2.wr5 _ _ _ _ _)) rfl ⟨by rw [HE.out], far_5 b0 (by omega) _ _ _ _ _⟩

end Go.Proofs.YtdcdalbbjfjadaaGreatDoor
