/- Proved: Newest of the model and of the program answer one plain Lean function; they write nothing that was there. Condition: texts of at most maxLen bytes, at most a million copies. -/
import Derived.Test.YtbdcehmcdoocgaaWorkCopy
namespace Go.Proofs.Ytbdcehmcdoocgaa
open Go.RowKit
set_option maxRecDepth 20000

theorem results_snw (e : M.Ed) (b : Bool) (R : Nat) (W : World) (tmps : Array Value) (h2 : tmps.getD 4 undef = .pointer (some ⟨R, 0, none⟩)) (h3 : tmps.getD 5 undef = .bool b) (hW : Holds W R #[.int .i64 e.ma, .int .i64 e.mi, .int .i64 e.pa]) :
    (results Try.f20 tmps).run Try.prog W = .ok (.tuple #[edV e, .bool b]) W := by
  obtain ⟨q0, q1, q2⟩ := hW.at3
  simp at h2 h3
  simp [results, Try.results20, go_sem, h2, h3, q0, q1, q2]
theorem results_inw (e : M.Ed) (b : Bool) (R : Nat) (W : World) (tmps : Array Value) (h2 : tmps.getD 4 undef = .pointer (some ⟨R, 0, none⟩)) (h3 : tmps.getD 5 undef = .bool b) (hW : Holds W R #[.int .i64 e.ma, .int .i64 e.mi, .int .i64 e.pa]) :
    (results Try.f19 tmps).run Try.prog W = .ok (.tuple #[edV e, .bool b]) W := by
  obtain ⟨q0, q1, q2⟩ := hW.at3
  simp at h2 h3
  simp [results, Try.results19, go_sem, h2, h3, q0, q1, q2]


set_option maxHeartbeats 4000000 in
theorem specNewest (name : ByteArray) (owner : Int) (A : Option Addr) (l : List M.Cp) (cap : Nat) (e : M.Ed) (w : World) (hl : Cps w A l) (hn : name.size ≤ maxLen) (hlen : l.length ≤ 1048576) (hp : ∀ c ∈ l, c.page.size ≤ maxLen) :
    Calls Try.prog 20 #[wkV name owner A l.length cap, edV e] w fun r w' => r = .returned (.tuple #[edV (M.newest ⟨name, owner, l⟩ e).1, .bool (M.newest ⟨name, owner, l⟩ e).2]) ∧ Below w.heap.size w w' := by
  have HP := Lib.hid hp
  clear hp
  have b0 := (((Below.refl w.heap.size w).alloc (Nat.le_refl _) (.cells (wkL name owner A l.length cap) 26)).alloc (by simp) (.cells (edL e) 28)).alloc (by simp; omega) (.cells (edL M.zeroEd) 28)
  have h0 := ((holds_new w (wkL name owner A l.length cap) 26).alloc (.cells (edL e) 28)).alloc (.cells (edL M.zeroEd) 28)
  have h1 := (holds_new (w.alloc (.cells (wkL name owner A l.length cap) 26)) (edL e) 28).alloc (.cells (edL M.zeroEd) 28)
  have h2 := holds_new ((w.alloc (.cells (wkL name owner A l.length cap) 26)).alloc (.cells (edL e) 28)) (edL M.zeroEd) 28
  have f2 := loose_new ((w.alloc (.cells (wkL name owner A l.length cap) 26)).alloc (.cells (edL e) 28)) (edL M.zeroEd) 28
  have hl3 := ((hl.alloc (.cells (wkL name owner A l.length cap) 26)).alloc (.cells (edL e) 28)).alloc (.cells (edL M.zeroEd) 28)
  simp only [World.size_alloc] at h1 h2 f2
  have HQ := Lib.hid (show _ ∧ _ ∧ _ ∧ _ ∧ _ from ⟨b0, h0, h1, h2, f2⟩)
  clear b0 h0 h1 h2 f2 hl3
  go_enter Try.func20, Try.ntmps20
  go_wp2
  go_loopw [6] (fun i wr => ∃ k : Int, i = .int .i64 k ∧ M.Back (M.shown e) l k ∧ Below w.heap.size w wr ∧ Holds wr w.heap.size (wkL name owner A l.length cap) ∧ Holds wr (w.heap.size + 1) (edL e) ∧ Holds wr (w.heap.size + 1 + 1) (edL M.zeroEd) ∧ Loose wr (w.heap.size + 1 + 1)) (fun i _ => (intOf i + 1).toNat)
  case atStart => exact ⟨_, rfl, M.Back.start _ l, HQ.out⟩
  case round =>
    obtain ⟨k, rfl, hk, b0, h0, h1, h2, f2⟩ := hrel
    clear HQ
    rcases hk with ⟨rfl, hnone⟩ | ⟨j, rfl, hj, hback⟩
    · have HE : Hid (M.newest ⟨name, owner, l⟩ e = (M.zeroEd, false)) := Lib.hid (M.newest_none (w := ⟨name, owner, l⟩) hnone)
      clear hnone
      obtain ⟨p0, p1, p2⟩ := h0.at3
      obtain ⟨q0, q1, q2⟩ := h1.at3
      obtain ⟨r0, r1, r2⟩ := h2.at3
      obtain ⟨s0, s1, s2⟩ := f2.fz3
      have z0 := h0.1
      have z1 := h1.1
      have z2 := h2.1
      go_wp2
      exact bodyPost_ret (results_snw M.zeroEd false (w.heap.size + 1 + 1) _ _ rfl rfl (h2.wr3 _ _ _)) rfl ⟨by rw [HE.out], far_3 b0 (by omega) _ _ _⟩
    · have HB := Lib.hid hback
      have hl4 := hl.below b0
      clear hback
      obtain ⟨p0, p1, p2⟩ := h0.at3
      obtain ⟨q0, q1, q2⟩ := h1.at3
      obtain ⟨r0, r1, r2⟩ := h2.at3
      obtain ⟨s0, s1, s2⟩ := f2.fz3
      have z0 := h0.1
      have z1 := h1.1
      have z2 := h2.1
      rcases hok : M.wkOk ⟨name, owner, l⟩ with _ | _
      · have HE := Lib.hid (M.newest_bad e hok)
        have HK := Lib.hid hok
        clear hok
        go_wp2_with fail
        refine (specWorkOk name owner A l cap _ hl4 hn hlen HP.out).mono ?_
        rintro r w2 ⟨rfl, b2⟩
        rw [HK.out]
        clear p0 p1 p2 q0 q1 q2 r0 r1 r2 s0 s1 s2 z0 z1 z2
        replace h0 := h0.below b2
        replace h1 := h1.below b2
        replace f2 := f2.below h2.1 b2
        replace h2 := h2.below b2
        replace b0 := next b0 b2
        obtain ⟨p0, p1, p2⟩ := h0.at3
        obtain ⟨q0, q1, q2⟩ := h1.at3
        obtain ⟨r0, r1, r2⟩ := h2.at3
        obtain ⟨s0, s1, s2⟩ := f2.fz3
        have z0 := h0.1
        have z1 := h1.1
        have z2 := h2.1
        clear b2
        go_wp2
        exact bodyPost_ret (results_snw M.zeroEd false (w.heap.size + 1 + 1) _ _ rfl rfl (h2.wr3 _ _ _)) rfl ⟨by rw [HE.out], far_3 b0 (by omega) _ _ _⟩
      · have HK := Lib.hid hok
        clear hok
        go_wp2_with fail
        refine (specWorkOk name owner A l cap _ hl4 hn hlen HP.out).mono ?_
        rintro r w2 ⟨rfl, b2⟩
        rw [HK.out]
        clear p0 p1 p2 q0 q1 q2 r0 r1 r2 s0 s1 s2 z0 z1 z2
        replace h0 := h0.below b2
        replace h1 := h1.below b2
        replace f2 := f2.below h2.1 b2
        replace h2 := h2.below b2
        replace b0 := next b0 b2
        obtain ⟨p0, p1, p2⟩ := h0.at3
        obtain ⟨q0, q1, q2⟩ := h1.at3
        obtain ⟨r0, r1, r2⟩ := h2.at3
        obtain ⟨s0, s1, s2⟩ := f2.fz3
        have z0 := h0.1
        have z1 := h1.1
        have z2 := h2.1
        clear b2
        rcases hh : l[j].hidden with _ | _
        · rcases hf : M.fits l[j].ed e with _ | _
          · have HN := Lib.hid (M.Back.next hj HB.out (show M.shown e l[j] = false by simp [M.shown, hf]))
            have HH := Lib.hid hh
            have HF := Lib.hid hf
            clear hh hf
            have hw2 := hl.below b0
            obtain ⟨b, o, rfl, zb, c0, c1, c2, c3, c4⟩ := Cps_at hw2 hj
            have HL := Lib.hid (show _ ∧ _ ∧ _ from ⟨hl, hl4, hw2⟩)
            clear hl hl4 hw2 c3
            go_wp2_with fail
            rw [HH.out] at c4
            refine wp_region_seq (fun w' => Below w2.heap.size w2 w') [(0, true), (1, true), (2, true), (3, true), (4, true), (5, true), (6, true), (7, true), (8, true), (9, true), (10, true), (11, true), (12, true), (13, true), (14, true), (15, false), (16, true)] (by kernel_rfl) (by kernel_rfl) (fun _ _ _ _ _ h => h) (by kernel_rfl) (by decide) (Below.refl _ _).drew ?_
            intro hHeld
            repeat (first
              | (refine seq_skip (by simp only [List.getElem?_toArray, List.getElem?_cons_succ, List.getElem?_cons_zero]; first | done | rfl) (by rfl) ?_; (try simp only [Act.put, List.setIfInBounds_toArray, List.set_cons_zero, List.set_cons_succ]))
              | (refine seq_reads (by simp only [List.getElem?_toArray, List.getElem?_cons_succ, List.getElem?_cons_zero]; first | done | rfl) (by rfl) ?_; apply Exists.intro; apply And.intro; (focus (intro w hSw; obtain ⟨hcS, -⟩ := bcell hSw; go_simp; (try with_reducible rfl); done)); (try simp only [Act.put, List.setIfInBounds_toArray, List.set_cons_zero, List.set_cons_succ]))
              | (refine seq_pass (by simp only [List.getElem?_toArray, List.getElem?_cons_succ, List.getElem?_cons_zero]; first | done | rfl) (by rfl) hHeld ?_; clear hHeld; intro hHeld; (try simp only [Act.put, List.setIfInBounds_toArray, List.set_cons_zero, List.set_cons_succ]))
              | (refine seq_call (by simp only [List.getElem?_toArray, List.getElem?_cons_succ, List.getElem?_cons_zero]; first | done | rfl) (by rfl) (fun K hK => ?_); go_simp; go_at_call 21; refine (specFits l[j].ed e _).mono ?_; rintro r w1 ⟨rfl, b1⟩; go_simp; refine hK.out _ _ (next hHeld b1) ?_; clear hK hHeld; intro hHeld; (try simp only [Act.put, List.setIfInBounds_toArray, List.set_cons_zero, List.set_cons_succ])))
            refine seq_end ?_
            rw [HF.out]
            go_wp2
            go_roundw
            case rel => exact ⟨(j : Int) - 1, rfl, HN.out, next b0 hHeld, h0.below hHeld, h1.below hHeld, h2.below hHeld, f2.below h2.1 hHeld⟩
            case measure => simp [intOf]
          · have HE := Lib.hid (M.newest_some (w := ⟨name, owner, l⟩) HK.out (HB.out.trans (M.lastTo_yes hj (show M.shown e l[j] = true by simp [M.shown, hf, hh]))) hj)
            have HH := Lib.hid hh
            have HF := Lib.hid hf
            clear hh hf
            have hw2 := hl.below b0
            obtain ⟨b, o, rfl, zb, c0, c1, c2, c3, c4⟩ := Cps_at hw2 hj
            have HL := Lib.hid (show _ ∧ _ ∧ _ from ⟨hl, hl4, hw2⟩)
            clear hl hl4 hw2 c3
            go_wp2_with fail
            rw [HH.out] at c4
            refine wp_region_seq (fun w' => Below w2.heap.size w2 w') [(0, true), (1, true), (2, true), (3, true), (4, true), (5, true), (6, true), (7, true), (8, true), (9, true), (10, true), (11, true), (12, true), (13, true), (14, true), (15, false), (16, true)] (by kernel_rfl) (by kernel_rfl) (fun _ _ _ _ _ h => h) (by kernel_rfl) (by decide) (Below.refl _ _).drew ?_
            intro hHeld
            repeat (first
              | (refine seq_skip (by simp only [List.getElem?_toArray, List.getElem?_cons_succ, List.getElem?_cons_zero]; first | done | rfl) (by rfl) ?_; (try simp only [Act.put, List.setIfInBounds_toArray, List.set_cons_zero, List.set_cons_succ]))
              | (refine seq_reads (by simp only [List.getElem?_toArray, List.getElem?_cons_succ, List.getElem?_cons_zero]; first | done | rfl) (by rfl) ?_; apply Exists.intro; apply And.intro; (focus (intro w hSw; obtain ⟨hcS, -⟩ := bcell hSw; go_simp; (try with_reducible rfl); done)); (try simp only [Act.put, List.setIfInBounds_toArray, List.set_cons_zero, List.set_cons_succ]))
              | (refine seq_pass (by simp only [List.getElem?_toArray, List.getElem?_cons_succ, List.getElem?_cons_zero]; first | done | rfl) (by rfl) hHeld ?_; clear hHeld; intro hHeld; (try simp only [Act.put, List.setIfInBounds_toArray, List.set_cons_zero, List.set_cons_succ]))
              | (refine seq_call (by simp only [List.getElem?_toArray, List.getElem?_cons_succ, List.getElem?_cons_zero]; first | done | rfl) (by rfl) (fun K hK => ?_); go_simp; go_at_call 21; refine (specFits l[j].ed e _).mono ?_; rintro r w1 ⟨rfl, b1⟩; go_simp; refine hK.out _ _ (next hHeld b1) ?_; clear hK hHeld; intro hHeld; (try simp only [Act.put, List.setIfInBounds_toArray, List.set_cons_zero, List.set_cons_succ])))
            refine seq_end ?_
            rw [HF.out]
            replace f2 := f2.below h2.1 hHeld
            replace h2 := h2.below hHeld
            replace h0 := h0.below hHeld
            obtain ⟨c0, c1, c2⟩ := (show w1.cell? ⟨b, o + j * 5, none⟩ = _ ∧ w1.cell? ⟨b, o + j * 5 + 1, none⟩ = _ ∧ w1.cell? ⟨b, o + j * 5 + 2, none⟩ = _ from ⟨(hHeld.cell (p := ⟨b, o + j * 5, none⟩) zb).trans c0, (hHeld.cell (p := ⟨b, o + j * 5 + 1, none⟩) zb).trans c1, (hHeld.cell (p := ⟨b, o + j * 5 + 2, none⟩) zb).trans c2⟩)
            obtain ⟨p0, p1, p2⟩ := h0.at3
            obtain ⟨r0, r1, r2⟩ := h2.at3
            obtain ⟨s0, s1, s2⟩ := f2.fz3
            have z2 := h2.1
            go_wp2
            exact bodyPost_ret (results_snw l[j].ed true (w.heap.size + 1 + 1) _ _ rfl rfl (h2.wr3 _ _ _)) rfl ⟨by rw [HE.out], far_3 (next b0 hHeld) (by omega) _ _ _⟩
        · have HN := Lib.hid (M.Back.next hj HB.out (show M.shown e l[j] = false by simp [M.shown, hh]))
          have HH := Lib.hid hh
          clear hh
          have hw2 := hl.below b0
          obtain ⟨b, o, rfl, zb, c0, c1, c2, c3, c4⟩ := Cps_at hw2 hj
          have HL := Lib.hid (show _ ∧ _ ∧ _ from ⟨hl, hl4, hw2⟩)
          clear hl hl4 hw2 c3
          go_wp2_with fail
          rw [HH.out] at c4
          refine wp_region_seq (fun w' => Below w2.heap.size w2 w') [(0, true), (1, true), (2, true), (3, true), (4, true), (5, true), (6, true), (7, true), (8, true), (9, true), (10, true), (11, true), (12, true), (13, true), (14, true), (15, false), (16, true)] (by kernel_rfl) (by kernel_rfl) (fun _ _ _ _ _ h => h) (by kernel_rfl) (by decide) (Below.refl _ _).drew ?_
          intro hHeld
          repeat (first
            | (refine seq_skip (by simp only [List.getElem?_toArray, List.getElem?_cons_succ, List.getElem?_cons_zero]; first | done | rfl) (by rfl) ?_; (try simp only [Act.put, List.setIfInBounds_toArray, List.set_cons_zero, List.set_cons_succ]))
            | (refine seq_reads (by simp only [List.getElem?_toArray, List.getElem?_cons_succ, List.getElem?_cons_zero]; first | done | rfl) (by rfl) ?_; apply Exists.intro; apply And.intro; (focus (intro w hSw; obtain ⟨hcS, -⟩ := bcell hSw; go_simp; (try with_reducible rfl); done)); (try simp only [Act.put, List.setIfInBounds_toArray, List.set_cons_zero, List.set_cons_succ]))
            | (refine seq_pass (by simp only [List.getElem?_toArray, List.getElem?_cons_succ, List.getElem?_cons_zero]; first | done | rfl) (by rfl) hHeld ?_; clear hHeld; intro hHeld; (try simp only [Act.put, List.setIfInBounds_toArray, List.set_cons_zero, List.set_cons_succ])))
          refine seq_end ?_
          go_wp2
          go_roundw
          case rel => exact ⟨(j : Int) - 1, rfl, HN.out, next b0 hHeld, h0.below hHeld, h1.below hHeld, h2.below hHeld, f2.below h2.1 hHeld⟩
          case measure => simp [intOf]


set_option maxHeartbeats 1000000 in
theorem newest1_any (c : M.Cp) (e : M.Ed) (g : Nat) (w : World) (hg : Holds w g (edL e)) :
    Calls Try.prog 42 #[cpV c, .pointer (some ⟨g, 0, none⟩)] w fun r w' => r = .returned (.bool (M.shown e c)) ∧ Below w.heap.size w w' := by
  have b0 := (Below.refl w.heap.size w).alloc (Nat.le_refl _) (.cells (cpV c).cells 39)
  have hgl := hg.1
  obtain ⟨q0, q1, q2⟩ := hg.at3
  clear hg
  rcases c with ⟨ce, cp, _ | _⟩
  · have HE : Hid (M.shown e ⟨ce, cp, false⟩ = M.fits ce e) := Lib.hid (by simp [M.shown])
    go_enter Try.func42, Try.ntmps42
    go_wp2_with fail
    refine (implFits ce e _).mono ?_
    rintro r w1 ⟨rfl, b1⟩
    go_wp2
    go_ret
    exact ⟨ret_bool HE.out.symm, next b0 b1⟩
  · have HE : Hid (M.shown e ⟨ce, cp, true⟩ = false) := Lib.hid (by simp [M.shown])
    go_enter Try.func42, Try.ntmps42
    go_wp2
    go_ret
    exact ⟨ret_bool HE.out.symm, b0⟩

set_option maxHeartbeats 1000000 in
theorem last_any (e : M.Ed) (A : Option Addr) (l : List M.Cp) (cap : Nat) (g : Nat) (w : World) (hl : Cps w A l) (hlen : l.length ≤ 1048576) (hg : Holds w g (edL e)) :
    Calls Try.prog 41 #[.slice A l.length cap, .func (.func 42) #[] #[.pointer (some ⟨g, 0, none⟩)]] w fun r w' => r = .returned (.int .i64 (M.lastInt (M.shown e) l)) ∧ Below w.heap.size w w' := by
  have HG := Lib.hid hg
  clear hg
  go_enter Try.func41, Try.ntmps41
  go_wp2
  go_loopw [5] (fun i wr => ∃ k : Int, i = .int .i64 k ∧ M.Back (M.shown e) l k ∧ Below w.heap.size w wr) (fun i _ => (intOf i + 1).toNat)
  case atStart => exact ⟨_, rfl, M.Back.start _ l, Below.refl _ _⟩
  case round =>
    obtain ⟨k, rfl, hk, hbl⟩ := hrel
    rcases hk with ⟨rfl, hnone⟩ | ⟨j, rfl, hj, hback⟩
    · have HE := Lib.hid (M.lastInt_none hnone)
      clear hnone
      go_wp2
      go_ret
      exact ⟨ret_int HE.out.symm, hbl⟩
    · have HB := Lib.hid hback
      clear hback
      obtain ⟨b, o, rfl, -, c0, c1, c2, c3, c4⟩ := Cps_at (hl.below hbl) hj
      have HA := Lib.hid hl
      clear hl
      rcases hs : M.shown e l[j] with _ | _
      · have HN := Lib.hid (M.Back.next hj HB.out hs)
        have HS := Lib.hid hs
        clear hs
        go_wp2_with fail
        refine (newest1_any l[j] e g _ (HG.out.below hbl)).mono ?_
        rintro r w1 ⟨rfl, b1⟩
        rw [HS.out]
        go_wp2
        go_roundw
        case rel => exact ⟨(j : Int) - 1, rfl, HN.out, next hbl b1⟩
        case measure => simp [intOf]
      · have HE := Lib.hid (M.lastInt_some (HB.out.trans (M.lastTo_yes hj hs)))
        have HS := Lib.hid hs
        clear hs
        go_wp2_with fail
        refine (newest1_any l[j] e g _ (HG.out.below hbl)).mono ?_
        rintro r w1 ⟨rfl, b1⟩
        rw [HS.out]
        go_wp2
        go_ret
        exact ⟨ret_int HE.out.symm, next hbl b1⟩


set_option maxHeartbeats 2000000 in
theorem implNewest (name : ByteArray) (owner : Int) (A : Option Addr) (l : List M.Cp) (cap : Nat) (e : M.Ed) (w : World) (hl : Cps w A l) (hn : name.size ≤ maxLen) (hlen : l.length ≤ 1048576) (hp : ∀ c ∈ l, c.page.size ≤ maxLen) :
    Calls Try.prog 19 #[wkV name owner A l.length cap, edV e] w fun r w' => r = .returned (.tuple #[edV (M.newest ⟨name, owner, l⟩ e).1, .bool (M.newest ⟨name, owner, l⟩ e).2]) ∧ Below w.heap.size w w' := by
  have HP := Lib.hid hp
  clear hp
  have b0 := (((Below.refl w.heap.size w).alloc (Nat.le_refl _) (.cells (wkL name owner A l.length cap) 26)).alloc (by simp) (.cells (edL e) 28)).alloc (by simp; omega) (.cells (edL M.zeroEd) 28)
  have h0 := ((holds_new w (wkL name owner A l.length cap) 26).alloc (.cells (edL e) 28)).alloc (.cells (edL M.zeroEd) 28)
  have h1 := (holds_new (w.alloc (.cells (wkL name owner A l.length cap) 26)) (edL e) 28).alloc (.cells (edL M.zeroEd) 28)
  have h2 := holds_new ((w.alloc (.cells (wkL name owner A l.length cap) 26)).alloc (.cells (edL e) 28)) (edL M.zeroEd) 28
  have f2 := loose_new ((w.alloc (.cells (wkL name owner A l.length cap) 26)).alloc (.cells (edL e) 28)) (edL M.zeroEd) 28
  have hl3 := ((hl.alloc (.cells (wkL name owner A l.length cap) 26)).alloc (.cells (edL e) 28)).alloc (.cells (edL M.zeroEd) 28)
  simp only [World.size_alloc] at h1 h2 f2
  rcases hk : M.wkOk ⟨name, owner, l⟩ with _ | _
  · have HE := Lib.hid (M.newest_bad e hk)
    have HK := Lib.hid hk
    clear hk
    go_enter Try.func19, Try.ntmps19
    go_wp2_with fail
    refine (implWorkOk name owner A l cap _ hl3 hn hlen HP.out).mono ?_
    rintro r w1 ⟨rfl, b1⟩
    rw [HK.out]
    have hl4 := hl3.below b1
    replace h0 := h0.below b1
    replace h1 := h1.below b1
    replace f2 := f2.below h2.1 b1
    replace h2 := h2.below b1
    replace b0 := next b0 b1
    obtain ⟨p0, p1, p2⟩ := h0.at3
    obtain ⟨q0, q1, q2⟩ := h1.at3
    obtain ⟨r0, r1, r2⟩ := h2.at3
    obtain ⟨s0, s1, s2⟩ := f2.fz3
    have z0 := h0.1
    have z1 := h1.1
    have z2 := h2.1
    clear b1
    go_wp2
    exact bodyPost_ret (results_inw M.zeroEd false (w.heap.size + 1 + 1) _ _ rfl rfl (h2.wr3 _ _ _)) rfl ⟨by rw [HE.out], far_3 b0 (by omega) _ _ _⟩
  · have HK := Lib.hid hk
    rcases hj : M.lastTo (M.shown e) l l.length with _ | j
    · have HE : Hid (M.newest ⟨name, owner, l⟩ e = (M.zeroEd, false)) := Lib.hid (M.newest_none (w := ⟨name, owner, l⟩) hj)
      have HJ := Lib.hid (M.lastInt_none hj)
      clear hk hj
      go_enter Try.func19, Try.ntmps19
      go_wp2_with fail
      refine (implWorkOk name owner A l cap _ hl3 hn hlen HP.out).mono ?_
      rintro r w1 ⟨rfl, b1⟩
      rw [HK.out]
      have hl4 := hl3.below b1
      replace h0 := h0.below b1
      replace h1 := h1.below b1
      replace f2 := f2.below h2.1 b1
      replace h2 := h2.below b1
      replace b0 := next b0 b1
      obtain ⟨p0, p1, p2⟩ := h0.at3
      obtain ⟨q0, q1, q2⟩ := h1.at3
      obtain ⟨r0, r1, r2⟩ := h2.at3
      obtain ⟨s0, s1, s2⟩ := f2.fz3
      have z0 := h0.1
      have z1 := h1.1
      have z2 := h2.1
      clear b1
      go_wp2_with fail
      refine (last_any e A l cap _ _ hl4 hlen h1).mono ?_
      rintro r w2 ⟨rfl, b2⟩
      rw [HJ.out]
      have hl5 := hl4.below b2
      clear p0 p1 p2 q0 q1 q2 r0 r1 r2 s0 s1 s2 z0 z1 z2
      replace h0 := h0.below b2
      replace h1 := h1.below b2
      replace f2 := f2.below h2.1 b2
      replace h2 := h2.below b2
      replace b0 := next b0 b2
      obtain ⟨p0, p1, p2⟩ := h0.at3
      obtain ⟨q0, q1, q2⟩ := h1.at3
      obtain ⟨r0, r1, r2⟩ := h2.at3
      obtain ⟨s0, s1, s2⟩ := f2.fz3
      have z0 := h0.1
      have z1 := h1.1
      have z2 := h2.1
      clear b2
      go_wp2
      exact bodyPost_ret (results_inw M.zeroEd false (w.heap.size + 1 + 1) _ _ rfl rfl (h2.wr3 _ _ _)) rfl ⟨by rw [HE.out], far_3 b0 (by omega) _ _ _⟩
    · obtain ⟨-, hlt, -⟩ := M.lastTo_lt hj
      have HE : Hid (M.newest ⟨name, owner, l⟩ e = (l[j].ed, true)) := Lib.hid (M.newest_some (w := ⟨name, owner, l⟩) hk hj hlt)
      have HJ := Lib.hid (M.lastInt_some hj)
      clear hk hj
      go_enter Try.func19, Try.ntmps19
      go_wp2_with fail
      refine (implWorkOk name owner A l cap _ hl3 hn hlen HP.out).mono ?_
      rintro r w1 ⟨rfl, b1⟩
      rw [HK.out]
      have hl4 := hl3.below b1
      replace h0 := h0.below b1
      replace h1 := h1.below b1
      replace f2 := f2.below h2.1 b1
      replace h2 := h2.below b1
      replace b0 := next b0 b1
      obtain ⟨p0, p1, p2⟩ := h0.at3
      obtain ⟨q0, q1, q2⟩ := h1.at3
      obtain ⟨r0, r1, r2⟩ := h2.at3
      obtain ⟨s0, s1, s2⟩ := f2.fz3
      have z0 := h0.1
      have z1 := h1.1
      have z2 := h2.1
      clear b1
      go_wp2_with fail
      refine (last_any e A l cap _ _ hl4 hlen h1).mono ?_
      rintro r w2 ⟨rfl, b2⟩
      rw [HJ.out]
      have hl5 := hl4.below b2
      clear p0 p1 p2 q0 q1 q2 r0 r1 r2 s0 s1 s2 z0 z1 z2
      replace h0 := h0.below b2
      replace h1 := h1.below b2
      replace f2 := f2.below h2.1 b2
      replace h2 := h2.below b2
      replace b0 := next b0 b2
      obtain ⟨p0, p1, p2⟩ := h0.at3
      obtain ⟨q0, q1, q2⟩ := h1.at3
      obtain ⟨r0, r1, r2⟩ := h2.at3
      obtain ⟨s0, s1, s2⟩ := f2.fz3
      have z0 := h0.1
      have z1 := h1.1
      have z2 := h2.1
      clear b2
      obtain ⟨b, o, rfl, zb, c0, c1, c2, c3, c4⟩ := Cps_at hl5 hlt
      have HL := Lib.hid (show _ ∧ _ ∧ _ ∧ _ from ⟨hl, hl3, hl4, hl5⟩)
      clear hl hl3 hl4 hl5
      go_wp2
      exact bodyPost_ret (results_inw l[j].ed true (w.heap.size + 1 + 1) _ _ rfl rfl (h2.wr3 _ _ _)) rfl ⟨by rw [HE.out], far_3 b0 (by omega) _ _ _⟩

end Go.Proofs.Ytbdcehmcdoocgaa
