/- Proved, in parts: Proved: the program's test whether two letters are the same in all answers whether they are, as plain data; nothing that was there is written. Condition: texts and lists of at most a million. Proved: the model's WorkOk answers one plain Lean function at every work; it writes nothing that was there. Condition: texts of at most maxLen bytes, at most a million copies. Proved: the model's ShelfOk answers as the plain Lean function does; it writes nothing that was there. Condition: texts and lists of at most a million. Proved: the model's BookOk answers as the plain Lean function does; it writes nothing that was there. Condition: texts and lists of at most a million. Proved: the model's test whether numbers are in their bounds, and whether two books are the same in all, answer plain Lean functions; nothing that was there is written. Condition: texts and lists of at most a million. -/
import Derived.Test.YtdoeiphnalbinaaPart12
import Derived.Test.YtdoeiphnalbinaaPart13
import Derived.Test.YtdoeiphnalbinaaPart02
import Derived.IntWalk
import Derived.Test.YtdoeiphnalbinaaPart05
import Derived.Test.YtdoeiphnalbinaaPart04
import Derived.Test.YtdoeiphnalbinaaPart07
namespace Go.Proofs.Ytdoeiphnalbinaa
open Go.RowKit
set_option maxRecDepth 20000
set_option maxHeartbeats 16000000 in
theorem implSameLetter (a b : LLt) (w : World) (ha : LtIn 1048576 w a) (hb : LtIn 1048576 w b) :
    Calls Try.prog 11 #[ltV a, ltV b] w fun e w' => e = .returned (.bool (decide (a.d = b.d))) ∧ Below w.heap.size w w' := by
  have h0 := (holds_new w (ltA a) 37).alloc (.cells (ltA b) 37)
  have h1 := holds_new (w.alloc (.cells (ltA a) 37)) (ltA b) 37
  have b0 := ((Below.refl w.heap.size w).alloc (Nat.le_refl _) (.cells (ltA a) 37)).alloc (by simp) (.cells (ltA b) 37)
  rw [World.size_alloc] at h1
  obtain ⟨k0, k1, k2, k3, k4, k5, k6, k7, k8, k9, k10⟩ := h0.at11
  obtain ⟨m0, m1, m2, m3, m4, m5, m6, m7, m8, m9, m10⟩ := h1.at11
  have HA := Lib.hid ha
  have HB := Lib.hid hb
  have hal := ha.en.len
  have hbl0 := hb.en.len
  clear ha hb
  obtain ⟨c0, hc0⟩ : ∃ c, (a.kind == b.kind) = c := ⟨_, rfl⟩
  obtain ⟨c1, hc1⟩ : ∃ c, (a.frm == b.frm) = c := ⟨_, rfl⟩
  obtain ⟨c2, hc2⟩ : ∃ c, (a.dst == b.dst) = c := ⟨_, rfl⟩
  obtain ⟨c3, hc3⟩ : ∃ c, (a.reign == b.reign) = c := ⟨_, rfl⟩
  obtain ⟨c4, hc4⟩ : ∃ c, (a.index == b.index) = c := ⟨_, rfl⟩
  obtain ⟨c5, hc5⟩ : ∃ c, (a.mark == b.mark) = c := ⟨_, rfl⟩
  obtain ⟨c6, hc6⟩ : ∃ c, decide (a.en.l = b.en.l) = c := ⟨_, rfl⟩
  obtain ⟨c7, hc7⟩ : ∃ c, (a.commit == b.commit) = c := ⟨_, rfl⟩
  obtain ⟨c8, hc8⟩ : ∃ c, (a.yes == b.yes) = c := ⟨_, rfl⟩
  obtain ⟨c9, hc9⟩ : ∃ c, M.bkSame a.bk.d b.bk.d = c := ⟨_, rfl⟩
  have hx : decide (a.d = b.d) = (c0 && (c1 && (c2 && (c3 && (c4 && (c5 && (c6 && (c7 && (c8 && c9))))))))) := by
    rw [M.lt_same, ← hc0, ← hc1, ← hc2, ← hc3, ← hc4, ← hc5, ← hc6, ← hc7, ← hc8, ← hc9]; rfl
  have HW := Lib.hid hx
  have HC6 := Lib.hid hc6
  have HC9 := Lib.hid hc9
  clear hx hc6 hc9
  go_enter Try.func11, Try.ntmps11
  rcases c0 with _ | _
  · go_wp2
    go_ret
    exact ⟨ret_bool (by rw [HW.out] <;> first | rfl | simp), b0⟩
  · rcases c1 with _ | _
    · go_wp2
      go_ret
      exact ⟨ret_bool (by rw [HW.out] <;> first | rfl | simp), b0⟩
    · rcases c2 with _ | _
      · go_wp2
        go_ret
        exact ⟨ret_bool (by rw [HW.out] <;> first | rfl | simp), b0⟩
      · rcases c3 with _ | _
        · go_wp2
          go_ret
          exact ⟨ret_bool (by rw [HW.out] <;> first | rfl | simp), b0⟩
        · rcases c4 with _ | _
          · go_wp2
            go_ret
            exact ⟨ret_bool (by rw [HW.out] <;> first | rfl | simp), b0⟩
          · rcases c5 with _ | _
            · go_wp2
              go_ret
              exact ⟨ret_bool (by rw [HW.out] <;> first | rfl | simp), b0⟩
            · go_wp2_with fail
              refine (eqsEn_any a.en.ad b.en.ad a.en.l b.en.l a.en.cap b.en.cap _ (HA.out.en.en.below b0) (HB.out.en.en.below b0) hal).mono ?_
              rintro r w1 ⟨rfl, b1⟩
              replace h0 := h0.below b1
              replace h1 := h1.below b1
              replace b0 := next b0 b1
              clear k0 k1 k2 k3 k4 k5 k6 k7 k8 k9 k10 m0 m1 m2 m3 m4 m5 m6 m7 m8 m9 m10 b1
              obtain ⟨k0, k1, k2, k3, k4, k5, k6, k7, k8, k9, k10⟩ := h0.at11
              obtain ⟨m0, m1, m2, m3, m4, m5, m6, m7, m8, m9, m10⟩ := h1.at11
              rw [HC6.out]
              rcases c6 with _ | _
              · go_wp2
                go_ret
                exact ⟨ret_bool (by rw [HW.out] <;> first | rfl | simp), b0⟩
              · rcases c7 with _ | _
                · go_wp2
                  go_ret
                  exact ⟨ret_bool (by rw [HW.out] <;> first | rfl | simp), b0⟩
                · obtain ⟨ya, hya⟩ : ∃ y, a.yes = y := ⟨_, rfl⟩
                  obtain ⟨yb, hyb⟩ : ∃ y, b.yes = y := ⟨_, rfl⟩
                  rw [hya, hyb] at hc8
                  simp only [hya] at k8
                  simp only [hyb] at m8
                  rcases ya with _ | _ <;> rcases yb with _ | _
                  · obtain rfl : c8 = true := hc8.symm
                    go_wp2_with fail
                    refine (sameBook_any a.bk b.bk _ (HA.out.bk.below b0) (HB.out.bk.below b0)).mono ?_
                    rintro r w1 ⟨rfl, b1⟩
                    replace b0 := next b0 b1
                    clear k0 k1 k2 k3 k4 k5 k6 k7 k8 k9 k10 m0 m1 m2 m3 m4 m5 m6 m7 m8 m9 m10 b1
                    rw [HC9.out]
                    go_wp2
                    go_ret
                    exact ⟨ret_bool (by rw [HW.out] <;> first | rfl | simp), b0⟩
                  · obtain rfl : c8 = false := hc8.symm
                    go_wp2
                    go_ret
                    exact ⟨ret_bool (by rw [HW.out] <;> first | rfl | simp), b0⟩
                  · obtain rfl : c8 = false := hc8.symm
                    go_wp2
                    go_ret
                    exact ⟨ret_bool (by rw [HW.out] <;> first | rfl | simp), b0⟩
                  · obtain rfl : c8 = true := hc8.symm
                    go_wp2_with fail
                    refine (sameBook_any a.bk b.bk _ (HA.out.bk.below b0) (HB.out.bk.below b0)).mono ?_
                    rintro r w1 ⟨rfl, b1⟩
                    replace b0 := next b0 b1
                    clear k0 k1 k2 k3 k4 k5 k6 k7 k8 k9 k10 m0 m1 m2 m3 m4 m5 m6 m7 m8 m9 m10 b1
                    rw [HC9.out]
                    go_wp2
                    go_ret
                    exact ⟨ret_bool (by rw [HW.out] <;> first | rfl | simp), b0⟩
end Go.Proofs.Ytdoeiphnalbinaa
namespace Go.Proofs.Ytdoeiphnalbinaa
open Go.RowKit
set_option maxRecDepth 20000

end Go.Proofs.Ytdoeiphnalbinaa
namespace Go.Proofs.Ytdoeiphnalbinaa
open Go.RowKit
set_option maxRecDepth 20000

end Go.Proofs.Ytdoeiphnalbinaa
namespace Go.Proofs.Ytdoeiphnalbinaa
open Go.RowKit
set_option maxRecDepth 20000
namespace M
end M

end Go.Proofs.Ytdoeiphnalbinaa
namespace Go.Proofs.Ytdoeiphnalbinaa
open Go.RowKit
set_option maxRecDepth 20000

theorem bkSame_false {a b : M.Bk} (h : a ≠ b) : M.bkSame a b = false := by
  obtain ⟨a1, a2⟩ := a
  obtain ⟨b1, b2⟩ := b
  unfold M.bkSame
  by_cases h1 : a1 = b1
  · have h2 : ¬ a2 = b2 := fun e => h (by rw [h1, e])
    simp [h2]
  · simp [h1]
theorem bkSame_true {a b : M.Bk} (h : a = b) : M.bkSame a b = true := by subst h; simp [M.bkSame]
set_option maxHeartbeats 8000000 in
theorem l10Same_any (a b : LBk) (w : World) (ha : BkIn 1048576 w a) (hb : BkIn 1048576 w b) :
    Calls Try.prog 19 #[a.v, b.v] w fun e w' => e = .returned (.bool (M.bkSame a.d b.d)) ∧ Below w.heap.size w w' := by
  have h0 := (holds_new w (bkA a.sf.ad a.sf.l.length a.sf.cap a.la.ad a.la.l.length a.la.cap) 35).alloc (.cells (bkA b.sf.ad b.sf.l.length b.sf.cap b.la.ad b.la.l.length b.la.cap) 35)
  have h1 := holds_new (w.alloc (.cells (bkA a.sf.ad a.sf.l.length a.sf.cap a.la.ad a.la.l.length a.la.cap) 35)) (bkA b.sf.ad b.sf.l.length b.sf.cap b.la.ad b.la.l.length b.la.cap) 35
  have b0 := ((Below.refl w.heap.size w).alloc (Nat.le_refl _) (.cells (bkA a.sf.ad a.sf.l.length a.sf.cap a.la.ad a.la.l.length a.la.cap) 35)).alloc (by simp) (.cells (bkA b.sf.ad b.sf.l.length b.sf.cap b.la.ad b.la.l.length b.la.cap) 35)
  rw [World.size_alloc] at h1
  obtain ⟨k0, k1⟩ := h0.two
  obtain ⟨m0, m1⟩ := h1.two
  have HA := Lib.hid ha
  have HB := Lib.hid hb
  have ha1 := ha.sfl
  have ha2 := ha.lal
  have hb1 := hb.sfl
  have hb2 := hb.lal
  clear ha hb
  by_cases hl1 : a.sf.l.length = b.sf.l.length
  · by_cases hl2 : a.la.l.length = b.la.l.length
    · have H0 := Lib.hid h0
      have H1 := Lib.hid h1
      have B0 := Lib.hid b0
      clear h0 h1 b0
      have e1 : ((a.sf.l.length : Int) != (b.sf.l.length : Int)) = false := by simp [hl1]
      have e2 : ((a.la.l.length : Int) != (b.la.l.length : Int)) = false := by simp [hl2]
      have HL1 := Lib.hid hl1
      have HL2 := Lib.hid hl2
      clear hl1 hl2
      go_enter Try.func19, Try.ntmps19
      go_upto_region 4 with (fail)
      go_wp2_with fail
      clear k0 k1 m0 m1
      generalize (w.alloc (.cells (bkA a.sf.ad a.sf.l.length a.sf.cap a.la.ad a.la.l.length a.la.cap) 35)).alloc (.cells (bkA b.sf.ad b.sf.l.length b.sf.cap b.la.ad b.la.l.length b.la.cap) 35) = x0 at H0 H1 B0 ⊢
      go_loopw [5] (fun i wr => ∃ j : Nat, i = .int .i64 j ∧ j ≤ a.la.l.length ∧ a.la.l.take j = b.la.l.take j ∧ Below x0.heap.size x0 wr) (fun i _ => a.la.l.length - (intOf i).toNat)
      case atStart => exact ⟨0, rfl, Nat.zero_le _, by simp, Below.refl _ _⟩
      case round =>
        obtain ⟨j, rfl, hj, hup, hbl⟩ := hrel
        have HU := Lib.hid hup
        have H0r := Lib.hid (H0.out.below hbl)
        have H1r := Lib.hid (H1.out.below hbl)
        obtain ⟨k0, k1⟩ := H0r.out.two
        obtain ⟨m0, m1⟩ := H1r.out.two
        have z0 := H0r.out.1
        have z1 := H1r.out.1
        clear hup
        by_cases hlt : j < a.la.l.length
        · have hlt2 : j < b.la.l.length := by have := HL2.out; omega
          obtain ⟨g, o, ea, zb, c0, c1, c2, c3⟩ := Las_at (HA.out.la.below (next B0.out hbl)) hlt
          obtain ⟨g', o', eb, zb', d0, d1, d2, d3⟩ := Las_at (HB.out.la.below (next B0.out hbl)) hlt2
          have w1 : IntKind.i64.wrap (j : Int) = j := by simp [IntKind.wrap, IntKind.bits, IntKind.signed]; omega
          rw [ea] at k1
          rw [eb] at m1
          go_wp2_with fail
          refine wp_region_seq (fun w' => Below wr.heap.size wr w') [(0, true), (1, true), (2, true), (3, true), (4, true), (5, true), (6, true), (7, true), (8, true), (9, true), (10, true)] (by kernel_rfl) (by kernel_rfl) (fun _ _ _ _ _ h => h) (by kernel_rfl) (by decide) (Below.refl _ _).drew ?_
          intro hHeld
          repeat (first
            | (refine seq_read (by simp only [List.getElem?_toArray, List.getElem?_cons_succ, List.getElem?_cons_zero]; first | done | rfl) (by rfl) (fun w _ => laxneq_read rfl rfl rfl w) ?_; (try simp only [Act.put, List.setIfInBounds_toArray, List.set_cons_zero, List.set_cons_succ]))
            | (refine seq_skip (by simp only [List.getElem?_toArray, List.getElem?_cons_succ, List.getElem?_cons_zero]; first | done | rfl) (by rfl) ?_; (try simp only [Act.put, List.setIfInBounds_toArray, List.set_cons_zero, List.set_cons_succ]))
            | (refine seq_reads (by simp only [List.getElem?_toArray, List.getElem?_cons_succ, List.getElem?_cons_zero]; first | done | rfl) (by rfl) ?_; apply Exists.intro; apply And.intro; (focus (intro w hSw; obtain ⟨hcS, -⟩ := bcell hSw; go_simp; (try with_reducible rfl); done)); (try simp only [Act.put, List.setIfInBounds_toArray, List.set_cons_zero, List.set_cons_succ]))
            | (refine seq_pass (by simp only [List.getElem?_toArray, List.getElem?_cons_succ, List.getElem?_cons_zero]; first | done | rfl) (by rfl) hHeld ?_; clear hHeld; intro hHeld; (try simp only [Act.put, List.setIfInBounds_toArray, List.set_cons_zero, List.set_cons_succ])))
          refine seq_end ?_
          rcases hq : M.laxEq a.la.l[j] b.la.l[j] with _ | _
          · have HE := Lib.hid (bkSame_false (a := a.d) (b := b.d) (fun e => by
              have e2 : a.la.l = b.la.l := congrArg (fun q => q.2) e
              have e3 : a.la.l[j] = b.la.l[j] := by simp [e2]
              rw [(M.laxEq_iff _ _).2 e3] at hq; cases hq))
            go_wp2
            go_ret
            exact ⟨ret_bool HE.out.symm, next (next B0.out hbl) hHeld⟩
          · have HN := Lib.hid (show a.la.l.take (j + 1) = b.la.l.take (j + 1) by
              rw [List.take_succ_eq_append_getElem hlt, List.take_succ_eq_append_getElem hlt2, HU.out, (M.laxEq_iff _ _).1 hq])
            go_wp2
            go_roundw
            case rel => exact ⟨j + 1, by go_num, by omega, HN.out, next hbl hHeld⟩
            case measure => simp [intOf]; omega
        · have HLA := Lib.hid (show a.la.l = b.la.l by
            have h1 := HU.out
            have h2 := HL2.out
            rwa [List.take_of_length_le (by omega), List.take_of_length_le (by omega)] at h1)
          have B1 := Lib.hid (next B0.out hbl)
          clear HU hbl H0 H1 B0
          go_upto_region 9 with (fail)
          clear k0 k1 m0 m1 z0 z1
          go_wp2_with fail
          go_loopw [6, 7, 8, 9] (fun i p q k wq => ∃ j : Nat, i = .int .i64 j ∧ j ≤ a.sf.l.length ∧ (a.sf.l.take j).map Wr.wk = (b.sf.l.take j).map Wr.wk ∧ Below wr.heap.size wr wq) (fun i _ _ _ _ => a.sf.l.length - (intOf i).toNat)
          case atStart => exact ⟨0, rfl, Nat.zero_le _, by simp, Below.refl _ _⟩
          case round =>
            clear hj
            obtain ⟨j, rfl, hj, hup, hbl⟩ := hrel
            have HU := Lib.hid hup
            have H0q := Lib.hid (H0r.out.below hbl)
            have H1q := Lib.hid (H1r.out.below hbl)
            obtain ⟨k0, k1⟩ := H0q.out.two
            obtain ⟨m0, m1⟩ := H1q.out.two
            have z0 := H0q.out.1
            have z1 := H1q.out.1
            have B2 := Lib.hid (next B1.out hbl)
            clear hup
            by_cases hlt : j < a.sf.l.length
            · have hlt2 : j < b.sf.l.length := by have := HL1.out; omega
              obtain ⟨g, o, ea, zb, c0, c1, c2, hca⟩ := Wks_at (HA.out.sf.below B2.out) hlt
              obtain ⟨g', o', eb, zb', d0, d1, d2, hcb⟩ := Wks_at (HB.out.sf.below B2.out) hlt2
              obtain ⟨hxn, hxc, hxp⟩ := HA.out.sft _ (List.getElem_mem hlt)
              rw [ea] at k0
              rw [eb] at m0
              obtain ⟨x, hx⟩ : ∃ x, a.sf.l[j] = x := ⟨_, rfl⟩
              obtain ⟨y, hy⟩ : ∃ y, b.sf.l[j] = y := ⟨_, rfl⟩
              rw [hx] at c0 c1 c2 hca hxn hxc hxp
              rw [hy] at d0 d1 d2 hcb
              have HX := Lib.hid hx
              have HY := Lib.hid hy
              have HCA := Lib.hid hca
              have HCB := Lib.hid hcb
              clear hx hy hca hcb
              have HDF : Hid (x.wk ≠ y.wk → M.bkSame a.d b.d = false) := Lib.hid (fun hne => bkSame_false (fun e => hne (by
                have e2 : a.sf.l.map Wr.wk = b.sf.l.map Wr.wk := congrArg (fun q => q.1) e
                have e3 : (a.sf.l.map Wr.wk)[j]? = (b.sf.l.map Wr.wk)[j]? := by rw [e2]
                rw [List.getElem?_map, List.getElem?_map, List.getElem?_eq_getElem hlt, List.getElem?_eq_getElem hlt2, HX.out, HY.out] at e3
                simpa using e3)))
              have HNX : Hid (x.wk = y.wk → (a.sf.l.take (j + 1)).map Wr.wk = (b.sf.l.take (j + 1)).map Wr.wk) := Lib.hid (fun he => by
                rw [List.take_succ_eq_append_getElem hlt, List.take_succ_eq_append_getElem hlt2, List.map_append, List.map_append, HU.out, HX.out, HY.out]; simp [he])
              clear HX HY HU
              go_upto_region 13 with (fail)
              have p0 := (holds_new wr #[.string x.name, .int .i64 x.owner, .slice x.ad x.cps.length x.cap] 80).alloc (.cells #[.string y.name, .int .i64 y.owner, .slice y.ad y.cps.length y.cap] 80)
              have p1 := holds_new (wr.alloc (.cells #[.string x.name, .int .i64 x.owner, .slice x.ad x.cps.length x.cap] 80)) #[.string y.name, .int .i64 y.owner, .slice y.ad y.cps.length y.cap] 80
              have bq := ((Below.refl wr.heap.size wr).alloc (Nat.le_refl _) (.cells #[.string x.name, .int .i64 x.owner, .slice x.ad x.cps.length x.cap] 80)).alloc (by simp) (.cells #[.string y.name, .int .i64 y.owner, .slice y.ad y.cps.length y.cap] 80)
              rw [World.size_alloc] at p1
              generalize (wr.alloc (.cells #[.string x.name, .int .i64 x.owner, .slice x.ad x.cps.length x.cap] 80)).alloc (.cells #[.string y.name, .int .i64 y.owner, .slice y.ad y.cps.length y.cap] 80) = xq at p0 p1 bq ⊢
              clear k0 k1 m0 m1 c0 c1 c2 d0 d1 d2 z0 z1
              obtain ⟨q0, q1, q2⟩ := p0.three
              obtain ⟨r0, r1, r2⟩ := p1.three
              have P0 := Lib.hid p0
              have P1 := Lib.hid p1
              have BQ := Lib.hid bq
              clear p0 p1 bq
              by_cases e1 : x.name = y.name
              · by_cases e2 : x.owner = y.owner
                · by_cases e3 : x.cps.length = y.cps.length
                  · have f3 : ((x.cps.length : Int) != (y.cps.length : Int)) = false := by simp [e3]
                    have f2 : (x.owner != y.owner) = false := by simp [e2]
                    have E3 := Lib.hid e3
                    have E2 := Lib.hid e2
                    clear e2 e3
                    rw [e1] at q0
                    have E1 := Lib.hid e1
                    clear e1
                    go_upto_region 16 with (fail)
                    clear q0 q1 q2 r0 r1 r2
                    go_wp2_with fail
                    go_loopw [9] (fun k ws => ∃ q : Nat, k = .int .i64 q ∧ q ≤ x.cps.length ∧ x.cps.take q = y.cps.take q ∧ Below xq.heap.size xq ws) (fun k _ => x.cps.length - (intOf k).toNat)
                    case atStart => exact ⟨0, rfl, Nat.zero_le _, by simp, Below.refl _ _⟩
                    case round =>
                      obtain ⟨q, rfl, hq, hu2, hb2⟩ := hrel
                      have HU2 := Lib.hid hu2
                      clear hu2
                      obtain ⟨q0, q1, q2⟩ := (P0.out.below hb2).three
                      obtain ⟨r0, r1, r2⟩ := (P1.out.below hb2).three
                      have z0 := (P0.out.below hb2).1
                      have z1 := (P1.out.below hb2).1
                      by_cases hlq : q < x.cps.length
                      · have hlq2 : q < y.cps.length := by have := E3.out; omega
                        obtain ⟨g1, o1, ea1, zc, c0, c1, c2, c3, c4⟩ := Cps_at (HCA.out.below (next BQ.out hb2)) hlq
                        obtain ⟨g2, o2, eb1, zc', d0, d1, d2, d3, d4⟩ := Cps_at (HCB.out.below (next BQ.out hb2)) hlq2
                        have w1 : IntKind.i64.wrap (q : Int) = q := by simp [IntKind.wrap, IntKind.bits, IntKind.signed]; omega
                        rw [ea1] at q2
                        rw [eb1] at r2
                        go_wp2_with fail
                        refine wp_region_seq (fun w' => Below wr.heap.size wr w') [(0, true), (1, true), (2, true), (3, true), (4, true), (5, true), (6, true), (7, true), (8, true), (9, true), (10, true)] (by kernel_rfl) (by kernel_rfl) (fun _ _ _ _ _ h => h) (by kernel_rfl) (by decide) (Below.refl _ _).drew ?_
                        intro hHeld
                        repeat (first
                          | (refine seq_read (by simp only [List.getElem?_toArray, List.getElem?_cons_succ, List.getElem?_cons_zero]; first | done | rfl) (by rfl) (fun w _ => cpxneq_read rfl rfl rfl w) ?_; (try simp only [Act.put, List.setIfInBounds_toArray, List.set_cons_zero, List.set_cons_succ]))
                          | (refine seq_skip (by simp only [List.getElem?_toArray, List.getElem?_cons_succ, List.getElem?_cons_zero]; first | done | rfl) (by rfl) ?_; (try simp only [Act.put, List.setIfInBounds_toArray, List.set_cons_zero, List.set_cons_succ]))
                          | (refine seq_reads (by simp only [List.getElem?_toArray, List.getElem?_cons_succ, List.getElem?_cons_zero]; first | done | rfl) (by rfl) ?_; apply Exists.intro; apply And.intro; (focus (intro w hSw; obtain ⟨hcS, -⟩ := bcell hSw; go_simp; (try with_reducible rfl); done)); (try simp only [Act.put, List.setIfInBounds_toArray, List.set_cons_zero, List.set_cons_succ]))
                          | (refine seq_pass (by simp only [List.getElem?_toArray, List.getElem?_cons_succ, List.getElem?_cons_zero]; first | done | rfl) (by rfl) hHeld ?_; clear hHeld; intro hHeld; (try simp only [Act.put, List.setIfInBounds_toArray, List.set_cons_zero, List.set_cons_succ])))
                        refine seq_end ?_
                        rcases hz : M.cpxEq x.cps[q] y.cps[q] with _ | _
                        · have HE := HDF.out (fun e => by
                            have e2 : x.cps = y.cps := congrArg M.Wk.copies e
                            have e3 : x.cps[q] = y.cps[q] := by simp [e2]
                            rw [(M.cpxEq_iff _ _).2 e3] at hz; cases hz)
                          go_wp2
                          go_ret
                          exact ⟨ret_bool HE.symm, next (next (next B2.out BQ.out) hb2) hHeld⟩
                        · have HN := Lib.hid (show x.cps.take (q + 1) = y.cps.take (q + 1) by
                            rw [List.take_succ_eq_append_getElem hlq, List.take_succ_eq_append_getElem hlq2, HU2.out, (M.cpxEq_iff _ _).1 hz])
                          go_wp2
                          go_roundw
                          case rel => exact ⟨q + 1, by go_num, by omega, HN.out, next hb2 hHeld⟩
                          case measure => simp [intOf]; omega
                      · have HWK := Lib.hid (HNX.out (by
                          have h1 := HU2.out
                          have h2 := E3.out
                          rw [List.take_of_length_le (by omega), List.take_of_length_le (by omega)] at h1
                          unfold Wr.wk
                          rw [E1.out, E2.out, h1]))
                        clear HU2
                        go_wp2
                        go_roundw
                        case rel => exact ⟨j + 1, by go_num, by omega, HWK.out, next (next hbl BQ.out) hb2⟩
                        case measure => simp [intOf]; omega
                  · have HE := HDF.out (fun e => e3 (congrArg (fun q => q.copies.length) e))
                    have f3 : ((x.cps.length : Int) != (y.cps.length : Int)) = true := by simp; omega
                    have f2 : (x.owner != y.owner) = false := by simp [e2]
                    clear e2 e3
                    rw [e1] at q0
                    go_wp2
                    go_ret
                    exact ⟨ret_bool HE.symm, next B2.out BQ.out⟩
                · have HE := HDF.out (fun e => e2 (congrArg M.Wk.owner e))
                  have f2 : (x.owner != y.owner) = true := by simp [e2]
                  clear e2
                  rw [e1] at q0
                  go_wp2
                  go_ret
                  exact ⟨ret_bool HE.symm, next B2.out BQ.out⟩
              · have HE := HDF.out (fun e => e1 (congrArg M.Wk.name e))
                have f1 := txt_other e1
                go_wp2
                go_ret
                exact ⟨ret_bool HE.symm, next B2.out BQ.out⟩
            · have HE := Lib.hid (bkSame_true (a := a.d) (b := b.d) (by
                have h1 := HU.out
                have h2 := HL1.out
                rw [List.take_of_length_le (by omega), List.take_of_length_le (by omega)] at h1
                unfold LBk.d
                rw [h1, HLA.out]))
              clear HU
              go_wp2
              go_ret
              exact ⟨ret_bool HE.out.symm, B2.out⟩
    · have HE := Lib.hid (bkSame_false (a := a.d) (b := b.d) (fun e => hl2 (congrArg (fun q => q.2.length) e)))
      have e1 : ((a.sf.l.length : Int) != (b.sf.l.length : Int)) = false := by simp [hl1]
      have e2 : ((a.la.l.length : Int) != (b.la.l.length : Int)) = true := by simp; omega
      clear hl1 hl2
      go_enter Try.func19, Try.ntmps19
      go_wp2
      go_ret
      exact ⟨ret_bool HE.out.symm, b0⟩
  · have HE := Lib.hid (bkSame_false (a := a.d) (b := b.d) (fun e => hl1 (by have := congrArg (fun q => q.1.length) e; simpa [LBk.d] using this)))
    have e1 : ((a.sf.l.length : Int) != (b.sf.l.length : Int)) = true := by simp; omega
    clear hl1
    go_enter Try.func19, Try.ntmps19
    go_wp2
    go_ret
    exact ⟨ret_bool HE.out.symm, b0⟩
end Go.Proofs.Ytdoeiphnalbinaa
