/- Proved, in parts: Proved: the program's own test whether two works, two shelves, two books are the same in all answers whether they are, as plain data; nothing that was there is written. Condition: texts and lists of at most a million. Proved: the program's test whether two letters are the same in all answers whether they are, as plain data; nothing that was there is written. Condition: texts and lists of at most a million. Proved: when a letter is right, and when two are the same, as plain data; the word of its kind. No program is named here; no condition. Proved: the program's test of a roll, its last number and the reign of an entry answer plain Lean functions; nothing that was there is written. Condition: texts and lists of at most a million. Proved: the program's CountOk, MostOf, InSet, With, SizeOf answer plain Lean functions at every number, and leave the world as it is; no condition. -/
import Derived.Test.YtdoeiphnalbinaaGreatPart23
import Derived.Test.YtdoeiphnalbinaaGreatPart16
import Derived.Test.YtdoeiphnalbinaaGreatPart05
import Derived.Test.YtdoeiphnalbinaaGreatPart17
import Derived.Test.YtdoeiphnalbinaaGreatPart13
import Derived.Test.YtdoeiphnalbinaaGreatPart15
import Derived.ScopeJumps
import Derived.Scope
import Derived.WalkMore
namespace Go.Proofs.YtdoeiphnalbinaaGreat
open Go.RowKit
set_option maxRecDepth 20000

set_option maxHeartbeats 4000000 in
theorem sameWork_any (x y : Wr) (w : World) (hx : Cps w x.ad x.cps) (hy : Cps w y.ad y.cps) (hlen : x.cps.length ≤ 1048576) :
    Calls Tryz.prog 116 #[.agg #[.string x.name, .int .i64 x.owner, .slice x.ad x.cps.length x.cap], .agg #[.string y.name, .int .i64 y.owner, .slice y.ad y.cps.length y.cap]] w fun e w' => e = .returned (.bool (decide (x.wk = y.wk))) ∧ Below w.heap.size w w' := by
  have h0 := (holds_new w #[.string x.name, .int .i64 x.owner, .slice x.ad x.cps.length x.cap] 106).alloc (.cells #[.string y.name, .int .i64 y.owner, .slice y.ad y.cps.length y.cap] 106)
  have h1 := holds_new (w.alloc (.cells #[.string x.name, .int .i64 x.owner, .slice x.ad x.cps.length x.cap] 106)) #[.string y.name, .int .i64 y.owner, .slice y.ad y.cps.length y.cap] 106
  have b0 := ((Below.refl w.heap.size w).alloc (Nat.le_refl _) (.cells #[.string x.name, .int .i64 x.owner, .slice x.ad x.cps.length x.cap] 106)).alloc (by simp) (.cells #[.string y.name, .int .i64 y.owner, .slice y.ad y.cps.length y.cap] 106)
  rw [World.size_alloc] at h1
  obtain ⟨k0, k1, k2⟩ := h0.three
  obtain ⟨m0, m1, m2⟩ := h1.three
  have HX := Lib.hid hx
  have HY := Lib.hid hy
  clear hx hy
  by_cases e1 : x.name = y.name
  · rcases e2 : (x.owner == y.owner) with _ | _
    · have HE : Hid (decide (x.wk = y.wk) = false) := Lib.hid (decide_eq_false (fun e => by
        have e3 : x.owner = y.owner := congrArg M.Wk.owner e
        rw [e3] at e2; simp at e2))
      have f1 : (x.name.toList == y.name.toList) = true := by rw [e1]; exact beq_self_eq_true _
      clear e1
      go_enter Tryz.func116, Tryz.ntmps116
      go_wp2
      go_ret
      exact ⟨ret_bool HE.out.symm, b0⟩
    · have HE : Hid (decide (x.wk = y.wk) = decide (x.cps = y.cps)) := Lib.hid (by
        have e3 : x.owner = y.owner := by simpa using e2
        unfold Wr.wk
        rw [e1, e3]
        by_cases hc : x.cps = y.cps <;> simp [hc])
      have f1 : (x.name.toList == y.name.toList) = true := by rw [e1]; exact beq_self_eq_true _
      clear e1
      go_enter Tryz.func116, Tryz.ntmps116
      go_wp2_with fail
      refine (eqsCp_any x.ad y.ad x.cps y.cps x.cap y.cap _ (HX.out.below b0) (HY.out.below b0) hlen).mono ?_
      rintro r w1 ⟨rfl, b1⟩
      replace b0 := next b0 b1
      clear b1
      go_wp2
      go_ret
      exact ⟨ret_bool HE.out.symm, b0⟩
  · have HE : Hid (decide (x.wk = y.wk) = false) := Lib.hid (decide_eq_false (fun e => e1 (congrArg M.Wk.name e)))
    have f1 := txt_other e1
    clear e1
    go_enter Tryz.func116, Tryz.ntmps116
    go_wp2
    go_ret
    exact ⟨ret_bool HE.out.symm, b0⟩
set_option maxHeartbeats 4000000 in
theorem eqfWk_any (A B : Option Addr) (l m : List Wr) (ca cb : Nat) (w : World) (hl : Wks w A l) (hm : Wks w B m) (hlen : l.length ≤ 1048576) (hp : WrsIn 1048576 l) :
    Calls Tryz.prog 115 #[.slice A l.length ca, .slice B m.length cb, .func (.func 116) #[] #[]] w fun e w' => e = .returned (.bool (decide (l.map Wr.wk = m.map Wr.wk))) ∧ Below w.heap.size w w' := by
  by_cases hl1 : l.length = m.length
  · have e1 : ((l.length : Int) != (m.length : Int)) = false := by simp [hl1]
    have HL1 := Lib.hid hl1
    clear hl1
    go_enter Tryz.func115, Tryz.ntmps115
    go_wp2
    go_loopw [17] (fun i wr => ∃ j : Nat, i = .int .i64 j ∧ j ≤ l.length ∧ (l.take j).map Wr.wk = (m.take j).map Wr.wk ∧ Below w.heap.size w wr) (fun i _ => l.length - (intOf i).toNat)
    case atStart => exact ⟨0, rfl, Nat.zero_le _, by simp, Below.refl _ _⟩
    case round =>
      obtain ⟨j, rfl, hj, hup, hbl⟩ := hrel
      have HU := Lib.hid hup
      clear hup
      by_cases hlt : j < l.length
      · have hlt2 : j < m.length := by have := HL1.out; omega
        obtain ⟨g, o, rfl, zb, c0, c1, c2, hca⟩ := Wks_at (hl.below hbl) hlt
        obtain ⟨g', o', rfl, zb', d0, d1, d2, hcb⟩ := Wks_at (hm.below hbl) hlt2
        have w1 : IntKind.i64.wrap (j : Int) = j := by simp [IntKind.wrap, IntKind.bits, IntKind.signed]; omega
        have hxc := (hp _ (List.getElem_mem hlt)).2.1
        have HLL := Lib.hid hl
        have HMM := Lib.hid hm
        clear hl hm
        obtain ⟨x, hx⟩ : ∃ x, l[j] = x := ⟨_, rfl⟩
        obtain ⟨y, hy⟩ : ∃ y, m[j] = y := ⟨_, rfl⟩
        rw [hx] at c0 c1 c2 hca hxc
        rw [hy] at d0 d1 d2 hcb
        have HX := Lib.hid hx
        have HY := Lib.hid hy
        have HCA := Lib.hid hca
        have HCB := Lib.hid hcb
        clear hx hy hca hcb
        have bq := ((Below.refl wr.heap.size wr).alloc (Nat.le_refl _) (.cells #[.string x.name, .int .i64 x.owner, .slice x.ad x.cps.length x.cap] 106)).alloc (by simp) (.cells #[.string y.name, .int .i64 y.owner, .slice y.ad y.cps.length y.cap] 106)
        go_wp2_with fail
        refine (sameWork_any x y _ (HCA.out.below bq) (HCB.out.below bq) hxc).mono ?_
        rintro r w2 ⟨rfl, b1⟩
        have b2 := next (next hbl bq) b1
        clear b1 bq
        rcases hq : decide (x.wk = y.wk) with _ | _
        · have HE : Hid (decide (l.map Wr.wk = m.map Wr.wk) = false) := Lib.hid (decide_eq_false (fun e => by
            have e3 : (l.map Wr.wk)[j]? = (m.map Wr.wk)[j]? := by rw [e]
            rw [List.getElem?_map, List.getElem?_map, List.getElem?_eq_getElem hlt, List.getElem?_eq_getElem hlt2, HX.out, HY.out] at e3
            exact of_decide_eq_false hq (by simpa using e3)))
          go_wp2
          go_ret
          exact ⟨ret_bool HE.out.symm, b2⟩
        · have HN := Lib.hid (show (l.take (j + 1)).map Wr.wk = (m.take (j + 1)).map Wr.wk by
            rw [List.take_succ_eq_append_getElem hlt, List.take_succ_eq_append_getElem hlt2, List.map_append, List.map_append, HU.out, HX.out, HY.out]; simp [of_decide_eq_true hq])
          go_wp2
          go_roundw
          case rel => exact ⟨j + 1, by go_num, by omega, HN.out, b2⟩
          case measure => simp [intOf]; omega
      · have HE : Hid (decide (l.map Wr.wk = m.map Wr.wk) = true) := Lib.hid (decide_eq_true (by
          have h1 := HU.out
          have h2 := HL1.out
          rwa [List.take_of_length_le (by omega), List.take_of_length_le (by omega)] at h1))
        go_wp2
        go_ret
        exact ⟨ret_bool HE.out.symm, hbl⟩
  · have e1 : ((l.length : Int) != (m.length : Int)) = true := by simp; omega
    have HE : Hid (decide (l.map Wr.wk = m.map Wr.wk) = false) := Lib.hid (decide_eq_false (fun e => hl1 (by have := congrArg List.length e; simpa using this)))
    clear hl1
    go_enter Tryz.func115, Tryz.ntmps115
    go_wp2
    go_ret
    exact ⟨ret_bool HE.out.symm, Below.refl _ _⟩
set_option maxHeartbeats 4000000 in
theorem sameBook_any (a b : LBk) (w : World) (ha : BkIn 1048576 w a) (hb : BkIn 1048576 w b) :
    Calls Tryz.prog 96 #[a.v, b.v] w fun e w' => e = .returned (.bool (M.bkSame a.d b.d)) ∧ Below w.heap.size w w' := by
  have h0 := (holds_new w (bkA a.sf.ad a.sf.l.length a.sf.cap a.la.ad a.la.l.length a.la.cap) 35).alloc (.cells (bkA b.sf.ad b.sf.l.length b.sf.cap b.la.ad b.la.l.length b.la.cap) 35)
  have h1 := holds_new (w.alloc (.cells (bkA a.sf.ad a.sf.l.length a.sf.cap a.la.ad a.la.l.length a.la.cap) 35)) (bkA b.sf.ad b.sf.l.length b.sf.cap b.la.ad b.la.l.length b.la.cap) 35
  have b0 := ((Below.refl w.heap.size w).alloc (Nat.le_refl _) (.cells (bkA a.sf.ad a.sf.l.length a.sf.cap a.la.ad a.la.l.length a.la.cap) 35)).alloc (by simp) (.cells (bkA b.sf.ad b.sf.l.length b.sf.cap b.la.ad b.la.l.length b.la.cap) 35)
  rw [World.size_alloc] at h1
  obtain ⟨k0, k1⟩ := h0.two
  obtain ⟨m0, m1⟩ := h1.two
  have HA := Lib.hid ha
  have HB := Lib.hid hb
  have ha1 := ha.sfl
  have ha2 := ha.lal
  clear ha hb
  have HE : Hid (M.bkSame a.d b.d = (decide (a.sf.l.map Wr.wk = b.sf.l.map Wr.wk) && decide (a.la.l = b.la.l))) := Lib.hid rfl
  go_enter Tryz.func96, Tryz.ntmps96
  go_wp2_with fail
  refine (eqfWk_any a.sf.ad b.sf.ad a.sf.l b.sf.l a.sf.cap b.sf.cap _ (HA.out.sf.below b0) (HB.out.sf.below b0) ha1 HA.out.sft).mono ?_
  rintro r w1 ⟨rfl, b1⟩
  replace h0 := h0.below b1
  replace h1 := h1.below b1
  replace b0 := next b0 b1
  clear k0 k1 m0 m1 b1
  obtain ⟨k0, k1⟩ := h0.two
  obtain ⟨m0, m1⟩ := h1.two
  rcases hq : decide (a.sf.l.map Wr.wk = b.sf.l.map Wr.wk) with _ | _
  · have HF : Hid (M.bkSame a.d b.d = false) := Lib.hid (by rw [HE.out, hq]; rfl)
    clear hq
    go_wp2
    go_ret
    exact ⟨ret_bool HF.out.symm, b0⟩
  · have HF : Hid (M.bkSame a.d b.d = decide (a.la.l = b.la.l)) := Lib.hid (by rw [HE.out, hq]; rfl)
    clear hq
    go_wp2_with fail
    refine (eqsLa_any a.la.ad b.la.ad a.la.l b.la.l a.la.cap b.la.cap _ (HA.out.la.below b0) (HB.out.la.below b0) ha2).mono ?_
    rintro r w1 ⟨rfl, b1⟩
    replace b0 := next b0 b1
    clear k0 k1 m0 m1 b1
    go_wp2
    go_ret
    exact ⟨ret_bool HF.out.symm, b0⟩
end Go.Proofs.YtdoeiphnalbinaaGreat
namespace Go.Proofs.YtdoeiphnalbinaaGreat
open Go.RowKit
set_option maxRecDepth 20000
set_option maxHeartbeats 16000000 in
theorem implSameLetter (a b : LLt) (w : World) (ha : LtIn 1048576 w a) (hb : LtIn 1048576 w b) :
    Calls Tryz.prog 76 #[ltV a, ltV b] w fun e w' => e = .returned (.bool (decide (a.d = b.d))) ∧ Below w.heap.size w w' := by
  have h0 := (holds_new w (ltA a) 37).alloc (.cells (ltA b) 37)
  have h1 := holds_new (w.alloc (.cells (ltA a) 37)) (ltA b) 37
  have b0 := ((Below.refl w.heap.size w).alloc (Nat.le_refl _) (.cells (ltA a) 37)).alloc (by simp) (.cells (ltA b) 37)
  rw [World.size_alloc] at h1
  obtain ⟨k0, k1, k2, k3, k4, k5, k6, k7, k8, k9, k10⟩ := h0.at11
  obtain ⟨m0, m1, m2, m3, m4, m5, m6, m7, m8, m9, m10⟩ := h1.at11
  have HA := Lib.hid ha
  have HB := Lib.hid hb
  have hal := ha.en.len
  have hbl0 := hb.en.len
  clear ha hb
  obtain ⟨c0, hc0⟩ : ∃ c, (a.kind == b.kind) = c := ⟨_, rfl⟩
  obtain ⟨c1, hc1⟩ : ∃ c, (a.frm == b.frm) = c := ⟨_, rfl⟩
  obtain ⟨c2, hc2⟩ : ∃ c, (a.dst == b.dst) = c := ⟨_, rfl⟩
  obtain ⟨c3, hc3⟩ : ∃ c, (a.reign == b.reign) = c := ⟨_, rfl⟩
  obtain ⟨c4, hc4⟩ : ∃ c, (a.index == b.index) = c := ⟨_, rfl⟩
  obtain ⟨c5, hc5⟩ : ∃ c, (a.mark == b.mark) = c := ⟨_, rfl⟩
  obtain ⟨c6, hc6⟩ : ∃ c, decide (a.en.l = b.en.l) = c := ⟨_, rfl⟩
  obtain ⟨c7, hc7⟩ : ∃ c, (a.commit == b.commit) = c := ⟨_, rfl⟩
  obtain ⟨c8, hc8⟩ : ∃ c, (a.yes == b.yes) = c := ⟨_, rfl⟩
  obtain ⟨c9, hc9⟩ : ∃ c, M.bkSame a.bk.d b.bk.d = c := ⟨_, rfl⟩
  have hx : decide (a.d = b.d) = (c0 && (c1 && (c2 && (c3 && (c4 && (c5 && (c6 && (c7 && (c8 && c9))))))))) := by
    rw [M.lt_same, ← hc0, ← hc1, ← hc2, ← hc3, ← hc4, ← hc5, ← hc6, ← hc7, ← hc8, ← hc9]; rfl
  have HW := Lib.hid hx
  have HC6 := Lib.hid hc6
  have HC9 := Lib.hid hc9
  clear hx hc6 hc9
  go_enter Tryz.func76, Tryz.ntmps76
  rcases c0 with _ | _
  · go_wp2
    go_ret
    exact ⟨ret_bool (by rw [HW.out] <;> first | rfl | simp), b0⟩
  · rcases c1 with _ | _
    · go_wp2
      go_ret
      exact ⟨ret_bool (by rw [HW.out] <;> first | rfl | simp), b0⟩
    · rcases c2 with _ | _
      · go_wp2
        go_ret
        exact ⟨ret_bool (by rw [HW.out] <;> first | rfl | simp), b0⟩
      · rcases c3 with _ | _
        · go_wp2
          go_ret
          exact ⟨ret_bool (by rw [HW.out] <;> first | rfl | simp), b0⟩
        · rcases c4 with _ | _
          · go_wp2
            go_ret
            exact ⟨ret_bool (by rw [HW.out] <;> first | rfl | simp), b0⟩
          · rcases c5 with _ | _
            · go_wp2
              go_ret
              exact ⟨ret_bool (by rw [HW.out] <;> first | rfl | simp), b0⟩
            · go_wp2_with fail
              refine (eqsEn_any a.en.ad b.en.ad a.en.l b.en.l a.en.cap b.en.cap _ (HA.out.en.en.below b0) (HB.out.en.en.below b0) hal).mono ?_
              rintro r w1 ⟨rfl, b1⟩
              replace h0 := h0.below b1
              replace h1 := h1.below b1
              replace b0 := next b0 b1
              clear k0 k1 k2 k3 k4 k5 k6 k7 k8 k9 k10 m0 m1 m2 m3 m4 m5 m6 m7 m8 m9 m10 b1
              obtain ⟨k0, k1, k2, k3, k4, k5, k6, k7, k8, k9, k10⟩ := h0.at11
              obtain ⟨m0, m1, m2, m3, m4, m5, m6, m7, m8, m9, m10⟩ := h1.at11
              rw [HC6.out]
              rcases c6 with _ | _
              · go_wp2
                go_ret
                exact ⟨ret_bool (by rw [HW.out] <;> first | rfl | simp), b0⟩
              · rcases c7 with _ | _
                · go_wp2
                  go_ret
                  exact ⟨ret_bool (by rw [HW.out] <;> first | rfl | simp), b0⟩
                · obtain ⟨ya, hya⟩ : ∃ y, a.yes = y := ⟨_, rfl⟩
                  obtain ⟨yb, hyb⟩ : ∃ y, b.yes = y := ⟨_, rfl⟩
                  rw [hya, hyb] at hc8
                  simp only [hya] at k8
                  simp only [hyb] at m8
                  rcases ya with _ | _ <;> rcases yb with _ | _
                  · obtain rfl : c8 = true := hc8.symm
                    go_wp2_with fail
                    refine (sameBook_any a.bk b.bk _ (HA.out.bk.below b0) (HB.out.bk.below b0)).mono ?_
                    rintro r w1 ⟨rfl, b1⟩
                    replace b0 := next b0 b1
                    clear k0 k1 k2 k3 k4 k5 k6 k7 k8 k9 k10 m0 m1 m2 m3 m4 m5 m6 m7 m8 m9 m10 b1
                    rw [HC9.out]
                    go_wp2
                    go_ret
                    exact ⟨ret_bool (by rw [HW.out] <;> first | rfl | simp), b0⟩
                  · obtain rfl : c8 = false := hc8.symm
                    go_wp2
                    go_ret
                    exact ⟨ret_bool (by rw [HW.out] <;> first | rfl | simp), b0⟩
                  · obtain rfl : c8 = false := hc8.symm
                    go_wp2
                    go_ret
                    exact ⟨ret_bool (by rw [HW.out] <;> first | rfl | simp), b0⟩
                  · obtain rfl : c8 = true := hc8.symm
                    go_wp2_with fail
                    refine (sameBook_any a.bk b.bk _ (HA.out.bk.below b0) (HB.out.bk.below b0)).mono ?_
                    rintro r w1 ⟨rfl, b1⟩
                    replace b0 := next b0 b1
                    clear k0 k1 k2 k3 k4 k5 k6 k7 k8 k9 k10 m0 m1 m2 m3 m4 m5 m6 m7 m8 m9 m10 b1
                    rw [HC9.out]
                    go_wp2
                    go_ret
                    exact ⟨ret_bool (by rw [HW.out] <;> first | rfl | simp), b0⟩
end Go.Proofs.YtdoeiphnalbinaaGreat
namespace Go.Proofs.YtdoeiphnalbinaaGreat
open Go.RowKit
namespace M
def Lt.noBook (l : Lt) : Bool := decide (l.book.1.length = 0) && decide (l.book.2.length = 0)
def Lt.bare (l : Lt) : Bool :=
  if l.kind = 1 then decide (l.list.length = 0) && (decide (l.commit = 0) && (!l.yes && l.noBook))
  else if l.kind = 2 then decide (l.index = 0) && (decide (l.mark = 0) && (decide (l.list.length = 0) && (decide (l.commit = 0) && l.noBook)))
  else if l.kind = 3 then !l.yes && (l.noBook && (decide (l.list.length ≤ 5) && listOk l.mark l.list))
  else if l.kind = 4 then decide (l.mark = 0) && (decide (l.list.length = 0) && (decide (l.commit = 0) && l.noBook))
  else if l.kind = 5 then decide (l.list.length = 0) && (decide (l.commit = 0) && (!l.yes && bkOk l.book.1 l.book.2))
  else false
/-- The reign of its last entry; its mark where there is none. -/
def Lt.top (l : Lt) : Int := if h : 0 < l.list.length then (l.list[l.list.length - 1]'(by omega)).reign else l.mark
def ltOk (l : Lt) (n : Int) : Bool := cok n && (inI l.frm 0 (n - 1) && (inI l.dst 0 (n - 1) && (decide (l.frm ≠ l.dst) && (inI l.reign 1 1000 && (l.bare && (inI l.index 0 400 && (inI l.commit 0 400 && (inI l.mark 0 l.reign && decide (l.top ≤ l.reign)))))))))
end M
end Go.Proofs.YtdoeiphnalbinaaGreat
namespace Go.Proofs.YtdoeiphnalbinaaGreat
open Go.RowKit
set_option maxRecDepth 20000
set_option linter.unusedVariables false

set_option maxHeartbeats 1000000 in
theorem enfirst_all (p : M.En → Bool) (A : Option Addr) (l : List M.En) (cap : Nat) (g : Value) (w : World) (hl : Ens w A l) (hlen : l.length ≤ 1048576)
    (hcall : ∀ (c : M.En) (w' : World), c ∈ l → Below w.heap.size w w' → Calls Tryz.prog 65 #[enV c, g] w' fun r w'' => r = .returned (.bool (p c)) ∧ Below w'.heap.size w' w'') :
    Calls Tryz.prog 64 #[.slice A l.length cap, .func (.func 65) #[] #[g]] w fun r w' => r = .returned (.int .i64 (l.findIdx p : Nat)) ∧ Below w.heap.size w w' := by
  have HC := Lib.hid hcall
  clear hcall
  go_enter Tryz.func64, Tryz.ntmps64
  go_wp2
  go_loopw [9] (fun i wr => ∃ j : Nat, i = .int .i64 j ∧ j ≤ l.length ∧ GNoneTo p l j ∧ Below w.heap.size w wr) (fun i _ => l.length - (intOf i).toNat)
  case atStart => exact ⟨0, rfl, Nat.zero_le _, GNoneTo.zero p l, Below.refl _ _⟩
  case round =>
    obtain ⟨j, rfl, hj, hnone, hbl⟩ := hrel
    by_cases hlt : j < l.length
    · obtain ⟨b, o, rfl, -, c0, c1, c2, c3, c4, c5, c6, c7, c8, c9⟩ := Ens_at (hl.below hbl) hlt
      have HA := Lib.hid hl
      have HN := Lib.hid hnone
      have ba := hbl.alloc hbl.size (.cells (enC l[j]) 53)
      clear hl hnone
      rcases hp : p l[j] with _ | _
      · have HP := Lib.hid hp
        go_wp2_with fail
        refine (HC.out l[j] _ (List.getElem_mem hlt) ba).mono ?_
        rintro r w1 ⟨rfl, b1⟩
        clear hp
        have hp := HP.out
        rw [hp]
        clear hp
        go_wp2
        go_roundw
        case rel => exact ⟨j + 1, by go_num, by omega, HN.out.next hlt HP.out, next ba b1⟩
        case measure => simp [intOf]; omega
      · have HP := Lib.hid hp
        go_wp2_with fail
        refine (HC.out l[j] _ (List.getElem_mem hlt) ba).mono ?_
        rintro r w1 ⟨rfl, b1⟩
        clear hp
        have hp := HP.out
        rw [hp]
        clear hp
        go_wp2
        go_ret
        exact ⟨ret_int (by rw [HN.out.hit hlt HP.out]), next ba b1⟩
    · have hj' : j = l.length := by omega
      subst hj'
      have HN := Lib.hid hnone
      clear hnone
      go_wp2
      go_ret
      exact ⟨ret_int (by rw [HN.out.all]), hbl⟩

set_option maxHeartbeats 1000000 in
theorem all1_entryOk (c : M.En) (g : Nat) (w : World) (hc : enIn 1048576 c) (hg : w.cell? ⟨g, 0, none⟩ = some (.func (.func 37) #[] #[])) :
    Calls Tryz.prog 65 #[enV c, .pointer (some ⟨g, 0, none⟩)] w fun r w' => r = .returned (.bool (!M.entryOk c)) ∧ Below w.heap.size w w' := by
  have b0 := (Below.refl w.heap.size w).alloc (Nat.le_refl _) (.cells (enC c) 53)
  have hgl : g < w.heap.size := World.block_lt_of_cell? w _ hg
  go_enter Tryz.func65, Tryz.ntmps65
  go_wp2_with fail
  refine (implEntryOk c _ (by have := hc.1; unfold maxLen; omega) (by have := hc.2; unfold maxLen; omega)).mono ?_
  rintro r w1 ⟨rfl, b1⟩
  go_wp2
  go_ret
  exact ⟨rfl, next b0 b1⟩
set_option maxHeartbeats 1000000 in
theorem all_entryOk (A : Option Addr) (l : List M.En) (cap : Nat) (w : World) (hl : Ens w A l) (hlen : l.length ≤ 1048576) (hp : ∀ e ∈ l, enIn 1048576 e) :
    Calls Tryz.prog 36 #[.slice A l.length cap, .func (.func 37) #[] #[]] w fun r w' => r = .returned (.bool (l.all M.entryOk)) ∧ Below w.heap.size w w' := by
  have b0 := (Below.refl w.heap.size w).alloc (Nat.le_refl _) (.cells #[.func (.func 37) #[] #[]] 77)
  have HB : Hid (((l.findIdx (fun c => !M.entryOk c) : Int) == (l.length : Int)) = l.all M.entryOk) := Lib.hid (all_findIdxG _ l)
  have HL := Lib.hid hl
  have HP := Lib.hid hp
  clear hl hp
  go_enter Tryz.func36, Tryz.ntmps36
  go_wp2_with fail
  refine (enfirst_all (fun c => !M.entryOk c) A l cap _ _ (HL.out.alloc _) hlen (fun c w' hc hb => all1_entryOk c _ w' (HP.out c hc) (box_cells hb 0))).mono ?_
  rintro r w1 ⟨rfl, b1⟩
  go_wp2
  go_ret
  exact ⟨ret_bool HB.out, next b0 b1⟩
set_option maxHeartbeats 1000000 in
theorem reignsOk_any (r : Int) (A : Option Addr) (l : List M.En) (cap : Nat) (w : World) (hl : Ens w A l) (hlen : l.length ≤ 1048576) :
    Calls Tryz.prog 38 #[.int .i64 r, .slice A l.length cap] w fun e w' => e = .returned (.bool (M.upFrom r l)) ∧ Below w.heap.size w w' := by
  go_enter Tryz.func38, Tryz.ntmps38
  go_wp2
  go_loopw [0, 9] (fun a i wr => ∃ j : Nat, i = .int .i64 j ∧ a = .int .i64 (M.reignAhead r l j) ∧ j ≤ l.length ∧ M.UpTo r l j ∧ Below w.heap.size w wr) (fun _ i _ => l.length - (intOf i).toNat)
  case atStart => exact ⟨0, rfl, rfl, Nat.zero_le _, M.UpTo.zero r l, Below.refl _ _⟩
  case round =>
    obtain ⟨j, rfl, rfl, hj, hup, hbl⟩ := hrel
    by_cases hlt : j < l.length
    · obtain ⟨b, o, rfl, -, c0, c1, c2, c3, c4, c5, c6, c7, c8, c9⟩ := Ens_at (hl.below hbl) hlt
      have HA := Lib.hid hl
      have HU := Lib.hid hup
      have HS := Lib.hid (M.reignAhead_succ (r := r) hlt)
      have ba := hbl.alloc hbl.size (.cells (enC l[j]) 53)
      obtain ⟨K, hK⟩ : ∃ K, M.reignAhead r l j = K := ⟨_, rfl⟩
      have HK := Lib.hid hK
      rw [hK]
      clear hl hup hK
      by_cases hr : K ≤ l[j].reign
      · have HN := Lib.hid (HU.out.next hlt (by rw [HK.out]; exact hr))
        go_wp2
        go_roundw
        case rel => exact ⟨j + 1, by go_num, by rw [HS.out], by omega, HN.out, ba⟩
        case measure => simp [intOf]; omega
      · have HE : Hid (M.upFrom r l = false) := Lib.hid (M.up_not hlt (by rw [HK.out]; exact hr))
        go_wp2
        go_ret
        exact ⟨ret_bool HE.out.symm, ba⟩
    · have hj' : j = l.length := by omega
      subst hj'
      have HE : Hid (M.upFrom r l = true) := Lib.hid hup.all
      clear hup
      go_wp2
      go_ret
      exact ⟨ret_bool HE.out.symm, hbl⟩
end Go.Proofs.YtdoeiphnalbinaaGreat
namespace Go.Proofs.YtdoeiphnalbinaaGreat
open Go.RowKit

theorem implCountOk (n : Int) (w : World) : Calls Tryz.prog 33 #[.int .i64 n] w fun e w' => e = .returned (.bool (M.cok n)) ∧ w = w' := by
  by_cases h3 : n = 3
  · have hk : (n == 3) = true := by simp [h3]
    go_enter Tryz.func33, Tryz.ntmps33
    go_wp2
    go_ret
    exact ⟨ret_bool (by simp [M.cok, h3]), rfl⟩
  · have hk : (n == 3) = false := by simp [h3]
    go_enter Tryz.func33, Tryz.ntmps33
    go_wp2
    go_ret
    exact ⟨ret_bool (by simp [M.cok, h3]), rfl⟩

namespace M
def o1 (s : Int) : Int := IntKind.u64.wrap (bits .and .u64 (s / 2) 6148914691236517205 + bits .and .u64 s 6148914691236517205)
def o2 (s : Int) : Int := IntKind.u64.wrap (bits .and .u64 (s / 4) 3689348814741910323 + bits .and .u64 s 3689348814741910323)
def o3 (s : Int) : Int := bits .and .u64 (IntKind.u64.wrap (s / 16 + s)) 1085102592571150095
def o4 (s : Int) : Int := IntKind.u64.wrap (s + s / 256)
def o5 (s : Int) : Int := IntKind.u64.wrap (s + s / 65536)
def o6 (s : Int) : Int := IntKind.u64.wrap (s + s / 4294967296)
theorem ones_fin : ∀ s : Fin 32, bits .and .i64 (wrap64 (o6 (o5 (o4 (o3 (o2 (o1 (s.val : Int)))))))) 127 = sizeOf (s.val : Int) := by decide +kernel
theorem ones {s : Int} (s0 : 0 ≤ s) (s1 : s ≤ 31) : bits .and .i64 (wrap64 (o6 (o5 (o4 (o3 (o2 (o1 s))))))) 127 = sizeOf s := by
  have h := ones_fin ⟨s.toNat, by omega⟩
  have e1 : ((s.toNat : Nat) : Int) = s := by omega
  simp only [e1] at h
  exact h
end M
end Go.Proofs.YtdoeiphnalbinaaGreat
