/- Proved, in parts: Proved: the program's test of a book answers a plain Lean function; nothing that was there is written. Condition: texts and lists of at most a million. Proved: the model's and the program's LastOf answer one plain Lean function; nothing that was there is written. Condition: texts and lists of at most a million. Proved: the program's list of lasts: each of them copied, one more put at a place; in new memory; nothing that was there is written. Condition: lists of at most a million. Proved: plain facts on what an order does to a book, in the program's way and in the model's; a map of works has as many entries as works. No program is named here; no condition. -/
import Derived.Test.YtkpbfocnokbmiaaGreatPart19
import Derived.Test.YtkpbfocnokbmiaaGreatPart05
import Derived.Test.YtkpbfocnokbmiaaGreatPart01
import Derived.Test.YtkpbfocnokbmiaaGreatPart07
import Derived.Test.YtkpbfocnokbmiaaGreatPart06
import Derived.Test.YtkpbfocnokbmiaaGreatPart11
namespace Go.Proofs.YtkpbfocnokbmiaaGreat
open Go.RowKit
set_option maxRecDepth 20000
namespace M
def laOk (c : La) : Bool := inI c.client 0 3 && inI c.seq 1 1000
def laLt (a b : La) : Bool := decide (a.client < b.client)
def lasOk (l : List La) : Bool := l.all laOk && grises laLt l
def bkOk (s : List Wk) (l : List La) : Bool := sfOk s && lasOk l
end M
/-- A book: its works in memory, its lasts. -/
abbrev bkA (A : Option Addr) (n c : Nat) (B : Option Addr) (m e : Nat) : Array Value := #[.slice A n c, .slice B m e]
abbrev bkV (A : Option Addr) (n c : Nat) (B : Option Addr) (m e : Nat) : Value := .agg (bkA A n c B m e)

set_option maxHeartbeats 1000000 in
theorem lastOk_any (c : M.La) (w : World) :
    Calls Tryz.prog 46 #[laV c] w fun r w' => r = .returned (.bool (M.laOk c)) ∧ Below w.heap.size w w' := by
  have b0 := (Below.refl w.heap.size w).alloc (Nat.le_refl _) (.cells (laA c) 71)
  rcases h1 : M.inI c.client 0 3 with _ | _
  · have HE : Hid (M.laOk c = false) := Lib.hid (by simp [M.laOk, h1])
    go_enter Tryz.func46, Tryz.ntmps46
    go_wp2_with fail
    have hc := clientOk_any c.client (w.alloc (.cells (laA c) 71))
    rw [h1] at hc
    refine hc.mono ?_
    rintro e w' ⟨rfl, rfl⟩
    clear hc h1
    go_wp2
    go_ret
    exact ⟨by rw [HE.out]; rfl, b0⟩
  · have HE : Hid (M.laOk c = M.inI c.seq 1 1000) := Lib.hid (by simp [M.laOk, h1])
    go_enter Tryz.func46, Tryz.ntmps46
    go_wp2_with fail
    have hc := clientOk_any c.client (w.alloc (.cells (laA c) 71))
    rw [h1] at hc
    refine hc.mono ?_
    rintro e w' ⟨rfl, rfl⟩
    clear hc h1
    go_wp2_with fail
    refine (seqOk_any c.seq _).mono ?_
    rintro e w' ⟨rfl, rfl⟩
    go_wp2
    go_ret
    exact ⟨by rw [HE.out]; rfl, b0⟩
set_option maxHeartbeats 1000000 in
theorem clientAhead_any (c d : M.La) (w : World) :
    Calls Tryz.prog 48 #[laV c, laV d] w fun r w' => r = .returned (.bool (M.laLt c d)) ∧ Below w.heap.size w w' := by
  have b0 := ((Below.refl w.heap.size w).alloc (Nat.le_refl _) (.cells (laA c) 71)).alloc (by simp) (.cells (laA d) 71)
  go_enter Tryz.func48, Tryz.ntmps48
  go_wp2
  go_ret
  exact ⟨rfl, b0⟩

set_option maxHeartbeats 1000000 in
theorem lfirst_all (p : M.La → Bool) (A : Option Addr) (l : List M.La) (cap : Nat) (g : Value) (w : World) (hl : Las w A l) (hlen : l.length ≤ 1048576)
    (hcall : ∀ (c : M.La) (w' : World), c ∈ l → Below w.heap.size w w' → Calls Tryz.prog 72 #[laV c, g] w' fun r w'' => r = .returned (.bool (p c)) ∧ Below w'.heap.size w' w'') :
    Calls Tryz.prog 71 #[.slice A l.length cap, .func (.func 72) #[] #[g]] w fun r w' => r = .returned (.int .i64 (l.findIdx p : Nat)) ∧ Below w.heap.size w w' := by
  have HC := Lib.hid hcall
  clear hcall
  go_enter Tryz.func71, Tryz.ntmps71
  go_wp2
  go_loopw [9] (fun i wr => ∃ j : Nat, i = .int .i64 j ∧ j ≤ l.length ∧ GNoneTo p l j ∧ Below w.heap.size w wr) (fun i _ => l.length - (intOf i).toNat)
  case atStart => exact ⟨0, rfl, Nat.zero_le _, GNoneTo.zero p l, Below.refl _ _⟩
  case round =>
    obtain ⟨j, rfl, hj, hnone, hbl⟩ := hrel
    by_cases hlt : j < l.length
    · obtain ⟨b, o, rfl, -, c0, c1, c2, c3⟩ := Las_at (hl.below hbl) hlt
      have HA := Lib.hid hl
      have HN := Lib.hid hnone
      have ba := hbl.alloc hbl.size (.cells (laA l[j]) 71)
      clear hl hnone
      rcases hp : p l[j] with _ | _
      · have HP := Lib.hid hp
        go_wp2_with fail
        refine (HC.out l[j] _ (List.getElem_mem hlt) ba).mono ?_
        rintro r w1 ⟨rfl, b1⟩
        clear hp
        have hp := HP.out
        rw [hp]
        clear hp
        go_wp2
        go_roundw
        case rel => exact ⟨j + 1, by go_num, by omega, HN.out.next hlt HP.out, next ba b1⟩
        case measure => simp [intOf]; omega
      · have HP := Lib.hid hp
        go_wp2_with fail
        refine (HC.out l[j] _ (List.getElem_mem hlt) ba).mono ?_
        rintro r w1 ⟨rfl, b1⟩
        clear hp
        have hp := HP.out
        rw [hp]
        clear hp
        go_wp2
        go_ret
        exact ⟨ret_int (by rw [HN.out.hit hlt HP.out]), next ba b1⟩
    · have hj' : j = l.length := by omega
      subst hj'
      have HN := Lib.hid hnone
      clear hnone
      go_wp2
      go_ret
      exact ⟨ret_int (by rw [HN.out.all]), hbl⟩

set_option maxHeartbeats 1000000 in
theorem all1_lastOk (c : M.La) (g : Nat) (w : World) (hg : w.cell? ⟨g, 0, none⟩ = some (.func (.func 46) #[] #[])) :
    Calls Tryz.prog 72 #[laV c, .pointer (some ⟨g, 0, none⟩)] w fun r w' => r = .returned (.bool (!M.laOk c)) ∧ Below w.heap.size w w' := by
  have b0 := (Below.refl w.heap.size w).alloc (Nat.le_refl _) (.cells (laA c) 71)
  have hgl : g < w.heap.size := World.block_lt_of_cell? w _ hg
  go_enter Tryz.func72, Tryz.ntmps72
  go_wp2_with fail
  refine (lastOk_any c _).mono ?_
  rintro r w1 ⟨rfl, b1⟩
  go_wp2
  go_ret
  exact ⟨rfl, next b0 b1⟩
set_option maxHeartbeats 1000000 in
theorem all_lastOk (A : Option Addr) (l : List M.La) (cap : Nat) (w : World) (hl : Las w A l) (hlen : l.length ≤ 1048576) :
    Calls Tryz.prog 45 #[.slice A l.length cap, .func (.func 46) #[] #[]] w fun r w' => r = .returned (.bool (l.all M.laOk)) ∧ Below w.heap.size w w' := by
  have b0 := (Below.refl w.heap.size w).alloc (Nat.le_refl _) (.cells #[.func (.func 46) #[] #[]] 86)
  have HB : Hid (((l.findIdx (fun c => !M.laOk c) : Int) == (l.length : Int)) = l.all M.laOk) := Lib.hid (all_findIdxG _ l)
  have HL := Lib.hid hl
  clear hl
  go_enter Tryz.func45, Tryz.ntmps45
  go_wp2_with fail
  refine (lfirst_all (fun c => !M.laOk c) A l cap _ _ (HL.out.alloc _) hlen (fun c w' _ hb => all1_lastOk c _ w' (box_cells hb 0))).mono ?_
  rintro r w1 ⟨rfl, b1⟩
  go_wp2
  go_ret
  exact ⟨ret_bool HB.out, next b0 b1⟩
set_option maxHeartbeats 1000000 in
theorem rises_last (A : Option Addr) (l : List M.La) (cap : Nat) (w : World) (hl : Las w A l) (hlen : l.length ≤ 1048576) :
    Calls Tryz.prog 47 #[.slice A l.length cap, .func (.func 48) #[] #[]] w fun r w' => r = .returned (.bool (grises M.laLt l)) ∧ Below w.heap.size w w' := by
  go_enter Tryz.func47, Tryz.ntmps47
  go_wp2
  go_loopw [5] (fun i wr => ∃ j : Nat, i = .int .i64 j ∧ 1 ≤ j ∧ j ≤ l.length + 1 ∧ GRisesTo M.laLt l j ∧ Below w.heap.size w wr) (fun i _ => l.length + 1 - (intOf i).toNat)
  case atStart => exact ⟨1, rfl, by omega, by omega, GRisesTo.one _ l, Below.refl _ _⟩
  case round =>
    obtain ⟨j, rfl, hj1, hj, hr, hbl⟩ := hrel
    by_cases hlt : j < l.length
    · obtain ⟨k, hk⟩ : ∃ k, j = k + 1 := ⟨j - 1, by omega⟩
      have hkl : k < l.length := by omega
      obtain ⟨b, o, rfl, -, c0, c1, c2, c3⟩ := Las_at (hl.below hbl) hlt
      obtain ⟨b', o', hbo, -, d0, d1, d2, d3⟩ := Las_at (hl.below hbl) hkl
      obtain ⟨rfl, rfl⟩ : b = b' ∧ o = o' := by simpa using hbo
      have e1 : IntKind.i64.wrap ((j : Int) - 1) = (j : Int) - 1 := IntWalk.i64_in _ (by omega)
      have e2 : ((j : Int) - 1).toNat = k := by omega
      have e3 : (1 : Int) ≤ (j : Int) := by omega
      have e5 : ¬ ((l.length : Int) ≤ (j : Int) - 1) := by omega
      rcases ho : M.laLt l[k] l[j] with _ | _
      · have HE : Hid (grises M.laLt l = false) := Lib.hid (by subst hk; exact grises_not hlt ho)
        have HA := Lib.hid hl
        have HK := Lib.hid hk
        have HO := Lib.hid ho
        clear hl hbo hk hr ho
        go_wp2_with fail
        go_still_tail 10, (by kernel_rfl)
        change wpList _ _ _ _ _ wr.drew
        go_wp2_with fail
        refine (clientAhead_any l[k] l[j] _).mono ?_
        rintro r w1 ⟨rfl, b1⟩
        rw [HO.out]
        go_wp2
        go_ret
        exact ⟨ret_bool HE.out.symm, next hbl.drew b1⟩
      · have HN : Hid (GRisesTo M.laLt l (j + 1)) := Lib.hid (by subst hk; exact hr.next hlt ho)
        have HA := Lib.hid hl
        have HK := Lib.hid hk
        have HO := Lib.hid ho
        clear hl hbo hk hr ho
        go_wp2_with fail
        go_still_tail 10, (by kernel_rfl)
        change wpList _ _ _ _ _ wr.drew
        go_wp2_with fail
        refine (clientAhead_any l[k] l[j] _).mono ?_
        rintro r w1 ⟨rfl, b1⟩
        rw [HO.out]
        clear e1 e2 e3 e5
        go_wp2
        go_roundw
        case rel => exact ⟨j + 1, by go_num, by omega, by omega, HN.out, next hbl.drew b1⟩
        case measure => simp [intOf]; omega
    · have HE : Hid (grises M.laLt l = true) := Lib.hid (hr.all (by omega))
      clear hr
      go_wp2
      go_ret
      exact ⟨ret_bool HE.out.symm, hbl⟩

set_option maxHeartbeats 2000000 in
theorem implBookOk (A : Option Addr) (l : List Wr) (cap : Nat) (B : Option Addr) (m : List M.La) (cb : Nat) (w : World) (hl : Wks w A l) (hlen : l.length ≤ 1048576) (hp : WrsIn 1048576 l) (hm : Las w B m) (hml : m.length ≤ 1048576) :
    Calls Tryz.prog 22 #[bkV A l.length cap B m.length cb] w fun r w' => r = .returned (.bool (M.bkOk (l.map Wr.wk) m)) ∧ Below w.heap.size w w' := by
  have b0 := (Below.refl w.heap.size w).alloc (Nat.le_refl _) (.cells (bkA A l.length cap B m.length cb) 27)
  have HP := Lib.hid hp
  have HL := Lib.hid (hl.alloc (.cells (bkA A l.length cap B m.length cb) 27))
  have HM := Lib.hid (hm.alloc (.cells (bkA A l.length cap B m.length cb) 27))
  clear hp hl hm
  rcases h1 : M.sfOk (l.map Wr.wk) with _ | _
  · have HE : Hid (M.bkOk (l.map Wr.wk) m = false) := Lib.hid (by simp [M.bkOk, h1])
    have H1 := Lib.hid h1
    clear h1
    go_enter Tryz.func22, Tryz.ntmps22
    go_wp2_with fail
    refine (implShelfOk A l cap _ HL.out hlen HP.out).mono ?_
    rintro r w1 ⟨rfl, b1⟩
    rw [H1.out]
    go_wp2
    go_ret
    exact ⟨ret_bool HE.out.symm, next b0 b1⟩
  · rcases h2 : m.all M.laOk with _ | _
    · have HE : Hid (M.bkOk (l.map Wr.wk) m = false) := Lib.hid (by simp only [M.bkOk, M.lasOk, h2]; simp)
      have H1 := Lib.hid h1
      have H2 := Lib.hid h2
      clear h1 h2
      go_enter Tryz.func22, Tryz.ntmps22
      go_wp2_with fail
      refine (implShelfOk A l cap _ HL.out hlen HP.out).mono ?_
      rintro r w1 ⟨rfl, b1⟩
      rw [H1.out]
      go_wp2_with fail
      refine (all_lastOk B m cb _ (HM.out.below b1) hml).mono ?_
      rintro r w2 ⟨rfl, b2⟩
      rw [H2.out]
      go_wp2
      go_ret
      exact ⟨ret_bool HE.out.symm, next (next b0 b1) b2⟩
    · have HE : Hid (M.bkOk (l.map Wr.wk) m = grises M.laLt m) := Lib.hid (by simp only [M.bkOk, M.lasOk, h1, h2]; simp)
      have H1 := Lib.hid h1
      have H2 := Lib.hid h2
      clear h1 h2
      go_enter Tryz.func22, Tryz.ntmps22
      go_wp2_with fail
      refine (implShelfOk A l cap _ HL.out hlen HP.out).mono ?_
      rintro r w1 ⟨rfl, b1⟩
      rw [H1.out]
      go_wp2_with fail
      refine (all_lastOk B m cb _ (HM.out.below b1) hml).mono ?_
      rintro r w2 ⟨rfl, b2⟩
      rw [H2.out]
      go_wp2_with fail
      refine (rises_last B m cb _ ((HM.out.below b1).below b2) hml).mono ?_
      rintro r w3 ⟨rfl, b3⟩
      go_wp2
      go_ret
      exact ⟨ret_bool HE.out.symm, next (next (next b0 b1) b2) b3⟩
end Go.Proofs.YtkpbfocnokbmiaaGreat
namespace Go.Proofs.YtkpbfocnokbmiaaGreat
open Go.RowKit
set_option maxRecDepth 20000
namespace M
def zLa : La := ⟨0, 0, 0, ⟨#[]⟩⟩
def isCl (c : Int) (x : La) : Bool := x.client == c
def laFind (l : List La) (c : Int) : Nat := l.findIdx (isCl c)
def laFindInt (l : List La) (c : Int) : Int := if laFind l c < l.length then (laFind l c : Int) else -1
theorem laFindInt_pos {l : List La} {c : Int} (h : laFind l c < l.length) : laFindInt l c = laFind l c := if_pos h
theorem laFindInt_neg {l : List La} {c : Int} (h : laFind l c = l.length) : laFindInt l c = -1 := if_neg (by omega)
theorem laFind_le (l : List La) (c : Int) : laFind l c ≤ l.length := List.findIdx_le_length
end M

set_option maxHeartbeats 1000000 in
theorem l6Last_any (A : Option Addr) (n cap : Nat) (B : Option Addr) (l : List M.La) (cb : Nat) (c : Int) (w : World) (hm : Las w B l) (hml : l.length ≤ 1048576) :
    Calls Tryz.prog 81 #[bkV A n cap B l.length cb, .int .i64 c] w fun r w' => r = .returned (.int .i64 (M.laFindInt l c)) ∧ Below w.heap.size w w' := by
  have b0 := (Below.refl w.heap.size w).alloc (Nat.le_refl _) (.cells (bkA A n cap B l.length cb) 27)
  have hK := holds_new w (bkA A n cap B l.length cb) 27
  have HL := Lib.hid (hm.below b0)
  clear hm
  go_enter Tryz.func81, Tryz.ntmps81
  go_wp2
  generalize hwB : w.alloc (.cells (bkA A n cap B l.length cb) 27) = wB at b0 hK HL ⊢
  clear hwB
  obtain ⟨k0, k1⟩ := hK.two
  have zk := hK.1
  go_loop [5] (fun i => ∃ j : Nat, i = .int .i64 j ∧ j ≤ l.length ∧ GNoneTo (M.isCl c) l j) (fun i => l.length - (intOf i).toNat)
  case atStart => exact ⟨0, rfl, Nat.zero_le _, GNoneTo.zero _ l⟩
  case round =>
    obtain ⟨j, rfl, hj, hnone⟩ := hrel
    have HN := Lib.hid hnone
    clear hnone
    by_cases hlt : j < l.length
    · obtain ⟨b, o, hA, lb, c0, c1, c2, c3⟩ := Las_at HL.out hlt
      subst hA
      rcases hq : (l[j].client == c) with _ | _
      · have HQ : Hid (M.isCl c l[j] = false) := Lib.hid hq
        go_wp2
        go_round
        case rel => exact ⟨j + 1, by go_num, by omega, HN.out.next hlt HQ.out⟩
        case measure => simp [intOf]; omega
      · have HE : Hid (M.laFindInt l c = j) := Lib.hid (by
          have h1 : M.laFind l c = j := HN.out.hit hlt hq
          rw [M.laFindInt_pos (by rw [h1]; exact hlt), h1])
        go_wp2
        go_ret
        exact ⟨ret_int HE.out.symm, b0⟩
    · have hj' : j = l.length := by omega
      subst hj'
      have HE : Hid (M.laFindInt l c = -1) := Lib.hid (M.laFindInt_neg HN.out.all)
      go_wp2
      go_ret
      exact ⟨ret_int HE.out.symm, b0⟩

theorem Holds.putLa {w : World} {g : Nat} {y : M.La} (h : Holds w g (laA y)) (x : M.La) : Holds ((((w.setCell ⟨g, 0, none⟩ (.int .i64 x.client)).setCell ⟨g, 1, none⟩ (.int .i64 x.seq)).setCell ⟨g, 2, none⟩ (.int .i64 x.code)).setCell ⟨g, 3, none⟩ (.string x.page)) g (laA x) := by
  simpa using (((h.putM 0 (.int .i64 x.client)).putM 1 (.int .i64 x.seq)).putM 2 (.int .i64 x.code)).putM 3 (.string x.page)
set_option maxHeartbeats 1000000 in
theorem clone_la (s : ByteArray) (w : World) (h : s.size ≤ 1048576) :
    Calls Tryz.prog 104 #[.string s] w fun r w' => r = .returned (.string s) ∧ Below w.heap.size w w' := by
  go_enter Tryz.func104, Tryz.ntmps104
  go_wp2_with fail
  refine (Tryz.stringslite_Clone s _ (by omega)).mono ?_
  rintro r w1 ⟨rfl, b1⟩
  go_wp2
  go_ret
  exact ⟨rfl, b1⟩
theorem results_newReply (c : Int) (p : ByteArray) (R : Nat) (W : World) (tmps : Array Value) (h2 : tmps.getD 2 undef = .pointer (some ⟨R, 0, none⟩)) (hW : Holds W R (rpA c p)) :
    (results Tryz.f74 tmps).run Tryz.prog W = .ok (rpV c p) W := by
  obtain ⟨q0, q1⟩ := hW.two
  simp at h2
  simp [results, Tryz.results74, go_sem, h2, q0, q1]
set_option maxHeartbeats 1000000 in
theorem newReply_any (c : Int) (p : ByteArray) (w : World) (h : p.size ≤ 1048576) :
    Calls Tryz.prog 74 #[rpV c p] w fun r w' => r = .returned (rpV c p) ∧ Below w.heap.size w w' := by
  have hM := ((Mem.start w).new (rpA c p) 39).new (rpA 0 noP) 39
  simp only [World.size_alloc] at hM
  go_enter Tryz.func74, Tryz.ntmps74
  go_wp2_with fail
  refine (clone_la p _ h).mono ?_
  rintro r w1 ⟨rfl, b1⟩
  have hM1 := hM.below b1
  clear hM b1
  obtain ⟨p0, p1⟩ := (hM1.get w.heap.size (rpA c p) (by simp)).two
  obtain ⟨q0, q1⟩ := (hM1.get (w.heap.size + 1) (rpA 0 noP) (by simp)).two
  have y0 := hM1.loose (w.heap.size + 1) (by simp) 0
  have y1 := hM1.loose (w.heap.size + 1) (by simp) 1
  have x1 := hM1.loose w.heap.size (by simp) 1
  have HM1 := Lib.hid hM1
  clear hM1
  go_wp2
  exact bodyPost_ret (results_newReply c p (w.heap.size + 1) _ _ rfl (((HM1.out.get (w.heap.size + 1) (rpA 0 noP) (by simp)).otherM (by omega)).wr2 _ _)) rfl ⟨rfl, far_2 (farM HM1.out.1 (Nat.le_refl _) _ _) (by omega) _ _⟩
theorem results_newLast (x : M.La) (R : Nat) (W : World) (tmps : Array Value) (h2 : tmps.getD 2 undef = .pointer (some ⟨R, 0, none⟩)) (hW : Holds W R (laA x)) :
    (results Tryz.f51 tmps).run Tryz.prog W = .ok (laV x) W := by
  obtain ⟨q0, q1, q2, q3⟩ := hW.four
  simp at h2
  simp [results, Tryz.results51, go_sem, h2, q0, q1, q2, q3]
set_option maxHeartbeats 1000000 in
theorem newLast_any (x : M.La) (w : World) (h : x.page.size ≤ 1048576) :
    Calls Tryz.prog 51 #[laV x] w fun r w' => r = .returned (laV x) ∧ Below w.heap.size w w' := by
  have hM := ((Mem.start w).new (laA x) 71).new (laA M.zLa) 71
  simp only [World.size_alloc] at hM
  go_enter Tryz.func51, Tryz.ntmps51
  go_wp2_with fail
  refine (newReply_any x.code x.page _ h).mono ?_
  rintro r w1 ⟨rfl, b1⟩
  have hM1 := hM.below b1
  clear hM b1
  obtain ⟨p0, p1, p2, p3⟩ := (hM1.get w.heap.size (laA x) (by simp)).four
  obtain ⟨q0, q1, q2, q3⟩ := (hM1.get (w.heap.size + 1) (laA M.zLa) (by simp)).four
  have y0 := hM1.loose (w.heap.size + 1) (by simp) 0
  have y1 := hM1.loose (w.heap.size + 1) (by simp) 1
  have y2 := hM1.loose (w.heap.size + 1) (by simp) 2
  have y3 := hM1.loose (w.heap.size + 1) (by simp) 3
  have x2 := hM1.loose w.heap.size (by simp) 2
  have x3 := hM1.loose w.heap.size (by simp) 3
  have HM1 := Lib.hid hM1
  clear hM1
  go_wp2
  exact bodyPost_ret (results_newLast x (w.heap.size + 1) _ _ rfl ((((HM1.out.get (w.heap.size + 1) (laA M.zLa) (by simp)).otherM (by omega)).otherM (by omega)).wr4 _ _ _ _)) rfl ⟨rfl, far_4 (farM (farM HM1.out.1 (Nat.le_refl _) _ _) (Nat.le_refl _) _ _) (by omega) _ _ _ _⟩

end Go.Proofs.YtkpbfocnokbmiaaGreat
namespace Go.Proofs.YtkpbfocnokbmiaaGreat
open Go.RowKit
set_option maxRecDepth 20000
namespace M
def putLa (l : List La) (k : Nat) (c : La) : List La := l.take k ++ c :: l.drop k
theorem putLa_len (l : List La) (k : Nat) (c : La) (hk : k ≤ l.length) : (putLa l k c).length = l.length + 1 := by
  simp [putLa]; omega
end M
theorem LasOwn.nil (B : Nat) (w : World) : LasOwn B w (.slice none 0 0) [] := World.ownsRow_nil _ _ _ _
theorem LasOwn.below {B : Nat} {w w' : World} {v : Value} {l : List M.La} (h : LasOwn B w v l) (hb : Below w.heap.size w w') : LasOwn B w' v l := Own.below h hb
theorem LasOwn.mono {B B' : Nat} {w : World} {v : Value} {l : List M.La} (h : LasOwn B w v l) (hb : B' ≤ B) : LasOwn B' w v l := World.ownsRow.mono h hb
theorem LasOwn.open {B : Nat} {w : World} {v : Value} {l : List M.La} (h : LasOwn B w v l) : ∃ A c, v = .slice A l.length c ∧ Las w A l ∧ (A = none → c = 0) := by
  obtain ⟨A, c, hv, hc, hf⟩ := own_flat laL_len h
  refine ⟨A, c, hv, hf, fun hA => ?_⟩
  subst hA
  obtain ⟨_, ⟨h0, hn⟩ | ⟨g, cap, cur, hv', _⟩⟩ := h
  · rw [hv] at h0
    injection h0
  · rw [hv] at hv'
    injection hv' with h1
    cases h1
theorem la_one (l : List M.La) : ∀ u ∈ cellsOf laL l, u.oneCell' = true := by
  intro u hu
  obtain ⟨c, _, hc⟩ := List.mem_flatMap.1 hu
  simp at hc
  rcases hc with rfl | rfl | rfl | rfl <;> rfl
theorem one_flatLa (w : World) (c : M.La) (t : TypeId) : Las (w.alloc (.cells (laA c) t)) (some ⟨w.heap.size, 0, none⟩) [c] := by
  refine .inr ⟨w.heap.size, 0, rfl, by simp, fun i t' x u hi hu => ?_⟩
  have h := (holds_new w (laA c) t).2
  rcases i with _ | i
  · simp at hi
    subst hi
    rw [Nat.zero_mul, Nat.add_zero, Nat.zero_add]
    exact h t' u (by simpa using hu)
  · simp at hi

set_option maxHeartbeats 1000000 in
theorem each_la (A : Option Addr) (l : List M.La) (cap : Nat) (w : World) (hl : Las w A l) (hlen : l.length ≤ 1048576) (hp : ∀ c ∈ l, laIn 1048576 c) :
    Calls Tryz.prog 50 #[.slice A l.length cap, .func (.func 51) #[] #[]] w fun r w' => ∃ A' c', r = .returned (.slice A' l.length c') ∧ LasOwn w.heap.size w' (.slice A' l.length c') l ∧ Below w.heap.size w w' := by
  obtain ⟨i0, hi, hz0, hz1, hz2⟩ := info_parts infoLas
  have HP := Lib.hid hp
  clear hp
  go_enter Tryz.func50, Tryz.ntmps50
  go_wp2
  go_loopw [5, 10] (fun x i wr => ∃ (j : Nat) (A' : Option Addr) (c' : Nat), i = .int .i64 j ∧ j ≤ l.length ∧ x = .slice A' j c' ∧ LasOwn w.heap.size wr (.slice A' j c') (l.take j) ∧ Below w.heap.size w wr) (fun _ i _ => l.length - (intOf i).toNat)
  case atStart => exact ⟨0, none, 0, rfl, Nat.zero_le _, rfl, LasOwn.nil _ _, Below.refl _ _⟩
  case round =>
    obtain ⟨j, A', c', rfl, hj, rfl, ho, hb⟩ := hrel
    by_cases hlt : j < l.length
    · obtain ⟨b, o, rfl, -, c0, c1, c2, c3⟩ := Las_at (hl.below hb) hlt
      have ba := hb.alloc hb.size (.cells (laV l[j]).cells 71)
      have hoa := Own.below ho ((Below.refl _ _).alloc (Nat.le_refl _) (.cells (laV l[j]).cells 71))
      have HL := Lib.hid hl
      have HO := Lib.hid hoa
      clear hl ho hoa
      go_wp2_with fail
      refine (newLast_any l[j] _ (HP.out _ (List.getElem_mem hlt))).mono ?_
      rintro r w1 ⟨rfl, b1⟩
      have ho1 := Own.below HO.out b1
      have bb := next ba b1
      clear HO
      go_wp2_with (at_builtin; refine stop_mk ?_)
      refine stop_un ?_
      have hjl : (l.take j).length = j := by rw [List.length_take, Nat.min_eq_left hj]
      rw [hjl] at ho1
      refine wpList_append_flat (k := 4) (enc := laL) (l := [l[j]]) rfl _ _ 59 rfl w.heap.size 71 i0 _ 40 Tryz.underlying59 hi hz0 hz1 hz2 rfl (by decide) (.slice A' j c') j (cellsOf laL (l.take j)) rfl (ho1.alloc _) (some ⟨w1.heap.size, 0, none⟩) 1 rfl (fun h => by cases h) (one_flatLa w1 l[j] _) laL_len (la_one _) (by simp only [List.length_singleton]; unfold maxLen; omega) (by simp only [List.length_singleton]; omega) ?base ?_
      case base => exact Nat.le_trans bb.size (by simp)
      intro v' w2 hown hgrow
      have b2 := (bb.alloc bb.size (.cells (laV l[j]).cells 71)).grown hgrow (Nat.le_trans bb.size (by simp)) (fun k hk => (ho1.lt k hk).1)
      rw [← cellsOf_append, ← List.take_succ_eq_append_getElem hlt] at hown
      have hjl' : (l.take (j + 1)).length = j + 1 := by rw [List.length_take, Nat.min_eq_left hlt]
      have hO : LasOwn w.heap.size w2 v' (l.take (j + 1)) := by unfold LasOwn; rw [hjl']; exact hown
      obtain ⟨A2, c2', rfl, -, -⟩ := hO.open
      rw [hjl'] at hO ⊢
      have HO := Lib.hid hO
      clear hown hgrow hO ho1 hjl hjl'
      go_wp2
      go_roundw
      case rel => exact ⟨j + 1, A2, c2', by go_num, by omega, rfl, HO.out, b2⟩
      case measure => simp [intOf]; omega
    · have hj' : j = l.length := by omega
      subst hj'
      rw [List.take_length] at ho
      have HO := Lib.hid ho
      clear ho
      go_wp2
      go_ret
      exact ⟨A', c', rfl, HO.out, hb⟩
set_option maxHeartbeats 1000000 in
theorem with_la (A : Option Addr) (l : List M.La) (cap k : Nat) (c : M.La) (w : World) (hl : Las w A l) (hA : A = none → cap = 0) (hcap : l.length ≤ cap) (hk : k ≤ l.length) (hlen : l.length ≤ 1048576) :
    Calls Tryz.prog 76 #[.slice A l.length cap, .int .i64 k, laV c] w fun r w' => ∃ A' c', r = .returned (.slice A' (l.length + 1) c') ∧ LasOwn w.heap.size w' (.slice A' (l.length + 1) c') (M.putLa l k c) ∧ Below w.heap.size w w' := by
  obtain ⟨i0, hi, hz0, hz1, hz2⟩ := info_parts infoLas
  have b0 := (Below.refl w.heap.size w).alloc (Nat.le_refl _) (.cells (laV c).cells 71)
  have h0 := holds_new w (laV c).cells 71
  have HL := Lib.hid hl
  have HA := Lib.hid hA
  clear hl hA
  go_enter Tryz.func76, Tryz.ntmps76
  go_wp2_with (first | (at_builtin; refine stop_mk ?_) | (refine wpList_make_own _ rfl _ _ 59 rfl (w.heap.size + 1) 71 i0 _ 4 Tryz.underlying59 hi hz0 hz1 .i64 .i64 _ (l.length + 1) rfl rfl (by simp) (by rw [hz2]; omega) (by unfold maxLen; omega) (by simp) ?_; intro w1 hown hgrow; refine stop_mk ?_))
  refine stop_un ?_
  simp only [World.size_alloc] at hown
  replace b0 := b0.grown hgrow (by simp) (fun k hk => by cases hk)
  replace h0 := grown_holds h0 hgrow (by simp)
  have hl1 := HL.out.below b0
  have HO := Lib.hid hown
  have H0 := Lib.hid h0
  clear hown hgrow h0
  go_wp2_with (at_builtin; refine stop_mk ?_)
  refine stop_un ?_
  have hkl : (l.take k).length = k := by rw [List.length_take, Nat.min_eq_left hk]
  refine wpList_append_flat (k := 4) (enc := laL) (l := l.take k) rfl _ _ 59 rfl (w.heap.size + 1) 71 i0 _ 40 Tryz.underlying59 hi hz0 hz1 hz2 rfl (by decide) (.slice (some ⟨w.heap.size + 1, 0, none⟩) 0 (l.length + 1)) 0 [] rfl HO.out A cap (by rw [hkl]; rfl) HA.out (hl1.cutTake k) laL_len (la_one _) (by rw [hkl]; unfold maxLen; omega) (by rw [hkl]; omega) ?b1 ?_
  case b1 => exact H0.out.1
  intro v2 w2 hown hgrow
  rw [Nat.zero_add, List.nil_append] at hown
  have hO : LasOwn (w.heap.size + 1) w2 v2 (l.take k) := hown
  replace b0 := b0.grown hgrow b0.size (fun g hg => by have := (HO.out.lt g hg).1; omega)
  have h0 := grown_holds H0.out hgrow (own_ne HO.out (by omega))
  have hl2 := HL.out.below b0
  obtain ⟨A2, c2, rfl, -, -⟩ := hO.open
  rw [hkl] at hO ⊢
  have hz2' := h0.1
  obtain ⟨p0, p1, p2, p3⟩ := h0.at4
  have HO2 := Lib.hid hO
  have H2 := Lib.hid h0
  clear hown hgrow hO h0 HO H0 hl1
  go_wp2_with (at_builtin; refine stop_mk ?_)
  refine stop_un ?_
  have hb2 : (w2.alloc (.cells (laV c).cells 71)).ownsRow (w.heap.size + 1) 71 4 (.slice A2 k c2) k (cellsOf laL (l.take k)) := by
    have h := HO2.out
    unfold LasOwn at h
    rw [hkl] at h
    exact h.alloc _
  refine wpList_append_flat (k := 4) (enc := laL) (l := [c]) rfl _ _ 59 rfl (w.heap.size + 1) 71 i0 _ 40 Tryz.underlying59 hi hz0 hz1 hz2 rfl (by decide) (.slice A2 k c2) k (cellsOf laL (l.take k)) rfl hb2 (some ⟨w2.heap.size, 0, none⟩) 1 rfl (fun h => by cases h) (one_flatLa w2 c _) laL_len (la_one _) (by simp only [List.length_singleton]; unfold maxLen; omega) (by simp only [List.length_singleton]; omega) ?b2 ?_
  case b2 => have := hz2'; simp; omega
  intro v3 w3 hown hgrow
  rw [← cellsOf_append] at hown
  have hO : LasOwn (w.heap.size + 1) w3 v3 (l.take k ++ [c]) := by
    unfold LasOwn
    rw [List.length_append, hkl]; exact hown
  replace b0 := (b0.alloc b0.size (.cells (laV c).cells 71)).grown hgrow (Nat.le_trans b0.size (by simp)) (fun g hg => by have := (hb2.lt g hg).1; omega)
  have h0 := grown_holds (H2.out.alloc (.cells (laV c).cells 71)) hgrow (own_ne hb2 (by omega))
  have hl3 := HL.out.below b0
  obtain ⟨A3, c3, rfl, -, -⟩ := hO.open
  have hkl3 : (l.take k ++ [c]).length = k + 1 := by rw [List.length_append, hkl]; rfl
  rw [hkl3] at hO ⊢
  have HO3 := Lib.hid hO
  have H3 := Lib.hid h0.1
  clear hown hgrow hO h0 HO2 H2 hl2 hb2 p0 p1 p2 p3
  have hb3 : w3.ownsRow (w.heap.size + 1) 71 4 (.slice A3 (k + 1) c3) (k + 1) (cellsOf laL (l.take k ++ [c])) := by
    have h := HO3.out
    unfold LasOwn at h
    rw [hkl3] at h
    exact h
  by_cases hck : cap = k
  · have HB := Lib.hid (show _ ∧ _ from ⟨hb3, hl3⟩)
    clear hb3 hl3
    subst hck
    go_wp2_with (at_builtin; refine stop_mk ?_)
    obtain ⟨hb3, hl3⟩ := HB.out
    refine stop_un ?_
    refine wpList_append_flat (k := 4) (enc := laL) (l := l.drop cap) rfl _ _ 59 rfl (w.heap.size + 1) 71 i0 _ 40 Tryz.underlying59 hi hz0 hz1 hz2 rfl (by decide) (.slice A3 (cap + 1) c3) (cap + 1) (cellsOf laL (l.take cap ++ [c])) rfl hb3 (A) (0) (by rw [List.length_drop, show l.length - cap = 0 by omega]; rfl) (fun _ => rfl) (.inl (List.drop_eq_nil_of_le (by omega))) laL_len (la_one _) (by rw [List.length_drop]; unfold maxLen; omega) (by rw [List.length_drop]; omega) H3.out ?_
    intro v4 w4 hown hgrow
    rw [← cellsOf_append, List.append_assoc, List.singleton_append] at hown
    have hO : LasOwn (w.heap.size + 1) w4 v4 (M.putLa l cap c) := by
      unfold LasOwn
      rw [M.putLa_len l cap c hk]
      rw [List.length_drop, show cap + 1 + (l.length - cap) = l.length + 1 by omega] at hown
      exact hown
    replace b0 := b0.grown hgrow b0.size (fun g hg => by have := (hb3.lt g hg).1; omega)
    obtain ⟨A4, c4, rfl, -, -⟩ := hO.open
    rw [M.putLa_len l cap c hk] at hO ⊢
    have HO4 := Lib.hid (hO.mono (show w.heap.size ≤ w.heap.size + 1 by omega))
    clear hown hgrow hO hb3 HO3
    go_wp2
    go_ret
    exact ⟨A4, c4, rfl, HO4.out, b0⟩
  · have HB := Lib.hid (show _ ∧ _ from ⟨hb3, hl3⟩)
    clear hb3 hl3
    go_wp2_with (at_builtin; refine stop_mk ?_)
    obtain ⟨hb3, hl3⟩ := HB.out
    have hcd := hl3.cutDrop (cap := cap) k hcap
    unfold cutAt at hcd
    rw [if_neg hck] at hcd
    refine stop_un ?_
    refine wpList_append_flat (k := 4) (enc := laL) (l := l.drop k) rfl _ _ 59 rfl (w.heap.size + 1) 71 i0 _ 40 Tryz.underlying59 hi hz0 hz1 hz2 rfl (by decide) (.slice A3 (k + 1) c3) (k + 1) (cellsOf laL (l.take k ++ [c])) rfl hb3 (A.map (·.add (k * 4))) (cap - k) (by rw [List.length_drop]; rfl) (fun h => by have := HA.out (by simpa using h); omega) (hcd) laL_len (la_one _) (by rw [List.length_drop]; unfold maxLen; omega) (by rw [List.length_drop]; omega) H3.out ?_
    intro v4 w4 hown hgrow
    rw [← cellsOf_append, List.append_assoc, List.singleton_append] at hown
    have hO : LasOwn (w.heap.size + 1) w4 v4 (M.putLa l k c) := by
      unfold LasOwn
      rw [M.putLa_len l k c hk]
      rw [List.length_drop, show k + 1 + (l.length - k) = l.length + 1 by omega] at hown
      exact hown
    replace b0 := b0.grown hgrow b0.size (fun g hg => by have := (hb3.lt g hg).1; omega)
    obtain ⟨A4, c4, rfl, -, -⟩ := hO.open
    rw [M.putLa_len l k c hk] at hO ⊢
    have HO4 := Lib.hid (hO.mono (show w.heap.size ≤ w.heap.size + 1 by omega))
    clear hown hgrow hO hb3 HO3
    go_wp2
    go_ret
    exact ⟨A4, c4, rfl, HO4.out, b0⟩
end Go.Proofs.YtkpbfocnokbmiaaGreat
namespace Go.Proofs.YtkpbfocnokbmiaaGreat
open Go.RowKit
set_option maxRecDepth 20000
theorem insert_len {H : Type} (x : Lit × DataW H) : ∀ l : List (Lit × DataW H), (DataW.insert x l).length = l.length + 1
  | [] => rfl
  | y :: l => by
    unfold DataW.insert
    split
    · rfl
    · simp [insert_len x l]
theorem foldr_insert_len {H : Type} : ∀ l : List (Lit × DataW H), (l.foldr DataW.insert []).length = l.length
  | [] => rfl
  | y :: l => by simp [insert_len, foldr_insert_len l]
theorem ShM.tight {w : World} {b n : Nat} {rs : List Wr} (h : ShM w b n rs) : ShM w b rs.length rs := by
  obtain ⟨es, clock, hb, F, hn, hD⟩ := h
  refine ⟨es, clock, hb, F, ?_, hD⟩
  have h2 := congrArg (fun d : DataW Value => match d with
    | .map l => l.length
    | _ => 0) hD
  simp only [mapD, foldr_insert_len, List.length_map, Array.length_toList] at h2
  omega
namespace M
def isGe (c : Int) (x : La) : Bool := decide (c ≤ x.client)
def laPlace (l : List La) (c : Int) : Nat := l.findIdx (isGe c)
def laAt (l : List La) (c : Int) : Bool := match l[laPlace l c]? with
  | some x => x.client == c
  | none => false
theorem laPlace_le (l : List La) (c : Int) : laPlace l c ≤ l.length := List.findIdx_le_length
theorem laAt_lt {l : List La} {c : Int} (h : laAt l c = true) : ∃ hk : laPlace l c < l.length, (l[laPlace l c].client == c) = true := by
  unfold laAt at h
  rcases hx : l[laPlace l c]? with _ | x
  · rw [hx] at h; cases h
  · rw [hx] at h
    obtain ⟨hk, e⟩ := List.getElem?_eq_some_iff.1 hx
    exact ⟨hk, by rw [e]; exact h⟩
theorem laAt_not {l : List La} {c : Int} (h : laAt l c = false) (hk : laPlace l c < l.length) : (l[laPlace l c].client == c) = false := by
  unfold laAt at h
  rw [List.getElem?_eq_getElem hk] at h
  exact h
abbrev Bk := List Wk × List La
/-- The last with the reply to an order. -/
def laSet (x : La) (seq : Int) (r : Rp) : La := { x with seq := seq, code := r.1, page := r.2 }
/-- What is done at the client's last. -/
def ordT (b : Bk) (k : Nat) (o : Or) : Bk × Rp := match b.2[k]? with
  | some x => if o.seq < x.seq then (b, (6, nilB)) else if x.seq < o.seq then (((keptD b.1 o.deed).1, b.2.set k (laSet x o.seq (keptD b.1 o.deed).2)), (keptD b.1 o.deed).2) else (b, (x.code, x.page))
  | none => (b, (7, nilB))
/-- The lasts with one for the client. -/
def laFor (l : List La) (c : Int) : List La := if laAt l c then l else putLa l (laPlace l c) ⟨c, 0, 0, nilB⟩
/-- What an order does, as the program goes about it. -/
def ordI (b : Bk) (o : Or) : Bk × Rp := if orderOk o then ordT (b.1, laFor b.2 o.client) (laPlace b.2 o.client) o else (b, (7, nilB))
theorem rises_la {l : List La} (h : grises laLt l = true) : ∀ (j i : Nat) (hi : i < j) (hj : j < l.length), (l[i]'(by omega)).client < l[j].client := by
  intro j
  induction j with
  | zero => intro i hi; omega
  | succ j ih =>
    intro i hi hj
    have h1 := (grises_iff laLt l).1 h j hj
    have h2 : l[j].client < l[j + 1].client := by simpa [laLt] using h1
    by_cases e : i = j
    · subst e; exact h2
    · have := ih i (by omega) (by omega)
      omega
theorem lasOk_len {l : List La} (h : lasOk l = true) : l.length ≤ 4 := by
  simp only [lasOk, Bool.and_eq_true] at h
  obtain ⟨h1, h2⟩ := h
  have hin : ∀ (i : Nat) (hi : i < l.length), 0 ≤ l[i].client ∧ l[i].client ≤ 3 := fun i hi => by
    have := List.all_eq_true.1 h1 l[i] (List.getElem_mem hi)
    simp only [laOk, inI, Bool.and_eq_true, decide_eq_true_eq] at this
    exact this.1
  have hge : ∀ (i : Nat) (hi : i < l.length), (i : Int) ≤ l[i].client := by
    intro i
    induction i with
    | zero => intro hi; exact (hin 0 hi).1
    | succ i ih =>
      intro hi
      have h3 := ih (by omega)
      have h4 := rises_la h2 (i + 1) i (by omega) hi
      omega
  rcases Nat.lt_or_ge 4 l.length with h5 | h5
  · have := hge 4 h5
    have := (hin 4 h5).2
    omega
  · exact h5
theorem ordT_old {b : Bk} {k : Nat} {o : Or} (hk : k < b.2.length) (h : o.seq < b.2[k].seq) : ordT b k o = (b, (6, nilB)) := by
  unfold ordT
  rw [List.getElem?_eq_getElem hk]
  simp [h]
theorem ordT_same {b : Bk} {k : Nat} {o : Or} (hk : k < b.2.length) (h : o.seq = b.2[k].seq) : ordT b k o = (b, (b.2[k].code, b.2[k].page)) := by
  unfold ordT
  rw [List.getElem?_eq_getElem hk]
  simp [h]
theorem ordT_new {b : Bk} {k : Nat} {o : Or} (hk : k < b.2.length) (h : b.2[k].seq < o.seq) : ordT b k o = (((keptD b.1 o.deed).1, b.2.set k (laSet b.2[k] o.seq (keptD b.1 o.deed).2)), (keptD b.1 o.deed).2) := by
  have h' : ¬ o.seq < b.2[k].seq := by omega
  unfold ordT
  rw [List.getElem?_eq_getElem hk]
  simp [h, h']
end M
end Go.Proofs.YtkpbfocnokbmiaaGreat
