/- Proved, in parts: Proved: the model's and the program's LastOf answer one plain Lean function; nothing that was there is written. Condition: texts and lists of at most a million. Proved: the program's list of lasts: each of them copied, one more put at a place; in new memory; nothing that was there is written. Condition: lists of at most a million. -/
import Derived.Test.YtblcgbgcccjpcaaGreatPart23
import Derived.Test.YtblcgbgcccjpcaaGreatPart01
import Derived.Test.YtblcgbgcccjpcaaGreatPart09
import Derived.Test.YtblcgbgcccjpcaaGreatPart07
import Derived.Test.YtblcgbgcccjpcaaGreatPart15
namespace Go.Proofs.YtblcgbgcccjpcaaGreat
open Go.RowKit
set_option maxRecDepth 20000
namespace M
def zLa : La := ⟨0, 0, 0, ⟨#[]⟩⟩
def isCl (c : Int) (x : La) : Bool := x.client == c
def laFind (l : List La) (c : Int) : Nat := l.findIdx (isCl c)
def laFindInt (l : List La) (c : Int) : Int := if laFind l c < l.length then (laFind l c : Int) else -1
theorem laFindInt_pos {l : List La} {c : Int} (h : laFind l c < l.length) : laFindInt l c = laFind l c := if_pos h
theorem laFindInt_neg {l : List La} {c : Int} (h : laFind l c = l.length) : laFindInt l c = -1 := if_neg (by omega)
def lastOf (l : List La) (c : Int) : La × Bool := match l[laFind l c]? with
  | some x => (x, true)
  | none => (zLa, false)
theorem lastOf_pos {l : List La} {c : Int} (h : laFind l c < l.length) : lastOf l c = (l[laFind l c], true) := by
  unfold lastOf
  rw [List.getElem?_eq_getElem h]
theorem lastOf_neg {l : List La} {c : Int} (h : laFind l c = l.length) : lastOf l c = (zLa, false) := by
  unfold lastOf
  rw [h, List.getElem?_eq_none (Nat.le_refl _)]
theorem laFind_le (l : List La) (c : Int) : laFind l c ≤ l.length := List.findIdx_le_length
end M

set_option maxHeartbeats 1000000 in
theorem l6Last_any (A : Option Addr) (n cap : Nat) (B : Option Addr) (l : List M.La) (cb : Nat) (c : Int) (w : World) (hm : Las w B l) (hml : l.length ≤ 1048576) :
    Calls Tryz.prog 86 #[bkV A n cap B l.length cb, .int .i64 c] w fun r w' => r = .returned (.int .i64 (M.laFindInt l c)) ∧ Below w.heap.size w w' := by
  have b0 := (Below.refl w.heap.size w).alloc (Nat.le_refl _) (.cells (bkA A n cap B l.length cb) 27)
  have hK := holds_new w (bkA A n cap B l.length cb) 27
  have HL := Lib.hid (hm.below b0)
  clear hm
  go_enter Tryz.func86, Tryz.ntmps86
  go_wp2
  generalize hwB : w.alloc (.cells (bkA A n cap B l.length cb) 27) = wB at b0 hK HL ⊢
  clear hwB
  obtain ⟨k0, k1⟩ := hK.two
  have zk := hK.1
  go_loop [5] (fun i => ∃ j : Nat, i = .int .i64 j ∧ j ≤ l.length ∧ GNoneTo (M.isCl c) l j) (fun i => l.length - (intOf i).toNat)
  case atStart => exact ⟨0, rfl, Nat.zero_le _, GNoneTo.zero _ l⟩
  case round =>
    obtain ⟨j, rfl, hj, hnone⟩ := hrel
    have HN := Lib.hid hnone
    clear hnone
    by_cases hlt : j < l.length
    · obtain ⟨b, o, hA, lb, c0, c1, c2, c3⟩ := Las_at HL.out hlt
      subst hA
      rcases hq : (l[j].client == c) with _ | _
      · have HQ : Hid (M.isCl c l[j] = false) := Lib.hid hq
        go_wp2
        go_round
        case rel => exact ⟨j + 1, by go_num, by omega, HN.out.next hlt HQ.out⟩
        case measure => simp [intOf]; omega
      · have HE : Hid (M.laFindInt l c = j) := Lib.hid (by
          have h1 : M.laFind l c = j := HN.out.hit hlt hq
          rw [M.laFindInt_pos (by rw [h1]; exact hlt), h1])
        go_wp2
        go_ret
        exact ⟨ret_int HE.out.symm, b0⟩
    · have hj' : j = l.length := by omega
      subst hj'
      have HE : Hid (M.laFindInt l c = -1) := Lib.hid (M.laFindInt_neg HN.out.all)
      go_wp2
      go_ret
      exact ⟨ret_int HE.out.symm, b0⟩

theorem results_sLastOf (x : M.La) (b : Bool) (R : Nat) (W : World) (tmps : Array Value) (h4 : tmps.getD 4 undef = .pointer (some ⟨R, 0, none⟩)) (h5 : tmps.getD 5 undef = .bool b) (hW : Holds W R (laA x)) :
    (results Tryz.f25 tmps).run Tryz.prog W = .ok (.tuple #[laV x, .bool b]) W := by
  obtain ⟨q0, q1, q2, q3⟩ := hW.four
  simp at h4 h5
  simp [results, Tryz.results25, go_sem, h4, h5, q0, q1, q2, q3]
theorem Holds.putLa {w : World} {g : Nat} {y : M.La} (h : Holds w g (laA y)) (x : M.La) : Holds ((((w.setCell ⟨g, 0, none⟩ (.int .i64 x.client)).setCell ⟨g, 1, none⟩ (.int .i64 x.seq)).setCell ⟨g, 2, none⟩ (.int .i64 x.code)).setCell ⟨g, 3, none⟩ (.string x.page)) g (laA x) := by
  simpa using (((h.putM 0 (.int .i64 x.client)).putM 1 (.int .i64 x.seq)).putM 2 (.int .i64 x.code)).putM 3 (.string x.page)
theorem below4 {w0 W : World} {g : Nat} (h : Below w0.heap.size w0 W) (hg : w0.heap.size ≤ g) (a b c d : Value) : Below w0.heap.size w0 ((((W.setCell ⟨g, 0, none⟩ a).setCell ⟨g, 1, none⟩ b).setCell ⟨g, 2, none⟩ c).setCell ⟨g, 3, none⟩ d) :=
  (((h.setCell hg _).setCell hg _).setCell hg _).setCell hg _

set_option maxHeartbeats 2000000 in
theorem specLastOf (A : Option Addr) (n cap : Nat) (B : Option Addr) (l : List M.La) (cb : Nat) (c : Int) (w : World) (hm : Las w B l) (hml : l.length ≤ 1048576) :
    Calls Tryz.prog 25 #[bkV A n cap B l.length cb, .int .i64 c] w fun r w' => r = .returned (.tuple #[laV (M.lastOf l c).1, .bool (M.lastOf l c).2]) ∧ Below w.heap.size w w' := by
  have HL := Lib.hid hm
  clear hm
  have hM := ((Mem.start w).new (bkA A n cap B l.length cb) 27).new (laA M.zLa) 59
  simp only [World.size_alloc] at hM
  have hle := M.laFind_le l c
  by_cases hf : M.laFind l c < l.length
  · have HI : Hid (M.laFindInt l c = M.laFind l c) := Lib.hid (M.laFindInt_pos hf)
    have HE : Hid (M.lastOf l c = (l[M.laFind l c], true)) := Lib.hid (M.lastOf_pos hf)
    obtain ⟨k, hk⟩ : ∃ k, M.laFind l c = k := ⟨_, rfl⟩
    go_enter Tryz.func25, Tryz.ntmps25
    go_wp2_with fail
    refine (l6Last_any A n cap B l cb c _ (HL.out.below hM.1) hml).mono ?_
    rintro r w1 ⟨rfl, b1⟩
    rw [HI.out]
    have hM1 := hM.below b1
    simp only [hk] at hf hle ⊢
    have HK := Lib.hid hk
    clear hM b1 hk
    obtain ⟨b, o, hB, lb, c0, c1, c2, c3⟩ := Las_at (HL.out.below hM1.1) hf
    subst hB
    obtain ⟨p0, p1⟩ := (hM1.get w.heap.size (bkA A n cap (some ⟨b, o, none⟩) l.length cb) (by simp)).two
    obtain ⟨q0, q1, q2, q3⟩ := (hM1.get (w.heap.size + 1) (laA M.zLa) (by simp)).four
    have y0 := hM1.loose (w.heap.size + 1) (by simp) 0
    have y1 := hM1.loose (w.heap.size + 1) (by simp) 1
    have y2 := hM1.loose (w.heap.size + 1) (by simp) 2
    have y3 := hM1.loose (w.heap.size + 1) (by simp) 3
    have HM1 := Lib.hid hM1
    clear hM1
    go_wp2
    refine bodyPost_ret (results_sLastOf l[k] true (w.heap.size + 1) _ _ rfl rfl ((HM1.out.get (w.heap.size + 1) (laA M.zLa) (by simp)).putLa l[k])) rfl ⟨?_, below4 HM1.out.1 (Nat.le_succ _) _ _ _ _⟩
    have h := HE.out
    simp only [HK.out] at h
    rw [h]
  · have hf' : M.laFind l c = l.length := by omega
    have HI : Hid (M.laFindInt l c = -1) := Lib.hid (M.laFindInt_neg hf')
    have HE : Hid (M.lastOf l c = (M.zLa, false)) := Lib.hid (M.lastOf_neg hf')
    clear hf hf' hle
    go_enter Tryz.func25, Tryz.ntmps25
    go_wp2_with fail
    refine (l6Last_any A n cap B l cb c _ (HL.out.below hM.1) hml).mono ?_
    rintro r w1 ⟨rfl, b1⟩
    rw [HI.out]
    have hM1 := hM.below b1
    clear hM b1
    obtain ⟨q0, q1, q2, q3⟩ := (hM1.get (w.heap.size + 1) (laA M.zLa) (by simp)).four
    have y0 := hM1.loose (w.heap.size + 1) (by simp) 0
    have y1 := hM1.loose (w.heap.size + 1) (by simp) 1
    have y2 := hM1.loose (w.heap.size + 1) (by simp) 2
    have y3 := hM1.loose (w.heap.size + 1) (by simp) 3
    have HM1 := Lib.hid hM1
    clear hM1
    go_wp2
    exact bodyPost_ret (results_sLastOf M.zLa false (w.heap.size + 1) _ _ rfl rfl ((HM1.out.get (w.heap.size + 1) (laA M.zLa) (by simp)).putLa M.zLa)) rfl ⟨by rw [HE.out], below4 HM1.out.1 (Nat.le_succ _) _ _ _ _⟩

set_option maxHeartbeats 1000000 in
theorem clone_la (s : ByteArray) (w : World) (h : s.size ≤ 1048576) :
    Calls Tryz.prog 167 #[.string s] w fun r w' => r = .returned (.string s) ∧ Below w.heap.size w w' := by
  go_enter Tryz.func167, Tryz.ntmps167
  go_wp2_with fail
  refine (Tryz.stringslite_Clone s _ (by omega)).mono ?_
  rintro r w1 ⟨rfl, b1⟩
  go_wp2
  go_ret
  exact ⟨rfl, b1⟩
theorem results_newReply (c : Int) (p : ByteArray) (R : Nat) (W : World) (tmps : Array Value) (h2 : tmps.getD 2 undef = .pointer (some ⟨R, 0, none⟩)) (hW : Holds W R (rpA c p)) :
    (results Tryz.f127 tmps).run Tryz.prog W = .ok (rpV c p) W := by
  obtain ⟨q0, q1⟩ := hW.two
  simp at h2
  simp [results, Tryz.results127, go_sem, h2, q0, q1]
set_option maxHeartbeats 1000000 in
theorem newReply_any (c : Int) (p : ByteArray) (w : World) (h : p.size ≤ 1048576) :
    Calls Tryz.prog 127 #[rpV c p] w fun r w' => r = .returned (rpV c p) ∧ Below w.heap.size w w' := by
  have hM := ((Mem.start w).new (rpA c p) 33).new (rpA 0 noP) 33
  simp only [World.size_alloc] at hM
  go_enter Tryz.func127, Tryz.ntmps127
  go_wp2_with fail
  refine (clone_la p _ h).mono ?_
  rintro r w1 ⟨rfl, b1⟩
  have hM1 := hM.below b1
  clear hM b1
  obtain ⟨p0, p1⟩ := (hM1.get w.heap.size (rpA c p) (by simp)).two
  obtain ⟨q0, q1⟩ := (hM1.get (w.heap.size + 1) (rpA 0 noP) (by simp)).two
  have y0 := hM1.loose (w.heap.size + 1) (by simp) 0
  have y1 := hM1.loose (w.heap.size + 1) (by simp) 1
  have x1 := hM1.loose w.heap.size (by simp) 1
  have HM1 := Lib.hid hM1
  clear hM1
  go_wp2
  exact bodyPost_ret (results_newReply c p (w.heap.size + 1) _ _ rfl (((HM1.out.get (w.heap.size + 1) (rpA 0 noP) (by simp)).otherM (by omega)).wr2 _ _)) rfl ⟨rfl, far_2 (farM HM1.out.1 (Nat.le_refl _) _ _) (by omega) _ _⟩
theorem results_newLast (x : M.La) (R : Nat) (W : World) (tmps : Array Value) (h2 : tmps.getD 2 undef = .pointer (some ⟨R, 0, none⟩)) (hW : Holds W R (laA x)) :
    (results Tryz.f75 tmps).run Tryz.prog W = .ok (laV x) W := by
  obtain ⟨q0, q1, q2, q3⟩ := hW.four
  simp at h2
  simp [results, Tryz.results75, go_sem, h2, q0, q1, q2, q3]
set_option maxHeartbeats 1000000 in
theorem newLast_any (x : M.La) (w : World) (h : x.page.size ≤ 1048576) :
    Calls Tryz.prog 75 #[laV x] w fun r w' => r = .returned (laV x) ∧ Below w.heap.size w w' := by
  have hM := ((Mem.start w).new (laA x) 59).new (laA M.zLa) 59
  simp only [World.size_alloc] at hM
  go_enter Tryz.func75, Tryz.ntmps75
  go_wp2_with fail
  refine (newReply_any x.code x.page _ h).mono ?_
  rintro r w1 ⟨rfl, b1⟩
  have hM1 := hM.below b1
  clear hM b1
  obtain ⟨p0, p1, p2, p3⟩ := (hM1.get w.heap.size (laA x) (by simp)).four
  obtain ⟨q0, q1, q2, q3⟩ := (hM1.get (w.heap.size + 1) (laA M.zLa) (by simp)).four
  have y0 := hM1.loose (w.heap.size + 1) (by simp) 0
  have y1 := hM1.loose (w.heap.size + 1) (by simp) 1
  have y2 := hM1.loose (w.heap.size + 1) (by simp) 2
  have y3 := hM1.loose (w.heap.size + 1) (by simp) 3
  have x2 := hM1.loose w.heap.size (by simp) 2
  have x3 := hM1.loose w.heap.size (by simp) 3
  have HM1 := Lib.hid hM1
  clear hM1
  go_wp2
  exact bodyPost_ret (results_newLast x (w.heap.size + 1) _ _ rfl ((((HM1.out.get (w.heap.size + 1) (laA M.zLa) (by simp)).otherM (by omega)).otherM (by omega)).wr4 _ _ _ _)) rfl ⟨rfl, far_4 (farM (farM HM1.out.1 (Nat.le_refl _) _ _) (Nat.le_refl _) _ _) (by omega) _ _ _ _⟩

set_option maxHeartbeats 1000000 in
theorem lfirst_of (p : M.La → Bool) (A : Option Addr) (l : List M.La) (cap : Nat) (g : Value) (w : World) (hl : Las w A l) (hlen : l.length ≤ 1048576)
    (hcall : ∀ (c : M.La) (w' : World), c ∈ l → Below w.heap.size w w' → Calls Tryz.prog 74 #[laV c, g] w' fun r w'' => r = .returned (.bool (p c)) ∧ Below w'.heap.size w' w'') :
    Calls Tryz.prog 73 #[.slice A l.length cap, .func (.func 74) #[] #[g]] w fun r w' => r = .returned (.int .i64 (l.findIdx p : Nat)) ∧ Below w.heap.size w w' := by
  have HC := Lib.hid hcall
  clear hcall
  go_enter Tryz.func73, Tryz.ntmps73
  go_wp2
  go_loopw [9] (fun i wr => ∃ j : Nat, i = .int .i64 j ∧ j ≤ l.length ∧ GNoneTo p l j ∧ Below w.heap.size w wr) (fun i _ => l.length - (intOf i).toNat)
  case atStart => exact ⟨0, rfl, Nat.zero_le _, GNoneTo.zero p l, Below.refl _ _⟩
  case round =>
    obtain ⟨j, rfl, hj, hnone, hbl⟩ := hrel
    by_cases hlt : j < l.length
    · obtain ⟨b, o, rfl, -, c0, c1, c2, c3⟩ := Las_at (hl.below hbl) hlt
      have HA := Lib.hid hl
      have HN := Lib.hid hnone
      have ba := hbl.alloc hbl.size (.cells (laA l[j]) 59)
      clear hl hnone
      rcases hp : p l[j] with _ | _
      · have HP := Lib.hid hp
        go_wp2_with fail
        refine (HC.out l[j] _ (List.getElem_mem hlt) ba).mono ?_
        rintro r w1 ⟨rfl, b1⟩
        clear hp
        have hp := HP.out
        rw [hp]
        clear hp
        go_wp2
        go_roundw
        case rel => exact ⟨j + 1, by go_num, by omega, HN.out.next hlt HP.out, next ba b1⟩
        case measure => simp [intOf]; omega
      · have HP := Lib.hid hp
        go_wp2_with fail
        refine (HC.out l[j] _ (List.getElem_mem hlt) ba).mono ?_
        rintro r w1 ⟨rfl, b1⟩
        clear hp
        have hp := HP.out
        rw [hp]
        clear hp
        go_wp2
        go_ret
        exact ⟨ret_int (by rw [HN.out.hit hlt HP.out]), next ba b1⟩
    · have hj' : j = l.length := by omega
      subst hj'
      have HN := Lib.hid hnone
      clear hnone
      go_wp2
      go_ret
      exact ⟨ret_int (by rw [HN.out.all]), hbl⟩

set_option maxHeartbeats 1000000 in
theorem lastOf1_any (x : M.La) (g : Nat) (c : Int) (w : World) (hg : w.cell? ⟨g, 0, none⟩ = some (.int .i64 c)) :
    Calls Tryz.prog 74 #[laV x, .pointer (some ⟨g, 0, none⟩)] w fun r w' => r = .returned (.bool (M.isCl c x)) ∧ Below w.heap.size w w' := by
  have b0 := (Below.refl w.heap.size w).alloc (Nat.le_refl _) (.cells (laA x) 59)
  have hgl : g < w.heap.size := World.block_lt_of_cell? w _ hg
  go_enter Tryz.func74, Tryz.ntmps74
  go_wp2
  go_ret
  exact ⟨rfl, b0⟩
theorem results_iLastOf (x : M.La) (b : Bool) (R : Nat) (W : World) (tmps : Array Value) (h4 : tmps.getD 4 undef = .pointer (some ⟨R, 0, none⟩)) (h5 : tmps.getD 5 undef = .bool b) (hW : Holds W R (laA x)) :
    (results Tryz.f19 tmps).run Tryz.prog W = .ok (.tuple #[laV x, .bool b]) W := by
  obtain ⟨q0, q1, q2, q3⟩ := hW.four
  simp at h4 h5
  simp [results, Tryz.results19, go_sem, h4, h5, q0, q1, q2, q3]
set_option maxHeartbeats 2000000 in
theorem implLastOf (A : Option Addr) (n cap : Nat) (B : Option Addr) (l : List M.La) (cb : Nat) (c : Int) (w : World) (hm : Las w B l) (hml : l.length ≤ 1048576) (hp : ∀ x ∈ l, laIn 1048576 x) :
    Calls Tryz.prog 19 #[bkV A n cap B l.length cb, .int .i64 c] w fun r w' => r = .returned (.tuple #[laV (M.lastOf l c).1, .bool (M.lastOf l c).2]) ∧ Below w.heap.size w w' := by
  have HL := Lib.hid hm
  have HP := Lib.hid hp
  clear hm hp
  have hM := (((Mem.start w).new (bkA A n cap B l.length cb) 27).new #[.int .i64 c] 2).new (laA M.zLa) 59
  simp only [World.size_alloc] at hM
  have hle := M.laFind_le l c
  have hcl := fun (x : M.La) (w' : World) (_ : x ∈ l) (hb : Below _ _ w') => lastOf1_any x (w.heap.size + 1) c w' ((hM.below hb).get (w.heap.size + 1) #[.int .i64 c] (by simp)).one
  by_cases hf : M.laFind l c < l.length
  · have HE : Hid (M.lastOf l c = (l[M.laFind l c], true)) := Lib.hid (M.lastOf_pos hf)
    have hne : (((M.laFind l c : Nat) : Int) == (l.length : Int)) = false := by simp; omega
    obtain ⟨k, hk⟩ : ∃ k, M.laFind l c = k := ⟨_, rfl⟩
    have HK := Lib.hid hk
    simp only [hk] at hf hle hne
    clear hk
    go_enter Tryz.func19, Tryz.ntmps19
    go_wp2_with fail
    have hcall := lfirst_of (M.isCl c) B l cb (.pointer (some ⟨w.heap.size + 1, 0, none⟩)) _ (HL.out.below hM.1) hml hcl
    rw [show l.findIdx (M.isCl c) = k from HK.out] at hcall
    refine hcall.mono ?_
    rintro r w1 ⟨rfl, b1⟩
    have hM1 := hM.below b1
    clear hM b1 hcl hcall
    obtain ⟨b, o, hB, lb, c0, c1, c2, c3⟩ := Las_at (HL.out.below hM1.1) hf
    subst hB
    have hpk := HP.out l[k] (List.getElem_mem hf)
    go_wp2_with fail
    refine (newLast_any l[k] _ hpk).mono ?_
    rintro r w2 ⟨rfl, b2⟩
    have hM2 := hM1.below b2
    clear hM1 b2 c0 c1 c2 c3 lb
    obtain ⟨q0, q1, q2, q3⟩ := (hM2.get (w.heap.size + 1 + 1) (laA M.zLa) (by simp)).four
    have y0 := hM2.loose (w.heap.size + 1 + 1) (by simp) 0
    have y1 := hM2.loose (w.heap.size + 1 + 1) (by simp) 1
    have y2 := hM2.loose (w.heap.size + 1 + 1) (by simp) 2
    have y3 := hM2.loose (w.heap.size + 1 + 1) (by simp) 3
    have HM2 := Lib.hid hM2
    clear hM2
    go_wp2
    refine bodyPost_ret (results_iLastOf l[k] true (w.heap.size + 1 + 1) _ _ rfl rfl ((HM2.out.get (w.heap.size + 1 + 1) (laA M.zLa) (by simp)).putLa l[k])) rfl ⟨?_, below4 HM2.out.1 (by omega) _ _ _ _⟩
    have h := HE.out
    simp only [HK.out] at h
    rw [h]
  · have hf' : M.laFind l c = l.length := by omega
    have HK := Lib.hid hf'
    have HE : Hid (M.lastOf l c = (M.zLa, false)) := Lib.hid (M.lastOf_neg hf')
    have heq : ((l.length : Int) == (l.length : Int)) = true := by simp
    clear hf hf' hle
    go_enter Tryz.func19, Tryz.ntmps19
    go_wp2_with fail
    have hcall := lfirst_of (M.isCl c) B l cb (.pointer (some ⟨w.heap.size + 1, 0, none⟩)) _ (HL.out.below hM.1) hml hcl
    rw [show l.findIdx (M.isCl c) = l.length from HK.out] at hcall
    refine hcall.mono ?_
    rintro r w1 ⟨rfl, b1⟩
    have hM1 := hM.below b1
    clear hM b1 hcl hcall
    obtain ⟨q0, q1, q2, q3⟩ := (hM1.get (w.heap.size + 1 + 1) (laA M.zLa) (by simp)).four
    have y0 := hM1.loose (w.heap.size + 1 + 1) (by simp) 0
    have y1 := hM1.loose (w.heap.size + 1 + 1) (by simp) 1
    have y2 := hM1.loose (w.heap.size + 1 + 1) (by simp) 2
    have y3 := hM1.loose (w.heap.size + 1 + 1) (by simp) 3
    have HM1 := Lib.hid hM1
    clear hM1
    go_wp2
    exact bodyPost_ret (results_iLastOf M.zLa false (w.heap.size + 1 + 1) _ _ rfl rfl ((HM1.out.get (w.heap.size + 1 + 1) (laA M.zLa) (by simp)).putLa M.zLa)) rfl ⟨by rw [HE.out], below4 HM1.out.1 (by omega) _ _ _ _⟩
end Go.Proofs.YtblcgbgcccjpcaaGreat
namespace Go.Proofs.YtblcgbgcccjpcaaGreat
open Go.RowKit
set_option maxRecDepth 20000
namespace M
def putLa (l : List La) (k : Nat) (c : La) : List La := l.take k ++ c :: l.drop k
theorem putLa_len (l : List La) (k : Nat) (c : La) (hk : k ≤ l.length) : (putLa l k c).length = l.length + 1 := by
  simp [putLa]; omega
end M
theorem LasOwn.nil (B : Nat) (w : World) : LasOwn B w (.slice none 0 0) [] := World.ownsRow_nil _ _ _ _
theorem LasOwn.below {B : Nat} {w w' : World} {v : Value} {l : List M.La} (h : LasOwn B w v l) (hb : Below w.heap.size w w') : LasOwn B w' v l := Own.below h hb
theorem LasOwn.mono {B B' : Nat} {w : World} {v : Value} {l : List M.La} (h : LasOwn B w v l) (hb : B' ≤ B) : LasOwn B' w v l := World.ownsRow.mono h hb
theorem LasOwn.open {B : Nat} {w : World} {v : Value} {l : List M.La} (h : LasOwn B w v l) : ∃ A c, v = .slice A l.length c ∧ Las w A l ∧ (A = none → c = 0) := by
  obtain ⟨A, c, hv, hc, hf⟩ := own_flat laL_len h
  refine ⟨A, c, hv, hf, fun hA => ?_⟩
  subst hA
  obtain ⟨_, ⟨h0, hn⟩ | ⟨g, cap, cur, hv', _⟩⟩ := h
  · rw [hv] at h0
    injection h0
  · rw [hv] at hv'
    injection hv' with h1
    cases h1
theorem la_one (l : List M.La) : ∀ u ∈ cellsOf laL l, u.oneCell' = true := by
  intro u hu
  obtain ⟨c, _, hc⟩ := List.mem_flatMap.1 hu
  simp at hc
  rcases hc with rfl | rfl | rfl | rfl <;> rfl
theorem one_flatLa (w : World) (c : M.La) (t : TypeId) : Las (w.alloc (.cells (laA c) t)) (some ⟨w.heap.size, 0, none⟩) [c] := by
  refine .inr ⟨w.heap.size, 0, rfl, by simp, fun i t' x u hi hu => ?_⟩
  have h := (holds_new w (laA c) t).2
  rcases i with _ | i
  · simp at hi
    subst hi
    rw [Nat.zero_mul, Nat.add_zero, Nat.zero_add]
    exact h t' u (by simpa using hu)
  · simp at hi

set_option maxHeartbeats 1000000 in
theorem each_la (A : Option Addr) (l : List M.La) (cap : Nat) (w : World) (hl : Las w A l) (hlen : l.length ≤ 1048576) (hp : ∀ c ∈ l, laIn 1048576 c) :
    Calls Tryz.prog 124 #[.slice A l.length cap, .func (.func 75) #[] #[]] w fun r w' => ∃ A' c', r = .returned (.slice A' l.length c') ∧ LasOwn w.heap.size w' (.slice A' l.length c') l ∧ Below w.heap.size w w' := by
  obtain ⟨i0, hi, hz0, hz1, hz2⟩ := info_parts infoLas
  have HP := Lib.hid hp
  clear hp
  go_enter Tryz.func124, Tryz.ntmps124
  go_wp2
  go_loopw [5, 10] (fun x i wr => ∃ (j : Nat) (A' : Option Addr) (c' : Nat), i = .int .i64 j ∧ j ≤ l.length ∧ x = .slice A' j c' ∧ LasOwn w.heap.size wr (.slice A' j c') (l.take j) ∧ Below w.heap.size w wr) (fun _ i _ => l.length - (intOf i).toNat)
  case atStart => exact ⟨0, none, 0, rfl, Nat.zero_le _, rfl, LasOwn.nil _ _, Below.refl _ _⟩
  case round =>
    obtain ⟨j, A', c', rfl, hj, rfl, ho, hb⟩ := hrel
    by_cases hlt : j < l.length
    · obtain ⟨b, o, rfl, -, c0, c1, c2, c3⟩ := Las_at (hl.below hb) hlt
      have ba := hb.alloc hb.size (.cells (laV l[j]).cells 59)
      have hoa := Own.below ho ((Below.refl _ _).alloc (Nat.le_refl _) (.cells (laV l[j]).cells 59))
      have HL := Lib.hid hl
      have HO := Lib.hid hoa
      clear hl ho hoa
      go_wp2_with fail
      refine (newLast_any l[j] _ (HP.out _ (List.getElem_mem hlt))).mono ?_
      rintro r w1 ⟨rfl, b1⟩
      have ho1 := Own.below HO.out b1
      have bb := next ba b1
      clear HO
      go_wp2_with (at_builtin; refine stop_mk ?_)
      refine stop_un ?_
      have hjl : (l.take j).length = j := by rw [List.length_take, Nat.min_eq_left hj]
      rw [hjl] at ho1
      refine wpList_append_flat (k := 4) (enc := laL) (l := [l[j]]) rfl _ _ 124 rfl w.heap.size 59 i0 _ 40 Tryz.underlying124 hi hz0 hz1 hz2 rfl (by decide) (.slice A' j c') j (cellsOf laL (l.take j)) rfl (ho1.alloc _) (some ⟨w1.heap.size, 0, none⟩) 1 rfl (fun h => by cases h) (one_flatLa w1 l[j] _) laL_len (la_one _) (by simp only [List.length_singleton]; unfold maxLen; omega) (by simp only [List.length_singleton]; omega) ?base ?_
      case base => exact Nat.le_trans bb.size (by simp)
      intro v' w2 hown hgrow
      have b2 := (bb.alloc bb.size (.cells (laV l[j]).cells 59)).grown hgrow (Nat.le_trans bb.size (by simp)) (fun k hk => (ho1.lt k hk).1)
      rw [← cellsOf_append, ← List.take_succ_eq_append_getElem hlt] at hown
      have hjl' : (l.take (j + 1)).length = j + 1 := by rw [List.length_take, Nat.min_eq_left hlt]
      have hO : LasOwn w.heap.size w2 v' (l.take (j + 1)) := by unfold LasOwn; rw [hjl']; exact hown
      obtain ⟨A2, c2', rfl, -, -⟩ := hO.open
      rw [hjl'] at hO ⊢
      have HO := Lib.hid hO
      clear hown hgrow hO ho1 hjl hjl'
      go_wp2
      go_roundw
      case rel => exact ⟨j + 1, A2, c2', by go_num, by omega, rfl, HO.out, b2⟩
      case measure => simp [intOf]; omega
    · have hj' : j = l.length := by omega
      subst hj'
      rw [List.take_length] at ho
      have HO := Lib.hid ho
      clear ho
      go_wp2
      go_ret
      exact ⟨A', c', rfl, HO.out, hb⟩
set_option maxHeartbeats 1000000 in
theorem with_la (A : Option Addr) (l : List M.La) (cap k : Nat) (c : M.La) (w : World) (hl : Las w A l) (hA : A = none → cap = 0) (hcap : l.length ≤ cap) (hk : k ≤ l.length) (hlen : l.length ≤ 1048576) :
    Calls Tryz.prog 126 #[.slice A l.length cap, .int .i64 k, laV c] w fun r w' => ∃ A' c', r = .returned (.slice A' (l.length + 1) c') ∧ LasOwn w.heap.size w' (.slice A' (l.length + 1) c') (M.putLa l k c) ∧ Below w.heap.size w w' := by
  obtain ⟨i0, hi, hz0, hz1, hz2⟩ := info_parts infoLas
  have b0 := (Below.refl w.heap.size w).alloc (Nat.le_refl _) (.cells (laV c).cells 59)
  have h0 := holds_new w (laV c).cells 59
  have HL := Lib.hid hl
  have HA := Lib.hid hA
  clear hl hA
  go_enter Tryz.func126, Tryz.ntmps126
  go_wp2_with (first | (at_builtin; refine stop_mk ?_) | (refine wpList_make_own _ rfl _ _ 124 rfl (w.heap.size + 1) 59 i0 _ 4 Tryz.underlying124 hi hz0 hz1 .i64 .i64 _ (l.length + 1) rfl rfl (by simp) (by rw [hz2]; omega) (by unfold maxLen; omega) (by simp) ?_; intro w1 hown hgrow; refine stop_mk ?_))
  refine stop_un ?_
  simp only [World.size_alloc] at hown
  replace b0 := b0.grown hgrow (by simp) (fun k hk => by cases hk)
  replace h0 := grown_holds h0 hgrow (by simp)
  have hl1 := HL.out.below b0
  have HO := Lib.hid hown
  have H0 := Lib.hid h0
  clear hown hgrow h0
  go_wp2_with (at_builtin; refine stop_mk ?_)
  refine stop_un ?_
  have hkl : (l.take k).length = k := by rw [List.length_take, Nat.min_eq_left hk]
  refine wpList_append_flat (k := 4) (enc := laL) (l := l.take k) rfl _ _ 124 rfl (w.heap.size + 1) 59 i0 _ 40 Tryz.underlying124 hi hz0 hz1 hz2 rfl (by decide) (.slice (some ⟨w.heap.size + 1, 0, none⟩) 0 (l.length + 1)) 0 [] rfl HO.out A cap (by rw [hkl]; rfl) HA.out (hl1.cutTake k) laL_len (la_one _) (by rw [hkl]; unfold maxLen; omega) (by rw [hkl]; omega) ?b1 ?_
  case b1 => exact H0.out.1
  intro v2 w2 hown hgrow
  rw [Nat.zero_add, List.nil_append] at hown
  have hO : LasOwn (w.heap.size + 1) w2 v2 (l.take k) := hown
  replace b0 := b0.grown hgrow b0.size (fun g hg => by have := (HO.out.lt g hg).1; omega)
  have h0 := grown_holds H0.out hgrow (own_ne HO.out (by omega))
  have hl2 := HL.out.below b0
  obtain ⟨A2, c2, rfl, -, -⟩ := hO.open
  rw [hkl] at hO ⊢
  have hz2' := h0.1
  obtain ⟨p0, p1, p2, p3⟩ := h0.at4
  have HO2 := Lib.hid hO
  have H2 := Lib.hid h0
  clear hown hgrow hO h0 HO H0 hl1
  go_wp2_with (at_builtin; refine stop_mk ?_)
  refine stop_un ?_
  have hb2 : (w2.alloc (.cells (laV c).cells 59)).ownsRow (w.heap.size + 1) 59 4 (.slice A2 k c2) k (cellsOf laL (l.take k)) := by
    have h := HO2.out
    unfold LasOwn at h
    rw [hkl] at h
    exact h.alloc _
  refine wpList_append_flat (k := 4) (enc := laL) (l := [c]) rfl _ _ 124 rfl (w.heap.size + 1) 59 i0 _ 40 Tryz.underlying124 hi hz0 hz1 hz2 rfl (by decide) (.slice A2 k c2) k (cellsOf laL (l.take k)) rfl hb2 (some ⟨w2.heap.size, 0, none⟩) 1 rfl (fun h => by cases h) (one_flatLa w2 c _) laL_len (la_one _) (by simp only [List.length_singleton]; unfold maxLen; omega) (by simp only [List.length_singleton]; omega) ?b2 ?_
  case b2 => have := hz2'; simp; omega
  intro v3 w3 hown hgrow
  rw [← cellsOf_append] at hown
  have hO : LasOwn (w.heap.size + 1) w3 v3 (l.take k ++ [c]) := by
    unfold LasOwn
    rw [List.length_append, hkl]; exact hown
  replace b0 := (b0.alloc b0.size (.cells (laV c).cells 59)).grown hgrow (Nat.le_trans b0.size (by simp)) (fun g hg => by have := (hb2.lt g hg).1; omega)
  have h0 := grown_holds (H2.out.alloc (.cells (laV c).cells 59)) hgrow (own_ne hb2 (by omega))
  have hl3 := HL.out.below b0
  obtain ⟨A3, c3, rfl, -, -⟩ := hO.open
  have hkl3 : (l.take k ++ [c]).length = k + 1 := by rw [List.length_append, hkl]; rfl
  rw [hkl3] at hO ⊢
  have HO3 := Lib.hid hO
  have H3 := Lib.hid h0.1
  clear hown hgrow hO h0 HO2 H2 hl2 hb2 p0 p1 p2 p3
  have hb3 : w3.ownsRow (w.heap.size + 1) 59 4 (.slice A3 (k + 1) c3) (k + 1) (cellsOf laL (l.take k ++ [c])) := by
    have h := HO3.out
    unfold LasOwn at h
    rw [hkl3] at h
    exact h
  by_cases hck : cap = k
  · have HB := Lib.hid (show _ ∧ _ from ⟨hb3, hl3⟩)
    clear hb3 hl3
    subst hck
    go_wp2_with (at_builtin; refine stop_mk ?_)
    obtain ⟨hb3, hl3⟩ := HB.out
    refine stop_un ?_
    refine wpList_append_flat (k := 4) (enc := laL) (l := l.drop cap) rfl _ _ 124 rfl (w.heap.size + 1) 59 i0 _ 40 Tryz.underlying124 hi hz0 hz1 hz2 rfl (by decide) (.slice A3 (cap + 1) c3) (cap + 1) (cellsOf laL (l.take cap ++ [c])) rfl hb3 (A) (0) (by rw [List.length_drop, show l.length - cap = 0 by omega]; rfl) (fun _ => rfl) (.inl (List.drop_eq_nil_of_le (by omega))) laL_len (la_one _) (by rw [List.length_drop]; unfold maxLen; omega) (by rw [List.length_drop]; omega) H3.out ?_
    intro v4 w4 hown hgrow
    rw [← cellsOf_append, List.append_assoc, List.singleton_append] at hown
    have hO : LasOwn (w.heap.size + 1) w4 v4 (M.putLa l cap c) := by
      unfold LasOwn
      rw [M.putLa_len l cap c hk]
      rw [List.length_drop, show cap + 1 + (l.length - cap) = l.length + 1 by omega] at hown
      exact hown
    replace b0 := b0.grown hgrow b0.size (fun g hg => by have := (hb3.lt g hg).1; omega)
    obtain ⟨A4, c4, rfl, -, -⟩ := hO.open
    rw [M.putLa_len l cap c hk] at hO ⊢
    have HO4 := Lib.hid (hO.mono (show w.heap.size ≤ w.heap.size + 1 by omega))
    clear hown hgrow hO hb3 HO3
    go_wp2
    go_ret
    exact ⟨A4, c4, rfl, HO4.out, b0⟩
  · have HB := Lib.hid (show _ ∧ _ from ⟨hb3, hl3⟩)
    clear hb3 hl3
    go_wp2_with (at_builtin; refine stop_mk ?_)
    obtain ⟨hb3, hl3⟩ := HB.out
    have hcd := hl3.cutDrop (cap := cap) k hcap
    unfold cutAt at hcd
    rw [if_neg hck] at hcd
    refine stop_un ?_
    refine wpList_append_flat (k := 4) (enc := laL) (l := l.drop k) rfl _ _ 124 rfl (w.heap.size + 1) 59 i0 _ 40 Tryz.underlying124 hi hz0 hz1 hz2 rfl (by decide) (.slice A3 (k + 1) c3) (k + 1) (cellsOf laL (l.take k ++ [c])) rfl hb3 (A.map (·.add (k * 4))) (cap - k) (by rw [List.length_drop]; rfl) (fun h => by have := HA.out (by simpa using h); omega) (hcd) laL_len (la_one _) (by rw [List.length_drop]; unfold maxLen; omega) (by rw [List.length_drop]; omega) H3.out ?_
    intro v4 w4 hown hgrow
    rw [← cellsOf_append, List.append_assoc, List.singleton_append] at hown
    have hO : LasOwn (w.heap.size + 1) w4 v4 (M.putLa l k c) := by
      unfold LasOwn
      rw [M.putLa_len l k c hk]
      rw [List.length_drop, show k + 1 + (l.length - k) = l.length + 1 by omega] at hown
      exact hown
    replace b0 := b0.grown hgrow b0.size (fun g hg => by have := (hb3.lt g hg).1; omega)
    obtain ⟨A4, c4, rfl, -, -⟩ := hO.open
    rw [M.putLa_len l k c hk] at hO ⊢
    have HO4 := Lib.hid (hO.mono (show w.heap.size ≤ w.heap.size + 1 by omega))
    clear hown hgrow hO hb3 HO3
    go_wp2
    go_ret
    exact ⟨A4, c4, rfl, HO4.out, b0⟩
end Go.Proofs.YtblcgbgcccjpcaaGreat
