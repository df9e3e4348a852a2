/- Proved: the model's and the program's LastOf answer one plain Lean function; nothing that was there is written. Condition: texts and lists of at most a million. -/
import Derived.Test.YteiopndlakkeaaaBookImpl
import Derived.Test.YteiopndlakkeaaaMem
import Derived.Test.YteiopndlakkeaaaPuts
import Derived.Test.YteiopndlakkeaaaShelf
namespace Go.Proofs.Yteiopndlakkeaaa
open Go.RowKit
set_option maxRecDepth 20000
namespace M
def zLa : La := ⟨0, 0, 0, ⟨#[]⟩⟩
def isCl (c : Int) (x : La) : Bool := x.client == c
def laFind (l : List La) (c : Int) : Nat := l.findIdx (isCl c)
def laFindInt (l : List La) (c : Int) : Int := if laFind l c < l.length then (laFind l c : Int) else -1
theorem laFindInt_pos {l : List La} {c : Int} (h : laFind l c < l.length) : laFindInt l c = laFind l c := if_pos h
theorem laFindInt_neg {l : List La} {c : Int} (h : laFind l c = l.length) : laFindInt l c = -1 := if_neg (by omega)
def lastOf (l : List La) (c : Int) : La × Bool := match l[laFind l c]? with
  | some x => (x, true)
  | none => (zLa, false)
theorem lastOf_pos {l : List La} {c : Int} (h : laFind l c < l.length) : lastOf l c = (l[laFind l c], true) := by
  unfold lastOf
  rw [List.getElem?_eq_getElem h]
theorem lastOf_neg {l : List La} {c : Int} (h : laFind l c = l.length) : lastOf l c = (zLa, false) := by
  unfold lastOf
  rw [h, List.getElem?_eq_none (Nat.le_refl _)]
theorem laFind_le (l : List La) (c : Int) : laFind l c ≤ l.length := List.findIdx_le_length
end M

set_option maxHeartbeats 1000000 in
theorem l6Last_any (A : Option Addr) (n cap : Nat) (B : Option Addr) (l : List M.La) (cb : Nat) (c : Int) (w : World) (hm : Las w B l) (hml : l.length ≤ 1048576) :
    Calls Try.prog 38 #[bkV A n cap B l.length cb, .int .i64 c] w fun r w' => r = .returned (.int .i64 (M.laFindInt l c)) ∧ Below w.heap.size w w' := by
  have b0 := (Below.refl w.heap.size w).alloc (Nat.le_refl _) (.cells (bkA A n cap B l.length cb) 46)
  have hK := holds_new w (bkA A n cap B l.length cb) 46
  have HL := Lib.hid (hm.below b0)
  clear hm
  go_enter Try.func38, Try.ntmps38
  go_wp2
  generalize hwB : w.alloc (.cells (bkA A n cap B l.length cb) 46) = wB at b0 hK HL ⊢
  clear hwB
  obtain ⟨k0, k1⟩ := hK.two
  have zk := hK.1
  go_loop [5] (fun i => ∃ j : Nat, i = .int .i64 j ∧ j ≤ l.length ∧ GNoneTo (M.isCl c) l j) (fun i => l.length - (intOf i).toNat)
  case atStart => exact ⟨0, rfl, Nat.zero_le _, GNoneTo.zero _ l⟩
  case round =>
    obtain ⟨j, rfl, hj, hnone⟩ := hrel
    have HN := Lib.hid hnone
    clear hnone
    by_cases hlt : j < l.length
    · obtain ⟨b, o, hA, lb, c0, c1, c2, c3⟩ := Las_at HL.out hlt
      subst hA
      rcases hq : (l[j].client == c) with _ | _
      · have HQ : Hid (M.isCl c l[j] = false) := Lib.hid hq
        go_wp2
        go_round
        case rel => exact ⟨j + 1, by go_num, by omega, HN.out.next hlt HQ.out⟩
        case measure => simp [intOf]; omega
      · have HE : Hid (M.laFindInt l c = j) := Lib.hid (by
          have h1 : M.laFind l c = j := HN.out.hit hlt hq
          rw [M.laFindInt_pos (by rw [h1]; exact hlt), h1])
        go_wp2
        go_ret
        exact ⟨ret_int HE.out.symm, b0⟩
    · have hj' : j = l.length := by omega
      subst hj'
      have HE : Hid (M.laFindInt l c = -1) := Lib.hid (M.laFindInt_neg HN.out.all)
      go_wp2
      go_ret
      exact ⟨ret_int HE.out.symm, b0⟩

theorem results_sLastOf (x : M.La) (b : Bool) (R : Nat) (W : World) (tmps : Array Value) (h4 : tmps.getD 4 undef = .pointer (some ⟨R, 0, none⟩)) (h5 : tmps.getD 5 undef = .bool b) (hW : Holds W R (laA x)) :
    (results Try.f15 tmps).run Try.prog W = .ok (.tuple #[laV x, .bool b]) W := by
  obtain ⟨q0, q1, q2, q3⟩ := hW.four
  simp at h4 h5
  simp [results, Try.results15, go_sem, h4, h5, q0, q1, q2, q3]
theorem Holds.putLa {w : World} {g : Nat} {y : M.La} (h : Holds w g (laA y)) (x : M.La) : Holds ((((w.setCell ⟨g, 0, none⟩ (.int .i64 x.client)).setCell ⟨g, 1, none⟩ (.int .i64 x.seq)).setCell ⟨g, 2, none⟩ (.int .i64 x.code)).setCell ⟨g, 3, none⟩ (.string x.page)) g (laA x) := by
  simpa using (((h.putM 0 (.int .i64 x.client)).putM 1 (.int .i64 x.seq)).putM 2 (.int .i64 x.code)).putM 3 (.string x.page)
theorem below4 {w0 W : World} {g : Nat} (h : Below w0.heap.size w0 W) (hg : w0.heap.size ≤ g) (a b c d : Value) : Below w0.heap.size w0 ((((W.setCell ⟨g, 0, none⟩ a).setCell ⟨g, 1, none⟩ b).setCell ⟨g, 2, none⟩ c).setCell ⟨g, 3, none⟩ d) :=
  (((h.setCell hg _).setCell hg _).setCell hg _).setCell hg _

set_option maxHeartbeats 2000000 in
theorem specLastOf (A : Option Addr) (n cap : Nat) (B : Option Addr) (l : List M.La) (cb : Nat) (c : Int) (w : World) (hm : Las w B l) (hml : l.length ≤ 1048576) :
    Calls Try.prog 15 #[bkV A n cap B l.length cb, .int .i64 c] w fun r w' => r = .returned (.tuple #[laV (M.lastOf l c).1, .bool (M.lastOf l c).2]) ∧ Below w.heap.size w w' := by
  have HL := Lib.hid hm
  clear hm
  have hM := ((Mem.start w).new (bkA A n cap B l.length cb) 46).new (laA M.zLa) 53
  simp only [World.size_alloc] at hM
  have hle := M.laFind_le l c
  by_cases hf : M.laFind l c < l.length
  · have HI : Hid (M.laFindInt l c = M.laFind l c) := Lib.hid (M.laFindInt_pos hf)
    have HE : Hid (M.lastOf l c = (l[M.laFind l c], true)) := Lib.hid (M.lastOf_pos hf)
    obtain ⟨k, hk⟩ : ∃ k, M.laFind l c = k := ⟨_, rfl⟩
    go_enter Try.func15, Try.ntmps15
    go_wp2_with fail
    refine (l6Last_any A n cap B l cb c _ (HL.out.below hM.1) hml).mono ?_
    rintro r w1 ⟨rfl, b1⟩
    rw [HI.out]
    have hM1 := hM.below b1
    simp only [hk] at hf hle ⊢
    have HK := Lib.hid hk
    clear hM b1 hk
    obtain ⟨b, o, hB, lb, c0, c1, c2, c3⟩ := Las_at (HL.out.below hM1.1) hf
    subst hB
    obtain ⟨p0, p1⟩ := (hM1.get w.heap.size (bkA A n cap (some ⟨b, o, none⟩) l.length cb) (by simp)).two
    obtain ⟨q0, q1, q2, q3⟩ := (hM1.get (w.heap.size + 1) (laA M.zLa) (by simp)).four
    have y0 := hM1.loose (w.heap.size + 1) (by simp) 0
    have y1 := hM1.loose (w.heap.size + 1) (by simp) 1
    have y2 := hM1.loose (w.heap.size + 1) (by simp) 2
    have y3 := hM1.loose (w.heap.size + 1) (by simp) 3
    have HM1 := Lib.hid hM1
    clear hM1
    go_wp2
    refine bodyPost_ret (results_sLastOf l[k] true (w.heap.size + 1) _ _ rfl rfl ((HM1.out.get (w.heap.size + 1) (laA M.zLa) (by simp)).putLa l[k])) rfl ⟨?_, below4 HM1.out.1 (Nat.le_succ _) _ _ _ _⟩
    have h := HE.out
    simp only [HK.out] at h
    rw [h]
  · have hf' : M.laFind l c = l.length := by omega
    have HI : Hid (M.laFindInt l c = -1) := Lib.hid (M.laFindInt_neg hf')
    have HE : Hid (M.lastOf l c = (M.zLa, false)) := Lib.hid (M.lastOf_neg hf')
    clear hf hf' hle
    go_enter Try.func15, Try.ntmps15
    go_wp2_with fail
    refine (l6Last_any A n cap B l cb c _ (HL.out.below hM.1) hml).mono ?_
    rintro r w1 ⟨rfl, b1⟩
    rw [HI.out]
    have hM1 := hM.below b1
    clear hM b1
    obtain ⟨q0, q1, q2, q3⟩ := (hM1.get (w.heap.size + 1) (laA M.zLa) (by simp)).four
    have y0 := hM1.loose (w.heap.size + 1) (by simp) 0
    have y1 := hM1.loose (w.heap.size + 1) (by simp) 1
    have y2 := hM1.loose (w.heap.size + 1) (by simp) 2
    have y3 := hM1.loose (w.heap.size + 1) (by simp) 3
    have HM1 := Lib.hid hM1
    clear hM1
    go_wp2
    exact bodyPost_ret (results_sLastOf M.zLa false (w.heap.size + 1) _ _ rfl rfl ((HM1.out.get (w.heap.size + 1) (laA M.zLa) (by simp)).putLa M.zLa)) rfl ⟨by rw [HE.out], below4 HM1.out.1 (Nat.le_succ _) _ _ _ _⟩

set_option maxHeartbeats 1000000 in
theorem clone_la (s : ByteArray) (w : World) (h : s.size ≤ 1048576) :
    Calls Try.prog 76 #[.string s] w fun r w' => r = .returned (.string s) ∧ Below w.heap.size w w' := by
  go_enter Try.func76, Try.ntmps76
  go_wp2_with fail
  refine (Try.stringslite_Clone s _ (by omega)).mono ?_
  rintro r w1 ⟨rfl, b1⟩
  go_wp2
  go_ret
  exact ⟨rfl, b1⟩
theorem results_newReply (c : Int) (p : ByteArray) (R : Nat) (W : World) (tmps : Array Value) (h2 : tmps.getD 2 undef = .pointer (some ⟨R, 0, none⟩)) (hW : Holds W R (rpA c p)) :
    (results Try.f61 tmps).run Try.prog W = .ok (rpV c p) W := by
  obtain ⟨q0, q1⟩ := hW.two
  simp at h2
  simp [results, Try.results61, go_sem, h2, q0, q1]
set_option maxHeartbeats 1000000 in
theorem newReply_any (c : Int) (p : ByteArray) (w : World) (h : p.size ≤ 1048576) :
    Calls Try.prog 61 #[rpV c p] w fun r w' => r = .returned (rpV c p) ∧ Below w.heap.size w w' := by
  have hM := ((Mem.start w).new (rpA c p) 51).new (rpA 0 noP) 51
  simp only [World.size_alloc] at hM
  go_enter Try.func61, Try.ntmps61
  go_wp2_with fail
  refine (clone_la p _ h).mono ?_
  rintro r w1 ⟨rfl, b1⟩
  have hM1 := hM.below b1
  clear hM b1
  obtain ⟨p0, p1⟩ := (hM1.get w.heap.size (rpA c p) (by simp)).two
  obtain ⟨q0, q1⟩ := (hM1.get (w.heap.size + 1) (rpA 0 noP) (by simp)).two
  have y0 := hM1.loose (w.heap.size + 1) (by simp) 0
  have y1 := hM1.loose (w.heap.size + 1) (by simp) 1
  have x1 := hM1.loose w.heap.size (by simp) 1
  have HM1 := Lib.hid hM1
  clear hM1
  go_wp2
  exact bodyPost_ret (results_newReply c p (w.heap.size + 1) _ _ rfl (((HM1.out.get (w.heap.size + 1) (rpA 0 noP) (by simp)).otherM (by omega)).wr2 _ _)) rfl ⟨rfl, far_2 (farM HM1.out.1 (Nat.le_refl _) _ _) (by omega) _ _⟩
theorem results_newLast (x : M.La) (R : Nat) (W : World) (tmps : Array Value) (h2 : tmps.getD 2 undef = .pointer (some ⟨R, 0, none⟩)) (hW : Holds W R (laA x)) :
    (results Try.f41 tmps).run Try.prog W = .ok (laV x) W := by
  obtain ⟨q0, q1, q2, q3⟩ := hW.four
  simp at h2
  simp [results, Try.results41, go_sem, h2, q0, q1, q2, q3]
set_option maxHeartbeats 1000000 in
theorem newLast_any (x : M.La) (w : World) (h : x.page.size ≤ 1048576) :
    Calls Try.prog 41 #[laV x] w fun r w' => r = .returned (laV x) ∧ Below w.heap.size w w' := by
  have hM := ((Mem.start w).new (laA x) 53).new (laA M.zLa) 53
  simp only [World.size_alloc] at hM
  go_enter Try.func41, Try.ntmps41
  go_wp2_with fail
  refine (newReply_any x.code x.page _ h).mono ?_
  rintro r w1 ⟨rfl, b1⟩
  have hM1 := hM.below b1
  clear hM b1
  obtain ⟨p0, p1, p2, p3⟩ := (hM1.get w.heap.size (laA x) (by simp)).four
  obtain ⟨q0, q1, q2, q3⟩ := (hM1.get (w.heap.size + 1) (laA M.zLa) (by simp)).four
  have y0 := hM1.loose (w.heap.size + 1) (by simp) 0
  have y1 := hM1.loose (w.heap.size + 1) (by simp) 1
  have y2 := hM1.loose (w.heap.size + 1) (by simp) 2
  have y3 := hM1.loose (w.heap.size + 1) (by simp) 3
  have x2 := hM1.loose w.heap.size (by simp) 2
  have x3 := hM1.loose w.heap.size (by simp) 3
  have HM1 := Lib.hid hM1
  clear hM1
  go_wp2
  exact bodyPost_ret (results_newLast x (w.heap.size + 1) _ _ rfl ((((HM1.out.get (w.heap.size + 1) (laA M.zLa) (by simp)).otherM (by omega)).otherM (by omega)).wr4 _ _ _ _)) rfl ⟨rfl, far_4 (farM (farM HM1.out.1 (Nat.le_refl _) _ _) (Nat.le_refl _) _ _) (by omega) _ _ _ _⟩

set_option maxHeartbeats 1000000 in
theorem lfirst_of (p : M.La → Bool) (A : Option Addr) (l : List M.La) (cap : Nat) (g : Value) (w : World) (hl : Las w A l) (hlen : l.length ≤ 1048576)
    (hcall : ∀ (c : M.La) (w' : World), c ∈ l → Below w.heap.size w w' → Calls Try.prog 40 #[laV c, g] w' fun r w'' => r = .returned (.bool (p c)) ∧ Below w'.heap.size w' w'') :
    Calls Try.prog 39 #[.slice A l.length cap, .func (.func 40) #[] #[g]] w fun r w' => r = .returned (.int .i64 (l.findIdx p : Nat)) ∧ Below w.heap.size w w' := by
  have HC := Lib.hid hcall
  clear hcall
  go_enter Try.func39, Try.ntmps39
  go_wp2
  go_loopw [9] (fun i wr => ∃ j : Nat, i = .int .i64 j ∧ j ≤ l.length ∧ GNoneTo p l j ∧ Below w.heap.size w wr) (fun i _ => l.length - (intOf i).toNat)
  case atStart => exact ⟨0, rfl, Nat.zero_le _, GNoneTo.zero p l, Below.refl _ _⟩
  case round =>
    obtain ⟨j, rfl, hj, hnone, hbl⟩ := hrel
    by_cases hlt : j < l.length
    · obtain ⟨b, o, rfl, -, c0, c1, c2, c3⟩ := Las_at (hl.below hbl) hlt
      have HA := Lib.hid hl
      have HN := Lib.hid hnone
      have ba := hbl.alloc hbl.size (.cells (laA l[j]) 53)
      clear hl hnone
      rcases hp : p l[j] with _ | _
      · have HP := Lib.hid hp
        go_wp2_with fail
        refine (HC.out l[j] _ (List.getElem_mem hlt) ba).mono ?_
        rintro r w1 ⟨rfl, b1⟩
        clear hp
        have hp := HP.out
        rw [hp]
        clear hp
        go_wp2
        go_roundw
        case rel => exact ⟨j + 1, by go_num, by omega, HN.out.next hlt HP.out, next ba b1⟩
        case measure => simp [intOf]; omega
      · have HP := Lib.hid hp
        go_wp2_with fail
        refine (HC.out l[j] _ (List.getElem_mem hlt) ba).mono ?_
        rintro r w1 ⟨rfl, b1⟩
        clear hp
        have hp := HP.out
        rw [hp]
        clear hp
        go_wp2
        go_ret
        exact ⟨ret_int (by rw [HN.out.hit hlt HP.out]), next ba b1⟩
    · have hj' : j = l.length := by omega
      subst hj'
      have HN := Lib.hid hnone
      clear hnone
      go_wp2
      go_ret
      exact ⟨ret_int (by rw [HN.out.all]), hbl⟩

set_option maxHeartbeats 1000000 in
theorem lastOf1_any (x : M.La) (g : Nat) (c : Int) (w : World) (hg : w.cell? ⟨g, 0, none⟩ = some (.int .i64 c)) :
    Calls Try.prog 40 #[laV x, .pointer (some ⟨g, 0, none⟩)] w fun r w' => r = .returned (.bool (M.isCl c x)) ∧ Below w.heap.size w w' := by
  have b0 := (Below.refl w.heap.size w).alloc (Nat.le_refl _) (.cells (laA x) 53)
  have hgl : g < w.heap.size := World.block_lt_of_cell? w _ hg
  go_enter Try.func40, Try.ntmps40
  go_wp2
  go_ret
  exact ⟨rfl, b0⟩
theorem results_iLastOf (x : M.La) (b : Bool) (R : Nat) (W : World) (tmps : Array Value) (h4 : tmps.getD 4 undef = .pointer (some ⟨R, 0, none⟩)) (h5 : tmps.getD 5 undef = .bool b) (hW : Holds W R (laA x)) :
    (results Try.f16 tmps).run Try.prog W = .ok (.tuple #[laV x, .bool b]) W := by
  obtain ⟨q0, q1, q2, q3⟩ := hW.four
  simp at h4 h5
  simp [results, Try.results16, go_sem, h4, h5, q0, q1, q2, q3]
set_option maxHeartbeats 2000000 in
theorem implLastOf (A : Option Addr) (n cap : Nat) (B : Option Addr) (l : List M.La) (cb : Nat) (c : Int) (w : World) (hm : Las w B l) (hml : l.length ≤ 1048576) (hp : ∀ x ∈ l, laIn 1048576 x) :
    Calls Try.prog 16 #[bkV A n cap B l.length cb, .int .i64 c] w fun r w' => r = .returned (.tuple #[laV (M.lastOf l c).1, .bool (M.lastOf l c).2]) ∧ Below w.heap.size w w' := by
  have HL := Lib.hid hm
  have HP := Lib.hid hp
  clear hm hp
  have hM := (((Mem.start w).new (bkA A n cap B l.length cb) 46).new #[.int .i64 c] 2).new (laA M.zLa) 53
  simp only [World.size_alloc] at hM
  have hle := M.laFind_le l c
  have hcl := fun (x : M.La) (w' : World) (_ : x ∈ l) (hb : Below _ _ w') => lastOf1_any x (w.heap.size + 1) c w' ((hM.below hb).get (w.heap.size + 1) #[.int .i64 c] (by simp)).one
  by_cases hf : M.laFind l c < l.length
  · have HE : Hid (M.lastOf l c = (l[M.laFind l c], true)) := Lib.hid (M.lastOf_pos hf)
    have hne : (((M.laFind l c : Nat) : Int) == (l.length : Int)) = false := by simp; omega
    obtain ⟨k, hk⟩ : ∃ k, M.laFind l c = k := ⟨_, rfl⟩
    have HK := Lib.hid hk
    simp only [hk] at hf hle hne
    clear hk
    go_enter Try.func16, Try.ntmps16
    go_wp2_with fail
    have hcall := lfirst_of (M.isCl c) B l cb (.pointer (some ⟨w.heap.size + 1, 0, none⟩)) _ (HL.out.below hM.1) hml hcl
    rw [show l.findIdx (M.isCl c) = k from HK.out] at hcall
    refine hcall.mono ?_
    rintro r w1 ⟨rfl, b1⟩
    have hM1 := hM.below b1
    clear hM b1 hcl hcall
    obtain ⟨b, o, hB, lb, c0, c1, c2, c3⟩ := Las_at (HL.out.below hM1.1) hf
    subst hB
    have hpk := HP.out l[k] (List.getElem_mem hf)
    go_wp2_with fail
    refine (newLast_any l[k] _ hpk).mono ?_
    rintro r w2 ⟨rfl, b2⟩
    have hM2 := hM1.below b2
    clear hM1 b2 c0 c1 c2 c3 lb
    obtain ⟨q0, q1, q2, q3⟩ := (hM2.get (w.heap.size + 1 + 1) (laA M.zLa) (by simp)).four
    have y0 := hM2.loose (w.heap.size + 1 + 1) (by simp) 0
    have y1 := hM2.loose (w.heap.size + 1 + 1) (by simp) 1
    have y2 := hM2.loose (w.heap.size + 1 + 1) (by simp) 2
    have y3 := hM2.loose (w.heap.size + 1 + 1) (by simp) 3
    have HM2 := Lib.hid hM2
    clear hM2
    go_wp2
    refine bodyPost_ret (results_iLastOf l[k] true (w.heap.size + 1 + 1) _ _ rfl rfl ((HM2.out.get (w.heap.size + 1 + 1) (laA M.zLa) (by simp)).putLa l[k])) rfl ⟨?_, below4 HM2.out.1 (by omega) _ _ _ _⟩
    have h := HE.out
    simp only [HK.out] at h
    rw [h]
  · have hf' : M.laFind l c = l.length := by omega
    have HK := Lib.hid hf'
    have HE : Hid (M.lastOf l c = (M.zLa, false)) := Lib.hid (M.lastOf_neg hf')
    have heq : ((l.length : Int) == (l.length : Int)) = true := by simp
    clear hf hf' hle
    go_enter Try.func16, Try.ntmps16
    go_wp2_with fail
    have hcall := lfirst_of (M.isCl c) B l cb (.pointer (some ⟨w.heap.size + 1, 0, none⟩)) _ (HL.out.below hM.1) hml hcl
    rw [show l.findIdx (M.isCl c) = l.length from HK.out] at hcall
    refine hcall.mono ?_
    rintro r w1 ⟨rfl, b1⟩
    have hM1 := hM.below b1
    clear hM b1 hcl hcall
    obtain ⟨q0, q1, q2, q3⟩ := (hM1.get (w.heap.size + 1 + 1) (laA M.zLa) (by simp)).four
    have y0 := hM1.loose (w.heap.size + 1 + 1) (by simp) 0
    have y1 := hM1.loose (w.heap.size + 1 + 1) (by simp) 1
    have y2 := hM1.loose (w.heap.size + 1 + 1) (by simp) 2
    have y3 := hM1.loose (w.heap.size + 1 + 1) (by simp) 3
    have HM1 := Lib.hid hM1
    clear hM1
    go_wp2
    exact bodyPost_ret (results_iLastOf M.zLa false (w.heap.size + 1 + 1) _ _ rfl rfl ((HM1.out.get (w.heap.size + 1 + 1) (laA M.zLa) (by simp)).putLa M.zLa)) rfl ⟨by rw [HE.out], below4 HM1.out.1 (by omega) _ _ _ _⟩
end Go.Proofs.Yteiopndlakkeaaa
