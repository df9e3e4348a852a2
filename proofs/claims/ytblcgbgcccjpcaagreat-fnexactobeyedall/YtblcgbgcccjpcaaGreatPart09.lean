/- Proved, in parts: Proved: the laws' helper that makes a list of works of the program's own types out of the laws' answers the same works, in new memory, no two lists of which are one; it writes nothing that was there. Proved: the program's WorkOk answers the same plain Lean function as the model's; it writes nothing that was there. -/
import Derived.Test.YtblcgbgcccjpcaaGreatPart08
import Derived.Test.YtblcgbgcccjpcaaGreatPart04
import Derived.StillTailTactics
import Derived.IntWalk
namespace Go.Proofs.YtblcgbgcccjpcaaGreat
open Go.RowKit
set_option maxRecDepth 20000

/-- Where the copies of r lie. -/
abbrev Wr.sl (r : Wr) : Value := .slice r.ad r.cps.length r.cap
/-- Two lists are in two blocks. -/
def Apart (a b : Value) : Prop := a.ownBlock = none ∨ a.ownBlock ≠ b.ownBlock
/-- v is a list of the works l, in memory of one's own from block B on, each list in a block of its own. -/
def SfOwn (B : Nat) (w : World) (v : Value) (l : List Wr) : Prop :=
  w.ownsRow B 44 3 v l.length (cellsOf wrL l) ∧ (∀ r ∈ l, CpOwn B w r.sl r.cps) ∧ (∀ r ∈ l, Apart r.sl v) ∧ l.Pairwise fun a b => Apart a.sl b.sl
theorem SfOwn.below {B : Nat} {w w' : World} {v : Value} {l : List Wr} (h : SfOwn B w v l) (hb : Below w.heap.size w w') : SfOwn B w' v l :=
  ⟨Own.below h.1 hb, fun r hr => (h.2.1 r hr).below hb, h.2.2⟩
theorem SfOwn.mono {B B' : Nat} {w : World} {v : Value} {l : List Wr} (h : SfOwn B w v l) (hb : B' ≤ B) : SfOwn B' w v l :=
  ⟨World.ownsRow.mono h.1 hb, fun r hr => (h.2.1 r hr).mono hb, h.2.2⟩
theorem SfOwn.open {B : Nat} {w : World} {v : Value} {l : List Wr} (h : SfOwn B w v l) : ∃ A c, v = .slice A l.length c ∧ l.length ≤ c ∧ Wks w A l := by
  obtain ⟨A, c, hv, hc, hf⟩ := own_flat wrL_len h.1
  exact ⟨A, c, hv, hc, hf, fun r hr => (h.2.1 r hr).cps.1⟩
theorem SfOwn.wks {B : Nat} {w : World} {A : Option Addr} {n c : Nat} {l : List Wr} (h : SfOwn B w (.slice A n c) l) : Wks w A l ∧ n = l.length := by
  obtain ⟨A', c', hv, _, hw⟩ := h.open
  injection hv with hA hn _
  subst hA
  exact ⟨hw, hn⟩

theorem infoWk : (Tryz.prog.info? 44).map (fun i => (i.zero, i.size, i.bytes)) = some (some (.agg #[.string ⟨#[]⟩, .int .i64 0, .slice none 0 0]), 3, 48) := by kernel_rfl

theorem set3w (xs ys : List Value) (a b c f0 f1 f2 : Value) (n : Nat) (hn : n = xs.length) :
    (((xs ++ a :: b :: c :: ys).set n f0).set (n + 1) f1).set (n + 2) f2 = xs ++ f0 :: f1 :: f2 :: ys := by
  subst hn; simp
theorem three_of {l : List Value} {n : Nat} (h : l.length = (n + 1) * 3) : ∃ a b c r, l = a :: b :: c :: r ∧ r.length = n * 3 := by
  match l, h with
  | a :: b :: c :: r, h => exact ⟨a, b, c, r, rfl, by simp at h; omega⟩
  | [], h => simp at h
  | [_], h => simp at h; omega
  | [_, _], h => simp at h; omega
/-- Three stores into a row. -/
theorem own_put3 {w : World} {base e g n cap j : Nat} {xs ys : List Value} {f0 f1 f2 : Value} {a b c : Value} (h : w.ownsRow base e 3 (.slice (some ⟨g, 0, none⟩) n cap) n (xs ++ a :: b :: c :: ys)) (hj : j = xs.length) :
    (((w.setCell ⟨g, j, none⟩ f0).setCell ⟨g, j + 1, none⟩ f1).setCell ⟨g, j + 2, none⟩ f2).ownsRow base e 3 (.slice (some ⟨g, 0, none⟩) n cap) n (xs ++ f0 :: f1 :: f2 :: ys) := by
  have := ((h.stored j f0).1.stored (j + 1) f1).1.stored (j + 2) f2
  rw [set3w xs ys a b c f0 f1 f2 j hj] at this
  exact this.1
theorem own_cells3 {w : World} {base e g n cap j : Nat} {xs ys : List Value} {a b c : Value} (h : w.ownsRow base e 3 (.slice (some ⟨g, 0, none⟩) n cap) n (xs ++ a :: b :: c :: ys)) (hj : j = xs.length) :
    (w.cell? ⟨g, j, none⟩ = some a ∧ w.cell? ⟨g, j + 1, none⟩ = some b ∧ w.cell? ⟨g, j + 2, none⟩ = some c) ∧
    (w.frozen? ⟨g, j, none⟩ = false ∧ w.frozen? ⟨g, j + 1, none⟩ = false ∧ w.frozen? ⟨g, j + 2, none⟩ = false) := by
  have hl := h.1
  simp at hl
  subst hj
  refine ⟨⟨?_, ?_, ?_⟩, h.frozenAt _, h.frozenAt _, h.frozenAt _⟩ <;> (rw [h.cellAt _ (by omega)]; simp)

/-- The works that were made so far: each list behind block G, in a block of its own. -/
def Made (G : Nat) (w : World) (rs : List Wr) : Prop :=
  (∀ r ∈ rs, CpOwn (G + 1) w r.sl r.cps ∧ r.ad ≠ none ∧ r.cap = r.cps.length) ∧ rs.Pairwise fun a b => Apart a.sl b.sl
theorem Made.nil (G : Nat) (w : World) : Made G w [] := ⟨by simp, List.Pairwise.nil⟩
theorem Made.below {G : Nat} {w w' : World} {rs : List Wr} (h : Made G w rs) (hb : Below w.heap.size w w') : Made G w' rs :=
  ⟨fun r hr => ⟨(h.1 r hr).1.below hb, (h.1 r hr).2⟩, h.2⟩
theorem Made.set {G : Nat} {w : World} {rs : List Wr} (h : Made G w rs) (i : Nat) (v : Value) : Made G (w.setCell ⟨G, i, none⟩ v) rs :=
  ⟨fun r hr => ⟨(h.1 r hr).1.off (by simp) v, (h.1 r hr).2⟩, h.2⟩
/-- One more, made in a world of its own. -/
theorem Made.snoc {G : Nat} {w w' : World} {rs : List Wr} (h : Made G w rs) (hb : Below w.heap.size w w') (hG : G + 1 ≤ w.heap.size) (r : Wr) (ho : CpOwn w.heap.size w' r.sl r.cps) (hr : r.ad ≠ none ∧ r.cap = r.cps.length) : Made G w' (rs ++ [r]) := by
  refine ⟨fun x hx => ?_, ?_⟩
  · rcases List.mem_append.1 hx with hx | hx
    · exact ⟨(h.1 x hx).1.below hb, (h.1 x hx).2⟩
    · obtain rfl : x = r := by simpa using hx
      exact ⟨ho.mono hG, hr⟩
  · rw [List.pairwise_append]
    refine ⟨h.2, List.pairwise_singleton _ _, fun a ha b hb' => ?_⟩
    obtain rfl : b = r := by simpa using hb'
    exact own_differ (fun k hk => ((h.1 a ha).1.lt k hk).2) (fun k hk => (ho.lt k hk).1)

set_option maxHeartbeats 2000000 in
theorem toWorkS_any (A : Option Addr) (l : List Wr) (cap : Nat) (w : World) (hl : Wks w A l) (hlen : l.length ≤ 1048576) (hp : WrsIn 1048576 l) :
    Calls Tryz.prog 96 #[.slice A l.length cap] w fun r w' => ∃ rs : List Wr, rs.map Wr.wk = l.map Wr.wk ∧ rs.length = l.length ∧ (∀ x ∈ rs, x.ad ≠ none ∧ x.cap = x.cps.length) ∧ r = .returned (.slice (some ⟨w.heap.size, 0, none⟩) l.length l.length) ∧ SfOwn w.heap.size w' (.slice (some ⟨w.heap.size, 0, none⟩) l.length l.length) rs ∧ Below w.heap.size w w' := by
  obtain ⟨i0, hi, hz0, hz1, hz2⟩ := info_parts infoWk
  have HP := Lib.hid hp
  clear hp
  go_enter Tryz.func96, Tryz.ntmps96
  go_wp2_with (refine wpList_make_full _ rfl _ _ 24 rfl w.heap.size 44 i0 _ 3 Tryz.underlying24 hi hz0 hz1 .i64 .i64 _ _ l.length rfl rfl rfl rfl (by rw [hz2]; omega) (by unfold maxLen; omega) (Nat.le_refl _) ?_; intro w1 hown hgrow)
  have b1 : Below w.heap.size w w1 := (Below.refl _ _).grown hgrow (Nat.le_refl _) (fun k hk => by cases hk)
  go_loopw [4] (fun i wr => ∃ (j : Nat) (rs : List Wr) (rest : List Value), i = .int .i64 j ∧ j ≤ l.length ∧ rs.length = j ∧ rs.map Wr.wk = (l.take j).map Wr.wk ∧ rest.length = (l.length - j) * 3 ∧ wr.ownsRow w.heap.size 44 3 (.slice (some ⟨w.heap.size, 0, none⟩) l.length l.length) l.length (cellsOf wrL rs ++ rest) ∧ Made w.heap.size wr rs ∧ Below w.heap.size w wr) (fun i _ => l.length - (intOf i).toNat)
  case atStart => exact ⟨0, [], _, rfl, Nat.zero_le _, rfl, rfl, hown.1, hown, Made.nil _ _, b1⟩
  case round =>
    obtain ⟨j, rs, rest, rfl, hj, hrl, hrm, hr, hown', hmade, hb⟩ := hrel
    by_cases hlt : j < l.length
    · obtain ⟨e0, e1, e2, rs', rfl, hrs⟩ := three_of (n := l.length - j - 1) (l := rest) (by rw [hr]; omega)
      have hz : j * 3 = (cellsOf wrL rs).length := by rw [cellsOf_len wrL_len, hrl]
      have hsz : w.heap.size + 1 ≤ wr.heap.size := by
        obtain ⟨g, cc, hv, _, hg⟩ := World.ownsRow.form hown' (by omega)
        injection hv with hA _ _
        injection hA with hA
        injection hA with hA _ _
        omega
      obtain ⟨b, o, rfl, hbl, c0, c1, c2, hc⟩ := Wks_at (hl.below hb) hlt
      have HO := Lib.hid hown'
      have HL := Lib.hid hl
      have HZ := Lib.hid hz
      have HR := Lib.hid hrs
      have HM := Lib.hid hmade
      have HC := Lib.hid hc
      have HRM := Lib.hid hrm
      have HRL := Lib.hid hrl
      have hcl := (HP.out l[j] (List.getElem_mem hlt)).2.1
      have HCL := Lib.hid hcl
      clear hown hown' hl hz hrs hr hmade hc hrm hrl hcl
      go_wp2_with fail
      refine (toWork_any l[j].name l[j].owner l[j].ad l[j].cps l[j].cap _ HC.out HCL.out).mono ?_
      rintro r w2 ⟨g, rfl, ho, b2⟩
      have ho2 := Own.below HO.out b2
      obtain ⟨⟨k0, k1, k2⟩, f0, f1, f2⟩ := own_cells3 ho2 HZ.out
      have HO2 := Lib.hid ho2
      have HN := Lib.hid ho
      clear ho2 ho
      go_wp2
      go_roundw
      case rel =>
        refine ⟨j + 1, rs ++ [⟨l[j].name, l[j].owner, some ⟨g, 0, none⟩, l[j].cps.length, l[j].cps⟩], rs', by go_num, by omega, by simp [HRL.out], ?_, by rw [HR.out]; omega, ?_, ?_, ?_⟩
        · rw [List.map_append, HRM.out, List.take_succ_eq_append_getElem hlt, List.map_append]; rfl
        · rw [cellsOf_append, List.append_assoc]
          exact own_put3 HO2.out HZ.out
        · exact (((HM.out.snoc b2 hsz ⟨l[j].name, l[j].owner, some ⟨g, 0, none⟩, l[j].cps.length, l[j].cps⟩ HN.out ⟨by simp, rfl⟩).set _ _).set _ _).set _ _
        · exact (((next hb b2).setCell (Nat.le_refl _) _).setCell (Nat.le_refl _) _).setCell (Nat.le_refl _) _
      case measure => simp [intOf]; omega
    · have hj' : j = l.length := by omega
      subst hj'
      have hr0 : rest = [] := List.length_eq_zero_iff.1 (by rw [hr]; omega)
      subst hr0
      rw [List.append_nil] at hown'
      rw [List.take_length] at hrm
      have HO := Lib.hid hown'
      have HM := Lib.hid hmade
      have HRM := Lib.hid hrm
      have HRL := Lib.hid hrl
      clear hown hown' hr hmade hrm hrl
      go_wp2
      go_ret
      refine ⟨rs, HRM.out, HRL.out, fun x hx => (HM.out.1 x hx).2, rfl, ⟨?_, fun x hx => (HM.out.1 x hx).1.mono (by omega), fun x hx => ?_, HM.out.2⟩, hb⟩
      · have := HO.out
        rw [← HRL.out] at this ⊢
        exact this
      · rcases hx0 : x.sl.ownBlock with _ | k
        · exact .inl hx0
        · refine .inr fun e => ?_
          have := ((HM.out.1 x hx).1.lt k hx0).1
          rw [hx0] at e
          have e' : k = w.heap.size := by injection e
          omega
end Go.Proofs.YtblcgbgcccjpcaaGreat
namespace Go.Proofs.YtblcgbgcccjpcaaGreat
open Go.RowKit
set_option maxRecDepth 20000

set_option maxHeartbeats 1000000 in
theorem copyOk_any (c : M.Cp) (w : World) (hp : c.page.size ≤ maxLen) :
    Calls Tryz.prog 185 #[cpV c] w fun r w' => r = .returned (.bool (M.cpOk c)) ∧ Below w.heap.size w w' := by
  have b0 := (Below.refl w.heap.size w).alloc (Nat.le_refl _) (.cells (cpV c).cells 48)
  rcases h1 : M.edOk c.ed with _ | _
  · have HE : Hid (M.cpOk c = false) := Lib.hid (by simp [M.cpOk, h1])
    go_enter Tryz.func185, Tryz.ntmps185
    go_wp2_with fail
    refine (implEditionOk c.ed _).mono ?_
    rintro r w1 ⟨rfl, b1⟩
    go_wp2
    go_ret
    exact ⟨ret_bool HE.out.symm, next b0 b1⟩
  · have HE : Hid (M.cpOk c = M.pageOk c.page.data.toList) := Lib.hid (by simp [M.cpOk, h1])
    go_enter Tryz.func185, Tryz.ntmps185
    go_wp2_with fail
    refine (implEditionOk c.ed _).mono ?_
    rintro r w1 ⟨rfl, b1⟩
    obtain ⟨c1, f1⟩ := bcell b1
    go_wp2_with fail
    refine (implPageOk c.page _ hp).mono ?_
    rintro r w2 ⟨rfl, rfl⟩
    go_wp2
    go_ret
    exact ⟨ret_bool HE.out.symm, next b0 b1⟩

set_option maxHeartbeats 1000000 in
theorem olderCopy_any (c d : M.Cp) (w : World) :
    Calls Tryz.prog 187 #[cpV c, cpV d] w fun r w' => r = .returned (.bool (M.older c.ed d.ed)) ∧ Below w.heap.size w w' := by
  have b0 := ((Below.refl w.heap.size w).alloc (Nat.le_refl _) (.cells (cpV c).cells 48)).alloc (by simp) (.cells (cpV d).cells 48)
  go_enter Tryz.func187, Tryz.ntmps187
  go_wp2_with fail
  refine (implOlder c.ed d.ed _).mono ?_
  rintro r w1 ⟨rfl, b1⟩
  go_wp2
  go_ret
  exact ⟨rfl, next b0 b1⟩

/-- None of the first j is so. -/
def NoneTo (p : M.Cp → Bool) (l : List M.Cp) (j : Nat) : Prop := ∀ (i : Nat) (h : i < l.length), i < j → p l[i] = false
theorem NoneTo.zero (p : M.Cp → Bool) (l : List M.Cp) : NoneTo p l 0 := fun _ _ h => absurd h (by omega)
theorem NoneTo.next {p : M.Cp → Bool} {l : List M.Cp} {j : Nat} (h : NoneTo p l j) (hj : j < l.length) (hp : p l[j] = false) : NoneTo p l (j + 1) := fun i hi hij => by
  by_cases e : i = j
  · subst e; exact hp
  · exact h i hi (by omega)
theorem NoneTo.hit {p : M.Cp → Bool} {l : List M.Cp} {j : Nat} (h : NoneTo p l j) (hj : j < l.length) (hp : p l[j] = true) : l.findIdx p = j :=
  (List.findIdx_eq hj).2 ⟨hp, fun i hi => h i (by omega) hi⟩
theorem NoneTo.all {p : M.Cp → Bool} {l : List M.Cp} (h : NoneTo p l l.length) : l.findIdx p = l.length :=
  List.findIdx_eq_length.2 fun x hx => by
    obtain ⟨i, hi, rfl⟩ := List.mem_iff_getElem.1 hx
    simp [h i hi hi]

set_option maxHeartbeats 1000000 in
theorem first_all (p : M.Cp → Bool) (A : Option Addr) (l : List M.Cp) (cap : Nat) (g : Value) (w : World) (hl : Cps w A l) (hlen : l.length ≤ 1048576)
    (hcall : ∀ (c : M.Cp) (w' : World), c ∈ l → Below w.heap.size w w' → Calls Tryz.prog 207 #[cpV c, g] w' fun r w'' => r = .returned (.bool (p c)) ∧ Below w'.heap.size w' w'') :
    Calls Tryz.prog 206 #[.slice A l.length cap, .func (.func 207) #[] #[g]] w fun r w' => r = .returned (.int .i64 (l.findIdx p : Nat)) ∧ Below w.heap.size w w' := by
  have HC := Lib.hid hcall
  clear hcall
  go_enter Tryz.func206, Tryz.ntmps206
  go_wp2
  go_loopw [9] (fun i wr => ∃ j : Nat, i = .int .i64 j ∧ j ≤ l.length ∧ NoneTo p l j ∧ Below w.heap.size w wr) (fun i _ => l.length - (intOf i).toNat)
  case atStart => exact ⟨0, rfl, Nat.zero_le _, NoneTo.zero p l, Below.refl _ _⟩
  case round =>
    obtain ⟨j, rfl, hj, hnone, hbl⟩ := hrel
    by_cases hlt : j < l.length
    · obtain ⟨b, o, rfl, -, c0, c1, c2, c3, c4⟩ := Cps_at (hl.below hbl) hlt
      have HA := Lib.hid hl
      have HN := Lib.hid hnone
      have ba := hbl.alloc hbl.size (.cells (cpV l[j]).cells 48)
      clear hl hnone
      rcases hp : p l[j] with _ | _
      · have HP := Lib.hid hp
        go_wp2_with fail
        refine (HC.out l[j] _ (List.getElem_mem hlt) ba).mono ?_
        rintro r w1 ⟨rfl, b1⟩
        clear hp
        have hp := HP.out
        rw [hp]
        clear hp
        go_wp2
        go_roundw
        case rel => exact ⟨j + 1, by go_num, by omega, HN.out.next hlt HP.out, next ba b1⟩
        case measure => simp [intOf]; omega
      · have HP := Lib.hid hp
        go_wp2_with fail
        refine (HC.out l[j] _ (List.getElem_mem hlt) ba).mono ?_
        rintro r w1 ⟨rfl, b1⟩
        clear hp
        have hp := HP.out
        rw [hp]
        clear hp
        go_wp2
        go_ret
        exact ⟨ret_int (by rw [HN.out.hit hlt HP.out]), next ba b1⟩
    · have hj' : j = l.length := by omega
      subst hj'
      have HN := Lib.hid hnone
      clear hnone
      go_wp2
      go_ret
      exact ⟨ret_int (by rw [HN.out.all]), hbl⟩

set_option maxHeartbeats 1000000 in
theorem first_place (p : M.Cp → Bool) (A : Option Addr) (l : List M.Cp) (cap : Nat) (g : Value) (w : World) (hl : Cps w A l) (hlen : l.length ≤ 1048576)
    (hcall : ∀ (c : M.Cp) (w' : World), c ∈ l → Below w.heap.size w w' → Calls Tryz.prog 222 #[cpV c, g] w' fun r w'' => r = .returned (.bool (p c)) ∧ Below w'.heap.size w' w'') :
    Calls Tryz.prog 206 #[.slice A l.length cap, .func (.func 222) #[] #[g]] w fun r w' => r = .returned (.int .i64 (l.findIdx p : Nat)) ∧ Below w.heap.size w w' := by
  have HC := Lib.hid hcall
  clear hcall
  go_enter Tryz.func206, Tryz.ntmps206
  go_wp2
  go_loopw [9] (fun i wr => ∃ j : Nat, i = .int .i64 j ∧ j ≤ l.length ∧ NoneTo p l j ∧ Below w.heap.size w wr) (fun i _ => l.length - (intOf i).toNat)
  case atStart => exact ⟨0, rfl, Nat.zero_le _, NoneTo.zero p l, Below.refl _ _⟩
  case round =>
    obtain ⟨j, rfl, hj, hnone, hbl⟩ := hrel
    by_cases hlt : j < l.length
    · obtain ⟨b, o, rfl, -, c0, c1, c2, c3, c4⟩ := Cps_at (hl.below hbl) hlt
      have HA := Lib.hid hl
      have HN := Lib.hid hnone
      have ba := hbl.alloc hbl.size (.cells (cpV l[j]).cells 48)
      clear hl hnone
      rcases hp : p l[j] with _ | _
      · have HP := Lib.hid hp
        go_wp2_with fail
        refine (HC.out l[j] _ (List.getElem_mem hlt) ba).mono ?_
        rintro r w1 ⟨rfl, b1⟩
        clear hp
        have hp := HP.out
        rw [hp]
        clear hp
        go_wp2
        go_roundw
        case rel => exact ⟨j + 1, by go_num, by omega, HN.out.next hlt HP.out, next ba b1⟩
        case measure => simp [intOf]; omega
      · have HP := Lib.hid hp
        go_wp2_with fail
        refine (HC.out l[j] _ (List.getElem_mem hlt) ba).mono ?_
        rintro r w1 ⟨rfl, b1⟩
        clear hp
        have hp := HP.out
        rw [hp]
        clear hp
        go_wp2
        go_ret
        exact ⟨ret_int (by rw [HN.out.hit hlt HP.out]), next ba b1⟩
    · have hj' : j = l.length := by omega
      subst hj'
      have HN := Lib.hid hnone
      clear hnone
      go_wp2
      go_ret
      exact ⟨ret_int (by rw [HN.out.all]), hbl⟩

set_option maxHeartbeats 1000000 in
theorem all1_copyOk (c : M.Cp) (g : Nat) (w : World) (hp : c.page.size ≤ maxLen) (hg : w.cell? ⟨g, 0, none⟩ = some (.func (.func 185) #[] #[])) :
    Calls Tryz.prog 207 #[cpV c, .pointer (some ⟨g, 0, none⟩)] w fun r w' => r = .returned (.bool (!M.cpOk c)) ∧ Below w.heap.size w w' := by
  have b0 := (Below.refl w.heap.size w).alloc (Nat.le_refl _) (.cells (cpV c).cells 48)
  have hgl : g < w.heap.size := World.block_lt_of_cell? w _ hg
  go_enter Tryz.func207, Tryz.ntmps207
  go_wp2_with fail
  refine (copyOk_any c _ hp).mono ?_
  rintro r w1 ⟨rfl, b1⟩
  go_wp2
  go_ret
  exact ⟨rfl, next b0 b1⟩

theorem all_findIdx (l : List M.Cp) : ((l.findIdx (fun c => !M.cpOk c) : Int) == (l.length : Int)) = l.all M.cpOk := by
  rw [Bool.eq_iff_iff, beq_iff_eq, List.all_eq_true]
  constructor
  · intro h x hx
    have := List.findIdx_eq_length.1 (show l.findIdx (fun c => !M.cpOk c) = l.length by omega) x hx
    simpa using this
  · intro h
    have : l.findIdx (fun c => !M.cpOk c) = l.length := List.findIdx_eq_length.2 fun x hx => by simp [h x hx]
    omega

set_option maxHeartbeats 1000000 in
theorem all_copyOk (A : Option Addr) (l : List M.Cp) (cap : Nat) (w : World) (hl : Cps w A l) (hlen : l.length ≤ 1048576) (hp : ∀ c ∈ l, c.page.size ≤ maxLen) :
    Calls Tryz.prog 184 #[.slice A l.length cap, .func (.func 185) #[] #[]] w fun r w' => r = .returned (.bool (l.all M.cpOk)) ∧ Below w.heap.size w w' := by
  have b0 := (Below.refl w.heap.size w).alloc (Nat.le_refl _) (.cells #[.func (.func 185) #[] #[]] 170)
  have HB : Hid (((l.findIdx (fun c => !M.cpOk c) : Int) == (l.length : Int)) = l.all M.cpOk) := Lib.hid (all_findIdx l)
  have HP := Lib.hid hp
  have HL := Lib.hid hl
  clear hp hl
  go_enter Tryz.func184, Tryz.ntmps184
  go_wp2_with fail
  refine (first_all (fun c => !M.cpOk c) A l cap _ _ (HL.out.alloc _) hlen (fun c w' hc hb => all1_copyOk c _ w' (HP.out c hc) (box_cells hb 0))).mono ?_
  rintro r w1 ⟨rfl, b1⟩
  go_wp2
  go_ret
  exact ⟨ret_bool HB.out, next b0 b1⟩

/-- Each of the first j is older than the next. -/
def RisesTo (l : List M.Cp) (j : Nat) : Prop := ∀ (i : Nat) (h : i + 1 < l.length), i + 1 < j → M.older l[i].ed l[i + 1].ed = true
theorem RisesTo.one (l : List M.Cp) : RisesTo l 1 := fun _ _ h => absurd h (by omega)
theorem RisesTo.next {l : List M.Cp} {k : Nat} (h : RisesTo l (k + 1)) (hk : k + 1 < l.length) (ho : M.older l[k].ed l[k + 1].ed = true) : RisesTo l (k + 2) := fun i hi hij => by
  by_cases e : i = k
  · subst e; exact ho
  · exact h i hi (by omega)
theorem RisesTo.all {l : List M.Cp} {j : Nat} (h : RisesTo l j) (hj : l.length ≤ j) : M.risesB l = true := (M.risesB_iff l).2 fun i hi => h i hi (by omega)
theorem rises_not {l : List M.Cp} {k : Nat} (hk : k + 1 < l.length) (ho : M.older l[k].ed l[k + 1].ed = false) : M.risesB l = false := by
  rcases hc : M.risesB l with _ | _
  · rfl
  · have := (M.risesB_iff l).1 hc k hk; rw [ho] at this; cases this

set_option maxHeartbeats 1000000 in
theorem rises_older (A : Option Addr) (l : List M.Cp) (cap : Nat) (w : World) (hl : Cps w A l) (hlen : l.length ≤ 1048576) :
    Calls Tryz.prog 186 #[.slice A l.length cap, .func (.func 187) #[] #[]] w fun r w' => r = .returned (.bool (M.risesB l)) ∧ Below w.heap.size w w' := by
  go_enter Tryz.func186, Tryz.ntmps186
  go_wp2
  go_loopw [5] (fun i wr => ∃ j : Nat, i = .int .i64 j ∧ 1 ≤ j ∧ j ≤ l.length + 1 ∧ RisesTo l j ∧ Below w.heap.size w wr) (fun i _ => l.length + 1 - (intOf i).toNat)
  case atStart => exact ⟨1, rfl, by omega, by omega, RisesTo.one l, Below.refl _ _⟩
  case round =>
    obtain ⟨j, rfl, hj1, hj, hr, hbl⟩ := hrel
    by_cases hlt : j < l.length
    · obtain ⟨k, hk⟩ : ∃ k, j = k + 1 := ⟨j - 1, by omega⟩
      have hkl : k < l.length := by omega
      obtain ⟨b, o, rfl, -, c0, c1, c2, c3, c4⟩ := Cps_at (hl.below hbl) hlt
      obtain ⟨b', o', hbo, -, d0, d1, d2, d3, d4⟩ := Cps_at (hl.below hbl) hkl
      obtain ⟨rfl, rfl⟩ : b = b' ∧ o = o' := by simpa using hbo
      have e1 : IntKind.i64.wrap ((j : Int) - 1) = (j : Int) - 1 := IntWalk.i64_in _ (by omega)
      have e2 : ((j : Int) - 1).toNat = k := by omega
      have e3 : (1 : Int) ≤ (j : Int) := by omega
      have e5 : ¬ ((l.length : Int) ≤ (j : Int) - 1) := by omega
      rcases ho : M.older l[k].ed l[j].ed with _ | _
      · have HE : Hid (M.risesB l = false) := Lib.hid (by subst hk; exact rises_not hlt ho)
        have HA := Lib.hid hl
        have HK := Lib.hid hk
        have HO := Lib.hid ho
        clear hl hbo hk hr ho
        go_wp2_with fail
        go_still_tail 10, (by kernel_rfl)
        change wpList _ _ _ _ _ wr.drew
        go_wp2_with fail
        refine (olderCopy_any l[k] l[j] _).mono ?_
        rintro r w1 ⟨rfl, b1⟩
        rw [HO.out]
        go_wp2
        go_ret
        exact ⟨ret_bool HE.out.symm, next hbl.drew b1⟩
      · have HN : Hid (RisesTo l (j + 1)) := Lib.hid (by subst hk; exact hr.next hlt ho)
        have HA := Lib.hid hl
        have HK := Lib.hid hk
        have HO := Lib.hid ho
        clear hl hbo hk hr ho
        go_wp2_with fail
        go_still_tail 10, (by kernel_rfl)
        change wpList _ _ _ _ _ wr.drew
        go_wp2_with fail
        refine (olderCopy_any l[k] l[j] _).mono ?_
        rintro r w1 ⟨rfl, b1⟩
        rw [HO.out]
        clear e1 e2 e3 e5
        go_wp2
        go_roundw
        case rel => exact ⟨j + 1, by go_num, by omega, by omega, HN.out, next hbl.drew b1⟩
        case measure => simp [intOf]; omega
    · have HE : Hid (M.risesB l = true) := Lib.hid (hr.all (by omega))
      clear hr
      go_wp2
      go_ret
      exact ⟨ret_bool HE.out.symm, hbl⟩

set_option maxHeartbeats 1000000 in
theorem copiesOk_any (A : Option Addr) (l : List M.Cp) (cap : Nat) (w : World) (hl : Cps w A l) (hlen : l.length ≤ 1048576) (hp : ∀ c ∈ l, c.page.size ≤ maxLen) :
    Calls Tryz.prog 156 #[.slice A l.length cap] w fun r w' => r = .returned (.bool (decide (l.length ≤ 8) && M.cpsOk l)) ∧ Below w.heap.size w w' := by
  have HP := Lib.hid hp
  clear hp
  by_cases h8 : l.length ≤ 8
  · rcases ha : l.all M.cpOk with _ | _
    · have HE : Hid ((decide (l.length ≤ 8) && M.cpsOk l) = false) := Lib.hid (by simp only [M.cpsOk, ha]; simp)
      have HA := Lib.hid ha
      clear ha
      go_enter Tryz.func156, Tryz.ntmps156
      go_wp2_with fail
      refine (all_copyOk A l cap _ hl hlen HP.out).mono ?_
      rintro r w1 ⟨rfl, b1⟩
      rw [HA.out]
      go_wp2
      go_ret
      exact ⟨ret_bool HE.out.symm, b1⟩
    · have HE : Hid ((decide (l.length ≤ 8) && M.cpsOk l) = M.risesB l) := Lib.hid (by simp only [M.cpsOk, ha]; simp [h8])
      have HA := Lib.hid ha
      clear ha
      go_enter Tryz.func156, Tryz.ntmps156
      go_wp2_with fail
      refine (all_copyOk A l cap _ hl hlen HP.out).mono ?_
      rintro r w1 ⟨rfl, b1⟩
      rw [HA.out]
      go_wp2_with fail
      refine (rises_older A l cap _ (hl.below b1) hlen).mono ?_
      rintro r w2 ⟨rfl, b2⟩
      go_wp2
      go_ret
      exact ⟨ret_bool HE.out.symm, next b1 b2⟩
  · go_enter Tryz.func156, Tryz.ntmps156
    go_wp2
    go_ret
    exact ⟨ret_bool (by simp), Below.refl _ _⟩

set_option maxHeartbeats 1000000 in
theorem implWorkOk (name : ByteArray) (owner : Int) (A : Option Addr) (l : List M.Cp) (cap : Nat) (w : World) (hl : Cps w A l) (hn : name.size ≤ maxLen) (hlen : l.length ≤ 1048576) (hp : ∀ c ∈ l, c.page.size ≤ maxLen) :
    Calls Tryz.prog 113 #[wkV name owner A l.length cap] w fun r w' => r = .returned (.bool (M.wkOk ⟨name, owner, l⟩)) ∧ Below w.heap.size w w' := by
  have b0 := (Below.refl w.heap.size w).alloc (Nat.le_refl _) (.cells (wkL name owner A l.length cap) 44)
  have HP := Lib.hid hp
  have HL := Lib.hid hl
  clear hp hl
  rcases h1 : M.nameOk name.data.toList with _ | _
  · have HE : Hid (M.wkOk ⟨name, owner, l⟩ = false) := Lib.hid (by simp [M.wkOk, h1])
    go_enter Tryz.func113, Tryz.ntmps113
    go_wp2_with fail
    refine (implNameOk name _ hn).mono ?_
    rintro r w1 ⟨rfl, rfl⟩
    go_wp2
    go_ret
    exact ⟨ret_bool HE.out.symm, b0⟩
  · rcases h2 : M.inI owner 0 3 with _ | _
    · have HE : Hid (M.wkOk ⟨name, owner, l⟩ = false) := Lib.hid (by simp [M.wkOk, h2])
      go_enter Tryz.func113, Tryz.ntmps113
      go_wp2_with fail
      refine (implNameOk name _ hn).mono ?_
      rintro r w1 ⟨rfl, rfl⟩
      go_wp2_with fail
      refine (whoOk_any owner _).mono ?_
      rintro r w1 ⟨rfl, rfl⟩
      go_wp2
      go_ret
      exact ⟨ret_bool HE.out.symm, b0⟩
    · have HE : Hid (M.wkOk ⟨name, owner, l⟩ = (decide (l.length ≤ 8) && M.cpsOk l)) := Lib.hid (by simp [M.wkOk, h1, h2])
      go_enter Tryz.func113, Tryz.ntmps113
      go_wp2_with fail
      refine (implNameOk name _ hn).mono ?_
      rintro r w1 ⟨rfl, rfl⟩
      go_wp2_with fail
      refine (whoOk_any owner _).mono ?_
      rintro r w1 ⟨rfl, rfl⟩
      go_wp2_with fail
      refine (copiesOk_any A l cap _ (HL.out.alloc _) hlen HP.out).mono ?_
      rintro r w1 ⟨rfl, b1⟩
      go_wp2
      go_ret
      exact ⟨ret_bool HE.out.symm, next b0 b1⟩
end Go.Proofs.YtblcgbgcccjpcaaGreat
