/- Proved, in parts: Proved: the functions on deeds that tell whether one is right, of the program and of its model, answer one plain Lean function at every deed; they write nothing that was there. Condition: texts of at most maxLen bytes. Proved: the laws' helpers that make a work of the program's own types out of the laws' answer the same work, in new memory; they write nothing that was there. Proved: facts on a list of copies that lies in memory of one's own; no program's function is named here; no condition. -/
import Derived.Test.YtdoeiphnalbinaaGreatPart06
import Derived.Test.YtdoeiphnalbinaaGreatPart04
import Derived.Test.YtdoeiphnalbinaaGreatPart02
import Derived.Test.YtdoeiphnalbinaaGreatPart01
import Derived.Test.YtdoeiphnalbinaaGreatPart05
import Derived.OwnWalk
import Derived.Deep.Onto
namespace Go.Proofs.YtdoeiphnalbinaaGreat
open Go.RowKit
set_option maxRecDepth 20000

abbrev ddC (d : M.Dd) : Array Value := #[.int .i64 d.kind, .string d.name, .int .i64 d.ed.ma, .int .i64 d.ed.mi, .int .i64 d.ed.pa, .string d.page, .int .i64 d.who]
abbrev ddV (d : M.Dd) : Value := .agg #[.int .i64 d.kind, .string d.name, .int .i64 d.ed.ma, .int .i64 d.ed.mi, .int .i64 d.ed.pa, .string d.page, .int .i64 d.who]
theorem far {w w1 : World} {B g : Nat} (h : Below B w w1) (hg : B ≤ g) (j : Nat) (v : Value) : Below B w (w1.setCell ⟨g, j, none⟩ v) := h.setCell hg v

theorem toEdition_at (e : M.Ed) (w : World) :
    Calls Tryz.prog 106 #[edV e] w fun r w' => r = .returned (edV e) ∧ w' = ((w.alloc (.cells #[.int .i64 e.ma, .int .i64 e.mi, .int .i64 e.pa] 61)).alloc (.cells #[.int .i64 e.ma, .int .i64 e.mi, .int .i64 e.pa] 47)).alloc (.cells #[.int .i64 e.ma, .int .i64 e.mi, .int .i64 e.pa] 47) := by
  go_enter Tryz.func106, Tryz.ntmps106
  go_wp2
  exact bodyPost_ret (v := edV e) (by simp [results, Tryz.results106, go_sem]) rfl ⟨rfl, rfl⟩

theorem l3Who_any (n : Int) (w : World) : Calls Tryz.prog 105 #[.int .i64 n] w fun e w' => e = .returned (.bool (M.inI n 0 3)) ∧ w = w' := by
  go_enter Tryz.func105, Tryz.ntmps105
  go_wp2_with fail
  refine (in_i _ _ _ _).mono ?_
  rintro e w' ⟨rfl, rfl⟩
  go_wp2
  go_ret
  exact ⟨rfl, rfl⟩
theorem whoOk_any (n : Int) (w : World) : Calls Tryz.prog 93 #[.int .i64 n] w fun e w' => e = .returned (.bool (M.inI n 0 3)) ∧ w = w' := by
  by_cases h1 : 0 ≤ n
  · go_enter Tryz.func93, Tryz.ntmps93
    go_wp2
    go_ret
    exact ⟨by simp [M.inI, h1], rfl⟩
  · go_enter Tryz.func93, Tryz.ntmps93
    go_wp2
    go_ret
    exact ⟨by simp [M.inI]; omega, rfl⟩

theorem no_text {s : ByteArray} (h : s.size = 0) : (s.toList == []) = true ∧ (s.toList != []) = false := by
  have e : s.toList = [] := by rw [ByteArray.toList_eq]; exact List.eq_nil_of_length_eq_zero (by simpa using h)
  rw [e]; exact ⟨rfl, rfl⟩
theorem some_text {s : ByteArray} (h : s.size ≠ 0) : (s.toList == []) = false ∧ (s.toList != []) = true := by
  have e : s.toList ≠ [] := by rw [ByteArray.toList_eq]; intro e; exact h (by have := congrArg List.length e; simpa using this)
  exact ⟨by simpa using e, by simpa using e⟩

set_option maxHeartbeats 1000000 in
theorem specDeedOk (d : M.Dd) (w : World) (hn : d.name.size ≤ maxLen) (hp : d.page.size ≤ maxLen) :
    Calls Tryz.prog 101 #[ddV d] w fun r w' => r = .returned (.bool (M.deedOk d)) ∧ Below w.heap.size w w' := by
  have b0 : Below w.heap.size w (w.alloc (.cells (ddC d) 49)) := (Below.refl _ _).alloc (Nat.le_refl _) _
  have h0 := holds_new w (ddC d) 49
  rcases h1 : M.nameOk d.name.data.toList with _ | _
  · have HE : Hid (M.deedOk d = false) := Lib.hid (by simp [M.deedOk, h1])
    clear h0
    go_enter Tryz.func101, Tryz.ntmps101
    go_wp2_with fail
    refine (specNameOk d.name _ hn).mono ?_
    rintro r w1 ⟨rfl, rfl⟩
    go_wp2
    go_ret
    exact ⟨ret_bool HE.out.symm, b0⟩
  · rcases h2 : M.edOk d.ed with _ | _
    · have HE : Hid (M.deedOk d = false) := Lib.hid (by simp [M.deedOk, h2])
      clear h0
      go_enter Tryz.func101, Tryz.ntmps101
      go_wp2_with fail
      refine (specNameOk d.name _ hn).mono ?_
      rintro r w1 ⟨rfl, rfl⟩
      go_wp2_with fail
      refine (specEditionOk d.ed _).mono ?_
      rintro r w1 ⟨rfl, b1⟩
      go_wp2
      go_ret
      exact ⟨ret_bool HE.out.symm, next b0 b1⟩
    · go_enter Tryz.func101, Tryz.ntmps101
      go_wp2_with fail
      refine (specNameOk d.name _ hn).mono ?_
      rintro r w1 ⟨rfl, rfl⟩
      go_wp2_with fail
      refine (specEditionOk d.ed _).mono ?_
      rintro r w1 ⟨rfl, b1⟩
      replace h0 := h0.below b1
      obtain ⟨p0, p1, p2, p3, p4, p5, p6⟩ := h0.seven
      have bb := next b0 b1
      clear b0 b1 h0
      rcases h3 : M.pageOk d.page.data.toList with _ | _
      · have HE : Hid (M.deedOk d = false) := Lib.hid (by simp [M.deedOk, h3])
        go_wp2_with fail
        refine (specPageOk d.page _ hp).mono ?_
        rintro r w2 ⟨rfl, rfl⟩
        go_wp2
        go_ret
        exact ⟨ret_bool HE.out.symm, bb⟩
      · rcases h4 : M.inI d.who 0 3 with _ | _
        · have HE : Hid (M.deedOk d = false) := Lib.hid (by simp [M.deedOk, h4])
          go_wp2_with fail
          refine (specPageOk d.page _ hp).mono ?_
          rintro r w2 ⟨rfl, rfl⟩
          go_wp2_with fail
          refine (l3Who_any d.who _).mono ?_
          rintro r w2 ⟨rfl, rfl⟩
          go_wp2
          go_ret
          exact ⟨ret_bool HE.out.symm, bb⟩
        · go_wp2_with fail
          refine (specPageOk d.page _ hp).mono ?_
          rintro r w2 ⟨rfl, rfl⟩
          go_wp2_with fail
          refine (l3Who_any d.who _).mono ?_
          rintro r w2 ⟨rfl, rfl⟩
          by_cases k2 : d.kind = 2
          · have HE : Hid (M.deedOk d = M.inI d.kind 2 4) := Lib.hid (by simp [M.deedOk, h1, h2, h3, h4, k2])
            have k2' : (d.kind != 2) = false := by simpa using k2
            have k1' : (d.kind == 1) = false := by simp [k2]
            have k5' : (d.kind == 5) = false := by simp [k2]
            have k6' : (d.kind == 6) = false := by simp [k2]
            clear k2
            go_wp2_with fail
            refine (in_i _ _ _ _).mono ?_
            rintro e w' ⟨rfl, rfl⟩
            go_wp2
            go_ret
            exact ⟨ret_bool HE.out.symm, bb⟩
          · have k2' : (d.kind != 2) = true := by simpa using k2
            by_cases hz : d.page.size = 0
            · have hz' := no_text hz
              by_cases k1 : d.kind = 1
              · have HE : Hid (M.deedOk d = decide (d.ed = M.zeroEd)) := Lib.hid (by simp [M.deedOk, h1, h2, h3, h4, k1, hz])
                have k1' : (d.kind == 1) = true := by simp [k1]
                clear k1 k2 hz
                go_wp2
                all_goals
                  go_ret
                  exact ⟨ret_bool (by rw [HE.out]; simp [M.ed_ext, M.zeroEd, *]), bb⟩
              · have k1' : (d.kind == 1) = false := by simpa using k1
                by_cases k5 : d.kind = 5
                · have HE : Hid (M.deedOk d = decide (d.who = 0)) := Lib.hid (by simp [M.deedOk, h1, h2, h3, h4, k5, hz])
                  have k5' : (d.kind == 5) = true := by simp [k5]
                  clear k1 k2 k5 hz
                  go_wp2
                  go_ret
                  exact ⟨ret_bool (by rw [HE.out]; rfl), bb⟩
                · have k5' : (d.kind == 5) = false := by simpa using k5
                  by_cases k6 : d.kind = 6
                  · have HE : Hid (M.deedOk d = (decide (d.ed.mi = 0) && decide (d.ed.pa = 0))) := Lib.hid (by simp [M.deedOk, h1, h2, h3, h4, k6, hz])
                    have k6' : (d.kind == 6) = true := by simp [k6]
                    clear k1 k2 k5 k6 hz
                    go_wp2
                    all_goals
                      go_ret
                      exact ⟨ret_bool (by rw [HE.out]; simp [*] <;> rfl), bb⟩
                  · have HE : Hid (M.deedOk d = M.inI d.kind 2 4) := Lib.hid (by simp [M.deedOk, h1, h2, h3, h4, k1, k5, k6, hz])
                    have k6' : (d.kind == 6) = false := by simpa using k6
                    clear k1 k2 k5 k6 hz
                    go_wp2_with fail
                    refine (in_i _ _ _ _).mono ?_
                    rintro e w' ⟨rfl, rfl⟩
                    go_wp2
                    go_ret
                    exact ⟨ret_bool HE.out.symm, bb⟩
            · have HE : Hid (M.deedOk d = false) := Lib.hid (by simp [M.deedOk, k2, hz])
              have hz' := some_text hz
              clear k2 hz
              go_wp2
              go_ret
              exact ⟨ret_bool HE.out.symm, bb⟩
end Go.Proofs.YtdoeiphnalbinaaGreat
namespace Go.Proofs.YtdoeiphnalbinaaGreat
open Go.RowKit

theorem Own.below {w w' : World} {base e k n : Nat} {v : Value} {xs : List Value} (h : w.ownsRow base e k v n xs) (hb : Below w.heap.size w w') : w'.ownsRow base e k v n xs := by
  obtain ⟨hl, h | ⟨g, cap, cur, hv, h1, hh, h2⟩⟩ := h
  · exact ⟨hl, .inl h⟩
  · exact ⟨hl, .inr ⟨g, cap, cur, hv, h1, (hb.block g (Array.getElem?_eq_some_iff.1 hh).1).trans hh, h2⟩⟩

theorem infoCp : (Tryz.prog.info? 142).map (fun i => (i.zero, i.size, i.bytes)) = some (some (.agg #[.int .i64 0, .int .i64 0, .int .i64 0, .string ⟨#[]⟩, .bool false]), 5, 48) := by kernel_rfl

set_option maxHeartbeats 1000000 in
theorem toCopy_any (c : M.Cp) (w : World) :
    Calls Tryz.prog 107 #[cpV c] w fun r w' => r = .returned (cpV c) ∧ Below w.heap.size w w' := by
  go_enter Tryz.func107, Tryz.ntmps107
  go_wp2_with fail
  refine (toEdition_at c.ed _).mono ?_
  rintro r w1 ⟨rfl, rfl⟩
  go_wp2
  refine bodyPost_ret (v := cpV c) (by simp [results, Tryz.results107, go_sem]) rfl ⟨rfl, ?_⟩
  repeat (first | exact Below.refl _ _ | refine Below.alloc ?_ (by simp <;> omega) _)

theorem set5 (xs ys : List Value) (a b c d e f0 f1 f2 f3 f4 : Value) (n : Nat) (hn : n = xs.length) :
    (((((xs ++ a :: b :: c :: d :: e :: ys).set n f0).set (n + 1) f1).set (n + 2) f2).set (n + 3) f3).set (n + 4) f4 = xs ++ f0 :: f1 :: f2 :: f3 :: f4 :: ys := by
  subst hn; simp
theorem five_of {l : List Value} {n : Nat} (h : l.length = (n + 1) * 5) : ∃ a b c d e r, l = a :: b :: c :: d :: e :: r ∧ r.length = n * 5 := by
  match l, h with
  | a :: b :: c :: d :: e :: r, h => exact ⟨a, b, c, d, e, r, rfl, by simp at h; omega⟩
  | [], h => simp at h
  | [_], h => simp at h; omega
  | [_, _], h => simp at h; omega
  | [_, _, _], h => simp at h; omega
  | [_, _, _, _], h => simp at h; omega

/-- Five stores into a row. -/
theorem own_put5 {w : World} {base e g n cap j : Nat} {xs ys : List Value} {f0 f1 f2 f3 f4 : Value} {a b c d r : Value} (h : w.ownsRow base e 5 (.slice (some ⟨g, 0, none⟩) n cap) n (xs ++ a :: b :: c :: d :: r :: ys)) (hj : j = xs.length) :
    (((((w.setCell ⟨g, j, none⟩ f0).setCell ⟨g, j + 1, none⟩ f1).setCell ⟨g, j + 2, none⟩ f2).setCell ⟨g, j + 3, none⟩ f3).setCell ⟨g, j + 4, none⟩ f4).ownsRow base e 5 (.slice (some ⟨g, 0, none⟩) n cap) n (xs ++ f0 :: f1 :: f2 :: f3 :: f4 :: ys) := by
  have := ((((h.stored j f0).1.stored (j + 1) f1).1.stored (j + 2) f2).1.stored (j + 3) f3).1.stored (j + 4) f4
  rw [set5 xs ys a b c d r f0 f1 f2 f3 f4 j hj] at this
  exact this.1
theorem own_cells5 {w : World} {base e g n cap j : Nat} {xs ys : List Value} {a b c d r : Value} (h : w.ownsRow base e 5 (.slice (some ⟨g, 0, none⟩) n cap) n (xs ++ a :: b :: c :: d :: r :: ys)) (hj : j = xs.length) :
    (w.cell? ⟨g, j, none⟩ = some a ∧ w.cell? ⟨g, j + 1, none⟩ = some b ∧ w.cell? ⟨g, j + 2, none⟩ = some c ∧ w.cell? ⟨g, j + 3, none⟩ = some d ∧ w.cell? ⟨g, j + 4, none⟩ = some r) ∧
    (w.frozen? ⟨g, j, none⟩ = false ∧ w.frozen? ⟨g, j + 1, none⟩ = false ∧ w.frozen? ⟨g, j + 2, none⟩ = false ∧ w.frozen? ⟨g, j + 3, none⟩ = false ∧ w.frozen? ⟨g, j + 4, none⟩ = false) := by
  have hl := h.1
  simp at hl
  subst hj
  refine ⟨⟨?_, ?_, ?_, ?_, ?_⟩, h.frozenAt _, h.frozenAt _, h.frozenAt _, h.frozenAt _, h.frozenAt _⟩ <;> (rw [h.cellAt _ (by omega)]; simp)

set_option maxHeartbeats 1000000 in
theorem toCopyS_any (A : Option Addr) (l : List M.Cp) (cap : Nat) (w : World) (hl : Cps w A l) (hlen : l.length ≤ 1048576) :
    Calls Tryz.prog 87 #[.slice A l.length cap] w fun r w' => r = .returned (.slice (some ⟨w.heap.size, 0, none⟩) l.length l.length) ∧ w'.ownsRow w.heap.size 142 5 (.slice (some ⟨w.heap.size, 0, none⟩) l.length l.length) l.length (cellsOf cpL l) ∧ Below w.heap.size w w' := by
  obtain ⟨i0, hi, hz0, hz1, hz2⟩ := info_parts infoCp
  go_enter Tryz.func87, Tryz.ntmps87
  go_wp2_with (refine wpList_make_full _ rfl _ _ 104 rfl w.heap.size 142 i0 _ 5 Tryz.underlying104 hi hz0 hz1 .i64 .i64 _ _ l.length rfl rfl rfl rfl (by rw [hz2]; omega) (by unfold maxLen; omega) (Nat.le_refl _) ?_; intro w1 hown hgrow)
  have b1 : Below w.heap.size w w1 := (Below.refl _ _).grown hgrow (Nat.le_refl _) (fun k hk => by cases hk)
  go_loopw [4] (fun i wr => ∃ (j : Nat) (rest : List Value), i = .int .i64 j ∧ j ≤ l.length ∧ rest.length = (l.length - j) * 5 ∧ wr.ownsRow w.heap.size 142 5 (.slice (some ⟨w.heap.size, 0, none⟩) l.length l.length) l.length (cellsOf cpL (l.take j) ++ rest) ∧ Below w.heap.size w wr) (fun i _ => l.length - (intOf i).toNat)
  case atStart => exact ⟨0, _, rfl, Nat.zero_le _, hown.1, hown, b1⟩
  case round =>
    obtain ⟨j, rest, rfl, hj, hr, hown', hb⟩ := hrel
    by_cases hlt : j < l.length
    · obtain ⟨e0, e1, e2, e3, e4, rs, rfl, hrs⟩ := five_of (n := l.length - j - 1) (l := rest) (by rw [hr]; omega)
      have hz : j * 5 = (cellsOf cpL (l.take j)).length := by rw [cellsOf_len cpL_len, List.length_take, Nat.min_eq_left (by omega)]
      obtain ⟨b, o, rfl, hbl, c0, c1, c2, c3, c4⟩ := Cps_at (hl.below hb) hlt
      have HO := Lib.hid hown'
      have HL := Lib.hid hl
      have HZ := Lib.hid hz
      have HR := Lib.hid hrs
      clear hown hown' hl hz hrs hr
      go_wp2_with fail
      refine (toCopy_any l[j] _).mono ?_
      rintro r w2 ⟨rfl, b2⟩
      have ho2 := Own.below HO.out b2
      obtain ⟨⟨k0, k1, k2, k3, k4⟩, f0, f1, f2, f3, f4⟩ := own_cells5 ho2 HZ.out
      have HO2 := Lib.hid ho2
      clear ho2
      go_wp2
      go_roundw
      case rel =>
        refine ⟨j + 1, rs, by go_num, by omega, by rw [HR.out]; omega, ?_, ?_⟩
        · rw [List.take_succ_eq_append_getElem hlt, cellsOf_append, List.append_assoc]
          exact own_put5 HO2.out HZ.out
        · exact ((((((next hb b2).setCell (Nat.le_refl _) _).setCell (Nat.le_refl _) _).setCell (Nat.le_refl _) _).setCell (Nat.le_refl _) _).setCell (Nat.le_refl _) _)
      case measure => simp [intOf]; omega
    · have hj' : j = l.length := by omega
      subst hj'
      have hr0 : rest = [] := List.length_eq_zero_iff.1 (by rw [hr]; omega)
      subst hr0
      rw [List.take_length, List.append_nil] at hown'
      have HO := Lib.hid hown'
      clear hown hown' hr
      go_wp2
      go_ret
      exact ⟨rfl, HO.out, hb⟩

set_option maxHeartbeats 1000000 in
theorem toWork_any (name : ByteArray) (owner : Int) (A : Option Addr) (l : List M.Cp) (cap : Nat) (w : World) (hl : Cps w A l) (hlen : l.length ≤ 1048576) :
    Calls Tryz.prog 62 #[wkV name owner A l.length cap] w fun r w' => ∃ g, r = .returned (wkV name owner (some ⟨g, 0, none⟩) l.length l.length) ∧ w'.ownsRow w.heap.size 142 5 (.slice (some ⟨g, 0, none⟩) l.length l.length) l.length (cellsOf cpL l) ∧ Below w.heap.size w w' := by
  have b0 := (((Below.refl w.heap.size w).alloc (Nat.le_refl _) (.cells (wkL name owner A l.length cap) 98)).alloc (by simp) (.cells (wkL ⟨#[]⟩ 0 none 0 0) 106)).alloc (by simp; omega) (.cells (wkL name owner none 0 0) 106)
  go_enter Tryz.func62, Tryz.ntmps62
  go_wp2_with fail
  refine (toCopyS_any A l cap _ (((hl.alloc _).alloc _).alloc _) hlen).mono ?_
  rintro r w1 ⟨rfl, ho, b1⟩
  obtain ⟨c1, f1⟩ := bcell b1
  have HO := Lib.hid ho
  clear ho
  go_wp2
  have ho := HO.out
  simp only [World.size_alloc] at ho
  refine bodyPost_ret (v := wkV name owner (some ⟨w.heap.size + 1 + 1 + 1, 0, none⟩) l.length l.length) (by simp [results, Tryz.results62, go_sem, c1]) rfl ⟨_, rfl, ?_, ?_⟩
  · exact (ownsRow_setCell_below (ownsRow_setCell_below (ownsRow_setCell_below (ownsRow_setCell_below ho (by simp) _) (by simp) _) (by simp) _) (by simp) _).mono (by omega)
  · exact ((((next b0 b1).setCell (by simp; omega) _).setCell (by simp) _).setCell (by simp) _).setCell (by simp) _
end Go.Proofs.YtdoeiphnalbinaaGreat
namespace Go.Proofs.YtdoeiphnalbinaaGreat
open Go.RowKit

/-- v is a list of the copies l, in memory of one's own from block B on. -/
def CpOwn (B : Nat) (w : World) (v : Value) (l : List M.Cp) : Prop := w.ownsRow B 142 5 v l.length (cellsOf cpL l)
theorem CpOwn.below {B : Nat} {w w' : World} {v : Value} {l : List M.Cp} (h : CpOwn B w v l) (hb : Below w.heap.size w w') : CpOwn B w' v l := Own.below h hb
theorem CpOwn.nil (B : Nat) (w : World) : CpOwn B w (.slice none 0 0) [] := World.ownsRow_nil _ _ _ _
theorem CpOwn.open {B : Nat} {w : World} {v : Value} {l : List M.Cp} (h : CpOwn B w v l) : ∃ A c, v = .slice A l.length c ∧ Cps w A l ∧ (A = none → c = 0) := by
  obtain ⟨hl, ⟨rfl, h0⟩ | ⟨g, cap, cur, rfl, hr⟩⟩ := h
  · have : l = [] := List.length_eq_zero_iff.1 h0
    subst this
    exact ⟨none, 0, rfl, .inl rfl, fun _ => rfl⟩
  · obtain ⟨A, c, hv, _, hf⟩ := own_flat (l := l) cpL_len (show w.ownsRow B 142 5 (.slice (some ⟨g, 0, none⟩) l.length cap) l.length (cellsOf cpL l) from ⟨hl, .inr ⟨g, cap, cur, rfl, hr⟩⟩)
    injection hv with hA _ hc
    subst hA hc
    exact ⟨_, _, rfl, hf, fun h => by cases h⟩
theorem CpOwn.off {B : Nat} {w : World} {v : Value} {l : List M.Cp} (h : CpOwn B w v l) {a : Addr} (ha : a.block < B) (u : Value) : CpOwn B (w.setCell a u) v l := ownsRow_setCell_below h ha u
theorem CpOwn.mono {B B' : Nat} {w : World} {v : Value} {l : List M.Cp} (h : CpOwn B w v l) (hb : B' ≤ B) : CpOwn B' w v l := World.ownsRow.mono h hb
theorem CpOwn.cps {B : Nat} {w : World} {A : Option Addr} {n c : Nat} {l : List M.Cp} (h : CpOwn B w (.slice A n c) l) : Cps w A l ∧ n = l.length := by
  obtain ⟨A', c', hv, hf, _⟩ := h.open
  injection hv with hA hn _
  subst hA
  exact ⟨hf, hn⟩
theorem own_differ {u v : Value} {B : Nat} (hu : ∀ k, u.ownBlock = some k → k < B) (hv : ∀ k, v.ownBlock = some k → B ≤ k) : u.ownBlock = none ∨ u.ownBlock ≠ v.ownBlock := by
  rcases h : u.ownBlock with _ | k
  · exact .inl rfl
  · refine .inr fun e => ?_
    have h1 := hu k h
    have h2 := hv k e.symm
    omega
end Go.Proofs.YtdoeiphnalbinaaGreat
