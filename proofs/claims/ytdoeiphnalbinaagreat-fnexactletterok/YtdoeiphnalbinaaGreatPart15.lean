/- Proved, in parts: Proved: the laws' helpers on lists of records of the type Entry (their size, their copy, their likeness) answer plain Lean functions; they write nothing that was there. Condition: lists of at most a million. Proved: how a roll stands in memory, and what is asked of one, as plain Lean functions; no program is named here; no condition. Proved: plain facts on sets of scribes as numbers, how many are more than half, and what the machine's shifts and ors of such numbers give; no program is named here; no condition. Proved: the model's CountOk, MostOf, InSet, With, SizeOf answer plain Lean functions at every number, and leave the world as it is; no condition. Proved: plain facts on what more than half have reached: one number alone is reached, and a falling list shows it at its middle; how an insertion keeps its order. No program is named here; no condition. Proved: append of a slice of records onto a row of the call's own, the source nil, empty or not; cuts of such a row; no program's function is named here. Condition: the bytes fit. -/
import Derived.Test.YtdoeiphnalbinaaGreatPart14
import Derived.Test.YtdoeiphnalbinaaGreatPart09
import Derived.Test.YtdoeiphnalbinaaGreatPart01
import Derived.IntWalk
import Derived.Test.YtdoeiphnalbinaaGreatPart05
import Derived.ScopeJumps
import Derived.Scope
import Derived.WalkMore
import Derived.Test.YtdoeiphnalbinaaGreatPart07
import Derived.OwnWalk
namespace Go.Proofs.YtdoeiphnalbinaaGreat
open Go.RowKit
set_option maxRecDepth 20000
abbrev Ens (w : World) (A : Option Addr) (l : List M.En) : Prop := Flat enL 10 w A l
theorem Ens_at {w : World} {A : Option Addr} {l : List M.En} {i : Nat} (h : Ens w A l) (hi : i < l.length) : ∃ b o, A = some ⟨b, o, none⟩ ∧ b < w.heap.size ∧
    w.cell? ⟨b, o + i * 10, none⟩ = some (.int .i64 l[i].reign) ∧ w.cell? ⟨b, o + i * 10 + 1, none⟩ = some (.int .i64 l[i].order.client) ∧ w.cell? ⟨b, o + i * 10 + 2, none⟩ = some (.int .i64 l[i].order.seq) ∧ w.cell? ⟨b, o + i * 10 + 3, none⟩ = some (.int .i64 l[i].order.deed.kind) ∧ w.cell? ⟨b, o + i * 10 + 4, none⟩ = some (.string l[i].order.deed.name) ∧ w.cell? ⟨b, o + i * 10 + 5, none⟩ = some (.int .i64 l[i].order.deed.ed.ma) ∧ w.cell? ⟨b, o + i * 10 + 6, none⟩ = some (.int .i64 l[i].order.deed.ed.mi) ∧ w.cell? ⟨b, o + i * 10 + 7, none⟩ = some (.int .i64 l[i].order.deed.ed.pa) ∧ w.cell? ⟨b, o + i * 10 + 8, none⟩ = some (.string l[i].order.deed.page) ∧ w.cell? ⟨b, o + i * 10 + 9, none⟩ = some (.int .i64 l[i].order.deed.who) := by
  obtain ⟨b, o, rfl, hb, h⟩ := h.at hi
  exact ⟨b, o, rfl, hb, h 0 _ rfl, h 1 _ rfl, h 2 _ rfl, h 3 _ rfl, h 4 _ rfl, h 5 _ rfl, h 6 _ rfl, h 7 _ rfl, h 8 _ rfl, h 9 _ rfl⟩
def szEns : List M.En → Nat
  | [] => 0
  | c :: l => (c.order.deed.name.size + c.order.deed.page.size) + szEns l
theorem szEns_take (l : List M.En) (i : Nat) (h : i < l.length) : szEns (l.take (i + 1)) = szEns (l.take i) + (l[i].order.deed.name.size + l[i].order.deed.page.size) := by
  induction l generalizing i with
  | nil => simp at h
  | cons c l ih =>
    cases i with
    | zero => simp [szEns]
    | succ i => simp [szEns, ih i (by simpa using h)]; omega
theorem szEns_take_le (l : List M.En) (i : Nat) : szEns (l.take i) ≤ szEns l := by
  induction l generalizing i with
  | nil => simp [szEns]
  | cons c l ih =>
    cases i with
    | zero => simp [szEns]
    | succ i => have := ih i; simp [szEns]; omega
theorem szEns_mem (l : List M.En) (c : M.En) (h : c ∈ l) : (c.order.deed.name.size + c.order.deed.page.size) ≤ szEns l := by
  induction l with
  | nil => simp at h
  | cons d l ih =>
    rcases List.mem_cons.1 h with rfl | h
    · simp [szEns]
    · have := ih h; simp [szEns]; omega

set_option maxHeartbeats 1000000 in
theorem enszS_small (A : Option Addr) (l : List M.En) (cap : Nat) (n : Int) (w : World) (h1 : n ≤ 1048576) (hl : Ens w A l) (h : (l.length + szEns l : Int) ≤ n) :
    Calls Tryz.prog 9 #[.slice A l.length cap, .int .i64 n] w fun r w' => r = .returned (.int .i64 (n - l.length - szEns l)) ∧ Below w.heap.size w w' := by
  go_enter Tryz.func9, Tryz.ntmps9
  go_wp2
  go_loopw [1, 5] (fun x i wr => ∃ j : Nat, i = .int .i64 j ∧ j ≤ l.length ∧ x = .int .i64 (n - l.length - szEns (l.take j)) ∧ Ens wr A l ∧ Below w.heap.size w wr) (fun _ i _ => l.length - (intOf i).toNat)
  case atStart => exact ⟨0, rfl, Nat.zero_le _, by simp [szEns], hl, Below.refl _ _⟩
  case round =>
    obtain ⟨j, rfl, hj, rfl, hl', hb⟩ := hrel
    have hle := szEns_take_le l j
    by_cases hlt : j < l.length
    · have hs := szEns_take l j hlt
      have hle' := szEns_take_le l (j + 1)
      have HS := Lib.hid hs
      have hp : ((l[j].order.deed.name.size + l[j].order.deed.page.size : Nat) : Int) ≤ n - l.length - szEns (l.take j) := by omega
      have HP := Lib.hid hp
      clear hs hp
      obtain ⟨b, o, rfl, hbl, c0, c1, c2, c3, c4, c5, c6, c7, c8, c9⟩ := Ens_at hl' hlt
      go_wp2_with fail
      refine (enSz_small l[j] _ _ (by omega) HP.out).mono ?_
      rintro r w1 ⟨rfl, b1⟩
      have h0 : 0 ≤ n - (l.length : Int) - (szEns (l.take j) : Int) - ((l[j].order.deed.name.size + l[j].order.deed.page.size : Nat) : Int) := by have := HP.out; omega
      go_wp2
      go_roundw
      case rel => exact ⟨j + 1, by go_num, by omega, by rw [HS.out]; go_num, hl'.below b1, next hb b1⟩
      case measure => simp [intOf]; omega
    · have hj' : j = l.length := by omega
      subst hj'
      go_wp2
      go_ret
      exact ⟨ret_int (by rw [List.take_length]), hb⟩
set_option maxHeartbeats 1000000 in
theorem enszS_big (A : Option Addr) (l : List M.En) (cap : Nat) (n : Int) (w : World) (h0 : 0 ≤ n) (h1 : n ≤ 1048576) (hl : Ens w A l) (hlen : l.length ≤ maxLen) (hp : ∀ c ∈ l, enIn maxLen c) (h : n < (l.length + szEns l : Int)) :
    Calls Tryz.prog 9 #[.slice A l.length cap, .int .i64 n] w fun r w' => r = .returned (.int .i64 (-1)) ∧ Below w.heap.size w w' := by
  unfold maxLen at hlen
  by_cases hshort : n < l.length
  · go_enter Tryz.func9, Tryz.ntmps9
    go_wp2
    go_ret
    exact ⟨rfl, Below.refl _ _⟩
  · go_enter Tryz.func9, Tryz.ntmps9
    go_wp2
    go_loopw [1, 5] (fun x i wr => ∃ j : Nat, i = .int .i64 j ∧ j ≤ l.length ∧ (szEns (l.take j) : Int) ≤ n - l.length ∧ x = .int .i64 (n - l.length - szEns (l.take j)) ∧ Ens wr A l ∧ Below w.heap.size w wr) (fun _ i _ => l.length - (intOf i).toNat)
    case atStart => exact ⟨0, rfl, Nat.zero_le _, by simp [szEns]; omega, by simp [szEns], hl, Below.refl _ _⟩
    case round =>
      obtain ⟨j, rfl, hj, hle, rfl, hl', hb⟩ := hrel
      by_cases hlt : j < l.length
      · have HS := Lib.hid (szEns_take l j hlt)
        have HPJ := Lib.hid (hp l[j] (List.getElem_mem hlt))
        obtain ⟨b, o, rfl, hbl, c0, c1, c2, c3, c4, c5, c6, c7, c8, c9⟩ := Ens_at hl' hlt
        by_cases hfit : ((l[j].order.deed.name.size + l[j].order.deed.page.size : Nat) : Int) ≤ n - l.length - szEns (l.take j)
        · have HP := Lib.hid hfit
          clear hfit
          go_wp2_with fail
          refine (enSz_small l[j] _ _ (by omega) HP.out).mono ?_
          rintro r w1 ⟨rfl, b1⟩
          have h0 : 0 ≤ n - (l.length : Int) - (szEns (l.take j) : Int) - ((l[j].order.deed.name.size + l[j].order.deed.page.size : Nat) : Int) := by have := HP.out; omega
          go_wp2
          go_roundw
          case rel => exact ⟨j + 1, by go_num, by omega, by rw [HS.out]; have := HP.out; omega, by rw [HS.out]; go_num, hl'.below b1, next hb b1⟩
          case measure => simp [intOf]; omega
        · have HP : Hid (n - l.length - szEns (l.take j) < ((l[j].order.deed.name.size + l[j].order.deed.page.size : Nat) : Int)) := Lib.hid (by omega)
          clear hfit
          go_wp2_with fail
          refine (enSz_big l[j] _ _ (by omega) (by omega) HPJ.out HP.out).mono ?_
          rintro r w1 ⟨rfl, b1⟩
          go_wp2
          go_ret
          exact ⟨rfl, next hb b1⟩
      · have hj' : j = l.length := by omega
        subst hj'
        rw [List.take_length] at hle
        omega

theorem infoEns : (Tryz.prog.info? 53).map (fun i => (i.zero, i.size, i.bytes)) = some (some (.agg #[.int .i64 0, .int .i64 0, .int .i64 0, .int .i64 0, .string ⟨#[]⟩, .int .i64 0, .int .i64 0, .int .i64 0, .string ⟨#[]⟩, .int .i64 0]), 10, 96) := by kernel_rfl
theorem setEns (xs ys : List Value) (a0 a1 a2 a3 a4 a5 a6 a7 a8 a9 f0 f1 f2 f3 f4 f5 f6 f7 f8 f9 : Value) (n : Nat) (hn : n = xs.length) :
    ((((((((((xs ++ a0 :: a1 :: a2 :: a3 :: a4 :: a5 :: a6 :: a7 :: a8 :: a9 :: ys).set (n) f0).set (n + 1) f1).set (n + 2) f2).set (n + 3) f3).set (n + 4) f4).set (n + 5) f5).set (n + 6) f6).set (n + 7) f7).set (n + 8) f8).set (n + 9) f9 = xs ++ f0 :: f1 :: f2 :: f3 :: f4 :: f5 :: f6 :: f7 :: f8 :: f9 :: ys := by
  subst hn; simp
theorem en_of {l : List Value} {n : Nat} (h : l.length = (n + 1) * 10) : ∃ a0 a1 a2 a3 a4 a5 a6 a7 a8 a9 r, l = a0 :: a1 :: a2 :: a3 :: a4 :: a5 :: a6 :: a7 :: a8 :: a9 :: r ∧ r.length = n * 10 := by
  match l, h with
  | a0 :: a1 :: a2 :: a3 :: a4 :: a5 :: a6 :: a7 :: a8 :: a9 :: r, h => exact ⟨a0, a1, a2, a3, a4, a5, a6, a7, a8, a9, r, rfl, by simp at h; omega⟩
  | [], h => simp at h
  | [_], h => simp at h; omega
  | [_, _], h => simp at h; omega
  | [_, _, _], h => simp at h; omega
  | [_, _, _, _], h => simp at h; omega
  | [_, _, _, _, _], h => simp at h; omega
  | [_, _, _, _, _, _], h => simp at h; omega
  | [_, _, _, _, _, _, _], h => simp at h; omega
  | [_, _, _, _, _, _, _, _], h => simp at h; omega
  | [_, _, _, _, _, _, _, _, _], h => simp at h; omega

theorem own_putEns {w : World} {base e g n cap j : Nat} {xs ys : List Value} {f0 f1 f2 f3 f4 f5 f6 f7 f8 f9 a0 a1 a2 a3 a4 a5 a6 a7 a8 a9 : Value} (h : w.ownsRow base e 10 (.slice (some ⟨g, 0, none⟩) n cap) n (xs ++ a0 :: a1 :: a2 :: a3 :: a4 :: a5 :: a6 :: a7 :: a8 :: a9 :: ys)) (hj : j = xs.length) :
    (((((((((((w.setCell ⟨g, j, none⟩ f0).setCell ⟨g, j + 1, none⟩ f1).setCell ⟨g, j + 2, none⟩ f2).setCell ⟨g, j + 3, none⟩ f3).setCell ⟨g, j + 4, none⟩ f4).setCell ⟨g, j + 5, none⟩ f5).setCell ⟨g, j + 6, none⟩ f6).setCell ⟨g, j + 7, none⟩ f7).setCell ⟨g, j + 8, none⟩ f8).setCell ⟨g, j + 9, none⟩ f9)).ownsRow base e 10 (.slice (some ⟨g, 0, none⟩) n cap) n (xs ++ f0 :: f1 :: f2 :: f3 :: f4 :: f5 :: f6 :: f7 :: f8 :: f9 :: ys) := by
  have := ((((((((((h.stored j f0).1.stored (j + 1) f1).1.stored (j + 2) f2).1.stored (j + 3) f3).1.stored (j + 4) f4).1.stored (j + 5) f5).1.stored (j + 6) f6).1.stored (j + 7) f7).1.stored (j + 8) f8).1.stored (j + 9) f9)
  rw [setEns xs ys a0 a1 a2 a3 a4 a5 a6 a7 a8 a9 f0 f1 f2 f3 f4 f5 f6 f7 f8 f9 j hj] at this
  exact this.1
theorem own_cellsEns {w : World} {base e g n cap j : Nat} {xs ys : List Value} {a0 a1 a2 a3 a4 a5 a6 a7 a8 a9 : Value} (h : w.ownsRow base e 10 (.slice (some ⟨g, 0, none⟩) n cap) n (xs ++ a0 :: a1 :: a2 :: a3 :: a4 :: a5 :: a6 :: a7 :: a8 :: a9 :: ys)) (hj : j = xs.length) :
    (w.cell? ⟨g, j, none⟩ = some a0 ∧ w.cell? ⟨g, j + 1, none⟩ = some a1 ∧ w.cell? ⟨g, j + 2, none⟩ = some a2 ∧ w.cell? ⟨g, j + 3, none⟩ = some a3 ∧ w.cell? ⟨g, j + 4, none⟩ = some a4 ∧ w.cell? ⟨g, j + 5, none⟩ = some a5 ∧ w.cell? ⟨g, j + 6, none⟩ = some a6 ∧ w.cell? ⟨g, j + 7, none⟩ = some a7 ∧ w.cell? ⟨g, j + 8, none⟩ = some a8 ∧ w.cell? ⟨g, j + 9, none⟩ = some a9) ∧
    (w.frozen? ⟨g, j, none⟩ = false ∧ w.frozen? ⟨g, j + 1, none⟩ = false ∧ w.frozen? ⟨g, j + 2, none⟩ = false ∧ w.frozen? ⟨g, j + 3, none⟩ = false ∧ w.frozen? ⟨g, j + 4, none⟩ = false ∧ w.frozen? ⟨g, j + 5, none⟩ = false ∧ w.frozen? ⟨g, j + 6, none⟩ = false ∧ w.frozen? ⟨g, j + 7, none⟩ = false ∧ w.frozen? ⟨g, j + 8, none⟩ = false ∧ w.frozen? ⟨g, j + 9, none⟩ = false) := by
  have hl := h.1
  simp at hl
  subst hj
  refine ⟨⟨?_, ?_, ?_, ?_, ?_, ?_, ?_, ?_, ?_, ?_⟩, h.frozenAt _, h.frozenAt _, h.frozenAt _, h.frozenAt _, h.frozenAt _, h.frozenAt _, h.frozenAt _, h.frozenAt _, h.frozenAt _, h.frozenAt _⟩ <;> (rw [h.cellAt _ (by omega)]; simp)

/-- v is a list of these in memory of one's own from block B on. -/
abbrev EnsOwn (B : Nat) (w : World) (v : Value) (l : List M.En) : Prop := w.ownsRow B 53 10 v l.length (cellsOf enL l)
set_option maxHeartbeats 1000000 in
theorem entoS_any (A : Option Addr) (l : List M.En) (cap : Nat) (w : World) (hl : Ens w A l) (hlen : l.length ≤ 1048576) :
    Calls Tryz.prog 15 #[.slice A l.length cap] w fun r w' => r = .returned (.slice (some ⟨w.heap.size, 0, none⟩) l.length l.length) ∧ EnsOwn w.heap.size w' (.slice (some ⟨w.heap.size, 0, none⟩) l.length l.length) l ∧ Below w.heap.size w w' := by
  obtain ⟨i0, hi, hz0, hz1, hz2⟩ := info_parts infoEns
  go_enter Tryz.func15, Tryz.ntmps15
  go_wp2_with (refine wpList_make_full _ rfl _ _ 31 rfl w.heap.size 53 i0 _ 10 Tryz.underlying31 hi hz0 hz1 .i64 .i64 _ _ l.length rfl rfl rfl rfl (by rw [hz2]; omega) (by unfold maxLen; omega) (Nat.le_refl _) ?_; intro w1 hown hgrow)
  have b1 : Below w.heap.size w w1 := (Below.refl _ _).grown hgrow (Nat.le_refl _) (fun k hk => by cases hk)
  go_loopw [4] (fun i wr => ∃ (j : Nat) (rest : List Value), i = .int .i64 j ∧ j ≤ l.length ∧ rest.length = (l.length - j) * 10 ∧ wr.ownsRow w.heap.size 53 10 (.slice (some ⟨w.heap.size, 0, none⟩) l.length l.length) l.length (cellsOf enL (l.take j) ++ rest) ∧ Below w.heap.size w wr) (fun i _ => l.length - (intOf i).toNat)
  case atStart => exact ⟨0, _, rfl, Nat.zero_le _, hown.1, hown, b1⟩
  case round =>
    obtain ⟨j, rest, rfl, hj, hr, hown', hb⟩ := hrel
    by_cases hlt : j < l.length
    · obtain ⟨e0, e1, e2, e3, e4, e5, e6, e7, e8, e9, rs, rfl, hrs⟩ := en_of (n := l.length - j - 1) (l := rest) (by rw [hr]; omega)
      have hz : j * 10 = (cellsOf enL (l.take j)).length := by rw [cellsOf_len enL_len, List.length_take, Nat.min_eq_left (by omega)]
      obtain ⟨b, o, rfl, hbl, c0, c1, c2, c3, c4, c5, c6, c7, c8, c9⟩ := Ens_at (hl.below hb) hlt
      have HO := Lib.hid hown'
      have HL := Lib.hid hl
      have HZ := Lib.hid hz
      have HR := Lib.hid hrs
      clear hown hown' hl hz hrs hr
      go_wp2_with fail
      refine (enTo_any l[j] _).mono ?_
      rintro r w2 ⟨rfl, b2⟩
      have ho2 := Own.below HO.out b2
      obtain ⟨⟨k0, k1, k2, k3, k4, k5, k6, k7, k8, k9⟩, g0, g1, g2, g3, g4, g5, g6, g7, g8, g9⟩ := own_cellsEns ho2 HZ.out
      have HO2 := Lib.hid ho2
      clear ho2
      go_wp2
      go_roundw
      case rel =>
        refine ⟨j + 1, rs, by go_num, by omega, by rw [HR.out]; omega, ?_, ?_⟩
        · rw [List.take_succ_eq_append_getElem hlt, cellsOf_append, List.append_assoc]
          exact own_putEns HO2.out HZ.out
        · exact (((((((((((next hb b2).setCell (Nat.le_refl _) _).setCell (Nat.le_refl _) _).setCell (Nat.le_refl _) _).setCell (Nat.le_refl _) _).setCell (Nat.le_refl _) _).setCell (Nat.le_refl _) _).setCell (Nat.le_refl _) _).setCell (Nat.le_refl _) _).setCell (Nat.le_refl _) _).setCell (Nat.le_refl _) _)
      case measure => simp [intOf]; omega
    · have hj' : j = l.length := by omega
      subst hj'
      have hr0 : rest = [] := List.length_eq_zero_iff.1 (by rw [hr]; omega)
      subst hr0
      rw [List.take_length, List.append_nil] at hown'
      have HO := Lib.hid hown'
      clear hown hown' hr
      go_wp2
      go_ret
      exact ⟨rfl, HO.out, hb⟩

set_option maxHeartbeats 1000000 in
theorem eneqS_same (A B : Option Addr) (l : List M.En) (ca cb : Nat) (w : World) (ha : Ens w A l) (hb : Ens w B l) (hlen : l.length ≤ maxLen) :
    Calls Tryz.prog 23 #[.slice A l.length ca, .slice B l.length cb] w fun r w' => r = .returned (.bool true) ∧ Below w.heap.size w w' := by
  unfold maxLen at hlen
  have he : ((l.length : Int) != (l.length : Int)) = false := by simp
  go_enter Tryz.func23, Tryz.ntmps23
  go_wp2
  go_loopw [5] (fun i wr => ∃ j : Nat, i = .int .i64 j ∧ j ≤ l.length ∧ Below w.heap.size w wr) (fun i _ => l.length - (intOf i).toNat)
  case atStart => exact ⟨0, rfl, Nat.zero_le _, Below.refl _ _⟩
  case round =>
    obtain ⟨j, rfl, hj, hbl⟩ := hrel
    by_cases hlt : j < l.length
    · obtain ⟨b, o, rfl, _, c0, c1, c2, c3, c4, c5, c6, c7, c8, c9⟩ := Ens_at (ha.below hbl) hlt
      obtain ⟨b', o', rfl, _, d0, d1, d2, d3, d4, d5, d6, d7, d8, d9⟩ := Ens_at (hb.below hbl) hlt
      have HA := Lib.hid ha
      have HB := Lib.hid hb
      clear ha hb
      go_wp2_with fail
      go_still_tail 8, (by kernel_rfl)
      change wpList _ _ _ _ _ wr.drew
      go_wp2_with fail
      refine (enEq_same l[j] _).mono ?_
      rintro r w1 ⟨rfl, b1⟩
      go_wp2
      go_roundw
      case rel => exact ⟨j + 1, by go_num, by omega, next hbl.drew b1⟩
      case measure => simp [intOf]; omega
    · have hj' : j = l.length := by omega
      subst hj'
      go_wp2
      go_ret
      exact ⟨rfl, hbl⟩
end Go.Proofs.YtdoeiphnalbinaaGreat
namespace Go.Proofs.YtdoeiphnalbinaaGreat
open Go.RowKit
abbrev roA (b r : Int) (A : Option Addr) (n c : Nat) : Array Value := #[.int .i64 b, .int .i64 r, .slice A n c]
abbrev roV (b r : Int) (A : Option Addr) (n c : Nat) : Value := .agg (roA b r A n c)
namespace M
/-- No reign is less than the one ahead. -/
def upFrom : Int → List En → Bool
  | _, [] => true
  | k, e :: l => decide (k ≤ e.reign) && upFrom e.reign l
/-- The reign of which the walk asks next, behind the first j. -/
def reignAhead (r : Int) (l : List En) (j : Nat) : Int := match j with
  | 0 => r
  | j + 1 => match l[j]? with
    | some e => e.reign
    | none => r
theorem reignAhead_succ {r : Int} {l : List En} {j : Nat} (h : j < l.length) : reignAhead r l (j + 1) = l[j].reign := by
  unfold reignAhead
  simp [List.getElem?_eq_getElem h]
theorem reignAhead_cons {r : Int} {e : En} {l : List En} {j : Nat} (h : j ≤ l.length) : reignAhead r (e :: l) (j + 1) = reignAhead e.reign l j := by
  cases j with
  | zero => rfl
  | succ j => rw [reignAhead_succ (by simp; omega), reignAhead_succ (by omega)]; simp
theorem upFrom_iff (r : Int) (l : List En) : upFrom r l = true ↔ ∀ (j : Nat) (h : j < l.length), reignAhead r l j ≤ l[j].reign := by
  induction l generalizing r with
  | nil => simp [upFrom]
  | cons e l ih =>
    simp only [upFrom, Bool.and_eq_true, decide_eq_true_eq, ih]
    constructor
    · rintro ⟨h1, h2⟩ j hj
      cases j with
      | zero => exact h1
      | succ j =>
        have hj' : j < l.length := by simpa using hj
        rw [reignAhead_cons (by omega)]
        exact h2 j hj'
    · intro h
      refine ⟨h 0 (by simp), fun j hj => ?_⟩
      have := h (j + 1) (by simpa using hj)
      rw [reignAhead_cons (by omega)] at this
      exact this
/-- The first j are not less than the one ahead. -/
def UpTo (r : Int) (l : List En) (j : Nat) : Prop := ∀ (i : Nat) (h : i < l.length), i < j → reignAhead r l i ≤ l[i].reign
theorem UpTo.zero (r : Int) (l : List En) : UpTo r l 0 := fun _ _ h => absurd h (by omega)
theorem UpTo.next {r : Int} {l : List En} {j : Nat} (h : UpTo r l j) (hj : j < l.length) (hr : reignAhead r l j ≤ l[j].reign) : UpTo r l (j + 1) := fun i hi hij => by
  by_cases e : i = j
  · subst e; exact hr
  · exact h i hi (by omega)
theorem UpTo.all {r : Int} {l : List En} (h : UpTo r l l.length) : upFrom r l = true := (upFrom_iff r l).2 fun i hi => h i hi hi
theorem up_not {r : Int} {l : List En} {j : Nat} (hj : j < l.length) (hr : ¬ reignAhead r l j ≤ l[j].reign) : upFrom r l = false := by
  rcases hc : upFrom r l with _ | _
  · rfl
  · exact absurd ((upFrom_iff r l).1 hc j hj) hr
/-- What the model asks of a list's entries, one by one. -/
def listOk (r : Int) (l : List En) : Bool := l.all entryOk && upFrom r l
/-- The first j are right and not less than the one ahead. -/
def OkTo (r : Int) (l : List En) (j : Nat) : Prop := ∀ (i : Nat) (h : i < l.length), i < j → entryOk l[i] = true ∧ reignAhead r l i ≤ l[i].reign
theorem OkTo.zero (r : Int) (l : List En) : OkTo r l 0 := fun _ _ h => absurd h (by omega)
theorem OkTo.next {r : Int} {l : List En} {j : Nat} (h : OkTo r l j) (hj : j < l.length) (he : entryOk l[j] = true) (hr : reignAhead r l j ≤ l[j].reign) : OkTo r l (j + 1) := fun i hi hij => by
  by_cases e : i = j
  · subst e; exact ⟨he, hr⟩
  · exact h i hi (by omega)
theorem OkTo.all {r : Int} {l : List En} (h : OkTo r l l.length) : listOk r l = true := by
  simp only [listOk, Bool.and_eq_true]
  exact ⟨List.all_eq_true.2 fun x hx => by obtain ⟨i, hi, rfl⟩ := List.mem_iff_getElem.1 hx; exact (h i hi hi).1, (upFrom_iff r l).2 fun i hi => (h i hi hi).2⟩
theorem list_not {r : Int} {l : List En} {j : Nat} (hj : j < l.length) (h : entryOk l[j] = false ∨ ¬ reignAhead r l j ≤ l[j].reign) : listOk r l = false := by
  rcases hc : listOk r l with _ | _
  · rfl
  · simp only [listOk, Bool.and_eq_true] at hc
    rcases h with h | h
    · have := List.all_eq_true.1 hc.1 l[j] (List.getElem_mem hj)
      rw [h] at this; cases this
    · exact absurd ((upFrom_iff r l).1 hc.2 j hj) h
end M
end Go.Proofs.YtdoeiphnalbinaaGreat
namespace Go.Proofs.YtdoeiphnalbinaaGreat
open Go.RowKit
namespace M

def cok (n : Int) : Bool := n == 3 || n == 5
def most (n : Int) : Int := if cok n then n / 2 + 1 else 0
def isSet (s : Int) : Bool := decide (0 ≤ s) && decide (s ≤ 31)
def sizeOf (s : Int) : Int := if isSet s then s % 2 + s / 2 % 2 + s / 4 % 2 + s / 8 % 2 + s / 16 % 2 else -1

end M

end Go.Proofs.YtdoeiphnalbinaaGreat
namespace Go.Proofs.YtdoeiphnalbinaaGreat
open Go.RowKit

theorem specCountOk (n : Int) (w : World) : Calls Tryz.prog 11 #[.int .i64 n] w fun e w' => e = .returned (.bool (M.cok n)) ∧ w = w' := by
  by_cases h3 : n = 3
  · have hk : (n == 3) = true := by simp [h3]
    go_enter Tryz.func11, Tryz.ntmps11
    go_wp2
    go_ret
    exact ⟨ret_bool (by simp [M.cok, h3]), rfl⟩
  · have hk : (n == 3) = false := by simp [h3]
    go_enter Tryz.func11, Tryz.ntmps11
    go_wp2
    go_ret
    exact ⟨ret_bool (by simp [M.cok, h3]), rfl⟩

end Go.Proofs.YtdoeiphnalbinaaGreat
namespace Go.Proofs.YtdoeiphnalbinaaGreat
open Go.RowKit
namespace M

/-- More than half are not below r, and not more than half above it. -/
def Reach (m : Nat) (l : List Int) (r : Int) : Prop := m ≤ l.countP (fun x => decide (r ≤ x)) ∧ l.countP (fun x => decide (r < x)) < m

theorem Reach.one {m : Nat} {l : List Int} {r s : Int} (h : Reach m l r) (k : Reach m l s) : r = s := by
  have key : ∀ a b : Int, a < b → l.countP (fun x => decide (b ≤ x)) ≤ l.countP (fun x => decide (a < x)) := fun a b hab =>
    List.countP_mono_left (fun x _ hx => by simp only [decide_eq_true_eq] at *; omega)
  rcases Int.lt_trichotomy r s with hlt | he | hlt
  · have := key r s hlt; have := h.2; have := k.1; omega
  · exact he
  · have := key s r hlt; have := k.2; have := h.1; omega

/-- The same numbers, told by how many of a kind there are. -/
def SameMany (l s : List Int) : Prop := s.length = l.length ∧ ∀ p : Int → Bool, s.countP p = l.countP p
theorem SameMany.refl (l : List Int) : SameMany l l := ⟨rfl, fun _ => rfl⟩
/-- Falling up to i, but that the one at k may stand too far back. -/
def FallsBut (s : List Int) (i k : Nat) : Prop := ∀ a b : Nat, a < b → b ≤ i → b ≠ k → ∀ (hb : b < s.length) (ha : a < s.length), s[b] ≤ s[a]
def Falls (s : List Int) (i : Nat) : Prop := ∀ a b : Nat, a < b → b < i → ∀ (hb : b < s.length) (ha : a < s.length), s[b] ≤ s[a]

theorem Falls.start {s : List Int} {i : Nat} (h : Falls s i) : FallsBut s i i := fun a b hab hbi hbk hb ha => h a b hab (by omega) hb ha
theorem FallsBut.first {s : List Int} {i : Nat} (h : FallsBut s i 0) : Falls s (i + 1) := fun a b hab hbi hb ha => h a b hab (by omega) (by omega) hb ha
theorem FallsBut.stands {s : List Int} {i k : Nat} (h : FallsBut s i k) (hk : 0 < k) (hki : k ≤ i) (hi : i < s.length) (hs : s[k]'(by omega) ≤ s[k - 1]'(by omega)) : Falls s (i + 1) := by
  intro a b hab hbi hb ha
  by_cases hbk : b = k
  · subst hbk
    by_cases hak : a = b - 1
    · subst hak; exact hs
    · exact Int.le_trans hs (h a (b - 1) (by omega) (by omega) (by omega) (by omega) ha)
  · exact h a b hab (by omega) hbk hb ha
theorem FallsBut.step {s : List Int} {i k : Nat} (h : FallsBut s i k) (hk : 0 < k) (hki : k ≤ i) (hi : i < s.length) (hs : s[k - 1]'(by omega) < s[k]'(by omega)) :
    FallsBut ((s.set k (s[k - 1]'(by omega))).set (k - 1) (s[k]'(by omega))) i (k - 1) := by
  intro a b hab hbi hbk hb ha
  simp only [List.length_set] at hb ha
  simp only [List.getElem_set]
  rw [if_neg (by omega : ¬ k - 1 = b)]
  by_cases hbk' : k = b
  · subst hbk'
    rw [if_pos rfl]
    by_cases hak : k - 1 = a
    · rw [if_pos hak]; omega
    · rw [if_neg hak, if_neg (by omega)]
      exact h a (k - 1) (by omega) (by omega) (by omega) (by omega) ha
  · rw [if_neg hbk']
    by_cases hak : k - 1 = a
    · rw [if_pos hak]
      exact h k b (by omega) hbi (by omega) hb (by omega)
    · rw [if_neg hak]
      by_cases hak' : k = a
      · rw [if_pos hak']
        exact h (k - 1) b (by omega) hbi (by omega) hb (by omega)
      · rw [if_neg hak']
        exact h a b hab hbi (by omega) hb ha

end M
end Go.Proofs.YtdoeiphnalbinaaGreat
namespace Go.Proofs.YtdoeiphnalbinaaGreat
open Go.RowKit

section
variable {α : Type} {enc : α → List Value} {k : Nat} {w w' : World} {l : List α}
end

end Go.Proofs.YtdoeiphnalbinaaGreat
