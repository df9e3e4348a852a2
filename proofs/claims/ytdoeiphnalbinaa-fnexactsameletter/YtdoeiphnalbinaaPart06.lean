/- Proved, in parts: Proved: the laws' own test tells a deed like itself; it writes nothing that was there. No condition. Proved: the laws' helpers on one order (its size, its copy, its likeness) answer plain Lean functions; they write nothing that was there. Condition: texts of at most a million where the size is told. Proved: the laws' helpers on one entry (its size, its copy, its likeness) answer plain Lean functions; they write nothing that was there. Condition: texts of at most a million where the size is told. Proved: the laws' helpers on lists of records of the type Entry (their size, their copy, their likeness) answer plain Lean functions; they write nothing that was there. Condition: lists of at most a million. -/
import Derived.Test.YtdoeiphnalbinaaPart02
import Derived.Test.YtdoeiphnalbinaaPart04
import Derived.Test.YtdoeiphnalbinaaPart05
namespace Go.Proofs.Ytdoeiphnalbinaa
open Go.RowKit
set_option maxRecDepth 20000

set_option maxHeartbeats 1000000 in
theorem eqDeed_same (a : M.Dd) (w : World) :
    Calls Try.prog 50 #[ddV a, ddV a] w fun r w' => r = .returned (.bool true) ∧ Below w.heap.size w w' := by
  have h0 : (a.kind != a.kind) = false := by simp
  have h1 : (a.name.toList != a.name.toList) = false := by simp
  have h2 : (a.page.toList != a.page.toList) = false := by simp
  have h3 : (a.who != a.who) = false := by simp
  have b0 := ((Below.refl w.heap.size w).alloc (Nat.le_refl _) (.cells (ddC a) 53)).alloc (by simp) (.cells (ddC a) 53)
  have ha := (holds_new w (ddC a) 53).alloc (.cells (ddC a) 53)
  have hb := holds_new (w.alloc (.cells (ddC a) 53)) (ddC a) 53
  go_enter Try.func50, Try.ntmps50
  go_wp2_with fail
  refine (eqEdition_same a.ed _).mono ?_
  rintro r w1 ⟨rfl, b1⟩
  replace ha := ha.below b1
  replace hb := hb.below b1
  replace b0 := next b0 b1
  simp only [World.size_alloc] at hb
  obtain ⟨p0, p1, p2, p3, p4, p5, p6⟩ := ha.seven
  obtain ⟨q0, q1, q2, q3, q4, q5, q6⟩ := hb.seven
  clear b1
  go_wp2
  go_ret
  exact ⟨rfl, b0⟩
end Go.Proofs.Ytdoeiphnalbinaa
namespace Go.Proofs.Ytdoeiphnalbinaa
open Go.RowKit
set_option maxRecDepth 20000
abbrev orIn (n : Nat) (o : M.Or) : Prop := o.deed.name.size ≤ n ∧ o.deed.page.size ≤ n
set_option maxHeartbeats 1000000 in
theorem szDeed_is (d : M.Dd) (n : Int) (w : World) (hn : n ≤ 1048576) (h : (d.name.size + d.page.size : Int) ≤ n) :
    Calls Try.prog 44 #[ddV d, .int .i64 n] w fun r w' => r = .returned (.int .i64 (n - d.name.size - d.page.size)) ∧ Below w.heap.size w w' := by
  go_enter Try.func44, Try.ntmps44
  go_wp2
  go_ret
  exact ⟨ret_int (by omega), (Below.refl _ _).alloc (Nat.le_refl _) _⟩
set_option maxHeartbeats 1000000 in
theorem orSz_small (o : M.Or) (n : Int) (w : World) (h1 : n ≤ 1048576) (h : ((o.deed.name.size + o.deed.page.size : Nat) : Int) ≤ n) :
    Calls Try.prog 34 #[orV o, .int .i64 n] w fun r w' => r = .returned (.int .i64 (n - ((o.deed.name.size + o.deed.page.size : Nat) : Int))) ∧ Below w.heap.size w w' := by
  have b0 := (Below.refl w.heap.size w).alloc (Nat.le_refl _) (.cells (orC o) 63)
  have h0 : 0 ≤ n - (o.deed.name.size : Int) - (o.deed.page.size : Int) := by omega
  go_enter Try.func34, Try.ntmps34
  go_wp2_with fail
  refine (szDeed_is o.deed n _ h1 (by omega)).mono ?_
  rintro r w1 ⟨rfl, b1⟩
  go_wp2
  go_ret
  exact ⟨ret_int (by omega), next b0 b1⟩
set_option maxHeartbeats 1000000 in
theorem orSz_big (o : M.Or) (n : Int) (w : World) (h0 : 0 ≤ n) (h1 : n ≤ 1048576) (hp : orIn maxLen o) (h : n < ((o.deed.name.size + o.deed.page.size : Nat) : Int)) :
    Calls Try.prog 34 #[orV o, .int .i64 n] w fun r w' => r = .returned (.int .i64 (-1)) ∧ Below w.heap.size w w' :=
  szOrder_big o n w h0 h1 hp.1 hp.2 (by omega)
set_option maxHeartbeats 1000000 in
theorem orEq_same (o : M.Or) (w : World) :
    Calls Try.prog 40 #[orV o, orV o] w fun r w' => r = .returned (.bool true) ∧ Below w.heap.size w w' := by
  have h1 : (o.client != o.client) = false := by simp
  have h2 : (o.seq != o.seq) = false := by simp
  have b0 := ((Below.refl w.heap.size w).alloc (Nat.le_refl _) (.cells (orC o) 55)).alloc (by simp) (.cells (orC o) 55)
  go_enter Try.func40, Try.ntmps40
  go_wp2_with fail
  refine (eqDeed_same o.deed _).mono ?_
  rintro r w1 ⟨rfl, b1⟩
  go_wp2
  go_ret
  exact ⟨rfl, next b0 b1⟩
end Go.Proofs.Ytdoeiphnalbinaa
namespace Go.Proofs.Ytdoeiphnalbinaa
open Go.RowKit
set_option maxRecDepth 20000
set_option maxHeartbeats 1000000 in
theorem enSz_small (e : M.En) (n : Int) (w : World) (h1 : n ≤ 1048576) (h : ((e.order.deed.name.size + e.order.deed.page.size : Nat) : Int) ≤ n) :
    Calls Try.prog 22 #[enV e, .int .i64 n] w fun r w' => r = .returned (.int .i64 (n - ((e.order.deed.name.size + e.order.deed.page.size : Nat) : Int))) ∧ Below w.heap.size w w' := by
  have b0 := (Below.refl w.heap.size w).alloc (Nat.le_refl _) (.cells (enC e) 65)
  have h0 : 0 ≤ n - ((e.order.deed.name.size + e.order.deed.page.size : Nat) : Int) := by omega
  go_enter Try.func22, Try.ntmps22
  go_wp2_with fail
  refine (orSz_small e.order n _ h1 h).mono ?_
  rintro r w1 ⟨rfl, b1⟩
  go_wp2
  go_ret
  exact ⟨rfl, next b0 b1⟩
set_option maxHeartbeats 1000000 in
theorem enSz_big (e : M.En) (n : Int) (w : World) (h0 : 0 ≤ n) (h1 : n ≤ 1048576) (hp : enIn maxLen e) (h : n < ((e.order.deed.name.size + e.order.deed.page.size : Nat) : Int)) :
    Calls Try.prog 22 #[enV e, .int .i64 n] w fun r w' => r = .returned (.int .i64 (-1)) ∧ Below w.heap.size w w' := by
  have b0 := (Below.refl w.heap.size w).alloc (Nat.le_refl _) (.cells (enC e) 65)
  go_enter Try.func22, Try.ntmps22
  go_wp2_with fail
  refine (orSz_big e.order n _ h0 h1 hp h).mono ?_
  rintro r w1 ⟨rfl, b1⟩
  go_wp2
  go_ret
  exact ⟨rfl, next b0 b1⟩
set_option maxHeartbeats 4000000 in
theorem enTo_any (e : M.En) (w : World) :
    Calls Try.prog 25 #[enV e] w fun r w' => r = .returned (enV e) ∧ Below w.heap.size w w' := by
  go_enter Try.func25, Try.ntmps25
  go_wp2_with fail
  refine (toOrder_at e.order _).mono ?_
  rintro r w1 ⟨rfl, rfl⟩
  go_wp2
  refine bodyPost_ret (v := enV e) (by simp [results, Try.results25, go_sem]) rfl ⟨rfl, ?_⟩
  repeat (first | exact Below.refl _ _ | refine Below.alloc ?_ (by simp <;> omega) _)
set_option maxHeartbeats 1000000 in
theorem enEq_same (e : M.En) (w : World) :
    Calls Try.prog 28 #[enV e, enV e] w fun r w' => r = .returned (.bool true) ∧ Below w.heap.size w w' := by
  have h1 : (e.reign != e.reign) = false := by simp
  have b0 := ((Below.refl w.heap.size w).alloc (Nat.le_refl _) (.cells (enC e) 57)).alloc (by simp) (.cells (enC e) 57)
  go_enter Try.func28, Try.ntmps28
  go_wp2_with fail
  refine (orEq_same e.order _).mono ?_
  rintro r w1 ⟨rfl, b1⟩
  go_wp2
  go_ret
  exact ⟨rfl, next b0 b1⟩
end Go.Proofs.Ytdoeiphnalbinaa
namespace Go.Proofs.Ytdoeiphnalbinaa
open Go.RowKit
set_option maxRecDepth 20000
abbrev Ens (w : World) (A : Option Addr) (l : List M.En) : Prop := Flat enL 10 w A l
theorem Ens_at {w : World} {A : Option Addr} {l : List M.En} {i : Nat} (h : Ens w A l) (hi : i < l.length) : ∃ b o, A = some ⟨b, o, none⟩ ∧ b < w.heap.size ∧
    w.cell? ⟨b, o + i * 10, none⟩ = some (.int .i64 l[i].reign) ∧ w.cell? ⟨b, o + i * 10 + 1, none⟩ = some (.int .i64 l[i].order.client) ∧ w.cell? ⟨b, o + i * 10 + 2, none⟩ = some (.int .i64 l[i].order.seq) ∧ w.cell? ⟨b, o + i * 10 + 3, none⟩ = some (.int .i64 l[i].order.deed.kind) ∧ w.cell? ⟨b, o + i * 10 + 4, none⟩ = some (.string l[i].order.deed.name) ∧ w.cell? ⟨b, o + i * 10 + 5, none⟩ = some (.int .i64 l[i].order.deed.ed.ma) ∧ w.cell? ⟨b, o + i * 10 + 6, none⟩ = some (.int .i64 l[i].order.deed.ed.mi) ∧ w.cell? ⟨b, o + i * 10 + 7, none⟩ = some (.int .i64 l[i].order.deed.ed.pa) ∧ w.cell? ⟨b, o + i * 10 + 8, none⟩ = some (.string l[i].order.deed.page) ∧ w.cell? ⟨b, o + i * 10 + 9, none⟩ = some (.int .i64 l[i].order.deed.who) := by
  obtain ⟨b, o, rfl, hb, h⟩ := h.at hi
  exact ⟨b, o, rfl, hb, h 0 _ rfl, h 1 _ rfl, h 2 _ rfl, h 3 _ rfl, h 4 _ rfl, h 5 _ rfl, h 6 _ rfl, h 7 _ rfl, h 8 _ rfl, h 9 _ rfl⟩
def szEns : List M.En → Nat
  | [] => 0
  | c :: l => (c.order.deed.name.size + c.order.deed.page.size) + szEns l
theorem szEns_take (l : List M.En) (i : Nat) (h : i < l.length) : szEns (l.take (i + 1)) = szEns (l.take i) + (l[i].order.deed.name.size + l[i].order.deed.page.size) := by
  induction l generalizing i with
  | nil => simp at h
  | cons c l ih =>
    cases i with
    | zero => simp [szEns]
    | succ i => simp [szEns, ih i (by simpa using h)]; omega
theorem szEns_take_le (l : List M.En) (i : Nat) : szEns (l.take i) ≤ szEns l := by
  induction l generalizing i with
  | nil => simp [szEns]
  | cons c l ih =>
    cases i with
    | zero => simp [szEns]
    | succ i => have := ih i; simp [szEns]; omega
theorem szEns_mem (l : List M.En) (c : M.En) (h : c ∈ l) : (c.order.deed.name.size + c.order.deed.page.size) ≤ szEns l := by
  induction l with
  | nil => simp at h
  | cons d l ih =>
    rcases List.mem_cons.1 h with rfl | h
    · simp [szEns]
    · have := ih h; simp [szEns]; omega

set_option maxHeartbeats 1000000 in
theorem enszS_small (A : Option Addr) (l : List M.En) (cap : Nat) (n : Int) (w : World) (h1 : n ≤ 1048576) (hl : Ens w A l) (h : (l.length + szEns l : Int) ≤ n) :
    Calls Try.prog 12 #[.slice A l.length cap, .int .i64 n] w fun r w' => r = .returned (.int .i64 (n - l.length - szEns l)) ∧ Below w.heap.size w w' := by
  go_enter Try.func12, Try.ntmps12
  go_wp2
  go_loopw [1, 5] (fun x i wr => ∃ j : Nat, i = .int .i64 j ∧ j ≤ l.length ∧ x = .int .i64 (n - l.length - szEns (l.take j)) ∧ Ens wr A l ∧ Below w.heap.size w wr) (fun _ i _ => l.length - (intOf i).toNat)
  case atStart => exact ⟨0, rfl, Nat.zero_le _, by simp [szEns], hl, Below.refl _ _⟩
  case round =>
    obtain ⟨j, rfl, hj, rfl, hl', hb⟩ := hrel
    have hle := szEns_take_le l j
    by_cases hlt : j < l.length
    · have hs := szEns_take l j hlt
      have hle' := szEns_take_le l (j + 1)
      have HS := Lib.hid hs
      have hp : ((l[j].order.deed.name.size + l[j].order.deed.page.size : Nat) : Int) ≤ n - l.length - szEns (l.take j) := by omega
      have HP := Lib.hid hp
      clear hs hp
      obtain ⟨b, o, rfl, hbl, c0, c1, c2, c3, c4, c5, c6, c7, c8, c9⟩ := Ens_at hl' hlt
      go_wp2_with fail
      refine (enSz_small l[j] _ _ (by omega) HP.out).mono ?_
      rintro r w1 ⟨rfl, b1⟩
      have h0 : 0 ≤ n - (l.length : Int) - (szEns (l.take j) : Int) - ((l[j].order.deed.name.size + l[j].order.deed.page.size : Nat) : Int) := by have := HP.out; omega
      go_wp2
      go_roundw
      case rel => exact ⟨j + 1, by go_num, by omega, by rw [HS.out]; go_num, hl'.below b1, next hb b1⟩
      case measure => simp [intOf]; omega
    · have hj' : j = l.length := by omega
      subst hj'
      go_wp2
      go_ret
      exact ⟨ret_int (by rw [List.take_length]), hb⟩
set_option maxHeartbeats 1000000 in
theorem enszS_big (A : Option Addr) (l : List M.En) (cap : Nat) (n : Int) (w : World) (h0 : 0 ≤ n) (h1 : n ≤ 1048576) (hl : Ens w A l) (hlen : l.length ≤ maxLen) (hp : ∀ c ∈ l, enIn maxLen c) (h : n < (l.length + szEns l : Int)) :
    Calls Try.prog 12 #[.slice A l.length cap, .int .i64 n] w fun r w' => r = .returned (.int .i64 (-1)) ∧ Below w.heap.size w w' := by
  unfold maxLen at hlen
  by_cases hshort : n < l.length
  · go_enter Try.func12, Try.ntmps12
    go_wp2
    go_ret
    exact ⟨rfl, Below.refl _ _⟩
  · go_enter Try.func12, Try.ntmps12
    go_wp2
    go_loopw [1, 5] (fun x i wr => ∃ j : Nat, i = .int .i64 j ∧ j ≤ l.length ∧ (szEns (l.take j) : Int) ≤ n - l.length ∧ x = .int .i64 (n - l.length - szEns (l.take j)) ∧ Ens wr A l ∧ Below w.heap.size w wr) (fun _ i _ => l.length - (intOf i).toNat)
    case atStart => exact ⟨0, rfl, Nat.zero_le _, by simp [szEns]; omega, by simp [szEns], hl, Below.refl _ _⟩
    case round =>
      obtain ⟨j, rfl, hj, hle, rfl, hl', hb⟩ := hrel
      by_cases hlt : j < l.length
      · have HS := Lib.hid (szEns_take l j hlt)
        have HPJ := Lib.hid (hp l[j] (List.getElem_mem hlt))
        obtain ⟨b, o, rfl, hbl, c0, c1, c2, c3, c4, c5, c6, c7, c8, c9⟩ := Ens_at hl' hlt
        by_cases hfit : ((l[j].order.deed.name.size + l[j].order.deed.page.size : Nat) : Int) ≤ n - l.length - szEns (l.take j)
        · have HP := Lib.hid hfit
          clear hfit
          go_wp2_with fail
          refine (enSz_small l[j] _ _ (by omega) HP.out).mono ?_
          rintro r w1 ⟨rfl, b1⟩
          have h0 : 0 ≤ n - (l.length : Int) - (szEns (l.take j) : Int) - ((l[j].order.deed.name.size + l[j].order.deed.page.size : Nat) : Int) := by have := HP.out; omega
          go_wp2
          go_roundw
          case rel => exact ⟨j + 1, by go_num, by omega, by rw [HS.out]; have := HP.out; omega, by rw [HS.out]; go_num, hl'.below b1, next hb b1⟩
          case measure => simp [intOf]; omega
        · have HP : Hid (n - l.length - szEns (l.take j) < ((l[j].order.deed.name.size + l[j].order.deed.page.size : Nat) : Int)) := Lib.hid (by omega)
          clear hfit
          go_wp2_with fail
          refine (enSz_big l[j] _ _ (by omega) (by omega) HPJ.out HP.out).mono ?_
          rintro r w1 ⟨rfl, b1⟩
          go_wp2
          go_ret
          exact ⟨rfl, next hb b1⟩
      · have hj' : j = l.length := by omega
        subst hj'
        rw [List.take_length] at hle
        omega

theorem infoEns : (Try.prog.info? 57).map (fun i => (i.zero, i.size, i.bytes)) = some (some (.agg #[.int .i64 0, .int .i64 0, .int .i64 0, .int .i64 0, .string ⟨#[]⟩, .int .i64 0, .int .i64 0, .int .i64 0, .string ⟨#[]⟩, .int .i64 0]), 10, 96) := by kernel_rfl
theorem setEns (xs ys : List Value) (a0 a1 a2 a3 a4 a5 a6 a7 a8 a9 f0 f1 f2 f3 f4 f5 f6 f7 f8 f9 : Value) (n : Nat) (hn : n = xs.length) :
    ((((((((((xs ++ a0 :: a1 :: a2 :: a3 :: a4 :: a5 :: a6 :: a7 :: a8 :: a9 :: ys).set (n) f0).set (n + 1) f1).set (n + 2) f2).set (n + 3) f3).set (n + 4) f4).set (n + 5) f5).set (n + 6) f6).set (n + 7) f7).set (n + 8) f8).set (n + 9) f9 = xs ++ f0 :: f1 :: f2 :: f3 :: f4 :: f5 :: f6 :: f7 :: f8 :: f9 :: ys := by
  subst hn; simp
theorem en_of {l : List Value} {n : Nat} (h : l.length = (n + 1) * 10) : ∃ a0 a1 a2 a3 a4 a5 a6 a7 a8 a9 r, l = a0 :: a1 :: a2 :: a3 :: a4 :: a5 :: a6 :: a7 :: a8 :: a9 :: r ∧ r.length = n * 10 := by
  match l, h with
  | a0 :: a1 :: a2 :: a3 :: a4 :: a5 :: a6 :: a7 :: a8 :: a9 :: r, h => exact ⟨a0, a1, a2, a3, a4, a5, a6, a7, a8, a9, r, rfl, by simp at h; omega⟩
  | [], h => simp at h
  | [_], h => simp at h; omega
  | [_, _], h => simp at h; omega
  | [_, _, _], h => simp at h; omega
  | [_, _, _, _], h => simp at h; omega
  | [_, _, _, _, _], h => simp at h; omega
  | [_, _, _, _, _, _], h => simp at h; omega
  | [_, _, _, _, _, _, _], h => simp at h; omega
  | [_, _, _, _, _, _, _, _], h => simp at h; omega
  | [_, _, _, _, _, _, _, _, _], h => simp at h; omega

theorem own_putEns {w : World} {base e g n cap j : Nat} {xs ys : List Value} {f0 f1 f2 f3 f4 f5 f6 f7 f8 f9 a0 a1 a2 a3 a4 a5 a6 a7 a8 a9 : Value} (h : w.ownsRow base e 10 (.slice (some ⟨g, 0, none⟩) n cap) n (xs ++ a0 :: a1 :: a2 :: a3 :: a4 :: a5 :: a6 :: a7 :: a8 :: a9 :: ys)) (hj : j = xs.length) :
    (((((((((((w.setCell ⟨g, j, none⟩ f0).setCell ⟨g, j + 1, none⟩ f1).setCell ⟨g, j + 2, none⟩ f2).setCell ⟨g, j + 3, none⟩ f3).setCell ⟨g, j + 4, none⟩ f4).setCell ⟨g, j + 5, none⟩ f5).setCell ⟨g, j + 6, none⟩ f6).setCell ⟨g, j + 7, none⟩ f7).setCell ⟨g, j + 8, none⟩ f8).setCell ⟨g, j + 9, none⟩ f9)).ownsRow base e 10 (.slice (some ⟨g, 0, none⟩) n cap) n (xs ++ f0 :: f1 :: f2 :: f3 :: f4 :: f5 :: f6 :: f7 :: f8 :: f9 :: ys) := by
  have := ((((((((((h.stored j f0).1.stored (j + 1) f1).1.stored (j + 2) f2).1.stored (j + 3) f3).1.stored (j + 4) f4).1.stored (j + 5) f5).1.stored (j + 6) f6).1.stored (j + 7) f7).1.stored (j + 8) f8).1.stored (j + 9) f9)
  rw [setEns xs ys a0 a1 a2 a3 a4 a5 a6 a7 a8 a9 f0 f1 f2 f3 f4 f5 f6 f7 f8 f9 j hj] at this
  exact this.1
theorem own_cellsEns {w : World} {base e g n cap j : Nat} {xs ys : List Value} {a0 a1 a2 a3 a4 a5 a6 a7 a8 a9 : Value} (h : w.ownsRow base e 10 (.slice (some ⟨g, 0, none⟩) n cap) n (xs ++ a0 :: a1 :: a2 :: a3 :: a4 :: a5 :: a6 :: a7 :: a8 :: a9 :: ys)) (hj : j = xs.length) :
    (w.cell? ⟨g, j, none⟩ = some a0 ∧ w.cell? ⟨g, j + 1, none⟩ = some a1 ∧ w.cell? ⟨g, j + 2, none⟩ = some a2 ∧ w.cell? ⟨g, j + 3, none⟩ = some a3 ∧ w.cell? ⟨g, j + 4, none⟩ = some a4 ∧ w.cell? ⟨g, j + 5, none⟩ = some a5 ∧ w.cell? ⟨g, j + 6, none⟩ = some a6 ∧ w.cell? ⟨g, j + 7, none⟩ = some a7 ∧ w.cell? ⟨g, j + 8, none⟩ = some a8 ∧ w.cell? ⟨g, j + 9, none⟩ = some a9) ∧
    (w.frozen? ⟨g, j, none⟩ = false ∧ w.frozen? ⟨g, j + 1, none⟩ = false ∧ w.frozen? ⟨g, j + 2, none⟩ = false ∧ w.frozen? ⟨g, j + 3, none⟩ = false ∧ w.frozen? ⟨g, j + 4, none⟩ = false ∧ w.frozen? ⟨g, j + 5, none⟩ = false ∧ w.frozen? ⟨g, j + 6, none⟩ = false ∧ w.frozen? ⟨g, j + 7, none⟩ = false ∧ w.frozen? ⟨g, j + 8, none⟩ = false ∧ w.frozen? ⟨g, j + 9, none⟩ = false) := by
  have hl := h.1
  simp at hl
  subst hj
  refine ⟨⟨?_, ?_, ?_, ?_, ?_, ?_, ?_, ?_, ?_, ?_⟩, h.frozenAt _, h.frozenAt _, h.frozenAt _, h.frozenAt _, h.frozenAt _, h.frozenAt _, h.frozenAt _, h.frozenAt _, h.frozenAt _, h.frozenAt _⟩ <;> (rw [h.cellAt _ (by omega)]; simp)

/-- v is a list of these in memory of one's own from block B on. -/
abbrev EnsOwn (B : Nat) (w : World) (v : Value) (l : List M.En) : Prop := w.ownsRow B 57 10 v l.length (cellsOf enL l)
set_option maxHeartbeats 1000000 in
theorem entoS_any (A : Option Addr) (l : List M.En) (cap : Nat) (w : World) (hl : Ens w A l) (hlen : l.length ≤ 1048576) :
    Calls Try.prog 15 #[.slice A l.length cap] w fun r w' => r = .returned (.slice (some ⟨w.heap.size, 0, none⟩) l.length l.length) ∧ EnsOwn w.heap.size w' (.slice (some ⟨w.heap.size, 0, none⟩) l.length l.length) l ∧ Below w.heap.size w w' := by
  obtain ⟨i0, hi, hz0, hz1, hz2⟩ := info_parts infoEns
  go_enter Try.func15, Try.ntmps15
  go_wp2_with (refine wpList_make_full _ rfl _ _ 31 rfl w.heap.size 57 i0 _ 10 Try.underlying31 hi hz0 hz1 .i64 .i64 _ _ l.length rfl rfl rfl rfl (by rw [hz2]; omega) (by unfold maxLen; omega) (Nat.le_refl _) ?_; intro w1 hown hgrow)
  have b1 : Below w.heap.size w w1 := (Below.refl _ _).grown hgrow (Nat.le_refl _) (fun k hk => by cases hk)
  go_loopw [4] (fun i wr => ∃ (j : Nat) (rest : List Value), i = .int .i64 j ∧ j ≤ l.length ∧ rest.length = (l.length - j) * 10 ∧ wr.ownsRow w.heap.size 57 10 (.slice (some ⟨w.heap.size, 0, none⟩) l.length l.length) l.length (cellsOf enL (l.take j) ++ rest) ∧ Below w.heap.size w wr) (fun i _ => l.length - (intOf i).toNat)
  case atStart => exact ⟨0, _, rfl, Nat.zero_le _, hown.1, hown, b1⟩
  case round =>
    obtain ⟨j, rest, rfl, hj, hr, hown', hb⟩ := hrel
    by_cases hlt : j < l.length
    · obtain ⟨e0, e1, e2, e3, e4, e5, e6, e7, e8, e9, rs, rfl, hrs⟩ := en_of (n := l.length - j - 1) (l := rest) (by rw [hr]; omega)
      have hz : j * 10 = (cellsOf enL (l.take j)).length := by rw [cellsOf_len enL_len, List.length_take, Nat.min_eq_left (by omega)]
      obtain ⟨b, o, rfl, hbl, c0, c1, c2, c3, c4, c5, c6, c7, c8, c9⟩ := Ens_at (hl.below hb) hlt
      have HO := Lib.hid hown'
      have HL := Lib.hid hl
      have HZ := Lib.hid hz
      have HR := Lib.hid hrs
      clear hown hown' hl hz hrs hr
      go_wp2_with fail
      refine (enTo_any l[j] _).mono ?_
      rintro r w2 ⟨rfl, b2⟩
      have ho2 := Own.below HO.out b2
      obtain ⟨⟨k0, k1, k2, k3, k4, k5, k6, k7, k8, k9⟩, g0, g1, g2, g3, g4, g5, g6, g7, g8, g9⟩ := own_cellsEns ho2 HZ.out
      have HO2 := Lib.hid ho2
      clear ho2
      go_wp2
      go_roundw
      case rel =>
        refine ⟨j + 1, rs, by go_num, by omega, by rw [HR.out]; omega, ?_, ?_⟩
        · rw [List.take_succ_eq_append_getElem hlt, cellsOf_append, List.append_assoc]
          exact own_putEns HO2.out HZ.out
        · exact (((((((((((next hb b2).setCell (Nat.le_refl _) _).setCell (Nat.le_refl _) _).setCell (Nat.le_refl _) _).setCell (Nat.le_refl _) _).setCell (Nat.le_refl _) _).setCell (Nat.le_refl _) _).setCell (Nat.le_refl _) _).setCell (Nat.le_refl _) _).setCell (Nat.le_refl _) _).setCell (Nat.le_refl _) _)
      case measure => simp [intOf]; omega
    · have hj' : j = l.length := by omega
      subst hj'
      have hr0 : rest = [] := List.length_eq_zero_iff.1 (by rw [hr]; omega)
      subst hr0
      rw [List.take_length, List.append_nil] at hown'
      have HO := Lib.hid hown'
      clear hown hown' hr
      go_wp2
      go_ret
      exact ⟨rfl, HO.out, hb⟩

set_option maxHeartbeats 1000000 in
theorem eneqS_same (A B : Option Addr) (l : List M.En) (ca cb : Nat) (w : World) (ha : Ens w A l) (hb : Ens w B l) (hlen : l.length ≤ maxLen) :
    Calls Try.prog 17 #[.slice A l.length ca, .slice B l.length cb] w fun r w' => r = .returned (.bool true) ∧ Below w.heap.size w w' := by
  unfold maxLen at hlen
  have he : ((l.length : Int) != (l.length : Int)) = false := by simp
  go_enter Try.func17, Try.ntmps17
  go_wp2
  go_loopw [5] (fun i wr => ∃ j : Nat, i = .int .i64 j ∧ j ≤ l.length ∧ Below w.heap.size w wr) (fun i _ => l.length - (intOf i).toNat)
  case atStart => exact ⟨0, rfl, Nat.zero_le _, Below.refl _ _⟩
  case round =>
    obtain ⟨j, rfl, hj, hbl⟩ := hrel
    by_cases hlt : j < l.length
    · obtain ⟨b, o, rfl, _, c0, c1, c2, c3, c4, c5, c6, c7, c8, c9⟩ := Ens_at (ha.below hbl) hlt
      obtain ⟨b', o', rfl, _, d0, d1, d2, d3, d4, d5, d6, d7, d8, d9⟩ := Ens_at (hb.below hbl) hlt
      have HA := Lib.hid ha
      have HB := Lib.hid hb
      clear ha hb
      go_wp2_with fail
      go_still_tail 8, (by kernel_rfl)
      change wpList _ _ _ _ _ wr.drew
      go_wp2_with fail
      refine (enEq_same l[j] _).mono ?_
      rintro r w1 ⟨rfl, b1⟩
      go_wp2
      go_roundw
      case rel => exact ⟨j + 1, by go_num, by omega, next hbl.drew b1⟩
      case measure => simp [intOf]; omega
    · have hj' : j = l.length := by omega
      subst hj'
      go_wp2
      go_ret
      exact ⟨rfl, hbl⟩
end Go.Proofs.Ytdoeiphnalbinaa
