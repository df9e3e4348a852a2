/- Proved, in parts: Proved: the laws' helpers on one reply and one last (its size, its copy, its likeness) answer plain Lean functions; they write nothing that was there. No condition. Proved: the laws' own test tells an edition like itself; it writes nothing that was there. No condition. Proved: the laws' own tests tell a copy, a list of copies and a work like themselves; they write nothing that was there. No condition. Proved: the laws' helpers on lists of records of the type Last (their size, their copy, their likeness) answer plain Lean functions; they write nothing that was there. Condition: lists of at most a million. Proved: plain facts on the first place of a list at which something is so; no program is named here; no condition. -/
import Derived.Test.YtdoeiphnalbinaaGreatPart08
import Derived.Test.YtdoeiphnalbinaaGreatPart07
import Derived.Test.YtdoeiphnalbinaaGreatPart02
import Derived.StillTailTactics
import Derived.Test.YtdoeiphnalbinaaGreatPart01
namespace Go.Proofs.YtdoeiphnalbinaaGreat
open Go.RowKit
set_option maxRecDepth 20000
abbrev laL (c : M.La) : List Value := [.int .i64 c.client, .int .i64 c.seq, .int .i64 c.code, .string c.page]
abbrev laA (c : M.La) : Array Value := #[.int .i64 c.client, .int .i64 c.seq, .int .i64 c.code, .string c.page]
abbrev laV (c : M.La) : Value := .agg #[.int .i64 c.client, .int .i64 c.seq, .int .i64 c.code, .string c.page]
theorem laL_len (c : M.La) : (laL c).length = 4 := rfl
abbrev laIn (n : Nat) (c : M.La) : Prop := c.page.size ≤ n

set_option maxHeartbeats 400000 in
theorem rpSz_small (c : Int) (p : ByteArray) (n : Int) (w : World) (h1 : n ≤ 1048576) (h : (p.size : Int) ≤ n) :
    Calls Tryz.prog 83 #[rpV c p, .int .i64 n] w fun r w' => r = .returned (.int .i64 (n - p.size)) ∧ Below w.heap.size w w' := by
  go_enter Tryz.func83, Tryz.ntmps83
  go_wp2
  go_ret
  exact ⟨rfl, (Below.refl _ _).alloc (Nat.le_refl _) _⟩
set_option maxHeartbeats 400000 in
theorem rpSz_big (c : Int) (p : ByteArray) (n : Int) (w : World) (h0 : 0 ≤ n) (h1 : n ≤ 1048576) (hp : p.size ≤ maxLen) (h : n < (p.size : Int)) :
    Calls Tryz.prog 83 #[rpV c p, .int .i64 n] w fun r w' => r = .returned (.int .i64 (-1)) ∧ Below w.heap.size w w' := by
  unfold maxLen at hp
  go_enter Tryz.func83, Tryz.ntmps83
  go_wp2
  go_ret
  exact ⟨rfl, (Below.refl _ _).alloc (Nat.le_refl _) _⟩
set_option maxHeartbeats 400000 in
theorem laSz_small (c : M.La) (n : Int) (w : World) (h1 : n ≤ 1048576) (h : (c.page.size : Int) ≤ n) :
    Calls Tryz.prog 57 #[laV c, .int .i64 n] w fun r w' => r = .returned (.int .i64 (n - c.page.size)) ∧ Below w.heap.size w w' := by
  have b0 := (Below.refl w.heap.size w).alloc (Nat.le_refl _) (.cells (laA c) 102)
  have h0 : 0 ≤ n - (c.page.size : Int) := by omega
  go_enter Tryz.func57, Tryz.ntmps57
  go_wp2_with fail
  refine (rpSz_small c.code c.page n _ h1 h).mono ?_
  rintro r w1 ⟨rfl, b1⟩
  go_wp2
  go_ret
  exact ⟨rfl, next b0 b1⟩
set_option maxHeartbeats 400000 in
theorem laSz_big (c : M.La) (n : Int) (w : World) (h0 : 0 ≤ n) (h1 : n ≤ 1048576) (hp : laIn maxLen c) (h : n < (c.page.size : Int)) :
    Calls Tryz.prog 57 #[laV c, .int .i64 n] w fun r w' => r = .returned (.int .i64 (-1)) ∧ Below w.heap.size w w' := by
  have b0 := (Below.refl w.heap.size w).alloc (Nat.le_refl _) (.cells (laA c) 102)
  go_enter Tryz.func57, Tryz.ntmps57
  go_wp2_with fail
  refine (rpSz_big c.code c.page n _ h0 h1 hp h).mono ?_
  rintro r w1 ⟨rfl, b1⟩
  go_wp2
  go_ret
  exact ⟨rfl, next b0 b1⟩
theorem toReply_at (c : Int) (p : ByteArray) (w : World) :
    Calls Tryz.prog 88 #[rpV c p] w fun r w' => r = .returned (rpV c p) ∧ w' = ((w.alloc (.cells (rpA c p) 100)).alloc (.cells (rpA c p) 83)).alloc (.cells (rpA c p) 83) := by
  go_enter Tryz.func88, Tryz.ntmps88
  go_wp2
  exact bodyPost_ret (v := rpV c p) (by simp [results, Tryz.results88, go_sem]) rfl ⟨rfl, rfl⟩
set_option maxHeartbeats 1000000 in
theorem laTo_any (c : M.La) (w : World) :
    Calls Tryz.prog 63 #[laV c] w fun r w' => r = .returned (laV c) ∧ Below w.heap.size w w' := by
  go_enter Tryz.func63, Tryz.ntmps63
  go_wp2_with fail
  refine (toReply_at c.code c.page _).mono ?_
  rintro r w1 ⟨rfl, rfl⟩
  go_wp2
  refine bodyPost_ret (v := laV c) (by simp [results, Tryz.results63, go_sem]) rfl ⟨rfl, ?_⟩
  repeat (first | exact Below.refl _ _ | refine Below.alloc ?_ (by simp <;> omega) _)
set_option maxHeartbeats 1000000 in
theorem laEq_same (c : M.La) (w : World) :
    Calls Tryz.prog 80 #[laV c, laV c] w fun r w' => r = .returned (.bool true) ∧ Below w.heap.size w w' := by
  have h1 : (c.client != c.client) = false := by simp
  have h2 : (c.seq != c.seq) = false := by simp
  have b0 := ((Below.refl w.heap.size w).alloc (Nat.le_refl _) (.cells (laA c) 85)).alloc (by simp) (.cells (laA c) 85)
  go_enter Tryz.func80, Tryz.ntmps80
  go_wp2_with fail
  refine (eqReply_same c.code c.page _).mono ?_
  rintro r w1 ⟨rfl, b1⟩
  go_wp2
  go_ret
  exact ⟨rfl, next b0 b1⟩
end Go.Proofs.YtdoeiphnalbinaaGreat
namespace Go.Proofs.YtdoeiphnalbinaaGreat
open Go.RowKit
set_option maxRecDepth 20000

set_option maxHeartbeats 1000000 in
theorem eqEdition_same (a : M.Ed) (w : World) :
    Calls Tryz.prog 118 #[edV a, edV a] w fun r w' => r = .returned (.bool true) ∧ Below w.heap.size w w' := by
  have h0 : (a.ma != a.ma) = false := by simp
  have h1 : (a.mi != a.mi) = false := by simp
  have h2 : (a.pa != a.pa) = false := by simp
  go_enter Tryz.func118, Tryz.ntmps118
  go_wp2
  go_ret
  exact ⟨rfl, ((Below.refl _ _).alloc (Nat.le_refl _) _).alloc (by simp) _⟩
end Go.Proofs.YtdoeiphnalbinaaGreat
namespace Go.Proofs.YtdoeiphnalbinaaGreat
open Go.RowKit
set_option maxRecDepth 20000

set_option maxHeartbeats 1000000 in
theorem eqCopy_same (c : M.Cp) (w : World) :
    Calls Tryz.prog 119 #[cpV c, cpV c] w fun r w' => r = .returned (.bool true) ∧ Below w.heap.size w w' := by
  have h1 : (c.page.toList != c.page.toList) = false := by simp
  have h2 : (c.hidden != c.hidden) = false := by simp
  have b0 := ((Below.refl w.heap.size w).alloc (Nat.le_refl _) (.cells (cpV c).cells 142)).alloc (by simp) (.cells (cpV c).cells 142)
  go_enter Tryz.func119, Tryz.ntmps119
  go_wp2_with fail
  refine (eqEdition_same c.ed _).mono ?_
  rintro r w1 ⟨rfl, b1⟩
  obtain ⟨c1, f1⟩ := bcell b1
  go_wp2
  go_ret
  exact ⟨rfl, next b0 b1⟩

set_option maxHeartbeats 1000000 in
theorem eqCopyS_same (A B : Option Addr) (l : List M.Cp) (ca cb : Nat) (w : World) (ha : Cps w A l) (hb : Cps w B l) (hlen : l.length ≤ maxLen) :
    Calls Tryz.prog 98 #[.slice A l.length ca, .slice B l.length cb] w fun r w' => r = .returned (.bool true) ∧ Below w.heap.size w w' := by
  unfold maxLen at hlen
  have he : ((l.length : Int) != (l.length : Int)) = false := by simp
  go_enter Tryz.func98, Tryz.ntmps98
  go_wp2
  go_loopw [5] (fun i wr => ∃ j : Nat, i = .int .i64 j ∧ j ≤ l.length ∧ Below w.heap.size w wr) (fun i _ => l.length - (intOf i).toNat)
  case atStart => exact ⟨0, rfl, Nat.zero_le _, Below.refl _ _⟩
  case round =>
    obtain ⟨j, rfl, hj, hbl⟩ := hrel
    by_cases hlt : j < l.length
    · obtain ⟨b, o, rfl, _, c0, c1, c2, c3, c4⟩ := Cps_at (ha.below hbl) hlt
      obtain ⟨b', o', rfl, _, d0, d1, d2, d3, d4⟩ := Cps_at (hb.below hbl) hlt
      have HA := Lib.hid ha
      have HB := Lib.hid hb
      clear ha hb
      go_wp2_with fail
      go_still_tail 8, (by kernel_rfl)
      change wpList _ _ _ _ _ wr.drew
      go_wp2_with fail
      refine (eqCopy_same l[j] _).mono ?_
      rintro r w1 ⟨rfl, b1⟩
      go_wp2
      go_roundw
      case rel => exact ⟨j + 1, by go_num, by omega, next hbl.drew b1⟩
      case measure => simp [intOf]; omega
    · have hj' : j = l.length := by omega
      subst hj'
      go_wp2
      go_ret
      exact ⟨rfl, hbl⟩

set_option maxHeartbeats 1000000 in
theorem eqWork_same (name : ByteArray) (owner : Int) (A B : Option Addr) (l : List M.Cp) (ca cb : Nat) (w : World) (ha : Cps w A l) (hb : Cps w B l) (hlen : l.length ≤ maxLen) :
    Calls Tryz.prog 79 #[wkV name owner A l.length ca, wkV name owner B l.length cb] w fun r w' => r = .returned (.bool true) ∧ Below w.heap.size w w' := by
  have h1 : (name.toList != name.toList) = false := by simp
  have h2 : (owner != owner) = false := by simp
  have b0 := ((Below.refl w.heap.size w).alloc (Nat.le_refl _) (.cells (wkL name owner A l.length ca) 106)).alloc (by simp) (.cells (wkL name owner B l.length cb) 106)
  go_enter Tryz.func79, Tryz.ntmps79
  go_wp2_with fail
  refine (eqCopyS_same A B l ca cb _ ((ha.alloc _).alloc _) ((hb.alloc _).alloc _) hlen).mono ?_
  rintro r w1 ⟨rfl, b1⟩
  go_wp2
  go_ret
  exact ⟨rfl, next b0 b1⟩
end Go.Proofs.YtdoeiphnalbinaaGreat
namespace Go.Proofs.YtdoeiphnalbinaaGreat
open Go.RowKit
set_option maxRecDepth 20000
abbrev Las (w : World) (A : Option Addr) (l : List M.La) : Prop := Flat laL 4 w A l
theorem Las_at {w : World} {A : Option Addr} {l : List M.La} {i : Nat} (h : Las w A l) (hi : i < l.length) : ∃ b o, A = some ⟨b, o, none⟩ ∧ b < w.heap.size ∧
    w.cell? ⟨b, o + i * 4, none⟩ = some (.int .i64 l[i].client) ∧ w.cell? ⟨b, o + i * 4 + 1, none⟩ = some (.int .i64 l[i].seq) ∧ w.cell? ⟨b, o + i * 4 + 2, none⟩ = some (.int .i64 l[i].code) ∧ w.cell? ⟨b, o + i * 4 + 3, none⟩ = some (.string l[i].page) := by
  obtain ⟨b, o, rfl, hb, h⟩ := h.at hi
  exact ⟨b, o, rfl, hb, h 0 _ rfl, h 1 _ rfl, h 2 _ rfl, h 3 _ rfl⟩
def szLas : List M.La → Nat
  | [] => 0
  | c :: l => (c.page.size) + szLas l
theorem szLas_take (l : List M.La) (i : Nat) (h : i < l.length) : szLas (l.take (i + 1)) = szLas (l.take i) + (l[i].page.size) := by
  induction l generalizing i with
  | nil => simp at h
  | cons c l ih =>
    cases i with
    | zero => simp [szLas]
    | succ i => simp [szLas, ih i (by simpa using h)]; omega
theorem szLas_take_le (l : List M.La) (i : Nat) : szLas (l.take i) ≤ szLas l := by
  induction l generalizing i with
  | nil => simp [szLas]
  | cons c l ih =>
    cases i with
    | zero => simp [szLas]
    | succ i => have := ih i; simp [szLas]; omega
theorem szLas_mem (l : List M.La) (c : M.La) (h : c ∈ l) : (c.page.size) ≤ szLas l := by
  induction l with
  | nil => simp at h
  | cons d l ih =>
    rcases List.mem_cons.1 h with rfl | h
    · simp [szLas]
    · have := ih h; simp [szLas]; omega

set_option maxHeartbeats 1000000 in
theorem laszS_small (A : Option Addr) (l : List M.La) (cap : Nat) (n : Int) (w : World) (h1 : n ≤ 1048576) (hl : Las w A l) (h : (l.length + szLas l : Int) ≤ n) :
    Calls Tryz.prog 27 #[.slice A l.length cap, .int .i64 n] w fun r w' => r = .returned (.int .i64 (n - l.length - szLas l)) ∧ Below w.heap.size w w' := by
  go_enter Tryz.func27, Tryz.ntmps27
  go_wp2
  go_loopw [1, 5] (fun x i wr => ∃ j : Nat, i = .int .i64 j ∧ j ≤ l.length ∧ x = .int .i64 (n - l.length - szLas (l.take j)) ∧ Las wr A l ∧ Below w.heap.size w wr) (fun _ i _ => l.length - (intOf i).toNat)
  case atStart => exact ⟨0, rfl, Nat.zero_le _, by simp [szLas], hl, Below.refl _ _⟩
  case round =>
    obtain ⟨j, rfl, hj, rfl, hl', hb⟩ := hrel
    have hle := szLas_take_le l j
    by_cases hlt : j < l.length
    · have hs := szLas_take l j hlt
      have hle' := szLas_take_le l (j + 1)
      have HS := Lib.hid hs
      have hp : ((l[j].page.size : Nat) : Int) ≤ n - l.length - szLas (l.take j) := by omega
      have HP := Lib.hid hp
      clear hs hp
      obtain ⟨b, o, rfl, hbl, c0, c1, c2, c3⟩ := Las_at hl' hlt
      go_wp2_with fail
      refine (laSz_small l[j] _ _ (by omega) HP.out).mono ?_
      rintro r w1 ⟨rfl, b1⟩
      have h0 : 0 ≤ n - (l.length : Int) - (szLas (l.take j) : Int) - ((l[j].page.size : Nat) : Int) := by have := HP.out; omega
      go_wp2
      go_roundw
      case rel => exact ⟨j + 1, by go_num, by omega, by rw [HS.out]; go_num, hl'.below b1, next hb b1⟩
      case measure => simp [intOf]; omega
    · have hj' : j = l.length := by omega
      subst hj'
      go_wp2
      go_ret
      exact ⟨ret_int (by rw [List.take_length]), hb⟩
set_option maxHeartbeats 1000000 in
theorem laszS_big (A : Option Addr) (l : List M.La) (cap : Nat) (n : Int) (w : World) (h0 : 0 ≤ n) (h1 : n ≤ 1048576) (hl : Las w A l) (hlen : l.length ≤ maxLen) (hp : ∀ c ∈ l, laIn maxLen c) (h : n < (l.length + szLas l : Int)) :
    Calls Tryz.prog 27 #[.slice A l.length cap, .int .i64 n] w fun r w' => r = .returned (.int .i64 (-1)) ∧ Below w.heap.size w w' := by
  unfold maxLen at hlen
  by_cases hshort : n < l.length
  · go_enter Tryz.func27, Tryz.ntmps27
    go_wp2
    go_ret
    exact ⟨rfl, Below.refl _ _⟩
  · go_enter Tryz.func27, Tryz.ntmps27
    go_wp2
    go_loopw [1, 5] (fun x i wr => ∃ j : Nat, i = .int .i64 j ∧ j ≤ l.length ∧ (szLas (l.take j) : Int) ≤ n - l.length ∧ x = .int .i64 (n - l.length - szLas (l.take j)) ∧ Las wr A l ∧ Below w.heap.size w wr) (fun _ i _ => l.length - (intOf i).toNat)
    case atStart => exact ⟨0, rfl, Nat.zero_le _, by simp [szLas]; omega, by simp [szLas], hl, Below.refl _ _⟩
    case round =>
      obtain ⟨j, rfl, hj, hle, rfl, hl', hb⟩ := hrel
      by_cases hlt : j < l.length
      · have HS := Lib.hid (szLas_take l j hlt)
        have HPJ := Lib.hid (hp l[j] (List.getElem_mem hlt))
        obtain ⟨b, o, rfl, hbl, c0, c1, c2, c3⟩ := Las_at hl' hlt
        by_cases hfit : ((l[j].page.size : Nat) : Int) ≤ n - l.length - szLas (l.take j)
        · have HP := Lib.hid hfit
          clear hfit
          go_wp2_with fail
          refine (laSz_small l[j] _ _ (by omega) HP.out).mono ?_
          rintro r w1 ⟨rfl, b1⟩
          have h0 : 0 ≤ n - (l.length : Int) - (szLas (l.take j) : Int) - ((l[j].page.size : Nat) : Int) := by have := HP.out; omega
          go_wp2
          go_roundw
          case rel => exact ⟨j + 1, by go_num, by omega, by rw [HS.out]; have := HP.out; omega, by rw [HS.out]; go_num, hl'.below b1, next hb b1⟩
          case measure => simp [intOf]; omega
        · have HP : Hid (n - l.length - szLas (l.take j) < ((l[j].page.size : Nat) : Int)) := Lib.hid (by omega)
          clear hfit
          go_wp2_with fail
          refine (laSz_big l[j] _ _ (by omega) (by omega) HPJ.out HP.out).mono ?_
          rintro r w1 ⟨rfl, b1⟩
          go_wp2
          go_ret
          exact ⟨rfl, next hb b1⟩
      · have hj' : j = l.length := by omega
        subst hj'
        rw [List.take_length] at hle
        omega

theorem infoLas : (Tryz.prog.info? 85).map (fun i => (i.zero, i.size, i.bytes)) = some (some (.agg #[.int .i64 0, .int .i64 0, .int .i64 0, .string ⟨#[]⟩]), 4, 40) := by kernel_rfl
theorem setLas (xs ys : List Value) (a0 a1 a2 a3 f0 f1 f2 f3 : Value) (n : Nat) (hn : n = xs.length) :
    ((((xs ++ a0 :: a1 :: a2 :: a3 :: ys).set (n) f0).set (n + 1) f1).set (n + 2) f2).set (n + 3) f3 = xs ++ f0 :: f1 :: f2 :: f3 :: ys := by
  subst hn; simp
theorem la_of {l : List Value} {n : Nat} (h : l.length = (n + 1) * 4) : ∃ a0 a1 a2 a3 r, l = a0 :: a1 :: a2 :: a3 :: r ∧ r.length = n * 4 := by
  match l, h with
  | a0 :: a1 :: a2 :: a3 :: r, h => exact ⟨a0, a1, a2, a3, r, rfl, by simp at h; omega⟩
  | [], h => simp at h
  | [_], h => simp at h; omega
  | [_, _], h => simp at h; omega
  | [_, _, _], h => simp at h; omega

theorem own_putLas {w : World} {base e g n cap j : Nat} {xs ys : List Value} {f0 f1 f2 f3 a0 a1 a2 a3 : Value} (h : w.ownsRow base e 4 (.slice (some ⟨g, 0, none⟩) n cap) n (xs ++ a0 :: a1 :: a2 :: a3 :: ys)) (hj : j = xs.length) :
    (((((w.setCell ⟨g, j, none⟩ f0).setCell ⟨g, j + 1, none⟩ f1).setCell ⟨g, j + 2, none⟩ f2).setCell ⟨g, j + 3, none⟩ f3)).ownsRow base e 4 (.slice (some ⟨g, 0, none⟩) n cap) n (xs ++ f0 :: f1 :: f2 :: f3 :: ys) := by
  have := ((((h.stored j f0).1.stored (j + 1) f1).1.stored (j + 2) f2).1.stored (j + 3) f3)
  rw [setLas xs ys a0 a1 a2 a3 f0 f1 f2 f3 j hj] at this
  exact this.1
theorem own_cellsLas {w : World} {base e g n cap j : Nat} {xs ys : List Value} {a0 a1 a2 a3 : Value} (h : w.ownsRow base e 4 (.slice (some ⟨g, 0, none⟩) n cap) n (xs ++ a0 :: a1 :: a2 :: a3 :: ys)) (hj : j = xs.length) :
    (w.cell? ⟨g, j, none⟩ = some a0 ∧ w.cell? ⟨g, j + 1, none⟩ = some a1 ∧ w.cell? ⟨g, j + 2, none⟩ = some a2 ∧ w.cell? ⟨g, j + 3, none⟩ = some a3) ∧
    (w.frozen? ⟨g, j, none⟩ = false ∧ w.frozen? ⟨g, j + 1, none⟩ = false ∧ w.frozen? ⟨g, j + 2, none⟩ = false ∧ w.frozen? ⟨g, j + 3, none⟩ = false) := by
  have hl := h.1
  simp at hl
  subst hj
  refine ⟨⟨?_, ?_, ?_, ?_⟩, h.frozenAt _, h.frozenAt _, h.frozenAt _, h.frozenAt _⟩ <;> (rw [h.cellAt _ (by omega)]; simp)

/-- v is a list of these in memory of one's own from block B on. -/
abbrev LasOwn (B : Nat) (w : World) (v : Value) (l : List M.La) : Prop := w.ownsRow B 85 4 v l.length (cellsOf laL l)
set_option maxHeartbeats 1000000 in
theorem latoS_any (A : Option Addr) (l : List M.La) (cap : Nat) (w : World) (hl : Las w A l) (hlen : l.length ≤ 1048576) :
    Calls Tryz.prog 32 #[.slice A l.length cap] w fun r w' => r = .returned (.slice (some ⟨w.heap.size, 0, none⟩) l.length l.length) ∧ LasOwn w.heap.size w' (.slice (some ⟨w.heap.size, 0, none⟩) l.length l.length) l ∧ Below w.heap.size w w' := by
  obtain ⟨i0, hi, hz0, hz1, hz2⟩ := info_parts infoLas
  go_enter Tryz.func32, Tryz.ntmps32
  go_wp2_with (refine wpList_make_full _ rfl _ _ 33 rfl w.heap.size 85 i0 _ 4 Tryz.underlying33 hi hz0 hz1 .i64 .i64 _ _ l.length rfl rfl rfl rfl (by rw [hz2]; omega) (by unfold maxLen; omega) (Nat.le_refl _) ?_; intro w1 hown hgrow)
  have b1 : Below w.heap.size w w1 := (Below.refl _ _).grown hgrow (Nat.le_refl _) (fun k hk => by cases hk)
  go_loopw [4] (fun i wr => ∃ (j : Nat) (rest : List Value), i = .int .i64 j ∧ j ≤ l.length ∧ rest.length = (l.length - j) * 4 ∧ wr.ownsRow w.heap.size 85 4 (.slice (some ⟨w.heap.size, 0, none⟩) l.length l.length) l.length (cellsOf laL (l.take j) ++ rest) ∧ Below w.heap.size w wr) (fun i _ => l.length - (intOf i).toNat)
  case atStart => exact ⟨0, _, rfl, Nat.zero_le _, hown.1, hown, b1⟩
  case round =>
    obtain ⟨j, rest, rfl, hj, hr, hown', hb⟩ := hrel
    by_cases hlt : j < l.length
    · obtain ⟨e0, e1, e2, e3, rs, rfl, hrs⟩ := la_of (n := l.length - j - 1) (l := rest) (by rw [hr]; omega)
      have hz : j * 4 = (cellsOf laL (l.take j)).length := by rw [cellsOf_len laL_len, List.length_take, Nat.min_eq_left (by omega)]
      obtain ⟨b, o, rfl, hbl, c0, c1, c2, c3⟩ := Las_at (hl.below hb) hlt
      have HO := Lib.hid hown'
      have HL := Lib.hid hl
      have HZ := Lib.hid hz
      have HR := Lib.hid hrs
      clear hown hown' hl hz hrs hr
      go_wp2_with fail
      refine (laTo_any l[j] _).mono ?_
      rintro r w2 ⟨rfl, b2⟩
      have ho2 := Own.below HO.out b2
      obtain ⟨⟨k0, k1, k2, k3⟩, g0, g1, g2, g3⟩ := own_cellsLas ho2 HZ.out
      have HO2 := Lib.hid ho2
      clear ho2
      go_wp2
      go_roundw
      case rel =>
        refine ⟨j + 1, rs, by go_num, by omega, by rw [HR.out]; omega, ?_, ?_⟩
        · rw [List.take_succ_eq_append_getElem hlt, cellsOf_append, List.append_assoc]
          exact own_putLas HO2.out HZ.out
        · exact (((((next hb b2).setCell (Nat.le_refl _) _).setCell (Nat.le_refl _) _).setCell (Nat.le_refl _) _).setCell (Nat.le_refl _) _)
      case measure => simp [intOf]; omega
    · have hj' : j = l.length := by omega
      subst hj'
      have hr0 : rest = [] := List.length_eq_zero_iff.1 (by rw [hr]; omega)
      subst hr0
      rw [List.take_length, List.append_nil] at hown'
      have HO := Lib.hid hown'
      clear hown hown' hr
      go_wp2
      go_ret
      exact ⟨rfl, HO.out, hb⟩

set_option maxHeartbeats 1000000 in
theorem laeqS_same (A B : Option Addr) (l : List M.La) (ca cb : Nat) (w : World) (ha : Las w A l) (hb : Las w B l) (hlen : l.length ≤ maxLen) :
    Calls Tryz.prog 54 #[.slice A l.length ca, .slice B l.length cb] w fun r w' => r = .returned (.bool true) ∧ Below w.heap.size w w' := by
  unfold maxLen at hlen
  have he : ((l.length : Int) != (l.length : Int)) = false := by simp
  go_enter Tryz.func54, Tryz.ntmps54
  go_wp2
  go_loopw [5] (fun i wr => ∃ j : Nat, i = .int .i64 j ∧ j ≤ l.length ∧ Below w.heap.size w wr) (fun i _ => l.length - (intOf i).toNat)
  case atStart => exact ⟨0, rfl, Nat.zero_le _, Below.refl _ _⟩
  case round =>
    obtain ⟨j, rfl, hj, hbl⟩ := hrel
    by_cases hlt : j < l.length
    · obtain ⟨b, o, rfl, _, c0, c1, c2, c3⟩ := Las_at (ha.below hbl) hlt
      obtain ⟨b', o', rfl, _, d0, d1, d2, d3⟩ := Las_at (hb.below hbl) hlt
      have HA := Lib.hid ha
      have HB := Lib.hid hb
      clear ha hb
      go_wp2_with fail
      go_still_tail 8, (by kernel_rfl)
      change wpList _ _ _ _ _ wr.drew
      go_wp2_with fail
      refine (laEq_same l[j] _).mono ?_
      rintro r w1 ⟨rfl, b1⟩
      go_wp2
      go_roundw
      case rel => exact ⟨j + 1, by go_num, by omega, next hbl.drew b1⟩
      case measure => simp [intOf]; omega
    · have hj' : j = l.length := by omega
      subst hj'
      go_wp2
      go_ret
      exact ⟨rfl, hbl⟩
theorem LasOwn.open {B : Nat} {w : World} {v : Value} {l : List M.La} (h : LasOwn B w v l) : ∃ A c, v = .slice A l.length c ∧ Las w A l ∧ (A = none → c = 0) := by
  obtain ⟨A, c, hv, hc, hf⟩ := own_flat laL_len h
  refine ⟨A, c, hv, hf, fun hA => ?_⟩
  subst hA
  obtain ⟨_, ⟨h0, hn⟩ | ⟨g, cap, cur, hv', _⟩⟩ := h
  · rw [hv] at h0
    injection h0
  · rw [hv] at hv'
    injection hv' with h1
    cases h1
end Go.Proofs.YtdoeiphnalbinaaGreat
namespace Go.Proofs.YtdoeiphnalbinaaGreat
def GNoneTo {α : Type} (p : α → Bool) (l : List α) (j : Nat) : Prop := ∀ (i : Nat) (h : i < l.length), i < j → p l[i] = false
theorem GNoneTo.zero {α : Type} (p : α → Bool) (l : List α) : GNoneTo p l 0 := fun _ _ h => absurd h (by omega)
theorem GNoneTo.next {α : Type} {p : α → Bool} {l : List α} {j : Nat} (h : GNoneTo p l j) (hj : j < l.length) (hp : p l[j] = false) : GNoneTo p l (j + 1) := fun i hi hij => by
  by_cases e : i = j
  · subst e; exact hp
  · exact h i hi (by omega)
theorem GNoneTo.hit {α : Type} {p : α → Bool} {l : List α} {j : Nat} (h : GNoneTo p l j) (hj : j < l.length) (hp : p l[j] = true) : l.findIdx p = j :=
  (List.findIdx_eq hj).2 ⟨hp, fun i hi => by simpa using h i (by omega) hi⟩
theorem GNoneTo.all {α : Type} {p : α → Bool} {l : List α} (h : GNoneTo p l l.length) : l.findIdx p = l.length :=
  List.findIdx_eq_length.2 fun x hx => by
    obtain ⟨i, hi, rfl⟩ := List.mem_iff_getElem.1 hx
    simp [h i hi hi]
theorem all_findIdxG {α : Type} (q : α → Bool) (l : List α) : ((l.findIdx (fun c => !q c) : Int) == (l.length : Int)) = l.all q := by
  rcases h : l.all q with _ | _
  · have : ¬ l.findIdx (fun c => !q c) = l.length := fun e => by
      have h1 := List.findIdx_eq_length.1 e
      have h2 : l.all q = true := List.all_eq_true.2 fun x hx => by simpa using h1 x hx
      rw [h] at h2; cases h2
    simp only [beq_eq_false_iff_ne]
    omega
  · have : l.findIdx (fun c => !q c) = l.length := List.findIdx_eq_length.2 fun x hx => by simp [List.all_eq_true.1 h x hx]
    rw [this]; simp
/-- Each of the first j is ahead of the next. -/
def GRisesTo {α : Type} (lt : α → α → Bool) (l : List α) (j : Nat) : Prop := ∀ (i : Nat) (h : i + 1 < l.length), i + 1 < j → lt l[i] l[i + 1] = true
def grises {α : Type} (lt : α → α → Bool) : List α → Bool
  | a :: b :: l => lt a b && grises lt (b :: l)
  | _ => true
theorem grises_iff {α : Type} (lt : α → α → Bool) : ∀ l : List α, grises lt l = true ↔ ∀ (i : Nat) (h : i + 1 < l.length), lt l[i] l[i + 1] = true
  | [] => by simp [grises]
  | [a] => by simp [grises]
  | a :: b :: l => by
    have ih := grises_iff lt (b :: l)
    simp only [grises, Bool.and_eq_true, ih]
    constructor
    · rintro ⟨h1, h2⟩ i hi
      cases i with
      | zero => exact h1
      | succ i => exact h2 i (by simpa using hi)
    · intro h
      exact ⟨h 0 (by simp), fun i hi => h (i + 1) (by simpa using hi)⟩
theorem GRisesTo.one {α : Type} (lt : α → α → Bool) (l : List α) : GRisesTo lt l 1 := fun _ _ h => absurd h (by omega)
theorem GRisesTo.next {α : Type} {lt : α → α → Bool} {l : List α} {k : Nat} (h : GRisesTo lt l (k + 1)) (hk : k + 1 < l.length) (ho : lt l[k] l[k + 1] = true) : GRisesTo lt l (k + 2) := fun i hi hij => by
  by_cases e : i = k
  · subst e; exact ho
  · exact h i hi (by omega)
theorem GRisesTo.all {α : Type} {lt : α → α → Bool} {l : List α} {j : Nat} (h : GRisesTo lt l j) (hj : l.length ≤ j) : grises lt l = true := (grises_iff lt l).2 fun i hi => h i hi (by omega)
theorem grises_not {α : Type} {lt : α → α → Bool} {l : List α} {k : Nat} (hk : k + 1 < l.length) (ho : lt l[k] l[k + 1] = false) : grises lt l = false := by
  rcases hc : grises lt l with _ | _
  · rfl
  · have := (grises_iff lt l).1 hc k hk
    rw [ho] at this; cases this
end Go.Proofs.YtdoeiphnalbinaaGreat
