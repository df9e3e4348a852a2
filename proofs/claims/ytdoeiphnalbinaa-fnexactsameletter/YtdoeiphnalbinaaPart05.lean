/- Proved, in parts: Proved: the laws' helpers on lists of records of the type Last (their size, their copy, their likeness) answer plain Lean functions; they write nothing that was there. Condition: lists of at most a million. Proved: plain facts on the first place of a list at which something is so; no program is named here; no condition. Proved: the program's DeedOk, which goes over shapes, answers the same plain Lean function as the model's, at every deed; it writes nothing that was there. Condition: texts of at most maxLen bytes. Proved: the language's own test whether two deeds are alike is whether they are the same; no condition. Proved: the program's DeedOk, which goes over shapes, answers the same plain Lean function as the model's, at every deed; it writes nothing that was there. Condition: texts of at most maxLen bytes. Proved: the model's and the program's tests of an order answer a plain Lean function; the laws' helpers that count and copy an order; nothing that was there is written. Condition: texts of at most what memory has. Proved: the program's WorkOk answers the same plain Lean function as the model's; it writes nothing that was there. Proved: the program's ShelfOk answers as the plain Lean function does; it writes nothing that was there. Condition: texts and lists of at most a million. Proved: the program's test of a book answers a plain Lean function; nothing that was there is written. Condition: texts and lists of at most a million. Proved: the language's own test whether two orders are alike is whether they are alike in each field; no condition. Proved: an operation whose run is told walks on with its value; no program is named here; no condition. Proved: the model's and the program's tests of an entry answer a plain Lean function; nothing that was there is written. Condition: texts of at most what memory has. Proved: where the laws' copy of an order leaves the world. No condition. -/
import Derived.Test.YtdoeiphnalbinaaPart04
import Derived.Test.YtdoeiphnalbinaaPart01
import Derived.Test.YtdoeiphnalbinaaPart02
import Derived.KernelRfl
import Derived.Calls
import Derived.StillTailTactics
import Derived.IntWalk
namespace Go.Proofs.Ytdoeiphnalbinaa
open Go.RowKit
set_option maxRecDepth 20000
abbrev Las (w : World) (A : Option Addr) (l : List M.La) : Prop := Flat laL 4 w A l
theorem Las_at {w : World} {A : Option Addr} {l : List M.La} {i : Nat} (h : Las w A l) (hi : i < l.length) : ∃ b o, A = some ⟨b, o, none⟩ ∧ b < w.heap.size ∧
    w.cell? ⟨b, o + i * 4, none⟩ = some (.int .i64 l[i].client) ∧ w.cell? ⟨b, o + i * 4 + 1, none⟩ = some (.int .i64 l[i].seq) ∧ w.cell? ⟨b, o + i * 4 + 2, none⟩ = some (.int .i64 l[i].code) ∧ w.cell? ⟨b, o + i * 4 + 3, none⟩ = some (.string l[i].page) := by
  obtain ⟨b, o, rfl, hb, h⟩ := h.at hi
  exact ⟨b, o, rfl, hb, h 0 _ rfl, h 1 _ rfl, h 2 _ rfl, h 3 _ rfl⟩
def szLas : List M.La → Nat
  | [] => 0
  | c :: l => (c.page.size) + szLas l
theorem szLas_take (l : List M.La) (i : Nat) (h : i < l.length) : szLas (l.take (i + 1)) = szLas (l.take i) + (l[i].page.size) := by
  induction l generalizing i with
  | nil => simp at h
  | cons c l ih =>
    cases i with
    | zero => simp [szLas]
    | succ i => simp [szLas, ih i (by simpa using h)]; omega
theorem szLas_take_le (l : List M.La) (i : Nat) : szLas (l.take i) ≤ szLas l := by
  induction l generalizing i with
  | nil => simp [szLas]
  | cons c l ih =>
    cases i with
    | zero => simp [szLas]
    | succ i => have := ih i; simp [szLas]; omega
theorem szLas_mem (l : List M.La) (c : M.La) (h : c ∈ l) : (c.page.size) ≤ szLas l := by
  induction l with
  | nil => simp at h
  | cons d l ih =>
    rcases List.mem_cons.1 h with rfl | h
    · simp [szLas]
    · have := ih h; simp [szLas]; omega

set_option maxHeartbeats 1000000 in
theorem laszS_small (A : Option Addr) (l : List M.La) (cap : Nat) (n : Int) (w : World) (h1 : n ≤ 1048576) (hl : Las w A l) (h : (l.length + szLas l : Int) ≤ n) :
    Calls Try.prog 24 #[.slice A l.length cap, .int .i64 n] w fun r w' => r = .returned (.int .i64 (n - l.length - szLas l)) ∧ Below w.heap.size w w' := by
  go_enter Try.func24, Try.ntmps24
  go_wp2
  go_loopw [1, 5] (fun x i wr => ∃ j : Nat, i = .int .i64 j ∧ j ≤ l.length ∧ x = .int .i64 (n - l.length - szLas (l.take j)) ∧ Las wr A l ∧ Below w.heap.size w wr) (fun _ i _ => l.length - (intOf i).toNat)
  case atStart => exact ⟨0, rfl, Nat.zero_le _, by simp [szLas], hl, Below.refl _ _⟩
  case round =>
    obtain ⟨j, rfl, hj, rfl, hl', hb⟩ := hrel
    have hle := szLas_take_le l j
    by_cases hlt : j < l.length
    · have hs := szLas_take l j hlt
      have hle' := szLas_take_le l (j + 1)
      have HS := Lib.hid hs
      have hp : ((l[j].page.size : Nat) : Int) ≤ n - l.length - szLas (l.take j) := by omega
      have HP := Lib.hid hp
      clear hs hp
      obtain ⟨b, o, rfl, hbl, c0, c1, c2, c3⟩ := Las_at hl' hlt
      go_wp2_with fail
      refine (laSz_small l[j] _ _ (by omega) HP.out).mono ?_
      rintro r w1 ⟨rfl, b1⟩
      have h0 : 0 ≤ n - (l.length : Int) - (szLas (l.take j) : Int) - ((l[j].page.size : Nat) : Int) := by have := HP.out; omega
      go_wp2
      go_roundw
      case rel => exact ⟨j + 1, by go_num, by omega, by rw [HS.out]; go_num, hl'.below b1, next hb b1⟩
      case measure => simp [intOf]; omega
    · have hj' : j = l.length := by omega
      subst hj'
      go_wp2
      go_ret
      exact ⟨ret_int (by rw [List.take_length]), hb⟩
set_option maxHeartbeats 1000000 in
theorem laszS_big (A : Option Addr) (l : List M.La) (cap : Nat) (n : Int) (w : World) (h0 : 0 ≤ n) (h1 : n ≤ 1048576) (hl : Las w A l) (hlen : l.length ≤ maxLen) (hp : ∀ c ∈ l, laIn maxLen c) (h : n < (l.length + szLas l : Int)) :
    Calls Try.prog 24 #[.slice A l.length cap, .int .i64 n] w fun r w' => r = .returned (.int .i64 (-1)) ∧ Below w.heap.size w w' := by
  unfold maxLen at hlen
  by_cases hshort : n < l.length
  · go_enter Try.func24, Try.ntmps24
    go_wp2
    go_ret
    exact ⟨rfl, Below.refl _ _⟩
  · go_enter Try.func24, Try.ntmps24
    go_wp2
    go_loopw [1, 5] (fun x i wr => ∃ j : Nat, i = .int .i64 j ∧ j ≤ l.length ∧ (szLas (l.take j) : Int) ≤ n - l.length ∧ x = .int .i64 (n - l.length - szLas (l.take j)) ∧ Las wr A l ∧ Below w.heap.size w wr) (fun _ i _ => l.length - (intOf i).toNat)
    case atStart => exact ⟨0, rfl, Nat.zero_le _, by simp [szLas]; omega, by simp [szLas], hl, Below.refl _ _⟩
    case round =>
      obtain ⟨j, rfl, hj, hle, rfl, hl', hb⟩ := hrel
      by_cases hlt : j < l.length
      · have HS := Lib.hid (szLas_take l j hlt)
        have HPJ := Lib.hid (hp l[j] (List.getElem_mem hlt))
        obtain ⟨b, o, rfl, hbl, c0, c1, c2, c3⟩ := Las_at hl' hlt
        by_cases hfit : ((l[j].page.size : Nat) : Int) ≤ n - l.length - szLas (l.take j)
        · have HP := Lib.hid hfit
          clear hfit
          go_wp2_with fail
          refine (laSz_small l[j] _ _ (by omega) HP.out).mono ?_
          rintro r w1 ⟨rfl, b1⟩
          have h0 : 0 ≤ n - (l.length : Int) - (szLas (l.take j) : Int) - ((l[j].page.size : Nat) : Int) := by have := HP.out; omega
          go_wp2
          go_roundw
          case rel => exact ⟨j + 1, by go_num, by omega, by rw [HS.out]; have := HP.out; omega, by rw [HS.out]; go_num, hl'.below b1, next hb b1⟩
          case measure => simp [intOf]; omega
        · have HP : Hid (n - l.length - szLas (l.take j) < ((l[j].page.size : Nat) : Int)) := Lib.hid (by omega)
          clear hfit
          go_wp2_with fail
          refine (laSz_big l[j] _ _ (by omega) (by omega) HPJ.out HP.out).mono ?_
          rintro r w1 ⟨rfl, b1⟩
          go_wp2
          go_ret
          exact ⟨rfl, next hb b1⟩
      · have hj' : j = l.length := by omega
        subst hj'
        rw [List.take_length] at hle
        omega

theorem infoLas : (Try.prog.info? 77).map (fun i => (i.zero, i.size, i.bytes)) = some (some (.agg #[.int .i64 0, .int .i64 0, .int .i64 0, .string ⟨#[]⟩]), 4, 40) := by kernel_rfl
theorem setLas (xs ys : List Value) (a0 a1 a2 a3 f0 f1 f2 f3 : Value) (n : Nat) (hn : n = xs.length) :
    ((((xs ++ a0 :: a1 :: a2 :: a3 :: ys).set (n) f0).set (n + 1) f1).set (n + 2) f2).set (n + 3) f3 = xs ++ f0 :: f1 :: f2 :: f3 :: ys := by
  subst hn; simp
theorem la_of {l : List Value} {n : Nat} (h : l.length = (n + 1) * 4) : ∃ a0 a1 a2 a3 r, l = a0 :: a1 :: a2 :: a3 :: r ∧ r.length = n * 4 := by
  match l, h with
  | a0 :: a1 :: a2 :: a3 :: r, h => exact ⟨a0, a1, a2, a3, r, rfl, by simp at h; omega⟩
  | [], h => simp at h
  | [_], h => simp at h; omega
  | [_, _], h => simp at h; omega
  | [_, _, _], h => simp at h; omega

theorem own_putLas {w : World} {base e g n cap j : Nat} {xs ys : List Value} {f0 f1 f2 f3 a0 a1 a2 a3 : Value} (h : w.ownsRow base e 4 (.slice (some ⟨g, 0, none⟩) n cap) n (xs ++ a0 :: a1 :: a2 :: a3 :: ys)) (hj : j = xs.length) :
    (((((w.setCell ⟨g, j, none⟩ f0).setCell ⟨g, j + 1, none⟩ f1).setCell ⟨g, j + 2, none⟩ f2).setCell ⟨g, j + 3, none⟩ f3)).ownsRow base e 4 (.slice (some ⟨g, 0, none⟩) n cap) n (xs ++ f0 :: f1 :: f2 :: f3 :: ys) := by
  have := ((((h.stored j f0).1.stored (j + 1) f1).1.stored (j + 2) f2).1.stored (j + 3) f3)
  rw [setLas xs ys a0 a1 a2 a3 f0 f1 f2 f3 j hj] at this
  exact this.1
theorem own_cellsLas {w : World} {base e g n cap j : Nat} {xs ys : List Value} {a0 a1 a2 a3 : Value} (h : w.ownsRow base e 4 (.slice (some ⟨g, 0, none⟩) n cap) n (xs ++ a0 :: a1 :: a2 :: a3 :: ys)) (hj : j = xs.length) :
    (w.cell? ⟨g, j, none⟩ = some a0 ∧ w.cell? ⟨g, j + 1, none⟩ = some a1 ∧ w.cell? ⟨g, j + 2, none⟩ = some a2 ∧ w.cell? ⟨g, j + 3, none⟩ = some a3) ∧
    (w.frozen? ⟨g, j, none⟩ = false ∧ w.frozen? ⟨g, j + 1, none⟩ = false ∧ w.frozen? ⟨g, j + 2, none⟩ = false ∧ w.frozen? ⟨g, j + 3, none⟩ = false) := by
  have hl := h.1
  simp at hl
  subst hj
  refine ⟨⟨?_, ?_, ?_, ?_⟩, h.frozenAt _, h.frozenAt _, h.frozenAt _, h.frozenAt _⟩ <;> (rw [h.cellAt _ (by omega)]; simp)

/-- v is a list of these in memory of one's own from block B on. -/
abbrev LasOwn (B : Nat) (w : World) (v : Value) (l : List M.La) : Prop := w.ownsRow B 77 4 v l.length (cellsOf laL l)
set_option maxHeartbeats 1000000 in
theorem latoS_any (A : Option Addr) (l : List M.La) (cap : Nat) (w : World) (hl : Las w A l) (hlen : l.length ≤ 1048576) :
    Calls Try.prog 27 #[.slice A l.length cap] w fun r w' => r = .returned (.slice (some ⟨w.heap.size, 0, none⟩) l.length l.length) ∧ LasOwn w.heap.size w' (.slice (some ⟨w.heap.size, 0, none⟩) l.length l.length) l ∧ Below w.heap.size w w' := by
  obtain ⟨i0, hi, hz0, hz1, hz2⟩ := info_parts infoLas
  go_enter Try.func27, Try.ntmps27
  go_wp2_with (refine wpList_make_full _ rfl _ _ 33 rfl w.heap.size 77 i0 _ 4 Try.underlying33 hi hz0 hz1 .i64 .i64 _ _ l.length rfl rfl rfl rfl (by rw [hz2]; omega) (by unfold maxLen; omega) (Nat.le_refl _) ?_; intro w1 hown hgrow)
  have b1 : Below w.heap.size w w1 := (Below.refl _ _).grown hgrow (Nat.le_refl _) (fun k hk => by cases hk)
  go_loopw [4] (fun i wr => ∃ (j : Nat) (rest : List Value), i = .int .i64 j ∧ j ≤ l.length ∧ rest.length = (l.length - j) * 4 ∧ wr.ownsRow w.heap.size 77 4 (.slice (some ⟨w.heap.size, 0, none⟩) l.length l.length) l.length (cellsOf laL (l.take j) ++ rest) ∧ Below w.heap.size w wr) (fun i _ => l.length - (intOf i).toNat)
  case atStart => exact ⟨0, _, rfl, Nat.zero_le _, hown.1, hown, b1⟩
  case round =>
    obtain ⟨j, rest, rfl, hj, hr, hown', hb⟩ := hrel
    by_cases hlt : j < l.length
    · obtain ⟨e0, e1, e2, e3, rs, rfl, hrs⟩ := la_of (n := l.length - j - 1) (l := rest) (by rw [hr]; omega)
      have hz : j * 4 = (cellsOf laL (l.take j)).length := by rw [cellsOf_len laL_len, List.length_take, Nat.min_eq_left (by omega)]
      obtain ⟨b, o, rfl, hbl, c0, c1, c2, c3⟩ := Las_at (hl.below hb) hlt
      have HO := Lib.hid hown'
      have HL := Lib.hid hl
      have HZ := Lib.hid hz
      have HR := Lib.hid hrs
      clear hown hown' hl hz hrs hr
      go_wp2_with fail
      refine (laTo_any l[j] _).mono ?_
      rintro r w2 ⟨rfl, b2⟩
      have ho2 := Own.below HO.out b2
      obtain ⟨⟨k0, k1, k2, k3⟩, g0, g1, g2, g3⟩ := own_cellsLas ho2 HZ.out
      have HO2 := Lib.hid ho2
      clear ho2
      go_wp2
      go_roundw
      case rel =>
        refine ⟨j + 1, rs, by go_num, by omega, by rw [HR.out]; omega, ?_, ?_⟩
        · rw [List.take_succ_eq_append_getElem hlt, cellsOf_append, List.append_assoc]
          exact own_putLas HO2.out HZ.out
        · exact (((((next hb b2).setCell (Nat.le_refl _) _).setCell (Nat.le_refl _) _).setCell (Nat.le_refl _) _).setCell (Nat.le_refl _) _)
      case measure => simp [intOf]; omega
    · have hj' : j = l.length := by omega
      subst hj'
      have hr0 : rest = [] := List.length_eq_zero_iff.1 (by rw [hr]; omega)
      subst hr0
      rw [List.take_length, List.append_nil] at hown'
      have HO := Lib.hid hown'
      clear hown hown' hr
      go_wp2
      go_ret
      exact ⟨rfl, HO.out, hb⟩

set_option maxHeartbeats 1000000 in
theorem laeqS_same (A B : Option Addr) (l : List M.La) (ca cb : Nat) (w : World) (ha : Las w A l) (hb : Las w B l) (hlen : l.length ≤ maxLen) :
    Calls Try.prog 30 #[.slice A l.length ca, .slice B l.length cb] w fun r w' => r = .returned (.bool true) ∧ Below w.heap.size w w' := by
  unfold maxLen at hlen
  have he : ((l.length : Int) != (l.length : Int)) = false := by simp
  go_enter Try.func30, Try.ntmps30
  go_wp2
  go_loopw [5] (fun i wr => ∃ j : Nat, i = .int .i64 j ∧ j ≤ l.length ∧ Below w.heap.size w wr) (fun i _ => l.length - (intOf i).toNat)
  case atStart => exact ⟨0, rfl, Nat.zero_le _, Below.refl _ _⟩
  case round =>
    obtain ⟨j, rfl, hj, hbl⟩ := hrel
    by_cases hlt : j < l.length
    · obtain ⟨b, o, rfl, _, c0, c1, c2, c3⟩ := Las_at (ha.below hbl) hlt
      obtain ⟨b', o', rfl, _, d0, d1, d2, d3⟩ := Las_at (hb.below hbl) hlt
      have HA := Lib.hid ha
      have HB := Lib.hid hb
      clear ha hb
      go_wp2_with fail
      go_still_tail 8, (by kernel_rfl)
      change wpList _ _ _ _ _ wr.drew
      go_wp2_with fail
      refine (laEq_same l[j] _).mono ?_
      rintro r w1 ⟨rfl, b1⟩
      go_wp2
      go_roundw
      case rel => exact ⟨j + 1, by go_num, by omega, next hbl.drew b1⟩
      case measure => simp [intOf]; omega
    · have hj' : j = l.length := by omega
      subst hj'
      go_wp2
      go_ret
      exact ⟨rfl, hbl⟩
theorem LasOwn.open {B : Nat} {w : World} {v : Value} {l : List M.La} (h : LasOwn B w v l) : ∃ A c, v = .slice A l.length c ∧ Las w A l ∧ (A = none → c = 0) := by
  obtain ⟨A, c, hv, hc, hf⟩ := own_flat laL_len h
  refine ⟨A, c, hv, hf, fun hA => ?_⟩
  subst hA
  obtain ⟨_, ⟨h0, hn⟩ | ⟨g, cap, cur, hv', _⟩⟩ := h
  · rw [hv] at h0
    injection h0
  · rw [hv] at hv'
    injection hv' with h1
    cases h1
end Go.Proofs.Ytdoeiphnalbinaa
namespace Go.Proofs.Ytdoeiphnalbinaa
def GNoneTo {α : Type} (p : α → Bool) (l : List α) (j : Nat) : Prop := ∀ (i : Nat) (h : i < l.length), i < j → p l[i] = false
theorem GNoneTo.zero {α : Type} (p : α → Bool) (l : List α) : GNoneTo p l 0 := fun _ _ h => absurd h (by omega)
theorem GNoneTo.next {α : Type} {p : α → Bool} {l : List α} {j : Nat} (h : GNoneTo p l j) (hj : j < l.length) (hp : p l[j] = false) : GNoneTo p l (j + 1) := fun i hi hij => by
  by_cases e : i = j
  · subst e; exact hp
  · exact h i hi (by omega)
theorem GNoneTo.all {α : Type} {p : α → Bool} {l : List α} (h : GNoneTo p l l.length) : l.findIdx p = l.length :=
  List.findIdx_eq_length.2 fun x hx => by
    obtain ⟨i, hi, rfl⟩ := List.mem_iff_getElem.1 hx
    simp [h i hi hi]
/-- Each of the first j is ahead of the next. -/
def GRisesTo {α : Type} (lt : α → α → Bool) (l : List α) (j : Nat) : Prop := ∀ (i : Nat) (h : i + 1 < l.length), i + 1 < j → lt l[i] l[i + 1] = true
def grises {α : Type} (lt : α → α → Bool) : List α → Bool
  | a :: b :: l => lt a b && grises lt (b :: l)
  | _ => true
theorem grises_iff {α : Type} (lt : α → α → Bool) : ∀ l : List α, grises lt l = true ↔ ∀ (i : Nat) (h : i + 1 < l.length), lt l[i] l[i + 1] = true
  | [] => by simp [grises]
  | [a] => by simp [grises]
  | a :: b :: l => by
    have ih := grises_iff lt (b :: l)
    simp only [grises, Bool.and_eq_true, ih]
    constructor
    · rintro ⟨h1, h2⟩ i hi
      cases i with
      | zero => exact h1
      | succ i => exact h2 i (by simpa using hi)
    · intro h
      exact ⟨h 0 (by simp), fun i hi => h (i + 1) (by simpa using hi)⟩
theorem GRisesTo.one {α : Type} (lt : α → α → Bool) (l : List α) : GRisesTo lt l 1 := fun _ _ h => absurd h (by omega)
theorem GRisesTo.next {α : Type} {lt : α → α → Bool} {l : List α} {k : Nat} (h : GRisesTo lt l (k + 1)) (hk : k + 1 < l.length) (ho : lt l[k] l[k + 1] = true) : GRisesTo lt l (k + 2) := fun i hi hij => by
  by_cases e : i = k
  · subst e; exact ho
  · exact h i hi (by omega)
theorem GRisesTo.all {α : Type} {lt : α → α → Bool} {l : List α} {j : Nat} (h : GRisesTo lt l j) (hj : l.length ≤ j) : grises lt l = true := (grises_iff lt l).2 fun i hi => h i hi (by omega)
end Go.Proofs.Ytdoeiphnalbinaa
namespace Go.Proofs.Ytdoeiphnalbinaa
open Go.RowKit
set_option maxRecDepth 20000

end Go.Proofs.Ytdoeiphnalbinaa
namespace Go.Proofs.Ytdoeiphnalbinaa
open Go.RowKit
set_option maxRecDepth 20000

theorem txt_other {a b : ByteArray} (h : ¬ a = b) : ¬ a.toList = b.toList := fun e => h (ba_ext (by rw [ByteArray.toList_eq, ByteArray.toList_eq] at e; exact e))

end Go.Proofs.Ytdoeiphnalbinaa
namespace Go.Proofs.Ytdoeiphnalbinaa
open Go.RowKit
set_option maxRecDepth 20000

end Go.Proofs.Ytdoeiphnalbinaa
namespace Go.Proofs.Ytdoeiphnalbinaa
open Go.RowKit
set_option maxRecDepth 20000
set_option maxHeartbeats 2000000 in
theorem szOrder_big (o : M.Or) (n : Int) (w : World) (h0 : 0 ≤ n) (hn : n ≤ 1048576) (hnm : o.deed.name.size ≤ maxLen) (hp : o.deed.page.size ≤ maxLen) (h : n < (o.deed.name.size + o.deed.page.size : Int)) :
    Calls Try.prog 34 #[orV o, .int .i64 n] w fun r w' => r = .returned (.int .i64 (-1)) ∧ Below w.heap.size w w' := by
  have b0 := (Below.refl w.heap.size w).alloc (Nat.le_refl _) (.cells (orC o) 63)
  go_enter Try.func34, Try.ntmps34
  go_wp2_with fail
  refine (szDeed_bigN o.deed n _ h0 hn hnm hp h).mono ?_
  rintro r w1 ⟨rfl, b1⟩
  go_wp2
  go_ret
  exact ⟨rfl, next b0 b1⟩

abbrev edC (e : M.Ed) : Array Value := #[.int .i64 e.ma, .int .i64 e.mi, .int .i64 e.pa]
/-- Where toDeed leaves the world. -/
abbrev ddMade (d : M.Dd) (w : World) : World := (((((w.alloc (.cells (ddC d) 61)).alloc (.cells (ddC d) 53)).alloc (.cells (ddC d) 53)).alloc (.cells (edC d.ed) 59)).alloc (.cells (edC d.ed) 51)).alloc (.cells (edC d.ed) 51)
set_option maxHeartbeats 1000000 in
theorem toDeed_at (d : M.Dd) (w : World) :
    Calls Try.prog 47 #[ddV d] w fun r w' => r = .returned (ddV d) ∧ w' = ddMade d w := by
  go_enter Try.func47, Try.ntmps47
  go_wp2_with fail
  refine (toEdition_at d.ed _).mono ?_
  rintro r w1 ⟨rfl, rfl⟩
  go_wp2
  exact bodyPost_ret (v := ddV d) (by simp [results, Try.results47, go_sem]) rfl ⟨rfl, rfl⟩
end Go.Proofs.Ytdoeiphnalbinaa
namespace Go.Proofs.Ytdoeiphnalbinaa
open Go.RowKit
set_option maxRecDepth 20000

/-- None of the first j is so. -/
def NoneTo (p : M.Cp → Bool) (l : List M.Cp) (j : Nat) : Prop := ∀ (i : Nat) (h : i < l.length), i < j → p l[i] = false
theorem NoneTo.zero (p : M.Cp → Bool) (l : List M.Cp) : NoneTo p l 0 := fun _ _ h => absurd h (by omega)
theorem NoneTo.next {p : M.Cp → Bool} {l : List M.Cp} {j : Nat} (h : NoneTo p l j) (hj : j < l.length) (hp : p l[j] = false) : NoneTo p l (j + 1) := fun i hi hij => by
  by_cases e : i = j
  · subst e; exact hp
  · exact h i hi (by omega)
theorem NoneTo.all {p : M.Cp → Bool} {l : List M.Cp} (h : NoneTo p l l.length) : l.findIdx p = l.length :=
  List.findIdx_eq_length.2 fun x hx => by
    obtain ⟨i, hi, rfl⟩ := List.mem_iff_getElem.1 hx
    simp [h i hi hi]

/-- Each of the first j is older than the next. -/
def RisesTo (l : List M.Cp) (j : Nat) : Prop := ∀ (i : Nat) (h : i + 1 < l.length), i + 1 < j → M.older l[i].ed l[i + 1].ed = true
theorem RisesTo.one (l : List M.Cp) : RisesTo l 1 := fun _ _ h => absurd h (by omega)
theorem RisesTo.next {l : List M.Cp} {k : Nat} (h : RisesTo l (k + 1)) (hk : k + 1 < l.length) (ho : M.older l[k].ed l[k + 1].ed = true) : RisesTo l (k + 2) := fun i hi hij => by
  by_cases e : i = k
  · subst e; exact ho
  · exact h i hi (by omega)
theorem RisesTo.all {l : List M.Cp} {j : Nat} (h : RisesTo l j) (hj : l.length ≤ j) : M.risesB l = true := (M.risesB_iff l).2 fun i hi => h i hi (by omega)
end Go.Proofs.Ytdoeiphnalbinaa
namespace Go.Proofs.Ytdoeiphnalbinaa
open Go.RowKit
set_option maxRecDepth 20000

def WNoneTo (p : Wr → Bool) (l : List Wr) (j : Nat) : Prop := ∀ (i : Nat) (h : i < l.length), i < j → p l[i] = false
theorem WNoneTo.zero (p : Wr → Bool) (l : List Wr) : WNoneTo p l 0 := fun _ _ h => absurd h (by omega)
theorem WNoneTo.next {p : Wr → Bool} {l : List Wr} {j : Nat} (h : WNoneTo p l j) (hj : j < l.length) (hp : p l[j] = false) : WNoneTo p l (j + 1) := fun i hi hij => by
  by_cases e : i = j
  · subst e; exact hp
  · exact h i hi (by omega)
theorem WNoneTo.all {p : Wr → Bool} {l : List Wr} (h : WNoneTo p l l.length) : l.findIdx p = l.length :=
  List.findIdx_eq_length.2 fun x hx => by
    obtain ⟨i, hi, rfl⟩ := List.mem_iff_getElem.1 hx
    simp [h i hi hi]

/-- Each of the first j is ahead of the next. -/
def WRisesTo (l : List Wr) (j : Nat) : Prop := ∀ (i : Nat) (h : i + 1 < l.length), i + 1 < j → M.nameLt l[i].name l[i + 1].name = true
theorem WRisesTo.one (l : List Wr) : WRisesTo l 1 := fun _ _ h => absurd h (by omega)
theorem WRisesTo.next {l : List Wr} {k : Nat} (h : WRisesTo l (k + 1)) (hk : k + 1 < l.length) (ho : M.nameLt l[k].name l[k + 1].name = true) : WRisesTo l (k + 2) := fun i hi hij => by
  by_cases e : i = k
  · subst e; exact ho
  · exact h i hi (by omega)
theorem WRisesTo.all {l : List Wr} {j : Nat} (h : WRisesTo l j) (hj : l.length ≤ j) : M.risesN (l.map Wr.wk) = true := (M.risesN_iff _).2 fun i hi => by
  have hi' : i + 1 < l.length := by simpa using hi
  simpa [Wr.wk] using h i hi' (by omega)
end Go.Proofs.Ytdoeiphnalbinaa
namespace Go.Proofs.Ytdoeiphnalbinaa
open Go.RowKit
set_option maxRecDepth 20000
namespace M
end M
/-- A book: its works in memory, its lasts. -/
abbrev bkA (A : Option Addr) (n c : Nat) (B : Option Addr) (m e : Nat) : Array Value := #[.slice A n c, .slice B m e]
abbrev bkV (A : Option Addr) (n c : Nat) (B : Option Addr) (m e : Nat) : Value := .agg (bkA A n c B m e)

end Go.Proofs.Ytdoeiphnalbinaa
namespace Go.Proofs.Ytdoeiphnalbinaa
open Go.RowKit
set_option maxRecDepth 20000
namespace M
def orEq (a b : Or) : Bool := ((a.client == b.client) && ((a.seq == b.seq) && ((a.deed.kind == b.deed.kind) && (decide (a.deed.name = b.deed.name) && ((a.deed.ed.ma == b.deed.ed.ma) && ((a.deed.ed.mi == b.deed.ed.mi) && ((a.deed.ed.pa == b.deed.ed.pa) && (decide (a.deed.page = b.deed.page) && (a.deed.who == b.deed.who)))))))))
end M
end Go.Proofs.Ytdoeiphnalbinaa
namespace Go.Proofs.Ytdoeiphnalbinaa
open Go Go.RowKit
end Go.Proofs.Ytdoeiphnalbinaa
namespace Go.Proofs.Ytdoeiphnalbinaa
open Go.RowKit
set_option maxRecDepth 20000
namespace M
def or0 : Or := ⟨0, 0, zeroDd⟩
def entryOk (e : En) : Bool := inI e.reign 1 1000 && (orEq e.order or0 || orderOk e.order)
end M
end Go.Proofs.Ytdoeiphnalbinaa
namespace Go.Proofs.Ytdoeiphnalbinaa
open Go.RowKit
set_option maxRecDepth 20000
/-- Where toOrder leaves the world. -/
abbrev orMade (o : M.Or) (w : World) : World := ddMade o.deed (((w.alloc (.cells (orC o) 63)).alloc (.cells (orC o) 55)).alloc (.cells (orC o) 55))
set_option maxHeartbeats 4000000 in
theorem toOrder_at (o : M.Or) (w : World) :
    Calls Try.prog 37 #[orV o] w fun r w' => r = .returned (orV o) ∧ w' = orMade o w := by
  go_enter Try.func37, Try.ntmps37
  go_wp2_with fail
  refine (toDeed_at o.deed _).mono ?_
  rintro r w1 ⟨rfl, rfl⟩
  go_wp2
  exact bodyPost_ret (v := orV o) (by simp [results, Try.results37, go_sem]) rfl ⟨rfl, rfl⟩
end Go.Proofs.Ytdoeiphnalbinaa
