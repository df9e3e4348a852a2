/- Proved, in parts: Proved: the laws' helpers that make a work of the program's own types out of the laws' answer the same work, in new memory; they write nothing that was there. Proved: facts on a list of copies that lies in memory of one's own; no program's function is named here; no condition. Proved: the laws' helper that makes a list of works of the program's own types out of the laws' answers the same works, in new memory, no two lists of which are one; it writes nothing that was there. Proved: which blocks a list of works lies in; no program is named here; no condition. -/
import Derived.Test.YtdoeiphnalbinaaPart02
import Derived.OwnWalk
import Derived.Deep.Onto
namespace Go.Proofs.Ytdoeiphnalbinaa
open Go.RowKit

theorem Own.below {w w' : World} {base e k n : Nat} {v : Value} {xs : List Value} (h : w.ownsRow base e k v n xs) (hb : Below w.heap.size w w') : w'.ownsRow base e k v n xs := by
  obtain ⟨hl, h | ⟨g, cap, cur, hv, h1, hh, h2⟩⟩ := h
  · exact ⟨hl, .inl h⟩
  · exact ⟨hl, .inr ⟨g, cap, cur, hv, h1, (hb.block g (Array.getElem?_eq_some_iff.1 hh).1).trans hh, h2⟩⟩

theorem infoCp : (Try.prog.info? 82).map (fun i => (i.zero, i.size, i.bytes)) = some (some (.agg #[.int .i64 0, .int .i64 0, .int .i64 0, .string ⟨#[]⟩, .bool false]), 5, 48) := by kernel_rfl

set_option maxHeartbeats 1000000 in
theorem toCopy_any (c : M.Cp) (w : World) :
    Calls Try.prog 55 #[cpV c] w fun r w' => r = .returned (cpV c) ∧ Below w.heap.size w w' := by
  go_enter Try.func55, Try.ntmps55
  go_wp2_with fail
  refine (toEdition_at c.ed _).mono ?_
  rintro r w1 ⟨rfl, rfl⟩
  go_wp2
  refine bodyPost_ret (v := cpV c) (by simp [results, Try.results55, go_sem]) rfl ⟨rfl, ?_⟩
  repeat (first | exact Below.refl _ _ | refine Below.alloc ?_ (by simp <;> omega) _)

theorem set5 (xs ys : List Value) (a b c d e f0 f1 f2 f3 f4 : Value) (n : Nat) (hn : n = xs.length) :
    (((((xs ++ a :: b :: c :: d :: e :: ys).set n f0).set (n + 1) f1).set (n + 2) f2).set (n + 3) f3).set (n + 4) f4 = xs ++ f0 :: f1 :: f2 :: f3 :: f4 :: ys := by
  subst hn; simp
theorem five_of {l : List Value} {n : Nat} (h : l.length = (n + 1) * 5) : ∃ a b c d e r, l = a :: b :: c :: d :: e :: r ∧ r.length = n * 5 := by
  match l, h with
  | a :: b :: c :: d :: e :: r, h => exact ⟨a, b, c, d, e, r, rfl, by simp at h; omega⟩
  | [], h => simp at h
  | [_], h => simp at h; omega
  | [_, _], h => simp at h; omega
  | [_, _, _], h => simp at h; omega
  | [_, _, _, _], h => simp at h; omega

/-- Five stores into a row. -/
theorem own_put5 {w : World} {base e g n cap j : Nat} {xs ys : List Value} {f0 f1 f2 f3 f4 : Value} {a b c d r : Value} (h : w.ownsRow base e 5 (.slice (some ⟨g, 0, none⟩) n cap) n (xs ++ a :: b :: c :: d :: r :: ys)) (hj : j = xs.length) :
    (((((w.setCell ⟨g, j, none⟩ f0).setCell ⟨g, j + 1, none⟩ f1).setCell ⟨g, j + 2, none⟩ f2).setCell ⟨g, j + 3, none⟩ f3).setCell ⟨g, j + 4, none⟩ f4).ownsRow base e 5 (.slice (some ⟨g, 0, none⟩) n cap) n (xs ++ f0 :: f1 :: f2 :: f3 :: f4 :: ys) := by
  have := ((((h.stored j f0).1.stored (j + 1) f1).1.stored (j + 2) f2).1.stored (j + 3) f3).1.stored (j + 4) f4
  rw [set5 xs ys a b c d r f0 f1 f2 f3 f4 j hj] at this
  exact this.1
theorem own_cells5 {w : World} {base e g n cap j : Nat} {xs ys : List Value} {a b c d r : Value} (h : w.ownsRow base e 5 (.slice (some ⟨g, 0, none⟩) n cap) n (xs ++ a :: b :: c :: d :: r :: ys)) (hj : j = xs.length) :
    (w.cell? ⟨g, j, none⟩ = some a ∧ w.cell? ⟨g, j + 1, none⟩ = some b ∧ w.cell? ⟨g, j + 2, none⟩ = some c ∧ w.cell? ⟨g, j + 3, none⟩ = some d ∧ w.cell? ⟨g, j + 4, none⟩ = some r) ∧
    (w.frozen? ⟨g, j, none⟩ = false ∧ w.frozen? ⟨g, j + 1, none⟩ = false ∧ w.frozen? ⟨g, j + 2, none⟩ = false ∧ w.frozen? ⟨g, j + 3, none⟩ = false ∧ w.frozen? ⟨g, j + 4, none⟩ = false) := by
  have hl := h.1
  simp at hl
  subst hj
  refine ⟨⟨?_, ?_, ?_, ?_, ?_⟩, h.frozenAt _, h.frozenAt _, h.frozenAt _, h.frozenAt _, h.frozenAt _⟩ <;> (rw [h.cellAt _ (by omega)]; simp)

set_option maxHeartbeats 1000000 in
theorem toCopyS_any (A : Option Addr) (l : List M.Cp) (cap : Nat) (w : World) (hl : Cps w A l) (hlen : l.length ≤ 1048576) :
    Calls Try.prog 48 #[.slice A l.length cap] w fun r w' => r = .returned (.slice (some ⟨w.heap.size, 0, none⟩) l.length l.length) ∧ w'.ownsRow w.heap.size 82 5 (.slice (some ⟨w.heap.size, 0, none⟩) l.length l.length) l.length (cellsOf cpL l) ∧ Below w.heap.size w w' := by
  obtain ⟨i0, hi, hz0, hz1, hz2⟩ := info_parts infoCp
  go_enter Try.func48, Try.ntmps48
  go_wp2_with (refine wpList_make_full _ rfl _ _ 78 rfl w.heap.size 82 i0 _ 5 Try.underlying78 hi hz0 hz1 .i64 .i64 _ _ l.length rfl rfl rfl rfl (by rw [hz2]; omega) (by unfold maxLen; omega) (Nat.le_refl _) ?_; intro w1 hown hgrow)
  have b1 : Below w.heap.size w w1 := (Below.refl _ _).grown hgrow (Nat.le_refl _) (fun k hk => by cases hk)
  go_loopw [4] (fun i wr => ∃ (j : Nat) (rest : List Value), i = .int .i64 j ∧ j ≤ l.length ∧ rest.length = (l.length - j) * 5 ∧ wr.ownsRow w.heap.size 82 5 (.slice (some ⟨w.heap.size, 0, none⟩) l.length l.length) l.length (cellsOf cpL (l.take j) ++ rest) ∧ Below w.heap.size w wr) (fun i _ => l.length - (intOf i).toNat)
  case atStart => exact ⟨0, _, rfl, Nat.zero_le _, hown.1, hown, b1⟩
  case round =>
    obtain ⟨j, rest, rfl, hj, hr, hown', hb⟩ := hrel
    by_cases hlt : j < l.length
    · obtain ⟨e0, e1, e2, e3, e4, rs, rfl, hrs⟩ := five_of (n := l.length - j - 1) (l := rest) (by rw [hr]; omega)
      have hz : j * 5 = (cellsOf cpL (l.take j)).length := by rw [cellsOf_len cpL_len, List.length_take, Nat.min_eq_left (by omega)]
      obtain ⟨b, o, rfl, hbl, c0, c1, c2, c3, c4⟩ := Cps_at (hl.below hb) hlt
      have HO := Lib.hid hown'
      have HL := Lib.hid hl
      have HZ := Lib.hid hz
      have HR := Lib.hid hrs
      clear hown hown' hl hz hrs hr
      go_wp2_with fail
      refine (toCopy_any l[j] _).mono ?_
      rintro r w2 ⟨rfl, b2⟩
      have ho2 := Own.below HO.out b2
      obtain ⟨⟨k0, k1, k2, k3, k4⟩, f0, f1, f2, f3, f4⟩ := own_cells5 ho2 HZ.out
      have HO2 := Lib.hid ho2
      clear ho2
      go_wp2
      go_roundw
      case rel =>
        refine ⟨j + 1, rs, by go_num, by omega, by rw [HR.out]; omega, ?_, ?_⟩
        · rw [List.take_succ_eq_append_getElem hlt, cellsOf_append, List.append_assoc]
          exact own_put5 HO2.out HZ.out
        · exact ((((((next hb b2).setCell (Nat.le_refl _) _).setCell (Nat.le_refl _) _).setCell (Nat.le_refl _) _).setCell (Nat.le_refl _) _).setCell (Nat.le_refl _) _)
      case measure => simp [intOf]; omega
    · have hj' : j = l.length := by omega
      subst hj'
      have hr0 : rest = [] := List.length_eq_zero_iff.1 (by rw [hr]; omega)
      subst hr0
      rw [List.take_length, List.append_nil] at hown'
      have HO := Lib.hid hown'
      clear hown hown' hr
      go_wp2
      go_ret
      exact ⟨rfl, HO.out, hb⟩

set_option maxHeartbeats 1000000 in
theorem toWork_any (name : ByteArray) (owner : Int) (A : Option Addr) (l : List M.Cp) (cap : Nat) (w : World) (hl : Cps w A l) (hlen : l.length ≤ 1048576) :
    Calls Try.prog 38 #[wkV name owner A l.length cap] w fun r w' => ∃ g, r = .returned (wkV name owner (some ⟨g, 0, none⟩) l.length l.length) ∧ w'.ownsRow w.heap.size 82 5 (.slice (some ⟨g, 0, none⟩) l.length l.length) l.length (cellsOf cpL l) ∧ Below w.heap.size w w' := by
  have b0 := (((Below.refl w.heap.size w).alloc (Nat.le_refl _) (.cells (wkL name owner A l.length cap) 89)).alloc (by simp) (.cells (wkL ⟨#[]⟩ 0 none 0 0) 80)).alloc (by simp; omega) (.cells (wkL name owner none 0 0) 80)
  go_enter Try.func38, Try.ntmps38
  go_wp2_with fail
  refine (toCopyS_any A l cap _ (((hl.alloc _).alloc _).alloc _) hlen).mono ?_
  rintro r w1 ⟨rfl, ho, b1⟩
  obtain ⟨c1, f1⟩ := bcell b1
  have HO := Lib.hid ho
  clear ho
  go_wp2
  have ho := HO.out
  simp only [World.size_alloc] at ho
  refine bodyPost_ret (v := wkV name owner (some ⟨w.heap.size + 1 + 1 + 1, 0, none⟩) l.length l.length) (by simp [results, Try.results38, go_sem, c1]) rfl ⟨_, rfl, ?_, ?_⟩
  · exact (ownsRow_setCell_below (ownsRow_setCell_below (ownsRow_setCell_below (ownsRow_setCell_below ho (by simp) _) (by simp) _) (by simp) _) (by simp) _).mono (by omega)
  · exact ((((next b0 b1).setCell (by simp; omega) _).setCell (by simp) _).setCell (by simp) _).setCell (by simp) _
end Go.Proofs.Ytdoeiphnalbinaa
namespace Go.Proofs.Ytdoeiphnalbinaa
open Go.RowKit

/-- v is a list of the copies l, in memory of one's own from block B on. -/
def CpOwn (B : Nat) (w : World) (v : Value) (l : List M.Cp) : Prop := w.ownsRow B 82 5 v l.length (cellsOf cpL l)
theorem CpOwn.below {B : Nat} {w w' : World} {v : Value} {l : List M.Cp} (h : CpOwn B w v l) (hb : Below w.heap.size w w') : CpOwn B w' v l := Own.below h hb
theorem CpOwn.nil (B : Nat) (w : World) : CpOwn B w (.slice none 0 0) [] := World.ownsRow_nil _ _ _ _
theorem CpOwn.open {B : Nat} {w : World} {v : Value} {l : List M.Cp} (h : CpOwn B w v l) : ∃ A c, v = .slice A l.length c ∧ Cps w A l ∧ (A = none → c = 0) := by
  obtain ⟨hl, ⟨rfl, h0⟩ | ⟨g, cap, cur, rfl, hr⟩⟩ := h
  · have : l = [] := List.length_eq_zero_iff.1 h0
    subst this
    exact ⟨none, 0, rfl, .inl rfl, fun _ => rfl⟩
  · obtain ⟨A, c, hv, _, hf⟩ := own_flat (l := l) cpL_len (show w.ownsRow B 82 5 (.slice (some ⟨g, 0, none⟩) l.length cap) l.length (cellsOf cpL l) from ⟨hl, .inr ⟨g, cap, cur, rfl, hr⟩⟩)
    injection hv with hA _ hc
    subst hA hc
    exact ⟨_, _, rfl, hf, fun h => by cases h⟩
theorem CpOwn.off {B : Nat} {w : World} {v : Value} {l : List M.Cp} (h : CpOwn B w v l) {a : Addr} (ha : a.block < B) (u : Value) : CpOwn B (w.setCell a u) v l := ownsRow_setCell_below h ha u
theorem CpOwn.mono {B B' : Nat} {w : World} {v : Value} {l : List M.Cp} (h : CpOwn B w v l) (hb : B' ≤ B) : CpOwn B' w v l := World.ownsRow.mono h hb
theorem CpOwn.cps {B : Nat} {w : World} {A : Option Addr} {n c : Nat} {l : List M.Cp} (h : CpOwn B w (.slice A n c) l) : Cps w A l ∧ n = l.length := by
  obtain ⟨A', c', hv, hf, _⟩ := h.open
  injection hv with hA hn _
  subst hA
  exact ⟨hf, hn⟩
theorem own_differ {u v : Value} {B : Nat} (hu : ∀ k, u.ownBlock = some k → k < B) (hv : ∀ k, v.ownBlock = some k → B ≤ k) : u.ownBlock = none ∨ u.ownBlock ≠ v.ownBlock := by
  rcases h : u.ownBlock with _ | k
  · exact .inl rfl
  · refine .inr fun e => ?_
    have h1 := hu k h
    have h2 := hv k e.symm
    omega
end Go.Proofs.Ytdoeiphnalbinaa
namespace Go.Proofs.Ytdoeiphnalbinaa
open Go.RowKit
set_option maxRecDepth 20000

/-- Where the copies of r lie. -/
abbrev Wr.sl (r : Wr) : Value := .slice r.ad r.cps.length r.cap
/-- Two lists are in two blocks. -/
def Apart (a b : Value) : Prop := a.ownBlock = none ∨ a.ownBlock ≠ b.ownBlock
/-- v is a list of the works l, in memory of one's own from block B on, each list in a block of its own. -/
def SfOwn (B : Nat) (w : World) (v : Value) (l : List Wr) : Prop :=
  w.ownsRow B 80 3 v l.length (cellsOf wrL l) ∧ (∀ r ∈ l, CpOwn B w r.sl r.cps) ∧ (∀ r ∈ l, Apart r.sl v) ∧ l.Pairwise fun a b => Apart a.sl b.sl
theorem SfOwn.below {B : Nat} {w w' : World} {v : Value} {l : List Wr} (h : SfOwn B w v l) (hb : Below w.heap.size w w') : SfOwn B w' v l :=
  ⟨Own.below h.1 hb, fun r hr => (h.2.1 r hr).below hb, h.2.2⟩
theorem SfOwn.mono {B B' : Nat} {w : World} {v : Value} {l : List Wr} (h : SfOwn B w v l) (hb : B' ≤ B) : SfOwn B' w v l :=
  ⟨World.ownsRow.mono h.1 hb, fun r hr => (h.2.1 r hr).mono hb, h.2.2⟩
theorem SfOwn.open {B : Nat} {w : World} {v : Value} {l : List Wr} (h : SfOwn B w v l) : ∃ A c, v = .slice A l.length c ∧ l.length ≤ c ∧ Wks w A l := by
  obtain ⟨A, c, hv, hc, hf⟩ := own_flat wrL_len h.1
  exact ⟨A, c, hv, hc, hf, fun r hr => (h.2.1 r hr).cps.1⟩
theorem SfOwn.wks {B : Nat} {w : World} {A : Option Addr} {n c : Nat} {l : List Wr} (h : SfOwn B w (.slice A n c) l) : Wks w A l ∧ n = l.length := by
  obtain ⟨A', c', hv, _, hw⟩ := h.open
  injection hv with hA hn _
  subst hA
  exact ⟨hw, hn⟩

theorem infoWk : (Try.prog.info? 80).map (fun i => (i.zero, i.size, i.bytes)) = some (some (.agg #[.string ⟨#[]⟩, .int .i64 0, .slice none 0 0]), 3, 48) := by kernel_rfl

theorem set3w (xs ys : List Value) (a b c f0 f1 f2 : Value) (n : Nat) (hn : n = xs.length) :
    (((xs ++ a :: b :: c :: ys).set n f0).set (n + 1) f1).set (n + 2) f2 = xs ++ f0 :: f1 :: f2 :: ys := by
  subst hn; simp
theorem three_of {l : List Value} {n : Nat} (h : l.length = (n + 1) * 3) : ∃ a b c r, l = a :: b :: c :: r ∧ r.length = n * 3 := by
  match l, h with
  | a :: b :: c :: r, h => exact ⟨a, b, c, r, rfl, by simp at h; omega⟩
  | [], h => simp at h
  | [_], h => simp at h; omega
  | [_, _], h => simp at h; omega
/-- Three stores into a row. -/
theorem own_put3 {w : World} {base e g n cap j : Nat} {xs ys : List Value} {f0 f1 f2 : Value} {a b c : Value} (h : w.ownsRow base e 3 (.slice (some ⟨g, 0, none⟩) n cap) n (xs ++ a :: b :: c :: ys)) (hj : j = xs.length) :
    (((w.setCell ⟨g, j, none⟩ f0).setCell ⟨g, j + 1, none⟩ f1).setCell ⟨g, j + 2, none⟩ f2).ownsRow base e 3 (.slice (some ⟨g, 0, none⟩) n cap) n (xs ++ f0 :: f1 :: f2 :: ys) := by
  have := ((h.stored j f0).1.stored (j + 1) f1).1.stored (j + 2) f2
  rw [set3w xs ys a b c f0 f1 f2 j hj] at this
  exact this.1
theorem own_cells3 {w : World} {base e g n cap j : Nat} {xs ys : List Value} {a b c : Value} (h : w.ownsRow base e 3 (.slice (some ⟨g, 0, none⟩) n cap) n (xs ++ a :: b :: c :: ys)) (hj : j = xs.length) :
    (w.cell? ⟨g, j, none⟩ = some a ∧ w.cell? ⟨g, j + 1, none⟩ = some b ∧ w.cell? ⟨g, j + 2, none⟩ = some c) ∧
    (w.frozen? ⟨g, j, none⟩ = false ∧ w.frozen? ⟨g, j + 1, none⟩ = false ∧ w.frozen? ⟨g, j + 2, none⟩ = false) := by
  have hl := h.1
  simp at hl
  subst hj
  refine ⟨⟨?_, ?_, ?_⟩, h.frozenAt _, h.frozenAt _, h.frozenAt _⟩ <;> (rw [h.cellAt _ (by omega)]; simp)

/-- The works that were made so far: each list behind block G, in a block of its own. -/
def Made (G : Nat) (w : World) (rs : List Wr) : Prop :=
  (∀ r ∈ rs, CpOwn (G + 1) w r.sl r.cps ∧ r.ad ≠ none ∧ r.cap = r.cps.length) ∧ rs.Pairwise fun a b => Apart a.sl b.sl
theorem Made.nil (G : Nat) (w : World) : Made G w [] := ⟨by simp, List.Pairwise.nil⟩
theorem Made.below {G : Nat} {w w' : World} {rs : List Wr} (h : Made G w rs) (hb : Below w.heap.size w w') : Made G w' rs :=
  ⟨fun r hr => ⟨(h.1 r hr).1.below hb, (h.1 r hr).2⟩, h.2⟩
theorem Made.set {G : Nat} {w : World} {rs : List Wr} (h : Made G w rs) (i : Nat) (v : Value) : Made G (w.setCell ⟨G, i, none⟩ v) rs :=
  ⟨fun r hr => ⟨(h.1 r hr).1.off (by simp) v, (h.1 r hr).2⟩, h.2⟩
/-- One more, made in a world of its own. -/
theorem Made.snoc {G : Nat} {w w' : World} {rs : List Wr} (h : Made G w rs) (hb : Below w.heap.size w w') (hG : G + 1 ≤ w.heap.size) (r : Wr) (ho : CpOwn w.heap.size w' r.sl r.cps) (hr : r.ad ≠ none ∧ r.cap = r.cps.length) : Made G w' (rs ++ [r]) := by
  refine ⟨fun x hx => ?_, ?_⟩
  · rcases List.mem_append.1 hx with hx | hx
    · exact ⟨(h.1 x hx).1.below hb, (h.1 x hx).2⟩
    · obtain rfl : x = r := by simpa using hx
      exact ⟨ho.mono hG, hr⟩
  · rw [List.pairwise_append]
    refine ⟨h.2, List.pairwise_singleton _ _, fun a ha b hb' => ?_⟩
    obtain rfl : b = r := by simpa using hb'
    exact own_differ (fun k hk => ((h.1 a ha).1.lt k hk).2) (fun k hk => (ho.lt k hk).1)

set_option maxHeartbeats 2000000 in
theorem toWorkS_any (A : Option Addr) (l : List Wr) (cap : Nat) (w : World) (hl : Wks w A l) (hlen : l.length ≤ 1048576) (hp : WrsIn 1048576 l) :
    Calls Try.prog 26 #[.slice A l.length cap] w fun r w' => ∃ rs : List Wr, rs.map Wr.wk = l.map Wr.wk ∧ rs.length = l.length ∧ (∀ x ∈ rs, x.ad ≠ none ∧ x.cap = x.cps.length) ∧ r = .returned (.slice (some ⟨w.heap.size, 0, none⟩) l.length l.length) ∧ SfOwn w.heap.size w' (.slice (some ⟨w.heap.size, 0, none⟩) l.length l.length) rs ∧ Below w.heap.size w w' := by
  obtain ⟨i0, hi, hz0, hz1, hz2⟩ := info_parts infoWk
  have HP := Lib.hid hp
  clear hp
  go_enter Try.func26, Try.ntmps26
  go_wp2_with (refine wpList_make_full _ rfl _ _ 32 rfl w.heap.size 80 i0 _ 3 Try.underlying32 hi hz0 hz1 .i64 .i64 _ _ l.length rfl rfl rfl rfl (by rw [hz2]; omega) (by unfold maxLen; omega) (Nat.le_refl _) ?_; intro w1 hown hgrow)
  have b1 : Below w.heap.size w w1 := (Below.refl _ _).grown hgrow (Nat.le_refl _) (fun k hk => by cases hk)
  go_loopw [4] (fun i wr => ∃ (j : Nat) (rs : List Wr) (rest : List Value), i = .int .i64 j ∧ j ≤ l.length ∧ rs.length = j ∧ rs.map Wr.wk = (l.take j).map Wr.wk ∧ rest.length = (l.length - j) * 3 ∧ wr.ownsRow w.heap.size 80 3 (.slice (some ⟨w.heap.size, 0, none⟩) l.length l.length) l.length (cellsOf wrL rs ++ rest) ∧ Made w.heap.size wr rs ∧ Below w.heap.size w wr) (fun i _ => l.length - (intOf i).toNat)
  case atStart => exact ⟨0, [], _, rfl, Nat.zero_le _, rfl, rfl, hown.1, hown, Made.nil _ _, b1⟩
  case round =>
    obtain ⟨j, rs, rest, rfl, hj, hrl, hrm, hr, hown', hmade, hb⟩ := hrel
    by_cases hlt : j < l.length
    · obtain ⟨e0, e1, e2, rs', rfl, hrs⟩ := three_of (n := l.length - j - 1) (l := rest) (by rw [hr]; omega)
      have hz : j * 3 = (cellsOf wrL rs).length := by rw [cellsOf_len wrL_len, hrl]
      have hsz : w.heap.size + 1 ≤ wr.heap.size := by
        obtain ⟨g, cc, hv, _, hg⟩ := World.ownsRow.form hown' (by omega)
        injection hv with hA _ _
        injection hA with hA
        injection hA with hA _ _
        omega
      obtain ⟨b, o, rfl, hbl, c0, c1, c2, hc⟩ := Wks_at (hl.below hb) hlt
      have HO := Lib.hid hown'
      have HL := Lib.hid hl
      have HZ := Lib.hid hz
      have HR := Lib.hid hrs
      have HM := Lib.hid hmade
      have HC := Lib.hid hc
      have HRM := Lib.hid hrm
      have HRL := Lib.hid hrl
      have hcl := (HP.out l[j] (List.getElem_mem hlt)).2.1
      have HCL := Lib.hid hcl
      clear hown hown' hl hz hrs hr hmade hc hrm hrl hcl
      go_wp2_with fail
      refine (toWork_any l[j].name l[j].owner l[j].ad l[j].cps l[j].cap _ HC.out HCL.out).mono ?_
      rintro r w2 ⟨g, rfl, ho, b2⟩
      have ho2 := Own.below HO.out b2
      obtain ⟨⟨k0, k1, k2⟩, f0, f1, f2⟩ := own_cells3 ho2 HZ.out
      have HO2 := Lib.hid ho2
      have HN := Lib.hid ho
      clear ho2 ho
      go_wp2
      go_roundw
      case rel =>
        refine ⟨j + 1, rs ++ [⟨l[j].name, l[j].owner, some ⟨g, 0, none⟩, l[j].cps.length, l[j].cps⟩], rs', by go_num, by omega, by simp [HRL.out], ?_, by rw [HR.out]; omega, ?_, ?_, ?_⟩
        · rw [List.map_append, HRM.out, List.take_succ_eq_append_getElem hlt, List.map_append]; rfl
        · rw [cellsOf_append, List.append_assoc]
          exact own_put3 HO2.out HZ.out
        · exact (((HM.out.snoc b2 hsz ⟨l[j].name, l[j].owner, some ⟨g, 0, none⟩, l[j].cps.length, l[j].cps⟩ HN.out ⟨by simp, rfl⟩).set _ _).set _ _).set _ _
        · exact (((next hb b2).setCell (Nat.le_refl _) _).setCell (Nat.le_refl _) _).setCell (Nat.le_refl _) _
      case measure => simp [intOf]; omega
    · have hj' : j = l.length := by omega
      subst hj'
      have hr0 : rest = [] := List.length_eq_zero_iff.1 (by rw [hr]; omega)
      subst hr0
      rw [List.append_nil] at hown'
      rw [List.take_length] at hrm
      have HO := Lib.hid hown'
      have HM := Lib.hid hmade
      have HRM := Lib.hid hrm
      have HRL := Lib.hid hrl
      clear hown hown' hr hmade hrm hrl
      go_wp2
      go_ret
      refine ⟨rs, HRM.out, HRL.out, fun x hx => (HM.out.1 x hx).2, rfl, ⟨?_, fun x hx => (HM.out.1 x hx).1.mono (by omega), fun x hx => ?_, HM.out.2⟩, hb⟩
      · have := HO.out
        rw [← HRL.out] at this ⊢
        exact this
      · rcases hx0 : x.sl.ownBlock with _ | k
        · exact .inl hx0
        · refine .inr fun e => ?_
          have := ((HM.out.1 x hx).1.lt k hx0).1
          rw [hx0] at e
          have e' : k = w.heap.size := by injection e
          omega
end Go.Proofs.Ytdoeiphnalbinaa
namespace Go.Proofs.Ytdoeiphnalbinaa
open Go.RowKit
/-- The blocks of a list of works. -/
def blocksS (v : Value) (l : List Wr) (g : Nat) : Prop := v.ownBlock = some g ∨ ∃ r ∈ l, r.sl.ownBlock = some g
theorem SfOwn.ge {B : Nat} {w : World} {v : Value} {l : List Wr} (h : SfOwn B w v l) {g : Nat} (hg : blocksS v l g) : B ≤ g ∧ g < w.heap.size := by
  rcases hg with hg | ⟨r, hr, hg⟩
  · exact World.ownsRow.lt h.1 g hg
  · exact (h.2.1 r hr).lt g hg
end Go.Proofs.Ytdoeiphnalbinaa
