/- Proved, in parts: Proved: the laws' helper that makes a list of works of the program's own types out of the laws' answers the same works, in new memory, no two lists of which are one; it writes nothing that was there. Proved: which blocks a list of works lies in; no program is named here; no condition. Proved: a value whose lists lie in memory of one's own, no two in one block, told as a list of components: how two such lists are joined, what new memory leaves of them. No program's function is named here; no condition. Proved: plain facts on orders, lasts and books; no program is named here; no condition. Proved: how an entry stands in memory; no program is named here; no condition. Proved: a book as plain data, and when two are the same; numbers in their bounds. No program is named here; no condition. Proved: nothing; what a reply's cells are. Proved: the laws' own test tells two replies alike that are; the laws' helper counts a deed; they write nothing that was there. -/
import Derived.Test.YtdoeiphnalbinaaGreatPart05
import Derived.Test.YtdoeiphnalbinaaGreatPart07
import Derived.Test.YtdoeiphnalbinaaGreatPart02
import Derived.Test.YtdoeiphnalbinaaGreatPart01
namespace Go.Proofs.YtdoeiphnalbinaaGreat
open Go.RowKit
set_option maxRecDepth 20000

/-- Where the copies of r lie. -/
abbrev Wr.sl (r : Wr) : Value := .slice r.ad r.cps.length r.cap
/-- Two lists are in two blocks. -/
def Apart (a b : Value) : Prop := a.ownBlock = none ∨ a.ownBlock ≠ b.ownBlock
/-- v is a list of the works l, in memory of one's own from block B on, each list in a block of its own. -/
def SfOwn (B : Nat) (w : World) (v : Value) (l : List Wr) : Prop :=
  w.ownsRow B 106 3 v l.length (cellsOf wrL l) ∧ (∀ r ∈ l, CpOwn B w r.sl r.cps) ∧ (∀ r ∈ l, Apart r.sl v) ∧ l.Pairwise fun a b => Apart a.sl b.sl
theorem SfOwn.below {B : Nat} {w w' : World} {v : Value} {l : List Wr} (h : SfOwn B w v l) (hb : Below w.heap.size w w') : SfOwn B w' v l :=
  ⟨Own.below h.1 hb, fun r hr => (h.2.1 r hr).below hb, h.2.2⟩
theorem SfOwn.mono {B B' : Nat} {w : World} {v : Value} {l : List Wr} (h : SfOwn B w v l) (hb : B' ≤ B) : SfOwn B' w v l :=
  ⟨World.ownsRow.mono h.1 hb, fun r hr => (h.2.1 r hr).mono hb, h.2.2⟩
theorem SfOwn.open {B : Nat} {w : World} {v : Value} {l : List Wr} (h : SfOwn B w v l) : ∃ A c, v = .slice A l.length c ∧ l.length ≤ c ∧ Wks w A l := by
  obtain ⟨A, c, hv, hc, hf⟩ := own_flat wrL_len h.1
  exact ⟨A, c, hv, hc, hf, fun r hr => (h.2.1 r hr).cps.1⟩
theorem SfOwn.wks {B : Nat} {w : World} {A : Option Addr} {n c : Nat} {l : List Wr} (h : SfOwn B w (.slice A n c) l) : Wks w A l ∧ n = l.length := by
  obtain ⟨A', c', hv, _, hw⟩ := h.open
  injection hv with hA hn _
  subst hA
  exact ⟨hw, hn⟩

theorem infoWk : (Tryz.prog.info? 106).map (fun i => (i.zero, i.size, i.bytes)) = some (some (.agg #[.string ⟨#[]⟩, .int .i64 0, .slice none 0 0]), 3, 48) := by kernel_rfl

theorem set3w (xs ys : List Value) (a b c f0 f1 f2 : Value) (n : Nat) (hn : n = xs.length) :
    (((xs ++ a :: b :: c :: ys).set n f0).set (n + 1) f1).set (n + 2) f2 = xs ++ f0 :: f1 :: f2 :: ys := by
  subst hn; simp
theorem three_of {l : List Value} {n : Nat} (h : l.length = (n + 1) * 3) : ∃ a b c r, l = a :: b :: c :: r ∧ r.length = n * 3 := by
  match l, h with
  | a :: b :: c :: r, h => exact ⟨a, b, c, r, rfl, by simp at h; omega⟩
  | [], h => simp at h
  | [_], h => simp at h; omega
  | [_, _], h => simp at h; omega
/-- Three stores into a row. -/
theorem own_put3 {w : World} {base e g n cap j : Nat} {xs ys : List Value} {f0 f1 f2 : Value} {a b c : Value} (h : w.ownsRow base e 3 (.slice (some ⟨g, 0, none⟩) n cap) n (xs ++ a :: b :: c :: ys)) (hj : j = xs.length) :
    (((w.setCell ⟨g, j, none⟩ f0).setCell ⟨g, j + 1, none⟩ f1).setCell ⟨g, j + 2, none⟩ f2).ownsRow base e 3 (.slice (some ⟨g, 0, none⟩) n cap) n (xs ++ f0 :: f1 :: f2 :: ys) := by
  have := ((h.stored j f0).1.stored (j + 1) f1).1.stored (j + 2) f2
  rw [set3w xs ys a b c f0 f1 f2 j hj] at this
  exact this.1
theorem own_cells3 {w : World} {base e g n cap j : Nat} {xs ys : List Value} {a b c : Value} (h : w.ownsRow base e 3 (.slice (some ⟨g, 0, none⟩) n cap) n (xs ++ a :: b :: c :: ys)) (hj : j = xs.length) :
    (w.cell? ⟨g, j, none⟩ = some a ∧ w.cell? ⟨g, j + 1, none⟩ = some b ∧ w.cell? ⟨g, j + 2, none⟩ = some c) ∧
    (w.frozen? ⟨g, j, none⟩ = false ∧ w.frozen? ⟨g, j + 1, none⟩ = false ∧ w.frozen? ⟨g, j + 2, none⟩ = false) := by
  have hl := h.1
  simp at hl
  subst hj
  refine ⟨⟨?_, ?_, ?_⟩, h.frozenAt _, h.frozenAt _, h.frozenAt _⟩ <;> (rw [h.cellAt _ (by omega)]; simp)

/-- The works that were made so far: each list behind block G, in a block of its own. -/
def Made (G : Nat) (w : World) (rs : List Wr) : Prop :=
  (∀ r ∈ rs, CpOwn (G + 1) w r.sl r.cps ∧ r.ad ≠ none ∧ r.cap = r.cps.length) ∧ rs.Pairwise fun a b => Apart a.sl b.sl
theorem Made.nil (G : Nat) (w : World) : Made G w [] := ⟨by simp, List.Pairwise.nil⟩
theorem Made.below {G : Nat} {w w' : World} {rs : List Wr} (h : Made G w rs) (hb : Below w.heap.size w w') : Made G w' rs :=
  ⟨fun r hr => ⟨(h.1 r hr).1.below hb, (h.1 r hr).2⟩, h.2⟩
theorem Made.set {G : Nat} {w : World} {rs : List Wr} (h : Made G w rs) (i : Nat) (v : Value) : Made G (w.setCell ⟨G, i, none⟩ v) rs :=
  ⟨fun r hr => ⟨(h.1 r hr).1.off (by simp) v, (h.1 r hr).2⟩, h.2⟩
/-- One more, made in a world of its own. -/
theorem Made.snoc {G : Nat} {w w' : World} {rs : List Wr} (h : Made G w rs) (hb : Below w.heap.size w w') (hG : G + 1 ≤ w.heap.size) (r : Wr) (ho : CpOwn w.heap.size w' r.sl r.cps) (hr : r.ad ≠ none ∧ r.cap = r.cps.length) : Made G w' (rs ++ [r]) := by
  refine ⟨fun x hx => ?_, ?_⟩
  · rcases List.mem_append.1 hx with hx | hx
    · exact ⟨(h.1 x hx).1.below hb, (h.1 x hx).2⟩
    · obtain rfl : x = r := by simpa using hx
      exact ⟨ho.mono hG, hr⟩
  · rw [List.pairwise_append]
    refine ⟨h.2, List.pairwise_singleton _ _, fun a ha b hb' => ?_⟩
    obtain rfl : b = r := by simpa using hb'
    exact own_differ (fun k hk => ((h.1 a ha).1.lt k hk).2) (fun k hk => (ho.lt k hk).1)

set_option maxHeartbeats 2000000 in
theorem toWorkS_any (A : Option Addr) (l : List Wr) (cap : Nat) (w : World) (hl : Wks w A l) (hlen : l.length ≤ 1048576) (hp : WrsIn 1048576 l) :
    Calls Tryz.prog 31 #[.slice A l.length cap] w fun r w' => ∃ rs : List Wr, rs.map Wr.wk = l.map Wr.wk ∧ rs.length = l.length ∧ (∀ x ∈ rs, x.ad ≠ none ∧ x.cap = x.cps.length) ∧ r = .returned (.slice (some ⟨w.heap.size, 0, none⟩) l.length l.length) ∧ SfOwn w.heap.size w' (.slice (some ⟨w.heap.size, 0, none⟩) l.length l.length) rs ∧ Below w.heap.size w w' := by
  obtain ⟨i0, hi, hz0, hz1, hz2⟩ := info_parts infoWk
  have HP := Lib.hid hp
  clear hp
  go_enter Tryz.func31, Tryz.ntmps31
  go_wp2_with (refine wpList_make_full _ rfl _ _ 32 rfl w.heap.size 106 i0 _ 3 Tryz.underlying32 hi hz0 hz1 .i64 .i64 _ _ l.length rfl rfl rfl rfl (by rw [hz2]; omega) (by unfold maxLen; omega) (Nat.le_refl _) ?_; intro w1 hown hgrow)
  have b1 : Below w.heap.size w w1 := (Below.refl _ _).grown hgrow (Nat.le_refl _) (fun k hk => by cases hk)
  go_loopw [4] (fun i wr => ∃ (j : Nat) (rs : List Wr) (rest : List Value), i = .int .i64 j ∧ j ≤ l.length ∧ rs.length = j ∧ rs.map Wr.wk = (l.take j).map Wr.wk ∧ rest.length = (l.length - j) * 3 ∧ wr.ownsRow w.heap.size 106 3 (.slice (some ⟨w.heap.size, 0, none⟩) l.length l.length) l.length (cellsOf wrL rs ++ rest) ∧ Made w.heap.size wr rs ∧ Below w.heap.size w wr) (fun i _ => l.length - (intOf i).toNat)
  case atStart => exact ⟨0, [], _, rfl, Nat.zero_le _, rfl, rfl, hown.1, hown, Made.nil _ _, b1⟩
  case round =>
    obtain ⟨j, rs, rest, rfl, hj, hrl, hrm, hr, hown', hmade, hb⟩ := hrel
    by_cases hlt : j < l.length
    · obtain ⟨e0, e1, e2, rs', rfl, hrs⟩ := three_of (n := l.length - j - 1) (l := rest) (by rw [hr]; omega)
      have hz : j * 3 = (cellsOf wrL rs).length := by rw [cellsOf_len wrL_len, hrl]
      have hsz : w.heap.size + 1 ≤ wr.heap.size := by
        obtain ⟨g, cc, hv, _, hg⟩ := World.ownsRow.form hown' (by omega)
        injection hv with hA _ _
        injection hA with hA
        injection hA with hA _ _
        omega
      obtain ⟨b, o, rfl, hbl, c0, c1, c2, hc⟩ := Wks_at (hl.below hb) hlt
      have HO := Lib.hid hown'
      have HL := Lib.hid hl
      have HZ := Lib.hid hz
      have HR := Lib.hid hrs
      have HM := Lib.hid hmade
      have HC := Lib.hid hc
      have HRM := Lib.hid hrm
      have HRL := Lib.hid hrl
      have hcl := (HP.out l[j] (List.getElem_mem hlt)).2.1
      have HCL := Lib.hid hcl
      clear hown hown' hl hz hrs hr hmade hc hrm hrl hcl
      go_wp2_with fail
      refine (toWork_any l[j].name l[j].owner l[j].ad l[j].cps l[j].cap _ HC.out HCL.out).mono ?_
      rintro r w2 ⟨g, rfl, ho, b2⟩
      have ho2 := Own.below HO.out b2
      obtain ⟨⟨k0, k1, k2⟩, f0, f1, f2⟩ := own_cells3 ho2 HZ.out
      have HO2 := Lib.hid ho2
      have HN := Lib.hid ho
      clear ho2 ho
      go_wp2
      go_roundw
      case rel =>
        refine ⟨j + 1, rs ++ [⟨l[j].name, l[j].owner, some ⟨g, 0, none⟩, l[j].cps.length, l[j].cps⟩], rs', by go_num, by omega, by simp [HRL.out], ?_, by rw [HR.out]; omega, ?_, ?_, ?_⟩
        · rw [List.map_append, HRM.out, List.take_succ_eq_append_getElem hlt, List.map_append]; rfl
        · rw [cellsOf_append, List.append_assoc]
          exact own_put3 HO2.out HZ.out
        · exact (((HM.out.snoc b2 hsz ⟨l[j].name, l[j].owner, some ⟨g, 0, none⟩, l[j].cps.length, l[j].cps⟩ HN.out ⟨by simp, rfl⟩).set _ _).set _ _).set _ _
        · exact (((next hb b2).setCell (Nat.le_refl _) _).setCell (Nat.le_refl _) _).setCell (Nat.le_refl _) _
      case measure => simp [intOf]; omega
    · have hj' : j = l.length := by omega
      subst hj'
      have hr0 : rest = [] := List.length_eq_zero_iff.1 (by rw [hr]; omega)
      subst hr0
      rw [List.append_nil] at hown'
      rw [List.take_length] at hrm
      have HO := Lib.hid hown'
      have HM := Lib.hid hmade
      have HRM := Lib.hid hrm
      have HRL := Lib.hid hrl
      clear hown hown' hr hmade hrm hrl
      go_wp2
      go_ret
      refine ⟨rs, HRM.out, HRL.out, fun x hx => (HM.out.1 x hx).2, rfl, ⟨?_, fun x hx => (HM.out.1 x hx).1.mono (by omega), fun x hx => ?_, HM.out.2⟩, hb⟩
      · have := HO.out
        rw [← HRL.out] at this ⊢
        exact this
      · rcases hx0 : x.sl.ownBlock with _ | k
        · exact .inl hx0
        · refine .inr fun e => ?_
          have := ((HM.out.1 x hx).1.lt k hx0).1
          rw [hx0] at e
          have e' : k = w.heap.size := by injection e
          omega
end Go.Proofs.YtdoeiphnalbinaaGreat
namespace Go.Proofs.YtdoeiphnalbinaaGreat
open Go.RowKit
/-- The blocks of a list of works. -/
def blocksS (v : Value) (l : List Wr) (g : Nat) : Prop := v.ownBlock = some g ∨ ∃ r ∈ l, r.sl.ownBlock = some g
theorem SfOwn.ge {B : Nat} {w : World} {v : Value} {l : List Wr} (h : SfOwn B w v l) {g : Nat} (hg : blocksS v l g) : B ≤ g ∧ g < w.heap.size := by
  rcases hg with hg | ⟨r, hr, hg⟩
  · exact World.ownsRow.lt h.1 g hg
  · exact (h.2.1 r hr).lt g hg
end Go.Proofs.YtdoeiphnalbinaaGreat
namespace Go.Proofs.YtdoeiphnalbinaaGreat
open Go.RowKit
/-- A part of memory of one's own: its blocks, and what is so of them. -/
structure Cmp where
  E : Nat → Prop
  P : World → Prop
  base : Nat
  dep : ∀ w w', P w → w.heap.size ≤ w'.heap.size → (∀ g, E g → w'.heap[g]? = w.heap[g]?) → P w'
  low : ∀ w g, P w → E g → base ≤ g ∧ g < w.heap.size

def Cmp.row (B : Nat) (t : TypeId) (k : Nat) (v : Value) (n : Nat) (C : List Value) : Cmp where
  E g := v.ownBlock = some g
  P w := w.ownsRow B t k v n C
  base := B
  dep := fun w w' h hs hb => by
    obtain ⟨hl, h0 | ⟨g, cap, cur, rfl, hB, hh, hr⟩⟩ := h
    · exact ⟨hl, .inl h0⟩
    · exact ⟨hl, .inr ⟨g, cap, cur, rfl, hB, (hb g rfl).trans hh, hr⟩⟩
  low := fun _ g h he => World.ownsRow.lt h g he
def Cmp.sf (B : Nat) (v : Value) (l : List Wr) : Cmp where
  E := blocksS v l
  P w := SfOwn B w v l
  base := B
  dep := fun w w' h hs hb => ⟨(Cmp.row B 106 3 v l.length (cellsOf wrL l)).dep w w' h.1 hs (fun g hg => hb g (.inl hg)), fun r hr => (Cmp.row B 142 5 r.sl r.cps.length (cellsOf cpL r.cps)).dep w w' (h.2.1 r hr) hs (fun g hg => hb g (.inr ⟨r, hr, hg⟩)), h.2.2⟩
  low := fun _ _ h he => h.ge he

def foot (cs : List Cmp) (g : Nat) : Prop := ∃ c ∈ cs, c.E g
def Off (a b : Cmp) : Prop := ∀ g, a.E g → ¬ b.E g
/-- All of them are so, and no two have a block in common. -/
structure Has (cs : List Cmp) (w : World) : Prop where
  all : ∀ c ∈ cs, c.P w
  off : cs.Pairwise Off
theorem Off.symm {a b : Cmp} (h : Off a b) : Off b a := fun g hb ha => h g ha hb
theorem Has.nil (w : World) : Has [] w := ⟨by simp, .nil⟩
theorem Has.dep {cs : List Cmp} {w w' : World} (h : Has cs w) (hs : w.heap.size ≤ w'.heap.size) (hb : ∀ g, foot cs g → w'.heap[g]? = w.heap[g]?) : Has cs w' :=
  ⟨fun c hc => c.dep w w' (h.all c hc) hs (fun g hg => hb g ⟨c, hc, hg⟩), h.off⟩
theorem Has.lt {cs : List Cmp} {w : World} (h : Has cs w) {g : Nat} (hg : foot cs g) : g < w.heap.size := by
  obtain ⟨c, hc, he⟩ := hg
  exact (c.low w g (h.all c hc) he).2
theorem Has.ge {cs : List Cmp} {w : World} {B : Nat} (h : Has cs w) (hB : ∀ c ∈ cs, B ≤ c.base) {g : Nat} (hg : foot cs g) : B ≤ g := by
  obtain ⟨c, hc, he⟩ := hg
  exact Nat.le_trans (hB c hc) (c.low w g (h.all c hc) he).1
theorem Has.below {cs : List Cmp} {w w' : World} (h : Has cs w) (hb : Below w.heap.size w w') : Has cs w' := h.dep hb.size (fun g hg => hb.block g (h.lt hg))
theorem Has.alloc {cs : List Cmp} {w : World} (h : Has cs w) (o : Obj) : Has cs (w.alloc o) := h.below ((Below.refl _ _).alloc (Nat.le_refl _) o)
theorem Has.drew {cs : List Cmp} {w : World} (h : Has cs w) : Has cs w.drew := h.dep (Nat.le_refl _) (fun _ _ => rfl)
theorem Has.set {cs : List Cmp} {w : World} (h : Has cs w) {g : Nat} (hg : ¬ foot cs g) (j : Nat) (v : Value) : Has cs (w.setCell ⟨g, j, none⟩ v) :=
  h.dep (by simp) (fun k hk => Below.heap_setCell _ _ _ _ (fun e => hg (by rw [← show k = g from e]; exact hk)))
theorem Has.setLow {cs : List Cmp} {w : World} (h : Has cs w) {g B : Nat} (hB : ∀ c ∈ cs, B ≤ c.base) (hg : g < B) (j : Nat) (v : Value) : Has cs (w.setCell ⟨g, j, none⟩ v) :=
  h.set (fun hf => by have := h.ge hB hf; omega) j v
theorem Has.grown {cs : List Cmp} {w w' : World} {row : Option Nat} (h : Has cs w) (hg : w.grownBy w' row) (hne : ∀ k, row = some k → ¬ foot cs k) : Has cs w' := h.dep hg.size (fun g hf => hg.block g (h.lt hf) (fun e => hne g e.symm hf))
theorem Has.sub {cs ds : List Cmp} {w : World} (h : Has cs w) (hs : ds.Sublist cs) : Has ds w := ⟨fun c hc => h.all c (hs.subset hc), h.off.sublist hs⟩
theorem foot_cons {c : Cmp} {ds : List Cmp} {g : Nat} : foot (c :: ds) g ↔ c.E g ∨ foot ds g := by
  unfold foot; simp
theorem foot_nil {g : Nat} : ¬ foot [] g := by unfold foot; simp
theorem Has.append {cs ds : List Cmp} {w : World} (h : Has cs w) (k : Has ds w) (hd : ∀ g, foot cs g → ¬ foot ds g) : Has (cs ++ ds) w :=
  ⟨fun c hc => (List.mem_append.1 hc).elim (h.all c) (k.all c), List.pairwise_append.2 ⟨h.off, k.off, fun a ha b hb g hga hgb => hd g ⟨a, ha, hga⟩ ⟨b, hb, hgb⟩⟩⟩
theorem Has.right {cs ds : List Cmp} {w : World} (h : Has (cs ++ ds) w) : Has ds w := h.sub (List.sublist_append_right _ _)
theorem Has.apart {cs ds : List Cmp} {w : World} (h : Has (cs ++ ds) w) {g : Nat} (h1 : foot cs g) : ¬ foot ds g := by
  rintro ⟨b, hb, hgb⟩
  obtain ⟨a, ha, hga⟩ := h1
  exact (List.pairwise_append.1 h.off).2.2 a ha b hb g hga hgb
/-- What is there, and what was made behind it. -/
theorem Has.more {cs ds : List Cmp} {w w' : World} (h : Has cs w) (hb : Below w.heap.size w w') (k : Has ds w') (hk : ∀ c ∈ ds, w.heap.size ≤ c.base) : Has (cs ++ ds) w' :=
  (h.below hb).append k (fun g h1 h2 => by have := h.lt h1; have := k.ge hk h2; omega)
theorem Has.one {c : Cmp} {w : World} (h : c.P w) : Has [c] w := ⟨by simpa using h, List.pairwise_singleton _ _⟩
theorem Has.cons {c : Cmp} {ds : List Cmp} {w : World} (h : c.P w) (k : Has ds w) (hd : ∀ g, c.E g → ¬ foot ds g) : Has (c :: ds) w :=
  (Has.one h).append k (fun g hg => by
    rcases foot_cons.1 hg with hg | hg
    · exact hd g hg
    · exact absurd hg foot_nil)
theorem Has.head {c : Cmp} {ds : List Cmp} {w : World} (h : Has (c :: ds) w) : c.P w ∧ Has ds w ∧ ∀ g, c.E g → ¬ foot ds g :=
  ⟨h.all c (by simp), h.sub (List.sublist_cons_self _ _), fun g hg hf => by
    obtain ⟨b, hb, hgb⟩ := hf
    exact (List.pairwise_cons.1 h.off).1 b hb g hg hgb⟩
end Go.Proofs.YtdoeiphnalbinaaGreat
namespace Go.Proofs.YtdoeiphnalbinaaGreat
open Go.RowKit
namespace M
structure Or where
  client : Int
  seq : Int
  deed : Dd
structure La where
  client : Int
  seq : Int
  code : Int
  page : ByteArray
def orderOk (o : Or) : Bool := inI o.client 0 3 && inI o.seq 1 1000 && deedOk o.deed
end M
abbrev orC (o : M.Or) : Array Value := #[.int .i64 o.client, .int .i64 o.seq, .int .i64 o.deed.kind, .string o.deed.name, .int .i64 o.deed.ed.ma, .int .i64 o.deed.ed.mi, .int .i64 o.deed.ed.pa, .string o.deed.page, .int .i64 o.deed.who]
abbrev orV (o : M.Or) : Value := .agg #[.int .i64 o.client, .int .i64 o.seq, .int .i64 o.deed.kind, .string o.deed.name, .int .i64 o.deed.ed.ma, .int .i64 o.deed.ed.mi, .int .i64 o.deed.ed.pa, .string o.deed.page, .int .i64 o.deed.who]
end Go.Proofs.YtdoeiphnalbinaaGreat
namespace Go.Proofs.YtdoeiphnalbinaaGreat
open Go.RowKit
namespace M
structure En where
  reign : Int
  order : Or
end M
abbrev enC (e : M.En) : Array Value := #[.int .i64 e.reign, .int .i64 e.order.client, .int .i64 e.order.seq, .int .i64 e.order.deed.kind, .string e.order.deed.name, .int .i64 e.order.deed.ed.ma, .int .i64 e.order.deed.ed.mi, .int .i64 e.order.deed.ed.pa, .string e.order.deed.page, .int .i64 e.order.deed.who]
abbrev enV (e : M.En) : Value := .agg (enC e)
abbrev enL (e : M.En) : List Value := [.int .i64 e.reign, .int .i64 e.order.client, .int .i64 e.order.seq, .int .i64 e.order.deed.kind, .string e.order.deed.name, .int .i64 e.order.deed.ed.ma, .int .i64 e.order.deed.ed.mi, .int .i64 e.order.deed.ed.pa, .string e.order.deed.page, .int .i64 e.order.deed.who]
theorem enL_len (e : M.En) : (enL e).length = 10 := rfl
abbrev enIn (n : Nat) (e : M.En) : Prop := e.order.deed.name.size ≤ n ∧ e.order.deed.page.size ≤ n
theorem Holds.ten {w : World} {g : Nat} {a0 a1 a2 a3 a4 a5 a6 a7 a8 a9 : Value} (h : Holds w g #[a0, a1, a2, a3, a4, a5, a6, a7, a8, a9]) : w.cell? ⟨g, 0, none⟩ = some a0 ∧ w.cell? ⟨g, 1, none⟩ = some a1 ∧ w.cell? ⟨g, 2, none⟩ = some a2 ∧ w.cell? ⟨g, 3, none⟩ = some a3 ∧ w.cell? ⟨g, 4, none⟩ = some a4 ∧ w.cell? ⟨g, 5, none⟩ = some a5 ∧ w.cell? ⟨g, 6, none⟩ = some a6 ∧ w.cell? ⟨g, 7, none⟩ = some a7 ∧ w.cell? ⟨g, 8, none⟩ = some a8 ∧ w.cell? ⟨g, 9, none⟩ = some a9 :=
  ⟨h.2 0 _ rfl, h.2 1 _ rfl, h.2 2 _ rfl, h.2 3 _ rfl, h.2 4 _ rfl, h.2 5 _ rfl, h.2 6 _ rfl, h.2 7 _ rfl, h.2 8 _ rfl, h.2 9 _ rfl⟩
end Go.Proofs.YtdoeiphnalbinaaGreat
namespace Go.Proofs.YtdoeiphnalbinaaGreat
open Go.RowKit
namespace M
abbrev Bk := List Wk × List La
instance : DecidableEq La := fun a b =>
  if h : a.client = b.client ∧ a.seq = b.seq ∧ a.code = b.code ∧ a.page = b.page then isTrue (by cases a; cases b; simp_all) else isFalse (by rintro rfl; simp at h)
instance : DecidableEq Or := fun a b =>
  if h : a.client = b.client ∧ a.seq = b.seq ∧ a.deed = b.deed then isTrue (by cases a; cases b; simp_all) else isFalse (by rintro rfl; simp at h)
instance : DecidableEq En := fun a b =>
  if h : a.reign = b.reign ∧ a.order = b.order then isTrue (by cases a; cases b; simp_all) else isFalse (by rintro rfl; simp at h)
def bkSame (a b : Bk) : Bool := decide (a.1 = b.1) && decide (a.2 = b.2)
end M
end Go.Proofs.YtdoeiphnalbinaaGreat
namespace Go.Proofs.YtdoeiphnalbinaaGreat
open Go.RowKit
abbrev rpA (c : Int) (p : ByteArray) : Array Value := #[.int .i64 c, .string p]
abbrev rpV (c : Int) (p : ByteArray) : Value := .agg (rpA c p)
end Go.Proofs.YtdoeiphnalbinaaGreat
namespace Go.Proofs.YtdoeiphnalbinaaGreat
open Go.RowKit
set_option maxRecDepth 20000

set_option maxHeartbeats 1000000 in
theorem eqReply_same (c : Int) (p : ByteArray) (w : World) :
    Calls Tryz.prog 99 #[rpV c p, rpV c p] w fun r w' => r = .returned (.bool true) ∧ Below w.heap.size w w' := by
  have h1 : (c != c) = false := by simp
  have h2 : (p.toList != p.toList) = false := by simp
  have b0 := ((Below.refl w.heap.size w).alloc (Nat.le_refl _) (.cells (rpA c p) 83)).alloc (by simp) (.cells (rpA c p) 83)
  go_enter Tryz.func99, Tryz.ntmps99
  go_wp2
  go_ret
  exact ⟨rfl, b0⟩

set_option maxHeartbeats 1000000 in
theorem szDeed_bigN (d : M.Dd) (n : Int) (w : World) (h0 : 0 ≤ n) (hn : n ≤ 1048576) (hnm : d.name.size ≤ maxLen) (hp : d.page.size ≤ maxLen) (h : n < (d.name.size + d.page.size : Int)) :
    Calls Tryz.prog 81 #[ddV d, .int .i64 n] w fun r w' => r = .returned (.int .i64 (-1)) ∧ Below w.heap.size w w' := by
  unfold maxLen at hnm hp
  by_cases hs : n < (d.name.size : Int)
  · go_enter Tryz.func81, Tryz.ntmps81
    go_wp2
    go_ret
    exact ⟨rfl, (Below.refl _ _).alloc (Nat.le_refl _) _⟩
  · go_enter Tryz.func81, Tryz.ntmps81
    go_wp2
    go_ret
    exact ⟨rfl, (Below.refl _ _).alloc (Nat.le_refl _) _⟩
end Go.Proofs.YtdoeiphnalbinaaGreat
