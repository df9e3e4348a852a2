/- Proved, in parts: Proved: what the model draws for the laws on orders: a small book in new memory, orders with short texts; nothing that was there is written. No condition. Proved: what the law on an order that is given twice asks of the plain function; a drawn book can be read; no program is named here; no condition. Proved: the laws' own test tells a reply like itself; it writes nothing that was there. No condition. Proved: the laws' helpers on lists of records of the type Reply (their size, their copy, their likeness) answer plain Lean functions; they write nothing that was there. Condition: lists of at most a million. Proved: how many orders' answer stands in memory; a book of the program's own stays where a list apart from it grows. No program's function is named here; no condition. Proved: the program's AllOrdered answers a plain Lean function, its book and its replies in new memory; nothing that was there is written. Condition: texts and lists of at most a million. Proved: the model's AllOrdered answers the plain Lean function that the program's answers; nothing that was there is written. Condition: texts and lists of at most a million. Proved: the laws' helpers that write marks into a list of records of the type Order, and look whether they are there, do so and write nothing else. Condition: at most two million records. Proved: the laws' helpers that write marks into a list of records of the type Reply, and look whether they are there, do so and write nothing else. Condition: at most two million records. Proved: the contracts of AllOrdered at arguments that were copied; what many orders leave is small. Condition: texts and lists of at most a million. Proved: what the law on many orders asks of the plain function; no program is named here; no condition. -/
import Derived.Test.YtblcgbgcccjpcaaGreatPart40
import Derived.Test.YtblcgbgcccjpcaaGreatPart44
import Derived.Test.YtblcgbgcccjpcaaGreatPart25
import Derived.Test.YtblcgbgcccjpcaaGreatPart38
import Derived.Test.YtblcgbgcccjpcaaGreatPart22
import Derived.Test.YtblcgbgcccjpcaaGreatPart17
import Derived.Test.YtblcgbgcccjpcaaGreatPart24
namespace Go.Proofs.YtblcgbgcccjpcaaGreat
open Go.RowKit
set_option maxRecDepth 20000
set_option linter.unusedVariables false
/-- A drawn book, right or not. -/
def BkTop (w w' : World) (v : Value) : Prop :=
  ∃ (A1 : Option Addr) (c1 : Nat) (A2 : Option Addr) (c2 : Nat) (rs : List Wr) (ls : List M.La), v = bkV A1 rs.length c1 A2 ls.length c2 ∧ SfOwn w.heap.size w' (.slice A1 rs.length c1) rs ∧ LasOwn w.heap.size w' (.slice A2 ls.length c2) ls ∧ (rs.length ≤ 6 ∧ WrsIn 64 rs) ∧ (ls.length ≤ 7 ∧ ∀ x ∈ ls, laIn 64 x)
theorem DrT.byRow {w0 : World} {g : Nat} {bx : List (Nat × Array Value)} {x y : World} {row : Option Nat} (h : DrT w0 g bx x) (hg : x.grownBy y row) (hr : ∀ k, row = some k → w0.heap.size ≤ k ∧ k ≠ g ∧ ∀ p ∈ bx, p.1 ≠ k) : DrT w0 g bx y := by
  refine ⟨h.low, h.below.grown hg h.below.size (fun k e => (hr k e).1), h.cur.kept hg (fun k e => ⟨fun e' => (hr k e).2.1 e'.symm, (hr k e).1⟩), fun p hp => ?_⟩
  obtain ⟨h1, h0, h2, h3⟩ := h.box p hp
  have hb : y.heap[p.1]? = x.heap[p.1]? := hg.block p.1 h2.1 (fun e => (hr p.1 e.symm).2.2 p hp rfl)
  exact ⟨h1, h0, ⟨Nat.lt_of_lt_of_le h2.1 hg.size, fun j v hj => (World.cell?_of_block (a := ⟨p.1, j, none⟩) hb).trans (h2.2 j v hj)⟩, fun j => (World.frozen?_of_block (a := ⟨p.1, j, none⟩) hb).trans (h3 j)⟩
theorem DrT.belowB {w0 : World} {g : Nat} {bx : List (Nat × Array Value)} {x y : World} (h : DrT w0 g bx x) (hb : Below x.heap.size x y) : DrT w0 g bx y := h.by (grown_of_below hb _) (h.cur.kept (grown_of_below hb none) (by simp))
theorem results_DrawAllOrdered (a b v : Value) (R : Nat) (W : World) (tmps : Array Value) (h2 : tmps.getD 2 undef = .pointer (some ⟨R, 0, none⟩)) (h3 : tmps.getD 3 undef = v) (hR : Holds W R #[a, b]) :
    (results Tryz.f10 tmps).run Tryz.prog W = .ok (.tuple #[.agg #[a, b], v]) W := by
  obtain ⟨q0, q1⟩ := hR.two
  simp at h2 h3
  simp [results, Tryz.results10, go_sem, h2, h3, q0, q1]
theorem or_one (l : List M.Or) : ∀ u ∈ cellsOf orL l, u.oneCell' = true := by
  intro u hu
  obtain ⟨c, _, hc⟩ := List.mem_flatMap.1 hu
  simp at hc
  rcases hc with rfl | rfl | rfl | rfl | rfl | rfl | rfl | rfl | rfl <;> rfl
theorem one_flatOr (w : World) (c : M.Or) (t : TypeId) : Ors (w.alloc (.cells (orC c) t)) (some ⟨w.heap.size, 0, none⟩) [c] := by
  refine .inr ⟨w.heap.size, 0, rfl, by simp, fun i t' x u hi hu => ?_⟩
  have h := (holds_new w (orC c) t).2
  rcases i with _ | i
  · simp at hi
    subst hi
    rw [Nat.zero_mul, Nat.add_zero, Nat.zero_add]
    exact h t' u (by simpa using hu)
  · simp at hi
/-- What is known while the list is drawn. -/
structure DrawAllOrderedNow (w : World) (g b0 b1 : Nat) (A1 : Option Addr) (c1 : Nat) (A2 : Option Addr) (c2 : Nat) (rs : List Wr) (ls : List M.La) (v : Value) (l : List M.Or) (x : World) : Prop where
  mem : DrT w g [(b1, (bkA A1 rs.length c1 A2 ls.length c2)), (w.heap.size, (bkA none 0 0 none 0 0))] x
  sf : SfOwn b0 x (.slice A1 rs.length c1) rs
  la : LasOwn b0 x (.slice A2 ls.length c2) ls
  own : OrsOwn (b1 + 1) x v l
  ok : ∀ y ∈ l, orIn 64 y
theorem DrawAllOrdered_rows {w : World} {B m c : Nat} {A : Option Addr} {l : List M.Or} (h : OrsOwn B w (.slice A m c) l) : Ors w A l := by
  obtain ⟨A', c', hv, _, hf⟩ := own_flat orL_len h
  have hA : A = A' := by injection hv
  rw [hA]; exact hf
set_option maxHeartbeats 8000000 in
theorem DrawAllOrdered_any (w : World) (a : Option Addr) (len cap : Nat) (hl : len ≤ 4096) (hc : CodeOk w.heap.size w a len) :
    Calls Tryz.prog 10 #[.slice a len cap] w fun r w' => ∃ (bv : Value) (A : Option Addr) (l : List M.Or) (c : Nat), r = .returned (.tuple #[bv, .slice A l.length c]) ∧ BkTop w w' bv ∧ Ors w' A l ∧ l.length ≤ 401 ∧ (∀ y ∈ l, orIn 64 y) ∧ Below w.heap.size w w' := by
  obtain ⟨i0, hi, hz0, hz1, hz2⟩ := info_parts infoOrs
  have hm0 := (Mem.start w).new (bkA none 0 0 none 0 0) 27
  go_enter Tryz.func10, Tryz.ntmps10
  go_wp2_with fail
  refine (l1New_any w.heap.size _ a len cap (by simp <;> omega) hl (hc.alloc (Nat.le_refl _) _)).mono ?_
  rintro r x1 ⟨rfl, hc1, hg1⟩
  have hm := DrT.start hm0 (by simp) hg1 hc1
  simp only [World.size_alloc] at hm
  have hsz : w.heap.size + 1 < x1.heap.size := by have := hc1.2.1; simpa using this
  clear hm0 hc1 hg1 hc
  go_wp2_with fail
  refine (l6DrawBookAny_any _ _ _ hm.cur).mono ?_
  rintro r x2 ⟨A1, c1, A2, c2, rs, ls, rfl, hs, hla, -, hz, hlz, -, hc2, hg2⟩
  have hsz2 : x1.heap.size ≤ x2.heap.size := hg2.size
  have HLT : Hid ((∀ k, blocksS (.slice A1 rs.length c1) rs k → k < x2.heap.size) ∧ ∀ k, (Value.slice A2 ls.length c2).ownBlock = some k → k < x2.heap.size) := Lib.hid ⟨fun k hk => (hs.ge hk).2, fun k hk => (World.ownsRow.lt hla k hk).2⟩
  have bq := (Below.refl x2.heap.size x2).alloc (Nat.le_refl _) (.cells (bkA A1 rs.length c1 A2 ls.length c2) 27)
  replace hm := (hm.by hg2 hc2).new (bkA A1 rs.length c1 A2 ls.length c2) 27
  have HS := Lib.hid (hs.below bq)
  have HL := Lib.hid (LasOwn.below hla bq)
  have HZ := Lib.hid (show _ ∧ _ from ⟨hz, hlz⟩)
  clear hc2 hg2 hs hla hz hlz bq
  have bs := (Below.refl (x2.alloc (.cells (bkA A1 rs.length c1 A2 ls.length c2) 27)).heap.size (x2.alloc (.cells (bkA A1 rs.length c1 A2 ls.length c2) 27))).alloc (Nat.le_refl _) (.cells #[] 41)
  have ho0 := World.ownsRow_made (size := 9) (e := 41) (x2.alloc (.cells (bkA A1 rs.length c1 A2 ls.length c2) 27)) #[] 0 (base := x2.heap.size + 1) (by simp) (Nat.zero_le _) rfl
  have HST : Hid (DrawAllOrderedNow w (w.heap.size + 1) x1.heap.size x2.heap.size A1 c1 A2 c2 rs ls (.slice (some ⟨(x2.alloc (.cells (bkA A1 rs.length c1 A2 ls.length c2) 27)).heap.size, 0, none⟩) 0 0) [] ((x2.alloc (.cells (bkA A1 rs.length c1 A2 ls.length c2) 27)).alloc (.cells #[] 41))) := Lib.hid ⟨hm.belowB bs, HS.out.below bs, LasOwn.below HL.out bs, ho0, by simp⟩
  simp only [World.size_alloc] at HST
  clear hm HS HL ho0 bs
  go_wp2_with fail
  refine (l1Below_any _ _ _ HST.out.mem.cur 6 (by omega) (by omega)).mono ?_
  rintro r x3 ⟨n0, hn0, hn1, rfl, hc3, hg3⟩
  replace HST : Hid (DrawAllOrderedNow w (w.heap.size + 1) x1.heap.size x2.heap.size A1 c1 A2 c2 rs ls (.slice (some ⟨x2.heap.size + 1, 0, none⟩) 0 0) [] x3) := Lib.hid ⟨HST.out.mem.by hg3 hc3, HST.out.sf.by hg3 (by omega), own_by HST.out.la hg3 (by omega), own_by HST.out.own hg3 (by omega), by simp⟩
  clear hc3 hg3
  go_wp2_with fail
  go_loopw [6, 7] (fun s6 s7 wr => ∃ (A6 : Option Addr) (c6 : Nat) (l : List M.Or) (n : Int), s6 = .slice A6 l.length c6 ∧ s7 = .int .i64 n ∧ 0 ≤ n ∧ l.length + n ≤ 5 ∧ DrawAllOrderedNow w (w.heap.size + 1) x1.heap.size x2.heap.size A1 c1 A2 c2 rs ls (.slice A6 l.length c6) l wr) (fun _ n _ => (intOf n).toNat)
  case atStart => exact ⟨_, _, [], n0, rfl, rfl, hn0, by simp only [List.length_nil]; omega, HST.out⟩
  case round =>
    clear HST
    obtain ⟨A6, c6, l, n, rfl, rfl, hn2, hn3, hnow⟩ := hrel
    have HN := Lib.hid hnow
    clear hnow
    by_cases hlt : 0 < n
    · go_wp2_with fail
      refine (l6DrawAny_any _ _ _ HN.out.mem.cur).mono ?_
      rintro r x4 ⟨o, ho, rfl, hc4, hg4⟩
      have HN4 : Hid (DrawAllOrderedNow w (w.heap.size + 1) x1.heap.size x2.heap.size A1 c1 A2 c2 rs ls (.slice A6 l.length c6) l x4) := Lib.hid ⟨HN.out.mem.by hg4 hc4, HN.out.sf.by hg4 (by omega), own_by HN.out.la hg4 (by omega), own_by HN.out.own hg4 (by omega), HN.out.ok⟩
      have hx4 : x2.heap.size < x4.heap.size := (HN4.out.mem.get (List.mem_cons_self)).1.1
      clear hc4 hg4 HN
      go_wp2_with (at_builtin; refine wpList_append_flat_at (k := 9) (enc := orL) (l := [o]) rfl _ _ 28 rfl (x2.heap.size + 1) 41 i0 _ 88 Tryz.underlying28 hi hz0 hz1 hz2 rfl (by decide) _ l.length (cellsOf orL l) rfl (World.ownsRow.alloc HN4.out.own _) (some ⟨x4.heap.size, 0, none⟩) 1 rfl (fun h => by cases h) (one_flatOr x4 o _) orL_len (or_one _) (by simp only [List.length_singleton]; unfold maxLen; omega) (by simp only [List.length_singleton]; omega) (by simp; omega) ?_; intro v9 w9 own9 grow9 at9)
      obtain ⟨A9, c9, rfl⟩ := row_form own9
      have hkb := fun k (hk : (Value.slice A6 l.length c6).ownBlock = some k) => (World.ownsRow.lt HN4.out.own k hk).1
      have bq := (Below.refl x4.heap.size x4).alloc (Nat.le_refl _) (.cells (orC o) 41)
      have HN9 : Hid (DrawAllOrderedNow w (w.heap.size + 1) x1.heap.size x2.heap.size A1 c1 A2 c2 rs ls (.slice A9 (l.length + 1) c9) (l ++ [o]) w9) := Lib.hid ⟨(HN4.out.mem.belowB bq).byRow grow9 (fun k hk => ⟨by have := hkb k hk; omega, by have := hkb k hk; omega, fun p hp e => by have := hkb k hk; simp at hp; rcases hp with rfl | rfl <;> simp at e <;> omega⟩), (HN4.out.sf.below bq).kept grow9 (fun k hk hb => by have := hkb k hk; have := HLT.out.1 k hb; omega), World.ownsRow.kept (LasOwn.below HN4.out.la bq) grow9 (own_two (fun k hk e => by have := hkb k e; have := HLT.out.2 k hk; omega)), by (show World.ownsRow _ _ _ _ _ _ _); rw [List.length_append, cellsOf_append]; exact own9, fun y hy => by rcases List.mem_append.1 hy with hy | hy; exact HN4.out.ok y hy; obtain rfl := List.mem_singleton.1 hy; exact ho⟩
      clear own9 grow9 at9 hkb bq HN4
      go_roundw
      case rel =>
        refine ⟨A9, c9, l ++ [o], n - 1, by rw [List.length_append] <;> rfl, by go_num, by omega, by rw [List.length_append]; simp only [List.length_singleton]; omega, ?_⟩
        rw [List.length_append]
        exact HN9.out
      case measure => simp [intOf]; omega
    · go_wp2_with fail
      refine (l1Once_any _ _ _ HN.out.mem.cur 60 (by omega) (by omega)).mono ?_
      rintro r x4 ⟨b, rfl, hc4, hg4⟩
      have HN4 : Hid (DrawAllOrderedNow w (w.heap.size + 1) x1.heap.size x2.heap.size A1 c1 A2 c2 rs ls (.slice A6 l.length c6) l x4) := Lib.hid ⟨HN.out.mem.by hg4 hc4, HN.out.sf.by hg4 (by omega), own_by HN.out.la hg4 (by omega), own_by HN.out.own hg4 (by omega), HN.out.ok⟩
      clear hc4 hg4 HN
      cases b
      · have HM := Lib.hid HN4.out.mem
        obtain ⟨p0, p1⟩ := (HM.out.get (R := x2.heap.size) (C := (bkA A1 rs.length c1 A2 ls.length c2)) (by simp)).1.two
        have z0 := (HM.out.get (R := x2.heap.size) (C := (bkA A1 rs.length c1 A2 ls.length c2)) (by simp)).2 0
        have z1 := (HM.out.get (R := x2.heap.size) (C := (bkA A1 rs.length c1 A2 ls.length c2)) (by simp)).2 1
        have zl := (HM.out.get (R := x2.heap.size) (C := (bkA A1 rs.length c1 A2 ls.length c2)) (by simp)).1.1
        obtain ⟨q0, q1⟩ := (HM.out.get (R := w.heap.size) (C := (bkA none 0 0 none 0 0)) (by simp)).1.two
        have y0 := (HM.out.get (R := w.heap.size) (C := (bkA none 0 0 none 0 0)) (by simp)).2 0
        have y1 := (HM.out.get (R := w.heap.size) (C := (bkA none 0 0 none 0 0)) (by simp)).2 1
        have yl := (HM.out.get (R := w.heap.size) (C := (bkA none 0 0 none 0 0)) (by simp)).1.1
        go_wp2
        have hF := (DrT.sub (bx' := [(w.heap.size, (bkA none 0 0 none 0 0))]) HM.out (by simp)).put2 (by simp) (.slice A1 rs.length c1) (.slice A2 ls.length c2)
        exact bodyPost_ret (results_DrawAllOrdered _ _ (.slice A6 l.length c6) w.heap.size _ _ rfl rfl (hF.get (List.mem_cons_self)).1) rfl ⟨_, A6, l, c6, rfl, ⟨A1, c1, A2, c2, rs, ls, rfl, ((HN4.out.sf.set (by omega) 0 _).set (by omega) 1 _).mono (by omega), LasOwn.mono (own_set (own_set HN4.out.la (by omega) 0 _) (by omega) 1 _) (by omega), HZ.out.1, HZ.out.2⟩, DrawAllOrdered_rows (own_set (own_set HN4.out.own (by omega) 0 _) (by omega) 1 _), by omega, HN4.out.ok, hF.below⟩
      · go_wp2_with fail
        refine (l1Below_any _ _ _ HN4.out.mem.cur 2 (by omega) (by omega)).mono ?_
        rintro r x5 ⟨u, hu0, hu1, rfl, hc5, hg5⟩
        have HM5 := Lib.hid (HN4.out.mem.by hg5 hc5)
        have HS5 := Lib.hid (HN4.out.sf.by hg5 (by omega))
        have HL5 := Lib.hid (own_by HN4.out.la hg5 (by omega))
        have hx5 : x2.heap.size < x5.heap.size := (HM5.out.get (List.mem_cons_self)).1.1
        clear hc5 hg5 HN4
        obtain ⟨k, hk⟩ : ∃ k : Nat, u = (k : Int) := ⟨u.toNat, by omega⟩
        subst hk
        go_wp2_with (at_make; refine wpList_make_full _ rfl _ _ 28 rfl (x2.heap.size + 1) 41 i0 _ 9 Tryz.underlying28 hi hz0 hz1 .i64 .i64 _ _ (400 + k) rfl rfl (by omega) (by omega) (by rw [hz2]; omega) (by unfold maxLen; omega) (by omega) ?_; intro w9 own9 grow9; refine stop_mk ?_)
        refine stop_un ?_
        have hr9 : OrsOwn (x2.heap.size + 1) w9 (.slice (some ⟨x5.heap.size, 0, none⟩) (400 + k) (400 + k)) (List.replicate (400 + k) (⟨0, 0, ⟨0, ⟨#[]⟩, ⟨0, 0, 0⟩, ⟨#[]⟩, 0⟩⟩ : M.Or)) := by
          show World.ownsRow _ _ _ _ _ _ _
          rw [List.length_replicate, ← made_flat orL (⟨0, 0, ⟨0, ⟨#[]⟩, ⟨0, 0, 0⟩, ⟨#[]⟩, 0⟩⟩ : M.Or) 9 rfl (400 + k)]
          exact own9
        have bq : Below x5.heap.size x5 w9 := (Below.refl _ _).grown grow9 (Nat.le_refl _) (fun k hk => by cases hk)
        have HM := Lib.hid (HM5.out.belowB bq)
        have HS := Lib.hid (HS5.out.below bq)
        have HL := Lib.hid (LasOwn.below HL5.out bq)
        have HR := Lib.hid hr9
        clear own9 grow9 hr9 bq HM5 HS5 HL5
        obtain ⟨p0, p1⟩ := (HM.out.get (R := x2.heap.size) (C := (bkA A1 rs.length c1 A2 ls.length c2)) (by simp)).1.two
        have z0 := (HM.out.get (R := x2.heap.size) (C := (bkA A1 rs.length c1 A2 ls.length c2)) (by simp)).2 0
        have z1 := (HM.out.get (R := x2.heap.size) (C := (bkA A1 rs.length c1 A2 ls.length c2)) (by simp)).2 1
        have zl := (HM.out.get (R := x2.heap.size) (C := (bkA A1 rs.length c1 A2 ls.length c2)) (by simp)).1.1
        obtain ⟨q0, q1⟩ := (HM.out.get (R := w.heap.size) (C := (bkA none 0 0 none 0 0)) (by simp)).1.two
        have y0 := (HM.out.get (R := w.heap.size) (C := (bkA none 0 0 none 0 0)) (by simp)).2 0
        have y1 := (HM.out.get (R := w.heap.size) (C := (bkA none 0 0 none 0 0)) (by simp)).2 1
        have yl := (HM.out.get (R := w.heap.size) (C := (bkA none 0 0 none 0 0)) (by simp)).1.1
        go_wp2
        have hF := (DrT.sub (bx' := [(w.heap.size, (bkA none 0 0 none 0 0))]) HM.out (by simp)).put2 (by simp) (.slice A1 rs.length c1) (.slice A2 ls.length c2)
        exact bodyPost_ret (results_DrawAllOrdered _ _ (.slice (some ⟨x5.heap.size, 0, none⟩) (400 + k) (400 + k)) w.heap.size _ _ rfl rfl (hF.get (List.mem_cons_self)).1) rfl ⟨_, some ⟨x5.heap.size, 0, none⟩, List.replicate (400 + k) (⟨0, 0, ⟨0, ⟨#[]⟩, ⟨0, 0, 0⟩, ⟨#[]⟩, 0⟩⟩ : M.Or), 400 + k, by rw [List.length_replicate], ⟨A1, c1, A2, c2, rs, ls, rfl, ((HS.out.set (by omega) 0 _).set (by omega) 1 _).mono (by omega), LasOwn.mono (own_set (own_set HL.out (by omega) 0 _) (by omega) 1 _) (by omega), HZ.out.1, HZ.out.2⟩, DrawAllOrdered_rows (own_set (own_set HR.out (by omega) 0 _) (by omega) 1 _), by rw [List.length_replicate]; omega, fun y hy => by rw [(List.mem_replicate.1 hy).2]; exact ⟨Nat.zero_le _, Nat.zero_le _⟩, hF.below⟩
end Go.Proofs.YtblcgbgcccjpcaaGreat
namespace Go.Proofs.YtblcgbgcccjpcaaGreat
open Go.RowKit
set_option maxRecDepth 20000
namespace M
end M
/-- A book that can be read. -/
def BkR (x : World) (A1 : Option Addr) (rs : List Wr) (A2 : Option Addr) (ls : List M.La) : Prop := Wks x A1 rs ∧ Las x A2 ls
theorem BkR.below {x y : World} {A1 A2 : Option Addr} {rs : List Wr} {ls : List M.La} (h : BkR x A1 rs A2 ls) (hb : Below x.heap.size x y) : BkR y A1 rs A2 ls := ⟨h.1.below hb, h.2.below hb⟩
theorem BkR.alloc {x : World} {A1 A2 : Option Addr} {rs : List Wr} {ls : List M.La} (h : BkR x A1 rs A2 ls) (o : Obj) : BkR (x.alloc o) A1 rs A2 ls := h.below ((Below.refl _ _).alloc (Nat.le_refl _) o)
theorem BkTop.open {w x : World} {v : Value} (h : BkTop w x v) : ∃ A1 c1 A2 c2 rs ls, v = bkV A1 rs.length c1 A2 ls.length c2 ∧ BkR x A1 rs A2 ls ∧ (∀ r ∈ rs, r.ad = none → r.cap = 0) ∧ (A2 = none → c2 = 0) ∧ (rs.length ≤ 6 ∧ WrsIn 64 rs) ∧ (ls.length ≤ 7 ∧ ∀ y ∈ ls, laIn 64 y) := by
  obtain ⟨A1, c1, A2, c2, rs, ls, e, h1, h2, h3, h4⟩ := h
  exact ⟨A1, c1, A2, c2, rs, ls, e, ⟨h1.wks.1, las_of h2⟩, fun r hr k => (h1.2.1 r hr).nilc k, row_nilc h2, h3, h4⟩
/-- OrRet, to be read. -/
theorem OrRet.read {w y : World} {q : M.Bk × M.Rp} {e : Ending} (h : OrRet w q e y) : ∃ A1 c1 A2 c2 rs, e = .returned (.tuple #[bkV A1 rs.length c1 A2 q.1.2.length c2, rpV q.2.1 q.2.2]) ∧ BkR y A1 rs A2 q.1.2 ∧ rs.map Wr.wk = q.1.1 ∧ (∀ r ∈ rs, r.ad = none → r.cap = 0) ∧ (A2 = none → c2 = 0) ∧ Below w.heap.size w y := by
  obtain ⟨v1, v2, rs, e', h1, h2, h3, -, h5⟩ := h
  obtain ⟨A1, c1, rfl, -, -⟩ := h1.open
  obtain ⟨A2, c2, rfl, -, -⟩ := LasOwn.open h3
  exact ⟨A1, c1, A2, c2, rs, e', ⟨h1.wks.1, las_of h3⟩, h2, fun r hr k => (h1.2.1 r hr).nilc k, row_nilc h3, h5⟩
end Go.Proofs.YtblcgbgcccjpcaaGreat
namespace Go.Proofs.YtblcgbgcccjpcaaGreat
open Go.RowKit
set_option maxRecDepth 20000
abbrev rpL (c : M.Rp) : List Value := [.int .i64 c.1, .string c.2]
end Go.Proofs.YtblcgbgcccjpcaaGreat
namespace Go.Proofs.YtblcgbgcccjpcaaGreat
open Go.RowKit
set_option maxRecDepth 20000
/-- v is a list of these in memory of one's own from block B on. -/
abbrev RpsOwn (B : Nat) (w : World) (v : Value) (l : List M.Rp) : Prop := w.ownsRow B 33 2 v l.length (cellsOf rpL l)
end Go.Proofs.YtblcgbgcccjpcaaGreat
namespace Go.Proofs.YtblcgbgcccjpcaaGreat
open Go.RowKit
set_option maxRecDepth 20000
theorem RpsOwn.nil (B : Nat) (w : World) : RpsOwn B w (.slice none 0 0) [] := World.ownsRow_nil _ _ _ _
theorem BkSt.kept {w w' : World} {W B b : Nat} {rs : List Wr} {G : Nat} {v : Value} {ls : List M.La} {row : Option Nat} (h : BkSt w W B b rs G v ls) (hg : w.grownBy w' row) (hne : ∀ g, row = some g → ¬ bkS b G v g ∧ ∀ r ∈ rs, r.sl.ownBlock ≠ some g) : BkSt w' W B b rs G v ls :=
  { h with map := h.map.kept hg (fun e => (hne b e.symm).1 (.inl rfl)), own := ⟨fun r hr => World.ownsRow.kept (h.own.1 r hr) hg (own_two (fun z hz e => (hne z e).2 r hr hz)), h.own.2⟩, top := Nat.le_trans h.top hg.size, box := grown_holds h.box hg (fun e => (hne G e.symm).1 (.inr (.inl rfl))), loose := grown_loose h.loose h.box.1 hg (fun e => (hne G e.symm).1 (.inr (.inl rfl))), las := World.ownsRow.kept h.las hg (own_two (fun z hz e => (hne z e).1 (.inr (.inr hz)))) }
/-- What AllOrdered answers. -/
def AllRet (w : World) (q : M.Bk × List M.Rp) (e : Ending) (w' : World) : Prop :=
  ∃ v1 v2 v3 rs', e = .returned (.tuple #[.agg #[v1, v2], v3]) ∧ SfOwn w.heap.size w' v1 rs' ∧ rs'.map Wr.wk = q.1.1 ∧ LasOwn w.heap.size w' v2 q.1.2 ∧ (∀ g, v2.ownBlock = some g → ¬ blocksS v1 rs' g) ∧ RpsOwn w.heap.size w' v3 q.2 ∧ (∀ g, v3.ownBlock = some g → ¬ blocksB v1 v2 rs' g) ∧ Below w.heap.size w w'
/-- Between two orders of the program's loop. -/
structure AllSt (w0 : World) (W : Nat) (p : Nat) (b0 : M.Bk) (os : List M.Or) (G b : Nat) (j : Nat) (v7 : Value) (wr : World) : Prop where
  book : ∃ rs v, rs.map Wr.wk = (M.ordTo b0 (os.take j)).1.1 ∧ BkSt wr W (b + 1) b rs G v (M.ordTo b0 (os.take j)).1.2 ∧ ∀ k, v7.ownBlock = some k → ¬ bkS b G v k ∧ ∀ r ∈ rs, r.sl.ownBlock ≠ some k
  reps : RpsOwn W wr v7 (M.ordTo b0 (os.take j)).2
  below : Below w0.heap.size w0 wr
  box : Holds wr p (bkA none 0 0 none 0 0)
  loose : Loose wr p
/-- Between two orders of the model's loop. -/
structure AllSp (w0 : World) (B p0 p : Nat) (b0 : M.Bk) (os : List M.Or) (j : Nat) (v6 : Value) (wr : World) : Prop where
  book : ∃ A1 c1 A2 c2 rs, BB B wr p0 A1 c1 A2 c2 rs (M.ordTo b0 (os.take j)).1.2 ∧ rs.map Wr.wk = (M.ordTo b0 (os.take j)).1.1 ∧ (∀ g, (Value.slice A2 (M.ordTo b0 (os.take j)).1.2.length c2).ownBlock = some g → ¬ blocksS (.slice A1 rs.length c1) rs g) ∧ ∀ g, v6.ownBlock = some g → ¬ blocksB (.slice A1 rs.length c1) (.slice A2 (M.ordTo b0 (os.take j)).1.2.length c2) rs g
  reps : RpsOwn B wr v6 (M.ordTo b0 (os.take j)).2
  below : Below w0.heap.size w0 wr
  box : Holds wr p (bkA none 0 0 none 0 0)
  loose : Loose wr p
  loose0 : Loose wr p0
end Go.Proofs.YtblcgbgcccjpcaaGreat
namespace Go.Proofs.YtblcgbgcccjpcaaGreat
open Go.RowKit
set_option maxRecDepth 20000
end Go.Proofs.YtblcgbgcccjpcaaGreat
namespace Go.Proofs.YtblcgbgcccjpcaaGreat
open Go.RowKit
set_option maxRecDepth 20000
end Go.Proofs.YtblcgbgcccjpcaaGreat
namespace Go.Proofs.YtblcgbgcccjpcaaGreat
open Go.RowKit
set_option maxRecDepth 20000
end Go.Proofs.YtblcgbgcccjpcaaGreat
namespace Go.Proofs.YtblcgbgcccjpcaaGreat
open Go.RowKit
set_option maxRecDepth 20000
end Go.Proofs.YtblcgbgcccjpcaaGreat
namespace Go.Proofs.YtblcgbgcccjpcaaGreat
open Go.RowKit
set_option maxRecDepth 20000
namespace M
end M
/-- AllRet, its values opened. -/
theorem AllRet.open {w y : World} {q : M.Bk × List M.Rp} {r : Ending} (h : AllRet w q r y) : ∃ A1 c1 A2 c2 A3 c3 rs, r = .returned (.tuple #[bkV A1 rs.length c1 A2 q.1.2.length c2, .slice A3 q.2.length c3]) ∧ SfOwn w.heap.size y (.slice A1 rs.length c1) rs ∧ rs.map Wr.wk = q.1.1 ∧ LasOwn w.heap.size y (.slice A2 q.1.2.length c2) q.1.2 ∧ (∀ g, (Value.slice A2 q.1.2.length c2).ownBlock = some g → ¬ blocksS (.slice A1 rs.length c1) rs g) ∧ RpsOwn w.heap.size y (.slice A3 q.2.length c3) q.2 ∧ (∀ g, (Value.slice A3 q.2.length c3).ownBlock = some g → ¬ blocksB (.slice A1 rs.length c1) (.slice A2 q.1.2.length c2) rs g) ∧ Below w.heap.size w y := by
  obtain ⟨v1, v2, v3, rs, e, h1, h2, h3, h4, h5, h6, h7⟩ := h
  obtain ⟨A1, c1, rfl, -, -⟩ := h1.open
  obtain ⟨A2, c2, rfl, -, -⟩ := LasOwn.open h3
  obtain ⟨A3, c3, rfl⟩ := row_form h5
  exact ⟨A1, c1, A2, c2, A3, c3, rs, e, h1, h2, h3, h4, h5, h6, h7⟩
end Go.Proofs.YtblcgbgcccjpcaaGreat
namespace Go.Proofs.YtblcgbgcccjpcaaGreat
open Go.RowKit
set_option maxRecDepth 20000
namespace M
end M
/-- A book of one's own. -/
def BkO (B : Nat) (x : World) (A1 : Option Addr) (c1 : Nat) (rs : List Wr) (A2 : Option Addr) (c2 : Nat) (ls : List M.La) : Prop := SfOwn B x (.slice A1 rs.length c1) rs ∧ LasOwn B x (.slice A2 ls.length c2) ls
theorem BkO.below {B c1 c2 : Nat} {x y : World} {A1 A2 : Option Addr} {rs : List Wr} {ls : List M.La} (h : BkO B x A1 c1 rs A2 c2 ls) (hb : Below x.heap.size x y) : BkO B y A1 c1 rs A2 c2 ls := ⟨h.1.below hb, LasOwn.below h.2 hb⟩
theorem BkO.alloc {B c1 c2 : Nat} {x : World} {A1 A2 : Option Addr} {rs : List Wr} {ls : List M.La} (h : BkO B x A1 c1 rs A2 c2 ls) (o : Obj) : BkO B (x.alloc o) A1 c1 rs A2 c2 ls := h.below ((Below.refl _ _).alloc (Nat.le_refl _) o)
theorem BkO.read {B c1 c2 : Nat} {x : World} {A1 A2 : Option Addr} {rs : List Wr} {ls : List M.La} (h : BkO B x A1 c1 rs A2 c2 ls) : BkR x A1 rs A2 ls := ⟨h.1.wks.1, las_of h.2⟩
theorem BkO.nils {B c1 c2 : Nat} {x : World} {A1 A2 : Option Addr} {rs : List Wr} {ls : List M.La} (h : BkO B x A1 c1 rs A2 c2 ls) : (∀ r ∈ rs, r.ad = none → r.cap = 0) ∧ (A2 = none → c2 = 0) := ⟨fun r hr k => (h.1.2.1 r hr).nilc k, row_nilc h.2⟩
end Go.Proofs.YtblcgbgcccjpcaaGreat
