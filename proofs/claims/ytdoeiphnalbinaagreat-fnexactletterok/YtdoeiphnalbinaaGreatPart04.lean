/- Proved, in parts: Proved: the program's functions on editions that compare answer the same plain Lean functions as the model's, at every edition; they write nothing that was there. No condition. -/
import Derived.Test.YtdoeiphnalbinaaGreatPart02
import Derived.Deep.QuietTactic
import Derived.Deep.RegionWith
import Derived.BigQuiet
import Derived.KernelRfl
import Derived.Test.YtdoeiphnalbinaaGreatPart03
import Derived.Deep.DeepCutAuto
namespace Go.Proofs.YtdoeiphnalbinaaGreat
open Go.RowKit

theorem partsOf_at (e : M.Ed) (w : World) :
    Calls Tryz.prog 128 #[edV e] w fun r w' => r = .returned (edV e) ∧ w' = ((w.alloc (.cells #[.int .i64 e.ma, .int .i64 e.mi, .int .i64 e.pa] 47)).alloc (.cells #[.int .i64 e.ma, .int .i64 e.mi, .int .i64 e.pa] 170)) := by
  go_enter Tryz.func128, Tryz.ntmps128
  go_wp2
  exact bodyPost_ret (v := edV e) (by simp [results, Tryz.results128, go_sem]) rfl ⟨rfl, rfl⟩

theorem partsOf_any (e : M.Ed) (w : World) :
    Calls Tryz.prog 128 #[edV e] w fun r w' => r = .returned (edV e) ∧ Below w.heap.size w w' :=
  (partsOf_at e w).mono fun _ _ ⟨he, hw⟩ => ⟨he, hw ▸ ((Below.refl _ _).alloc (Nat.le_refl _) _).alloc (by simp) _⟩

theorem part_at (a b c : Int) (w : World) :
    (Instr.index 170 (.agg #[.int .i64 a, .int .i64 b, .int .i64 c]) (.int .i64 0)).run Tryz.prog w = .ok (.int .i64 a) w ∧
    (Instr.index 170 (.agg #[.int .i64 a, .int .i64 b, .int .i64 c]) (.int .i64 1)).run Tryz.prog w = .ok (.int .i64 b) w ∧
    (Instr.index 170 (.agg #[.int .i64 a, .int .i64 b, .int .i64 c]) (.int .i64 2)).run Tryz.prog w = .ok (.int .i64 c) w :=
  ⟨by kernel_rfl, by kernel_rfl, by kernel_rfl⟩

theorem inI_true {x : Int} (h : M.inI x 0 99 = true) : 0 ≤ x ∧ x ≤ 99 := by simpa [M.inI] using h
theorem inI_false {x : Int} (h : M.inI x 0 99 = false) : x < 0 ∨ (0 ≤ x ∧ 99 < x) := by simp [M.inI] at h; omega

set_option maxRecDepth 20000 in
set_option maxHeartbeats 1000000 in
theorem implEditionOk (e : M.Ed) (w : World) :
    Calls Tryz.prog 122 #[edV e] w fun r w' => r = .returned (.bool (M.edOk e)) ∧ Below w.heap.size w w' := by
  have b0 : Below w.heap.size w (w.alloc (.cells #[.int .i64 e.ma, .int .i64 e.mi, .int .i64 e.pa] 47)) := (Below.refl _ _).alloc (Nat.le_refl _) _
  have p0 := fun w => (part_at e.ma e.mi e.pa w).1
  have p1 := fun w => (part_at e.ma e.mi e.pa w).2.1
  have p2 := fun w => (part_at e.ma e.mi e.pa w).2.2
  go_enter Tryz.func122, Tryz.ntmps122
  go_wp2_with fail
  refine (partsOf_any e _).mono ?_
  rintro r w1 ⟨rfl, b1⟩
  have bb := next b0 b1
  clear b0 b1
  go_wp2
  go_loop [7] (fun i => i = .int .i64 0 ∨ (i = .int .i64 1 ∧ M.inI e.ma 0 99 = true) ∨ (i = .int .i64 2 ∧ M.inI e.ma 0 99 = true ∧ M.inI e.mi 0 99 = true) ∨ (i = .int .i64 3 ∧ M.edOk e = true)) (fun i => 3 - (intOf i).toNat)
  case atStart => exact .inl rfl
  case round =>
    rcases hrel with rfl | ⟨rfl, h1⟩ | ⟨rfl, h1, h2⟩ | ⟨rfl, h1⟩
    · rcases h : M.inI e.ma 0 99 with _ | _
      · have HE := Lib.hid (show M.edOk e = false by simp [M.edOk, h])
        rcases inI_false h with k | ⟨k0, k⟩
        all_goals
          go_wp2
          go_ret
          exact ⟨ret_bool HE.out.symm, bb⟩
      · obtain ⟨k0, k1⟩ := inI_true h
        have H := Lib.hid h
        clear h
        go_wp2
        go_round
        case rel => exact .inr (.inl ⟨rfl, by trivial⟩)
        case measure => simp [intOf]
    · rcases h : M.inI e.mi 0 99 with _ | _
      · have HE := Lib.hid (show M.edOk e = false by simp [M.edOk, h])
        rcases inI_false h with k | ⟨k0, k⟩
        all_goals
          go_wp2
          go_ret
          exact ⟨ret_bool HE.out.symm, bb⟩
      · obtain ⟨k0, k1⟩ := inI_true h
        have H := Lib.hid h
        clear h
        go_wp2
        go_round
        case rel => exact .inr (.inr (.inl ⟨rfl, h1, by trivial⟩))
        case measure => simp [intOf]
    · rcases h : M.inI e.pa 0 99 with _ | _
      · have HE := Lib.hid (show M.edOk e = false by simp [M.edOk, h])
        rcases inI_false h with k | ⟨k0, k⟩
        all_goals
          go_wp2
          go_ret
          exact ⟨ret_bool HE.out.symm, bb⟩
      · obtain ⟨k0, k1⟩ := inI_true h
        have H := Lib.hid h
        clear h
        go_wp2
        go_round
        case rel => exact .inr (.inr (.inr ⟨rfl, by simp [M.edOk, H.out, h1, h2]⟩))
        case measure => simp [intOf]
    · have HE := Lib.hid h1
      clear h1
      go_wp2
      go_ret
      exact ⟨ret_bool HE.out.symm, bb⟩

theorem parts_eq_at (d : Nat) (e : ∀ (p q : Int) (w : World), (Op.equalIn d 2 (.int .i64 p) (.int .i64 q)).run Tryz.prog w = .ok (p == q) w) (a b c x y z : Int) (w : World) :
    (Op.equalIn (d + 1) 170 (.agg #[.int .i64 a, .int .i64 b, .int .i64 c]) (.agg #[.int .i64 x, .int .i64 y, .int .i64 z])).run Tryz.prog w = .ok (a == x && (b == y && c == z)) w := by
  have p0 : ∀ (a b c : Int) (w : World), (part 2 #[.int .i64 a, .int .i64 b, .int .i64 c] 0).run Tryz.prog w = .ok (.int .i64 a) w := fun _ _ _ _ => by kernel_rfl
  have p1 : ∀ (a b c : Int) (w : World), (part 2 #[.int .i64 a, .int .i64 b, .int .i64 c] 1).run Tryz.prog w = .ok (.int .i64 b) w := fun _ _ _ _ => by kernel_rfl
  have p2 : ∀ (a b c : Int) (w : World), (part 2 #[.int .i64 a, .int .i64 b, .int .i64 c] 2).run Tryz.prog w = .ok (.int .i64 c) w := fun _ _ _ _ => by kernel_rfl
  have s1 : ∀ w : World, (sizeOf 2).run Tryz.prog w = .ok 1 w := fun _ => by kernel_rfl
  simp only [Op.equalIn, Sem.run_bind, run_underlying Tryz.underlying170, Result.andThen_ok, s1]
  rcases h1 : (a == x) with _ | _ <;> rcases h2 : (b == y) with _ | _ <;> rcases h3 : (c == z) with _ | _ <;>
    simp [Std.Legacy.Range.forIn_eq_forIn_range', Std.Legacy.Range.size, List.range', List.forIn_cons, p0, p1, p2, e, h1, h2, h3, Sem.run_bind]
theorem parts_eq (a b c x y z : Int) (w : World) :
    (Op.equalIn 10000 170 (.agg #[.int .i64 a, .int .i64 b, .int .i64 c]) (.agg #[.int .i64 x, .int .i64 y, .int .i64 z])).run Tryz.prog w = .ok (a == x && (b == y && c == z)) w :=
  parts_eq_at 9999 (fun p q w => run_equalIn_int w 9998 2 .i64 .i64 p q Tryz.underlying2) a b c x y z w

theorem older_last {a b : M.Ed} (h1 : a.ma = b.ma) (h2 : a.mi = b.mi) : M.older a b = decide (a.pa < b.pa) := by
  unfold M.older; rw [if_neg (by simpa using h1), if_neg (by simpa using h2)]
theorem older_mid {a b : M.Ed} (h1 : a.ma = b.ma) (h2 : a.mi ≠ b.mi) : M.older a b = decide (a.mi < b.mi) := by
  unfold M.older; rw [if_neg (by simpa using h1), if_pos h2]
theorem older_first {a b : M.Ed} (h1 : a.ma ≠ b.ma) : M.older a b = decide (a.ma < b.ma) := by
  unfold M.older; rw [if_pos h1]

/-- Block g holds e's three numbers. -/
def Three (w : World) (g : Nat) (e : M.Ed) : Prop :=
  w.cell? ⟨g, 0, none⟩ = some (.int .i64 e.ma) ∧ w.cell? ⟨g, 1, none⟩ = some (.int .i64 e.mi) ∧ w.cell? ⟨g, 2, none⟩ = some (.int .i64 e.pa)

theorem Three.lt {w : World} {g : Nat} {e : M.Ed} (h : Three w g e) : g < w.heap.size := World.block_lt_of_cell? w _ h.1
theorem Three.below {w w' : World} {g : Nat} {e : M.Ed} (h : Three w g e) (hb : Below w.heap.size w w') : Three w' g e :=
  ⟨(hb.cell (p := ⟨g, 0, none⟩) h.lt).trans h.1, (hb.cell (p := ⟨g, 1, none⟩) h.lt).trans h.2.1, (hb.cell (p := ⟨g, 2, none⟩) h.lt).trans h.2.2⟩
theorem Three.alloc {w : World} {g : Nat} {e : M.Ed} (h : Three w g e) (o : Obj) : Three (w.alloc o) g e := by
  obtain ⟨h0, h1, h2⟩ := h
  have hl := World.block_lt_of_cell? w _ h0
  refine ⟨?_, ?_, ?_⟩
  · rw [World.cell?_alloc_lt (a := ⟨g, 0, none⟩) (h := hl)]; exact h0
  · rw [World.cell?_alloc_lt (a := ⟨g, 1, none⟩) (h := hl)]; exact h1
  · rw [World.cell?_alloc_lt (a := ⟨g, 2, none⟩) (h := hl)]; exact h2

/-- Block g has room for three numbers. -/
def Room (w : World) (g : Nat) : Prop :=
  ((w.cell? ⟨g, 0, none⟩).isSome = true ∧ (w.cell? ⟨g, 1, none⟩).isSome = true ∧ (w.cell? ⟨g, 2, none⟩).isSome = true) ∧ w.frozen? ⟨g, 0, none⟩ = false ∧ w.frozen? ⟨g, 1, none⟩ = false ∧ w.frozen? ⟨g, 2, none⟩ = false

theorem Three.later {w w' : World} {g : Nat} {e : M.Ed} (h : Three w g e) (hb : w'.heap[g]? = w.heap[g]?) : Three w' g e :=
  ⟨(World.cell?_of_block (a := ⟨g, 0, none⟩) hb).trans h.1, (World.cell?_of_block (a := ⟨g, 1, none⟩) hb).trans h.2.1, (World.cell?_of_block (a := ⟨g, 2, none⟩) hb).trans h.2.2⟩
theorem Room.later {w w' : World} {g : Nat} (h : Room w g) (hb : w'.heap[g]? = w.heap[g]?) : Room w' g := by
  obtain ⟨⟨h0, h1, h2⟩, h3, h4, h5⟩ := h
  refine ⟨⟨?_, ?_, ?_⟩, ?_, ?_, ?_⟩
  · rw [World.cell?_of_block (a := ⟨g, 0, none⟩) hb]; exact h0
  · rw [World.cell?_of_block (a := ⟨g, 1, none⟩) hb]; exact h1
  · rw [World.cell?_of_block (a := ⟨g, 2, none⟩) hb]; exact h2
  · rw [World.frozen?_of_block (a := ⟨g, 0, none⟩) hb]; exact h3
  · rw [World.frozen?_of_block (a := ⟨g, 1, none⟩) hb]; exact h4
  · rw [World.frozen?_of_block (a := ⟨g, 2, none⟩) hb]; exact h5

/-- What is so of the memory between the operations of 'x, y := partsOf(a), partsOf(b)', whatever has come up. -/
def OlderW (a b : M.Ed) (w : World) (l : Nat → Bool) (u5 u6 : Value) (wx : World) : Prop :=
  (Below w.heap.size w wx ∧ w.heap.size + 1 < wx.heap.size ∧ Three wx w.heap.size a ∧ Three wx (w.heap.size + 1) b) ∧
    (l 4 = true → ∃ g, u5 = .pointer (some ⟨g, 0, none⟩) ∧ w.heap.size + 1 < g ∧ g < wx.heap.size ∧ Room wx g ∧ (l 6 = true → Three wx g a) ∧ (l 5 = true → u6 ≠ .pointer (some ⟨g, 0, none⟩))) ∧
    (l 5 = true → ∃ h, u6 = .pointer (some ⟨h, 0, none⟩) ∧ w.heap.size + 1 < h ∧ h < wx.heap.size ∧ Room wx h ∧ (l 7 = true → Three wx h b)) ∧ (l 4 = false → l 6 = false) ∧ (l 5 = false → l 7 = false)
/-- The state between these operations. -/
def OlderI (a b : M.Ed) (w : World) (l : Nat → Bool) (act : Act) (wx : World) : Prop :=
  ∃ u5 u6 u8 u9 u10 u11 : Value, act = ⟨#[edV a, edV b, .pointer (some ⟨w.heap.size, 0, none⟩), .pointer (some ⟨w.heap.size + 1, 0, none⟩), .bool false, u5, u6, undef, u8, u9, u10, u11, undef, undef, undef, undef, undef, undef, undef, undef, undef, undef, undef, undef, undef, undef, undef, undef, undef, undef, undef], []⟩ ∧
    OlderW a b w l u5 u6 wx ∧ (l 0 = true → u8 = edV a) ∧ (l 1 = true → u9 = edV a) ∧ (l 2 = true → u10 = edV b) ∧ (l 3 = true → u11 = edV b)

theorem OlderW.later {a b : M.Ed} {w : World} {l l' : Nat → Bool} {u5 u6 : Value} {wx w1 : World} (h : OlderW a b w l u5 u6 wx) (hb : Below wx.heap.size wx w1) (h4 : l' 4 = l 4) (h5 : l' 5 = l 5) (h6 : l' 6 = l 6) (h7 : l' 7 = l 7) : OlderW a b w l' u5 u6 w1 := by
  obtain ⟨⟨h0, hz, ha, hb'⟩, hg, hh, hx, hy⟩ := h
  have hblk : ∀ k, k < wx.heap.size → w1.heap[k]? = wx.heap[k]? := fun k hk => hb.block k hk
  have hs := hb.size
  unfold OlderW
  rw [h4, h5, h6, h7]
  refine ⟨⟨next h0 (by exact hb), by omega, ha.later (hblk _ (by omega)), hb'.later (hblk _ hz)⟩, fun k => ?_, fun k => ?_, hx, hy⟩
  · obtain ⟨g, e, q1, q2, q3, q4, q5⟩ := hg k
    exact ⟨g, e, q1, by omega, q3.later (hblk _ q2), fun z => (q4 z).later (hblk _ q2), q5⟩
  · obtain ⟨g, e, q1, q2, q3, q4⟩ := hh k
    exact ⟨g, e, q1, by omega, q3.later (hblk _ q2), fun z => (q4 z).later (hblk _ q2)⟩

theorem room_new (w : World) (x y z : Value) (t : TypeId) : Room (w.alloc (.cells #[x, y, z] t)) w.heap.size := by
  have h0 := fun j => World.cell?_alloc_mark w #[x, y, z] t (0, 0) j
  have h1 := fun j => World.frozen?_alloc_mark w #[x, y, z] t 0 0 j
  refine ⟨⟨?_, ?_, ?_⟩, ?_, ?_, ?_⟩
  · rw [h0]; rfl
  · rw [h0]; rfl
  · rw [h0]; rfl
  · rw [h1]; simp
  · rw [h1]; simp
  · rw [h1]; simp

theorem OlderW.new5 {a b : M.Ed} {w : World} {l : Nat → Bool} {u5 u6 : Value} {wx : World} (h : OlderW a b w l u5 u6 wx) (h4 : l 4 = false) (x y z : Value) (t : TypeId) :
    OlderW a b w (fun j => j == 4 || l j) (.pointer (some ⟨wx.heap.size, 0, none⟩)) u6 (wx.alloc (.cells #[x, y, z] t)) := by
  have h' := h.later (l' := l) ((Below.refl _ _).alloc (Nat.le_refl _) (.cells #[x, y, z] t)) rfl rfl rfl rfl
  obtain ⟨⟨h0, hz, ha, hb'⟩, hg, hh, hx, hy⟩ := h'
  have h6 := hx h4
  refine ⟨⟨h0, hz, ha, hb'⟩, fun _ => ⟨_, rfl, h.1.2.1, by simp, room_new _ _ _ _ _, fun e => ?_, fun e => ?_⟩, hh, by simp, hy⟩
  · simp [h6] at e
  · obtain ⟨g, rfl, _, q, _⟩ := h.2.2.1 (by simpa using e)
    intro e'
    simp at e' <;> omega
theorem OlderW.new6 {a b : M.Ed} {w : World} {l : Nat → Bool} {u5 u6 : Value} {wx : World} (h : OlderW a b w l u5 u6 wx) (h5 : l 5 = false) (x y z : Value) (t : TypeId) :
    OlderW a b w (fun j => j == 5 || l j) u5 (.pointer (some ⟨wx.heap.size, 0, none⟩)) (wx.alloc (.cells #[x, y, z] t)) := by
  have h' := h.later (l' := l) ((Below.refl _ _).alloc (Nat.le_refl _) (.cells #[x, y, z] t)) rfl rfl rfl rfl
  obtain ⟨⟨h0, hz, ha, hb'⟩, hg, hh, hx, hy⟩ := h'
  have h7 := hy h5
  refine ⟨⟨h0, hz, ha, hb'⟩, fun e => ?_, fun _ => ⟨_, rfl, h.1.2.1, by simp, room_new _ _ _ _ _, fun e => ?_⟩, hx, by simp⟩
  · obtain ⟨g, rfl, q1, q2, q3, q4, _⟩ := hg (by simpa using e)
    obtain ⟨g', e', _, q, _⟩ := h.2.1 (by simpa using e)
    simp at e'
    refine ⟨g, rfl, q1, q2, q3, q4, fun _ e'' => ?_⟩
    simp at e'' <;> omega
  · simp [h7] at e

theorem Room.put {w : World} {g : Nat} (h : Room w g) (e : M.Ed) : Three (((w.setCell ⟨g, 0, none⟩ (.int .i64 e.ma)).setCell ⟨g, 1, none⟩ (.int .i64 e.mi)).setCell ⟨g, 2, none⟩ (.int .i64 e.pa)) g e ∧ Room (((w.setCell ⟨g, 0, none⟩ (.int .i64 e.ma)).setCell ⟨g, 1, none⟩ (.int .i64 e.mi)).setCell ⟨g, 2, none⟩ (.int .i64 e.pa)) g := by
  obtain ⟨⟨h0, h1, h2⟩, h3, h4, h5⟩ := h
  have hT : Three (((w.setCell ⟨g, 0, none⟩ (.int .i64 e.ma)).setCell ⟨g, 1, none⟩ (.int .i64 e.mi)).setCell ⟨g, 2, none⟩ (.int .i64 e.pa)) g e := by
    refine ⟨?_, ?_, ?_⟩ <;> simp [go_sem, h0, h1, h2]
  refine ⟨hT, ⟨by rw [hT.1]; rfl, by rw [hT.2.1]; rfl, by rw [hT.2.2]; rfl⟩, ?_, ?_, ?_⟩ <;> simp [World.frozen?_setCell, h3, h4, h5]
theorem put_block (w : World) (g k : Nat) (x y z : Value) (h : k ≠ g) : (((w.setCell ⟨g, 0, none⟩ x).setCell ⟨g, 1, none⟩ y).setCell ⟨g, 2, none⟩ z).heap[k]? = w.heap[k]? := by
  rw [Below.heap_setCell _ _ _ _ h, Below.heap_setCell _ _ _ _ h, Below.heap_setCell _ _ _ _ h]
theorem put_size (w : World) (g : Nat) (x y z : Value) : (((w.setCell ⟨g, 0, none⟩ x).setCell ⟨g, 1, none⟩ y).setCell ⟨g, 2, none⟩ z).heap.size = w.heap.size := by simp

theorem OlderW.put5 {a b : M.Ed} {w : World} {l : Nat → Bool} {g : Nat} {u6 : Value} {wx : World} (h : OlderW a b w l (.pointer (some ⟨g, 0, none⟩)) u6 wx) (h4 : l 4 = true) (h5 : l 5 = true) :
    OlderW a b w (fun j => j == 6 || l j) (.pointer (some ⟨g, 0, none⟩)) u6 (((wx.setCell ⟨g, 0, none⟩ (.int .i64 a.ma)).setCell ⟨g, 1, none⟩ (.int .i64 a.mi)).setCell ⟨g, 2, none⟩ (.int .i64 a.pa)) := by
  obtain ⟨⟨h0, hz, ha, hb'⟩, hg, hh, hx, hy⟩ := h
  obtain ⟨g', e, q1, q2, q3, q4, q5⟩ := hg h4
  obtain rfl : g = g' := by simpa using e
  obtain ⟨k, rfl, r1, r2, r3, r4⟩ := hh h5
  have hne : k ≠ g := fun e => q5 h5 (by rw [e])
  have pb := fun j hj => put_block wx g j (.int .i64 a.ma) (.int .i64 a.mi) (.int .i64 a.pa) hj
  obtain ⟨s1, s2⟩ := q3.put a
  refine ⟨⟨((h0.setCell (by show _ ≤ g; omega) _).setCell (by show _ ≤ g; omega) _).setCell (by show _ ≤ g; omega) _, by rw [put_size]; exact hz, ha.later (pb _ (by omega)), hb'.later (pb _ (by omega))⟩, fun _ => ⟨g, rfl, q1, by rw [put_size]; exact q2, s2, fun _ => s1, fun _ => q5 h5⟩, fun _ => ⟨k, rfl, r1, by rw [put_size]; exact r2, r3.later (pb _ hne), fun z => (r4 (by simpa using z)).later (pb _ hne)⟩, fun z => ?_, hy⟩
  simp [h4] at z
theorem OlderW.put6 {a b : M.Ed} {w : World} {l : Nat → Bool} {k : Nat} {u5 : Value} {wx : World} (h : OlderW a b w l u5 (.pointer (some ⟨k, 0, none⟩)) wx) (h4 : l 4 = true) (h5 : l 5 = true) :
    OlderW a b w (fun j => j == 7 || l j) u5 (.pointer (some ⟨k, 0, none⟩)) (((wx.setCell ⟨k, 0, none⟩ (.int .i64 b.ma)).setCell ⟨k, 1, none⟩ (.int .i64 b.mi)).setCell ⟨k, 2, none⟩ (.int .i64 b.pa)) := by
  obtain ⟨⟨h0, hz, ha, hb'⟩, hg, hh, hx, hy⟩ := h
  obtain ⟨g, rfl, q1, q2, q3, q4, q5⟩ := hg h4
  obtain ⟨k', e, r1, r2, r3, r4⟩ := hh h5
  obtain rfl : k = k' := by simpa using e
  have hne : g ≠ k := fun e => q5 h5 (by rw [e])
  have pb := fun j hj => put_block wx k j (.int .i64 b.ma) (.int .i64 b.mi) (.int .i64 b.pa) hj
  obtain ⟨s1, s2⟩ := r3.put b
  refine ⟨⟨((h0.setCell (by show _ ≤ k; omega) _).setCell (by show _ ≤ k; omega) _).setCell (by show _ ≤ k; omega) _, by rw [put_size]; exact hz, ha.later (pb _ (by omega)), hb'.later (pb _ (by omega))⟩, fun _ => ⟨g, rfl, q1, by rw [put_size]; exact q2, q3.later (pb _ hne), fun z => (q4 (by simpa using z)).later (pb _ hne), fun _ => q5 h5⟩, fun _ => ⟨k, rfl, r1, by rw [put_size]; exact r2, s2, fun _ => s1⟩, hx, fun z => ?_⟩
  simp [h5] at z

set_option maxRecDepth 20000 in
set_option maxHeartbeats 1000000 in
theorem implOlder (a b : M.Ed) (w : World) :
    Calls Tryz.prog 126 #[edV a, edV b] w fun r w' => r = .returned (.bool (M.older a b)) ∧ Below w.heap.size w w' := by
  go_enter Tryz.func126, Tryz.ntmps126
  go_upto_region 1 with (fail)
  go_cut [5, 6] (fun s5 s6 wx => ∃ g h : Nat, s5 = .pointer (some ⟨g, 0, none⟩) ∧ s6 = .pointer (some ⟨h, 0, none⟩) ∧ Three wx g a ∧ Three wx h b ∧ Below w.heap.size w wx)
  case first =>
    refine wp_region_inv (by kernel_rfl) (by kernel_rfl) (OlderI a b w) ?_ ?_ ?_
    · refine ⟨_, _, _, _, _, _, rfl, ⟨⟨(((Below.refl _ _).alloc (Nat.le_refl _) _).alloc (by simp) _).drew, by simp [World.drew], ?_, ?_⟩, by simp, by simp, by simp, by simp⟩, by simp, by simp, by simp, by simp⟩
      · exact ⟨by simp [go_sem], by simp [go_sem], by simp [go_sem]⟩
      · exact ⟨by simp [go_sem], by simp [go_sem], by simp [go_sem]⟩
    · refine ⟨?_, ?_, ?_, ?_, ?_, ?_, ?_, ?_, trivial⟩
      · rintro l act wx ⟨u5, u6, u8, u9, u10, u11, rfl, hw, hl0, hl1, hl2, hl3⟩ hn hdeps K hK
        obtain ⟨h0, h1, h2⟩ := hw.1.2.2.1
        go_simp
        exact hK _ _ ⟨_, _, _, _, _, _, rfl, hw.later (Below.refl _ _) rfl rfl rfl rfl, fun _ => rfl, hl1, hl2, hl3⟩
      · rintro l act wx ⟨u5, u6, u8, u9, u10, u11, rfl, hw, hl0, hl1, hl2, hl3⟩ hn hdeps K hK
        have d0 : l 0 = true := by simpa [Region.binds] using hdeps
        obtain rfl := hl0 d0
        go_simp
        refine (partsOf_any a _).mono ?_
        rintro r w1 ⟨rfl, b1⟩
        go_simp
        exact hK _ _ ⟨_, _, _, _, _, _, rfl, hw.later b1 rfl rfl rfl rfl, fun _ => rfl, fun _ => rfl, hl2, hl3⟩
      · rintro l act wx ⟨u5, u6, u8, u9, u10, u11, rfl, hw, hl0, hl1, hl2, hl3⟩ hn hdeps K hK
        obtain ⟨h0, h1, h2⟩ := hw.1.2.2.2
        go_simp
        exact hK _ _ ⟨_, _, _, _, _, _, rfl, hw.later (Below.refl _ _) rfl rfl rfl rfl, hl0, hl1, fun _ => rfl, hl3⟩
      · rintro l act wx ⟨u5, u6, u8, u9, u10, u11, rfl, hw, hl0, hl1, hl2, hl3⟩ hn hdeps K hK
        have d0 : l 2 = true ∧ l 1 = true := by simpa [Region.binds] using hdeps
        obtain rfl := hl2 d0.1
        obtain rfl := hl1 d0.2
        go_simp
        refine (partsOf_any b _).mono ?_
        rintro r w1 ⟨rfl, b1⟩
        go_simp
        exact hK _ _ ⟨_, _, _, _, _, _, rfl, hw.later b1 rfl rfl rfl rfl, hl0, fun _ => rfl, fun _ => rfl, fun _ => rfl⟩
      · rintro l act wx ⟨u5, u6, u8, u9, u10, u11, rfl, hw, hl0, hl1, hl2, hl3⟩ hn hdeps K hK
        go_simp
        exact hK _ _ ⟨_, _, _, _, _, _, rfl, hw.new5 hn _ _ _ _, hl0, hl1, hl2, hl3⟩
      · rintro l act wx ⟨u5, u6, u8, u9, u10, u11, rfl, hw, hl0, hl1, hl2, hl3⟩ hn hdeps K hK
        go_simp
        exact hK _ _ ⟨_, _, _, _, _, _, rfl, hw.new6 hn _ _ _ _, hl0, hl1, hl2, hl3⟩
      · rintro l act wx ⟨u5, u6, u8, u9, u10, u11, rfl, hw, hl0, hl1, hl2, hl3⟩ hn hdeps K hK
        have d0 : l 4 = true ∧ l 1 = true ∧ l 5 = true := by simp [Region.binds] at hdeps; simp [hdeps]
        obtain rfl := hl1 d0.2.1
        obtain ⟨g, rfl, q1, q2, ⟨⟨k0, k1, k2⟩, k3, k4, k5⟩, q4, q5⟩ := hw.2.1 d0.1
        have hw' := hw.put5 d0.1 d0.2.2
        clear hw q4 q5
        obtain ⟨v0, k0⟩ := Option.isSome_iff_exists.1 k0
        obtain ⟨v1, k1⟩ := Option.isSome_iff_exists.1 k1
        obtain ⟨v2, k2⟩ := Option.isSome_iff_exists.1 k2
        go_simp
        exact hK _ _ ⟨_, _, _, _, _, _, rfl, hw', hl0, fun _ => rfl, hl2, hl3⟩
      · rintro l act wx ⟨u5, u6, u8, u9, u10, u11, rfl, hw, hl0, hl1, hl2, hl3⟩ hn hdeps K hK
        have d0 : l 4 = true ∧ l 3 = true ∧ l 5 = true := by simp [Region.binds] at hdeps; simp [hdeps]
        obtain rfl := hl3 d0.2.1
        obtain ⟨g, rfl, q1, q2, ⟨⟨k0, k1, k2⟩, k3, k4, k5⟩, q4⟩ := hw.2.2.1 d0.2.2
        have hw' := hw.put6 d0.1 d0.2.2
        clear hw q4
        obtain ⟨v0, k0⟩ := Option.isSome_iff_exists.1 k0
        obtain ⟨v1, k1⟩ := Option.isSome_iff_exists.1 k1
        obtain ⟨v2, k2⟩ := Option.isSome_iff_exists.1 k2
        go_simp
        exact hK _ _ ⟨_, _, _, _, _, _, rfl, hw', hl0, hl1, hl2, fun _ => rfl⟩
    · rintro l act wx ⟨u5, u6, u8, u9, u10, u11, rfl, hw, hl0, hl1, hl2, hl3⟩ hall
      have all : ∀ i, i < 8 → l i = true := hall
      obtain ⟨g, rfl, _, _, _, q4, _⟩ := hw.2.1 (all 4 (by omega))
      obtain ⟨h, rfl, _, _, _, q5⟩ := hw.2.2.1 (all 5 (by omega))
      have ta := q4 (all 6 (by omega))
      have tb := q5 (all 7 (by omega))
      have bb := hw.1.1
      clear hw hl0 hl1 hl2 hl3 q4 q5
      go_wp2
      go_meet
      exact ⟨g, h, rfl, rfl, ta, tb, bb⟩
  case rest =>
    obtain ⟨g, h, rfl, rfl, ⟨a0, a1, a2⟩, ⟨b0, b1, b2⟩, bb⟩ := hcut
    have pe := fun w => parts_eq a.ma a.mi a.pa b.ma b.mi b.pa w
    by_cases h1 : a.ma = b.ma
    · have h1' : (a.ma == b.ma) = true := by simpa using h1
      by_cases h2 : a.mi = b.mi
      · have h2' : (a.mi == b.mi) = true := by simpa using h2
        have HE := Lib.hid (older_last h1 h2)
        clear h1 h2
        by_cases h3 : a.pa = b.pa
        · have h3' : (a.pa == b.pa) = true := by simpa using h3
          have h4 : decide (a.pa < b.pa) = false := by simp; omega
          clear h3
          go_wp2
          go_ret
          exact ⟨ret_bool (by rw [HE.out, h4]), bb⟩
        · have h3' : (a.pa == b.pa) = false := by simpa using h3
          clear h3
          go_wp2
          go_loopw [7] (fun i wy => (i = .int .i64 0 ∨ i = .int .i64 1 ∨ i = .int .i64 2) ∧ ∃ n, wy = wc.drewN n) (fun i _ => 2 - (intOf i).toNat)
          case atStart => exact ⟨.inl rfl, 0, rfl⟩
          case round =>
            obtain ⟨hi, n, rfl⟩ := hrel
            rcases hi with rfl | rfl | rfl
            · go_wp2
              go_quiet (fail)
              go_wp2
              go_roundw
              case rel => exact ⟨.inr (.inl rfl), _, rfl⟩
              case measure => simp [intOf]
            · go_wp2
              go_quiet (fail)
              go_wp2
              go_roundw
              case rel => exact ⟨.inr (.inr rfl), _, rfl⟩
              case measure => simp [intOf]
            · go_wp2
              go_quiet (fail)
              go_wp2
              go_quiet (fail)
              go_wp2
              go_ret
              exact ⟨ret_bool HE.out.symm, ⟨bb.os, bb.tape, bb.output, bb.size, bb.block⟩⟩
      · have h2' : (a.mi == b.mi) = false := by simpa using h2
        have HE := Lib.hid (older_mid h1 h2)
        clear h1 h2
        go_wp2
        go_loopw [7] (fun i wy => (i = .int .i64 0 ∨ i = .int .i64 1) ∧ ∃ n, wy = wc.drewN n) (fun i _ => 2 - (intOf i).toNat)
        case atStart => exact ⟨.inl rfl, 0, rfl⟩
        case round =>
          obtain ⟨hi, n, rfl⟩ := hrel
          rcases hi with rfl | rfl
          · go_wp2
            go_quiet (fail)
            go_wp2
            go_roundw
            case rel => exact ⟨.inr rfl, _, rfl⟩
            case measure => simp [intOf]
          · go_wp2
            go_quiet (fail)
            go_wp2
            go_quiet (fail)
            go_wp2
            go_ret
            exact ⟨ret_bool HE.out.symm, ⟨bb.os, bb.tape, bb.output, bb.size, bb.block⟩⟩
    · have h1' : (a.ma == b.ma) = false := by simpa using h1
      have HE := Lib.hid (older_first h1)
      clear h1
      go_wp2
      go_loopw [7] (fun i wy => i = .int .i64 0 ∧ ∃ n, wy = wc.drewN n) (fun i _ => 2 - (intOf i).toNat)
      case atStart => exact ⟨rfl, 0, rfl⟩
      case round =>
        obtain ⟨rfl, n, rfl⟩ := hrel
        go_wp2
        go_quiet (fail)
        go_wp2
        go_quiet (fail)
        go_wp2
        go_ret
        exact ⟨ret_bool HE.out.symm, ⟨bb.os, bb.tape, bb.output, bb.size, bb.block⟩⟩

end Go.Proofs.YtdoeiphnalbinaaGreat
