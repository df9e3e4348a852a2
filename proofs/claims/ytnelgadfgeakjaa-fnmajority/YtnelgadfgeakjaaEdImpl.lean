/- Proved: the program's functions on editions that compare answer the same plain Lean functions as the model's, at every edition; they write nothing that was there. No condition. -/
import Derived.Test.YtnelgadfgeakjaaEdWalks
import Derived.Deep.QuietTactic
import Derived.Deep.RegionWith
import Derived.BigQuiet
import Derived.KernelRfl
import Derived.Test.YtnelgadfgeakjaaOrders
import Derived.Deep.DeepCutAuto
namespace Go.Proofs.Ytnelgadfgeakjaa
open Go.RowKit

theorem inI_true {x : Int} (h : M.inI x 0 99 = true) : 0 ≤ x ∧ x ≤ 99 := by simpa [M.inI] using h
theorem inI_false {x : Int} (h : M.inI x 0 99 = false) : x < 0 ∨ (0 ≤ x ∧ 99 < x) := by simp [M.inI] at h; omega

theorem older_last {a b : M.Ed} (h1 : a.ma = b.ma) (h2 : a.mi = b.mi) : M.older a b = decide (a.pa < b.pa) := by
  unfold M.older; rw [if_neg (by simpa using h1), if_neg (by simpa using h2)]
theorem older_mid {a b : M.Ed} (h1 : a.ma = b.ma) (h2 : a.mi ≠ b.mi) : M.older a b = decide (a.mi < b.mi) := by
  unfold M.older; rw [if_neg (by simpa using h1), if_pos h2]
theorem older_first {a b : M.Ed} (h1 : a.ma ≠ b.ma) : M.older a b = decide (a.ma < b.ma) := by
  unfold M.older; rw [if_pos h1]

/-- Block g holds e's three numbers. -/
def Three (w : World) (g : Nat) (e : M.Ed) : Prop :=
  w.cell? ⟨g, 0, none⟩ = some (.int .i64 e.ma) ∧ w.cell? ⟨g, 1, none⟩ = some (.int .i64 e.mi) ∧ w.cell? ⟨g, 2, none⟩ = some (.int .i64 e.pa)

theorem three_new (w : World) (e : M.Ed) (t : TypeId) : Three (w.alloc (.cells #[.int .i64 e.ma, .int .i64 e.mi, .int .i64 e.pa] t)) w.heap.size e := by
  have h0 := fun j => World.cell?_alloc_mark w #[.int .i64 e.ma, .int .i64 e.mi, .int .i64 e.pa] t (0, 0) j
  refine ⟨?_, ?_, ?_⟩
  · rw [h0]; rfl
  · rw [h0]; rfl
  · rw [h0]; rfl
theorem Three.lt {w : World} {g : Nat} {e : M.Ed} (h : Three w g e) : g < w.heap.size := World.block_lt_of_cell? w _ h.1
theorem Three.below {w w' : World} {g : Nat} {e : M.Ed} (h : Three w g e) (hb : Below w.heap.size w w') : Three w' g e :=
  ⟨(hb.cell (p := ⟨g, 0, none⟩) h.lt).trans h.1, (hb.cell (p := ⟨g, 1, none⟩) h.lt).trans h.2.1, (hb.cell (p := ⟨g, 2, none⟩) h.lt).trans h.2.2⟩
theorem Three.alloc {w : World} {g : Nat} {e : M.Ed} (h : Three w g e) (o : Obj) : Three (w.alloc o) g e := by
  obtain ⟨h0, h1, h2⟩ := h
  have hl := World.block_lt_of_cell? w _ h0
  refine ⟨?_, ?_, ?_⟩
  · rw [World.cell?_alloc_lt (a := ⟨g, 0, none⟩) (h := hl)]; exact h0
  · rw [World.cell?_alloc_lt (a := ⟨g, 1, none⟩) (h := hl)]; exact h1
  · rw [World.cell?_alloc_lt (a := ⟨g, 2, none⟩) (h := hl)]; exact h2

/-- Block g has room for three numbers. -/
def Room (w : World) (g : Nat) : Prop :=
  ((w.cell? ⟨g, 0, none⟩).isSome = true ∧ (w.cell? ⟨g, 1, none⟩).isSome = true ∧ (w.cell? ⟨g, 2, none⟩).isSome = true) ∧ w.frozen? ⟨g, 0, none⟩ = false ∧ w.frozen? ⟨g, 1, none⟩ = false ∧ w.frozen? ⟨g, 2, none⟩ = false

theorem Three.later {w w' : World} {g : Nat} {e : M.Ed} (h : Three w g e) (hb : w'.heap[g]? = w.heap[g]?) : Three w' g e :=
  ⟨(World.cell?_of_block (a := ⟨g, 0, none⟩) hb).trans h.1, (World.cell?_of_block (a := ⟨g, 1, none⟩) hb).trans h.2.1, (World.cell?_of_block (a := ⟨g, 2, none⟩) hb).trans h.2.2⟩
theorem Room.later {w w' : World} {g : Nat} (h : Room w g) (hb : w'.heap[g]? = w.heap[g]?) : Room w' g := by
  obtain ⟨⟨h0, h1, h2⟩, h3, h4, h5⟩ := h
  refine ⟨⟨?_, ?_, ?_⟩, ?_, ?_, ?_⟩
  · rw [World.cell?_of_block (a := ⟨g, 0, none⟩) hb]; exact h0
  · rw [World.cell?_of_block (a := ⟨g, 1, none⟩) hb]; exact h1
  · rw [World.cell?_of_block (a := ⟨g, 2, none⟩) hb]; exact h2
  · rw [World.frozen?_of_block (a := ⟨g, 0, none⟩) hb]; exact h3
  · rw [World.frozen?_of_block (a := ⟨g, 1, none⟩) hb]; exact h4
  · rw [World.frozen?_of_block (a := ⟨g, 2, none⟩) hb]; exact h5

/-- What is so of the memory between the operations of 'x, y := partsOf(a), partsOf(b)', whatever has come up. -/
def OlderW (a b : M.Ed) (w : World) (l : Nat → Bool) (u5 u6 : Value) (wx : World) : Prop :=
  (Below w.heap.size w wx ∧ w.heap.size + 1 < wx.heap.size ∧ Three wx w.heap.size a ∧ Three wx (w.heap.size + 1) b) ∧
    (l 4 = true → ∃ g, u5 = .pointer (some ⟨g, 0, none⟩) ∧ w.heap.size + 1 < g ∧ g < wx.heap.size ∧ Room wx g ∧ (l 6 = true → Three wx g a) ∧ (l 5 = true → u6 ≠ .pointer (some ⟨g, 0, none⟩))) ∧
    (l 5 = true → ∃ h, u6 = .pointer (some ⟨h, 0, none⟩) ∧ w.heap.size + 1 < h ∧ h < wx.heap.size ∧ Room wx h ∧ (l 7 = true → Three wx h b)) ∧ (l 4 = false → l 6 = false) ∧ (l 5 = false → l 7 = false)
/-- The state between these operations. -/
def OlderI (a b : M.Ed) (w : World) (l : Nat → Bool) (act : Act) (wx : World) : Prop :=
  ∃ u5 u6 u8 u9 u10 u11 : Value, act = ⟨#[edV a, edV b, .pointer (some ⟨w.heap.size, 0, none⟩), .pointer (some ⟨w.heap.size + 1, 0, none⟩), .bool false, u5, u6, undef, u8, u9, u10, u11, undef, undef, undef, undef, undef, undef, undef, undef, undef, undef, undef, undef, undef, undef, undef, undef, undef, undef, undef], []⟩ ∧
    OlderW a b w l u5 u6 wx ∧ (l 0 = true → u8 = edV a) ∧ (l 1 = true → u9 = edV a) ∧ (l 2 = true → u10 = edV b) ∧ (l 3 = true → u11 = edV b)

theorem OlderW.later {a b : M.Ed} {w : World} {l l' : Nat → Bool} {u5 u6 : Value} {wx w1 : World} (h : OlderW a b w l u5 u6 wx) (hb : Below wx.heap.size wx w1) (h4 : l' 4 = l 4) (h5 : l' 5 = l 5) (h6 : l' 6 = l 6) (h7 : l' 7 = l 7) : OlderW a b w l' u5 u6 w1 := by
  obtain ⟨⟨h0, hz, ha, hb'⟩, hg, hh, hx, hy⟩ := h
  have hblk : ∀ k, k < wx.heap.size → w1.heap[k]? = wx.heap[k]? := fun k hk => hb.block k hk
  have hs := hb.size
  unfold OlderW
  rw [h4, h5, h6, h7]
  refine ⟨⟨next h0 (by exact hb), by omega, ha.later (hblk _ (by omega)), hb'.later (hblk _ hz)⟩, fun k => ?_, fun k => ?_, hx, hy⟩
  · obtain ⟨g, e, q1, q2, q3, q4, q5⟩ := hg k
    exact ⟨g, e, q1, by omega, q3.later (hblk _ q2), fun z => (q4 z).later (hblk _ q2), q5⟩
  · obtain ⟨g, e, q1, q2, q3, q4⟩ := hh k
    exact ⟨g, e, q1, by omega, q3.later (hblk _ q2), fun z => (q4 z).later (hblk _ q2)⟩

theorem room_new (w : World) (x y z : Value) (t : TypeId) : Room (w.alloc (.cells #[x, y, z] t)) w.heap.size := by
  have h0 := fun j => World.cell?_alloc_mark w #[x, y, z] t (0, 0) j
  have h1 := fun j => World.frozen?_alloc_mark w #[x, y, z] t 0 0 j
  refine ⟨⟨?_, ?_, ?_⟩, ?_, ?_, ?_⟩
  · rw [h0]; rfl
  · rw [h0]; rfl
  · rw [h0]; rfl
  · rw [h1]; simp
  · rw [h1]; simp
  · rw [h1]; simp

theorem OlderW.new5 {a b : M.Ed} {w : World} {l : Nat → Bool} {u5 u6 : Value} {wx : World} (h : OlderW a b w l u5 u6 wx) (h4 : l 4 = false) (x y z : Value) (t : TypeId) :
    OlderW a b w (fun j => j == 4 || l j) (.pointer (some ⟨wx.heap.size, 0, none⟩)) u6 (wx.alloc (.cells #[x, y, z] t)) := by
  have h' := h.later (l' := l) ((Below.refl _ _).alloc (Nat.le_refl _) (.cells #[x, y, z] t)) rfl rfl rfl rfl
  obtain ⟨⟨h0, hz, ha, hb'⟩, hg, hh, hx, hy⟩ := h'
  have h6 := hx h4
  refine ⟨⟨h0, hz, ha, hb'⟩, fun _ => ⟨_, rfl, h.1.2.1, by simp, room_new _ _ _ _ _, fun e => ?_, fun e => ?_⟩, hh, by simp, hy⟩
  · simp [h6] at e
  · obtain ⟨g, rfl, _, q, _⟩ := h.2.2.1 (by simpa using e)
    intro e'
    simp at e' <;> omega
theorem OlderW.new6 {a b : M.Ed} {w : World} {l : Nat → Bool} {u5 u6 : Value} {wx : World} (h : OlderW a b w l u5 u6 wx) (h5 : l 5 = false) (x y z : Value) (t : TypeId) :
    OlderW a b w (fun j => j == 5 || l j) u5 (.pointer (some ⟨wx.heap.size, 0, none⟩)) (wx.alloc (.cells #[x, y, z] t)) := by
  have h' := h.later (l' := l) ((Below.refl _ _).alloc (Nat.le_refl _) (.cells #[x, y, z] t)) rfl rfl rfl rfl
  obtain ⟨⟨h0, hz, ha, hb'⟩, hg, hh, hx, hy⟩ := h'
  have h7 := hy h5
  refine ⟨⟨h0, hz, ha, hb'⟩, fun e => ?_, fun _ => ⟨_, rfl, h.1.2.1, by simp, room_new _ _ _ _ _, fun e => ?_⟩, hx, by simp⟩
  · obtain ⟨g, rfl, q1, q2, q3, q4, _⟩ := hg (by simpa using e)
    obtain ⟨g', e', _, q, _⟩ := h.2.1 (by simpa using e)
    simp at e'
    refine ⟨g, rfl, q1, q2, q3, q4, fun _ e'' => ?_⟩
    simp at e'' <;> omega
  · simp [h7] at e

theorem Room.put {w : World} {g : Nat} (h : Room w g) (e : M.Ed) : Three (((w.setCell ⟨g, 0, none⟩ (.int .i64 e.ma)).setCell ⟨g, 1, none⟩ (.int .i64 e.mi)).setCell ⟨g, 2, none⟩ (.int .i64 e.pa)) g e ∧ Room (((w.setCell ⟨g, 0, none⟩ (.int .i64 e.ma)).setCell ⟨g, 1, none⟩ (.int .i64 e.mi)).setCell ⟨g, 2, none⟩ (.int .i64 e.pa)) g := by
  obtain ⟨⟨h0, h1, h2⟩, h3, h4, h5⟩ := h
  have hT : Three (((w.setCell ⟨g, 0, none⟩ (.int .i64 e.ma)).setCell ⟨g, 1, none⟩ (.int .i64 e.mi)).setCell ⟨g, 2, none⟩ (.int .i64 e.pa)) g e := by
    refine ⟨?_, ?_, ?_⟩ <;> simp [go_sem, h0, h1, h2]
  refine ⟨hT, ⟨by rw [hT.1]; rfl, by rw [hT.2.1]; rfl, by rw [hT.2.2]; rfl⟩, ?_, ?_, ?_⟩ <;> simp [World.frozen?_setCell, h3, h4, h5]
theorem put_block (w : World) (g k : Nat) (x y z : Value) (h : k ≠ g) : (((w.setCell ⟨g, 0, none⟩ x).setCell ⟨g, 1, none⟩ y).setCell ⟨g, 2, none⟩ z).heap[k]? = w.heap[k]? := by
  rw [Below.heap_setCell _ _ _ _ h, Below.heap_setCell _ _ _ _ h, Below.heap_setCell _ _ _ _ h]
theorem put_size (w : World) (g : Nat) (x y z : Value) : (((w.setCell ⟨g, 0, none⟩ x).setCell ⟨g, 1, none⟩ y).setCell ⟨g, 2, none⟩ z).heap.size = w.heap.size := by simp

theorem OlderW.put5 {a b : M.Ed} {w : World} {l : Nat → Bool} {g : Nat} {u6 : Value} {wx : World} (h : OlderW a b w l (.pointer (some ⟨g, 0, none⟩)) u6 wx) (h4 : l 4 = true) (h5 : l 5 = true) :
    OlderW a b w (fun j => j == 6 || l j) (.pointer (some ⟨g, 0, none⟩)) u6 (((wx.setCell ⟨g, 0, none⟩ (.int .i64 a.ma)).setCell ⟨g, 1, none⟩ (.int .i64 a.mi)).setCell ⟨g, 2, none⟩ (.int .i64 a.pa)) := by
  obtain ⟨⟨h0, hz, ha, hb'⟩, hg, hh, hx, hy⟩ := h
  obtain ⟨g', e, q1, q2, q3, q4, q5⟩ := hg h4
  obtain rfl : g = g' := by simpa using e
  obtain ⟨k, rfl, r1, r2, r3, r4⟩ := hh h5
  have hne : k ≠ g := fun e => q5 h5 (by rw [e])
  have pb := fun j hj => put_block wx g j (.int .i64 a.ma) (.int .i64 a.mi) (.int .i64 a.pa) hj
  obtain ⟨s1, s2⟩ := q3.put a
  refine ⟨⟨((h0.setCell (by show _ ≤ g; omega) _).setCell (by show _ ≤ g; omega) _).setCell (by show _ ≤ g; omega) _, by rw [put_size]; exact hz, ha.later (pb _ (by omega)), hb'.later (pb _ (by omega))⟩, fun _ => ⟨g, rfl, q1, by rw [put_size]; exact q2, s2, fun _ => s1, fun _ => q5 h5⟩, fun _ => ⟨k, rfl, r1, by rw [put_size]; exact r2, r3.later (pb _ hne), fun z => (r4 (by simpa using z)).later (pb _ hne)⟩, fun z => ?_, hy⟩
  simp [h4] at z
theorem OlderW.put6 {a b : M.Ed} {w : World} {l : Nat → Bool} {k : Nat} {u5 : Value} {wx : World} (h : OlderW a b w l u5 (.pointer (some ⟨k, 0, none⟩)) wx) (h4 : l 4 = true) (h5 : l 5 = true) :
    OlderW a b w (fun j => j == 7 || l j) u5 (.pointer (some ⟨k, 0, none⟩)) (((wx.setCell ⟨k, 0, none⟩ (.int .i64 b.ma)).setCell ⟨k, 1, none⟩ (.int .i64 b.mi)).setCell ⟨k, 2, none⟩ (.int .i64 b.pa)) := by
  obtain ⟨⟨h0, hz, ha, hb'⟩, hg, hh, hx, hy⟩ := h
  obtain ⟨g, rfl, q1, q2, q3, q4, q5⟩ := hg h4
  obtain ⟨k', e, r1, r2, r3, r4⟩ := hh h5
  obtain rfl : k = k' := by simpa using e
  have hne : g ≠ k := fun e => q5 h5 (by rw [e])
  have pb := fun j hj => put_block wx k j (.int .i64 b.ma) (.int .i64 b.mi) (.int .i64 b.pa) hj
  obtain ⟨s1, s2⟩ := r3.put b
  refine ⟨⟨((h0.setCell (by show _ ≤ k; omega) _).setCell (by show _ ≤ k; omega) _).setCell (by show _ ≤ k; omega) _, by rw [put_size]; exact hz, ha.later (pb _ (by omega)), hb'.later (pb _ (by omega))⟩, fun _ => ⟨g, rfl, q1, by rw [put_size]; exact q2, q3.later (pb _ hne), fun z => (q4 (by simpa using z)).later (pb _ hne), fun _ => q5 h5⟩, fun _ => ⟨k, rfl, r1, by rw [put_size]; exact r2, s2, fun _ => s1⟩, hx, fun z => ?_⟩
  simp [h5] at z

end Go.Proofs.Ytnelgadfgeakjaa
