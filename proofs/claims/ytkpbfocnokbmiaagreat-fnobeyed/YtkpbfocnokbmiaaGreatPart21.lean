/- Proved, in parts: Proved: the program's placeFor tells where a client's last stands, or belongs; nothing that was there is written. Condition: lists of at most a million. Proved: the laws' helper that writes a number as a text, and those that write marks into a list of copies and look whether they are there; nothing but that list is written. Condition: at most a million copies. Proved: what the laws' marks leave as it was, for lists of one's own, nil among them; no condition. Proved: three stores into a row of works put another work at a place; the rest of the shelf is as it was. Condition: the new work's list lies in a block of its own. Proved: the laws' helper that writes marks into a list of works writes nothing but that list, and leaves the marks there. Condition: at most a million works and copies. Proved: the program's does on the map of works leaves what a plain Lean function tells, all as it was where the deed is refused; it writes the map's block alone. Condition: texts of at most a million bytes. -/
import Derived.Test.YtkpbfocnokbmiaaGreatPart20
import Derived.Test.YtkpbfocnokbmiaaGreatPart08
import Derived.Test.YtkpbfocnokbmiaaGreatPart01
import Derived.Test.YtkpbfocnokbmiaaGreatPart02
import Derived.Test.YtkpbfocnokbmiaaGreatPart11
import Derived.Test.YtkpbfocnokbmiaaGreatPart12
import Derived.Test.YtkpbfocnokbmiaaGreatPart04
import Derived.Test.YtkpbfocnokbmiaaGreatPart18
namespace Go.Proofs.YtkpbfocnokbmiaaGreat
open Go.RowKit
set_option maxRecDepth 20000

set_option maxHeartbeats 1000000 in
theorem lfirst_pl (p : M.La → Bool) (A : Option Addr) (l : List M.La) (cap : Nat) (g : Value) (w : World) (hl : Las w A l) (hlen : l.length ≤ 1048576)
    (hcall : ∀ (c : M.La) (w' : World), c ∈ l → Below w.heap.size w w' → Calls Tryz.prog 105 #[laV c, g] w' fun r w'' => r = .returned (.bool (p c)) ∧ Below w'.heap.size w' w'') :
    Calls Tryz.prog 71 #[.slice A l.length cap, .func (.func 105) #[] #[g]] w fun r w' => r = .returned (.int .i64 (l.findIdx p : Nat)) ∧ Below w.heap.size w w' := by
  have HC := Lib.hid hcall
  clear hcall
  go_enter Tryz.func71, Tryz.ntmps71
  go_wp2
  go_loopw [9] (fun i wr => ∃ j : Nat, i = .int .i64 j ∧ j ≤ l.length ∧ GNoneTo p l j ∧ Below w.heap.size w wr) (fun i _ => l.length - (intOf i).toNat)
  case atStart => exact ⟨0, rfl, Nat.zero_le _, GNoneTo.zero p l, Below.refl _ _⟩
  case round =>
    obtain ⟨j, rfl, hj, hnone, hbl⟩ := hrel
    by_cases hlt : j < l.length
    · obtain ⟨b, o, rfl, -, c0, c1, c2, c3⟩ := Las_at (hl.below hbl) hlt
      have HA := Lib.hid hl
      have HN := Lib.hid hnone
      have ba := hbl.alloc hbl.size (.cells (laA l[j]) 71)
      clear hl hnone
      rcases hp : p l[j] with _ | _
      · have HP := Lib.hid hp
        go_wp2_with fail
        refine (HC.out l[j] _ (List.getElem_mem hlt) ba).mono ?_
        rintro r w1 ⟨rfl, b1⟩
        clear hp
        have hp := HP.out
        rw [hp]
        clear hp
        go_wp2
        go_roundw
        case rel => exact ⟨j + 1, by go_num, by omega, HN.out.next hlt HP.out, next ba b1⟩
        case measure => simp [intOf]; omega
      · have HP := Lib.hid hp
        go_wp2_with fail
        refine (HC.out l[j] _ (List.getElem_mem hlt) ba).mono ?_
        rintro r w1 ⟨rfl, b1⟩
        clear hp
        have hp := HP.out
        rw [hp]
        clear hp
        go_wp2
        go_ret
        exact ⟨ret_int (by rw [HN.out.hit hlt HP.out]), next ba b1⟩
    · have hj' : j = l.length := by omega
      subst hj'
      have HN := Lib.hid hnone
      clear hnone
      go_wp2
      go_ret
      exact ⟨ret_int (by rw [HN.out.all]), hbl⟩

set_option maxHeartbeats 1000000 in
theorem placeFor1_any (x : M.La) (g : Nat) (c : Int) (w : World) (hg : w.cell? ⟨g, 0, none⟩ = some (.int .i64 c)) :
    Calls Tryz.prog 105 #[laV x, .pointer (some ⟨g, 0, none⟩)] w fun r w' => r = .returned (.bool (M.isGe c x)) ∧ Below w.heap.size w w' := by
  have b0 := (Below.refl w.heap.size w).alloc (Nat.le_refl _) (.cells (laA x) 71)
  have hgl : g < w.heap.size := World.block_lt_of_cell? w _ hg
  go_enter Tryz.func105, Tryz.ntmps105
  go_wp2
  go_ret
  exact ⟨rfl, b0⟩
set_option maxHeartbeats 2000000 in
theorem placeFor_any (G b : Nat) (A : Option Addr) (ls : List M.La) (cap : Nat) (c : Int) (w : World) (hbox : Holds w G #[.map (some b), .slice A ls.length cap]) (hl : Las w A ls) (hlen : ls.length ≤ 1048576) :
    Calls Tryz.prog 75 #[.pointer (some ⟨G, 0, none⟩), .int .i64 c] w fun r w' => r = .returned (.tuple #[.int .i64 (M.laPlace ls c : Nat), .bool (M.laAt ls c)]) ∧ Below w.heap.size w w' := by
  have HL := Lib.hid hl
  clear hl
  have hM := (Mem.start w).new #[.int .i64 c] 2
  have hbox0 := hbox.alloc (.cells #[.int .i64 c] 2)
  have hle := M.laPlace_le ls c
  have hcl := fun (x : M.La) (w' : World) (_ : x ∈ ls) (hb : Below _ _ w') => placeFor1_any x w.heap.size c w' ((hM.below hb).get w.heap.size #[.int .i64 c] (by simp)).one
  obtain ⟨k, hk⟩ : ∃ k, M.laPlace ls c = k := ⟨_, rfl⟩
  have HK := Lib.hid hk
  rw [hk] at hle
  clear hbox
  by_cases hf : k < ls.length
  · rcases ha : M.laAt ls c with _ | _
    · have hcc : (ls[k].client == c) = false := by subst hk; exact M.laAt_not ha hf
      have HA := Lib.hid ha
      clear hk ha
      obtain ⟨g0, g1⟩ := hbox0.two
      have zg := hbox0.1
      go_enter Tryz.func75, Tryz.ntmps75
      go_wp2_with fail
      have hcall := lfirst_pl (M.isGe c) A ls cap (.pointer (some ⟨w.heap.size, 0, none⟩)) _ (HL.out.below hM.1) hlen hcl
      rw [show ls.findIdx (M.isGe c) = k from HK.out] at hcall
      refine hcall.mono ?_
      rintro r w1 ⟨rfl, b1⟩
      have hM1 := hM.below b1
      have hbox1 := hbox0.below b1
      clear hM b1 hcl hcall hbox0 g0 g1 zg
      obtain ⟨bA, oA, hB, lb, c0, c1, c2, c3⟩ := Las_at (HL.out.below hM1.1) hf
      subst hB
      obtain ⟨p0, p1⟩ := hbox1.two
      have q0 := (hM1.get w.heap.size #[.int .i64 c] (by simp)).one
      have zb := hbox1.1
      have zq := (hM1.get w.heap.size #[.int .i64 c] (by simp)).1
      have HM1 := Lib.hid hM1
      clear hM1 hbox1
      go_wp2_with fail
      refine wp_region_seq (fun w' => Below w1.heap.size w1 w') [(0, true), (1, true), (2, true), (3, true), (4, true), (5, true), (6, true), (7, true), (8, true), (9, true), (10, true), (11, true), (12, true), (13, true), (14, true), (15, true), (16, true), (17, true), (18, true), (19, true), (20, true), (21, true)] (by kernel_rfl) (by kernel_rfl) (fun _ _ _ _ _ h => h) (by kernel_rfl) (by decide) (Below.refl _ _).drew ?_
      intro hHeld
      repeat (first
        | (refine seq_skip (by simp only [List.getElem?_toArray, List.getElem?_cons_succ, List.getElem?_cons_zero]; first | done | rfl) (by rfl) ?_; (try simp only [Act.put, List.setIfInBounds_toArray, List.set_cons_zero, List.set_cons_succ]))
        | (refine seq_reads (by simp only [List.getElem?_toArray, List.getElem?_cons_succ, List.getElem?_cons_zero]; first | done | rfl) (by rfl) ?_; apply Exists.intro; apply And.intro; (focus (intro w hSw; obtain ⟨hcS, -⟩ := bcell hSw; go_simp; (try with_reducible rfl); done)); (try simp only [Act.put, List.setIfInBounds_toArray, List.set_cons_zero, List.set_cons_succ]))
        | (refine seq_pass (by simp only [List.getElem?_toArray, List.getElem?_cons_succ, List.getElem?_cons_zero]; first | done | rfl) (by rfl) hHeld ?_; clear hHeld; intro hHeld; (try simp only [Act.put, List.setIfInBounds_toArray, List.set_cons_zero, List.set_cons_succ])))
      refine seq_end ?_
      go_wp2
      go_ret2
      exact ⟨by rw [HK.out]; rfl, next HM1.out.1 hHeld⟩
    · have hcc : (ls[k].client == c) = true := by subst hk; obtain ⟨_, h⟩ := M.laAt_lt ha; exact h
      have HA := Lib.hid ha
      clear hk ha
      obtain ⟨g0, g1⟩ := hbox0.two
      have zg := hbox0.1
      go_enter Tryz.func75, Tryz.ntmps75
      go_wp2_with fail
      have hcall := lfirst_pl (M.isGe c) A ls cap (.pointer (some ⟨w.heap.size, 0, none⟩)) _ (HL.out.below hM.1) hlen hcl
      rw [show ls.findIdx (M.isGe c) = k from HK.out] at hcall
      refine hcall.mono ?_
      rintro r w1 ⟨rfl, b1⟩
      have hM1 := hM.below b1
      have hbox1 := hbox0.below b1
      clear hM b1 hcl hcall hbox0 g0 g1 zg
      obtain ⟨bA, oA, hB, lb, c0, c1, c2, c3⟩ := Las_at (HL.out.below hM1.1) hf
      subst hB
      obtain ⟨p0, p1⟩ := hbox1.two
      have q0 := (hM1.get w.heap.size #[.int .i64 c] (by simp)).one
      have zb := hbox1.1
      have zq := (hM1.get w.heap.size #[.int .i64 c] (by simp)).1
      have HM1 := Lib.hid hM1
      clear hM1 hbox1
      go_wp2_with fail
      refine wp_region_seq (fun w' => Below w1.heap.size w1 w') [(0, true), (1, true), (2, true), (3, true), (4, true), (5, true), (6, true), (7, true), (8, true), (9, true), (10, true), (11, true), (12, true), (13, true), (14, true), (15, true), (16, true), (17, true), (18, true), (19, true), (20, true), (21, true)] (by kernel_rfl) (by kernel_rfl) (fun _ _ _ _ _ h => h) (by kernel_rfl) (by decide) (Below.refl _ _).drew ?_
      intro hHeld
      repeat (first
        | (refine seq_skip (by simp only [List.getElem?_toArray, List.getElem?_cons_succ, List.getElem?_cons_zero]; first | done | rfl) (by rfl) ?_; (try simp only [Act.put, List.setIfInBounds_toArray, List.set_cons_zero, List.set_cons_succ]))
        | (refine seq_reads (by simp only [List.getElem?_toArray, List.getElem?_cons_succ, List.getElem?_cons_zero]; first | done | rfl) (by rfl) ?_; apply Exists.intro; apply And.intro; (focus (intro w hSw; obtain ⟨hcS, -⟩ := bcell hSw; go_simp; (try with_reducible rfl); done)); (try simp only [Act.put, List.setIfInBounds_toArray, List.set_cons_zero, List.set_cons_succ]))
        | (refine seq_pass (by simp only [List.getElem?_toArray, List.getElem?_cons_succ, List.getElem?_cons_zero]; first | done | rfl) (by rfl) hHeld ?_; clear hHeld; intro hHeld; (try simp only [Act.put, List.setIfInBounds_toArray, List.set_cons_zero, List.set_cons_succ])))
      refine seq_end ?_
      go_wp2
      go_ret2
      exact ⟨by rw [HK.out]; rfl, next HM1.out.1 hHeld⟩
  · have ha : M.laAt ls c = false := by
      unfold M.laAt
      rw [hk, List.getElem?_eq_none (by omega)]
    have hke : k = ls.length := by omega
    have hnl : ¬ ((k : Int) < (ls.length : Int)) := by omega
    have HA := Lib.hid ha
    clear hk ha hke
    obtain ⟨g0, g1⟩ := hbox0.two
    have zg := hbox0.1
    go_enter Tryz.func75, Tryz.ntmps75
    go_wp2_with fail
    have hcall := lfirst_pl (M.isGe c) A ls cap (.pointer (some ⟨w.heap.size, 0, none⟩)) _ (HL.out.below hM.1) hlen hcl
    rw [show ls.findIdx (M.isGe c) = k from HK.out] at hcall
    refine hcall.mono ?_
    rintro r w1 ⟨rfl, b1⟩
    have hM1 := hM.below b1
    have hbox1 := hbox0.below b1
    clear hM b1 hcl hcall hbox0 g0 g1 zg
    obtain ⟨p0, p1⟩ := hbox1.two
    have q0 := (hM1.get w.heap.size #[.int .i64 c] (by simp)).one
    have zb := hbox1.1
    have zq := (hM1.get w.heap.size #[.int .i64 c] (by simp)).1
    have HM1 := Lib.hid hM1
    clear hM1 hbox1
    go_wp2_with fail
    refine wp_region_seq (fun w' => Below w1.heap.size w1 w') [(0, true), (1, true), (2, true), (3, true), (4, true), (5, true), (6, true), (7, true), (8, true), (9, true), (10, true), (11, true), (12, true), (13, true), (14, true), (15, true), (16, true), (17, true), (18, true), (19, true), (20, true), (21, true)] (by kernel_rfl) (by kernel_rfl) (fun _ _ _ _ _ h => h) (by kernel_rfl) (by decide) (Below.refl _ _).drew ?_
    intro hHeld
    repeat (first
      | (refine seq_skip (by simp only [List.getElem?_toArray, List.getElem?_cons_succ, List.getElem?_cons_zero]; first | done | rfl) (by rfl) ?_; (try simp only [Act.put, List.setIfInBounds_toArray, List.set_cons_zero, List.set_cons_succ]))
      | (refine seq_reads (by simp only [List.getElem?_toArray, List.getElem?_cons_succ, List.getElem?_cons_zero]; first | done | rfl) (by rfl) ?_; apply Exists.intro; apply And.intro; (focus (intro w hSw; obtain ⟨hcS, -⟩ := bcell hSw; go_simp; (try with_reducible rfl); done)); (try simp only [Act.put, List.setIfInBounds_toArray, List.set_cons_zero, List.set_cons_succ]))
      | (refine seq_pass (by simp only [List.getElem?_toArray, List.getElem?_cons_succ, List.getElem?_cons_zero]; first | done | rfl) (by rfl) hHeld ?_; clear hHeld; intro hHeld; (try simp only [Act.put, List.setIfInBounds_toArray, List.set_cons_zero, List.set_cons_succ])))
    refine seq_end ?_
    go_wp2
    go_ret2
    exact ⟨by rw [HK.out, HA.out]; rfl, next HM1.out.1 hHeld⟩
end Go.Proofs.YtkpbfocnokbmiaaGreat
namespace Go.Proofs.YtkpbfocnokbmiaaGreat
open Go.RowKit
set_option maxRecDepth 20000

def markB (n : Nat) : ByteArray := ⟨(109 :: M.digs n).toArray⟩
/-- Block g alone, of all that was there, may have changed. -/
structure Touch (g : Nat) (w w' : World) : Prop where
  size : w.heap.size ≤ w'.heap.size
  low : ∀ B, B ≤ g → Below B w w'
  block : ∀ k, k < w.heap.size → k ≠ g → w'.heap[k]? = w.heap[k]?
theorem Touch.refl (g : Nat) (w : World) : Touch g w w := ⟨Nat.le_refl _, fun _ _ => Below.refl _ _, fun _ _ _ => rfl⟩
theorem Touch.below {g : Nat} {w w1 w2 : World} (h : Touch g w w1) (hg : g < w1.heap.size) (hb : Below w1.heap.size w1 w2) : Touch g w w2 :=
  ⟨Nat.le_trans h.size hb.size, fun B hB => (h.low B hB).trans (hb.mono (by omega)), fun k hk hne => (hb.block k (Nat.lt_of_lt_of_le hk h.size)).trans (h.block k hk hne)⟩
theorem Touch.set {g : Nat} {w w1 : World} (h : Touch g w w1) (j : Nat) (v : Value) : Touch g w (w1.setCell ⟨g, j, none⟩ v) :=
  ⟨by simpa using h.size, fun B hB => (h.low B hB).setCell hB v, fun k hk hne => (Below.heap_setCell _ _ _ _ hne).trans (h.block k hk hne)⟩
theorem Touch.holds {g k : Nat} {w w1 : World} {C : Array Value} (h : Touch g w w1) (hC : Holds w k C) (hk : k ≠ g) : Holds w1 k C :=
  ⟨Nat.lt_of_lt_of_le hC.1 h.size, fun j v hj => (World.cell?_of_block (a := ⟨k, j, none⟩) (h.block k hC.1 hk)).trans (hC.2 j v hj)⟩
theorem Touch.own {g B : Nat} {w w1 : World} {v : Value} {l : List M.Cp} (h : Touch g w w1) (ho : CpOwn B w v l) (hne : v.ownBlock ≠ some g) : CpOwn B w1 v l := by
  obtain ⟨hl, h0 | ⟨k, cap, cur, rfl, hb, hh, hr⟩⟩ := ho
  · exact ⟨hl, .inl h0⟩
  · have hk : k ≠ g := fun e => hne (by rw [e]; rfl)
    have hlt : k < w.heap.size := (Array.getElem?_eq_some_iff.1 hh).1
    exact ⟨hl, .inr ⟨k, cap, cur, rfl, hb, (h.block k hlt hk).trans hh, hr⟩⟩

theorem Touch.before {g : Nat} {w w1 w2 : World} (h : Touch g w1 w2) (hb : Below w.heap.size w w1) (hg : g < w.heap.size) : Touch g w w2 :=
  ⟨Nat.le_trans hb.size h.size, fun B hB => (hb.mono (by omega)).trans (h.low B hB), fun k hk hne => (h.block k (Nat.lt_of_lt_of_le hk hb.size) hne).trans (hb.block k hk)⟩

def markCp (k : Nat) : M.Cp := ⟨⟨k, (k : Int) + 1, (k : Int) + 1 + 1⟩, markB (k + 3), ((k : Int) + 1 + 1 + 1 + 1) % 3 == 0⟩
def marks (k : Nat) (j : Nat) : List M.Cp := (List.range j).map fun i => markCp (k + 5 * i)
end Go.Proofs.YtkpbfocnokbmiaaGreat
namespace Go.Proofs.YtkpbfocnokbmiaaGreat
open Go.RowKit
set_option maxRecDepth 20000

theorem CpOwn.apart {B : Nat} {w : World} {v : Value} {l : List M.Cp} (h : CpOwn B w v l) {a : Addr} (ha : v.ownBlock ≠ some a.block) (u : Value) : CpOwn B (w.setCell a u) v l := by
  obtain ⟨hl, h0 | ⟨k, cap, cur, rfl, hb, hh, hr⟩⟩ := h
  · exact ⟨hl, .inl h0⟩
  · exact ⟨hl, .inr ⟨k, cap, cur, rfl, hb, (Below.heap_setCell _ _ _ _ (fun e => ha (by rw [← e]; rfl))).trans hh, hr⟩⟩
theorem CpOwn.ne_low {B g : Nat} {w : World} {v : Value} {l : List M.Cp} (h : CpOwn B w v l) (hg : g < B) : v.ownBlock ≠ some g := fun e => by
  have := (h.lt g e).1; omega
theorem CpOwn.ne_new {B : Nat} {w : World} {v : Value} {l : List M.Cp} (h : CpOwn B w v l) : v.ownBlock ≠ some w.heap.size := fun e => by
  have := (h.lt _ e).2; omega

/-- The block row alone, of all that was there, may have changed. -/
structure TouchO (row : Option Nat) (w w' : World) : Prop where
  size : w.heap.size ≤ w'.heap.size
  low : ∀ B, B ≤ w.heap.size → (∀ g, row = some g → B ≤ g) → Below B w w'
  block : ∀ k, k < w.heap.size → some k ≠ row → w'.heap[k]? = w.heap[k]?
theorem TouchO.holds {row : Option Nat} {k : Nat} {w w1 : World} {C : Array Value} (h : TouchO row w w1) (hC : Holds w k C) (hk : some k ≠ row) : Holds w1 k C :=
  ⟨Nat.lt_of_lt_of_le hC.1 h.size, fun j v hj => (World.cell?_of_block (a := ⟨k, j, none⟩) (h.block k hC.1 hk)).trans (hC.2 j v hj)⟩
theorem TouchO.own {row : Option Nat} {B : Nat} {w w1 : World} {v : Value} {l : List M.Cp} (h : TouchO row w w1) (ho : CpOwn B w v l) (hne : v.ownBlock = none ∨ v.ownBlock ≠ row) : CpOwn B w1 v l := by
  obtain ⟨hl, h0 | ⟨k, cap, cur, rfl, hb, hh, hr⟩⟩ := ho
  · exact ⟨hl, .inl h0⟩
  · have hk : some k ≠ row := by
      rcases hne with hne | hne
      · simp [Value.ownBlock] at hne
      · exact hne
    have hlt : k < w.heap.size := (Array.getElem?_eq_some_iff.1 hh).1
    exact ⟨hl, .inr ⟨k, cap, cur, rfl, hb, (h.block k hlt hk).trans hh, hr⟩⟩

/-- s is a pointer to a new box that holds the work p tells, its copies in new memory of their own; sb is the flag. -/
def WkBox (W0 : World) (p : M.Wk × Bool) (s sb : Value) (wx : World) : Prop :=
  ∃ G A c, sb = .bool p.2 ∧ s = .pointer (some ⟨G, 0, none⟩) ∧ W0.heap.size ≤ G ∧ Below W0.heap.size W0 wx ∧ Holds wx G (wkL p.1.name p.1.owner A p.1.copies.length c) ∧ CpOwn W0.heap.size wx (.slice A p.1.copies.length c) p.1.copies ∧ (Value.slice A p.1.copies.length c).ownBlock ≠ some G
end Go.Proofs.YtkpbfocnokbmiaaGreat
namespace Go.Proofs.YtkpbfocnokbmiaaGreat
open Go.RowKit

theorem cells_parts {l : List Wr} {k : Nat} (hk : k < l.length) : cellsOf wrL l = cellsOf wrL (l.take k) ++ (Value.string l[k].name :: .int .i64 l[k].owner :: l[k].sl :: cellsOf wrL (l.drop (k + 1))) := by
  have h : l = l.take k ++ (l[k] :: l.drop (k + 1)) := by
    rw [List.getElem_cons_drop, List.take_append_drop]
  have h2 : cellsOf wrL l = cellsOf wrL (l.take k ++ (l[k] :: l.drop (k + 1))) := by rw [← h]
  rw [h2, cellsOf_append]
  rfl
theorem cells_set {l : List Wr} {k : Nat} (hk : k < l.length) (r : Wr) : cellsOf wrL (l.set k r) = cellsOf wrL (l.take k) ++ (Value.string r.name :: .int .i64 r.owner :: r.sl :: cellsOf wrL (l.drop (k + 1))) := by
  rw [List.set_eq_take_append_cons_drop, if_pos hk, cellsOf_append]
  rfl
theorem apart_sym {a b : Value} (h : Apart a b) : Apart b a := by
  unfold Apart at h ⊢
  rcases hb : b.ownBlock with _ | k
  · exact .inl rfl
  · refine .inr fun e => ?_
    rcases h with h | h
    · rw [h] at e; cases e
    · exact h (by rw [hb, ← e])
/-- Where a shelf of one's own lies. -/
theorem SfOwn.at {B : Nat} {w : World} {v : Value} {l : List Wr} (h : SfOwn B w v l) (hne : 0 < l.length) : ∃ g c, v = .slice (some ⟨g, 0, none⟩) l.length c ∧ B ≤ g ∧ g < w.heap.size := by
  obtain ⟨g, cc, hv, hb, hg⟩ := World.ownsRow.form h.1 hne
  exact ⟨g, cc, hv, hb, hg⟩
theorem SfOwn.cellsK {B g c : Nat} {w : World} {l : List Wr} (h : SfOwn B w (.slice (some ⟨g, 0, none⟩) l.length c) l) {k : Nat} (hk : k < l.length) :
    (w.cell? ⟨g, k * 3, none⟩ = some (.string l[k].name) ∧ w.cell? ⟨g, k * 3 + 1, none⟩ = some (.int .i64 l[k].owner) ∧ w.cell? ⟨g, k * 3 + 2, none⟩ = some l[k].sl) ∧
    (w.frozen? ⟨g, k * 3, none⟩ = false ∧ w.frozen? ⟨g, k * 3 + 1, none⟩ = false ∧ w.frozen? ⟨g, k * 3 + 2, none⟩ = false) := by
  have h1 := h.1
  rw [cells_parts hk] at h1
  exact own_cells3 h1 (by rw [cellsOf_len wrL_len, List.length_take]; omega)
theorem SfOwn.setK {B g c : Nat} {w : World} {l : List Wr} (h : SfOwn B w (.slice (some ⟨g, 0, none⟩) l.length c) l) {k : Nat} (hk : k < l.length) (r : Wr) (ho : CpOwn B w r.sl r.cps) (hv : r.sl.ownBlock ≠ some g) (hap : ∀ i (hi : i < l.length), i ≠ k → Apart r.sl l[i].sl) :
    SfOwn B (((w.setCell ⟨g, k * 3, none⟩ (.string r.name)).setCell ⟨g, k * 3 + 1, none⟩ (.int .i64 r.owner)).setCell ⟨g, k * 3 + 2, none⟩ r.sl) (.slice (some ⟨g, 0, none⟩) l.length c) (l.set k r) := by
  have h1 := h.1
  rw [cells_parts hk] at h1
  have h2 := own_put3 (f0 := .string r.name) (f1 := .int .i64 r.owner) (f2 := r.sl) h1 (j := k * 3) (by rw [cellsOf_len wrL_len, List.length_take]; omega)
  rw [← cells_set hk] at h2
  have hb : (Value.slice (some ⟨g, 0, none⟩) l.length c).ownBlock = some g := rfl
  have hold : ∀ y ∈ l, y.sl.ownBlock ≠ some g := fun y hy e => by
    rcases h.2.2.1 y hy with h0 | h0
    · rw [h0] at e; cases e
    · exact h0 (e.trans hb.symm)
  have hne : ∀ y : Wr, y.sl.ownBlock ≠ some g → CpOwn B w y.sl y.cps → CpOwn B (((w.setCell ⟨g, k * 3, none⟩ (.string r.name)).setCell ⟨g, k * 3 + 1, none⟩ (.int .i64 r.owner)).setCell ⟨g, k * 3 + 2, none⟩ r.sl) y.sl y.cps := fun y hy ho => ((ho.apartN (a := ⟨g, k * 3, none⟩) hy _).apartN (a := ⟨g, k * 3 + 1, none⟩) hy _).apartN (a := ⟨g, k * 3 + 2, none⟩) hy _
  refine ⟨by rw [List.length_set]; exact h2, fun y hy => ?_, fun y hy => ?_, ?_⟩
  · rcases List.mem_or_eq_of_mem_set hy with hy | rfl
    · exact hne y (hold y hy) (h.2.1 y hy)
    · exact hne y hv ho
  · rcases List.mem_or_eq_of_mem_set hy with hy | rfl
    · exact h.2.2.1 y hy
    · exact .inr fun e => hv (e.trans hb)
  · rw [List.pairwise_iff_getElem]
    intro i j hi hj hij
    rw [List.length_set] at hi hj
    rw [List.getElem_set, List.getElem_set]
    by_cases e1 : k = i
    · rw [if_pos e1, if_neg (by omega)]
      exact hap j hj (by omega)
    · rw [if_neg e1]
      by_cases e2 : k = j
      · rw [if_pos e2]
        exact apart_sym (hap i hi (by omega))
      · rw [if_neg e2]
        exact (List.pairwise_iff_getElem.1 h.2.2.2) i j hi hj hij
theorem SfOwn.setOwner {B g c : Nat} {w : World} {l : List Wr} (h : SfOwn B w (.slice (some ⟨g, 0, none⟩) l.length c) l) {k : Nat} (hk : k < l.length) (o : Int) :
    SfOwn B (w.setCell ⟨g, k * 3 + 1, none⟩ (.int .i64 o)) (.slice (some ⟨g, 0, none⟩) l.length c) (l.set k { l[k] with owner := o }) := by
  have h1 := h.1
  rw [cells_parts hk] at h1
  have h2 := (h1.stored (k * 3 + 1) (.int .i64 o)).1
  have hlen : k * 3 = (cellsOf wrL (l.take k)).length := by rw [cellsOf_len wrL_len, List.length_take]; omega
  have hs : (cellsOf wrL (l.take k) ++ (Value.string l[k].name :: .int .i64 l[k].owner :: l[k].sl :: cellsOf wrL (l.drop (k + 1)))).set (k * 3 + 1) (.int .i64 o) = cellsOf wrL (l.set k { l[k] with owner := o }) := by
    rw [cells_set hk, hlen]
    simp
  rw [hs] at h2
  have hb : (Value.slice (some ⟨g, 0, none⟩) l.length c).ownBlock = some g := rfl
  have hold : ∀ y ∈ l, y.sl.ownBlock ≠ some g := fun y hy e => by
    rcases h.2.2.1 y hy with h0 | h0
    · rw [h0] at e; cases e
    · exact h0 (e.trans hb.symm)
  have hne : ∀ y ∈ l, CpOwn B (w.setCell ⟨g, k * 3 + 1, none⟩ (.int .i64 o)) y.sl y.cps := fun y hy => (h.2.1 y hy).apartN (a := ⟨g, k * 3 + 1, none⟩) (hold y hy) _
  have hkm : l[k] ∈ l := List.getElem_mem hk
  refine ⟨by rw [List.length_set]; exact h2, fun y hy => ?_, fun y hy => ?_, ?_⟩
  · rcases List.mem_or_eq_of_mem_set hy with hy | rfl
    · exact hne y hy
    · exact hne l[k] hkm
  · rcases List.mem_or_eq_of_mem_set hy with hy | rfl
    · exact h.2.2.1 y hy
    · exact h.2.2.1 l[k] hkm
  · rw [List.pairwise_iff_getElem]
    intro i j hi hj hij
    rw [List.length_set] at hi hj
    have hp := (List.pairwise_iff_getElem.1 h.2.2.2) i j hi hj hij
    rw [List.getElem_set, List.getElem_set]
    by_cases e1 : k = i
    · subst e1
      rw [if_pos rfl, if_neg (by omega)]
      exact hp
    · rw [if_neg e1]
      by_cases e2 : k = j
      · subst e2
        rw [if_pos rfl]
        exact hp
      · rw [if_neg e2]
        exact hp
theorem own_far {B g : Nat} {w : World} {t : TypeId} {kk n : Nat} {v : Value} {C : List Value} (h : w.ownsRow B t kk v n C) (hg : v.ownBlock ≠ some g) (i : Nat) (u : Value) : (w.setCell ⟨g, i, none⟩ u).ownsRow B t kk v n C := by
  obtain ⟨hl, h0 | ⟨k, cap, cur, rfl, hb, hh, hr⟩⟩ := h
  · exact ⟨hl, .inl h0⟩
  · exact ⟨hl, .inr ⟨k, cap, cur, rfl, hb, (Below.heap_setCell _ _ _ _ (fun e => hg (congrArg some (show k = g from e)))).trans hh, hr⟩⟩
theorem SfOwn.far {B g : Nat} {w : World} {v : Value} {l : List Wr} (h : SfOwn B w v l) (hv : v.ownBlock ≠ some g) (hr : ∀ r ∈ l, r.sl.ownBlock ≠ some g) (i : Nat) (u : Value) : SfOwn B (w.setCell ⟨g, i, none⟩ u) v l :=
  ⟨own_far h.1 hv i u, fun r hm => own_far (h.2.1 r hm) (hr r hm) i u, h.2.2⟩
end Go.Proofs.YtkpbfocnokbmiaaGreat
namespace Go.Proofs.YtkpbfocnokbmiaaGreat
open Go.RowKit
set_option maxRecDepth 20000

/-- The blocks of S alone, of all that was there, may have changed. -/
structure TouchS (S : Nat → Prop) (w w' : World) : Prop where
  size : w.heap.size ≤ w'.heap.size
  low : ∀ B, B ≤ w.heap.size → (∀ g, S g → B ≤ g) → Below B w w'
  block : ∀ k, k < w.heap.size → ¬ S k → w'.heap[k]? = w.heap[k]?
theorem TouchS.refl (S : Nat → Prop) (w : World) : TouchS S w w := ⟨Nat.le_refl _, fun _ _ _ => Below.refl _ _, fun _ _ _ => rfl⟩
theorem TouchS.below {S : Nat → Prop} {w w1 w2 : World} (h : TouchS S w w1) (hb : Below w1.heap.size w1 w2) : TouchS S w w2 :=
  ⟨Nat.le_trans h.size hb.size, fun B hB hS => (h.low B hB hS).trans (hb.mono (Nat.le_trans hB h.size)), fun k hk hne => (hb.block k (Nat.lt_of_lt_of_le hk h.size)).trans (h.block k hk hne)⟩
theorem TouchS.set {S : Nat → Prop} {w w1 : World} {g : Nat} (h : TouchS S w w1) (hg : S g) (j : Nat) (v : Value) : TouchS S w (w1.setCell ⟨g, j, none⟩ v) :=
  ⟨by simpa using h.size, fun B hB hS => (h.low B hB hS).setCell (hS g hg) v, fun k hk hne => (Below.heap_setCell _ _ _ _ (fun e => hne (by rw [show k = g from e]; exact hg))).trans (h.block k hk hne)⟩
theorem TouchS.then {S : Nat → Prop} {w w1 w2 : World} {row : Option Nat} (h : TouchS S w w1) (ht : TouchO row w1 w2) (hr : ∀ g, row = some g → S g) : TouchS S w w2 :=
  ⟨Nat.le_trans h.size ht.size, fun B hB hS => (h.low B hB hS).trans (ht.low B (Nat.le_trans hB h.size) (fun g hg => hS g (hr g hg))), fun k hk hne => (ht.block k (Nat.lt_of_lt_of_le hk h.size) (fun e => hne (hr k e.symm))).trans (h.block k hk hne)⟩
theorem TouchS.holds {S : Nat → Prop} {k : Nat} {w w1 : World} {C : Array Value} (h : TouchS S w w1) (hC : Holds w k C) (hk : ¬ S k) : Holds w1 k C :=
  ⟨Nat.lt_of_lt_of_le hC.1 h.size, fun j v hj => (World.cell?_of_block (a := ⟨k, j, none⟩) (h.block k hC.1 hk)).trans (hC.2 j v hj)⟩
theorem TouchS.row {S : Nat → Prop} {B : Nat} {w w1 : World} {t : TypeId} {kk n : Nat} {v : Value} {C : List Value} (h : TouchS S w w1) (ho : w.ownsRow B t kk v n C) (hne : ∀ g, v.ownBlock = some g → ¬ S g) : w1.ownsRow B t kk v n C := by
  obtain ⟨hl, h0 | ⟨k, cap, cur, rfl, hb, hh, hr⟩⟩ := ho
  · exact ⟨hl, .inl h0⟩
  · have hk := hne k rfl
    have hlt : k < w.heap.size := (Array.getElem?_eq_some_iff.1 hh).1
    exact ⟨hl, .inr ⟨k, cap, cur, rfl, hb, (h.block k hlt hk).trans hh, hr⟩⟩
theorem TouchS.own {S : Nat → Prop} {B : Nat} {w w1 : World} {v : Value} {l : List M.Cp} (h : TouchS S w w1) (ho : CpOwn B w v l) (hne : ∀ g, v.ownBlock = some g → ¬ S g) : CpOwn B w1 v l := h.row ho hne
/-- The blocks of a list of works. -/
def blocksS (v : Value) (l : List Wr) (g : Nat) : Prop := v.ownBlock = some g ∨ ∃ r ∈ l, r.sl.ownBlock = some g
theorem TouchS.sf {S : Nat → Prop} {B : Nat} {w w1 : World} {v : Value} {l : List Wr} (h : TouchS S w w1) (ho : SfOwn B w v l) (hne : ∀ g, blocksS v l g → ¬ S g) : SfOwn B w1 v l :=
  ⟨h.row ho.1 (fun g hg => hne g (.inl hg)), fun r hr => h.own (ho.2.1 r hr) (fun g hg => hne g (.inr ⟨r, hr, hg⟩)), ho.2.2⟩
theorem SfOwn.ge {B : Nat} {w : World} {v : Value} {l : List Wr} (h : SfOwn B w v l) {g : Nat} (hg : blocksS v l g) : B ≤ g ∧ g < w.heap.size := by
  rcases hg with hg | ⟨r, hr, hg⟩
  · exact World.ownsRow.lt h.1 g hg
  · exact (h.2.1 r hr).lt g hg

def mrow (k : Nat) (r : Wr) : Wr := { r with name := markB k, owner := (k : Int) + 1, cps := marks (k + 2) r.cps.length }
def mlen : List Wr → Nat
  | [] => 0
  | r :: l => 2 + 5 * r.cps.length + mlen l
def mrows (k : Nat) (l : List Wr) : List Wr := l.mapIdx fun i r => mrow (k + mlen (l.take i)) r
theorem mrows_len (k : Nat) (l : List Wr) : (mrows k l).length = l.length := by simp [mrows]
theorem mrows_at (k : Nat) (l : List Wr) (i : Nat) (h : i < l.length) : (mrows k l)[i]'(by rw [mrows_len]; exact h) = mrow (k + mlen (l.take i)) l[i] := by simp [mrows]
/-- The first j of them are marked. -/
def MarkTo (k : Nat) (l : List Wr) (j : Nat) (q : List Wr) : Prop := q.length = l.length ∧ ∀ (i : Nat) (h : i < l.length) (h' : i < q.length), q[i] = if i < j then mrow (k + mlen (l.take i)) l[i] else l[i]
theorem MarkTo.zero (k : Nat) (l : List Wr) : MarkTo k l 0 l := ⟨rfl, fun i h h' => by simp⟩
theorem MarkTo.next {k j : Nat} {l q : List Wr} (h : MarkTo k l j q) (hj : j < l.length) : MarkTo k l (j + 1) (q.set j (mrow (k + mlen (l.take j)) l[j])) := by
  refine ⟨by rw [List.length_set]; exact h.1, fun i hi h' => ?_⟩
  rw [List.getElem_set]
  by_cases e : j = i
  · subst e; rw [if_pos rfl, if_pos (by omega)]
  · rw [if_neg e, h.2 i hi (by rw [h.1]; exact hi)]
    by_cases hij : i < j
    · rw [if_pos hij, if_pos (by omega)]
    · rw [if_neg hij, if_neg (by omega)]
theorem MarkTo.all {k : Nat} {l q : List Wr} (h : MarkTo k l l.length q) : q = mrows k l := by
  refine List.ext_getElem (by rw [h.1, mrows_len]) (fun i h1 h2 => ?_)
  rw [h.1] at h1
  rw [h.2 i h1 (by rw [h.1]; exact h1), if_pos h1, mrows_at k l i h1]

end Go.Proofs.YtkpbfocnokbmiaaGreat
namespace Go.Proofs.YtkpbfocnokbmiaaGreat
open Go.RowKit
set_option maxRecDepth 20000

/-- What does leaves. -/
def DoOut (w : World) (B b : Nat) (rs : List Wr) (q : List M.Wk × M.Rp) (e : Ending) (w' : World) : Prop :=
  e = .returned (rpV q.2.1 q.2.2) ∧ w.grownBy w' (some b) ∧ ∃ n' rs', ShM w' b n' rs' ∧ RiseW rs' ∧ RsOwn B w' rs' ∧ rs'.map Wr.wk = q.1 ∧ ∀ r ∈ rs', ∀ k, r.sl.ownBlock = some k → w.heap.size ≤ k ∨ ∃ x ∈ rs, x.sl.ownBlock = some k

theorem results_sdoes (c : Int) (p : ByteArray) (R : Nat) (W : World) (tmps : Array Value) (h2 : tmps.getD 4 undef = .pointer (some ⟨R, 0, none⟩)) (hW : Holds W R (rpA c p)) :
    (results Tryz.f77 tmps).run Tryz.prog W = .ok (rpV c p) W := by
  obtain ⟨q0, q1⟩ := hW.two
  simp at h2
  simp [results, Tryz.results77, go_sem, h2, q0, q1]

set_option maxHeartbeats 4000000 in
theorem does_any (B b n : Nat) (rs : List Wr) (d : M.Dd) (w : World) (h : St w B b n rs) (hl5 : rs.length ≤ 5) (hn : d.name.size ≤ 1048576) (hpg : d.page.size ≤ 1048576) :
    Calls Tryz.prog 77 #[.map (some b), ddV d] w (DoOut w B b rs (M.keptD (rs.map Wr.wk) d)) := by
  have HP := Lib.hid h.size
  have HRI := Lib.hid h.rise
  obtain ⟨p, hpp⟩ : ∃ p, M.doAll (rs.map Wr.wk) d = p := ⟨_, rfl⟩
  have HPP := Lib.hid hpp
  have HDO : Hid (M.keptD (rs.map Wr.wk) d = (if p.2.1 = 0 then p.1 else rs.map Wr.wk, p.2)) := Lib.hid (by rw [← hpp]; rfl)
  clear hpp
  have hm := ((Mem.start w).new (ddC d) 31).new (rpA 0 noP) 39
  have hst := h.below (((Below.refl w.heap.size w).alloc (Nat.le_refl _) (.cells (ddC d) 31)).alloc (by simp) (.cells (rpA 0 noP) 39))
  simp only [World.size_alloc] at hm
  have hbB : b < B := h.low
  have hBw : B ≤ w.heap.size := h.top
  have HLOW : Hid (∀ r ∈ rs, ∀ k, r.sl.ownBlock = some k → k < w.heap.size) := Lib.hid (fun r hr k e => ((h.own.1 r hr).lt k e).2)
  clear h
  go_enter Tryz.func77, Tryz.ntmps77
  go_wp2_with fail
  refine (inOrder_any b n B rs _ hst.map HRI.out hst.own hst.top (by omega) (fun r hr => (HP.out r hr).1)).mono ?_
  rintro e x1 ⟨v, rfl, hs, b1⟩
  have hm1 := hm.below b1
  have hst1 := hst.below b1
  have hs1 := b1.size
  simp only [World.size_alloc] at hs1
  obtain ⟨A, cap, rfl, hcap, -⟩ := hs.open
  have HS := Lib.hid hs
  have HST := Lib.hid hst1
  clear hm hst b1 hs hst1 hcap
  obtain ⟨q0, q1, q2, q3, q4, q5, q6⟩ := (hm1.get w.heap.size (ddC d) (by simp)).seven
  go_wp2_with fail
  have hcall := tries_any B b n rs d x1 HST.out hn hpg
  rw [HPP.out] at hcall
  refine hcall.mono ?_
  rintro e x3 ho
  obtain rfl := ho.1
  have hR := holds_by (hm1.get (w.heap.size + 1) (rpA 0 noP) (by simp)) ho.2.1 (by omega)
  have lR := loose_by (hm1.loose (w.heap.size + 1) (by simp)) (hm1.get (w.heap.size + 1) (rpA 0 noP) (by simp)).1 ho.2.1 (by omega)
  have bA := (Below.refl x3.heap.size x3).alloc (Nat.le_refl _) (.cells (rpA p.2.1 p.2.2) 39)
  have HL := Lib.hid (lR.below hR.1 bA)
  have HR := Lib.hid (hR.below bA)
  have HX := Lib.hid (holds_new x3 (rpA p.2.1 p.2.2) 39)
  have hg3 := ho.2.1.size
  have HS3 := Lib.hid ((HS.out.by ho.2.1 hbB).below ((Below.refl _ _).alloc (Nat.le_refl _) (.cells (rpA p.2.1 p.2.2) 39)))
  have HG : Hid (w.grownBy (x3.alloc (.cells (rpA p.2.1 p.2.2) 39)) (some b)) := Lib.hid (grown_tr (grown_tr (grown_lw hm1.1 _) ho.2.1) (World.grownBy_alloc x3 _ _))
  have HOM := Lib.hid ho.2.2.1
  have HOZ := Lib.hid ho.2.2.2
  clear hcall ho hm1 hR lR bA q0 q1 q2 q3 q4 q5 q6
  by_cases hz : p.2.1 = 0
  · have HE : Hid (M.keptD (rs.map Wr.wk) d = (p.1, p.2)) := Lib.hid (by rw [HDO.out, if_pos hz])
    obtain ⟨n', rs', h1, h2, h3, h4, h5⟩ := HOZ.out hz
    have HMP := Lib.hid (h1.alloc (.cells (rpA p.2.1 p.2.2) 39))
    have HRO := Lib.hid (h3.below ((Below.refl _ _).alloc (Nat.le_refl _) (.cells (rpA p.2.1 p.2.2) 39)))
    have H4 := Lib.hid h4
    have H5 : Hid (∀ r ∈ rs', ∀ k, r.sl.ownBlock = some k → w.heap.size + 2 ≤ k ∨ ∃ x ∈ rs, x.sl.ownBlock = some k) := Lib.hid (fun r hr k e => by
      rcases h5 r hr k e with h | h
      · exact .inl (by omega)
      · exact .inr h)
    have hz' : (p.2.1 != 0) = false := by simp [hz]
    have HZ := Lib.hid hz
    obtain ⟨r0, r1⟩ := HR.out.two
    obtain ⟨s0, s1⟩ := HX.out.two
    have z0 := HL.out 0
    have z1 := HL.out 1
    clear h1 h3 h4 h5 hz
    go_wp2
    have hne : ∀ r ∈ rs', r.sl.ownBlock ≠ some (w.heap.size + 1) := fun r hr e => by
      rcases H5.out r hr _ e with h | ⟨x, hx, e'⟩
      · omega
      · have := HLOW.out x hx _ e'; omega
    refine bodyPost_ret (results_sdoes p.2.1 p.2.2 (w.heap.size + 1) _ _ rfl ?_) rfl ?_
    · simpa using ((HR.out.putM 0 (.int .i64 p.2.1)).putM 1 (.string p.2.2))
    · refine ⟨by rw [HE.out], grown_new (grown_new HG.out (Nat.le_succ _) _ _) (Nat.le_succ _) _ _, n', rs', ShM.set (ShM.set HMP.out (by omega)) (by omega), h2, (HRO.out.set hne 0 _).set hne 1 _, by rw [HE.out]; exact H4.out, fun r hr k e => ?_⟩
      rcases H5.out r hr k e with h | h
      · exact .inl (by omega)
      · exact .inr h
  · have HE : Hid (M.keptD (rs.map Wr.wk) d = (rs.map Wr.wk, p.2)) := Lib.hid (by rw [HDO.out, if_neg hz])
    obtain ⟨n', D, hom⟩ := HOM.out
    have hom' := hom.alloc (.cells (rpA p.2.1 p.2.2) 39)
    have hz' : (p.2.1 != 0) = true := by simp [hz]
    have HZ := Lib.hid hz
    obtain ⟨s0, s1⟩ := HX.out.two
    clear hz hom
    go_wp2_with fail
    refine (fill_any b n' D A rs cap _ hom' (fun x hg => (HS3.out.by hg hbB).wks.1) HRI.out (by omega) HP.out).mono ?_
    rintro e x4 ⟨rfl, rs', h4, h1, h3, hg4⟩
    have hR4 := holds_by HR.out hg4 (by omega)
    have lR4 := loose_by HL.out HR.out.1 hg4 (by omega)
    have hX4 := holds_by HX.out hg4 (by omega)
    rw [World.size_alloc] at h3
    have HG4 := Lib.hid (grown_tr HG.out hg4)
    have HMP := Lib.hid h1
    have HRO := Lib.hid h3
    have H4 := Lib.hid h4
    have HR4 := Lib.hid hR4
    obtain ⟨r0, r1⟩ := hR4.two
    obtain ⟨s0', s1'⟩ := hX4.two
    have z0 := lR4 0
    have z1 := lR4 1
    clear h1 h3 h4 hg4 hom' hR4 lR4 hX4 s0 s1
    go_wp2
    have hne : ∀ r ∈ rs', r.sl.ownBlock ≠ some (w.heap.size + 1) := fun r hr e => by
      have := ((HRO.out.1 r hr).lt _ e).1
      omega
    refine bodyPost_ret (results_sdoes p.2.1 p.2.2 (w.heap.size + 1) _ _ rfl ?_) rfl ?_
    · simpa using ((HR4.out.putM 0 (.int .i64 p.2.1)).putM 1 (.string p.2.2))
    · refine ⟨by rw [HE.out], grown_new (grown_new HG4.out (Nat.le_succ _) _ _) (Nat.le_succ _) _ _, rs.length, rs', ShM.set (ShM.set HMP.out (by omega)) (by omega), rise_same H4.out HRI.out, ((HRO.out.mono (by omega)).set hne 0 _).set hne 1 _, by rw [HE.out]; exact H4.out, fun r hr k e => ?_⟩
      have := ((HRO.out.1 r hr).lt _ e).1
      exact .inl (by omega)
end Go.Proofs.YtkpbfocnokbmiaaGreat
