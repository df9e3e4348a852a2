/- Proved, in parts: Proved: the program's placeFor tells where a client's last stands, or belongs; nothing that was there is written. Condition: lists of at most a million. Proved: the laws' helper that writes a number as a text, and those that write marks into a list of copies and look whether they are there; nothing but that list is written. Condition: at most a million copies. Proved: what the laws' marks leave as it was, for lists of one's own, nil among them; no condition. -/
import Derived.Test.YtblcgbgcccjpcaaGreatPart24
import Derived.Test.YtblcgbgcccjpcaaGreatPart14
import Derived.Test.YtblcgbgcccjpcaaGreatPart02
import Derived.Test.YtblcgbgcccjpcaaGreatPart17
namespace Go.Proofs.YtblcgbgcccjpcaaGreat
open Go.RowKit
set_option maxRecDepth 20000

set_option maxHeartbeats 1000000 in
theorem lfirst_pl (p : M.La → Bool) (A : Option Addr) (l : List M.La) (cap : Nat) (g : Value) (w : World) (hl : Las w A l) (hlen : l.length ≤ 1048576)
    (hcall : ∀ (c : M.La) (w' : World), c ∈ l → Below w.heap.size w w' → Calls Tryz.prog 166 #[laV c, g] w' fun r w'' => r = .returned (.bool (p c)) ∧ Below w'.heap.size w' w'') :
    Calls Tryz.prog 73 #[.slice A l.length cap, .func (.func 166) #[] #[g]] w fun r w' => r = .returned (.int .i64 (l.findIdx p : Nat)) ∧ Below w.heap.size w w' := by
  have HC := Lib.hid hcall
  clear hcall
  go_enter Tryz.func73, Tryz.ntmps73
  go_wp2
  go_loopw [9] (fun i wr => ∃ j : Nat, i = .int .i64 j ∧ j ≤ l.length ∧ GNoneTo p l j ∧ Below w.heap.size w wr) (fun i _ => l.length - (intOf i).toNat)
  case atStart => exact ⟨0, rfl, Nat.zero_le _, GNoneTo.zero p l, Below.refl _ _⟩
  case round =>
    obtain ⟨j, rfl, hj, hnone, hbl⟩ := hrel
    by_cases hlt : j < l.length
    · obtain ⟨b, o, rfl, -, c0, c1, c2, c3⟩ := Las_at (hl.below hbl) hlt
      have HA := Lib.hid hl
      have HN := Lib.hid hnone
      have ba := hbl.alloc hbl.size (.cells (laA l[j]) 59)
      clear hl hnone
      rcases hp : p l[j] with _ | _
      · have HP := Lib.hid hp
        go_wp2_with fail
        refine (HC.out l[j] _ (List.getElem_mem hlt) ba).mono ?_
        rintro r w1 ⟨rfl, b1⟩
        clear hp
        have hp := HP.out
        rw [hp]
        clear hp
        go_wp2
        go_roundw
        case rel => exact ⟨j + 1, by go_num, by omega, HN.out.next hlt HP.out, next ba b1⟩
        case measure => simp [intOf]; omega
      · have HP := Lib.hid hp
        go_wp2_with fail
        refine (HC.out l[j] _ (List.getElem_mem hlt) ba).mono ?_
        rintro r w1 ⟨rfl, b1⟩
        clear hp
        have hp := HP.out
        rw [hp]
        clear hp
        go_wp2
        go_ret
        exact ⟨ret_int (by rw [HN.out.hit hlt HP.out]), next ba b1⟩
    · have hj' : j = l.length := by omega
      subst hj'
      have HN := Lib.hid hnone
      clear hnone
      go_wp2
      go_ret
      exact ⟨ret_int (by rw [HN.out.all]), hbl⟩

set_option maxHeartbeats 1000000 in
theorem placeFor1_any (x : M.La) (g : Nat) (c : Int) (w : World) (hg : w.cell? ⟨g, 0, none⟩ = some (.int .i64 c)) :
    Calls Tryz.prog 166 #[laV x, .pointer (some ⟨g, 0, none⟩)] w fun r w' => r = .returned (.bool (M.isGe c x)) ∧ Below w.heap.size w w' := by
  have b0 := (Below.refl w.heap.size w).alloc (Nat.le_refl _) (.cells (laA x) 59)
  have hgl : g < w.heap.size := World.block_lt_of_cell? w _ hg
  go_enter Tryz.func166, Tryz.ntmps166
  go_wp2
  go_ret
  exact ⟨rfl, b0⟩
set_option maxHeartbeats 2000000 in
theorem placeFor_any (G b : Nat) (A : Option Addr) (ls : List M.La) (cap : Nat) (c : Int) (w : World) (hbox : Holds w G #[.map (some b), .slice A ls.length cap]) (hl : Las w A ls) (hlen : ls.length ≤ 1048576) :
    Calls Tryz.prog 125 #[.pointer (some ⟨G, 0, none⟩), .int .i64 c] w fun r w' => r = .returned (.tuple #[.int .i64 (M.laPlace ls c : Nat), .bool (M.laAt ls c)]) ∧ Below w.heap.size w w' := by
  have HL := Lib.hid hl
  clear hl
  have hM := (Mem.start w).new #[.int .i64 c] 2
  have hbox0 := hbox.alloc (.cells #[.int .i64 c] 2)
  have hle := M.laPlace_le ls c
  have hcl := fun (x : M.La) (w' : World) (_ : x ∈ ls) (hb : Below _ _ w') => placeFor1_any x w.heap.size c w' ((hM.below hb).get w.heap.size #[.int .i64 c] (by simp)).one
  obtain ⟨k, hk⟩ : ∃ k, M.laPlace ls c = k := ⟨_, rfl⟩
  have HK := Lib.hid hk
  rw [hk] at hle
  clear hbox
  by_cases hf : k < ls.length
  · rcases ha : M.laAt ls c with _ | _
    · have hcc : (ls[k].client == c) = false := by subst hk; exact M.laAt_not ha hf
      have HA := Lib.hid ha
      clear hk ha
      obtain ⟨g0, g1⟩ := hbox0.two
      have zg := hbox0.1
      go_enter Tryz.func125, Tryz.ntmps125
      go_wp2_with fail
      have hcall := lfirst_pl (M.isGe c) A ls cap (.pointer (some ⟨w.heap.size, 0, none⟩)) _ (HL.out.below hM.1) hlen hcl
      rw [show ls.findIdx (M.isGe c) = k from HK.out] at hcall
      refine hcall.mono ?_
      rintro r w1 ⟨rfl, b1⟩
      have hM1 := hM.below b1
      have hbox1 := hbox0.below b1
      clear hM b1 hcl hcall hbox0 g0 g1 zg
      obtain ⟨bA, oA, hB, lb, c0, c1, c2, c3⟩ := Las_at (HL.out.below hM1.1) hf
      subst hB
      obtain ⟨p0, p1⟩ := hbox1.two
      have q0 := (hM1.get w.heap.size #[.int .i64 c] (by simp)).one
      have zb := hbox1.1
      have zq := (hM1.get w.heap.size #[.int .i64 c] (by simp)).1
      have HM1 := Lib.hid hM1
      clear hM1 hbox1
      go_wp2_with fail
      refine wp_region_seq (fun w' => Below w1.heap.size w1 w') [(0, true), (1, true), (2, true), (3, true), (4, true), (5, true), (6, true), (7, true), (8, true), (9, true), (10, true), (11, true), (12, true), (13, true), (14, true), (15, true), (16, true), (17, true), (18, true), (19, true), (20, true), (21, true)] (by kernel_rfl) (by kernel_rfl) (fun _ _ _ _ _ h => h) (by kernel_rfl) (by decide) (Below.refl _ _).drew ?_
      intro hHeld
      repeat (first
        | (refine seq_skip (by simp only [List.getElem?_toArray, List.getElem?_cons_succ, List.getElem?_cons_zero]; first | done | rfl) (by rfl) ?_; (try simp only [Act.put, List.setIfInBounds_toArray, List.set_cons_zero, List.set_cons_succ]))
        | (refine seq_reads (by simp only [List.getElem?_toArray, List.getElem?_cons_succ, List.getElem?_cons_zero]; first | done | rfl) (by rfl) ?_; apply Exists.intro; apply And.intro; (focus (intro w hSw; obtain ⟨hcS, -⟩ := bcell hSw; go_simp; (try with_reducible rfl); done)); (try simp only [Act.put, List.setIfInBounds_toArray, List.set_cons_zero, List.set_cons_succ]))
        | (refine seq_pass (by simp only [List.getElem?_toArray, List.getElem?_cons_succ, List.getElem?_cons_zero]; first | done | rfl) (by rfl) hHeld ?_; clear hHeld; intro hHeld; (try simp only [Act.put, List.setIfInBounds_toArray, List.set_cons_zero, List.set_cons_succ])))
      refine seq_end ?_
      go_wp2
      go_ret2
      exact ⟨by rw [HK.out]; rfl, next HM1.out.1 hHeld⟩
    · have hcc : (ls[k].client == c) = true := by subst hk; obtain ⟨_, h⟩ := M.laAt_lt ha; exact h
      have HA := Lib.hid ha
      clear hk ha
      obtain ⟨g0, g1⟩ := hbox0.two
      have zg := hbox0.1
      go_enter Tryz.func125, Tryz.ntmps125
      go_wp2_with fail
      have hcall := lfirst_pl (M.isGe c) A ls cap (.pointer (some ⟨w.heap.size, 0, none⟩)) _ (HL.out.below hM.1) hlen hcl
      rw [show ls.findIdx (M.isGe c) = k from HK.out] at hcall
      refine hcall.mono ?_
      rintro r w1 ⟨rfl, b1⟩
      have hM1 := hM.below b1
      have hbox1 := hbox0.below b1
      clear hM b1 hcl hcall hbox0 g0 g1 zg
      obtain ⟨bA, oA, hB, lb, c0, c1, c2, c3⟩ := Las_at (HL.out.below hM1.1) hf
      subst hB
      obtain ⟨p0, p1⟩ := hbox1.two
      have q0 := (hM1.get w.heap.size #[.int .i64 c] (by simp)).one
      have zb := hbox1.1
      have zq := (hM1.get w.heap.size #[.int .i64 c] (by simp)).1
      have HM1 := Lib.hid hM1
      clear hM1 hbox1
      go_wp2_with fail
      refine wp_region_seq (fun w' => Below w1.heap.size w1 w') [(0, true), (1, true), (2, true), (3, true), (4, true), (5, true), (6, true), (7, true), (8, true), (9, true), (10, true), (11, true), (12, true), (13, true), (14, true), (15, true), (16, true), (17, true), (18, true), (19, true), (20, true), (21, true)] (by kernel_rfl) (by kernel_rfl) (fun _ _ _ _ _ h => h) (by kernel_rfl) (by decide) (Below.refl _ _).drew ?_
      intro hHeld
      repeat (first
        | (refine seq_skip (by simp only [List.getElem?_toArray, List.getElem?_cons_succ, List.getElem?_cons_zero]; first | done | rfl) (by rfl) ?_; (try simp only [Act.put, List.setIfInBounds_toArray, List.set_cons_zero, List.set_cons_succ]))
        | (refine seq_reads (by simp only [List.getElem?_toArray, List.getElem?_cons_succ, List.getElem?_cons_zero]; first | done | rfl) (by rfl) ?_; apply Exists.intro; apply And.intro; (focus (intro w hSw; obtain ⟨hcS, -⟩ := bcell hSw; go_simp; (try with_reducible rfl); done)); (try simp only [Act.put, List.setIfInBounds_toArray, List.set_cons_zero, List.set_cons_succ]))
        | (refine seq_pass (by simp only [List.getElem?_toArray, List.getElem?_cons_succ, List.getElem?_cons_zero]; first | done | rfl) (by rfl) hHeld ?_; clear hHeld; intro hHeld; (try simp only [Act.put, List.setIfInBounds_toArray, List.set_cons_zero, List.set_cons_succ])))
      refine seq_end ?_
      go_wp2
      go_ret2
      exact ⟨by rw [HK.out]; rfl, next HM1.out.1 hHeld⟩
  · have ha : M.laAt ls c = false := by
      unfold M.laAt
      rw [hk, List.getElem?_eq_none (by omega)]
    have hke : k = ls.length := by omega
    have hnl : ¬ ((k : Int) < (ls.length : Int)) := by omega
    have HA := Lib.hid ha
    clear hk ha hke
    obtain ⟨g0, g1⟩ := hbox0.two
    have zg := hbox0.1
    go_enter Tryz.func125, Tryz.ntmps125
    go_wp2_with fail
    have hcall := lfirst_pl (M.isGe c) A ls cap (.pointer (some ⟨w.heap.size, 0, none⟩)) _ (HL.out.below hM.1) hlen hcl
    rw [show ls.findIdx (M.isGe c) = k from HK.out] at hcall
    refine hcall.mono ?_
    rintro r w1 ⟨rfl, b1⟩
    have hM1 := hM.below b1
    have hbox1 := hbox0.below b1
    clear hM b1 hcl hcall hbox0 g0 g1 zg
    obtain ⟨p0, p1⟩ := hbox1.two
    have q0 := (hM1.get w.heap.size #[.int .i64 c] (by simp)).one
    have zb := hbox1.1
    have zq := (hM1.get w.heap.size #[.int .i64 c] (by simp)).1
    have HM1 := Lib.hid hM1
    clear hM1 hbox1
    go_wp2_with fail
    refine wp_region_seq (fun w' => Below w1.heap.size w1 w') [(0, true), (1, true), (2, true), (3, true), (4, true), (5, true), (6, true), (7, true), (8, true), (9, true), (10, true), (11, true), (12, true), (13, true), (14, true), (15, true), (16, true), (17, true), (18, true), (19, true), (20, true), (21, true)] (by kernel_rfl) (by kernel_rfl) (fun _ _ _ _ _ h => h) (by kernel_rfl) (by decide) (Below.refl _ _).drew ?_
    intro hHeld
    repeat (first
      | (refine seq_skip (by simp only [List.getElem?_toArray, List.getElem?_cons_succ, List.getElem?_cons_zero]; first | done | rfl) (by rfl) ?_; (try simp only [Act.put, List.setIfInBounds_toArray, List.set_cons_zero, List.set_cons_succ]))
      | (refine seq_reads (by simp only [List.getElem?_toArray, List.getElem?_cons_succ, List.getElem?_cons_zero]; first | done | rfl) (by rfl) ?_; apply Exists.intro; apply And.intro; (focus (intro w hSw; obtain ⟨hcS, -⟩ := bcell hSw; go_simp; (try with_reducible rfl); done)); (try simp only [Act.put, List.setIfInBounds_toArray, List.set_cons_zero, List.set_cons_succ]))
      | (refine seq_pass (by simp only [List.getElem?_toArray, List.getElem?_cons_succ, List.getElem?_cons_zero]; first | done | rfl) (by rfl) hHeld ?_; clear hHeld; intro hHeld; (try simp only [Act.put, List.setIfInBounds_toArray, List.set_cons_zero, List.set_cons_succ])))
    refine seq_end ?_
    go_wp2
    go_ret2
    exact ⟨by rw [HK.out, HA.out]; rfl, next HM1.out.1 hHeld⟩
end Go.Proofs.YtblcgbgcccjpcaaGreat
namespace Go.Proofs.YtblcgbgcccjpcaaGreat
open Go.RowKit
set_option maxRecDepth 20000

def markB (n : Nat) : ByteArray := ⟨(109 :: M.digs n).toArray⟩
theorem mark_cat (l : List UInt8) : (⟨#[109]⟩ ++ ⟨l.toArray⟩ : ByteArray) = ⟨(109 :: l).toArray⟩ := cat_mk [109] l

set_option maxHeartbeats 1000000 in
theorem markText_any (N : Nat) (h0 : 0 < N) (hN : N < 9223372036854775808) (w : World) :
    Calls Tryz.prog 106 #[.int .i64 N] w fun e w' => e = .returned (.string (markB N)) ∧ Below w.heap.size w w' := by
  go_enter Tryz.func106, Tryz.ntmps106
  go_wp2
  go_loopw [0, 3] (fun n s wr => ∃ (m : Nat) (l : List UInt8), n = .int .i64 m ∧ s = .string ⟨l.toArray⟩ ∧ m ≤ N ∧ (m = 0 → l ≠ []) ∧ M.Irel N m l ∧ Below w.heap.size w wr) (fun n _ _ => (intOf n).toNat)
  case atStart => exact ⟨N, [], rfl, rfl, Nat.le_refl _, (fun h => by omega), M.Irel_start N, Below.refl _ _⟩
  case round =>
    obtain ⟨m, l, rfl, rfl, hm, hne, hir, hbel⟩ := hrel
    have hlen := hir.1
    have HI := Lib.hid hir
    have HN := Lib.hid hne
    clear hir hne
    by_cases hz : 0 < m
    · have HS := Lib.hid (M.Irel_step (by omega) hm HI.out (.inr (by omega)))
      have hb1 := one_byte wr (m % 10) (by omega) (48 + (m : Int) % 10) (by omega)
      go_wp2
      go_roundw
      case rel =>
        refine ⟨m / 10, _, ?_, ?_, ?_, ?_, HS.out, ?_⟩
        · go_num
        · exact congrArg Value.string (cat_mk [M.dig (m % 10)] l)
        · omega
        · simp
        · exact hbel.alloc hbel.size _
      case measure => simp [intOf]; omega
    · have hm0 : m = 0 := by omega
      subst hm0
      have HE := Lib.hid (M.Irel_end HI.out (HN.out rfl))
      go_wp2
      go_ret
      exact ⟨by rw [mark_cat, HE.out]; rfl, hbel⟩

theorem markText_at (x : Int) (N : Nat) (hx : x = (N : Int)) (h0 : 0 < N) (hN : N < 9223372036854775808) (w : World) :
    Calls Tryz.prog 106 #[.int .i64 x] w fun e w' => e = .returned (.string (markB N)) ∧ Below w.heap.size w w' := by
  subst hx; exact markText_any N h0 hN w

/-- Block g alone, of all that was there, may have changed. -/
structure Touch (g : Nat) (w w' : World) : Prop where
  size : w.heap.size ≤ w'.heap.size
  low : ∀ B, B ≤ g → Below B w w'
  block : ∀ k, k < w.heap.size → k ≠ g → w'.heap[k]? = w.heap[k]?
theorem Touch.refl (g : Nat) (w : World) : Touch g w w := ⟨Nat.le_refl _, fun _ _ => Below.refl _ _, fun _ _ _ => rfl⟩
theorem Touch.below {g : Nat} {w w1 w2 : World} (h : Touch g w w1) (hg : g < w1.heap.size) (hb : Below w1.heap.size w1 w2) : Touch g w w2 :=
  ⟨Nat.le_trans h.size hb.size, fun B hB => (h.low B hB).trans (hb.mono (by omega)), fun k hk hne => (hb.block k (Nat.lt_of_lt_of_le hk h.size)).trans (h.block k hk hne)⟩
theorem Touch.set {g : Nat} {w w1 : World} (h : Touch g w w1) (j : Nat) (v : Value) : Touch g w (w1.setCell ⟨g, j, none⟩ v) :=
  ⟨by simpa using h.size, fun B hB => (h.low B hB).setCell hB v, fun k hk hne => (Below.heap_setCell _ _ _ _ hne).trans (h.block k hk hne)⟩
theorem Touch.holds {g k : Nat} {w w1 : World} {C : Array Value} (h : Touch g w w1) (hC : Holds w k C) (hk : k ≠ g) : Holds w1 k C :=
  ⟨Nat.lt_of_lt_of_le hC.1 h.size, fun j v hj => (World.cell?_of_block (a := ⟨k, j, none⟩) (h.block k hC.1 hk)).trans (hC.2 j v hj)⟩
theorem Touch.own {g B : Nat} {w w1 : World} {v : Value} {l : List M.Cp} (h : Touch g w w1) (ho : CpOwn B w v l) (hne : v.ownBlock ≠ some g) : CpOwn B w1 v l := by
  obtain ⟨hl, h0 | ⟨k, cap, cur, rfl, hb, hh, hr⟩⟩ := ho
  · exact ⟨hl, .inl h0⟩
  · have hk : k ≠ g := fun e => hne (by rw [e]; rfl)
    have hlt : k < w.heap.size := (Array.getElem?_eq_some_iff.1 hh).1
    exact ⟨hl, .inr ⟨k, cap, cur, rfl, hb, (h.block k hlt hk).trans hh, hr⟩⟩

theorem Touch.before {g : Nat} {w w1 w2 : World} (h : Touch g w1 w2) (hb : Below w.heap.size w w1) (hg : g < w.heap.size) : Touch g w w2 :=
  ⟨Nat.le_trans hb.size h.size, fun B hB => (hb.mono (by omega)).trans (h.low B hB), fun k hk hne => (h.block k (Nat.lt_of_lt_of_le hk hb.size) hne).trans (hb.block k hk)⟩

def markCp (k : Nat) : M.Cp := ⟨⟨k, (k : Int) + 1, (k : Int) + 1 + 1⟩, markB (k + 3), ((k : Int) + 1 + 1 + 1 + 1) % 3 == 0⟩
def marks (k : Nat) (j : Nat) : List M.Cp := (List.range j).map fun i => markCp (k + 5 * i)
theorem marks_len (k j : Nat) : (marks k j).length = j := by simp [marks]
theorem marks_succ (k j : Nat) : marks k (j + 1) = marks k j ++ [markCp (k + 5 * j)] := by simp [marks, List.range_succ]

set_option maxHeartbeats 4000000 in
theorem markCopyS_any (g : Nat) (l : List M.Cp) (cap k : Nat) (B : Nat) (w : World) (ho : CpOwn B w (.slice (some ⟨g, 0, none⟩) l.length cap) l) (hk0 : 0 < k) (hk : k + 5 * l.length ≤ 20000000) :
    Calls Tryz.prog 144 #[.slice (some ⟨g, 0, none⟩) l.length cap, .int .i64 k] w fun r w' => r = .returned (.int .i64 (k + 5 * l.length : Nat)) ∧ CpOwn B w' (.slice (some ⟨g, 0, none⟩) l.length cap) (marks k l.length) ∧ Touch g w w' := by
  go_enter Tryz.func144, Tryz.ntmps144
  go_wp2
  go_loopw [1, 5] (fun x i wr => ∃ j : Nat, i = .int .i64 j ∧ j ≤ l.length ∧ x = .int .i64 (k + 5 * j : Nat) ∧ CpOwn B wr (.slice (some ⟨g, 0, none⟩) l.length cap) (marks k j ++ l.drop j) ∧ Touch g w wr) (fun _ i _ => l.length - (intOf i).toNat)
  case atStart => exact ⟨0, rfl, Nat.zero_le _, by simp, by simpa [marks] using ho, Touch.refl _ _⟩
  case round =>
    obtain ⟨j, rfl, hj, rfl, hown, ht⟩ := hrel
    by_cases hlt : j < l.length
    · obtain ⟨K, hK⟩ : ∃ K, k + 5 * j = K := ⟨_, rfl⟩
      have hlen2 : (marks k j ++ l.drop j).length = l.length := by rw [List.length_append, marks_len, List.length_drop]; omega
      have hown2 : wr.ownsRow B 48 5 (.slice (some ⟨g, 0, none⟩) l.length cap) l.length (cellsOf cpL (marks k j) ++ (.int .i64 l[j].ed.ma :: .int .i64 l[j].ed.mi :: .int .i64 l[j].ed.pa :: .string l[j].page :: .bool l[j].hidden :: cellsOf cpL (l.drop (j + 1)))) := by
        have h := hown
        unfold CpOwn at h
        rw [hlen2, cellsOf_append, List.drop_eq_getElem_cons hlt] at h
        exact h
      have hz : j * 5 = (cellsOf cpL (marks k j)).length := by rw [cellsOf_len cpL_len, marks_len]
      obtain ⟨⟨c0, c1, c2, c3, c4⟩, f0, f1, f2, f3, f4⟩ := own_cells5 hown2 hz
      have hgl : g < wr.heap.size := World.block_lt_of_cell? wr _ c0
      have hK1 : 0 < K := by omega
      have hK2 : K < 20000000 := by omega
      have HO := Lib.hid hown2
      have HZ := Lib.hid hz
      have HK := Lib.hid hK
      rw [hK]
      clear ho hown hown2 hz hlen2
      go_wp2_with fail
      refine (markText_at _ (K + 3) (by omega) (by omega) (by omega) _).mono ?_
      rintro r w2 ⟨rfl, b2⟩
      have ho2 := Own.below (((HO.out.stored (j * 5) (.int .i64 K)).1.stored (j * 5 + 1) (.int .i64 ((K : Int) + 1))).1.stored (j * 5 + 2) (.int .i64 ((K : Int) + 1 + 1))).1 b2
      have ht2 := (((ht.set (j * 5) (.int .i64 K)).set (j * 5 + 1) (.int .i64 ((K : Int) + 1))).set (j * 5 + 2) (.int .i64 ((K : Int) + 1 + 1))).below (by simpa using hgl) b2
      have hlt5 : j * 5 + 4 < l.length * 5 := by omega
      have d3 : w2.cell? ⟨g, j * 5 + 3, none⟩ = some (.string l[j].page) := by
        rw [ho2.cellAt _ (by omega), HZ.out]; simp
      have d4 : w2.cell? ⟨g, j * 5 + 4, none⟩ = some (.bool l[j].hidden) := by
        rw [ho2.cellAt _ (by omega), HZ.out]; simp
      have g3 := ho2.frozenAt (j * 5 + 3)
      have g4 := ho2.frozenAt (j * 5 + 4)
      have HO2 := Lib.hid ho2
      clear c0 c1 c2 c3 c4 f0 f1 f2 f3 f4 ho2 HO b2 hK
      go_wp2
      go_roundw
      case rel =>
        refine ⟨j + 1, by go_num, by omega, congrArg (Value.int .i64) (by rw [← HK.out]; omega), ?_, (ht2.set _ _).set _ _⟩
        have h5 := ((HO2.out.stored (j * 5 + 3) (.string (markB (K + 3)))).1.stored (j * 5 + 4) (.bool (((K : Int) + 1 + 1 + 1 + 1) % 3 == 0))).1
        rw [set5 _ _ _ _ _ _ _ _ _ _ _ _ _ HZ.out] at h5
        have hl3 : (marks k (j + 1) ++ l.drop (j + 1)).length = l.length := by rw [List.length_append, marks_len, List.length_drop]; omega
        unfold CpOwn
        rw [hl3, cellsOf_append, marks_succ, cellsOf_append, HK.out, List.append_assoc]
        exact h5
      case measure => simp [intOf]; omega
    · have hj' : j = l.length := by omega
      subst hj'
      rw [List.drop_length, List.append_nil] at hown
      have HO := Lib.hid hown
      clear ho hown
      go_wp2
      go_ret
      exact ⟨rfl, HO.out, ht⟩

set_option maxHeartbeats 1000000 in
theorem markCopyS_none (A : Option Addr) (cap k : Nat) (w : World) :
    Calls Tryz.prog 144 #[.slice A 0 cap, .int .i64 k] w fun r w' => r = .returned (.int .i64 k) ∧ w = w' := by
  go_enter Tryz.func144, Tryz.ntmps144
  go_wp2
  go_loop [1, 5] (fun x i => x = .int .i64 k ∧ i = .int .i64 0) (fun _ _ => 0)
  case atStart => exact ⟨rfl, rfl⟩
  case round =>
    obtain ⟨rfl, rfl⟩ := hrel
    go_wp2
    go_ret
    exact ⟨rfl, rfl⟩

theorem marks_at (k j n : Nat) (h : j < n) : (marks k n)[j]'(by rw [marks_len]; exact h) = markCp (k + 5 * j) := by simp [marks]

set_option maxHeartbeats 4000000 in
theorem heldCopyS_any (A : Option Addr) (n cap k : Nat) (w : World) (hl : Cps w A (marks k n)) (hk0 : 0 < k) (hk : k + 5 * n ≤ 20000000) :
    Calls Tryz.prog 145 #[.slice A n cap, .int .i64 k] w fun r w' => r = .returned (.int .i64 (k + 5 * n : Nat)) ∧ Below w.heap.size w w' := by
  go_enter Tryz.func145, Tryz.ntmps145
  go_wp2
  go_loopw [1, 5] (fun x i wr => ∃ j : Nat, i = .int .i64 j ∧ j ≤ n ∧ x = .int .i64 (k + 5 * j : Nat) ∧ Below w.heap.size w wr) (fun _ i _ => n - (intOf i).toNat)
  case atStart => exact ⟨0, rfl, Nat.zero_le _, by simp, Below.refl _ _⟩
  case round =>
    obtain ⟨j, rfl, hj, rfl, hb⟩ := hrel
    by_cases hlt : j < n
    · obtain ⟨kk, hK⟩ : ∃ kk, k + 5 * j = kk := ⟨_, rfl⟩
      obtain ⟨b, o, rfl, zb, c0, c1, c2, c3, c4⟩ := Cps_at (hl.below hb) (i := j) (by rw [marks_len]; exact hlt)
      rw [marks_at k j n hlt, hK] at c0 c1 c2 c3 c4
      have hK1 : 0 < kk := by omega
      have hK2 : kk < 20000000 := by omega
      have HL := Lib.hid hl
      have HK := Lib.hid hK
      rw [hK]
      clear hl hK
      simp only [markCp] at c0 c1 c2 c3 c4
      have e0 : ((kk : Int) != (kk : Int)) = false := by simp
      have e1 : ((kk : Int) + 1 != (kk : Int) + 1) = false := by simp
      have e2 : ((kk : Int) + 1 + 1 != (kk : Int) + 1 + 1) = false := by simp
      go_wp2_with fail
      refine wp_region_seq (fun w' => Below wr.heap.size wr w') [(0, true), (1, true), (2, true), (3, true), (4, true), (5, true), (6, false), (7, true)] (by kernel_rfl) (by kernel_rfl) (fun _ _ _ _ _ h => h) (by kernel_rfl) (by decide) (Below.refl _ _).drew ?_
      intro hHeld
      repeat (first
        | (refine seq_skip (by simp only [List.getElem?_toArray, List.getElem?_cons_succ, List.getElem?_cons_zero]; first | done | rfl) (by rfl) ?_; (try simp only [Act.put, List.setIfInBounds_toArray, List.set_cons_zero, List.set_cons_succ]))
        | (refine seq_reads (by simp only [List.getElem?_toArray, List.getElem?_cons_succ, List.getElem?_cons_zero]; first | done | rfl) (by rfl) ?_; apply Exists.intro; apply And.intro; (focus (intro w hSw; obtain ⟨hcS, -⟩ := bcell hSw; go_simp; (try with_reducible rfl); done)); (try simp only [Act.put, List.setIfInBounds_toArray, List.set_cons_zero, List.set_cons_succ]))
        | (refine seq_pass (by simp only [List.getElem?_toArray, List.getElem?_cons_succ, List.getElem?_cons_zero]; first | done | rfl) (by rfl) hHeld ?_; clear hHeld; intro hHeld; (try simp only [Act.put, List.setIfInBounds_toArray, List.set_cons_zero, List.set_cons_succ]))
        | (refine seq_call (by simp only [List.getElem?_toArray, List.getElem?_cons_succ, List.getElem?_cons_zero]; first | done | rfl) (by rfl) (fun K hK => ?_); go_simp; go_at_call 106; refine (markText_at _ (kk + 3) (by omega) (by omega) (by omega) _).mono ?_; rintro r w1 ⟨rfl, b1⟩; go_simp; refine hK.out _ _ (next hHeld b1) ?_; clear hK hHeld; intro hHeld; (try simp only [Act.put, List.setIfInBounds_toArray, List.set_cons_zero, List.set_cons_succ])))
      refine seq_end ?_
      have c4' := (hHeld.cell (p := ⟨b, o + j * 5 + 4, none⟩) zb).trans c4
      have e3 : ((markB (kk + 3)).toList != (markB (kk + 3)).toList) = false := by simp
      have e4 : ((((kk : Int) + 1 + 1 + 1 + 1) % 3 == 0) != (((kk : Int) + 1 + 1 + 1 + 1) % 3 == 0)) = false := by simp
      have bb := next hb hHeld
      clear c0 c1 c2 c3 c4 hHeld
      go_wp2
      go_roundw
      case rel => exact ⟨j + 1, by go_num, by omega, congrArg (Value.int .i64) (by rw [← HK.out]; omega), bb⟩
      case measure => simp [intOf]; omega
    · have hj' : j = n := by omega
      subst hj'
      go_wp2
      go_ret
      exact ⟨rfl, hb⟩

end Go.Proofs.YtblcgbgcccjpcaaGreat
namespace Go.Proofs.YtblcgbgcccjpcaaGreat
open Go.RowKit
set_option maxRecDepth 20000

theorem CpOwn.apart {B : Nat} {w : World} {v : Value} {l : List M.Cp} (h : CpOwn B w v l) {a : Addr} (ha : v.ownBlock ≠ some a.block) (u : Value) : CpOwn B (w.setCell a u) v l := by
  obtain ⟨hl, h0 | ⟨k, cap, cur, rfl, hb, hh, hr⟩⟩ := h
  · exact ⟨hl, .inl h0⟩
  · exact ⟨hl, .inr ⟨k, cap, cur, rfl, hb, (Below.heap_setCell _ _ _ _ (fun e => ha (by rw [← e]; rfl))).trans hh, hr⟩⟩
theorem CpOwn.ne_low {B g : Nat} {w : World} {v : Value} {l : List M.Cp} (h : CpOwn B w v l) (hg : g < B) : v.ownBlock ≠ some g := fun e => by
  have := (h.lt g e).1; omega
theorem CpOwn.ne_new {B : Nat} {w : World} {v : Value} {l : List M.Cp} (h : CpOwn B w v l) : v.ownBlock ≠ some w.heap.size := fun e => by
  have := (h.lt _ e).2; omega

/-- The block row alone, of all that was there, may have changed. -/
structure TouchO (row : Option Nat) (w w' : World) : Prop where
  size : w.heap.size ≤ w'.heap.size
  low : ∀ B, B ≤ w.heap.size → (∀ g, row = some g → B ≤ g) → Below B w w'
  block : ∀ k, k < w.heap.size → some k ≠ row → w'.heap[k]? = w.heap[k]?
theorem TouchO.holds {row : Option Nat} {k : Nat} {w w1 : World} {C : Array Value} (h : TouchO row w w1) (hC : Holds w k C) (hk : some k ≠ row) : Holds w1 k C :=
  ⟨Nat.lt_of_lt_of_le hC.1 h.size, fun j v hj => (World.cell?_of_block (a := ⟨k, j, none⟩) (h.block k hC.1 hk)).trans (hC.2 j v hj)⟩
theorem TouchO.own {row : Option Nat} {B : Nat} {w w1 : World} {v : Value} {l : List M.Cp} (h : TouchO row w w1) (ho : CpOwn B w v l) (hne : v.ownBlock = none ∨ v.ownBlock ≠ row) : CpOwn B w1 v l := by
  obtain ⟨hl, h0 | ⟨k, cap, cur, rfl, hb, hh, hr⟩⟩ := ho
  · exact ⟨hl, .inl h0⟩
  · have hk : some k ≠ row := by
      rcases hne with hne | hne
      · simp [Value.ownBlock] at hne
      · exact hne
    have hlt : k < w.heap.size := (Array.getElem?_eq_some_iff.1 hh).1
    exact ⟨hl, .inr ⟨k, cap, cur, rfl, hb, (h.block k hlt hk).trans hh, hr⟩⟩

/-- s is a pointer to a new box that holds the work p tells, its copies in new memory of their own; sb is the flag. -/
def WkBox (W0 : World) (p : M.Wk × Bool) (s sb : Value) (wx : World) : Prop :=
  ∃ G A c, sb = .bool p.2 ∧ s = .pointer (some ⟨G, 0, none⟩) ∧ W0.heap.size ≤ G ∧ Below W0.heap.size W0 wx ∧ Holds wx G (wkL p.1.name p.1.owner A p.1.copies.length c) ∧ CpOwn W0.heap.size wx (.slice A p.1.copies.length c) p.1.copies ∧ (Value.slice A p.1.copies.length c).ownBlock ≠ some G
end Go.Proofs.YtblcgbgcccjpcaaGreat
