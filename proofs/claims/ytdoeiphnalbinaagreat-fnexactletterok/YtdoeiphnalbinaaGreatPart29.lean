/- Proved, in parts: Proved: the model's BookOk answers as the plain Lean function does; it writes nothing that was there. Condition: texts and lists of at most a million. -/
import Derived.Test.YtdoeiphnalbinaaGreatPart13
import Derived.Test.YtdoeiphnalbinaaGreatPart28
namespace Go.Proofs.YtdoeiphnalbinaaGreat
open Go.RowKit
set_option maxRecDepth 20000
theorem l6Client_is (n : Int) (b : Bool) (h : M.inI n 0 3 = b) (w : World) : Calls Tryz.prog 59 #[.int .i64 n] w fun e w' => e = .returned (.bool b) ∧ Below w.heap.size w w' := by
  subst h
  exact (l6Client_any n w).mono fun e w' ⟨h1, h2⟩ => ⟨h1, h2 ▸ Below.refl _ _⟩
theorem in_is (n a c : Int) (b : Bool) (h : M.inI n a c = b) (w : World) : Calls Tryz.prog 12 #[.int .i64 n, .int .i64 a, .int .i64 c] w fun e w' => e = .returned (.bool b) ∧ Below w.heap.size w w' := by
  subst h
  exact (in_i n a c w).mono fun e w' ⟨h1, h2⟩ => ⟨h1, h2 ▸ Below.refl _ _⟩
namespace M
def lasTo (l : List La) (j : Nat) : Prop := (∀ (i : Nat) (h : i < l.length), i < j → laOk l[i] = true) ∧ GRisesTo laLt l j
theorem lasTo_zero (l : List La) : lasTo l 0 := ⟨fun _ _ h => absurd h (by omega), fun _ _ h => absurd h (by omega)⟩
theorem lasTo_first {l : List La} {j : Nat} (hj : j < l.length) (h0 : j = 0) (h : laOk l[j] = true) : lasTo l (j + 1) := by
  subst h0
  refine ⟨fun i hi hij => ?_, GRisesTo.one _ l⟩
  obtain rfl : i = 0 := by omega
  exact h
theorem lasTo_next {l : List La} {k : Nat} (h : lasTo l (k + 1)) (hk : k + 1 < l.length) (h0 : laOk l[k + 1] = true) (h1 : laLt l[k] l[k + 1] = true) : lasTo l (k + 2) := by
  refine ⟨fun i hi hij => ?_, h.2.next hk h1⟩
  by_cases e : i = k + 1
  · subst e; exact h0
  · exact h.1 i hi (by omega)
theorem lasTo_all {l : List La} {j : Nat} (h : lasTo l j) (hj : l.length ≤ j) : lasOk l = true := by
  have h1 : l.all laOk = true := List.all_eq_true.2 fun x hx => by
    obtain ⟨i, hi, rfl⟩ := List.mem_iff_getElem.1 hx
    exact h.1 i hi (by omega)
  have h2 := h.2.all hj
  unfold lasOk
  rw [h1, h2]; rfl
theorem lasOk_not1 {l : List La} {j : Nat} (hj : j < l.length) (h : laOk l[j] = false) : lasOk l = false := by
  have : l.all laOk = false := by
    rcases hc : l.all laOk with _ | _
    · rfl
    · have := List.all_eq_true.1 hc l[j] (List.getElem_mem hj)
      rw [h] at this; cases this
  unfold lasOk
  rw [this]; rfl
theorem lasOk_not2 {l : List La} {k : Nat} (hk : k + 1 < l.length) (h : laLt l[k] l[k + 1] = false) : lasOk l = false := by
  unfold lasOk
  rw [grises_not hk h]; simp
end M

set_option maxHeartbeats 4000000 in
theorem specBookOk (A : Option Addr) (s : List Wr) (cap : Nat) (B : Option Addr) (l : List M.La) (cb : Nat) (w : World) (hs : Wks w A s) (hlen : s.length ≤ 1048576) (hp : WrsIn 1048576 s) (hm : Las w B l) (hml : l.length ≤ 1048576) :
    Calls Tryz.prog 29 #[bkV A s.length cap B l.length cb] w fun r w' => r = .returned (.bool (M.bkOk (s.map Wr.wk) l)) ∧ Below w.heap.size w w' := by
  have b0 := (Below.refl w.heap.size w).alloc (Nat.le_refl _) (.cells (bkA A s.length cap B l.length cb) 35)
  have hK0 := holds_new w (bkA A s.length cap B l.length cb) 35
  have HS := Lib.hid hs
  have HP := Lib.hid hp
  have HM0 := Lib.hid hm
  clear hs hp hm
  go_enter Tryz.func29, Tryz.ntmps29
  go_wp2
  go_loopw [3] (fun i wr => ∃ j : Nat, i = .int .i64 j ∧ j ≤ l.length ∧ M.lasTo l j ∧ Below (w.alloc (.cells (bkA A s.length cap B l.length cb) 35)).heap.size (w.alloc (.cells (bkA A s.length cap B l.length cb) 35)) wr) (fun i _ => l.length - (intOf i).toNat)
  case atStart => exact ⟨0, rfl, Nat.zero_le _, M.lasTo_zero _, Below.refl _ _⟩
  case round =>
    obtain ⟨j, rfl, hj, hu, hb⟩ := hrel
    have hK := hK0.below hb
    have HM := Lib.hid ((HM0.out.below b0).below hb)
    have hbw := next b0 hb
    by_cases hlt : j < l.length
    · have HU := Lib.hid hu
      clear hu
      rcases h1 : M.inI l[j].client 0 3 with _ | _
      · have HE : Hid (M.bkOk (s.map Wr.wk) l = false) := Lib.hid (by rw [M.bkOk, M.lasOk_not1 hlt (by simp [M.laOk, h1])]; simp)
        have H1 := Lib.hid h1
        have H2 : Hid (M.inI l[j].seq 1 1000 = M.inI l[j].seq 1 1000) := Lib.hid rfl
        clear h1
        obtain ⟨b, o, rfl, hbl, c0, c1, c2, c3⟩ := Las_at HM.out hlt
        have hx := holds_new wr (laA l[j]) 85
        have bA := (Below.refl wr.heap.size wr).alloc (Nat.le_refl _) (.cells (laA l[j]) 85)
        have hM2 := HM.out.below bA
        have hK2 := hK.below bA
        obtain ⟨k0, k1⟩ := hK.two
        have zk := hK.1
        go_wp2_with fail
        generalize hwB : wr.alloc (.cells (laA l[j]) 85) = wB at hx hM2 hK2 bA ⊢
        clear hwB c0 c1 c2 c3 k0 k1 zk hbl
        obtain ⟨q0, q1, q2, q3⟩ := hx.four
        obtain ⟨k0, k1⟩ := hK2.two
        have zx := hx.1
        have zk := hK2.1
        clear hM2
        refine wp_region_seq (fun w' => Below wB.heap.size wB w') [(0, true), (1, true), (2, false), (3, true), (4, true), (5, true), (6, true), (7, false), (8, true), (9, true), (10, true), (11, true), (12, true), (13, true), (14, true), (15, true), (16, true), (17, true), (18, true), (19, true), (20, true), (21, true), (22, true), (23, true), (24, true), (25, true)] (by kernel_rfl) (by kernel_rfl) (fun _ _ _ _ _ h => h) (by kernel_rfl) (by decide) (Below.refl _ _).drew ?_
        intro hHeld
        repeat (first
          | (refine seq_skip (by simp only [List.getElem?_toArray, List.getElem?_cons_succ, List.getElem?_cons_zero]; first | done | rfl) (by rfl) ?_; (try simp only [Act.put, List.setIfInBounds_toArray, List.set_cons_zero, List.set_cons_succ]))
          | (refine seq_reads (by simp only [List.getElem?_toArray, List.getElem?_cons_succ, List.getElem?_cons_zero]; first | done | rfl) (by rfl) ?_; apply Exists.intro; apply And.intro; (focus (intro w hSw; obtain ⟨hcS, -⟩ := bcell hSw; go_simp; (try with_reducible rfl); done)); (try simp only [Act.put, List.setIfInBounds_toArray, List.set_cons_zero, List.set_cons_succ]))
          | (refine seq_pass (by simp only [List.getElem?_toArray, List.getElem?_cons_succ, List.getElem?_cons_zero]; first | done | rfl) (by rfl) hHeld ?_; clear hHeld; intro hHeld; (try simp only [Act.put, List.setIfInBounds_toArray, List.set_cons_zero, List.set_cons_succ]))
          | (refine seq_call (by simp only [List.getElem?_toArray, List.getElem?_cons_succ, List.getElem?_cons_zero]; first | done | rfl) (by rfl) (fun K hK => ?_); go_simp; go_at_call 59; refine (l6Client_is _ _ H1.out _).mono ?_; rintro r w1 ⟨rfl, b1⟩; go_simp; refine hK.out _ _ (next hHeld b1) ?_; clear hK hHeld; intro hHeld; (try simp only [Act.put, List.setIfInBounds_toArray, List.set_cons_zero, List.set_cons_succ]))
          | (refine seq_call (by simp only [List.getElem?_toArray, List.getElem?_cons_succ, List.getElem?_cons_zero]; first | done | rfl) (by rfl) (fun K hK => ?_); go_simp; go_at_call 12; refine (in_is _ _ _ _ H2.out _).mono ?_; rintro r w1 ⟨rfl, b1⟩; go_simp; refine hK.out _ _ (next hHeld b1) ?_; clear hK hHeld; intro hHeld; (try simp only [Act.put, List.setIfInBounds_toArray, List.set_cons_zero, List.set_cons_succ])))
        refine seq_end ?_
        go_wp2
        go_ret
        exact ⟨ret_bool HE.out.symm, next (next hbw bA) hHeld⟩
      · rcases h2 : M.inI l[j].seq 1 1000 with _ | _
        · have HE : Hid (M.bkOk (s.map Wr.wk) l = false) := Lib.hid (by rw [M.bkOk, M.lasOk_not1 hlt (by simp [M.laOk, h2])]; simp)
          have H1 := Lib.hid h1
          have H2 := Lib.hid h2
          clear h1 h2
          obtain ⟨b, o, rfl, hbl, c0, c1, c2, c3⟩ := Las_at HM.out hlt
          have hx := holds_new wr (laA l[j]) 85
          have bA := (Below.refl wr.heap.size wr).alloc (Nat.le_refl _) (.cells (laA l[j]) 85)
          have hM2 := HM.out.below bA
          have hK2 := hK.below bA
          obtain ⟨k0, k1⟩ := hK.two
          have zk := hK.1
          go_wp2_with fail
          generalize hwB : wr.alloc (.cells (laA l[j]) 85) = wB at hx hM2 hK2 bA ⊢
          clear hwB c0 c1 c2 c3 k0 k1 zk hbl
          obtain ⟨q0, q1, q2, q3⟩ := hx.four
          obtain ⟨k0, k1⟩ := hK2.two
          have zx := hx.1
          have zk := hK2.1
          clear hM2
          refine wp_region_seq (fun w' => Below wB.heap.size wB w') [(0, true), (1, true), (2, false), (3, true), (4, true), (5, true), (6, true), (7, false), (8, true), (9, true), (10, true), (11, true), (12, true), (13, true), (14, true), (15, true), (16, true), (17, true), (18, true), (19, true), (20, true), (21, true), (22, true), (23, true), (24, true), (25, true)] (by kernel_rfl) (by kernel_rfl) (fun _ _ _ _ _ h => h) (by kernel_rfl) (by decide) (Below.refl _ _).drew ?_
          intro hHeld
          repeat (first
            | (refine seq_skip (by simp only [List.getElem?_toArray, List.getElem?_cons_succ, List.getElem?_cons_zero]; first | done | rfl) (by rfl) ?_; (try simp only [Act.put, List.setIfInBounds_toArray, List.set_cons_zero, List.set_cons_succ]))
            | (refine seq_reads (by simp only [List.getElem?_toArray, List.getElem?_cons_succ, List.getElem?_cons_zero]; first | done | rfl) (by rfl) ?_; apply Exists.intro; apply And.intro; (focus (intro w hSw; obtain ⟨hcS, -⟩ := bcell hSw; go_simp; (try with_reducible rfl); done)); (try simp only [Act.put, List.setIfInBounds_toArray, List.set_cons_zero, List.set_cons_succ]))
            | (refine seq_pass (by simp only [List.getElem?_toArray, List.getElem?_cons_succ, List.getElem?_cons_zero]; first | done | rfl) (by rfl) hHeld ?_; clear hHeld; intro hHeld; (try simp only [Act.put, List.setIfInBounds_toArray, List.set_cons_zero, List.set_cons_succ]))
            | (refine seq_call (by simp only [List.getElem?_toArray, List.getElem?_cons_succ, List.getElem?_cons_zero]; first | done | rfl) (by rfl) (fun K hK => ?_); go_simp; go_at_call 59; refine (l6Client_is _ _ H1.out _).mono ?_; rintro r w1 ⟨rfl, b1⟩; go_simp; refine hK.out _ _ (next hHeld b1) ?_; clear hK hHeld; intro hHeld; (try simp only [Act.put, List.setIfInBounds_toArray, List.set_cons_zero, List.set_cons_succ]))
            | (refine seq_call (by simp only [List.getElem?_toArray, List.getElem?_cons_succ, List.getElem?_cons_zero]; first | done | rfl) (by rfl) (fun K hK => ?_); go_simp; go_at_call 12; refine (in_is _ _ _ _ H2.out _).mono ?_; rintro r w1 ⟨rfl, b1⟩; go_simp; refine hK.out _ _ (next hHeld b1) ?_; clear hK hHeld; intro hHeld; (try simp only [Act.put, List.setIfInBounds_toArray, List.set_cons_zero, List.set_cons_succ])))
          refine seq_end ?_
          go_wp2
          go_ret
          exact ⟨ret_bool HE.out.symm, next (next hbw bA) hHeld⟩
        · have HOK : Hid (M.laOk l[j] = true) := Lib.hid (by simp [M.laOk, h1, h2])
          have H1 := Lib.hid h1
          have H2 := Lib.hid h2
          clear h1 h2
          rcases Nat.eq_zero_or_pos j with h0 | h0
          · have HT : Hid (M.lasTo l (j + 1)) := Lib.hid (M.lasTo_first hlt h0 HOK.out)
            have e0 : decide (0 < j) = false := by simp; omega
            have HJ0 := Lib.hid h0
            clear h0
            obtain ⟨b, o, rfl, hbl, c0, c1, c2, c3⟩ := Las_at HM.out hlt
            have hx := holds_new wr (laA l[j]) 85
            have bA := (Below.refl wr.heap.size wr).alloc (Nat.le_refl _) (.cells (laA l[j]) 85)
            have hM2 := HM.out.below bA
            have hK2 := hK.below bA
            obtain ⟨k0, k1⟩ := hK.two
            have zk := hK.1
            go_wp2_with fail
            generalize hwB : wr.alloc (.cells (laA l[j]) 85) = wB at hx hM2 hK2 bA ⊢
            clear hwB c0 c1 c2 c3 k0 k1 zk hbl
            obtain ⟨q0, q1, q2, q3⟩ := hx.four
            obtain ⟨k0, k1⟩ := hK2.two
            have zx := hx.1
            have zk := hK2.1
            clear hM2
            refine wp_region_seq (fun w' => Below wB.heap.size wB w') [(0, true), (1, true), (2, false), (3, true), (4, true), (5, true), (6, true), (7, false), (8, true), (9, true), (10, true), (11, true), (12, true), (13, true), (14, true), (15, true), (16, true), (17, true), (18, true), (19, true), (20, true), (21, true), (22, true), (23, true), (24, true), (25, true)] (by kernel_rfl) (by kernel_rfl) (fun _ _ _ _ _ h => h) (by kernel_rfl) (by decide) (Below.refl _ _).drew ?_
            intro hHeld
            repeat (first
              | (refine seq_skip (by simp only [List.getElem?_toArray, List.getElem?_cons_succ, List.getElem?_cons_zero]; first | done | rfl) (by rfl) ?_; (try simp only [Act.put, List.setIfInBounds_toArray, List.set_cons_zero, List.set_cons_succ]))
              | (refine seq_reads (by simp only [List.getElem?_toArray, List.getElem?_cons_succ, List.getElem?_cons_zero]; first | done | rfl) (by rfl) ?_; apply Exists.intro; apply And.intro; (focus (intro w hSw; obtain ⟨hcS, -⟩ := bcell hSw; go_simp; (try with_reducible rfl); done)); (try simp only [Act.put, List.setIfInBounds_toArray, List.set_cons_zero, List.set_cons_succ]))
              | (refine seq_pass (by simp only [List.getElem?_toArray, List.getElem?_cons_succ, List.getElem?_cons_zero]; first | done | rfl) (by rfl) hHeld ?_; clear hHeld; intro hHeld; (try simp only [Act.put, List.setIfInBounds_toArray, List.set_cons_zero, List.set_cons_succ]))
              | (refine seq_call (by simp only [List.getElem?_toArray, List.getElem?_cons_succ, List.getElem?_cons_zero]; first | done | rfl) (by rfl) (fun K hK => ?_); go_simp; go_at_call 59; refine (l6Client_is _ _ H1.out _).mono ?_; rintro r w1 ⟨rfl, b1⟩; go_simp; refine hK.out _ _ (next hHeld b1) ?_; clear hK hHeld; intro hHeld; (try simp only [Act.put, List.setIfInBounds_toArray, List.set_cons_zero, List.set_cons_succ]))
              | (refine seq_call (by simp only [List.getElem?_toArray, List.getElem?_cons_succ, List.getElem?_cons_zero]; first | done | rfl) (by rfl) (fun K hK => ?_); go_simp; go_at_call 12; refine (in_is _ _ _ _ H2.out _).mono ?_; rintro r w1 ⟨rfl, b1⟩; go_simp; refine hK.out _ _ (next hHeld b1) ?_; clear hK hHeld; intro hHeld; (try simp only [Act.put, List.setIfInBounds_toArray, List.set_cons_zero, List.set_cons_succ])))
            refine seq_end ?_
            go_wp2
            go_roundw
            case rel => exact ⟨j + 1, by go_num, by omega, HT.out, next (next hb bA) hHeld⟩
            case measure => simp [intOf]; omega
          · obtain ⟨k, hkj⟩ : ∃ k, j = k + 1 := ⟨j - 1, by omega⟩
            have hkl : k < l.length := by omega
            rcases hnl : M.laLt l[k] l[j] with _ | _
            · have HE : Hid (M.bkOk (s.map Wr.wk) l = false) := Lib.hid (by subst hkj; rw [M.bkOk, M.lasOk_not2 hlt hnl]; simp)
              have e6 : decide (l[j].client ≤ l[k].client) = true := by simp [M.laLt] at hnl; simpa using hnl
              have HN := Lib.hid hnl
              clear hnl
              have HKJ := Lib.hid hkj
              have HJ0 := Lib.hid h0
              clear hkj h0
              obtain ⟨b, o, rfl, hbl, c0, c1, c2, c3⟩ := Las_at HM.out hlt
              have hx := holds_new wr (laA l[j]) 85
              have bA := (Below.refl wr.heap.size wr).alloc (Nat.le_refl _) (.cells (laA l[j]) 85)
              have hM2 := HM.out.below bA
              have hK2 := hK.below bA
              obtain ⟨k0, k1⟩ := hK.two
              have zk := hK.1
              go_wp2_with fail
              generalize hwB : wr.alloc (.cells (laA l[j]) 85) = wB at hx hM2 hK2 bA ⊢
              clear hwB c0 c1 c2 c3 k0 k1 zk hbl
              obtain ⟨q0, q1, q2, q3⟩ := hx.four
              obtain ⟨k0, k1⟩ := hK2.two
              have zx := hx.1
              have zk := hK2.1
              obtain ⟨b2, o2, hbo, zb, d0, d1, d2, d3⟩ := Las_at hM2 hkl
              obtain ⟨rfl, rfl⟩ : b = b2 ∧ o = o2 := by simpa using hbo
              have e0 : decide (0 < j) = true := by have := HJ0.out; simp; omega
              have e1 : IntKind.i64.wrap ((j : Int) - 1) = (j : Int) - 1 := IntWalk.i64_in _ (by omega)
              have e2 : ((j : Int) - 1).toNat = k := by have := HKJ.out; omega
              have e3 : (1 : Int) ≤ (j : Int) := by have := HJ0.out; omega
              have e5 : ¬ ((l.length : Int) ≤ (j : Int) - 1) := by omega
              have e7 : (j : Int) - 1 < (l.length : Int) := by omega
              clear hbo d1 d2 d3
              clear hM2
              refine wp_region_seq (fun w' => Below wB.heap.size wB w') [(0, true), (1, true), (2, false), (3, true), (4, true), (5, true), (6, true), (7, false), (8, true), (9, true), (10, true), (11, true), (12, true), (13, true), (14, true), (15, true), (16, true), (17, true), (18, true), (19, true), (20, true), (21, true), (22, true), (23, true), (24, true), (25, true)] (by kernel_rfl) (by kernel_rfl) (fun _ _ _ _ _ h => h) (by kernel_rfl) (by decide) (Below.refl _ _).drew ?_
              intro hHeld
              repeat (first
                | (refine seq_skip (by simp only [List.getElem?_toArray, List.getElem?_cons_succ, List.getElem?_cons_zero]; first | done | rfl) (by rfl) ?_; (try simp only [Act.put, List.setIfInBounds_toArray, List.set_cons_zero, List.set_cons_succ]))
                | (refine seq_reads (by simp only [List.getElem?_toArray, List.getElem?_cons_succ, List.getElem?_cons_zero]; first | done | rfl) (by rfl) ?_; apply Exists.intro; apply And.intro; (focus (intro w hSw; obtain ⟨hcS, -⟩ := bcell hSw; go_simp; (try with_reducible rfl); done)); (try simp only [Act.put, List.setIfInBounds_toArray, List.set_cons_zero, List.set_cons_succ]))
                | (refine seq_pass (by simp only [List.getElem?_toArray, List.getElem?_cons_succ, List.getElem?_cons_zero]; first | done | rfl) (by rfl) hHeld ?_; clear hHeld; intro hHeld; (try simp only [Act.put, List.setIfInBounds_toArray, List.set_cons_zero, List.set_cons_succ]))
                | (refine seq_call (by simp only [List.getElem?_toArray, List.getElem?_cons_succ, List.getElem?_cons_zero]; first | done | rfl) (by rfl) (fun K hK => ?_); go_simp; go_at_call 59; refine (l6Client_is _ _ H1.out _).mono ?_; rintro r w1 ⟨rfl, b1⟩; go_simp; refine hK.out _ _ (next hHeld b1) ?_; clear hK hHeld; intro hHeld; (try simp only [Act.put, List.setIfInBounds_toArray, List.set_cons_zero, List.set_cons_succ]))
                | (refine seq_call (by simp only [List.getElem?_toArray, List.getElem?_cons_succ, List.getElem?_cons_zero]; first | done | rfl) (by rfl) (fun K hK => ?_); go_simp; go_at_call 12; refine (in_is _ _ _ _ H2.out _).mono ?_; rintro r w1 ⟨rfl, b1⟩; go_simp; refine hK.out _ _ (next hHeld b1) ?_; clear hK hHeld; intro hHeld; (try simp only [Act.put, List.setIfInBounds_toArray, List.set_cons_zero, List.set_cons_succ])))
              refine seq_end ?_
              go_wp2
              go_ret
              exact ⟨ret_bool HE.out.symm, next (next hbw bA) hHeld⟩
            · have HT : Hid (M.lasTo l (j + 1)) := Lib.hid (by subst hkj; exact M.lasTo_next HU.out hlt HOK.out hnl)
              have e6 : decide (l[j].client ≤ l[k].client) = false := by simp [M.laLt] at hnl; simpa using hnl
              have HN := Lib.hid hnl
              clear hnl
              have HKJ := Lib.hid hkj
              have HJ0 := Lib.hid h0
              clear hkj h0
              obtain ⟨b, o, rfl, hbl, c0, c1, c2, c3⟩ := Las_at HM.out hlt
              have hx := holds_new wr (laA l[j]) 85
              have bA := (Below.refl wr.heap.size wr).alloc (Nat.le_refl _) (.cells (laA l[j]) 85)
              have hM2 := HM.out.below bA
              have hK2 := hK.below bA
              obtain ⟨k0, k1⟩ := hK.two
              have zk := hK.1
              go_wp2_with fail
              generalize hwB : wr.alloc (.cells (laA l[j]) 85) = wB at hx hM2 hK2 bA ⊢
              clear hwB c0 c1 c2 c3 k0 k1 zk hbl
              obtain ⟨q0, q1, q2, q3⟩ := hx.four
              obtain ⟨k0, k1⟩ := hK2.two
              have zx := hx.1
              have zk := hK2.1
              obtain ⟨b2, o2, hbo, zb, d0, d1, d2, d3⟩ := Las_at hM2 hkl
              obtain ⟨rfl, rfl⟩ : b = b2 ∧ o = o2 := by simpa using hbo
              have e0 : decide (0 < j) = true := by have := HJ0.out; simp; omega
              have e1 : IntKind.i64.wrap ((j : Int) - 1) = (j : Int) - 1 := IntWalk.i64_in _ (by omega)
              have e2 : ((j : Int) - 1).toNat = k := by have := HKJ.out; omega
              have e3 : (1 : Int) ≤ (j : Int) := by have := HJ0.out; omega
              have e5 : ¬ ((l.length : Int) ≤ (j : Int) - 1) := by omega
              have e7 : (j : Int) - 1 < (l.length : Int) := by omega
              clear hbo d1 d2 d3
              clear hM2
              refine wp_region_seq (fun w' => Below wB.heap.size wB w') [(0, true), (1, true), (2, false), (3, true), (4, true), (5, true), (6, true), (7, false), (8, true), (9, true), (10, true), (11, true), (12, true), (13, true), (14, true), (15, true), (16, true), (17, true), (18, true), (19, true), (20, true), (21, true), (22, true), (23, true), (24, true), (25, true)] (by kernel_rfl) (by kernel_rfl) (fun _ _ _ _ _ h => h) (by kernel_rfl) (by decide) (Below.refl _ _).drew ?_
              intro hHeld
              repeat (first
                | (refine seq_skip (by simp only [List.getElem?_toArray, List.getElem?_cons_succ, List.getElem?_cons_zero]; first | done | rfl) (by rfl) ?_; (try simp only [Act.put, List.setIfInBounds_toArray, List.set_cons_zero, List.set_cons_succ]))
                | (refine seq_reads (by simp only [List.getElem?_toArray, List.getElem?_cons_succ, List.getElem?_cons_zero]; first | done | rfl) (by rfl) ?_; apply Exists.intro; apply And.intro; (focus (intro w hSw; obtain ⟨hcS, -⟩ := bcell hSw; go_simp; (try with_reducible rfl); done)); (try simp only [Act.put, List.setIfInBounds_toArray, List.set_cons_zero, List.set_cons_succ]))
                | (refine seq_pass (by simp only [List.getElem?_toArray, List.getElem?_cons_succ, List.getElem?_cons_zero]; first | done | rfl) (by rfl) hHeld ?_; clear hHeld; intro hHeld; (try simp only [Act.put, List.setIfInBounds_toArray, List.set_cons_zero, List.set_cons_succ]))
                | (refine seq_call (by simp only [List.getElem?_toArray, List.getElem?_cons_succ, List.getElem?_cons_zero]; first | done | rfl) (by rfl) (fun K hK => ?_); go_simp; go_at_call 59; refine (l6Client_is _ _ H1.out _).mono ?_; rintro r w1 ⟨rfl, b1⟩; go_simp; refine hK.out _ _ (next hHeld b1) ?_; clear hK hHeld; intro hHeld; (try simp only [Act.put, List.setIfInBounds_toArray, List.set_cons_zero, List.set_cons_succ]))
                | (refine seq_call (by simp only [List.getElem?_toArray, List.getElem?_cons_succ, List.getElem?_cons_zero]; first | done | rfl) (by rfl) (fun K hK => ?_); go_simp; go_at_call 12; refine (in_is _ _ _ _ H2.out _).mono ?_; rintro r w1 ⟨rfl, b1⟩; go_simp; refine hK.out _ _ (next hHeld b1) ?_; clear hK hHeld; intro hHeld; (try simp only [Act.put, List.setIfInBounds_toArray, List.set_cons_zero, List.set_cons_succ])))
              refine seq_end ?_
              clear e1 e2 e3 e5 e6 e7
              go_wp2
              go_roundw
              case rel => exact ⟨j + 1, by go_num, by omega, HT.out, next (next hb bA) hHeld⟩
              case measure => simp [intOf]; omega
    · have HE : Hid (M.bkOk (s.map Wr.wk) l = M.sfOk (s.map Wr.wk)) := Lib.hid (by rw [M.bkOk, M.lasTo_all hu (by omega)]; simp)
      clear hu
      obtain ⟨k0, k1⟩ := hK.two
      have zk := hK.1
      go_wp2_with fail
      refine (specShelfOk A s cap _ (HS.out.below hbw) hlen HP.out).mono ?_
      rintro r w1 ⟨rfl, b1⟩
      go_wp2
      go_ret
      exact ⟨ret_bool HE.out.symm, next hbw b1⟩
end Go.Proofs.YtdoeiphnalbinaaGreat
