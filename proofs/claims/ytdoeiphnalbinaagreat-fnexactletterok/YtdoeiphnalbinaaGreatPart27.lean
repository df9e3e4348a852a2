/- Proved, in parts: Proved: the model's WorkOk answers one plain Lean function at every work; it writes nothing that was there. Condition: texts of at most maxLen bytes, at most a million copies. -/
import Derived.Test.YtdoeiphnalbinaaGreatPart05
import Derived.Test.YtdoeiphnalbinaaGreatPart07
import Derived.Test.YtdoeiphnalbinaaGreatPart03
import Derived.IntWalk
namespace Go.Proofs.YtdoeiphnalbinaaGreat
open Go.RowKit
set_option maxRecDepth 20000

set_option maxHeartbeats 1000000 in
theorem l4Copy_any (c : M.Cp) (w : World) (hp : c.page.size ≤ maxLen) :
    Calls Tryz.prog 102 #[cpV c] w fun r w' => r = .returned (.bool (M.cpOk c)) ∧ Below w.heap.size w w' := by
  have b0 := (Below.refl w.heap.size w).alloc (Nat.le_refl _) (.cells (cpV c).cells 142)
  rcases h1 : M.edOk c.ed with _ | _
  · have HE : Hid (M.cpOk c = false) := Lib.hid (by simp [M.cpOk, h1])
    go_enter Tryz.func102, Tryz.ntmps102
    go_wp2_with fail
    refine (specEditionOk c.ed _).mono ?_
    rintro r w1 ⟨rfl, b1⟩
    go_wp2
    go_ret
    exact ⟨ret_bool HE.out.symm, next b0 b1⟩
  · have HE : Hid (M.cpOk c = M.pageOk c.page.data.toList) := Lib.hid (by simp [M.cpOk, h1])
    go_enter Tryz.func102, Tryz.ntmps102
    go_wp2_with fail
    refine (specEditionOk c.ed _).mono ?_
    rintro r w1 ⟨rfl, b1⟩
    obtain ⟨c1, f1⟩ := bcell b1
    go_wp2_with fail
    refine (specPageOk c.page _ hp).mono ?_
    rintro r w2 ⟨rfl, rfl⟩
    go_wp2
    go_ret
    exact ⟨ret_bool HE.out.symm, next b0 b1⟩


set_option maxHeartbeats 4000000 in
theorem specWorkOk (name : ByteArray) (owner : Int) (A : Option Addr) (l : List M.Cp) (cap : Nat) (w : World) (hl : Cps w A l) (hn : name.size ≤ maxLen) (hlen : l.length ≤ 1048576) (hp : ∀ c ∈ l, c.page.size ≤ maxLen) :
    Calls Tryz.prog 85 #[wkV name owner A l.length cap] w fun r w' => r = .returned (.bool (M.wkOk ⟨name, owner, l⟩)) ∧ Below w.heap.size w w' := by
  go_enter Tryz.func85, Tryz.ntmps85
  go_wp2
  go_loopw [3] (fun i wr => ∃ j : Nat, i = .int .i64 j ∧ j ≤ l.length ∧ M.upTo l j ∧ Below (w.alloc (.cells (wkL name owner A l.length cap) 106)).heap.size (w.alloc (.cells (wkL name owner A l.length cap) 106)) wr) (fun i _ => l.length - (intOf i).toNat)
  case atStart => exact ⟨0, rfl, Nat.zero_le _, M.upTo_zero l, Below.refl _ _⟩
  case round =>
    obtain ⟨j, rfl, hj, hu, hb⟩ := hrel
    by_cases hlt : j < l.length
    · rcases hc : M.cpOk l[j] with _ | _
      · have HE : Hid (M.wkOk ⟨name, owner, l⟩ = false) := Lib.hid (by simp [M.wkOk, M.cpsOk_not_copy hlt hc])
        have hpj := hp l[j] (List.getElem_mem (by omega))
        obtain ⟨b, o, rfl, -, c0, c1, c2, c3, c4⟩ := Cps_at (i := j) (hl.alloc _ |>.below hb) (by omega)
        have bx : wr.cell? ⟨w.heap.size, 2, none⟩ = some (.slice (some ⟨b, o, none⟩) l.length cap) := box_cells hb 2
        have HL := Lib.hid hl
        have HU := Lib.hid hu
        clear hl hu

        go_wp2_with fail
        refine wp_region_seq (fun w' => Below (w.alloc (.cells (wkL name owner (some ⟨b, o, none⟩) l.length cap) 106)).heap.size (w.alloc (.cells (wkL name owner (some ⟨b, o, none⟩) l.length cap) 106)) w' ∧ w'.cell? ⟨w.heap.size, 2, none⟩ = some (.slice (some ⟨b, o, none⟩) l.length cap) ∧ w'.cell? ⟨b, o + j * 5, none⟩ = some (.int .i64 l[j].ed.ma) ∧ w'.cell? ⟨b, o + j * 5 + 1, none⟩ = some (.int .i64 l[j].ed.mi) ∧ w'.cell? ⟨b, o + j * 5 + 2, none⟩ = some (.int .i64 l[j].ed.pa) ∧ w'.cell? ⟨b, o + j * 5 + 3, none⟩ = some (.string l[j].page) ∧ w'.cell? ⟨b, o + j * 5 + 4, none⟩ = some (.bool l[j].hidden)) [(0, true), (1, true), (2, true), (3, true), (4, true), (5, false), (6, true), (7, true), (8, true), (9, true), (10, true), (11, true), (12, true), (13, true), (14, true), (15, true), (16, true), (17, true), (18, true), (19, true), (20, true), (21, true), (22, true), (23, true), (24, false), (25, true), (26, true), (27, true)] (by kernel_rfl) (by kernel_rfl) (fun _ _ _ _ _ h => h) (by kernel_rfl) (by decide) ?_ ?_
        · ((try dsimp only); (repeat' apply And.intro) <;> first | assumption | (exact Below.drew (by assumption)) | (simp [go_sem]; done))
        intro hHeld
        repeat (first
          | (refine seq_skip (by simp only [List.getElem?_toArray, List.getElem?_cons_succ, List.getElem?_cons_zero]; first | done | rfl) (by rfl) ?_; (try simp only [Act.put, List.setIfInBounds_toArray, List.set_cons_zero, List.set_cons_succ]))
          | (refine seq_reads (by simp only [List.getElem?_toArray, List.getElem?_cons_succ, List.getElem?_cons_zero]; first | done | rfl) (by rfl) ?_; apply Exists.intro; apply And.intro; (focus (intro w hSw; (try dsimp only at hSw); go_split_ands; go_simp; (try with_reducible rfl); done)); (try simp only [Act.put, List.setIfInBounds_toArray, List.set_cons_zero, List.set_cons_succ]))
          | (refine seq_pass (by simp only [List.getElem?_toArray, List.getElem?_cons_succ, List.getElem?_cons_zero]; first | done | rfl) (by rfl) hHeld ?_; clear hHeld; intro hHeld; (try simp only [Act.put, List.setIfInBounds_toArray, List.set_cons_zero, List.set_cons_succ]))
          | (refine seq_call (by simp only [List.getElem?_toArray, List.getElem?_cons_succ, List.getElem?_cons_zero]; first | done | rfl) (by rfl) (fun K hK => ?_); go_simp; go_at_call 102; refine (keeps (l4Copy_any l[j] _ hpj) (W0 := (w.alloc (.cells (wkL name owner (some ⟨b, o, none⟩) l.length cap) 106))) hHeld.1).mono ?_; rintro r w1 ⟨rfl, b1, kp⟩; go_simp; refine hK.out _ _ ⟨b1, kp _ _ _ hHeld.2.1, kp _ _ _ hHeld.2.2.1, kp _ _ _ hHeld.2.2.2.1, kp _ _ _ hHeld.2.2.2.2.1, kp _ _ _ hHeld.2.2.2.2.2.1, kp _ _ _ hHeld.2.2.2.2.2.2⟩ ?_; clear hHeld kp b1 hK; intro hHeld; (try simp only [Act.put, List.setIfInBounds_toArray, List.set_cons_zero, List.set_cons_succ])))
        refine seq_end ?_
        go_split_ands
        go_wp2
        go_ret
        exact ⟨ret_bool HE.out.symm, next ((Below.refl _ _).alloc (Nat.le_refl _) _) (by assumption)⟩
      · rcases Nat.eq_zero_or_pos j with h0 | h0
        · have HN : Hid (M.upTo l (j + 1)) := Lib.hid (by subst h0; exact M.upTo_first hlt hc)
          have hpj := hp l[j] (List.getElem_mem (by omega))
          obtain ⟨b, o, rfl, -, c0, c1, c2, c3, c4⟩ := Cps_at (i := j) (hl.alloc _ |>.below hb) (by omega)
          have bx : wr.cell? ⟨w.heap.size, 2, none⟩ = some (.slice (some ⟨b, o, none⟩) l.length cap) := box_cells hb 2
          have HL := Lib.hid hl
          have HU := Lib.hid hu
          clear hl hu

          have e0 : decide (0 < j) = false := by simp; omega
          have H0 := Lib.hid h0
          clear h0
          go_wp2_with fail
          refine wp_region_seq (fun w' => Below (w.alloc (.cells (wkL name owner (some ⟨b, o, none⟩) l.length cap) 106)).heap.size (w.alloc (.cells (wkL name owner (some ⟨b, o, none⟩) l.length cap) 106)) w' ∧ w'.cell? ⟨w.heap.size, 2, none⟩ = some (.slice (some ⟨b, o, none⟩) l.length cap) ∧ w'.cell? ⟨b, o + j * 5, none⟩ = some (.int .i64 l[j].ed.ma) ∧ w'.cell? ⟨b, o + j * 5 + 1, none⟩ = some (.int .i64 l[j].ed.mi) ∧ w'.cell? ⟨b, o + j * 5 + 2, none⟩ = some (.int .i64 l[j].ed.pa) ∧ w'.cell? ⟨b, o + j * 5 + 3, none⟩ = some (.string l[j].page) ∧ w'.cell? ⟨b, o + j * 5 + 4, none⟩ = some (.bool l[j].hidden)) [(0, true), (1, true), (2, true), (3, true), (4, true), (5, false), (6, true), (7, true), (8, true), (9, true), (10, true), (11, true), (12, true), (13, true), (14, true), (15, true), (16, true), (17, true), (18, true), (19, true), (20, true), (21, true), (22, true), (23, true), (24, false), (25, true), (26, true), (27, true)] (by kernel_rfl) (by kernel_rfl) (fun _ _ _ _ _ h => h) (by kernel_rfl) (by decide) ?_ ?_
          · ((try dsimp only); (repeat' apply And.intro) <;> first | assumption | (exact Below.drew (by assumption)) | (simp [go_sem]; done))
          intro hHeld
          repeat (first
            | (refine seq_skip (by simp only [List.getElem?_toArray, List.getElem?_cons_succ, List.getElem?_cons_zero]; first | done | rfl) (by rfl) ?_; (try simp only [Act.put, List.setIfInBounds_toArray, List.set_cons_zero, List.set_cons_succ]))
            | (refine seq_reads (by simp only [List.getElem?_toArray, List.getElem?_cons_succ, List.getElem?_cons_zero]; first | done | rfl) (by rfl) ?_; apply Exists.intro; apply And.intro; (focus (intro w hSw; (try dsimp only at hSw); go_split_ands; go_simp; (try with_reducible rfl); done)); (try simp only [Act.put, List.setIfInBounds_toArray, List.set_cons_zero, List.set_cons_succ]))
            | (refine seq_pass (by simp only [List.getElem?_toArray, List.getElem?_cons_succ, List.getElem?_cons_zero]; first | done | rfl) (by rfl) hHeld ?_; clear hHeld; intro hHeld; (try simp only [Act.put, List.setIfInBounds_toArray, List.set_cons_zero, List.set_cons_succ]))
            | (refine seq_call (by simp only [List.getElem?_toArray, List.getElem?_cons_succ, List.getElem?_cons_zero]; first | done | rfl) (by rfl) (fun K hK => ?_); go_simp; go_at_call 102; refine (keeps (l4Copy_any l[j] _ hpj) (W0 := (w.alloc (.cells (wkL name owner (some ⟨b, o, none⟩) l.length cap) 106))) hHeld.1).mono ?_; rintro r w1 ⟨rfl, b1, kp⟩; go_simp; refine hK.out _ _ ⟨b1, kp _ _ _ hHeld.2.1, kp _ _ _ hHeld.2.2.1, kp _ _ _ hHeld.2.2.2.1, kp _ _ _ hHeld.2.2.2.2.1, kp _ _ _ hHeld.2.2.2.2.2.1, kp _ _ _ hHeld.2.2.2.2.2.2⟩ ?_; clear hHeld kp b1 hK; intro hHeld; (try simp only [Act.put, List.setIfInBounds_toArray, List.set_cons_zero, List.set_cons_succ])))
          refine seq_end ?_
          go_split_ands
          go_wp2
          go_roundw
          case rel => exact ⟨j + 1, by go_num, by omega, HN.out, by assumption⟩
          case measure => simp [intOf]; omega
        · obtain ⟨k, hk⟩ : ∃ k, j = k + 1 := ⟨j - 1, by omega⟩
          have hkl : k < l.length := by omega
          rcases hol : M.older l[k].ed l[j].ed with _ | _
          · have HE : Hid (M.wkOk ⟨name, owner, l⟩ = false) := Lib.hid (by subst hk; simp [M.wkOk, M.cpsOk_not_older hlt hol])
            have hpj := hp l[j] (List.getElem_mem (by omega))
            obtain ⟨b, o, rfl, -, c0, c1, c2, c3, c4⟩ := Cps_at (i := j) (hl.alloc _ |>.below hb) (by omega)
            obtain ⟨b', o', hbo, -, d0, d1, d2, d3, d4⟩ := Cps_at (i := k) (hl.alloc _ |>.below hb) (by omega)
            obtain ⟨rfl, rfl⟩ : b = b' ∧ o = o' := by simpa using hbo
            clear hbo d3 d4
            have bx : wr.cell? ⟨w.heap.size, 2, none⟩ = some (.slice (some ⟨b, o, none⟩) l.length cap) := box_cells hb 2
            have HL := Lib.hid hl
            have HU := Lib.hid hu
            clear hl hu
            have e0 : decide ((0 : Int) < (j : Int)) = true := by simp; omega
            have e1 : IntKind.i64.wrap ((j : Int) - 1) = (j : Int) - 1 := IntWalk.i64_in _ (by omega)
            have e2 : ((j : Int) - 1).toNat = k := by omega
            have e3 : (1 : Int) ≤ (j : Int) := by omega
            have e5 : ¬ ((l.length : Int) ≤ (j : Int) - 1) := by omega
            have e4 : k < l.length := by omega
            have HK := Lib.hid hk
            clear hk
            go_wp2_with fail
            refine wp_region_seq (fun w' => Below (w.alloc (.cells (wkL name owner (some ⟨b, o, none⟩) l.length cap) 106)).heap.size (w.alloc (.cells (wkL name owner (some ⟨b, o, none⟩) l.length cap) 106)) w' ∧ w'.cell? ⟨w.heap.size, 2, none⟩ = some (.slice (some ⟨b, o, none⟩) l.length cap) ∧ w'.cell? ⟨b, o + j * 5, none⟩ = some (.int .i64 l[j].ed.ma) ∧ w'.cell? ⟨b, o + j * 5 + 1, none⟩ = some (.int .i64 l[j].ed.mi) ∧ w'.cell? ⟨b, o + j * 5 + 2, none⟩ = some (.int .i64 l[j].ed.pa) ∧ w'.cell? ⟨b, o + j * 5 + 3, none⟩ = some (.string l[j].page) ∧ w'.cell? ⟨b, o + j * 5 + 4, none⟩ = some (.bool l[j].hidden) ∧ w'.cell? ⟨b, o + k * 5, none⟩ = some (.int .i64 l[k].ed.ma) ∧ w'.cell? ⟨b, o + k * 5 + 1, none⟩ = some (.int .i64 l[k].ed.mi) ∧ w'.cell? ⟨b, o + k * 5 + 2, none⟩ = some (.int .i64 l[k].ed.pa)) [(0, true), (1, true), (2, true), (3, true), (4, true), (5, false), (6, true), (7, true), (8, true), (9, true), (10, true), (11, true), (12, true), (13, true), (14, true), (15, true), (16, true), (17, true), (18, true), (19, true), (20, true), (21, true), (22, true), (23, true), (24, false), (25, true), (26, true), (27, true)] (by kernel_rfl) (by kernel_rfl) (fun _ _ _ _ _ h => h) (by kernel_rfl) (by decide) ?_ ?_
            · ((try dsimp only); (repeat' apply And.intro) <;> first | assumption | (exact Below.drew (by assumption)) | (simp [go_sem]; done))
            intro hHeld
            repeat (first
              | (refine seq_skip (by simp only [List.getElem?_toArray, List.getElem?_cons_succ, List.getElem?_cons_zero]; first | done | rfl) (by rfl) ?_; (try simp only [Act.put, List.setIfInBounds_toArray, List.set_cons_zero, List.set_cons_succ]))
              | (refine seq_reads (by simp only [List.getElem?_toArray, List.getElem?_cons_succ, List.getElem?_cons_zero]; first | done | rfl) (by rfl) ?_; apply Exists.intro; apply And.intro; (focus (intro w hSw; (try dsimp only at hSw); go_split_ands; go_simp; (try with_reducible rfl); done)); (try simp only [Act.put, List.setIfInBounds_toArray, List.set_cons_zero, List.set_cons_succ]))
              | (refine seq_pass (by simp only [List.getElem?_toArray, List.getElem?_cons_succ, List.getElem?_cons_zero]; first | done | rfl) (by rfl) hHeld ?_; clear hHeld; intro hHeld; (try simp only [Act.put, List.setIfInBounds_toArray, List.set_cons_zero, List.set_cons_succ]))
              | (refine seq_call (by simp only [List.getElem?_toArray, List.getElem?_cons_succ, List.getElem?_cons_zero]; first | done | rfl) (by rfl) (fun K hK => ?_); go_simp; go_at_call 102; refine (keeps (l4Copy_any l[j] _ hpj) (W0 := (w.alloc (.cells (wkL name owner (some ⟨b, o, none⟩) l.length cap) 106))) hHeld.1).mono ?_; rintro r w1 ⟨rfl, b1, kp⟩; go_simp; refine hK.out _ _ ⟨b1, kp _ _ _ hHeld.2.1, kp _ _ _ hHeld.2.2.1, kp _ _ _ hHeld.2.2.2.1, kp _ _ _ hHeld.2.2.2.2.1, kp _ _ _ hHeld.2.2.2.2.2.1, kp _ _ _ hHeld.2.2.2.2.2.2.1, kp _ _ _ hHeld.2.2.2.2.2.2.2.1, kp _ _ _ hHeld.2.2.2.2.2.2.2.2.1, kp _ _ _ hHeld.2.2.2.2.2.2.2.2.2⟩ ?_; clear hHeld kp b1 hK; intro hHeld; (try simp only [Act.put, List.setIfInBounds_toArray, List.set_cons_zero, List.set_cons_succ]))
              | (refine seq_call (by simp only [List.getElem?_toArray, List.getElem?_cons_succ, List.getElem?_cons_zero]; first | done | rfl) (by rfl) (fun K hK => ?_); go_simp; go_at_call 103; refine (keeps (specOlder l[k].ed l[j].ed _) (W0 := (w.alloc (.cells (wkL name owner (some ⟨b, o, none⟩) l.length cap) 106))) hHeld.1).mono ?_; rintro r w1 ⟨rfl, b1, kp⟩; go_simp; refine hK.out _ _ ⟨b1, kp _ _ _ hHeld.2.1, kp _ _ _ hHeld.2.2.1, kp _ _ _ hHeld.2.2.2.1, kp _ _ _ hHeld.2.2.2.2.1, kp _ _ _ hHeld.2.2.2.2.2.1, kp _ _ _ hHeld.2.2.2.2.2.2.1, kp _ _ _ hHeld.2.2.2.2.2.2.2.1, kp _ _ _ hHeld.2.2.2.2.2.2.2.2.1, kp _ _ _ hHeld.2.2.2.2.2.2.2.2.2⟩ ?_; clear hHeld kp b1 hK; intro hHeld; (try simp only [Act.put, List.setIfInBounds_toArray, List.set_cons_zero, List.set_cons_succ])))
            refine seq_end ?_
            go_split_ands
            go_wp2
            go_ret
            exact ⟨ret_bool HE.out.symm, next ((Below.refl _ _).alloc (Nat.le_refl _) _) (by assumption)⟩
          · have HN : Hid (M.upTo l (j + 1)) := Lib.hid (by subst hk; exact M.upTo_next hu hlt hc hol)
            have hpj := hp l[j] (List.getElem_mem (by omega))
            obtain ⟨b, o, rfl, -, c0, c1, c2, c3, c4⟩ := Cps_at (i := j) (hl.alloc _ |>.below hb) (by omega)
            obtain ⟨b', o', hbo, -, d0, d1, d2, d3, d4⟩ := Cps_at (i := k) (hl.alloc _ |>.below hb) (by omega)
            obtain ⟨rfl, rfl⟩ : b = b' ∧ o = o' := by simpa using hbo
            clear hbo d3 d4
            have bx : wr.cell? ⟨w.heap.size, 2, none⟩ = some (.slice (some ⟨b, o, none⟩) l.length cap) := box_cells hb 2
            have HL := Lib.hid hl
            have HU := Lib.hid hu
            clear hl hu
            have e0 : decide ((0 : Int) < (j : Int)) = true := by simp; omega
            have e1 : IntKind.i64.wrap ((j : Int) - 1) = (j : Int) - 1 := IntWalk.i64_in _ (by omega)
            have e2 : ((j : Int) - 1).toNat = k := by omega
            have e3 : (1 : Int) ≤ (j : Int) := by omega
            have e5 : ¬ ((l.length : Int) ≤ (j : Int) - 1) := by omega
            have e4 : k < l.length := by omega
            have HK := Lib.hid hk
            clear hk
            go_wp2_with fail
            refine wp_region_seq (fun w' => Below (w.alloc (.cells (wkL name owner (some ⟨b, o, none⟩) l.length cap) 106)).heap.size (w.alloc (.cells (wkL name owner (some ⟨b, o, none⟩) l.length cap) 106)) w' ∧ w'.cell? ⟨w.heap.size, 2, none⟩ = some (.slice (some ⟨b, o, none⟩) l.length cap) ∧ w'.cell? ⟨b, o + j * 5, none⟩ = some (.int .i64 l[j].ed.ma) ∧ w'.cell? ⟨b, o + j * 5 + 1, none⟩ = some (.int .i64 l[j].ed.mi) ∧ w'.cell? ⟨b, o + j * 5 + 2, none⟩ = some (.int .i64 l[j].ed.pa) ∧ w'.cell? ⟨b, o + j * 5 + 3, none⟩ = some (.string l[j].page) ∧ w'.cell? ⟨b, o + j * 5 + 4, none⟩ = some (.bool l[j].hidden) ∧ w'.cell? ⟨b, o + k * 5, none⟩ = some (.int .i64 l[k].ed.ma) ∧ w'.cell? ⟨b, o + k * 5 + 1, none⟩ = some (.int .i64 l[k].ed.mi) ∧ w'.cell? ⟨b, o + k * 5 + 2, none⟩ = some (.int .i64 l[k].ed.pa)) [(0, true), (1, true), (2, true), (3, true), (4, true), (5, false), (6, true), (7, true), (8, true), (9, true), (10, true), (11, true), (12, true), (13, true), (14, true), (15, true), (16, true), (17, true), (18, true), (19, true), (20, true), (21, true), (22, true), (23, true), (24, false), (25, true), (26, true), (27, true)] (by kernel_rfl) (by kernel_rfl) (fun _ _ _ _ _ h => h) (by kernel_rfl) (by decide) ?_ ?_
            · ((try dsimp only); (repeat' apply And.intro) <;> first | assumption | (exact Below.drew (by assumption)) | (simp [go_sem]; done))
            intro hHeld
            repeat (first
              | (refine seq_skip (by simp only [List.getElem?_toArray, List.getElem?_cons_succ, List.getElem?_cons_zero]; first | done | rfl) (by rfl) ?_; (try simp only [Act.put, List.setIfInBounds_toArray, List.set_cons_zero, List.set_cons_succ]))
              | (refine seq_reads (by simp only [List.getElem?_toArray, List.getElem?_cons_succ, List.getElem?_cons_zero]; first | done | rfl) (by rfl) ?_; apply Exists.intro; apply And.intro; (focus (intro w hSw; (try dsimp only at hSw); go_split_ands; go_simp; (try with_reducible rfl); done)); (try simp only [Act.put, List.setIfInBounds_toArray, List.set_cons_zero, List.set_cons_succ]))
              | (refine seq_pass (by simp only [List.getElem?_toArray, List.getElem?_cons_succ, List.getElem?_cons_zero]; first | done | rfl) (by rfl) hHeld ?_; clear hHeld; intro hHeld; (try simp only [Act.put, List.setIfInBounds_toArray, List.set_cons_zero, List.set_cons_succ]))
              | (refine seq_call (by simp only [List.getElem?_toArray, List.getElem?_cons_succ, List.getElem?_cons_zero]; first | done | rfl) (by rfl) (fun K hK => ?_); go_simp; go_at_call 102; refine (keeps (l4Copy_any l[j] _ hpj) (W0 := (w.alloc (.cells (wkL name owner (some ⟨b, o, none⟩) l.length cap) 106))) hHeld.1).mono ?_; rintro r w1 ⟨rfl, b1, kp⟩; go_simp; refine hK.out _ _ ⟨b1, kp _ _ _ hHeld.2.1, kp _ _ _ hHeld.2.2.1, kp _ _ _ hHeld.2.2.2.1, kp _ _ _ hHeld.2.2.2.2.1, kp _ _ _ hHeld.2.2.2.2.2.1, kp _ _ _ hHeld.2.2.2.2.2.2.1, kp _ _ _ hHeld.2.2.2.2.2.2.2.1, kp _ _ _ hHeld.2.2.2.2.2.2.2.2.1, kp _ _ _ hHeld.2.2.2.2.2.2.2.2.2⟩ ?_; clear hHeld kp b1 hK; intro hHeld; (try simp only [Act.put, List.setIfInBounds_toArray, List.set_cons_zero, List.set_cons_succ]))
              | (refine seq_call (by simp only [List.getElem?_toArray, List.getElem?_cons_succ, List.getElem?_cons_zero]; first | done | rfl) (by rfl) (fun K hK => ?_); go_simp; go_at_call 103; refine (keeps (specOlder l[k].ed l[j].ed _) (W0 := (w.alloc (.cells (wkL name owner (some ⟨b, o, none⟩) l.length cap) 106))) hHeld.1).mono ?_; rintro r w1 ⟨rfl, b1, kp⟩; go_simp; refine hK.out _ _ ⟨b1, kp _ _ _ hHeld.2.1, kp _ _ _ hHeld.2.2.1, kp _ _ _ hHeld.2.2.2.1, kp _ _ _ hHeld.2.2.2.2.1, kp _ _ _ hHeld.2.2.2.2.2.1, kp _ _ _ hHeld.2.2.2.2.2.2.1, kp _ _ _ hHeld.2.2.2.2.2.2.2.1, kp _ _ _ hHeld.2.2.2.2.2.2.2.2.1, kp _ _ _ hHeld.2.2.2.2.2.2.2.2.2⟩ ?_; clear hHeld kp b1 hK; intro hHeld; (try simp only [Act.put, List.setIfInBounds_toArray, List.set_cons_zero, List.set_cons_succ])))
            refine seq_end ?_
            go_split_ands
            go_wp2
            go_roundw
            case rel => exact ⟨j + 1, by go_num, by omega, HN.out, by assumption⟩
            case measure => simp [intOf]; omega
    · have hj' : j = l.length := by omega
      subst hj'
      have hk := M.upTo_all l hu
      have b0 := next ((Below.refl w.heap.size w).alloc (Nat.le_refl _) _) hb
      have x0 : wr.cell? ⟨w.heap.size, 0, none⟩ = some (.string name) := box_cells hb 0
      have x1 : wr.cell? ⟨w.heap.size, 1, none⟩ = some (.int .i64 owner) := box_cells hb 1
      have x2 : wr.cell? ⟨w.heap.size, 2, none⟩ = some (.slice A l.length cap) := box_cells hb 2
      have HL := Lib.hid hl
      clear hl hu
      rcases h1 : M.nameOk name.data.toList with _ | _
      · have HE : Hid (M.wkOk ⟨name, owner, l⟩ = false) := Lib.hid (by simp [M.wkOk, h1])
        clear hk
        go_wp2_with fail
        refine (specNameOk name _ hn).mono ?_
        rintro r w1 ⟨rfl, rfl⟩
        go_wp2
        go_ret
        exact ⟨ret_bool HE.out.symm, b0⟩
      · rcases h2 : M.inI owner 0 3 with _ | _
        · have HE : Hid (M.wkOk ⟨name, owner, l⟩ = false) := Lib.hid (by simp [M.wkOk, h2])
          clear hk
          go_wp2_with fail
          refine (specNameOk name _ hn).mono ?_
          rintro r w1 ⟨rfl, rfl⟩
          go_wp2_with fail
          refine (l3Who_any owner _).mono ?_
          rintro r w1 ⟨rfl, rfl⟩
          go_wp2
          go_ret
          exact ⟨ret_bool HE.out.symm, b0⟩
        · have HE : Hid (M.wkOk ⟨name, owner, l⟩ = decide (l.length ≤ 8)) := Lib.hid (by simp [M.wkOk, h1, h2, hk])
          clear hk
          go_wp2_with fail
          refine (specNameOk name _ hn).mono ?_
          rintro r w1 ⟨rfl, rfl⟩
          go_wp2_with fail
          refine (l3Who_any owner _).mono ?_
          rintro r w1 ⟨rfl, rfl⟩
          go_wp2
          go_ret
          exact ⟨ret_bool (by rw [HE.out]; simp; omega), b0⟩

end Go.Proofs.YtdoeiphnalbinaaGreat
