/- Proved, in parts: Proved: the model's WorkOk answers one plain Lean function at every work; it writes nothing that was there. Condition: texts of at most maxLen bytes, at most a million copies. Proved: plain facts on works: the place of an edition among copies that rise; no program is named here; no condition. Proved: the language's own test whether two editions are alike is whether they are the same three numbers; no condition. -/
import Derived.Test.YtblcgbgcccjpcaaGreatPart03
import Derived.Test.YtblcgbgcccjpcaaGreatPart05
import Derived.Test.YtblcgbgcccjpcaaGreatPart02
import Derived.IntWalk
import Derived.Calls
import Derived.KernelRfl
namespace Go.Proofs.YtblcgbgcccjpcaaGreat
open Go.RowKit
set_option maxRecDepth 20000

set_option maxHeartbeats 1000000 in
theorem l4Copy_any (c : M.Cp) (w : World) (hp : c.page.size ≤ maxLen) :
    Calls Tryz.prog 120 #[cpV c] w fun r w' => r = .returned (.bool (M.cpOk c)) ∧ Below w.heap.size w w' := by
  have b0 := (Below.refl w.heap.size w).alloc (Nat.le_refl _) (.cells (cpV c).cells 48)
  rcases h1 : M.edOk c.ed with _ | _
  · have HE : Hid (M.cpOk c = false) := Lib.hid (by simp [M.cpOk, h1])
    go_enter Tryz.func120, Tryz.ntmps120
    go_wp2_with fail
    refine (specEditionOk c.ed _).mono ?_
    rintro r w1 ⟨rfl, b1⟩
    go_wp2
    go_ret
    exact ⟨ret_bool HE.out.symm, next b0 b1⟩
  · have HE : Hid (M.cpOk c = M.pageOk c.page.data.toList) := Lib.hid (by simp [M.cpOk, h1])
    go_enter Tryz.func120, Tryz.ntmps120
    go_wp2_with fail
    refine (specEditionOk c.ed _).mono ?_
    rintro r w1 ⟨rfl, b1⟩
    obtain ⟨c1, f1⟩ := bcell b1
    go_wp2_with fail
    refine (specPageOk c.page _ hp).mono ?_
    rintro r w2 ⟨rfl, rfl⟩
    go_wp2
    go_ret
    exact ⟨ret_bool HE.out.symm, next b0 b1⟩


set_option maxHeartbeats 4000000 in
theorem specWorkOk (name : ByteArray) (owner : Int) (A : Option Addr) (l : List M.Cp) (cap : Nat) (w : World) (hl : Cps w A l) (hn : name.size ≤ maxLen) (hlen : l.length ≤ 1048576) (hp : ∀ c ∈ l, c.page.size ≤ maxLen) :
    Calls Tryz.prog 68 #[wkV name owner A l.length cap] w fun r w' => r = .returned (.bool (M.wkOk ⟨name, owner, l⟩)) ∧ Below w.heap.size w w' := by
  go_enter Tryz.func68, Tryz.ntmps68
  go_wp2
  go_loopw [3] (fun i wr => ∃ j : Nat, i = .int .i64 j ∧ j ≤ l.length ∧ M.upTo l j ∧ Below (w.alloc (.cells (wkL name owner A l.length cap) 44)).heap.size (w.alloc (.cells (wkL name owner A l.length cap) 44)) wr) (fun i _ => l.length - (intOf i).toNat)
  case atStart => exact ⟨0, rfl, Nat.zero_le _, M.upTo_zero l, Below.refl _ _⟩
  case round =>
    obtain ⟨j, rfl, hj, hu, hb⟩ := hrel
    by_cases hlt : j < l.length
    · rcases hc : M.cpOk l[j] with _ | _
      · have HE : Hid (M.wkOk ⟨name, owner, l⟩ = false) := Lib.hid (by simp [M.wkOk, M.cpsOk_not_copy hlt hc])
        have hpj := hp l[j] (List.getElem_mem (by omega))
        obtain ⟨b, o, rfl, -, c0, c1, c2, c3, c4⟩ := Cps_at (i := j) (hl.alloc _ |>.below hb) (by omega)
        have bx : wr.cell? ⟨w.heap.size, 2, none⟩ = some (.slice (some ⟨b, o, none⟩) l.length cap) := box_cells hb 2
        have HL := Lib.hid hl
        have HU := Lib.hid hu
        clear hl hu

        go_wp2_with fail
        refine wp_region_seq (fun w' => Below (w.alloc (.cells (wkL name owner (some ⟨b, o, none⟩) l.length cap) 44)).heap.size (w.alloc (.cells (wkL name owner (some ⟨b, o, none⟩) l.length cap) 44)) w' ∧ w'.cell? ⟨w.heap.size, 2, none⟩ = some (.slice (some ⟨b, o, none⟩) l.length cap) ∧ w'.cell? ⟨b, o + j * 5, none⟩ = some (.int .i64 l[j].ed.ma) ∧ w'.cell? ⟨b, o + j * 5 + 1, none⟩ = some (.int .i64 l[j].ed.mi) ∧ w'.cell? ⟨b, o + j * 5 + 2, none⟩ = some (.int .i64 l[j].ed.pa) ∧ w'.cell? ⟨b, o + j * 5 + 3, none⟩ = some (.string l[j].page) ∧ w'.cell? ⟨b, o + j * 5 + 4, none⟩ = some (.bool l[j].hidden)) [(0, true), (1, true), (2, true), (3, true), (4, true), (5, false), (6, true), (7, true), (8, true), (9, true), (10, true), (11, true), (12, true), (13, true), (14, true), (15, true), (16, true), (17, true), (18, true), (19, true), (20, true), (21, true), (22, true), (23, true), (24, false), (25, true), (26, true), (27, true)] (by kernel_rfl) (by kernel_rfl) (fun _ _ _ _ _ h => h) (by kernel_rfl) (by decide) ?_ ?_
        · ((try dsimp only); (repeat' apply And.intro) <;> first | assumption | (exact Below.drew (by assumption)) | (simp [go_sem]; done))
        intro hHeld
        repeat (first
          | (refine seq_skip (by simp only [List.getElem?_toArray, List.getElem?_cons_succ, List.getElem?_cons_zero]; first | done | rfl) (by rfl) ?_; (try simp only [Act.put, List.setIfInBounds_toArray, List.set_cons_zero, List.set_cons_succ]))
          | (refine seq_reads (by simp only [List.getElem?_toArray, List.getElem?_cons_succ, List.getElem?_cons_zero]; first | done | rfl) (by rfl) ?_; apply Exists.intro; apply And.intro; (focus (intro w hSw; (try dsimp only at hSw); go_split_ands; go_simp; (try with_reducible rfl); done)); (try simp only [Act.put, List.setIfInBounds_toArray, List.set_cons_zero, List.set_cons_succ]))
          | (refine seq_pass (by simp only [List.getElem?_toArray, List.getElem?_cons_succ, List.getElem?_cons_zero]; first | done | rfl) (by rfl) hHeld ?_; clear hHeld; intro hHeld; (try simp only [Act.put, List.setIfInBounds_toArray, List.set_cons_zero, List.set_cons_succ]))
          | (refine seq_call (by simp only [List.getElem?_toArray, List.getElem?_cons_succ, List.getElem?_cons_zero]; first | done | rfl) (by rfl) (fun K hK => ?_); go_simp; go_at_call 120; refine (keeps (l4Copy_any l[j] _ hpj) (W0 := (w.alloc (.cells (wkL name owner (some ⟨b, o, none⟩) l.length cap) 44))) hHeld.1).mono ?_; rintro r w1 ⟨rfl, b1, kp⟩; go_simp; refine hK.out _ _ ⟨b1, kp _ _ _ hHeld.2.1, kp _ _ _ hHeld.2.2.1, kp _ _ _ hHeld.2.2.2.1, kp _ _ _ hHeld.2.2.2.2.1, kp _ _ _ hHeld.2.2.2.2.2.1, kp _ _ _ hHeld.2.2.2.2.2.2⟩ ?_; clear hHeld kp b1 hK; intro hHeld; (try simp only [Act.put, List.setIfInBounds_toArray, List.set_cons_zero, List.set_cons_succ])))
        refine seq_end ?_
        go_split_ands
        go_wp2
        go_ret
        exact ⟨ret_bool HE.out.symm, next ((Below.refl _ _).alloc (Nat.le_refl _) _) (by assumption)⟩
      · rcases Nat.eq_zero_or_pos j with h0 | h0
        · have HN : Hid (M.upTo l (j + 1)) := Lib.hid (by subst h0; exact M.upTo_first hlt hc)
          have hpj := hp l[j] (List.getElem_mem (by omega))
          obtain ⟨b, o, rfl, -, c0, c1, c2, c3, c4⟩ := Cps_at (i := j) (hl.alloc _ |>.below hb) (by omega)
          have bx : wr.cell? ⟨w.heap.size, 2, none⟩ = some (.slice (some ⟨b, o, none⟩) l.length cap) := box_cells hb 2
          have HL := Lib.hid hl
          have HU := Lib.hid hu
          clear hl hu

          have e0 : decide (0 < j) = false := by simp; omega
          have H0 := Lib.hid h0
          clear h0
          go_wp2_with fail
          refine wp_region_seq (fun w' => Below (w.alloc (.cells (wkL name owner (some ⟨b, o, none⟩) l.length cap) 44)).heap.size (w.alloc (.cells (wkL name owner (some ⟨b, o, none⟩) l.length cap) 44)) w' ∧ w'.cell? ⟨w.heap.size, 2, none⟩ = some (.slice (some ⟨b, o, none⟩) l.length cap) ∧ w'.cell? ⟨b, o + j * 5, none⟩ = some (.int .i64 l[j].ed.ma) ∧ w'.cell? ⟨b, o + j * 5 + 1, none⟩ = some (.int .i64 l[j].ed.mi) ∧ w'.cell? ⟨b, o + j * 5 + 2, none⟩ = some (.int .i64 l[j].ed.pa) ∧ w'.cell? ⟨b, o + j * 5 + 3, none⟩ = some (.string l[j].page) ∧ w'.cell? ⟨b, o + j * 5 + 4, none⟩ = some (.bool l[j].hidden)) [(0, true), (1, true), (2, true), (3, true), (4, true), (5, false), (6, true), (7, true), (8, true), (9, true), (10, true), (11, true), (12, true), (13, true), (14, true), (15, true), (16, true), (17, true), (18, true), (19, true), (20, true), (21, true), (22, true), (23, true), (24, false), (25, true), (26, true), (27, true)] (by kernel_rfl) (by kernel_rfl) (fun _ _ _ _ _ h => h) (by kernel_rfl) (by decide) ?_ ?_
          · ((try dsimp only); (repeat' apply And.intro) <;> first | assumption | (exact Below.drew (by assumption)) | (simp [go_sem]; done))
          intro hHeld
          repeat (first
            | (refine seq_skip (by simp only [List.getElem?_toArray, List.getElem?_cons_succ, List.getElem?_cons_zero]; first | done | rfl) (by rfl) ?_; (try simp only [Act.put, List.setIfInBounds_toArray, List.set_cons_zero, List.set_cons_succ]))
            | (refine seq_reads (by simp only [List.getElem?_toArray, List.getElem?_cons_succ, List.getElem?_cons_zero]; first | done | rfl) (by rfl) ?_; apply Exists.intro; apply And.intro; (focus (intro w hSw; (try dsimp only at hSw); go_split_ands; go_simp; (try with_reducible rfl); done)); (try simp only [Act.put, List.setIfInBounds_toArray, List.set_cons_zero, List.set_cons_succ]))
            | (refine seq_pass (by simp only [List.getElem?_toArray, List.getElem?_cons_succ, List.getElem?_cons_zero]; first | done | rfl) (by rfl) hHeld ?_; clear hHeld; intro hHeld; (try simp only [Act.put, List.setIfInBounds_toArray, List.set_cons_zero, List.set_cons_succ]))
            | (refine seq_call (by simp only [List.getElem?_toArray, List.getElem?_cons_succ, List.getElem?_cons_zero]; first | done | rfl) (by rfl) (fun K hK => ?_); go_simp; go_at_call 120; refine (keeps (l4Copy_any l[j] _ hpj) (W0 := (w.alloc (.cells (wkL name owner (some ⟨b, o, none⟩) l.length cap) 44))) hHeld.1).mono ?_; rintro r w1 ⟨rfl, b1, kp⟩; go_simp; refine hK.out _ _ ⟨b1, kp _ _ _ hHeld.2.1, kp _ _ _ hHeld.2.2.1, kp _ _ _ hHeld.2.2.2.1, kp _ _ _ hHeld.2.2.2.2.1, kp _ _ _ hHeld.2.2.2.2.2.1, kp _ _ _ hHeld.2.2.2.2.2.2⟩ ?_; clear hHeld kp b1 hK; intro hHeld; (try simp only [Act.put, List.setIfInBounds_toArray, List.set_cons_zero, List.set_cons_succ])))
          refine seq_end ?_
          go_split_ands
          go_wp2
          go_roundw
          case rel => exact ⟨j + 1, by go_num, by omega, HN.out, by assumption⟩
          case measure => simp [intOf]; omega
        · obtain ⟨k, hk⟩ : ∃ k, j = k + 1 := ⟨j - 1, by omega⟩
          have hkl : k < l.length := by omega
          rcases hol : M.older l[k].ed l[j].ed with _ | _
          · have HE : Hid (M.wkOk ⟨name, owner, l⟩ = false) := Lib.hid (by subst hk; simp [M.wkOk, M.cpsOk_not_older hlt hol])
            have hpj := hp l[j] (List.getElem_mem (by omega))
            obtain ⟨b, o, rfl, -, c0, c1, c2, c3, c4⟩ := Cps_at (i := j) (hl.alloc _ |>.below hb) (by omega)
            obtain ⟨b', o', hbo, -, d0, d1, d2, d3, d4⟩ := Cps_at (i := k) (hl.alloc _ |>.below hb) (by omega)
            obtain ⟨rfl, rfl⟩ : b = b' ∧ o = o' := by simpa using hbo
            clear hbo d3 d4
            have bx : wr.cell? ⟨w.heap.size, 2, none⟩ = some (.slice (some ⟨b, o, none⟩) l.length cap) := box_cells hb 2
            have HL := Lib.hid hl
            have HU := Lib.hid hu
            clear hl hu
            have e0 : decide ((0 : Int) < (j : Int)) = true := by simp; omega
            have e1 : IntKind.i64.wrap ((j : Int) - 1) = (j : Int) - 1 := IntWalk.i64_in _ (by omega)
            have e2 : ((j : Int) - 1).toNat = k := by omega
            have e3 : (1 : Int) ≤ (j : Int) := by omega
            have e5 : ¬ ((l.length : Int) ≤ (j : Int) - 1) := by omega
            have e4 : k < l.length := by omega
            have HK := Lib.hid hk
            clear hk
            go_wp2_with fail
            refine wp_region_seq (fun w' => Below (w.alloc (.cells (wkL name owner (some ⟨b, o, none⟩) l.length cap) 44)).heap.size (w.alloc (.cells (wkL name owner (some ⟨b, o, none⟩) l.length cap) 44)) w' ∧ w'.cell? ⟨w.heap.size, 2, none⟩ = some (.slice (some ⟨b, o, none⟩) l.length cap) ∧ w'.cell? ⟨b, o + j * 5, none⟩ = some (.int .i64 l[j].ed.ma) ∧ w'.cell? ⟨b, o + j * 5 + 1, none⟩ = some (.int .i64 l[j].ed.mi) ∧ w'.cell? ⟨b, o + j * 5 + 2, none⟩ = some (.int .i64 l[j].ed.pa) ∧ w'.cell? ⟨b, o + j * 5 + 3, none⟩ = some (.string l[j].page) ∧ w'.cell? ⟨b, o + j * 5 + 4, none⟩ = some (.bool l[j].hidden) ∧ w'.cell? ⟨b, o + k * 5, none⟩ = some (.int .i64 l[k].ed.ma) ∧ w'.cell? ⟨b, o + k * 5 + 1, none⟩ = some (.int .i64 l[k].ed.mi) ∧ w'.cell? ⟨b, o + k * 5 + 2, none⟩ = some (.int .i64 l[k].ed.pa)) [(0, true), (1, true), (2, true), (3, true), (4, true), (5, false), (6, true), (7, true), (8, true), (9, true), (10, true), (11, true), (12, true), (13, true), (14, true), (15, true), (16, true), (17, true), (18, true), (19, true), (20, true), (21, true), (22, true), (23, true), (24, false), (25, true), (26, true), (27, true)] (by kernel_rfl) (by kernel_rfl) (fun _ _ _ _ _ h => h) (by kernel_rfl) (by decide) ?_ ?_
            · ((try dsimp only); (repeat' apply And.intro) <;> first | assumption | (exact Below.drew (by assumption)) | (simp [go_sem]; done))
            intro hHeld
            repeat (first
              | (refine seq_skip (by simp only [List.getElem?_toArray, List.getElem?_cons_succ, List.getElem?_cons_zero]; first | done | rfl) (by rfl) ?_; (try simp only [Act.put, List.setIfInBounds_toArray, List.set_cons_zero, List.set_cons_succ]))
              | (refine seq_reads (by simp only [List.getElem?_toArray, List.getElem?_cons_succ, List.getElem?_cons_zero]; first | done | rfl) (by rfl) ?_; apply Exists.intro; apply And.intro; (focus (intro w hSw; (try dsimp only at hSw); go_split_ands; go_simp; (try with_reducible rfl); done)); (try simp only [Act.put, List.setIfInBounds_toArray, List.set_cons_zero, List.set_cons_succ]))
              | (refine seq_pass (by simp only [List.getElem?_toArray, List.getElem?_cons_succ, List.getElem?_cons_zero]; first | done | rfl) (by rfl) hHeld ?_; clear hHeld; intro hHeld; (try simp only [Act.put, List.setIfInBounds_toArray, List.set_cons_zero, List.set_cons_succ]))
              | (refine seq_call (by simp only [List.getElem?_toArray, List.getElem?_cons_succ, List.getElem?_cons_zero]; first | done | rfl) (by rfl) (fun K hK => ?_); go_simp; go_at_call 120; refine (keeps (l4Copy_any l[j] _ hpj) (W0 := (w.alloc (.cells (wkL name owner (some ⟨b, o, none⟩) l.length cap) 44))) hHeld.1).mono ?_; rintro r w1 ⟨rfl, b1, kp⟩; go_simp; refine hK.out _ _ ⟨b1, kp _ _ _ hHeld.2.1, kp _ _ _ hHeld.2.2.1, kp _ _ _ hHeld.2.2.2.1, kp _ _ _ hHeld.2.2.2.2.1, kp _ _ _ hHeld.2.2.2.2.2.1, kp _ _ _ hHeld.2.2.2.2.2.2.1, kp _ _ _ hHeld.2.2.2.2.2.2.2.1, kp _ _ _ hHeld.2.2.2.2.2.2.2.2.1, kp _ _ _ hHeld.2.2.2.2.2.2.2.2.2⟩ ?_; clear hHeld kp b1 hK; intro hHeld; (try simp only [Act.put, List.setIfInBounds_toArray, List.set_cons_zero, List.set_cons_succ]))
              | (refine seq_call (by simp only [List.getElem?_toArray, List.getElem?_cons_succ, List.getElem?_cons_zero]; first | done | rfl) (by rfl) (fun K hK => ?_); go_simp; go_at_call 121; refine (keeps (specOlder l[k].ed l[j].ed _) (W0 := (w.alloc (.cells (wkL name owner (some ⟨b, o, none⟩) l.length cap) 44))) hHeld.1).mono ?_; rintro r w1 ⟨rfl, b1, kp⟩; go_simp; refine hK.out _ _ ⟨b1, kp _ _ _ hHeld.2.1, kp _ _ _ hHeld.2.2.1, kp _ _ _ hHeld.2.2.2.1, kp _ _ _ hHeld.2.2.2.2.1, kp _ _ _ hHeld.2.2.2.2.2.1, kp _ _ _ hHeld.2.2.2.2.2.2.1, kp _ _ _ hHeld.2.2.2.2.2.2.2.1, kp _ _ _ hHeld.2.2.2.2.2.2.2.2.1, kp _ _ _ hHeld.2.2.2.2.2.2.2.2.2⟩ ?_; clear hHeld kp b1 hK; intro hHeld; (try simp only [Act.put, List.setIfInBounds_toArray, List.set_cons_zero, List.set_cons_succ])))
            refine seq_end ?_
            go_split_ands
            go_wp2
            go_ret
            exact ⟨ret_bool HE.out.symm, next ((Below.refl _ _).alloc (Nat.le_refl _) _) (by assumption)⟩
          · have HN : Hid (M.upTo l (j + 1)) := Lib.hid (by subst hk; exact M.upTo_next hu hlt hc hol)
            have hpj := hp l[j] (List.getElem_mem (by omega))
            obtain ⟨b, o, rfl, -, c0, c1, c2, c3, c4⟩ := Cps_at (i := j) (hl.alloc _ |>.below hb) (by omega)
            obtain ⟨b', o', hbo, -, d0, d1, d2, d3, d4⟩ := Cps_at (i := k) (hl.alloc _ |>.below hb) (by omega)
            obtain ⟨rfl, rfl⟩ : b = b' ∧ o = o' := by simpa using hbo
            clear hbo d3 d4
            have bx : wr.cell? ⟨w.heap.size, 2, none⟩ = some (.slice (some ⟨b, o, none⟩) l.length cap) := box_cells hb 2
            have HL := Lib.hid hl
            have HU := Lib.hid hu
            clear hl hu
            have e0 : decide ((0 : Int) < (j : Int)) = true := by simp; omega
            have e1 : IntKind.i64.wrap ((j : Int) - 1) = (j : Int) - 1 := IntWalk.i64_in _ (by omega)
            have e2 : ((j : Int) - 1).toNat = k := by omega
            have e3 : (1 : Int) ≤ (j : Int) := by omega
            have e5 : ¬ ((l.length : Int) ≤ (j : Int) - 1) := by omega
            have e4 : k < l.length := by omega
            have HK := Lib.hid hk
            clear hk
            go_wp2_with fail
            refine wp_region_seq (fun w' => Below (w.alloc (.cells (wkL name owner (some ⟨b, o, none⟩) l.length cap) 44)).heap.size (w.alloc (.cells (wkL name owner (some ⟨b, o, none⟩) l.length cap) 44)) w' ∧ w'.cell? ⟨w.heap.size, 2, none⟩ = some (.slice (some ⟨b, o, none⟩) l.length cap) ∧ w'.cell? ⟨b, o + j * 5, none⟩ = some (.int .i64 l[j].ed.ma) ∧ w'.cell? ⟨b, o + j * 5 + 1, none⟩ = some (.int .i64 l[j].ed.mi) ∧ w'.cell? ⟨b, o + j * 5 + 2, none⟩ = some (.int .i64 l[j].ed.pa) ∧ w'.cell? ⟨b, o + j * 5 + 3, none⟩ = some (.string l[j].page) ∧ w'.cell? ⟨b, o + j * 5 + 4, none⟩ = some (.bool l[j].hidden) ∧ w'.cell? ⟨b, o + k * 5, none⟩ = some (.int .i64 l[k].ed.ma) ∧ w'.cell? ⟨b, o + k * 5 + 1, none⟩ = some (.int .i64 l[k].ed.mi) ∧ w'.cell? ⟨b, o + k * 5 + 2, none⟩ = some (.int .i64 l[k].ed.pa)) [(0, true), (1, true), (2, true), (3, true), (4, true), (5, false), (6, true), (7, true), (8, true), (9, true), (10, true), (11, true), (12, true), (13, true), (14, true), (15, true), (16, true), (17, true), (18, true), (19, true), (20, true), (21, true), (22, true), (23, true), (24, false), (25, true), (26, true), (27, true)] (by kernel_rfl) (by kernel_rfl) (fun _ _ _ _ _ h => h) (by kernel_rfl) (by decide) ?_ ?_
            · ((try dsimp only); (repeat' apply And.intro) <;> first | assumption | (exact Below.drew (by assumption)) | (simp [go_sem]; done))
            intro hHeld
            repeat (first
              | (refine seq_skip (by simp only [List.getElem?_toArray, List.getElem?_cons_succ, List.getElem?_cons_zero]; first | done | rfl) (by rfl) ?_; (try simp only [Act.put, List.setIfInBounds_toArray, List.set_cons_zero, List.set_cons_succ]))
              | (refine seq_reads (by simp only [List.getElem?_toArray, List.getElem?_cons_succ, List.getElem?_cons_zero]; first | done | rfl) (by rfl) ?_; apply Exists.intro; apply And.intro; (focus (intro w hSw; (try dsimp only at hSw); go_split_ands; go_simp; (try with_reducible rfl); done)); (try simp only [Act.put, List.setIfInBounds_toArray, List.set_cons_zero, List.set_cons_succ]))
              | (refine seq_pass (by simp only [List.getElem?_toArray, List.getElem?_cons_succ, List.getElem?_cons_zero]; first | done | rfl) (by rfl) hHeld ?_; clear hHeld; intro hHeld; (try simp only [Act.put, List.setIfInBounds_toArray, List.set_cons_zero, List.set_cons_succ]))
              | (refine seq_call (by simp only [List.getElem?_toArray, List.getElem?_cons_succ, List.getElem?_cons_zero]; first | done | rfl) (by rfl) (fun K hK => ?_); go_simp; go_at_call 120; refine (keeps (l4Copy_any l[j] _ hpj) (W0 := (w.alloc (.cells (wkL name owner (some ⟨b, o, none⟩) l.length cap) 44))) hHeld.1).mono ?_; rintro r w1 ⟨rfl, b1, kp⟩; go_simp; refine hK.out _ _ ⟨b1, kp _ _ _ hHeld.2.1, kp _ _ _ hHeld.2.2.1, kp _ _ _ hHeld.2.2.2.1, kp _ _ _ hHeld.2.2.2.2.1, kp _ _ _ hHeld.2.2.2.2.2.1, kp _ _ _ hHeld.2.2.2.2.2.2.1, kp _ _ _ hHeld.2.2.2.2.2.2.2.1, kp _ _ _ hHeld.2.2.2.2.2.2.2.2.1, kp _ _ _ hHeld.2.2.2.2.2.2.2.2.2⟩ ?_; clear hHeld kp b1 hK; intro hHeld; (try simp only [Act.put, List.setIfInBounds_toArray, List.set_cons_zero, List.set_cons_succ]))
              | (refine seq_call (by simp only [List.getElem?_toArray, List.getElem?_cons_succ, List.getElem?_cons_zero]; first | done | rfl) (by rfl) (fun K hK => ?_); go_simp; go_at_call 121; refine (keeps (specOlder l[k].ed l[j].ed _) (W0 := (w.alloc (.cells (wkL name owner (some ⟨b, o, none⟩) l.length cap) 44))) hHeld.1).mono ?_; rintro r w1 ⟨rfl, b1, kp⟩; go_simp; refine hK.out _ _ ⟨b1, kp _ _ _ hHeld.2.1, kp _ _ _ hHeld.2.2.1, kp _ _ _ hHeld.2.2.2.1, kp _ _ _ hHeld.2.2.2.2.1, kp _ _ _ hHeld.2.2.2.2.2.1, kp _ _ _ hHeld.2.2.2.2.2.2.1, kp _ _ _ hHeld.2.2.2.2.2.2.2.1, kp _ _ _ hHeld.2.2.2.2.2.2.2.2.1, kp _ _ _ hHeld.2.2.2.2.2.2.2.2.2⟩ ?_; clear hHeld kp b1 hK; intro hHeld; (try simp only [Act.put, List.setIfInBounds_toArray, List.set_cons_zero, List.set_cons_succ])))
            refine seq_end ?_
            go_split_ands
            go_wp2
            go_roundw
            case rel => exact ⟨j + 1, by go_num, by omega, HN.out, by assumption⟩
            case measure => simp [intOf]; omega
    · have hj' : j = l.length := by omega
      subst hj'
      have hk := M.upTo_all l hu
      have b0 := next ((Below.refl w.heap.size w).alloc (Nat.le_refl _) _) hb
      have x0 : wr.cell? ⟨w.heap.size, 0, none⟩ = some (.string name) := box_cells hb 0
      have x1 : wr.cell? ⟨w.heap.size, 1, none⟩ = some (.int .i64 owner) := box_cells hb 1
      have x2 : wr.cell? ⟨w.heap.size, 2, none⟩ = some (.slice A l.length cap) := box_cells hb 2
      have HL := Lib.hid hl
      clear hl hu
      rcases h1 : M.nameOk name.data.toList with _ | _
      · have HE : Hid (M.wkOk ⟨name, owner, l⟩ = false) := Lib.hid (by simp [M.wkOk, h1])
        clear hk
        go_wp2_with fail
        refine (specNameOk name _ hn).mono ?_
        rintro r w1 ⟨rfl, rfl⟩
        go_wp2
        go_ret
        exact ⟨ret_bool HE.out.symm, b0⟩
      · rcases h2 : M.inI owner 0 3 with _ | _
        · have HE : Hid (M.wkOk ⟨name, owner, l⟩ = false) := Lib.hid (by simp [M.wkOk, h2])
          clear hk
          go_wp2_with fail
          refine (specNameOk name _ hn).mono ?_
          rintro r w1 ⟨rfl, rfl⟩
          go_wp2_with fail
          refine (l3Who_any owner _).mono ?_
          rintro r w1 ⟨rfl, rfl⟩
          go_wp2
          go_ret
          exact ⟨ret_bool HE.out.symm, b0⟩
        · have HE : Hid (M.wkOk ⟨name, owner, l⟩ = decide (l.length ≤ 8)) := Lib.hid (by simp [M.wkOk, h1, h2, hk])
          clear hk
          go_wp2_with fail
          refine (specNameOk name _ hn).mono ?_
          rintro r w1 ⟨rfl, rfl⟩
          go_wp2_with fail
          refine (l3Who_any owner _).mono ?_
          rintro r w1 ⟨rfl, rfl⟩
          go_wp2
          go_ret
          exact ⟨ret_bool (by rw [HE.out]; simp; omega), b0⟩

end Go.Proofs.YtblcgbgcccjpcaaGreat
namespace Go.Proofs.YtblcgbgcccjpcaaGreat
namespace M

/-- Where the copy of an edition stands. -/
def isEd (e : Ed) (c : Cp) : Bool := decide (c.ed = e)
def notOlder (e : Ed) (c : Cp) : Bool := !older c.ed e
def findEd (l : List Cp) (e : Ed) : Nat := l.findIdx (isEd e)
/-- The same as the model tells it. -/
def findInt (l : List Cp) (e : Ed) : Int := if findEd l e < l.length then (findEd l e : Int) else -1
theorem findInt_pos {l : List Cp} {e : Ed} (h : findEd l e < l.length) : findInt l e = findEd l e := if_pos h
theorem findInt_neg {l : List Cp} {e : Ed} (h : findEd l e = l.length) : findInt l e = -1 := if_neg (by omega)
def place (l : List Cp) (e : Ed) : Nat := l.findIdx (notOlder e)
def isAt (l : List Cp) (e : Ed) : Bool := match l[place l e]? with
  | some c => isEd e c
  | none => false

theorem rises_lt {l : List Cp} (h : risesB l = true) : ∀ (j i : Nat) (hi : i < j) (hj : j < l.length), older (l[i]'(by omega)).ed l[j].ed = true := by
  intro j
  induction j with
  | zero => intro i hi; omega
  | succ j ih =>
    intro i hi hj
    have h1 := (risesB_iff l).1 h j hj
    by_cases e : i = j
    · subst e; exact h1
    · exact older_trans _ _ _ (ih i (by omega) (by omega)) h1

/-- Among copies that rise an edition that is there is at its place. -/
theorem place_find {l : List Cp} (h : risesB l = true) (e : Ed) : (isAt l e = true ∧ findEd l e < l.length ∧ place l e = findEd l e) ∨ (isAt l e = false ∧ findEd l e = l.length) := by
  by_cases hf : findEd l e < l.length
  · left
    have h1 : isEd e (l[findEd l e]'hf) = true := List.findIdx_getElem (w := hf)
    have h2 : (l[findEd l e]'hf).ed = e := by simpa [isEd] using h1
    have hp : place l e = findEd l e := by
      refine (List.findIdx_eq hf).2 ⟨?_, fun j hj => ?_⟩
      · simp [notOlder, h2, older_irrefl]
      · have := rises_lt h (findEd l e) j hj hf
        rw [h2] at this
        simp [notOlder, this]
    refine ⟨?_, hf, hp⟩
    unfold isAt
    rw [hp, List.getElem?_eq_getElem hf]
    exact h1
  · right
    have hf' : findEd l e = l.length := by
      have := List.findIdx_le_length (p := isEd e) (xs := l)
      unfold findEd at hf ⊢; omega
    refine ⟨?_, hf'⟩
    unfold isAt
    rcases hp : l[place l e]? with _ | c
    · rfl
    · have hm : c ∈ l := List.mem_of_getElem? hp
      have := List.findIdx_eq_length.1 hf' c hm
      simpa using this

def copyIn (w : Wk) (e : Ed) : Cp × Bool := if wkOk w then match w.copies[findEd w.copies e]? with
  | some c => (c, true)
  | none => (zeroCp, false) else (zeroCp, false)
theorem copyIn_bad {w : Wk} (e : Ed) (h : wkOk w = false) : copyIn w e = (zeroCp, false) := by simp [copyIn, h]
theorem copyIn_none {w : Wk} {e : Ed} (h : findEd w.copies e = w.copies.length) : copyIn w e = (zeroCp, false) := by
  unfold copyIn
  rw [h, List.getElem?_eq_none (Nat.le_refl _)]
  split <;> rfl
theorem copyIn_some {w : Wk} {e : Ed} (h : wkOk w = true) (hf : findEd w.copies e < w.copies.length) : copyIn w e = (w.copies[findEd w.copies e], true) := by
  unfold copyIn
  rw [if_pos h, List.getElem?_eq_getElem hf]
theorem wkOk_rises {w : Wk} (h : wkOk w = true) : risesB w.copies = true ∧ w.copies.length ≤ 8 ∧ (∀ c ∈ w.copies, cpOk c = true) := by
  simp only [wkOk, cpsOk, Bool.and_eq_true, decide_eq_true_eq, List.all_eq_true] at h
  exact ⟨h.2.2, h.1.2, h.2.1⟩

/-- Is it shown, and does it fit? -/
def shown (want : Ed) (c : Cp) : Bool := !c.hidden && fits c.ed want
/-- The last of the first k that is so. -/
def lastTo (p : Cp → Bool) (l : List Cp) : Nat → Option Nat
  | 0 => none
  | k + 1 => match l[k]? with
    | some c => if p c then some k else lastTo p l k
    | none => lastTo p l k
theorem lastTo_no {p : Cp → Bool} {l : List Cp} {k : Nat} (hk : k < l.length) (h : p l[k] = false) : lastTo p l (k + 1) = lastTo p l k := by
  simp [lastTo, List.getElem?_eq_getElem hk, h]
/-- How far a search from the end has come: nothing is left, or place j is next. -/
def Back (p : Cp → Bool) (l : List Cp) (i : Int) : Prop := (i = -1 ∧ lastTo p l l.length = none) ∨ ∃ j : Nat, i = j ∧ j < l.length ∧ lastTo p l l.length = lastTo p l (j + 1)
theorem Back.start (p : Cp → Bool) (l : List Cp) : Back p l ((l.length : Int) - 1) := by
  rcases Nat.eq_zero_or_pos l.length with h | h
  · exact .inl ⟨by omega, by rw [h]; rfl⟩
  · exact .inr ⟨l.length - 1, by omega, by omega, by rw [Nat.sub_add_cancel h]⟩
theorem Back.next {p : Cp → Bool} {l : List Cp} {j : Nat} (hj : j < l.length) (h : lastTo p l l.length = lastTo p l (j + 1)) (hp : p l[j] = false) : Back p l ((j : Int) - 1) := by
  rw [lastTo_no hj hp] at h
  rcases Nat.eq_zero_or_pos j with h0 | h0
  · exact .inl ⟨by omega, by rw [h, h0]; rfl⟩
  · exact .inr ⟨j - 1, by omega, by omega, by rw [h, Nat.sub_add_cancel h0]⟩
end M
end Go.Proofs.YtblcgbgcccjpcaaGreat
namespace Go.Proofs.YtblcgbgcccjpcaaGreat
open Go.RowKit
set_option maxRecDepth 20000

theorem ed_eql (a b : M.Ed) (w : World) : (binOp .eql 37 (edV a) (edV b)).run Tryz.prog w = .ok (.bool (decide (a = b))) w := by
  by_cases h0 : a.ma = b.ma
  · have h0' : (a.ma == b.ma) = true := by simpa using h0
    by_cases h1 : a.mi = b.mi
    · have h1' : (a.mi == b.mi) = true := by simpa using h1
      have e : decide (a = b) = (a.pa == b.pa) := by rw [Bool.eq_iff_iff]; simp [M.ed_ext, h0, h1]
      rcases h2' : (a.pa == b.pa) with _ | _ <;> rw [e, h2'] <;> simp [go_sem, h0', h1', h2', Tryz.underlying37, Tryz.underlying2]
    · have h1' : (a.mi == b.mi) = false := by simpa using h1
      have e : decide (a = b) = false := by simp [M.ed_ext, h1]
      rw [e]
      simp [go_sem, h0', h1']
  · have h0' : (a.ma == b.ma) = false := by simpa using h0
    have e : decide (a = b) = false := by simp [M.ed_ext, h0]
    rw [e]
    simp [go_sem, h0']
theorem eql_read {A : Act} {o : Oper} {x y : Operand} {a b : M.Ed} (ho : o.op = .binOp .eql 37 x y 37) (hx : A.eval x = edV a) (hy : A.eval y = edV b) (w : World) :
    (execOp A.eval o).run Tryz.prog w = .ok (.value (.bool (decide (a = b)))) w := by
  unfold execOp
  rw [ho]
  have hg := fun (op : BinOp) (x y : Operand) (xs ys : Array Value) (w : World) => run_eqGuard_agg (P := Tryz.prog) w op 37 x y xs ys (by kernel_rfl)
  have he := fun w => ed_eql a b w
  simp only [edV] at he hx hy
  simp only [hx, hy, Sem.run_bind, hg, he, Result.andThen_ok, Sem.run_pure]
end Go.Proofs.YtblcgbgcccjpcaaGreat
