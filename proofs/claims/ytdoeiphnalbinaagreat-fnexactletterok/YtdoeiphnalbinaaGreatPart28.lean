/- Proved, in parts: Proved: the model's ShelfOk answers as the plain Lean function does; it writes nothing that was there. Condition: texts and lists of at most a million. -/
import Derived.Test.YtdoeiphnalbinaaGreatPart05
import Derived.Test.YtdoeiphnalbinaaGreatPart27
namespace Go.Proofs.YtdoeiphnalbinaaGreat
open Go.RowKit
set_option maxRecDepth 20000

theorem leq_of {a b : ByteArray} : (Op.bytesLess b.toList a.toList || b.toList == a.toList) = !M.nameLt a b := by
  unfold M.nameLt
  rw [bytesLess_tri a.toList b.toList, Bool.not_not]

set_option maxHeartbeats 4000000 in
theorem specShelfOk (A : Option Addr) (l : List Wr) (cap : Nat) (w : World) (hl : Wks w A l) (hlen : l.length ≤ 1048576) (hp : WrsIn 1048576 l) :
    Calls Tryz.prog 60 #[.slice A l.length cap] w fun r w' => r = .returned (.bool (M.sfOk (l.map Wr.wk))) ∧ Below w.heap.size w w' := by
  go_enter Tryz.func60, Tryz.ntmps60
  go_wp2
  go_loopw [3] (fun i wr => ∃ j : Nat, i = .int .i64 j ∧ j ≤ l.length ∧ M.sfTo (l.map Wr.wk) j ∧ Below w.heap.size w wr) (fun i _ => l.length - (intOf i).toNat)
  case atStart => exact ⟨0, rfl, Nat.zero_le _, M.sfTo_zero _, Below.refl _ _⟩
  case round =>
    obtain ⟨j, rfl, hj, hu, hb⟩ := hrel
    by_cases hlt : j < l.length
    · rcases hk : M.wkOk ⟨l[j].name, l[j].owner, l[j].cps⟩ with _ | _
      · have HE : Hid (M.sfOk (l.map Wr.wk) = false) := Lib.hid (M.sfOk_not_work (k := j) (by simpa using hlt) (by simpa [Wr.wk] using hk))
        obtain ⟨b, o, rfl, hbl, c0, c1, c2, hc⟩ := Wks_at (hl.below hb) hlt
        have HC := Lib.hid hc
        have HPJ := Lib.hid (hp l[j] (List.getElem_mem hlt))
        have HL := Lib.hid hl
        have HU := Lib.hid hu
        clear hl hu hc hp
        go_wp2_with fail
        refine wp_region_seq (fun w' => Below wr.heap.size wr w') [(0, true), (1, true), (2, true), (3, true), (4, false), (5, true), (6, true), (7, true), (8, true), (9, true), (10, true), (11, true), (12, true), (13, true), (14, true), (15, true), (16, true), (17, true), (18, true), (19, true), (20, true), (21, true), (22, true), (23, true)] (by kernel_rfl) (by kernel_rfl) (fun _ _ _ _ _ h => h) (by kernel_rfl) (by decide) (Below.refl _ _).drew ?_
        intro hHeld
        repeat (first
          | (refine seq_skip (by simp only [List.getElem?_toArray, List.getElem?_cons_succ, List.getElem?_cons_zero]; first | done | rfl) (by rfl) ?_; (try simp only [Act.put, List.setIfInBounds_toArray, List.set_cons_zero, List.set_cons_succ]))
          | (refine seq_reads (by simp only [List.getElem?_toArray, List.getElem?_cons_succ, List.getElem?_cons_zero]; first | done | rfl) (by rfl) ?_; apply Exists.intro; apply And.intro; (focus (intro w hSw; obtain ⟨hcS, -⟩ := bcell hSw; go_simp; (try with_reducible rfl); done)); (try simp only [Act.put, List.setIfInBounds_toArray, List.set_cons_zero, List.set_cons_succ]))
          | (refine seq_pass (by simp only [List.getElem?_toArray, List.getElem?_cons_succ, List.getElem?_cons_zero]; first | done | rfl) (by rfl) hHeld ?_; clear hHeld; intro hHeld; (try simp only [Act.put, List.setIfInBounds_toArray, List.set_cons_zero, List.set_cons_succ]))
          | (refine seq_call (by simp only [List.getElem?_toArray, List.getElem?_cons_succ, List.getElem?_cons_zero]; first | done | rfl) (by rfl) (fun K hK => ?_); go_simp; go_at_call 85; refine (specWorkOk l[j].name l[j].owner l[j].ad l[j].cps l[j].cap _ (HC.out.below hHeld) (Nat.le_trans HPJ.out.1 (by unfold maxLen; omega)) HPJ.out.2.1 (fun x hx => Nat.le_trans (HPJ.out.2.2 x hx) (by unfold maxLen; omega))).mono ?_; rintro r w1 ⟨rfl, b1⟩; go_simp; refine hK.out _ _ (next hHeld b1) ?_; clear hK hHeld; intro hHeld; (try simp only [Act.put, List.setIfInBounds_toArray, List.set_cons_zero, List.set_cons_succ])))
        refine seq_end ?_
        go_wp2
        go_ret
        exact ⟨ret_bool HE.out.symm, next hb hHeld⟩
      · rcases Nat.eq_zero_or_pos j with h0 | h0
        · have HN : Hid (M.sfTo (l.map Wr.wk) (j + 1)) := Lib.hid (by subst h0; exact M.sfTo_first (by simpa using hlt) (by simpa [Wr.wk] using hk))
          have e0 : decide (0 < j) = false := by simp; omega
          have H0 := Lib.hid h0
          clear h0
          obtain ⟨b, o, rfl, hbl, c0, c1, c2, hc⟩ := Wks_at (hl.below hb) hlt
          have HC := Lib.hid hc
          have HPJ := Lib.hid (hp l[j] (List.getElem_mem hlt))
          have HL := Lib.hid hl
          have HU := Lib.hid hu
          clear hl hu hc hp
          go_wp2_with fail
          refine wp_region_seq (fun w' => Below wr.heap.size wr w') [(0, true), (1, true), (2, true), (3, true), (4, false), (5, true), (6, true), (7, true), (8, true), (9, true), (10, true), (11, true), (12, true), (13, true), (14, true), (15, true), (16, true), (17, true), (18, true), (19, true), (20, true), (21, true), (22, true), (23, true)] (by kernel_rfl) (by kernel_rfl) (fun _ _ _ _ _ h => h) (by kernel_rfl) (by decide) (Below.refl _ _).drew ?_
          intro hHeld
          repeat (first
            | (refine seq_skip (by simp only [List.getElem?_toArray, List.getElem?_cons_succ, List.getElem?_cons_zero]; first | done | rfl) (by rfl) ?_; (try simp only [Act.put, List.setIfInBounds_toArray, List.set_cons_zero, List.set_cons_succ]))
            | (refine seq_reads (by simp only [List.getElem?_toArray, List.getElem?_cons_succ, List.getElem?_cons_zero]; first | done | rfl) (by rfl) ?_; apply Exists.intro; apply And.intro; (focus (intro w hSw; obtain ⟨hcS, -⟩ := bcell hSw; go_simp; (try with_reducible rfl); done)); (try simp only [Act.put, List.setIfInBounds_toArray, List.set_cons_zero, List.set_cons_succ]))
            | (refine seq_pass (by simp only [List.getElem?_toArray, List.getElem?_cons_succ, List.getElem?_cons_zero]; first | done | rfl) (by rfl) hHeld ?_; clear hHeld; intro hHeld; (try simp only [Act.put, List.setIfInBounds_toArray, List.set_cons_zero, List.set_cons_succ]))
            | (refine seq_call (by simp only [List.getElem?_toArray, List.getElem?_cons_succ, List.getElem?_cons_zero]; first | done | rfl) (by rfl) (fun K hK => ?_); go_simp; go_at_call 85; refine (specWorkOk l[j].name l[j].owner l[j].ad l[j].cps l[j].cap _ (HC.out.below hHeld) (Nat.le_trans HPJ.out.1 (by unfold maxLen; omega)) HPJ.out.2.1 (fun x hx => Nat.le_trans (HPJ.out.2.2 x hx) (by unfold maxLen; omega))).mono ?_; rintro r w1 ⟨rfl, b1⟩; go_simp; refine hK.out _ _ (next hHeld b1) ?_; clear hK hHeld; intro hHeld; (try simp only [Act.put, List.setIfInBounds_toArray, List.set_cons_zero, List.set_cons_succ])))
          refine seq_end ?_
          go_wp2
          go_roundw
          case rel => exact ⟨j + 1, by go_num, by omega, HN.out, next hb hHeld⟩
          case measure => simp [intOf]; omega
        · obtain ⟨k, hkj⟩ : ∃ k, j = k + 1 := ⟨j - 1, by omega⟩
          have hkl : k < l.length := by omega
          rcases hnl : M.nameLt l[k].name l[j].name with _ | _
          · have HE : Hid (M.sfOk (l.map Wr.wk) = false) := Lib.hid (by subst hkj; exact M.sfOk_not_rise (k := k) (by simpa using hlt) (by simpa [Wr.wk] using hnl))
            have e6 : (Op.bytesLess l[j].name.toList l[k].name.toList || l[j].name.toList == l[k].name.toList) = true := by rw [leq_of, hnl]; rfl
            obtain ⟨b, o, rfl, hbl, c0, c1, c2, hc⟩ := Wks_at (hl.below hb) hlt
            have HC := Lib.hid hc
            have HPJ := Lib.hid (hp l[j] (List.getElem_mem hlt))
            have HL := Lib.hid hl
            have HU := Lib.hid hu
            obtain ⟨b', o', hbo, -, d0, d1, d2, -⟩ := Wks_at (hl.below hb) hkl
            obtain ⟨rfl, rfl⟩ : b = b' ∧ o = o' := by simpa using hbo
            have e0 : decide (0 < j) = true := by simp; omega
            have e1 : IntKind.i64.wrap ((j : Int) - 1) = (j : Int) - 1 := IntWalk.i64_in _ (by omega)
            have e2 : ((j : Int) - 1).toNat = k := by omega
            have e3 : (1 : Int) ≤ (j : Int) := by omega
            have e5 : ¬ ((l.length : Int) ≤ (j : Int) - 1) := by omega
            have HN := Lib.hid hnl
            have HK := Lib.hid hkj
            have H0 := Lib.hid h0
            clear hbo hnl hkj d1 d2 h0
            clear hl hu hc hp
            go_wp2_with fail
            refine wp_region_seq (fun w' => Below wr.heap.size wr w') [(0, true), (1, true), (2, true), (3, true), (4, false), (5, true), (6, true), (7, true), (8, true), (9, true), (10, true), (11, true), (12, true), (13, true), (14, true), (15, true), (16, true), (17, true), (18, true), (19, true), (20, true), (21, true), (22, true), (23, true)] (by kernel_rfl) (by kernel_rfl) (fun _ _ _ _ _ h => h) (by kernel_rfl) (by decide) (Below.refl _ _).drew ?_
            intro hHeld
            repeat (first
              | (refine seq_skip (by simp only [List.getElem?_toArray, List.getElem?_cons_succ, List.getElem?_cons_zero]; first | done | rfl) (by rfl) ?_; (try simp only [Act.put, List.setIfInBounds_toArray, List.set_cons_zero, List.set_cons_succ]))
              | (refine seq_reads (by simp only [List.getElem?_toArray, List.getElem?_cons_succ, List.getElem?_cons_zero]; first | done | rfl) (by rfl) ?_; apply Exists.intro; apply And.intro; (focus (intro w hSw; obtain ⟨hcS, -⟩ := bcell hSw; go_simp; (try with_reducible rfl); done)); (try simp only [Act.put, List.setIfInBounds_toArray, List.set_cons_zero, List.set_cons_succ]))
              | (refine seq_pass (by simp only [List.getElem?_toArray, List.getElem?_cons_succ, List.getElem?_cons_zero]; first | done | rfl) (by rfl) hHeld ?_; clear hHeld; intro hHeld; (try simp only [Act.put, List.setIfInBounds_toArray, List.set_cons_zero, List.set_cons_succ]))
              | (refine seq_call (by simp only [List.getElem?_toArray, List.getElem?_cons_succ, List.getElem?_cons_zero]; first | done | rfl) (by rfl) (fun K hK => ?_); go_simp; go_at_call 85; refine (specWorkOk l[j].name l[j].owner l[j].ad l[j].cps l[j].cap _ (HC.out.below hHeld) (Nat.le_trans HPJ.out.1 (by unfold maxLen; omega)) HPJ.out.2.1 (fun x hx => Nat.le_trans (HPJ.out.2.2 x hx) (by unfold maxLen; omega))).mono ?_; rintro r w1 ⟨rfl, b1⟩; go_simp; refine hK.out _ _ (next hHeld b1) ?_; clear hK hHeld; intro hHeld; (try simp only [Act.put, List.setIfInBounds_toArray, List.set_cons_zero, List.set_cons_succ])))
            refine seq_end ?_
            go_wp2
            go_ret
            exact ⟨ret_bool HE.out.symm, next hb hHeld⟩
          · have HT : Hid (M.sfTo (l.map Wr.wk) (j + 1)) := Lib.hid (by subst hkj; exact M.sfTo_next hu (by simpa using hlt) (by simpa [Wr.wk] using hk) (by simpa [Wr.wk] using hnl))
            have e6 : (Op.bytesLess l[j].name.toList l[k].name.toList || l[j].name.toList == l[k].name.toList) = false := by rw [leq_of, hnl]; rfl
            obtain ⟨b, o, rfl, hbl, c0, c1, c2, hc⟩ := Wks_at (hl.below hb) hlt
            have HC := Lib.hid hc
            have HPJ := Lib.hid (hp l[j] (List.getElem_mem hlt))
            have HL := Lib.hid hl
            have HU := Lib.hid hu
            obtain ⟨b', o', hbo, -, d0, d1, d2, -⟩ := Wks_at (hl.below hb) hkl
            obtain ⟨rfl, rfl⟩ : b = b' ∧ o = o' := by simpa using hbo
            have e0 : decide (0 < j) = true := by simp; omega
            have e1 : IntKind.i64.wrap ((j : Int) - 1) = (j : Int) - 1 := IntWalk.i64_in _ (by omega)
            have e2 : ((j : Int) - 1).toNat = k := by omega
            have e3 : (1 : Int) ≤ (j : Int) := by omega
            have e5 : ¬ ((l.length : Int) ≤ (j : Int) - 1) := by omega
            have HN := Lib.hid hnl
            have HK := Lib.hid hkj
            have H0 := Lib.hid h0
            clear hbo hnl hkj d1 d2 h0
            clear hl hu hc hp
            go_wp2_with fail
            refine wp_region_seq (fun w' => Below wr.heap.size wr w') [(0, true), (1, true), (2, true), (3, true), (4, false), (5, true), (6, true), (7, true), (8, true), (9, true), (10, true), (11, true), (12, true), (13, true), (14, true), (15, true), (16, true), (17, true), (18, true), (19, true), (20, true), (21, true), (22, true), (23, true)] (by kernel_rfl) (by kernel_rfl) (fun _ _ _ _ _ h => h) (by kernel_rfl) (by decide) (Below.refl _ _).drew ?_
            intro hHeld
            repeat (first
              | (refine seq_skip (by simp only [List.getElem?_toArray, List.getElem?_cons_succ, List.getElem?_cons_zero]; first | done | rfl) (by rfl) ?_; (try simp only [Act.put, List.setIfInBounds_toArray, List.set_cons_zero, List.set_cons_succ]))
              | (refine seq_reads (by simp only [List.getElem?_toArray, List.getElem?_cons_succ, List.getElem?_cons_zero]; first | done | rfl) (by rfl) ?_; apply Exists.intro; apply And.intro; (focus (intro w hSw; obtain ⟨hcS, -⟩ := bcell hSw; go_simp; (try with_reducible rfl); done)); (try simp only [Act.put, List.setIfInBounds_toArray, List.set_cons_zero, List.set_cons_succ]))
              | (refine seq_pass (by simp only [List.getElem?_toArray, List.getElem?_cons_succ, List.getElem?_cons_zero]; first | done | rfl) (by rfl) hHeld ?_; clear hHeld; intro hHeld; (try simp only [Act.put, List.setIfInBounds_toArray, List.set_cons_zero, List.set_cons_succ]))
              | (refine seq_call (by simp only [List.getElem?_toArray, List.getElem?_cons_succ, List.getElem?_cons_zero]; first | done | rfl) (by rfl) (fun K hK => ?_); go_simp; go_at_call 85; refine (specWorkOk l[j].name l[j].owner l[j].ad l[j].cps l[j].cap _ (HC.out.below hHeld) (Nat.le_trans HPJ.out.1 (by unfold maxLen; omega)) HPJ.out.2.1 (fun x hx => Nat.le_trans (HPJ.out.2.2 x hx) (by unfold maxLen; omega))).mono ?_; rintro r w1 ⟨rfl, b1⟩; go_simp; refine hK.out _ _ (next hHeld b1) ?_; clear hK hHeld; intro hHeld; (try simp only [Act.put, List.setIfInBounds_toArray, List.set_cons_zero, List.set_cons_succ])))
            refine seq_end ?_
            clear e1 e2 e3 e5 e6
            go_wp2
            go_roundw
            case rel => exact ⟨j + 1, by go_num, by omega, HT.out, next hb hHeld⟩
            case measure => simp [intOf]; omega
    · have HE : Hid (M.sfOk (l.map Wr.wk) = decide ((l.length : Int) ≤ 5)) := Lib.hid (by rw [M.sfTo_all hu (by simp; omega)]; simp; omega)
      clear hu
      go_wp2
      go_ret
      exact ⟨ret_bool HE.out.symm, hb⟩
end Go.Proofs.YtdoeiphnalbinaaGreat
