/- Proved: the model's Reached answers the number that more than half have reached, -1 of other lists, and writes nothing that was there; the list holds at most as many numbers as there are. -/
import Derived.Test.YtnelgadfgeakjaaMajSpec
import Derived.Test.YtnelgadfgeakjaaReachLaw
import Derived.Test.YtnelgadfgeakjaaFlatApp
import Derived.Deep.Onto
namespace Go.Proofs.Ytnelgadfgeakjaa
open Go.RowKit

abbrev inL (x : Int) : List Value := [.int .i64 x]
abbrev Ints (w : World) (A : Option Addr) (l : List Int) : Prop := Flat inL 1 w A l
theorem in_one (l : List Int) : ∀ u ∈ cellsOf inL l, u.oneCell' = true := by
  intro u hu
  unfold cellsOf at hu
  rw [List.mem_flatMap] at hu
  obtain ⟨c, _, hc⟩ := hu
  simp at hc
  subst hc; rfl
theorem infoInt : (Try.prog.info? 2).map (fun i => (i.zero, i.size, i.bytes)) = some (some (.int .i64 0), 1, 8) := by kernel_rfl

theorem cells_map : ∀ s : List Int, cellsOf inL s = s.map (Value.int .i64)
  | [] => rfl
  | x :: s => by
    have h := cells_map s
    unfold cellsOf at h ⊢
    rw [List.flatMap_cons, h]; rfl
theorem own_int {w : World} {B t g n cap j : Nat} {s : List Int} (h : w.ownsRow B t 1 (.slice (some ⟨g, 0, none⟩) n cap) n (cellsOf inL s)) (hj : j < s.length) : w.cell? ⟨g, j, none⟩ = some (.int .i64 s[j]) := by
  have hn : s.length * 1 = n * 1 := by rw [← cellsOf_len (enc := inL) (k := 1) (fun _ => rfl) s]; exact h.1
  rw [h.cellAt j (by omega)]
  have := cellsOf_at (enc := inL) (k := 1) (fun _ => rfl) s j 0 s[j] (List.getElem?_eq_getElem hj) (by decide)
  rw [Nat.mul_one, Nat.add_zero] at this
  rw [this]; rfl
/-- What Reached answers. -/
def ReachedIs (l : List Int) (r : Int) : Prop := if M.cok l.length then M.Reach (M.most l.length).toNat l r else r = -1

theorem reachedIs_one {l : List Int} {r s : Int} (h : ReachedIs l r) (k : ReachedIs l s) : r = s := by
  unfold ReachedIs at h k
  split at h
  · rename_i hc; rw [if_pos hc] at k; exact h.one k
  · rename_i hc; rw [if_neg hc] at k; exact h.trans k.symm

set_option maxHeartbeats 2000000 in
theorem specReached (A : Option Addr) (l : List Int) (c : Nat) (w : World) (hl : Ints w A l) (hA : A = none → c = 0) (hlen : l.length ≤ 1048576) :
    Calls Try.prog 27 #[.slice A l.length c] w fun e w' => ∃ r, e = .returned (.int .i64 r) ∧ ReachedIs l r ∧ Below w.heap.size w w' := by
  rcases hk : M.cok l.length with _ | _
  · have HR : Hid (ReachedIs l (-1)) := Lib.hid (by unfold ReachedIs; rw [hk]; rfl)
    clear hl
    go_enter Try.func27, Try.ntmps27
    go_wp2_with (go_at_call 23; refine (specCountOk _ _).mono ?_; rintro e w' ⟨rfl, rfl⟩; simp only [hk])
    go_ret
    exact ⟨-1, rfl, HR.out, Below.refl _ _⟩
  · have HL := Lib.hid hl
    have HA := Lib.hid hA
    clear hl hA
    obtain ⟨i0, hi, hz0, hz1, hz2⟩ := info_parts infoInt
    go_enter Try.func27, Try.ntmps27
    go_wp2_with (first | (go_at_call 23; refine (specCountOk _ _).mono ?_; rintro e w' ⟨rfl, rfl⟩; simp only [hk]) | (at_builtin; refine stop_mk ?_))
    refine stop_un ?_
    refine wpList_append_flat (k := 1) (enc := inL) (l := l) rfl _ _ 33 rfl w.heap.size 2 i0 _ 8 Try.underlying33 hi hz0 hz1 hz2 rfl (by decide) (.slice (some ⟨w.heap.size, 0, none⟩) 0 0) 0 [] rfl (World.ownsRow_made (size := 1) (e := 2) w #[] 0 (Nat.le_refl _) (Nat.zero_le _) rfl) A c rfl HA.out (HL.out.alloc _) (fun _ => rfl) (in_one l) (by unfold maxLen; omega) (by omega) (by simp) ?_
    intro v5 w5 hown hgrow
    rw [Nat.zero_add, List.nil_append] at hown
    have b5 := ((Below.refl w.heap.size w).alloc (Nat.le_refl _) (.cells #[] 2)).grown hgrow (by simp) (fun g hg => by simp [Value.ownBlock] at hg; omega)
    clear hgrow
    have hn : l.length = 3 ∨ l.length = 5 := by
      have : (l.length : Int) = 3 ∨ (l.length : Int) = 5 := by simpa [M.cok] using hk
      omega
    obtain ⟨g, cr, rfl, hgw⟩ : ∃ g cr, v5 = .slice (some ⟨g, 0, none⟩) l.length cr ∧ w.heap.size ≤ g := by
      obtain ⟨hzl, ⟨hz, h0⟩ | ⟨g', cap, cur, hv, hbg, hhg, hnc, hcm, hcs, htk⟩⟩ := hown
      · omega
      · exact ⟨g', cap, hv, hbg⟩
    have HOWN := Lib.hid hown
    have HB5 := Lib.hid b5
    clear hown b5 i0 hi hz0 hz1 hz2 HL HA
    go_upto_region 6 with (fail)
    go_loopw [5, 6, 7] (fun i k x wr => ∃ (j : Nat) (s : List Int), i = .int .i64 j ∧ 1 ≤ j ∧ j ≤ l.length ∧ M.SameMany l s ∧ M.Falls s j ∧ wr.ownsRow w.heap.size 2 1 (.slice (some ⟨g, 0, none⟩) l.length cr) l.length (cellsOf inL s) ∧ Below w.heap.size w wr) (fun i _ _ _ => l.length - (intOf i).toNat)
    case atStart => exact ⟨1, l, rfl, by omega, by omega, M.SameMany.refl l, fun a b hab hb => by omega, HOWN.out, HB5.out⟩
    case round =>
      obtain ⟨j, s, rfl, hj1, hj, hsm, hf, hown, hbl⟩ := hrel
      have HS := Lib.hid hsm
      have HF := Lib.hid hf
      have HO := Lib.hid hown
      have HB := Lib.hid hbl
      have hsl : s.length = l.length := hsm.1
      clear hsm hf hown hbl
      by_cases hlt : j < l.length
      · go_upto_region 9 with (fail)
        go_loopw [6, 7] (fun k x wr => ∃ (q : Nat) (s : List Int), k = .int .i64 q ∧ q ≤ j ∧ M.SameMany l s ∧ M.FallsBut s j q ∧ wr.ownsRow w.heap.size 2 1 (.slice (some ⟨g, 0, none⟩) l.length cr) l.length (cellsOf inL s) ∧ Below w.heap.size w wr) (fun k _ _ => (intOf k).toNat)
        case atStart => exact ⟨j, s, rfl, by omega, HS.out, HF.out.start, HO.out, HB.out⟩
        case round =>
          clear HS HF HO HB hsl
          obtain ⟨q, s, rfl, hq, hsm, hf, hown, hbl⟩ := hrel
          have HS := Lib.hid hsm
          have HF := Lib.hid hf
          have HO := Lib.hid hown
          have HB := Lib.hid hbl
          have hsl : s.length = l.length := hsm.1
          clear hsm hf hown hbl
          rcases q with _ | q
          · go_wp2_with fail
            refine wp_region_seq (fun w' => Below wr.heap.size wr w') [(0, true), (1, true), (2, true), (3, true), (4, true), (5, true), (6, true), (7, true), (8, true), (9, true), (10, true), (11, true), (12, true), (13, true)] (by kernel_rfl) (by kernel_rfl) (fun _ _ _ _ _ h => h) (by kernel_rfl) (by decide) (Below.refl _ _).drew ?_
            intro hHeld
            repeat (first
              | (refine seq_skip (by simp only [List.getElem?_toArray, List.getElem?_cons_succ, List.getElem?_cons_zero]; first | done | rfl) (by rfl) ?_; (try simp only [Act.put, List.setIfInBounds_toArray, List.set_cons_zero, List.set_cons_succ]))
              | (refine seq_reads (by simp only [List.getElem?_toArray, List.getElem?_cons_succ, List.getElem?_cons_zero]; first | done | rfl) (by rfl) ?_; apply Exists.intro; apply And.intro; (focus (intro w hSw; obtain ⟨hcS, -⟩ := bcell hSw; go_simp; (try with_reducible rfl); done)); (try simp only [Act.put, List.setIfInBounds_toArray, List.set_cons_zero, List.set_cons_succ]))
              | (refine seq_pass (by simp only [List.getElem?_toArray, List.getElem?_cons_succ, List.getElem?_cons_zero]; first | done | rfl) (by rfl) hHeld ?_; clear hHeld; intro hHeld; (try simp only [Act.put, List.setIfInBounds_toArray, List.set_cons_zero, List.set_cons_succ])))
            refine seq_end ?_
            go_wp2
            go_roundw
            case rel => exact ⟨j + 1, s, by go_num, by omega, by omega, HS.out, HF.out.first, HO.out, HB.out.drew⟩
            case measure => simp [intOf]; omega
          · have c1 := own_int HO.out (by omega : q + 1 < s.length)
            have c0 := own_int HO.out (by omega : q < s.length)
            have f1 := HO.out.frozenAt (q + 1)
            have f0 := HO.out.frozenAt q
            have hi1 : q + 1 < l.length := by omega
            have hi0 : q < l.length := by omega
            have hwq : IntKind.i64.wrap (q : Int) = q := by simp [IntKind.wrap, IntKind.bits, IntKind.signed]; omega
            have hgl : g < wr.heap.size := World.block_lt_of_cell? wr _ c1
            by_cases hlt2 : s[q] < s[q + 1]
            · go_wp2_with fail
              refine wp_region_seq (fun w' => Below wr.heap.size wr w') [(0, true), (1, true), (2, true), (3, true), (4, true), (5, true), (6, true), (7, true), (8, true), (9, true), (10, true), (11, true), (12, true), (13, true)] (by kernel_rfl) (by kernel_rfl) (fun _ _ _ _ _ h => h) (by kernel_rfl) (by decide) (Below.refl _ _).drew ?_
              intro hHeld
              repeat (first
                | (refine seq_skip (by simp only [List.getElem?_toArray, List.getElem?_cons_succ, List.getElem?_cons_zero]; first | done | rfl) (by rfl) ?_; (try simp only [Act.put, List.setIfInBounds_toArray, List.set_cons_zero, List.set_cons_succ]))
                | (refine seq_reads (by simp only [List.getElem?_toArray, List.getElem?_cons_succ, List.getElem?_cons_zero]; first | done | rfl) (by rfl) ?_; apply Exists.intro; apply And.intro; (focus (intro w hSw; obtain ⟨hcS, -⟩ := bcell hSw; go_simp; (try simp only [hwq, Int.toNat_natCast]); (first | done | (with_reducible rfl) | (rw [if_pos (by omega)]; done) | (rw [if_pos (by omega)]; with_reducible rfl) | (simp only [hcS _ _ hgl, c0, c1]; first | done | (go_simp; first | done | with_reducible rfl)) | (trace_state; fail)))); (try simp only [Act.put, List.setIfInBounds_toArray, List.set_cons_zero, List.set_cons_succ]))
                | (refine seq_pass (by simp only [List.getElem?_toArray, List.getElem?_cons_succ, List.getElem?_cons_zero]; first | done | rfl) (by rfl) hHeld ?_; clear hHeld; intro hHeld; (try simp only [Act.put, List.setIfInBounds_toArray, List.set_cons_zero, List.set_cons_succ])))
              refine seq_end ?_
              go_wp2
              refine ⟨⟨q, (s.set (q + 1) s[q]).set q s[q + 1], rfl, by omega, HS.out.swap (by omega) (by omega) (by omega), HF.out.step (by omega) (by omega) (by omega) hlt2, ?_, ?_⟩, ?_⟩
              · have h := ((HO.out.stored (q + 1) (.int .i64 s[q])).1.stored q (.int .i64 s[q + 1])).1
                rw [cells_map] at h ⊢
                rw [List.map_set, List.map_set]
                exact h
              · exact (farM (farM HB.out hgw _ _) hgw _ _).drew
              · simp [intOf]
            · go_wp2_with fail
              refine wp_region_seq (fun w' => Below wr.heap.size wr w') [(0, true), (1, true), (2, true), (3, true), (4, true), (5, true), (6, true), (7, true), (8, true), (9, true), (10, true), (11, true), (12, true), (13, true)] (by kernel_rfl) (by kernel_rfl) (fun _ _ _ _ _ h => h) (by kernel_rfl) (by decide) (Below.refl _ _).drew ?_
              intro hHeld
              repeat (first
                | (refine seq_skip (by simp only [List.getElem?_toArray, List.getElem?_cons_succ, List.getElem?_cons_zero]; first | done | rfl) (by rfl) ?_; (try simp only [Act.put, List.setIfInBounds_toArray, List.set_cons_zero, List.set_cons_succ]))
                | (refine seq_reads (by simp only [List.getElem?_toArray, List.getElem?_cons_succ, List.getElem?_cons_zero]; first | done | rfl) (by rfl) ?_; apply Exists.intro; apply And.intro; (focus (intro w hSw; obtain ⟨hcS, -⟩ := bcell hSw; go_simp; (try simp only [hwq, Int.toNat_natCast]); (first | done | (with_reducible rfl) | (rw [if_pos (by omega)]; done) | (rw [if_pos (by omega)]; with_reducible rfl) | (simp only [hcS _ _ hgl, c0, c1]; first | done | (go_simp; first | done | with_reducible rfl)) | (trace_state; fail)))); (try simp only [Act.put, List.setIfInBounds_toArray, List.set_cons_zero, List.set_cons_succ]))
                | (refine seq_pass (by simp only [List.getElem?_toArray, List.getElem?_cons_succ, List.getElem?_cons_zero]; first | done | rfl) (by rfl) hHeld ?_; clear hHeld; intro hHeld; (try simp only [Act.put, List.setIfInBounds_toArray, List.set_cons_zero, List.set_cons_succ])))
              refine seq_end ?_
              go_wp2
              go_roundw
              case rel => exact ⟨j + 1, s, by go_num, by omega, by omega, HS.out, HF.out.stands (by omega) (by omega) (by omega) (by show s[q + 1] ≤ s[q]; omega), HO.out, HB.out.drew⟩
              case measure => simp [intOf]; omega
      · have hj' : j = l.length := by omega
        subst hj'
        rcases hn with h3 | h5
        · have hm : M.most (l.length : Int) = 2 := by rw [h3]; rfl
          have HM : Hid (M.most (l.length : Int) = 2) := Lib.hid hm
          obtain ⟨r, c1, HR⟩ : ∃ r, wr.cell? ⟨g, 1, none⟩ = some (.int .i64 r) ∧ Hid (ReachedIs l r) := by
            refine ⟨s[1]'(by omega), own_int HO.out (by omega : 1 < s.length), Lib.hid ?_⟩
            unfold ReachedIs
            rw [hk, hm]
            refine HS.out.reach ?_
            have hs' : s.length = 3 := by omega
            have hfs := HF.out
            rw [h3] at hfs
            exact hfs.at3 hs' _
          have hlen' : 1 < l.length := by omega
          clear hm h3
          go_wp2_with (go_at_call 19; refine (specMostOf _ _).mono ?_; rintro e w' ⟨rfl, rfl⟩; rw [HM.out])
          go_ret
          exact ⟨_, rfl, HR.out, HB.out⟩
        · have hm : M.most (l.length : Int) = 3 := by rw [h5]; rfl
          have HM : Hid (M.most (l.length : Int) = 3) := Lib.hid hm
          obtain ⟨r, c1, HR⟩ : ∃ r, wr.cell? ⟨g, 2, none⟩ = some (.int .i64 r) ∧ Hid (ReachedIs l r) := by
            refine ⟨s[2]'(by omega), own_int HO.out (by omega : 2 < s.length), Lib.hid ?_⟩
            unfold ReachedIs
            rw [hk, hm]
            refine HS.out.reach ?_
            have hs' : s.length = 5 := by omega
            have hfs := HF.out
            rw [h5] at hfs
            exact hfs.at5 hs' _
          have hlen' : 2 < l.length := by omega
          clear hm h5
          go_wp2_with (go_at_call 19; refine (specMostOf _ _).mono ?_; rintro e w' ⟨rfl, rfl⟩; rw [HM.out])
          go_ret
          exact ⟨_, rfl, HR.out, HB.out⟩
end Go.Proofs.Ytnelgadfgeakjaa
