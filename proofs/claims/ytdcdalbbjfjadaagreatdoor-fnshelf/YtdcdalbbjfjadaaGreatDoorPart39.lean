/- Proved, in parts: Proved: the model's ShowShelf answers the shelf's text; it writes nothing that was there. Condition: texts and lists of at most a million. -/
import Derived.Test.YtdcdalbbjfjadaaGreatDoorPart38
import Derived.Test.YtdcdalbbjfjadaaGreatDoorPart28
namespace Go.Proofs.YtdcdalbbjfjadaaGreatDoor
open Go.RowKit
set_option maxRecDepth 20000

theorem StrRow.form {B : Nat} {w : World} {v : Value} {ls : List (List UInt8)} (h : StrRow B w v ls) : ∃ A c, v = .slice A ls.length c ∧ ∀ j (hj : j < ls.length), ∃ b, A = some ⟨b, 0, none⟩ ∧ w.cell? ⟨b, j, none⟩ = some (strOf ls[j]) := by
  by_cases hne : ls = []
  · subst hne
    obtain ⟨_, ⟨rfl, _⟩ | ⟨g, cap, cur, rfl, _⟩⟩ := h
    · exact ⟨none, 0, rfl, fun j hj => by simp at hj⟩
    · exact ⟨_, cap, rfl, fun j hj => by simp at hj⟩
  · obtain ⟨g, cap, rfl, _, _, hc⟩ := h.open hne
    exact ⟨_, cap, rfl, fun j hj => ⟨g, rfl, hc j hj⟩⟩

set_option maxHeartbeats 1000000 in
theorem l1Words_any {B : Nat} {v : Value} {ls : List (List UInt8)} {sep : ByteArray} (w : World) (h : StrRow B w v ls) (hx : ∀ x ∈ ls, x.length ≤ 1000) (hl : ls.length ≤ 100) (hs : sep.size ≤ 10) :
    Calls Tryz.prog 42 #[v, .string sep] w fun e w' => e = .returned (strOf (Lib.join ls sep.data.toList)) ∧ w = w' := by
  obtain ⟨A, c, rfl, hc⟩ := h.form
  have HC := Lib.hid hc
  clear hc h
  have HX := Lib.hid hx
  clear hx
  go_enter Tryz.func42, Tryz.ntmps42
  go_wp2
  go_loop [5, 6] (fun s i => ∃ (j : Nat) (T : ByteArray), i = .int .i64 j ∧ s = .string T ∧ j ≤ ls.length ∧ T.data.toList = Lib.join (ls.take j) sep.data.toList) (fun _ i => ls.length - (intOf i).toNat)
  case atStart => exact ⟨0, ⟨#[]⟩, rfl, rfl, Nat.zero_le _, by simp [Lib.join_nil]⟩
  case round =>
    obtain ⟨j, T, rfl, rfl, hj, hT⟩ := hrel
    have HT := Lib.hid hT
    clear hT
    by_cases hlt : j < ls.length
    · obtain ⟨b, hA, hcell⟩ := HC.out j hlt
      subst hA
      have hcell' : w.cell? ⟨b, j, none⟩ = some (.string ⟨ls[j].toArray⟩) := hcell
      clear hcell
      have hxj := HX.out _ (List.getElem_mem hlt)
      have hTs : T.size ≤ 200000 := by
        have h1 := M.join_len sep.data.toList 1000 (ls.take j) (fun x hx => HX.out x (List.mem_of_mem_take hx))
        rw [← HT.out] at h1
        have h2 : T.data.toList.length = T.size := by simp
        have h3 : sep.data.toList.length = sep.size := by simp
        rw [h2, h3, List.length_take] at h1
        have h4 : min j ls.length * (1000 + sep.size) ≤ 100 * 1010 := Nat.mul_le_mul (by omega) (by omega)
        omega
      by_cases h0 : j = 0
      · obtain ⟨U, _, hU, kU⟩ := cat_ex Tryz.prog T ⟨ls[j].toArray⟩ (by rw [ba_size ls[j]]; omega)
        have HU : Hid (U.data.toList = Lib.join (ls.take (j + 1)) sep.data.toList) := Lib.hid (by
          have hj0 : ls.take j = [] := by rw [h0]; rfl
          rw [M.join_take _ _ _ hlt, if_pos h0, hU, HT.out, hj0]; simp [Lib.join_nil])
        have e0 : decide (0 < j) = false := by simp; omega
        have H0 := Lib.hid h0
        clear h0 hU
        go_wp2
        go_round
        case rel => exact ⟨j + 1, U, by go_num, rfl, by omega, HU.out⟩
        case measure => simp [intOf]; omega
      · obtain ⟨V, hVs, hV, kV⟩ := cat_ex Tryz.prog T sep (by omega)
        obtain ⟨U, _, hU, kU⟩ := cat_ex Tryz.prog V ⟨ls[j].toArray⟩ (by rw [ba_size ls[j]]; omega)
        have HU : Hid (U.data.toList = Lib.join (ls.take (j + 1)) sep.data.toList) := Lib.hid (by
          rw [M.join_take _ _ _ hlt, if_neg h0, hU, hV, HT.out]; simp)
        have e0 : decide (0 < j) = true := by simp; omega
        have H0 := Lib.hid h0
        clear h0 hU hV hVs
        go_wp2
        go_round
        case rel => exact ⟨j + 1, U, by go_num, rfl, by omega, HU.out⟩
        case measure => simp [intOf]; omega
    · have hj' : j = ls.length := by omega
      have HE : Hid (T.data.toList = Lib.join ls sep.data.toList) := Lib.hid (by rw [HT.out, hj', List.take_length])
      go_wp2
      go_ret
      exact ⟨ret_text HE.out, rfl⟩

set_option maxHeartbeats 4000000 in
theorem specShowShelf (A : Option Addr) (l : List Wr) (cap : Nat) (w : World) (hl : Wks w A l) (hlen : l.length ≤ 1048576) (hp : WrsIn 1048576 l) :
    Calls Tryz.prog 15 #[.slice A l.length cap] w fun e w' => e = .returned (strOf (M.sfShow (l.map Wr.wk))) ∧ Below w.heap.size w w' := by
  have HP := Lib.hid hp
  have HL := Lib.hid hl
  clear hp hl
  obtain ⟨i0, hi, hz0, hz1, hz2⟩ := info_parts Tryz.infoStr
  go_enter Tryz.func15, Tryz.ntmps15
  go_wp2
  go_loopw [3, 4] (fun v i wr => ∃ j : Nat, i = .int .i64 j ∧ j ≤ l.length ∧ (M.sfOk (l.map Wr.wk) = false → j = 0) ∧ (0 < j → M.sfOk (l.map Wr.wk) = true) ∧ StrRow w.heap.size wr v ((txts l).take j) ∧ Below w.heap.size w wr) (fun _ i _ => l.length - (intOf i).toNat)
  case atStart => exact ⟨0, rfl, Nat.zero_le _, fun _ => rfl, fun h => absurd h (by omega), World.ownsRow_made w #[] 0 (Nat.le_refl _) (Nat.zero_le _) rfl, (Below.refl _ _).alloc (Nat.le_refl _) _⟩
  case round =>
    obtain ⟨j, rfl, hj, h0, h1, hrow, hb⟩ := hrel
    have H0 := Lib.hid h0
    have H1 := Lib.hid h1
    have HROW := Lib.hid hrow
    clear h0 h1 hrow
    by_cases hex : j < l.length ∧ M.sfOk (l.map Wr.wk) = true
    · obtain ⟨hlt, hk⟩ := hex
      obtain ⟨hall, h5⟩ := M.sfOk_all hk
      simp only [List.length_map] at h5
      have hok := hall _ (List.mem_map_of_mem (List.getElem_mem hlt))
      have ho := M.wkOk_owner hok
      have hnl : l[j].name.size ≤ 8 := by have := M.wkOk_name hok; simpa [Wr.wk] using this
      have HCP : Hid (∀ c ∈ l[j].cps, M.cpOk c = true) := Lib.hid (M.wkOk_cp hok)
      have hcl : l[j].cps.length ≤ 8 := M.wkOk_len hok
      have HOK := Lib.hid hok
      have HK := Lib.hid hk
      simp only [Wr.wk] at ho
      have hint : ∀ y, Calls Tryz.prog 40 #[.int .i64 l[j].owner] y fun r w' => r = .returned (.string ⟨(M.intText l[j].owner).toArray⟩) ∧ Below y.heap.size y w' := fun y => by
        obtain ⟨n, hn⟩ := Int.eq_ofNat_of_zero_le ho.1
        rw [hn]
        have e : M.intText (n : Int) = M.digs n := by unfold M.intText; rw [if_neg (by omega)]; rfl
        rw [e]
        exact l1Int_pos n (by omega) y
      have hil := M.intText_length l[j].owner
      obtain ⟨t1, hs1, ht1, k1⟩ := cat_ex Tryz.prog l[j].name ⟨#[64]⟩ (by rw [one_size]; omega)
      have hz1t : t1.size ≤ 9 := by rw [hs1, one_size]; omega
      obtain ⟨t2, hs2, ht2, k2⟩ := cat_ex Tryz.prog t1 ⟨(M.intText l[j].owner).toArray⟩ (by rw [ba_size (M.intText l[j].owner)]; omega)
      have HT2 : Hid (t2.data.toList = M.wkHead l[j].wk) := Lib.hid (by rw [ht2, ht1]; simp [M.wkHead, Wr.wk])
      clear hs1 hs2 ht1 ht2 hil hnl hz1t hok hk hall
      go_wp2_with fail
      refine (specShelfOk A l cap _ (HL.out.below hb) hlen HP.out).mono ?_
      rintro e y ⟨rfl, by0⟩
      rw [HK.out]
      have hby := next hb by0
      have HRY := Lib.hid (Own.below HROW.out by0)
      obtain ⟨b, o, hA, lb, c0, c1, c2, hcps⟩ := Wks_at (HL.out.below hby) hlt
      have HCC := Lib.hid hcps
      clear hcps by0 HROW
      subst hA
      go_wp2_with fail
      refine wp_region_seq (fun w' => Below y.heap.size y w') [(0, true), (1, true), (2, true), (3, true), (4, true), (5, true), (6, true), (7, true), (8, true), (9, true), (10, true), (11, false), (12, true), (13, true)] (by kernel_rfl) (by kernel_rfl) (fun _ _ _ _ _ h => h) (by kernel_rfl) (by decide) (Below.refl _ _).drew ?_
      intro hHeld
      repeat (first
        | (refine seq_skip (by simp only [List.getElem?_toArray, List.getElem?_cons_succ, List.getElem?_cons_zero]; first | done | rfl) (by rfl) ?_; (try simp only [Act.put, List.setIfInBounds_toArray, List.set_cons_zero, List.set_cons_succ]))
        | (refine seq_reads (by simp only [List.getElem?_toArray, List.getElem?_cons_succ, List.getElem?_cons_zero]; first | done | rfl) (by rfl) ?_; apply Exists.intro; apply And.intro; (focus (intro w hSw; obtain ⟨hcS, -⟩ := bcell hSw; go_simp; (try with_reducible rfl); done)); (try simp only [Act.put, List.setIfInBounds_toArray, List.set_cons_zero, List.set_cons_succ]))
        | (refine seq_pass (by simp only [List.getElem?_toArray, List.getElem?_cons_succ, List.getElem?_cons_zero]; first | done | rfl) (by rfl) hHeld ?_; clear hHeld; intro hHeld; (try simp only [Act.put, List.setIfInBounds_toArray, List.set_cons_zero, List.set_cons_succ]))
        | (refine seq_call (by simp only [List.getElem?_toArray, List.getElem?_cons_succ, List.getElem?_cons_zero]; first | done | rfl) (by rfl) (fun K hK => ?_); go_simp; go_at_call 40; refine (hint _).mono ?_; rintro r w1 ⟨rfl, b1⟩; go_simp; refine hK.out _ _ (next hHeld b1) ?_; clear hK hHeld; intro hHeld; (try simp only [Act.put, List.setIfInBounds_toArray, List.set_cons_zero, List.set_cons_succ])))
      refine seq_end ?_
      have HB5 := Lib.hid hHeld
      clear hHeld k1 k2 hint c0 c1 c2
      go_wp2
      go_loopw [5, 6] (fun t i2 wr2 => ∃ (k : Nat) (T : ByteArray), i2 = .int .i64 k ∧ t = .string T ∧ k ≤ l[j].cps.length ∧ T.data.toList = Lib.join (M.wkHead l[j].wk :: (l[j].cps.take k).map M.cpText) [32] ∧ Below y.heap.size y wr2) (fun _ i2 _ => l[j].cps.length - (intOf i2).toNat)
      case atStart => exact ⟨0, t2, rfl, rfl, Nat.zero_le _, by rw [HT2.out]; simp [Lib.join_one], HB5.out⟩
      case round =>
        clear HB5
        obtain ⟨k, T, rfl, rfl, hkl, hT, hbi⟩ := hrel
        have HT := Lib.hid hT
        clear hT
        obtain ⟨b', o', hA, lb', c0, c1, c2, -⟩ := Wks_at ((HL.out.below hby).below hbi) hlt
        obtain ⟨rfl, rfl⟩ : b = b' ∧ o = o' := by simpa using hA
        clear hA
        by_cases hklt : k < l[j].cps.length
        · obtain ⟨g, p, hB, lg, d0, d1, d2, d3, d4⟩ := Cps_at (HCC.out.below hbi) hklt
          rw [hB] at c2
          have hcok := HCP.out _ (List.getElem_mem hklt)
          have hed : M.edOk l[j].cps[k].ed = true := by simp only [M.cpOk, Bool.and_eq_true] at hcok; exact hcok.1
          have hpl : l[j].cps[k].page.size ≤ 12 := by
            simp only [M.cpOk, Bool.and_eq_true, M.pageOk, decide_eq_true_eq] at hcok
            have := hcok.2.1
            simpa using this
          have hel := M.edText_len _ hed
          have hshow : ∀ x, Calls Tryz.prog 41 #[edV l[j].cps[k].ed] x fun r w' => r = .returned (.string ⟨(M.edText l[j].cps[k].ed).toArray⟩) ∧ Below x.heap.size x w' := fun x => l2Show_any _ x hed
          have hTs : T.size ≤ 1000 := by
            have h1 := M.join_len [32] 76 (M.wkHead l[j].wk :: (l[j].cps.take k).map M.cpText) (fun x hx => by
              rcases List.mem_cons.1 hx with rfl | hx
              · have := M.wkHead_len HOK.out; omega
              · obtain ⟨c, hc, rfl⟩ := List.mem_map.1 hx
                exact M.cpText_len (HCP.out c (List.mem_of_mem_take hc)))
            rw [← HT.out] at h1
            have h2 : T.data.toList.length = T.size := by simp
            rw [h2] at h1
            simp only [List.length_cons, List.length_map, List.length_take, List.length_nil] at h1
            have h4 : (min k l[j].cps.length + 1) * (76 + (0 + 1)) ≤ 9 * 77 := Nat.mul_le_mul (by omega) (by omega)
            omega
          obtain ⟨u1, s1, hu1, j1⟩ := cat_ex Tryz.prog T ⟨#[32]⟩ (by rw [one_size]; omega)
          rw [one_size] at s1
          obtain ⟨u2, s2, hu2, j2⟩ := cat_ex Tryz.prog u1 ⟨(M.edText l[j].cps[k].ed).toArray⟩ (by rw [ba_size (M.edText l[j].cps[k].ed)]; omega)
          rw [ba_size (M.edText l[j].cps[k].ed)] at s2
          obtain ⟨u3, s3, hu3, j3⟩ := cat_ex Tryz.prog u2 ⟨#[61]⟩ (by rw [one_size]; omega)
          rw [one_size] at s3
          obtain ⟨u4, s4, hu4, j4⟩ := cat_ex Tryz.prog u3 l[j].cps[k].page (by omega)
          obtain ⟨u5, s5, hu5, j5⟩ := cat_ex Tryz.prog u4 ⟨#[42]⟩ (by rw [one_size]; omega)
          have e1 : M.wkHead l[j].wk :: (l[j].cps.take (k + 1)).map M.cpText = M.wkHead l[j].wk :: ((l[j].cps.take k).map M.cpText ++ [M.cpText l[j].cps[k]]) := by
            rw [List.take_succ_eq_append_getElem hklt, List.map_append]; rfl
          have hU4 : u4.data.toList = T.data.toList ++ ([32] ++ (M.edText l[j].cps[k].ed ++ ([61] ++ l[j].cps[k].page.data.toList))) := by rw [hu4, hu3, hu2, hu1]; simp
          have hU5 : u5.data.toList = T.data.toList ++ ([32] ++ (M.edText l[j].cps[k].ed ++ ([61] ++ (l[j].cps[k].page.data.toList ++ [42])))) := by rw [hu5, hU4]; simp
          clear s1 s2 s3 s4 s5 hu1 hu2 hu3 hu4 hu5 hel hpl hed hcok hTs
          rcases hh : l[j].cps[k].hidden with _ | _
          · have HU : Hid (u4.data.toList = Lib.join (M.wkHead l[j].wk :: (l[j].cps.take (k + 1)).map M.cpText) [32]) := Lib.hid (by
              rw [e1, M.join_snoc, ← HT.out, hU4]; simp [M.cpText, hh])
            clear hU4 hU5 e1
            rw [hh] at d4
            have b9 := hbi.alloc hbi.size (.cells #[.int .i64 l[j].cps[k].ed.ma, .int .i64 l[j].cps[k].ed.mi, .int .i64 l[j].cps[k].ed.pa, .string l[j].cps[k].page, .bool false] 71)
            have hH := holds_new wr #[.int .i64 l[j].cps[k].ed.ma, .int .i64 l[j].cps[k].ed.mi, .int .i64 l[j].cps[k].ed.pa, .string l[j].cps[k].page, .bool false] 71
            go_wp2_with fail
            generalize wr.alloc (.cells #[.int .i64 l[j].cps[k].ed.ma, .int .i64 l[j].cps[k].ed.mi, .int .i64 l[j].cps[k].ed.pa, .string l[j].cps[k].page, .bool false] 71) = W at b9 hH ⊢
            obtain ⟨p0, p1, p2, p3, p4⟩ := hH.five
            have pl := hH.1
            refine wp_region_seq (fun w' => Below W.heap.size W w') [(0, true), (1, true), (2, true), (3, true), (7, true), (8, true), (4, false), (5, true), (6, true), (9, true), (10, true)] (by kernel_rfl) (by kernel_rfl) (fun _ _ _ _ _ h => h) (by kernel_rfl) (by decide) (Below.refl _ _).drew ?_
            intro hHeld
            repeat (first
              | (refine seq_skip (by simp only [List.getElem?_toArray, List.getElem?_cons_succ, List.getElem?_cons_zero]; first | done | rfl) (by rfl) ?_; (try simp only [Act.put, List.setIfInBounds_toArray, List.set_cons_zero, List.set_cons_succ]))
              | (refine seq_reads (by simp only [List.getElem?_toArray, List.getElem?_cons_succ, List.getElem?_cons_zero]; first | done | rfl) (by rfl) ?_; apply Exists.intro; apply And.intro; (focus (intro w hSw; obtain ⟨hcS, -⟩ := bcell hSw; go_simp; (try with_reducible rfl); done)); (try simp only [Act.put, List.setIfInBounds_toArray, List.set_cons_zero, List.set_cons_succ]))
              | (refine seq_pass (by simp only [List.getElem?_toArray, List.getElem?_cons_succ, List.getElem?_cons_zero]; first | done | rfl) (by rfl) hHeld ?_; clear hHeld; intro hHeld; (try simp only [Act.put, List.setIfInBounds_toArray, List.set_cons_zero, List.set_cons_succ]))
              | (refine seq_call (by simp only [List.getElem?_toArray, List.getElem?_cons_succ, List.getElem?_cons_zero]; first | done | rfl) (by rfl) (fun K hK => ?_); go_simp; go_at_call 41; refine (hshow _).mono ?_; rintro r w1 ⟨rfl, b1⟩; go_simp; refine hK.out _ _ (next hHeld b1) ?_; clear hK hHeld; intro hHeld; (try simp only [Act.put, List.setIfInBounds_toArray, List.set_cons_zero, List.set_cons_succ])))
            refine seq_end ?_
            obtain ⟨bc, -⟩ := bcell hHeld
            replace b9 := next b9 hHeld
            go_wp2
            go_roundw
            case rel => exact ⟨k + 1, u4, by go_num, rfl, by omega, HU.out, b9⟩
            case measure => simp [intOf]; omega
          · have HU : Hid (u5.data.toList = Lib.join (M.wkHead l[j].wk :: (l[j].cps.take (k + 1)).map M.cpText) [32]) := Lib.hid (by
              rw [e1, M.join_snoc, ← HT.out, hU5]; simp [M.cpText, hh])
            clear hU4 hU5 e1
            rw [hh] at d4
            have b9 := hbi.alloc hbi.size (.cells #[.int .i64 l[j].cps[k].ed.ma, .int .i64 l[j].cps[k].ed.mi, .int .i64 l[j].cps[k].ed.pa, .string l[j].cps[k].page, .bool true] 71)
            have hH := holds_new wr #[.int .i64 l[j].cps[k].ed.ma, .int .i64 l[j].cps[k].ed.mi, .int .i64 l[j].cps[k].ed.pa, .string l[j].cps[k].page, .bool true] 71
            go_wp2_with fail
            generalize wr.alloc (.cells #[.int .i64 l[j].cps[k].ed.ma, .int .i64 l[j].cps[k].ed.mi, .int .i64 l[j].cps[k].ed.pa, .string l[j].cps[k].page, .bool true] 71) = W at b9 hH ⊢
            obtain ⟨p0, p1, p2, p3, p4⟩ := hH.five
            have pl := hH.1
            refine wp_region_seq (fun w' => Below W.heap.size W w') [(0, true), (1, true), (2, true), (3, true), (7, true), (8, true), (4, false), (5, true), (6, true), (9, true), (10, true)] (by kernel_rfl) (by kernel_rfl) (fun _ _ _ _ _ h => h) (by kernel_rfl) (by decide) (Below.refl _ _).drew ?_
            intro hHeld
            repeat (first
              | (refine seq_skip (by simp only [List.getElem?_toArray, List.getElem?_cons_succ, List.getElem?_cons_zero]; first | done | rfl) (by rfl) ?_; (try simp only [Act.put, List.setIfInBounds_toArray, List.set_cons_zero, List.set_cons_succ]))
              | (refine seq_reads (by simp only [List.getElem?_toArray, List.getElem?_cons_succ, List.getElem?_cons_zero]; first | done | rfl) (by rfl) ?_; apply Exists.intro; apply And.intro; (focus (intro w hSw; obtain ⟨hcS, -⟩ := bcell hSw; go_simp; (try with_reducible rfl); done)); (try simp only [Act.put, List.setIfInBounds_toArray, List.set_cons_zero, List.set_cons_succ]))
              | (refine seq_pass (by simp only [List.getElem?_toArray, List.getElem?_cons_succ, List.getElem?_cons_zero]; first | done | rfl) (by rfl) hHeld ?_; clear hHeld; intro hHeld; (try simp only [Act.put, List.setIfInBounds_toArray, List.set_cons_zero, List.set_cons_succ]))
              | (refine seq_call (by simp only [List.getElem?_toArray, List.getElem?_cons_succ, List.getElem?_cons_zero]; first | done | rfl) (by rfl) (fun K hK => ?_); go_simp; go_at_call 41; refine (hshow _).mono ?_; rintro r w1 ⟨rfl, b1⟩; go_simp; refine hK.out _ _ (next hHeld b1) ?_; clear hK hHeld; intro hHeld; (try simp only [Act.put, List.setIfInBounds_toArray, List.set_cons_zero, List.set_cons_succ])))
            refine seq_end ?_
            obtain ⟨bc, -⟩ := bcell hHeld
            replace b9 := next b9 hHeld
            go_wp2
            go_roundw
            case rel => exact ⟨k + 1, u5, by go_num, rfl, by omega, HU.out, b9⟩
            case measure => simp [intOf]; omega
        · have hk' : k = l[j].cps.length := by omega
          have HTW : Hid (T.data.toList = M.wkText l[j].wk) := Lib.hid (by rw [HT.out, hk', List.take_length]; rfl)
          have hry := Own.below HRY.out hbi
          have hPl : ((txts l).take j).length ≤ 5 := by simp only [List.length_take, List.length_map]; omega
          clear HT HRY
          go_wp2_with (at_builtin; refine wpList_append_own _ rfl _ _ 66 rfl w.heap.size 9 i0 (.string ⟨#[]⟩) 1 16 Tryz.underlying66 hi hz0 hz1 hz2 rfl (by decide) _ _ _ rfl (hry.alloc _) ⟨wr.heap.size, 0, none⟩ 1 1 [.string T] rfl rfl (cell_one_new _ _ _) (by simp [Value.oneCell']) (by unfold maxLen; omega) (by omega) (by have := (next hby hbi).size; simp; omega) ?_; intro v' w2 hown' hgrow _)
          go_roundw
          case rel =>
            refine ⟨j + 1, by go_num, by omega, (by intro h; rw [HK.out] at h; cases h), fun _ => HK.out, ?_, below_grow (next hby hbi) hry hgrow⟩
            have e1 : (txts l).take (j + 1) = (txts l).take j ++ [M.wkText l[j].wk] := by
              rw [List.take_succ_eq_append_getElem (by simpa using hlt)]; simp
            rw [e1]
            exact strRow_add hown' HTW.out
          case measure => simp [intOf]; omega
    · have HE : Hid (M.sfShow (l.map Wr.wk) = Lib.join ((txts l).take j) [47]) := Lib.hid (by
        unfold M.sfShow
        rcases hk : M.sfOk (l.map Wr.wk) with _ | _
        · rw [if_neg (by simp), H0.out hk]; rfl
        · have hj' : j = l.length := by
            rcases Nat.lt_or_ge j l.length with h' | h'
            · exact absurd ⟨h', hk⟩ hex
            · omega
          rw [if_pos rfl, hj', List.take_of_length_le (by simp)]
          unfold M.sfText
          rw [List.map_map]; rfl)
      have HXX : Hid ((∀ x ∈ (txts l).take j, x.length ≤ 1000) ∧ ((txts l).take j).length ≤ 100) := Lib.hid (by
        rcases Nat.eq_zero_or_pos j with h' | h'
        · subst h'; simp
        · obtain ⟨hall, h5⟩ := M.sfOk_all (H1.out h')
          simp only [List.length_map] at h5
          refine ⟨fun x hx => ?_, by simp only [List.length_take, List.length_map]; omega⟩
          obtain ⟨r, hr, rfl⟩ := List.mem_map.1 (List.mem_of_mem_take hx)
          exact Nat.le_trans (M.wkText_len (hall _ (List.mem_map_of_mem hr))) (by omega))
      by_cases hlt : j < l.length
      · have hk : M.sfOk (l.map Wr.wk) = false := by
          rcases h : M.sfOk (l.map Wr.wk) with _ | _
          · rfl
          · exact absurd ⟨hlt, h⟩ hex
        have HK := Lib.hid hk
        clear hk hex
        go_wp2_with fail
        refine (specShelfOk A l cap _ (HL.out.below hb) hlen HP.out).mono ?_
        rintro e y ⟨rfl, by0⟩
        rw [HK.out]
        have HRY := Lib.hid (Own.below HROW.out by0)
        go_wp2_with fail
        refine (l1Words_any (sep := ⟨#[47]⟩) _ HRY.out HXX.out.1 HXX.out.2 (by decide)).mono ?_
        rintro e y2 ⟨rfl, rfl⟩
        go_wp2
        go_ret
        exact ⟨by rw [HE.out]; rfl, next hb by0⟩
      · clear hex
        go_wp2_with fail
        refine (l1Words_any (sep := ⟨#[47]⟩) _ HROW.out HXX.out.1 HXX.out.2 (by decide)).mono ?_
        rintro e y2 ⟨rfl, rfl⟩
        go_wp2
        go_ret
        exact ⟨by rw [HE.out]; rfl, hb⟩
end Go.Proofs.YtdcdalbbjfjadaaGreatDoor
