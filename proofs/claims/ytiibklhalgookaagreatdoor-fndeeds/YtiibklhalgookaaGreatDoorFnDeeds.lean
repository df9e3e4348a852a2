/- Proved: the law FnDeeds returns true at every list of bytes, and the list reads afterwards as before; the variables of the library that the card lists lie as their initialisers lay them. -/
import Derived.Test.YtiibklhalgookaaGreatDoorDeedWords
import Derived.Test.YtiibklhalgookaaGreatDoorReadDd
import Derived.Test.YtiibklhalgookaaGreatDoorSpecReadDd
import Derived.Test.YtiibklhalgookaaGreatDoorDeedOkImpl
import Derived.Test.YtiibklhalgookaaGreatDoorDrawDd2
import Derived.Test.YtiibklhalgookaaGreatDoorEqlDd
import Derived.Test.YtiibklhalgookaaGreatDoorLaidOf
import Derived.Test.YtiibklhalgookaaGreatDoorCode
import Derived.Test.YtiibklhalgookaaGreatDoorOrdersBox
import Derived.Test.YtiibklhalgookaaGreatDoorTie
import Derived.Test.YtiibklhalgookaaGreatDoorCards
import Derived.Test.YtiibklhalgookaaGreatDoorShellD
import Derived.Test.YtiibklhalgookaaGreatDoorShell
import Derived.Lib.SmallJoins
namespace Go.Proofs.YtiibklhalgookaaGreatDoor.fnDeeds
open Go.ChangeShapes Go.WideShapes Go.ChangeAt Go.RowKit Go.Joins Go.Deep
open Go.ChangeMaps (open_string shut_string)
set_option linter.unusedVariables false

set_option maxRecDepth 100000 in
set_option maxHeartbeats 16000000 in
theorem walk (a0 : Option Addr) (len0 cap0 : Nat) (w : World) (hc : CodeOk w.heap.size w a0 len0) (hl : Laid w) :
    Calls Tryz.prog 3 #[.slice a0 len0 cap0] w fun e w' => e = .returned (.bool true) ∧ Below w.heap.size w w' := by
  have HC := Lib.hid hc
  clear hc
  by_cases hbig : 4096 < len0
  · go_enter Tryz.func3, Tryz.ntmps3
    go_wp2_with fail
    refine (big_any a0 len0 cap0 _).mono ?_
    rintro e w' ⟨rfl, rfl⟩
    go_wp2
    go_ret
    exact ⟨rfl, Below.refl _ _⟩
  · have hl4 : len0 ≤ 4096 := by omega
    go_enter Tryz.func3, Tryz.ntmps3
    go_wp2_with fail
    refine (big_any a0 len0 cap0 _).mono ?_
    rintro e w' ⟨rfl, rfl⟩
    go_wp2_with fail
    refine (DrawShowDeed_any _ a0 len0 cap0 hl4 HC.out).mono ?_
    rintro r x1 ⟨d, ⟨hd1, hd2⟩, rfl, b1⟩
    have hdn : d.name.size ≤ maxLen := Nat.le_trans hd1 (by unfold maxLen; omega)
    have hdp : d.page.size ≤ maxLen := Nat.le_trans hd2 (by unfold maxLen; omega)
    have HC1 := Lib.hid ((HC.out.later b1).alloc (Nat.le_refl _) (.cells (ddC d) 27))
    have bb := b1.alloc b1.size (.cells (ddC d) 27)
    have td := holds_new x1 (ddC d) 27
    clear HC b1
    go_wp2_with fail
    refine (implShowDeed d _ hdn hdp).mono ?_
    rintro r x2 ⟨hr, b2⟩
    obtain rfl : r = .returned (.string ⟨(M.deedShow d).toArray⟩) := hr
    have HC2 := Lib.hid ((HC1.out.later' (by simp)).later b2)
    replace td := td.below b2
    replace bb := next bb b2
    clear HC1 b2
    go_wp2_with fail
    refine (DrawReadDeed_any _ a0 len0 cap0 hl4 HC2.out).mono ?_
    rintro r x3 ⟨t, ht0, rfl, b3⟩
    have ht : t.size ≤ 1048576 := by omega
    replace td := td.below b3
    replace bb := next bb b3
    clear HC2 b3
    go_wp2_with fail
    refine (implReadDeed t _ ht (hl.below bb)).mono ?_
    rintro r x4 ⟨rfl, b4⟩
    replace td := td.below b4
    replace bb := next bb b4
    replace td := td.alloc (.cells (ddC (M.deedRead t.data.toList).1) 27)
    replace bb := bb.alloc bb.size (.cells (ddC (M.deedRead t.data.toList).1) 27)
    have tx := holds_new x4 (ddC (M.deedRead t.data.toList).1) 27
    clear b4
    go_wp2_with fail
    refine (specReadDeed t _ ht).mono ?_
    rintro r x5 ⟨rfl, b5⟩
    replace td := td.below b5
    replace tx := tx.below b5
    replace bb := next bb b5
    replace td := td.alloc (.cells (ddC (M.deedRead t.data.toList).1) 27)
    replace tx := tx.alloc (.cells (ddC (M.deedRead t.data.toList).1) 27)
    replace bb := bb.alloc bb.size (.cells (ddC (M.deedRead t.data.toList).1) 27)
    have ty := holds_new x5 (ddC (M.deedRead t.data.toList).1) 27
    clear b5
    go_upto_region 8 with (fail)
    generalize hW : x5.alloc (.cells (ddC (M.deedRead t.data.toList).1) 27) = x6 at td tx ty bb ⊢
    clear hW
    obtain ⟨d0, d1, d2, d3, d4, d5, d6⟩ := td.seven
    obtain ⟨e0, e1, e2, e3, e4, e5, e6⟩ := tx.seven
    obtain ⟨f0, f1, f2, f3, f4, f5, f6⟩ := ty.seven
    have z1 := td.1
    have z2 := tx.1
    have z3 := ty.1
    have hs0 : ((⟨(M.deedShow d).toArray⟩ : ByteArray).toList != (⟨(M.deedShow d).toArray⟩ : ByteArray).toList) = false := by simp
    have hs1 : (M.deedOk d != M.deedOk d) = false := by simp
    have hs2 : ((M.deedRead t.data.toList).2 != (M.deedRead t.data.toList).2) = false := by simp
    go_cut [50] (fun s50 wx => s50 = .bool false ∧ Below x6.heap.size x6 wx)
    case first =>
      refine wp_region_seq (fun w' => Below x6.heap.size x6 w') [(0, true), (1, true), (2, true), (3, true), (4, true), (5, true), (6, true), (7, true), (8, true), (9, true), (10, true), (11, false), (12, true), (13, true), (14, true), (15, true), (17, true), (16, false), (18, false), (19, true), (20, true)] (by kernel_rfl) (by kernel_rfl) (fun _ _ _ _ _ h => h) (by kernel_rfl) (by decide) (Below.refl _ _).drew ?_
      intro hHeld
      repeat (first
        | (refine seq_skip (by simp only [List.getElem?_toArray, List.getElem?_cons_succ, List.getElem?_cons_zero]; first | done | rfl) (by rfl) ?_; (try simp only [Act.put, List.setIfInBounds_toArray, List.set_cons_zero, List.set_cons_succ]))
        | (refine seq_reads (by simp only [List.getElem?_toArray, List.getElem?_cons_succ, List.getElem?_cons_zero]; first | done | rfl) (by rfl) ?_; apply Exists.intro; apply And.intro; (focus (intro w hSw; obtain ⟨hcS, -⟩ := bcell hSw; go_simp; (try with_reducible rfl); done)); (try simp only [Act.put, List.setIfInBounds_toArray, List.set_cons_zero, List.set_cons_succ]))
        | (refine seq_pass (by simp only [List.getElem?_toArray, List.getElem?_cons_succ, List.getElem?_cons_zero]; first | done | rfl) (by rfl) hHeld ?_; clear hHeld; intro hHeld; (try simp only [Act.put, List.setIfInBounds_toArray, List.set_cons_zero, List.set_cons_succ]))
        | (refine seq_call (by simp only [List.getElem?_toArray, List.getElem?_cons_succ, List.getElem?_cons_zero]; first | done | rfl) (by rfl) (fun K hK => ?_); go_simp; go_at_call 10; refine (specShowDeed d _ hdn hdp).mono ?_; rintro r w1 ⟨hr, b1⟩; obtain rfl : r = .returned (.string ⟨(M.deedShow d).toArray⟩) := hr; go_simp; refine hK.out _ _ (next hHeld b1) ?_; clear hK hHeld; intro hHeld; (try simp only [Act.put, List.setIfInBounds_toArray, List.set_cons_zero, List.set_cons_succ]))
        | (refine seq_call (by simp only [List.getElem?_toArray, List.getElem?_cons_succ, List.getElem?_cons_zero]; first | done | rfl) (by rfl) (fun K hK => ?_); go_simp; go_at_call 11; refine (implDeedOk d _ hdn hdp).mono ?_; rintro r w1 ⟨rfl, b1⟩; go_simp; refine hK.out _ _ (next hHeld b1) ?_; clear hK hHeld; intro hHeld; (try simp only [Act.put, List.setIfInBounds_toArray, List.set_cons_zero, List.set_cons_succ]))
        | (refine seq_call (by simp only [List.getElem?_toArray, List.getElem?_cons_succ, List.getElem?_cons_zero]; first | done | rfl) (by rfl) (fun K hK => ?_); go_simp; go_at_call 12; refine (specDeedOk d _ hdn hdp).mono ?_; rintro r w1 ⟨rfl, b1⟩; go_simp; refine hK.out _ _ (next hHeld b1) ?_; clear hK hHeld; intro hHeld; (try simp only [Act.put, List.setIfInBounds_toArray, List.set_cons_zero, List.set_cons_succ])))
      refine seq_end ?_
      go_wp2
      go_meet
      exact ⟨rfl, hHeld⟩
    case rest =>
    obtain ⟨rfl, b7⟩ := hcut
    replace td := td.below b7
    replace tx := tx.below b7
    replace bb := next bb b7
    clear ty b7 d0 d1 d2 d3 d4 d5 d6 e0 e1 e2 e3 e4 e5 e6 f0 f1 f2 f3 f4 f5 f6 z1 z2 z3 hs0 hs1 hs2
    rcases h2 : (M.deedRead t.data.toList).2 with _ | _
    · have hz := M.deedRead_false h2
      rw [hz] at tx
      replace tx : Holds _ _ #[.int .i64 0, .string ⟨#[]⟩, .int .i64 0, .int .i64 0, .int .i64 0, .string ⟨#[]⟩, .int .i64 0] := tx
      obtain ⟨e0, e1, e2, e3, e4, e5, e6⟩ := tx.seven
      have z2 := tx.1
      clear hz
      go_upto_region 12 with (fail)
      clear e0 e1 e2 e3 e4 e5 e6 z2 tx
      rcases hok : M.deedOk d with _ | _
      · have hem : M.deedShow d = [] := (M.deedShow_empty d).2 hok
        have HK := Lib.hid hok
        obtain ⟨d0, d1, d2, d3, d4, d5, d6⟩ := td.seven
        have z1 := td.1
        rw [hem]
        clear hem hok
        go_wp2_with fail
        refine (implDeedOk d _ hdn hdp).mono ?_
        rintro r x8 ⟨rfl, b8⟩
        rw [HK.out]
        go_wp2
        go_ret
        exact ⟨rfl, next bb b8⟩
      · have hne : M.deedShow d ≠ [] := fun e => by rw [(M.deedShow_empty d).1 e] at hok; cases hok
        have HR : Hid (M.deedRead (⟨(M.deedShow d).toArray⟩ : ByteArray).data.toList = (d, true)) := Lib.hid (M.deedRead_show hok)
        have hsz : (⟨(M.deedShow d).toArray⟩ : ByteArray).size ≤ 1048576 := by have := show_len d; show (M.deedShow d).length ≤ _; omega
        obtain ⟨k1, k2⟩ := some_text (s := ⟨(M.deedShow d).toArray⟩) (by show (M.deedShow d).length ≠ 0; simpa using hne)
        have k3 : (M.deedShow d).isEmpty = false := by simpa using hne
        have k4 : (M.deedShow d == []) = false := by simpa using hne
        clear hok
        go_wp2_with fail
        refine (implReadDeed _ _ hsz (hl.below bb)).mono ?_
        rintro r x8 ⟨rfl, b8⟩
        rw [HR.out]
        replace td := (td.below b8).alloc (.cells (ddC d) 27)
        have tz := holds_new x8 (ddC d) 27
        obtain ⟨d0, d1, d2, d3, d4, d5, d6⟩ := td.seven
        have z1 := td.1
        replace bb := (next bb b8).alloc (next bb b8).size (.cells (ddC d) 27)
        clear b8 k1 k2 k3 k4 hne
        have hq1 : (d.kind == d.kind) = true := by simp
        have hq2 : (d.who == d.who) = true := by simp
        have hq3 : (d.ed.ma == d.ed.ma) = true := by simp
        have hq4 : (d.ed.mi == d.ed.mi) = true := by simp
        have hq5 : (d.ed.pa == d.ed.pa) = true := by simp
        go_wp2
        go_ret
        exact ⟨rfl, bb⟩
    · obtain ⟨hxo, hxt⟩ := M.deedRead_true h2
      have hxs : M.deedShow (M.deedRead t.data.toList).1 = t.data.toList := by unfold M.deedShow; rw [if_pos hxo]; exact hxt
      have hxn := M.deedOk_sizes hxo
      have hxn1 : (M.deedRead t.data.toList).1.name.size ≤ maxLen := Nat.le_trans hxn.1 (by unfold maxLen; omega)
      have hxn2 : (M.deedRead t.data.toList).1.page.size ≤ maxLen := Nat.le_trans hxn.2 (by unfold maxLen; omega)
      have HXO := Lib.hid hxo
      have HXS := Lib.hid (show (⟨(M.deedShow (M.deedRead t.data.toList).1).toArray⟩ : ByteArray) = t from ba_ext (by simpa using hxs))
      have hts : (t.toList != t.toList) = false := by simp
      obtain ⟨e0, e1, e2, e3, e4, e5, e6⟩ := tx.seven
      have z2 := tx.1
      clear hxo hxt hxs hxn
      go_wp2_with fail
      refine (implDeedOk _ _ hxn1 hxn2).mono ?_
      rintro r y1 ⟨rfl, c1⟩
      rw [HXO.out]
      replace td := td.below c1
      replace tx := tx.below c1
      replace bb := next bb c1
      clear e0 e1 e2 e3 e4 e5 e6 z2 c1
      obtain ⟨e0, e1, e2, e3, e4, e5, e6⟩ := tx.seven
      have z2 := tx.1
      go_wp2_with fail
      refine (implShowDeed _ _ hxn1 hxn2).mono ?_
      rintro r y2 ⟨hr, c2⟩
      obtain rfl : r = .returned (.string ⟨(M.deedShow (M.deedRead t.data.toList).1).toArray⟩) := hr
      rw [HXS.out]
      replace td := td.below c2
      replace bb := next bb c2
      clear e0 e1 e2 e3 e4 e5 e6 z2 c2 tx
      go_upto_region 12 with (fail)
      clear hts
      rcases hok : M.deedOk d with _ | _
      · have hem : M.deedShow d = [] := (M.deedShow_empty d).2 hok
        have HK := Lib.hid hok
        obtain ⟨d0, d1, d2, d3, d4, d5, d6⟩ := td.seven
        have z1 := td.1
        rw [hem]
        clear hem hok
        go_wp2_with fail
        refine (implDeedOk d _ hdn hdp).mono ?_
        rintro r x8 ⟨rfl, b8⟩
        rw [HK.out]
        go_wp2
        go_ret
        exact ⟨rfl, next bb b8⟩
      · have hne : M.deedShow d ≠ [] := fun e => by rw [(M.deedShow_empty d).1 e] at hok; cases hok
        have HR : Hid (M.deedRead (⟨(M.deedShow d).toArray⟩ : ByteArray).data.toList = (d, true)) := Lib.hid (M.deedRead_show hok)
        have hsz : (⟨(M.deedShow d).toArray⟩ : ByteArray).size ≤ 1048576 := by have := show_len d; show (M.deedShow d).length ≤ _; omega
        obtain ⟨k1, k2⟩ := some_text (s := ⟨(M.deedShow d).toArray⟩) (by show (M.deedShow d).length ≠ 0; simpa using hne)
        have k3 : (M.deedShow d).isEmpty = false := by simpa using hne
        have k4 : (M.deedShow d == []) = false := by simpa using hne
        clear hok
        go_wp2_with fail
        refine (implReadDeed _ _ hsz (hl.below bb)).mono ?_
        rintro r x8 ⟨rfl, b8⟩
        rw [HR.out]
        replace td := (td.below b8).alloc (.cells (ddC d) 27)
        have tz := holds_new x8 (ddC d) 27
        obtain ⟨d0, d1, d2, d3, d4, d5, d6⟩ := td.seven
        have z1 := td.1
        replace bb := (next bb b8).alloc (next bb b8).size (.cells (ddC d) 27)
        clear b8 k1 k2 k3 k4 hne
        have hq1 : (d.kind == d.kind) = true := by simp
        have hq2 : (d.who == d.who) = true := by simp
        have hq3 : (d.ed.ma == d.ed.ma) = true := by simp
        have hq4 : (d.ed.mi == d.ed.mi) = true := by simp
        have hq5 : (d.ed.pa == d.ed.pa) = true := by simp
        go_wp2
        go_ret
        exact ⟨rfl, bb⟩

set_option maxRecDepth 100000 in
theorem lifted (os : Os) (started : os.Started) (H : Type) (enc : TypeId × Value → H) :
    ReturnsInHanded {} Tryz.checked os 3 .any (fun w args => (Rows.fnDeedsSpec.pre enc Tryz.prog Tryz.f3 Rows.fnDeedsRow.domain false w args ∧ laidMetH Tryz.prog Rows.fnDeedsRow.laid w) ∧ sizedMet enc Tryz.prog Tryz.f3 (OpenSpec.ofChange Rows.fnDeedsSpec) false w args)
      (Rows.fnDeedsSpec.post enc Tryz.prog Tryz.f3 false true false false) := by
  refine handed_laid (C := Tryz.checked) (X := fun w _ => laidMetH Tryz.prog Rows.fnDeedsRow.laid w) (fun _ _ _ hh h => h.of_heap hh) own started (by kernel_rfl) Tryz.func3
    (ChangeSpec.witness_shaped (enc := enc) (C := Tryz.checked) (os := os) (X := fun w _ => laidMetH Tryz.prog Rows.fnDeedsRow.laid w) false (World.laidAll Tryz.prog os Rows.fnDeedsRow.laid) #[.slice none 0 0] 8 (World.laidAll_os _ _ _)
      (World.shaped_of_ZipB (by kernel_rfl) (by kernel_rfl)) (by kernel_rfl) (by kernel_rfl) (by kernel_rfl)
      (by rw [MakeChecks.laidMetH_plain _ _ _ (by kernel_rfl)]; exact laidMet_laidAll _ (by kernel_rfl) (by kernel_rfl))) ?_
  intro W base args ds gs before hval0 hW hL hsh
  have hval : ∀ (j : Nat) t v, Tryz.f3.params[j]? = some t → args[j]? = some v → Value.okWide Tryz.prog W .any base t v := hval0
  have hW' := hW
  obtain ⟨p, q, hA0, -⟩ := hW
  have hA : DataW.TrodAll enc Tryz.prog W 0 (fun _ => true) true Tryz.f3.params.toList args.toList ds p := hA0
  rw [Tryz.params3] at hA hval
  obtain ⟨v0, vs0, d0, ds0, p0, q0, hargs, rfl, rfl, h0, r0⟩ := trodAll_cons hA
  obtain ⟨rfl, rfl, rfl⟩ := trodAll_nil r0
  obtain rfl : args = #[v0] := by cases args; simp_all
  clear hA0 hval0
  have hv0 := hval 0 _ v0 rfl rfl
  obtain ⟨a0, len0, cap0, rfl, hc⟩ := open_code hv0 h0
  have hl : Laid W := laid_of hL hsh rfl rfl rfl
  exact (walk a0 len0 cap0 W hc hl).mono fun r W' ⟨he, hb⟩ => ⟨_, he, law_post rfl rfl Tryz.underlying4 (by kernel_rfl) (n := 1)
    (fun ds' hd => by rcases ds' with _ | ⟨x0, _ | ⟨y, z⟩⟩ <;> simp at hd <;> exact ⟨rfl, rfl, rfl⟩) rfl hW' hb⟩

theorem over : Rows.fnDeedsRow.holds Tryz.pinned (OpenSpec.ofChange Rows.fnDeedsSpec) :=
  OpenClaim.holds_of_wide 3 Tryz.f3 rfl rfl rfl rfl rfl rfl rfl ⟨rfl, rfl, rfl, rfl, rfl⟩ rfl rfl rfl rfl rfl (by kernel_rfl) Tryz.func3 (by kernel_rfl)
    (of_decide_eq_true (by kernel_rfl)) (by unfold Func.isWrapper; first | (rw [if_pos (by decide +kernel)]; kernel_rfl) | (rw [if_neg (by decide +kernel)]; exact ⟨rfl, rfl⟩))
    (fun os started H enc _ => lifted os started H enc)

theorem proved : Rows.FnDeedsCardSaid :=
  Claim7.holds_tied_plain_at .later [] [.data, .data, .data, .data, .sentinel, .sentinel, .pinned] true (true, "72c51569dbfd72a456f7ff9c13c351d4ddea95e1c25f73ddcdfab15c57bc493f") true
    over (fun _ h => by cases h) (by kernel_rfl) (fun _ h => by cases h) fnDeeds_row_tie rfl ⟨rfl, rfl⟩ (by kernel_rfl) rfl
    (fun f fn hf hfn => by
      obtain rfl : f = 3 := Option.some.inj ((show Tryz.prog.funcNamed "loop.example/g00572/laws.FnDeeds" = some 3 by kernel_rfl).symm.trans hf) |>.symm
      obtain rfl : fn = Tryz.f3 := (Option.some.inj (Tryz.func3.symm.trans hfn)).symm
      exact ⟨by kernel_rfl, fun j t ht => by
        rw [Tryz.params3] at ht
        have hm : t ∈ [22] := by simpa using Array.mem_of_getElem? ht
        have hall : ([22].all fun u => !Tryz.prog.wantsStandIn u) = true := by kernel_rfl
        exact (show Tryz.prog.wantsStandIn t = false by simpa using List.all_eq_true.1 hall t hm)⟩)
    (by kernel_rfl)
#print axioms proved
end Go.Proofs.YtiibklhalgookaaGreatDoor.fnDeeds
