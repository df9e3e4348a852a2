/- Proved: the model's and the program's WorkIn answer the first work of that name, its copies in new memory, and true, or the zero work and false; they write nothing that was there. Condition: texts and lists of at most a million. -/
import Derived.Test.YtepjpfiekchdmaaShelfFind
import Derived.Test.YtepjpfiekchdmaaWorkOwn2
namespace Go.Proofs.Ytepjpfiekchdmaa
open Go.RowKit
set_option maxRecDepth 20000
namespace M
def workIn (l : List Wk) (n : ByteArray) : Wk × Bool := match l[sfFind l n]? with
  | some w => (w, true)
  | none => (zeroWk, false)
theorem workIn_none {l : List Wk} {n : ByteArray} (h : sfFind l n = l.length) : workIn l n = (zeroWk, false) := by
  unfold workIn; rw [h, List.getElem?_eq_none (Nat.le_refl _)]
theorem workIn_some {l : List Wk} {n : ByteArray} {k : Nat} (h : sfFind l n = k) (hk : k < l.length) : workIn l n = (l[k], true) := by
  unfold workIn; rw [h, List.getElem?_eq_getElem hk]
theorem sfFind_le (l : List Wk) (n : ByteArray) : sfFind l n ≤ l.length := List.findIdx_le_length
theorem workIn_len {l : List Wk} {m : Nat} (h : ∀ x ∈ l, x.copies.length ≤ m) (n : ByteArray) : (workIn l n).1.copies.length ≤ m := by
  unfold workIn
  rcases hf : l[sfFind l n]? with _ | w
  · exact Nat.zero_le _
  · exact h w (List.mem_of_getElem? hf)
end M
theorem findW_map (l : List Wr) (n : ByteArray) : l.findIdx (fun r => M.isName n r.wk) = M.sfFind (l.map Wr.wk) n := by
  unfold M.sfFind; rw [List.findIdx_map]; rfl
theorem results_swi (name : ByteArray) (owner : Int) (v : Value) (b : Bool) (R : Nat) (W : World) (tmps : Array Value) (h2 : tmps.getD 4 undef = .pointer (some ⟨R, 0, none⟩)) (h3 : tmps.getD 5 undef = .bool b) (hW : Holds W R (wkA name owner v)) :
    (results Try.f5 tmps).run Try.prog W = .ok (.tuple #[.agg (wkA name owner v), .bool b]) W := by
  obtain ⟨q0, q1, q2⟩ := hW.at3
  simp at h2 h3
  simp [results, Try.results5, go_sem, h2, h3, q0, q1, q2]
theorem results_iwi (name : ByteArray) (owner : Int) (v : Value) (b : Bool) (R : Nat) (W : World) (tmps : Array Value) (h2 : tmps.getD 4 undef = .pointer (some ⟨R, 0, none⟩)) (h3 : tmps.getD 5 undef = .bool b) (hW : Holds W R (wkA name owner v)) :
    (results Try.f7 tmps).run Try.prog W = .ok (.tuple #[.agg (wkA name owner v), .bool b]) W := by
  obtain ⟨q0, q1, q2⟩ := hW.at3
  simp at h2 h3
  simp [results, Try.results7, go_sem, h2, h3, q0, q1, q2]

set_option maxHeartbeats 1000000 in
theorem wfirst_name (p : Wr → Bool) (A : Option Addr) (l : List Wr) (cap : Nat) (g : Value) (w : World) (hl : Wks w A l) (hlen : l.length ≤ 1048576)
    (hcall : ∀ (c : Wr) (w' : World), c ∈ l → Cps w' c.ad c.cps → Below w.heap.size w w' → Calls Try.prog 18 #[wrV c, g] w' fun r w'' => r = .returned (.bool (p c)) ∧ Below w'.heap.size w' w'') :
    Calls Try.prog 17 #[.slice A l.length cap, .func (.func 18) #[] #[g]] w fun r w' => r = .returned (.int .i64 (l.findIdx p : Nat)) ∧ Below w.heap.size w w' := by
  have HC := Lib.hid hcall
  clear hcall
  go_enter Try.func17, Try.ntmps17
  go_wp2
  go_loopw [9] (fun i wr => ∃ j : Nat, i = .int .i64 j ∧ j ≤ l.length ∧ WNoneTo p l j ∧ Below w.heap.size w wr) (fun i _ => l.length - (intOf i).toNat)
  case atStart => exact ⟨0, rfl, Nat.zero_le _, WNoneTo.zero p l, Below.refl _ _⟩
  case round =>
    obtain ⟨j, rfl, hj, hnone, hbl⟩ := hrel
    by_cases hlt : j < l.length
    · obtain ⟨b, o, rfl, -, c0, c1, c2, hc⟩ := Wks_at (hl.below hbl) hlt
      have HA := Lib.hid hl
      have HN := Lib.hid hnone
      have HCC := Lib.hid hc
      have ba := hbl.alloc hbl.size (.cells (wkL l[j].name l[j].owner l[j].ad l[j].cps.length l[j].cap) 26)
      clear hl hnone hc
      rcases hp : p l[j] with _ | _
      · have HP := Lib.hid hp
        go_wp2_with fail
        refine (HC.out l[j] _ (List.getElem_mem hlt) (HCC.out.alloc _) ba).mono ?_
        rintro r w1 ⟨rfl, b1⟩
        clear hp
        have hp := HP.out
        rw [hp]
        clear hp
        go_wp2
        go_roundw
        case rel => exact ⟨j + 1, by go_num, by omega, HN.out.next hlt HP.out, next ba b1⟩
        case measure => simp [intOf]; omega
      · have HP := Lib.hid hp
        go_wp2_with fail
        refine (HC.out l[j] _ (List.getElem_mem hlt) (HCC.out.alloc _) ba).mono ?_
        rintro r w1 ⟨rfl, b1⟩
        clear hp
        have hp := HP.out
        rw [hp]
        clear hp
        go_wp2
        go_ret
        exact ⟨ret_int (by rw [HN.out.hit hlt HP.out]), next ba b1⟩
    · have hj' : j = l.length := by omega
      subst hj'
      have HN := Lib.hid hnone
      clear hnone
      go_wp2
      go_ret
      exact ⟨ret_int (by rw [HN.out.all]), hbl⟩

set_option maxHeartbeats 1000000 in
theorem workIn1_any (c : Wr) (g : Nat) (name : ByteArray) (w : World) (hg : w.cell? ⟨g, 0, none⟩ = some (.string name)) :
    Calls Try.prog 18 #[wrV c, .pointer (some ⟨g, 0, none⟩)] w fun r w' => r = .returned (.bool (M.isName name c.wk)) ∧ Below w.heap.size w w' := by
  have b0 := (Below.refl w.heap.size w).alloc (Nat.le_refl _) (.cells (wkL c.name c.owner c.ad c.cps.length c.cap) 26)
  have hgl : g < w.heap.size := World.block_lt_of_cell? w _ hg
  have hg1 := (b0.cell (p := ⟨g, 0, none⟩) hgl).trans hg
  go_enter Try.func18, Try.ntmps18
  go_wp2
  go_ret
  exact ⟨rfl, b0⟩

set_option maxHeartbeats 2000000 in
theorem specWorkIn (A : Option Addr) (l : List Wr) (cap : Nat) (name : ByteArray) (w : World) (hl : Wks w A l) (hA : ∀ r ∈ l, r.ad = none → r.cap = 0) (hlen : l.length ≤ 1048576) (hp : WrsIn 1048576 l) :
    Calls Try.prog 5 #[.slice A l.length cap, .string name] w fun r w' => WkRet w.heap.size (M.workIn (l.map Wr.wk) name) r w' ∧ Below w.heap.size w w' := by
  have b0 := (Below.refl w.heap.size w).alloc (Nat.le_refl _) (.cells (wkL ⟨#[]⟩ 0 none 0 0) 26)
  have h2 := holds_new w (wkL ⟨#[]⟩ 0 none 0 0) 26
  have f2 := loose_new w (wkL ⟨#[]⟩ 0 none 0 0) 26
  have HL := Lib.hid (hl.below b0)
  have HP := Lib.hid hp
  have HA := Lib.hid hA
  clear hl hp hA
  rcases Nat.lt_or_ge (M.sfFind (l.map Wr.wk) name) l.length with hf | hf
  · obtain ⟨k, hk⟩ : ∃ k, M.sfFind (l.map Wr.wk) name = k := ⟨_, rfl⟩
    rw [hk] at hf
    have HE := Lib.hid (show M.workIn (l.map Wr.wk) name = (⟨l[k].name, l[k].owner, l[k].cps⟩, true) from by rw [M.workIn_some hk (by simpa using hf)]; simp [Wr.wk])
    have HPOS := Lib.hid (show M.sfFindInt (l.map Wr.wk) name = (k : Int) from by rw [M.sfFindInt_pos (by rw [hk]; simpa using hf), hk])
    clear hk
    obtain ⟨b, o, rfl, hbl, c0, c1, c2, hc⟩ := Wks_at HL.out hf
    have HC := Lib.hid hc
    have hcl := HP.out l[k] (List.getElem_mem hf)
    have HCA := Lib.hid (HA.out l[k] (List.getElem_mem hf))
    have HCL := Lib.hid hcl
    clear hc hcl
    go_enter Try.func5, Try.ntmps5
    go_wp2_with fail
    have hcall := l5Find_any (some ⟨b, o, none⟩) l cap name _ HL.out hlen
    rw [HPOS.out] at hcall
    refine hcall.mono ?_
    rintro r w1 ⟨rfl, rfl⟩
    clear hcall
    go_wp2_with fail
    refine (l4Own_any l[k].name l[k].owner l[k].ad l[k].cps l[k].cap _ HC.out HCA.out HCL.out.2.1).mono ?_
    rintro r w2 ⟨A', c', rfl, ho, b2⟩
    replace f2 := f2.below h2.1 b2
    replace h2 := h2.below b2
    replace b0 := next b0 b2
    obtain ⟨r0, r1, r2⟩ := h2.at3
    obtain ⟨s0, s1, s2⟩ := f2.fz3
    have z2 := h2.1
    have HO := Lib.hid ho
    clear ho b2 c0 c1 c2
    go_wp2
    exact bodyPost_ret (results_swi l[k].name l[k].owner (.slice A' l[k].cps.length c') true w.heap.size _ _ rfl rfl (h2.wr3 _ _ _)) rfl ⟨WkRet.mk' HE.out ((((HO.out.off (by simp) _).off (by simp) _).off (by simp) _).mono (by simp)), far_3 b0 (Nat.le_refl _) _ _ _⟩
  · have hk : M.sfFind (l.map Wr.wk) name = (l.map Wr.wk).length := by
      have := M.sfFind_le (l.map Wr.wk) name
      rw [List.length_map] at this ⊢
      omega
    have HE := Lib.hid (M.workIn_none hk)
    have HNEG := Lib.hid (M.sfFindInt_neg hk)
    clear hk hf
    obtain ⟨r0, r1, r2⟩ := h2.at3
    obtain ⟨s0, s1, s2⟩ := f2.fz3
    have z2 := h2.1
    go_enter Try.func5, Try.ntmps5
    go_wp2_with fail
    have hcall := l5Find_any A l cap name _ HL.out hlen
    rw [HNEG.out] at hcall
    refine hcall.mono ?_
    rintro r w1 ⟨rfl, rfl⟩
    clear hcall
    generalize w.alloc (.cells (wkL ⟨#[]⟩ 0 none 0 0) 26) = wa at *
    go_wp2
    exact bodyPost_ret (results_swi ⟨#[]⟩ 0 (.slice none 0 0) false w.heap.size _ _ rfl rfl (h2.wr3 _ _ _)) rfl ⟨WkRet.zero _ _ HE.out, far_3 b0 (Nat.le_refl _) _ _ _⟩

set_option maxHeartbeats 2000000 in
theorem implWorkIn (A : Option Addr) (l : List Wr) (cap : Nat) (name : ByteArray) (w : World) (hl : Wks w A l) (hlen : l.length ≤ 1048576) (hp : WrsIn 1048576 l) :
    Calls Try.prog 7 #[.slice A l.length cap, .string name] w fun r w' => WkRet w.heap.size (M.workIn (l.map Wr.wk) name) r w' ∧ Below w.heap.size w w' := by
  have b0 := ((Below.refl w.heap.size w).alloc (Nat.le_refl _) (.cells #[.string name] 9)).alloc (by simp) (.cells (wkL ⟨#[]⟩ 0 none 0 0) 26)
  have h1 := (holds_new w #[.string name] 9).alloc (.cells (wkL ⟨#[]⟩ 0 none 0 0) 26)
  have h2 := holds_new (w.alloc (.cells #[.string name] 9)) (wkL ⟨#[]⟩ 0 none 0 0) 26
  have f2 := loose_new (w.alloc (.cells #[.string name] 9)) (wkL ⟨#[]⟩ 0 none 0 0) 26
  simp only [World.size_alloc] at h2 f2
  have HLW := Lib.hid hl
  have HL := Lib.hid (hl.below b0)
  have HP := Lib.hid hp
  clear hl hp
  have hcall := wfirst_name (fun r => M.isName name r.wk) A l cap (.pointer (some ⟨w.heap.size, 0, none⟩)) _ HL.out hlen (fun c w' _ _ hb => workIn1_any c w.heap.size name w' ((h1.below hb).2 0 _ rfl))
  have HCALL := Lib.hid hcall
  clear hcall h1
  rcases Nat.lt_or_ge (M.sfFind (l.map Wr.wk) name) l.length with hf | hf
  · obtain ⟨k, hk⟩ : ∃ k, M.sfFind (l.map Wr.wk) name = k := ⟨_, rfl⟩
    rw [hk] at hf
    have HE := Lib.hid (show M.workIn (l.map Wr.wk) name = (⟨l[k].name, l[k].owner, l[k].cps⟩, true) from by rw [M.workIn_some hk (by simpa using hf)]; simp [Wr.wk])
    have HPOS := Lib.hid (show ((l.findIdx fun r => M.isName name r.wk : Nat) : Int) = (k : Int) from by rw [findW_map, hk])
    clear hk
    have hne : ((k : Int) == (l.length : Int)) = false := by simp; omega
    go_enter Try.func7, Try.ntmps7
    go_wp2_with fail
    have hcall := HCALL.out
    rw [HPOS.out] at hcall
    refine hcall.mono ?_
    rintro r w1 ⟨rfl, b1⟩
    clear hcall
    replace f2 := f2.below h2.1 b1
    replace h2 := h2.below b1
    replace b0 := next b0 b1
    obtain ⟨b, o, rfl, hbl, c0, c1, c2, hc⟩ := Wks_at (HLW.out.below b0) hf
    have HC := Lib.hid hc
    have hcl := HP.out l[k] (List.getElem_mem hf)
    have HCL := Lib.hid hcl
    clear hc hcl b1
    go_wp2_with fail
    refine (newWork_any l[k].name l[k].owner l[k].ad l[k].cps l[k].cap _ HC.out HCL.out.1 HCL.out.2.1 HCL.out.2.2).mono ?_
    rintro r w2 ⟨A', c', rfl, ho, b2⟩
    have hsz : w.heap.size + 1 < w1.heap.size := h2.1
    replace f2 := f2.below h2.1 b2
    replace h2 := h2.below b2
    replace b0 := next b0 b2
    obtain ⟨r0, r1, r2⟩ := h2.at3
    obtain ⟨s0, s1, s2⟩ := f2.fz3
    have z2 := h2.1
    have HO := Lib.hid ho
    clear ho b2 c0 c1 c2
    go_wp2
    exact bodyPost_ret (results_iwi l[k].name l[k].owner (.slice A' l[k].cps.length c') true (w.heap.size + 1) _ _ rfl rfl (h2.wr3 _ _ _)) rfl ⟨WkRet.mk' HE.out ((((HO.out.off (by simpa using hsz) _).off (by simpa using hsz) _).off (by simpa using hsz) _).mono (by omega)), far_3 b0 (by omega) _ _ _⟩
  · have hk : M.sfFind (l.map Wr.wk) name = (l.map Wr.wk).length := by
      have := M.sfFind_le (l.map Wr.wk) name
      rw [List.length_map] at this ⊢
      omega
    have HE := Lib.hid (M.workIn_none hk)
    have HPOS := Lib.hid (show ((l.findIdx fun r => M.isName name r.wk : Nat) : Int) = (l.length : Int) from by rw [findW_map, hk, List.length_map])
    have hne : ((l.length : Int) == (l.length : Int)) = true := by simp
    clear hk hf
    go_enter Try.func7, Try.ntmps7
    go_wp2_with fail
    have hcall := HCALL.out
    rw [HPOS.out] at hcall
    refine hcall.mono ?_
    rintro r w1 ⟨rfl, b1⟩
    clear hcall
    replace f2 := f2.below h2.1 b1
    replace h2 := h2.below b1
    replace b0 := next b0 b1
    obtain ⟨r0, r1, r2⟩ := h2.at3
    obtain ⟨s0, s1, s2⟩ := f2.fz3
    have z2 := h2.1
    clear b1
    go_wp2
    exact bodyPost_ret (results_iwi ⟨#[]⟩ 0 (.slice none 0 0) false (w.heap.size + 1) _ _ rfl rfl (h2.wr3 _ _ _)) rfl ⟨WkRet.zero _ _ HE.out, far_3 b0 (by omega) _ _ _⟩
end Go.Proofs.Ytepjpfiekchdmaa
