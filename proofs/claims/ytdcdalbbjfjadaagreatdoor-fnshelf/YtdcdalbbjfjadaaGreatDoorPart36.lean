/- Proved, in parts: Proved: the model's and the program's WorkIn answer the first work of that name, its copies in new memory, and true, or the zero work and false; they write nothing that was there. Condition: texts and lists of at most a million. Proved: plain facts on the text of a shelf: how it is joined, and how long it is; no program is named here; no condition. Proved: the library's words on numbers in decimal digits and this document's are the same: what is written, what is read; no program is named here; no condition. Proved: what the program takes of the library's texts and numbers: a number as it is written, a number that is read; they write nothing that was there. Conditions: the library's own table and its two errors lie as their initialisers lay them ('Laid'). -/
import Derived.Test.YtdcdalbbjfjadaaGreatDoorPart26
import Derived.Test.YtdcdalbbjfjadaaGreatDoorPart14
import Derived.Test.YtdcdalbbjfjadaaGreatDoorPart05
import Derived.Test.YtdcdalbbjfjadaaGreatDoorPart02
import Derived.Lib.Join
import Derived.Lib.ItoaNum
import Derived.Lib.ParseIntB
import Derived.Test.YtdcdalbbjfjadaaGreatDoorPart11
import Derived.Test.YtdcdalbbjfjadaaGreatDoorPart01
import Derived.Lib.ParseIntBTie
import Derived.Lib.AtoiErrMem
import Derived.WalkSmall
namespace Go.Proofs.YtdcdalbbjfjadaaGreatDoor
open Go.RowKit
set_option maxRecDepth 20000
namespace M
def workIn (l : List Wk) (n : ByteArray) : Wk × Bool := match l[sfFind l n]? with
  | some w => (w, true)
  | none => (zeroWk, false)
theorem workIn_none {l : List Wk} {n : ByteArray} (h : sfFind l n = l.length) : workIn l n = (zeroWk, false) := by
  unfold workIn; rw [h, List.getElem?_eq_none (Nat.le_refl _)]
theorem workIn_some {l : List Wk} {n : ByteArray} {k : Nat} (h : sfFind l n = k) (hk : k < l.length) : workIn l n = (l[k], true) := by
  unfold workIn; rw [h, List.getElem?_eq_getElem hk]
theorem sfFind_le (l : List Wk) (n : ByteArray) : sfFind l n ≤ l.length := List.findIdx_le_length
theorem workIn_len {l : List Wk} {m : Nat} (h : ∀ x ∈ l, x.copies.length ≤ m) (n : ByteArray) : (workIn l n).1.copies.length ≤ m := by
  unfold workIn
  rcases hf : l[sfFind l n]? with _ | w
  · exact Nat.zero_le _
  · exact h w (List.mem_of_getElem? hf)
end M
theorem findW_map (l : List Wr) (n : ByteArray) : l.findIdx (fun r => M.isName n r.wk) = M.sfFind (l.map Wr.wk) n := by
  unfold M.sfFind; rw [List.findIdx_map]; rfl
theorem results_swi (name : ByteArray) (owner : Int) (v : Value) (b : Bool) (R : Nat) (W : World) (tmps : Array Value) (h2 : tmps.getD 4 undef = .pointer (some ⟨R, 0, none⟩)) (h3 : tmps.getD 5 undef = .bool b) (hW : Holds W R (wkA name owner v)) :
    (results Tryz.f16 tmps).run Tryz.prog W = .ok (.tuple #[.agg (wkA name owner v), .bool b]) W := by
  obtain ⟨q0, q1, q2⟩ := hW.at3
  simp at h2 h3
  simp [results, Tryz.results16, go_sem, h2, h3, q0, q1, q2]
theorem results_iwi (name : ByteArray) (owner : Int) (v : Value) (b : Bool) (R : Nat) (W : World) (tmps : Array Value) (h2 : tmps.getD 4 undef = .pointer (some ⟨R, 0, none⟩)) (h3 : tmps.getD 5 undef = .bool b) (hW : Holds W R (wkA name owner v)) :
    (results Tryz.f8 tmps).run Tryz.prog W = .ok (.tuple #[.agg (wkA name owner v), .bool b]) W := by
  obtain ⟨q0, q1, q2⟩ := hW.at3
  simp at h2 h3
  simp [results, Tryz.results8, go_sem, h2, h3, q0, q1, q2]

set_option maxHeartbeats 1000000 in
theorem wfirst_name (p : Wr → Bool) (A : Option Addr) (l : List Wr) (cap : Nat) (g : Value) (w : World) (hl : Wks w A l) (hlen : l.length ≤ 1048576)
    (hcall : ∀ (c : Wr) (w' : World), c ∈ l → Cps w' c.ad c.cps → Below w.heap.size w w' → Calls Tryz.prog 26 #[wrV c, g] w' fun r w'' => r = .returned (.bool (p c)) ∧ Below w'.heap.size w' w'') :
    Calls Tryz.prog 25 #[.slice A l.length cap, .func (.func 26) #[] #[g]] w fun r w' => r = .returned (.int .i64 (l.findIdx p : Nat)) ∧ Below w.heap.size w w' := by
  have HC := Lib.hid hcall
  clear hcall
  go_enter Tryz.func25, Tryz.ntmps25
  go_wp2
  go_loopw [9] (fun i wr => ∃ j : Nat, i = .int .i64 j ∧ j ≤ l.length ∧ WNoneTo p l j ∧ Below w.heap.size w wr) (fun i _ => l.length - (intOf i).toNat)
  case atStart => exact ⟨0, rfl, Nat.zero_le _, WNoneTo.zero p l, Below.refl _ _⟩
  case round =>
    obtain ⟨j, rfl, hj, hnone, hbl⟩ := hrel
    by_cases hlt : j < l.length
    · obtain ⟨b, o, rfl, -, c0, c1, c2, hc⟩ := Wks_at (hl.below hbl) hlt
      have HA := Lib.hid hl
      have HN := Lib.hid hnone
      have HCC := Lib.hid hc
      have ba := hbl.alloc hbl.size (.cells (wkL l[j].name l[j].owner l[j].ad l[j].cps.length l[j].cap) 39)
      clear hl hnone hc
      rcases hp : p l[j] with _ | _
      · have HP := Lib.hid hp
        go_wp2_with fail
        refine (HC.out l[j] _ (List.getElem_mem hlt) (HCC.out.alloc _) ba).mono ?_
        rintro r w1 ⟨rfl, b1⟩
        clear hp
        have hp := HP.out
        rw [hp]
        clear hp
        go_wp2
        go_roundw
        case rel => exact ⟨j + 1, by go_num, by omega, HN.out.next hlt HP.out, next ba b1⟩
        case measure => simp [intOf]; omega
      · have HP := Lib.hid hp
        go_wp2_with fail
        refine (HC.out l[j] _ (List.getElem_mem hlt) (HCC.out.alloc _) ba).mono ?_
        rintro r w1 ⟨rfl, b1⟩
        clear hp
        have hp := HP.out
        rw [hp]
        clear hp
        go_wp2
        go_ret
        exact ⟨ret_int (by rw [HN.out.hit hlt HP.out]), next ba b1⟩
    · have hj' : j = l.length := by omega
      subst hj'
      have HN := Lib.hid hnone
      clear hnone
      go_wp2
      go_ret
      exact ⟨ret_int (by rw [HN.out.all]), hbl⟩

set_option maxHeartbeats 1000000 in
theorem workIn1_any (c : Wr) (g : Nat) (name : ByteArray) (w : World) (hg : w.cell? ⟨g, 0, none⟩ = some (.string name)) :
    Calls Tryz.prog 26 #[wrV c, .pointer (some ⟨g, 0, none⟩)] w fun r w' => r = .returned (.bool (M.isName name c.wk)) ∧ Below w.heap.size w w' := by
  have b0 := (Below.refl w.heap.size w).alloc (Nat.le_refl _) (.cells (wkL c.name c.owner c.ad c.cps.length c.cap) 39)
  have hgl : g < w.heap.size := World.block_lt_of_cell? w _ hg
  have hg1 := (b0.cell (p := ⟨g, 0, none⟩) hgl).trans hg
  go_enter Tryz.func26, Tryz.ntmps26
  go_wp2
  go_ret
  exact ⟨rfl, b0⟩

set_option maxHeartbeats 2000000 in
theorem specWorkIn (A : Option Addr) (l : List Wr) (cap : Nat) (name : ByteArray) (w : World) (hl : Wks w A l) (hA : ∀ r ∈ l, r.ad = none → r.cap = 0) (hlen : l.length ≤ 1048576) (hp : WrsIn 1048576 l) :
    Calls Tryz.prog 16 #[.slice A l.length cap, .string name] w fun r w' => WkRet w.heap.size (M.workIn (l.map Wr.wk) name) r w' ∧ Below w.heap.size w w' := by
  have b0 := (Below.refl w.heap.size w).alloc (Nat.le_refl _) (.cells (wkL ⟨#[]⟩ 0 none 0 0) 39)
  have h2 := holds_new w (wkL ⟨#[]⟩ 0 none 0 0) 39
  have f2 := loose_new w (wkL ⟨#[]⟩ 0 none 0 0) 39
  have HL := Lib.hid (hl.below b0)
  have HP := Lib.hid hp
  have HA := Lib.hid hA
  clear hl hp hA
  rcases Nat.lt_or_ge (M.sfFind (l.map Wr.wk) name) l.length with hf | hf
  · obtain ⟨k, hk⟩ : ∃ k, M.sfFind (l.map Wr.wk) name = k := ⟨_, rfl⟩
    rw [hk] at hf
    have HE := Lib.hid (show M.workIn (l.map Wr.wk) name = (⟨l[k].name, l[k].owner, l[k].cps⟩, true) from by rw [M.workIn_some hk (by simpa using hf)]; simp [Wr.wk])
    have HPOS := Lib.hid (show M.sfFindInt (l.map Wr.wk) name = (k : Int) from by rw [M.sfFindInt_pos (by rw [hk]; simpa using hf), hk])
    clear hk
    obtain ⟨b, o, rfl, hbl, c0, c1, c2, hc⟩ := Wks_at HL.out hf
    have HC := Lib.hid hc
    have hcl := HP.out l[k] (List.getElem_mem hf)
    have HCA := Lib.hid (HA.out l[k] (List.getElem_mem hf))
    have HCL := Lib.hid hcl
    clear hc hcl
    go_enter Tryz.func16, Tryz.ntmps16
    go_wp2_with fail
    have hcall := l5Find_any (some ⟨b, o, none⟩) l cap name _ HL.out hlen
    rw [HPOS.out] at hcall
    refine hcall.mono ?_
    rintro r w1 ⟨rfl, rfl⟩
    clear hcall
    go_wp2_with fail
    refine (l4Own_any l[k].name l[k].owner l[k].ad l[k].cps l[k].cap _ HC.out HCA.out HCL.out.2.1).mono ?_
    rintro r w2 ⟨A', c', rfl, ho, b2⟩
    replace f2 := f2.below h2.1 b2
    replace h2 := h2.below b2
    replace b0 := next b0 b2
    obtain ⟨r0, r1, r2⟩ := h2.at3
    obtain ⟨s0, s1, s2⟩ := f2.fz3
    have z2 := h2.1
    have HO := Lib.hid ho
    clear ho b2 c0 c1 c2
    go_wp2
    exact bodyPost_ret (results_swi l[k].name l[k].owner (.slice A' l[k].cps.length c') true w.heap.size _ _ rfl rfl (h2.wr3 _ _ _)) rfl ⟨WkRet.mk' HE.out ((((HO.out.off (by simp) _).off (by simp) _).off (by simp) _).mono (by simp)), far_3 b0 (Nat.le_refl _) _ _ _⟩
  · have hk : M.sfFind (l.map Wr.wk) name = (l.map Wr.wk).length := by
      have := M.sfFind_le (l.map Wr.wk) name
      rw [List.length_map] at this ⊢
      omega
    have HE := Lib.hid (M.workIn_none hk)
    have HNEG := Lib.hid (M.sfFindInt_neg hk)
    clear hk hf
    obtain ⟨r0, r1, r2⟩ := h2.at3
    obtain ⟨s0, s1, s2⟩ := f2.fz3
    have z2 := h2.1
    go_enter Tryz.func16, Tryz.ntmps16
    go_wp2_with fail
    have hcall := l5Find_any A l cap name _ HL.out hlen
    rw [HNEG.out] at hcall
    refine hcall.mono ?_
    rintro r w1 ⟨rfl, rfl⟩
    clear hcall
    generalize w.alloc (.cells (wkL ⟨#[]⟩ 0 none 0 0) 39) = wa at *
    go_wp2
    exact bodyPost_ret (results_swi ⟨#[]⟩ 0 (.slice none 0 0) false w.heap.size _ _ rfl rfl (h2.wr3 _ _ _)) rfl ⟨WkRet.zero _ _ HE.out, far_3 b0 (Nat.le_refl _) _ _ _⟩

set_option maxHeartbeats 2000000 in
theorem implWorkIn (A : Option Addr) (l : List Wr) (cap : Nat) (name : ByteArray) (w : World) (hl : Wks w A l) (hlen : l.length ≤ 1048576) (hp : WrsIn 1048576 l) :
    Calls Tryz.prog 8 #[.slice A l.length cap, .string name] w fun r w' => WkRet w.heap.size (M.workIn (l.map Wr.wk) name) r w' ∧ Below w.heap.size w w' := by
  have b0 := ((Below.refl w.heap.size w).alloc (Nat.le_refl _) (.cells #[.string name] 9)).alloc (by simp) (.cells (wkL ⟨#[]⟩ 0 none 0 0) 39)
  have h1 := (holds_new w #[.string name] 9).alloc (.cells (wkL ⟨#[]⟩ 0 none 0 0) 39)
  have h2 := holds_new (w.alloc (.cells #[.string name] 9)) (wkL ⟨#[]⟩ 0 none 0 0) 39
  have f2 := loose_new (w.alloc (.cells #[.string name] 9)) (wkL ⟨#[]⟩ 0 none 0 0) 39
  simp only [World.size_alloc] at h2 f2
  have HLW := Lib.hid hl
  have HL := Lib.hid (hl.below b0)
  have HP := Lib.hid hp
  clear hl hp
  have hcall := wfirst_name (fun r => M.isName name r.wk) A l cap (.pointer (some ⟨w.heap.size, 0, none⟩)) _ HL.out hlen (fun c w' _ _ hb => workIn1_any c w.heap.size name w' ((h1.below hb).2 0 _ rfl))
  have HCALL := Lib.hid hcall
  clear hcall h1
  rcases Nat.lt_or_ge (M.sfFind (l.map Wr.wk) name) l.length with hf | hf
  · obtain ⟨k, hk⟩ : ∃ k, M.sfFind (l.map Wr.wk) name = k := ⟨_, rfl⟩
    rw [hk] at hf
    have HE := Lib.hid (show M.workIn (l.map Wr.wk) name = (⟨l[k].name, l[k].owner, l[k].cps⟩, true) from by rw [M.workIn_some hk (by simpa using hf)]; simp [Wr.wk])
    have HPOS := Lib.hid (show ((l.findIdx fun r => M.isName name r.wk : Nat) : Int) = (k : Int) from by rw [findW_map, hk])
    clear hk
    have hne : ((k : Int) == (l.length : Int)) = false := by simp; omega
    go_enter Tryz.func8, Tryz.ntmps8
    go_wp2_with fail
    have hcall := HCALL.out
    rw [HPOS.out] at hcall
    refine hcall.mono ?_
    rintro r w1 ⟨rfl, b1⟩
    clear hcall
    replace f2 := f2.below h2.1 b1
    replace h2 := h2.below b1
    replace b0 := next b0 b1
    obtain ⟨b, o, rfl, hbl, c0, c1, c2, hc⟩ := Wks_at (HLW.out.below b0) hf
    have HC := Lib.hid hc
    have hcl := HP.out l[k] (List.getElem_mem hf)
    have HCL := Lib.hid hcl
    clear hc hcl b1
    go_wp2_with fail
    refine (newWork_any l[k].name l[k].owner l[k].ad l[k].cps l[k].cap _ HC.out HCL.out.1 HCL.out.2.1 HCL.out.2.2).mono ?_
    rintro r w2 ⟨A', c', rfl, ho, b2⟩
    have hsz : w.heap.size + 1 < w1.heap.size := h2.1
    replace f2 := f2.below h2.1 b2
    replace h2 := h2.below b2
    replace b0 := next b0 b2
    obtain ⟨r0, r1, r2⟩ := h2.at3
    obtain ⟨s0, s1, s2⟩ := f2.fz3
    have z2 := h2.1
    have HO := Lib.hid ho
    clear ho b2 c0 c1 c2
    go_wp2
    exact bodyPost_ret (results_iwi l[k].name l[k].owner (.slice A' l[k].cps.length c') true (w.heap.size + 1) _ _ rfl rfl (h2.wr3 _ _ _)) rfl ⟨WkRet.mk' HE.out ((((HO.out.off (by simpa using hsz) _).off (by simpa using hsz) _).off (by simpa using hsz) _).mono (by omega)), far_3 b0 (by omega) _ _ _⟩
  · have hk : M.sfFind (l.map Wr.wk) name = (l.map Wr.wk).length := by
      have := M.sfFind_le (l.map Wr.wk) name
      rw [List.length_map] at this ⊢
      omega
    have HE := Lib.hid (M.workIn_none hk)
    have HPOS := Lib.hid (show ((l.findIdx fun r => M.isName name r.wk : Nat) : Int) = (l.length : Int) from by rw [findW_map, hk, List.length_map])
    have hne : ((l.length : Int) == (l.length : Int)) = true := by simp
    clear hk hf
    go_enter Tryz.func8, Tryz.ntmps8
    go_wp2_with fail
    have hcall := HCALL.out
    rw [HPOS.out] at hcall
    refine hcall.mono ?_
    rintro r w1 ⟨rfl, b1⟩
    clear hcall
    replace f2 := f2.below h2.1 b1
    replace h2 := h2.below b1
    replace b0 := next b0 b1
    obtain ⟨r0, r1, r2⟩ := h2.at3
    obtain ⟨s0, s1, s2⟩ := f2.fz3
    have z2 := h2.1
    clear b1
    go_wp2
    exact bodyPost_ret (results_iwi ⟨#[]⟩ 0 (.slice none 0 0) false (w.heap.size + 1) _ _ rfl rfl (h2.wr3 _ _ _)) rfl ⟨WkRet.zero _ _ HE.out, far_3 b0 (by omega) _ _ _⟩
end Go.Proofs.YtdcdalbbjfjadaaGreatDoor
namespace Go.Proofs.YtdcdalbbjfjadaaGreatDoor
namespace M

def cpText (c : Cp) : List UInt8 := edText c.ed ++ ([61] ++ (c.page.data.toList ++ (if c.hidden then [42] else [])))
def wkHead (w : Wk) : List UInt8 := w.name.data.toList ++ ([64] ++ intText w.owner)
def wkWords (w : Wk) : List (List UInt8) := wkHead w :: w.copies.map cpText
def wkText (w : Wk) : List UInt8 := Lib.join (wkWords w) [32]
def sfText (l : List Wk) : List UInt8 := Lib.join (l.map wkText) [47]
def sfShow (l : List Wk) : List UInt8 := if sfOk l then sfText l else []

theorem join_snoc (x : List UInt8) (xs : List (List UInt8)) (y sep : List UInt8) : Lib.join (x :: (xs ++ [y])) sep = Lib.join (x :: xs) sep ++ (sep ++ y) := by
  rw [Lib.join_cons, Lib.join_cons]
  simp [Lib.joinTail, List.append_assoc]
theorem join_take (l : List (List UInt8)) (sep : List UInt8) (i : Nat) (hi : i < l.length) : Lib.join (l.take (i + 1)) sep = if i = 0 then l[i] else Lib.join (l.take i) sep ++ (sep ++ l[i]) := by
  rw [List.take_succ_eq_append_getElem hi]
  by_cases h : i = 0
  · subst h
    rw [if_pos rfl, List.take_zero, List.nil_append, Lib.join_one]
  · rw [if_neg h]
    obtain ⟨x, xs, hx⟩ : ∃ x xs, l.take i = x :: xs := by
      cases hl : l.take i with
      | nil => have := congrArg List.length hl; rw [List.length_take] at this; simp only [List.length_nil] at this; omega
      | cons x xs => exact ⟨x, xs, rfl⟩
    rw [hx, List.cons_append, join_snoc]
theorem joinTail_len (sep : List UInt8) (n : Nat) : ∀ xs : List (List UInt8), (∀ x ∈ xs, x.length ≤ n) → (Lib.joinTail sep xs).length ≤ xs.length * (n + sep.length)
  | [], _ => by simp [Lib.joinTail]
  | x :: xs, h => by
    have ih := joinTail_len sep n xs fun y hy => h y (List.mem_cons_of_mem _ hy)
    have hx := h x (by simp)
    unfold Lib.joinTail at ih ⊢
    simp only [List.map_cons, List.flatten_cons, List.length_append, List.length_cons, Nat.succ_mul]
    omega
theorem join_len (sep : List UInt8) (n : Nat) (xs : List (List UInt8)) (h : ∀ x ∈ xs, x.length ≤ n) : (Lib.join xs sep).length ≤ xs.length * (n + sep.length) := by
  cases xs with
  | nil => simp [Lib.join_nil]
  | cons x xs =>
    rw [Lib.join_cons, List.length_append, List.length_cons, Nat.succ_mul]
    have := joinTail_len sep n xs fun y hy => h y (List.mem_cons_of_mem _ hy)
    have := h x (by simp)
    omega
theorem cpText_len {c : Cp} (h : cpOk c = true) : (cpText c).length ≤ 76 := by
  simp only [cpOk, Bool.and_eq_true, pageOk, decide_eq_true_eq] at h
  have h1 := edText_len c.ed h.1
  have h2 := h.2.1
  unfold cpText
  rcases c.hidden with _ | _ <;> simp only [List.length_append, List.length_singleton, List.length_nil, if_true, Bool.false_eq_true, if_false] <;> omega
theorem wkHead_len {w : Wk} (h : wkOk w = true) : (wkHead w).length ≤ 30 := by
  simp only [wkOk, Bool.and_eq_true, nameOk, decide_eq_true_eq] at h
  have h1 := h.1.1.1.1
  have h2 := intText_length w.owner
  unfold wkHead
  simp only [List.length_append, List.length_singleton]
  omega
theorem wkWords_len {w : Wk} (h : wkOk w = true) : ∀ x ∈ wkWords w, x.length ≤ 76 := by
  intro x hx
  have hall : ∀ c ∈ w.copies, cpOk c = true := by
    simp only [wkOk, cpsOk, Bool.and_eq_true, List.all_eq_true] at h
    exact h.2.1
  rcases List.mem_cons.1 hx with rfl | hx
  · have := wkHead_len h; omega
  · obtain ⟨c, hc, rfl⟩ := List.mem_map.1 hx
    exact cpText_len (hall c hc)
theorem wkOk_len {w : Wk} (h : wkOk w = true) : w.copies.length ≤ 8 := by
  simp only [wkOk, Bool.and_eq_true, decide_eq_true_eq] at h
  exact h.1.2
theorem wkOk_cp {w : Wk} (h : wkOk w = true) : ∀ c ∈ w.copies, cpOk c = true := by
  simp only [wkOk, cpsOk, Bool.and_eq_true, List.all_eq_true] at h
  exact h.2.1
theorem wkOk_owner {w : Wk} (h : wkOk w = true) : 0 ≤ w.owner ∧ w.owner ≤ 3 := by
  simp only [wkOk, Bool.and_eq_true, inI, decide_eq_true_eq] at h
  have := h.1.1.2
  omega
theorem wkOk_name {w : Wk} (h : wkOk w = true) : w.name.data.toList.length ≤ 8 := by
  simp only [wkOk, Bool.and_eq_true, nameOk, decide_eq_true_eq] at h
  exact h.1.1.1.1
theorem wkText_len {w : Wk} (h : wkOk w = true) : (wkText w).length ≤ 700 := by
  have := join_len [32] 76 (wkWords w) (wkWords_len h)
  have h8 := wkOk_len h
  unfold wkText
  unfold wkWords at this ⊢
  simp only [List.length_cons, List.length_map, List.length_nil] at this ⊢
  omega
theorem sfOk_all {l : List Wk} (h : sfOk l = true) : (∀ w ∈ l, wkOk w = true) ∧ l.length ≤ 5 := by
  simp only [sfOk, Bool.and_eq_true, decide_eq_true_eq, List.all_eq_true] at h
  exact ⟨h.2.1, h.1⟩
theorem sfText_len {l : List Wk} (h : sfOk l = true) : (sfText l).length ≤ 4000 := by
  obtain ⟨h1, h2⟩ := sfOk_all h
  have := join_len [47] 700 (l.map wkText) (fun x hx => by
    obtain ⟨w, hw, rfl⟩ := List.mem_map.1 hx
    exact wkText_len (h1 w hw))
  unfold sfText
  simp only [List.length_map, List.length_cons, List.length_nil] at this ⊢
  omega
end M
end Go.Proofs.YtdcdalbbjfjadaaGreatDoor
namespace Go.Proofs.YtdcdalbbjfjadaaGreatDoor
namespace M

theorem ofNat_dig (d : Nat) : UInt8.ofNat (48 + d) = dig d := rfl

theorem decDigits_eq : ∀ (f n : Nat), n < 10 ^ f → 1 ≤ f → Lib.decDigits n = digsF f n
  | 0, _, _, h => by omega
  | f + 1, n, hn, _ => by
    rw [Lib.decDigits]
    unfold digsF
    by_cases h : n < 10
    · rw [dif_pos h, if_pos h, ofNat_dig]
    · rw [dif_neg h, if_neg h, ofNat_dig]
      cases f with
      | zero => simp at hn; omega
      | succ f => rw [decDigits_eq (f + 1) (n / 10) (by rw [Nat.pow_succ] at hn; omega) (by omega)]

theorem itoa_eq (n : Int) (h0 : -9223372036854775808 ≤ n) (h1 : n ≤ 9223372036854775807) : Lib.itoa n = intText n := by
  have e : (10 : Nat) ^ 20 = 100000000000000000000 := by decide
  unfold Lib.itoa intText digs
  by_cases h : n < 0
  · rw [if_pos h, if_pos h, decDigits_eq 20 _ (by rw [e]; omega) (by omega)]
  · rw [if_neg h, if_neg h, decDigits_eq 20 _ (by rw [e]; omega) (by omega)]
    congr 1
    omega

end M
end Go.Proofs.YtdcdalbbjfjadaaGreatDoor
namespace Go.Proofs.YtdcdalbbjfjadaaGreatDoor
open Go.RowKit
set_option maxRecDepth 20000

/-- The library's variables that these ways read lie as they should. -/
def Laid (w : World) : Prop :=
  Lib.TabIs Tryz.prog w "internal/strconv.uint64pow10" .u64 Lib.pow10Tab ∧ (∃ tp p, w.var? Tryz.prog "strconv.ErrSyntax" = some #[.iface tp p]) ∧ (∃ tp p, w.var? Tryz.prog "strconv.ErrRange" = some #[.iface tp p]) ∧
    ∃ m : Int, w.cell? ⟨0, 0, none⟩ = some (.int .i64 m)

theorem var_below {w w' : World} {n : String} {cs : Array Value} (hv : w.var? Tryz.prog n = some cs) (h : Below w.heap.size w w') : w'.var? Tryz.prog n = some cs := by
  unfold World.var? at hv ⊢
  cases hg : Tryz.prog.globalNamed n with
  | none => rw [hg] at hv; cases hv
  | some g =>
    rw [hg] at hv
    simp only [Option.bind_some] at hv ⊢
    have hlt : g < w.heap.size := by
      rcases Nat.lt_or_ge g w.heap.size with h' | h'
      · exact h'
      · rw [Array.getElem?_eq_none h'] at hv; cases hv
    rw [h.block g hlt]; exact hv

theorem Laid.below {w w' : World} (hl : Laid w) (h : Below w.heap.size w w') : Laid w' := by
  obtain ⟨h0, ⟨t1, p1, h1⟩, ⟨t2, p2, h2⟩, m, h3⟩ := hl
  exact ⟨var_below h0 h, ⟨t1, p1, var_below h1 h⟩, ⟨t2, p2, var_below h2 h⟩, m, (h.cell (p := ⟨_, 0, none⟩) (World.block_lt_of_cell? w _ h3)).trans h3⟩
theorem Laid.alloc {w : World} (hl : Laid w) (o : Obj) : Laid (w.alloc o) := hl.below ((Below.refl _ _).alloc (Nat.le_refl _) o)

/-- A number below 100: no table is read. -/
theorem formatInt_small (n : Int) (h0 : 0 ≤ n) (h1 : n ≤ 99) (w : World) :
    Calls Tryz.prog 100 #[.int .i64 n, .int .i64 10] w fun e w' => e = .returned (.string ⟨(M.intText n).toArray⟩) ∧ w = w' := by
  obtain ⟨i, rfl⟩ := Int.eq_ofNat_of_zero_le h0
  have e : Lib.decDigits i = M.intText i := by
    rw [← M.itoa_eq _ (by omega) (by omega)]
    unfold Lib.itoa
    rw [if_neg (by omega)]; rfl
  refine (Tryz.strconv_FormatInt_10_small i (by omega) w).mono ?_
  rintro r w' ⟨rfl, rfl⟩
  exact ⟨by rw [e], rfl⟩

end Go.Proofs.YtdcdalbbjfjadaaGreatDoor
