/- Proved, in parts: Proved: whatever a deed does, an edition that is there stays, with its page; plain facts, no program is named here; no condition. Proved: the model's and the program's WorkIn answer the first work of that name, its copies in new memory, and true, or the zero work and false; they write nothing that was there. Condition: texts and lists of at most a million. Proved: what the law on editions that stay asks of the plain functions; no program is named here; no condition. Proved: the language's own test tells a copy like itself; no condition. Proved: the laws' own test tells a work like itself; what a law knows of its boxes and lists stays behind calls; nothing that was there is written. Proved: the laws' own tests tell shelves, books and lists of replies like themselves; nothing that was there is written. Condition: lists of at most a million. Proved: an operation whose run is told walks on with its value; no program is named here; no condition. Proved: an argument that is a list of bytes can be read byte by byte, and the laws' own test of its length; no condition. -/
import Derived.Test.YtblcgbgcccjpcaaGreatPart22
import Derived.Test.YtblcgbgcccjpcaaGreatPart25
import Derived.Test.YtblcgbgcccjpcaaGreatPart12
import Derived.Test.YtblcgbgcccjpcaaGreatPart45
import Derived.Test.YtblcgbgcccjpcaaGreatPart03
import Derived.Calls
import Derived.KernelRfl
import Derived.Test.YtblcgbgcccjpcaaGreatPart39
import Derived.Test.YtblcgbgcccjpcaaGreatPart37
import Derived.Test.YtblcgbgcccjpcaaGreatPart01
import Derived.Test.YtblcgbgcccjpcaaGreatPart38
import Derived.ProofKit
import Derived.OpenShut
import Derived.Carry
namespace Go.Proofs.YtblcgbgcccjpcaaGreat
open Go.RowKit
set_option maxRecDepth 20000
namespace M
def nmIs (n : ByteArray) (x : Wk) : Bool := x.name.data.toList == n.data.toList
theorem getN_putN (l : List Wk) (w : Wk) (n : ByteArray) : getN (putN l w) n = if nmIs n w then some w else getN l n := by
  have hF : ∀ F : List Wk, (∀ x ∈ F, nmIs w.name x = false) → (insN w F).find? (nmIs n) = if nmIs n w then some w else F.find? (nmIs n) := fun F hF => by
    rw [insN_at, List.find?_append, List.find?_cons]
    rcases hn : nmIs n w with _ | _
    · rw [if_neg (by simp)]
      show ((F.take (placeN F w)).find? (nmIs n)).or ((F.drop (placeN F w)).find? (nmIs n)) = _
      rw [← List.find?_append, List.take_append_drop]
    · rw [if_pos rfl]
      have e : w.name.data.toList = n.data.toList := by simpa [nmIs] using hn
      have : (F.take (placeN F w)).find? (nmIs n) = none := List.find?_eq_none.2 fun x hx h => by
        have h1 := hF x (List.mem_of_mem_take hx)
        simp only [nmIs, beq_eq_false_iff_ne, beq_iff_eq] at h1 h
        exact h1 (h.trans e.symm)
      rw [this]
      rfl
  show (insN w (l.filter fun x => !nmIs w.name x)).find? (nmIs n) = if nmIs n w then some w else l.find? (nmIs n)
  rw [hF _ fun x hx => by simpa using (List.mem_filter.1 hx).2]
  rcases hn : nmIs n w with _ | _
  · rw [if_neg (by simp), if_neg (by simp), List.find?_filter]
    congr 1
    funext x
    rcases hx : nmIs n x with _ | _
    · simp
    · have : nmIs w.name x = false := by
        simp only [nmIs, beq_eq_false_iff_ne, beq_iff_eq] at hn hx ⊢
        exact fun e => hn (e.symm.trans hx)
      simp [this]
  · rfl
/-- The page of an edition of a work. -/
def pageIn (w : Wk) (e : Ed) : Option ByteArray := (w.copies.find? (isEd e)).map fun c => c.page
def pageOf (l : List Wk) (n : ByteArray) (e : Ed) : Option ByteArray := (getN l n).bind fun w => pageIn w e
theorem page_put {w : Wk} {k : Nat} {c : Cp} {e : Ed} {p : ByteArray} (h : pageIn w e = some p) (hc : findEd w.copies c.ed = w.copies.length) : pageIn { w with copies := putAt w.copies k c } e = some p := by
  unfold pageIn at h ⊢
  show ((putAt w.copies k c).find? (isEd e)).map _ = _
  have hne : c.ed ≠ e := fun he => by
    rcases hf : w.copies.find? (isEd e) with _ | x
    · rw [hf] at h; cases h
    · have hx := List.mem_of_find?_eq_some hf
      have h1 : isEd e x = true := by simpa using List.find?_some hf
      have := List.findIdx_eq_length.1 hc x hx
      rw [he, h1] at this
      cases this
  have hcf : isEd e c = false := by simp [isEd, hne]
  unfold putAt
  rw [List.find?_append, List.find?_cons, hcf]
  show (((w.copies.take k).find? (isEd e)).or ((w.copies.drop k).find? (isEd e))).map _ = _
  rw [← List.find?_append, List.take_append_drop]
  exact h
theorem find_veil (e : Ed) (h : Bool) : ∀ (l : List Cp) (k : Nat), ((veilAt l k h).find? (isEd e)).map (fun c => c.page) = (l.find? (isEd e)).map fun c => c.page
  | [], k => by simp [veilAt]
  | c :: l, 0 => by
    have : isEd e { c with hidden := h } = isEd e c := rfl
    simp only [veilAt, List.modify_zero_cons, List.find?_cons, this]
    split <;> rfl
  | c :: l, k + 1 => by
    have ih := find_veil e h l k
    unfold veilAt at ih ⊢
    simp only [List.modify_succ_cons, List.find?_cons]
    split
    · rfl
    · exact ih
theorem page_stays {l : List Wk} (d : Dd) {n : ByteArray} {e : Ed} {p : ByteArray} (h : pageOf l n e = some p) : pageOf (keptD l d).1 n e = some p := by
  have hput : ∀ w w' : Wk, getN l d.name = some w → w'.name = w.name → (pageIn w e = some p → pageIn w' e = some p) → pageOf (putN l w') n e = some p := fun w w' hw hnm hpg => by
    unfold pageOf at h ⊢
    rw [getN_putN]
    rcases hn : nmIs n w' with _ | _
    · rw [if_neg (by simp)]; exact h
    · rw [if_pos rfl]
      have e1 : n.data.toList = d.name.data.toList := by
        have h1 := getN_name hw
        simp only [nmIs, beq_iff_eq, hnm] at hn
        exact hn.symm.trans h1
      have : getN l n = some w := by
        rw [← hw]
        unfold getN
        rw [e1]
      rw [this] at h
      exact hpg h
  have hall : (doAll l d).2.1 = 0 → pageOf (doAll l d).1 n e = some p := fun _ => by
    unfold doAll
    split
    · split
      · unfold doClaim
        split
        · exact h
        · rename_i hn
          split
          · exact h
          · unfold pageOf at h ⊢
            rw [getN_putN]
            rcases hnm : nmIs n ⟨d.name, d.who, []⟩ with _ | _
            · rw [if_neg (by simp)]; exact h
            · have e1 : n.data.toList = d.name.data.toList := by
                simp only [nmIs, beq_iff_eq] at hnm
                exact hnm.symm
              have : getN l n = none := by
                rw [← hn]
                unfold getN
                rw [e1]
              rw [this] at h
              cases h
      · split
        · unfold doPut
          split
          · exact h
          · rename_i w hw
            split
            · split
              · exact h
              · split
                · rename_i hc hp
                  refine hput w _ hw (printed_name hp) fun hpg => ?_
                  unfold printed at hp ⊢
                  split at hp
                  · rename_i hk
                    rw [if_pos hk]
                    split at hp
                    · cases hp
                    · rename_i hno
                      rw [if_neg hno]
                      refine page_put hpg ?_
                      have h1 : ¬ findEd w.copies d.ed < w.copies.length := fun h => hno (.inl h)
                      have h2 : findEd w.copies d.ed ≤ w.copies.length := List.findIdx_le_length
                      show findEd w.copies d.ed = _
                      omega
                  · cases hp
                · exact h
            · exact h
        · have hveil : ∀ hid, pageOf (doVeil l d hid).1 n e = some p := fun hid => by
            unfold doVeil
            split
            · exact h
            · rename_i w hw
              split
              · split
                · rename_i hv
                  unfold veiled at hv
                  split at hv
                  · rename_i hk
                    split at hv
                    · rename_i hf
                      rw [veiled_some hid hk hf]
                      refine hput w _ hw rfl fun hpg => ?_
                      unfold pageIn at hpg ⊢
                      rw [← hpg]
                      exact find_veil e hid w.copies _
                    · cases hv
                  · cases hv
                · exact h
              · exact h
          split
          · exact hveil true
          · split
            · exact hveil false
            · split
              · unfold doFetch
                split
                · exact h
                · split
                  · split <;> exact h
                  · exact h
              · unfold doGive
                split
                · split
                  · exact h
                  · rename_i w hw
                    split
                    · exact hput w _ hw rfl fun hpg => hpg
                    · exact h
                · exact h
    · exact h
  unfold keptD
  show pageOf (if (doAll l d).2.1 = 0 then (doAll l d).1 else l) n e = some p
  split
  · rename_i h0; exact hall h0
  · exact h
end M
end Go.Proofs.YtblcgbgcccjpcaaGreat
namespace Go.Proofs.YtblcgbgcccjpcaaGreat
open Go.RowKit
set_option maxRecDepth 20000
namespace M
def workIn (l : List Wk) (n : ByteArray) : Wk × Bool := match l[sfFind l n]? with
  | some w => (w, true)
  | none => (zeroWk, false)
theorem workIn_none {l : List Wk} {n : ByteArray} (h : sfFind l n = l.length) : workIn l n = (zeroWk, false) := by
  unfold workIn; rw [h, List.getElem?_eq_none (Nat.le_refl _)]
theorem workIn_some {l : List Wk} {n : ByteArray} {k : Nat} (h : sfFind l n = k) (hk : k < l.length) : workIn l n = (l[k], true) := by
  unfold workIn; rw [h, List.getElem?_eq_getElem hk]
theorem sfFind_le (l : List Wk) (n : ByteArray) : sfFind l n ≤ l.length := List.findIdx_le_length
end M
theorem results_swi (name : ByteArray) (owner : Int) (v : Value) (b : Bool) (R : Nat) (W : World) (tmps : Array Value) (h2 : tmps.getD 4 undef = .pointer (some ⟨R, 0, none⟩)) (h3 : tmps.getD 5 undef = .bool b) (hW : Holds W R (wkA name owner v)) :
    (results Tryz.f13 tmps).run Tryz.prog W = .ok (.tuple #[.agg (wkA name owner v), .bool b]) W := by
  obtain ⟨q0, q1, q2⟩ := hW.at3
  simp at h2 h3
  simp [results, Tryz.results13, go_sem, h2, h3, q0, q1, q2]
set_option maxHeartbeats 2000000 in
theorem specWorkIn (A : Option Addr) (l : List Wr) (cap : Nat) (name : ByteArray) (w : World) (hl : Wks w A l) (hA : ∀ r ∈ l, r.ad = none → r.cap = 0) (hlen : l.length ≤ 1048576) (hp : WrsIn 1048576 l) :
    Calls Tryz.prog 13 #[.slice A l.length cap, .string name] w fun r w' => WkRet w.heap.size (M.workIn (l.map Wr.wk) name) r w' ∧ Below w.heap.size w w' := by
  have b0 := (Below.refl w.heap.size w).alloc (Nat.le_refl _) (.cells (wkL ⟨#[]⟩ 0 none 0 0) 44)
  have h2 := holds_new w (wkL ⟨#[]⟩ 0 none 0 0) 44
  have f2 := loose_new w (wkL ⟨#[]⟩ 0 none 0 0) 44
  have HL := Lib.hid (hl.below b0)
  have HP := Lib.hid hp
  have HA := Lib.hid hA
  clear hl hp hA
  rcases Nat.lt_or_ge (M.sfFind (l.map Wr.wk) name) l.length with hf | hf
  · obtain ⟨k, hk⟩ : ∃ k, M.sfFind (l.map Wr.wk) name = k := ⟨_, rfl⟩
    rw [hk] at hf
    have HE := Lib.hid (show M.workIn (l.map Wr.wk) name = (⟨l[k].name, l[k].owner, l[k].cps⟩, true) from by rw [M.workIn_some hk (by simpa using hf)]; simp [Wr.wk])
    have HPOS := Lib.hid (show M.sfFindInt (l.map Wr.wk) name = (k : Int) from by rw [M.sfFindInt_pos (by rw [hk]; simpa using hf), hk])
    clear hk
    obtain ⟨b, o, rfl, hbl, c0, c1, c2, hc⟩ := Wks_at HL.out hf
    have HC := Lib.hid hc
    have hcl := HP.out l[k] (List.getElem_mem hf)
    have HCA := Lib.hid (HA.out l[k] (List.getElem_mem hf))
    have HCL := Lib.hid hcl
    clear hc hcl
    go_enter Tryz.func13, Tryz.ntmps13
    go_wp2_with fail
    have hcall := l5Find_any (some ⟨b, o, none⟩) l cap name _ HL.out hlen
    rw [HPOS.out] at hcall
    refine hcall.mono ?_
    rintro r w1 ⟨rfl, rfl⟩
    clear hcall
    go_wp2_with fail
    refine (l4Own_any l[k].name l[k].owner l[k].ad l[k].cps l[k].cap _ HC.out HCA.out HCL.out.2.1).mono ?_
    rintro r w2 ⟨A', c', rfl, ho, b2⟩
    replace f2 := f2.below h2.1 b2
    replace h2 := h2.below b2
    replace b0 := next b0 b2
    obtain ⟨r0, r1, r2⟩ := h2.at3
    obtain ⟨s0, s1, s2⟩ := f2.fz3
    have z2 := h2.1
    have HO := Lib.hid ho
    clear ho b2 c0 c1 c2
    go_wp2
    exact bodyPost_ret (results_swi l[k].name l[k].owner (.slice A' l[k].cps.length c') true w.heap.size _ _ rfl rfl (h2.wr3 _ _ _)) rfl ⟨WkRet.mk' HE.out ((((HO.out.off (by simp) _).off (by simp) _).off (by simp) _).mono (by simp)), far_3 b0 (Nat.le_refl _) _ _ _⟩
  · have hk : M.sfFind (l.map Wr.wk) name = (l.map Wr.wk).length := by
      have := M.sfFind_le (l.map Wr.wk) name
      rw [List.length_map] at this ⊢
      omega
    have HE := Lib.hid (M.workIn_none hk)
    have HNEG := Lib.hid (M.sfFindInt_neg hk)
    clear hk hf
    obtain ⟨r0, r1, r2⟩ := h2.at3
    obtain ⟨s0, s1, s2⟩ := f2.fz3
    have z2 := h2.1
    go_enter Tryz.func13, Tryz.ntmps13
    go_wp2_with fail
    have hcall := l5Find_any A l cap name _ HL.out hlen
    rw [HNEG.out] at hcall
    refine hcall.mono ?_
    rintro r w1 ⟨rfl, rfl⟩
    clear hcall
    generalize w.alloc (.cells (wkL ⟨#[]⟩ 0 none 0 0) 44) = wa at *
    go_wp2
    exact bodyPost_ret (results_swi ⟨#[]⟩ 0 (.slice none 0 0) false w.heap.size _ _ rfl rfl (h2.wr3 _ _ _)) rfl ⟨WkRet.zero _ _ HE.out, far_3 b0 (Nat.le_refl _) _ _ _⟩

end Go.Proofs.YtblcgbgcccjpcaaGreat
namespace Go.Proofs.YtblcgbgcccjpcaaGreat
open Go.RowKit
set_option maxRecDepth 20000
namespace M
theorem getN_at {l : List Wk} (h : sfOk l = true) {j : Nat} (hj : j < l.length) : getN l l[j].name = some l[j] := by
  have hr := sfOk_riseN h
  unfold getN
  rw [List.find?_eq_some_iff_getElem]
  refine ⟨by simp, j, hj, rfl, fun i hi => ?_⟩
  have h := (List.pairwise_iff_getElem.1 hr) i j (by omega) hj hi
  show (!(nmB l[i] == nmB l[j])) = true
  rw [(before_asymm h).2]; rfl
theorem page_at {l : List Wk} (h : sfOk l = true) {i : Nat} (hi : i < l.length) {k : Nat} (hk : k < l[i].copies.length) : pageOf l l[i].name (l[i].copies[k]).ed = some (l[i].copies[k]).page := by
  unfold pageOf
  rw [getN_at h hi]
  show pageIn l[i] _ = _
  unfold pageIn
  have hw := ((sfOk_iff l).1 h).2.1 l[i] (List.getElem_mem hi)
  have hrb : risesB l[i].copies = true := by
    simp only [wkOk, cpsOk, Bool.and_eq_true] at hw
    exact hw.2.2
  have hf := find_rises hrb hk
  unfold findEd at hf
  rw [← getIdx_find, hf, List.getElem?_eq_getElem hk]
  rfl
theorem doAll_form (l : List Wk) (d : Dd) : (doAll l d).1 = l ∨ ∃ w, (doAll l d).1 = putN l w := by
  unfold doAll doClaim doPut doVeil doFetch doGive
  repeat' split
  all_goals first | exact .inl rfl | exact .inr ⟨_, rfl⟩
/-- What stays of a shelf, whatever is done. -/
structure Kept (s0 s : List Wk) : Prop where
  ok : sfOk s = true
  page : ∀ n e p, pageOf s0 n e = some p → pageOf s n e = some p
  name : ∀ n w, getN s0 n = some w → ∃ w', getN s n = some w'
theorem Kept.start {s : List Wk} (h : sfOk s = true) : Kept s s := ⟨h, fun _ _ _ h => h, fun _ w h => ⟨w, h⟩⟩
theorem Kept.does {s0 s : List Wk} (h : Kept s0 s) (d : Dd) : Kept s0 (does s d).1 := by
  have e : (M.does s d).1 = (keptD s d).1 := by
    unfold M.does keptD
    rw [if_pos h.ok]
  refine ⟨keep_does s d, fun n ed p hp => ?_, fun n w hw => ?_⟩
  · rw [e]
    exact page_stays d (h.page n ed p hp)
  · rw [e]
    obtain ⟨w', hw'⟩ := h.name n w hw
    have hall : ∃ w', getN (doAll s d).1 n = some w' := by
      rcases doAll_form s d with hf | ⟨x, hf⟩
      · rw [hf]; exact ⟨w', hw'⟩
      · rw [hf, getN_putN]
        split
        · exact ⟨x, rfl⟩
        · exact ⟨w', hw'⟩
    unfold keptD
    show ∃ w', getN (if (doAll s d).2.1 = 0 then (doAll s d).1 else s) n = some w'
    split
    · exact hall
    · exact ⟨w', hw'⟩
theorem wkOk_small {w : Wk} (h : wkOk w = true) : w.name.size ≤ 12 ∧ w.copies.length ≤ 12 ∧ ∀ x ∈ w.copies, x.page.size ≤ 12 := by
  have h1 : sfOk (([⟨w.name, w.owner, none, 0, w.copies⟩] : List Wr).map Wr.wk) = true := (sfOk_iff _).2 ⟨by simp, by simpa [Wr.wk] using h, rfl⟩
  exact (wrs_ok h1).2 ⟨w.name, w.owner, none, 0, w.copies⟩ (by simp)
theorem getN_mem' {l : List Wk} {n : ByteArray} {w : Wk} (h : getN l n = some w) : w ∈ l := List.mem_of_find?_eq_some h
theorem Kept.work {s0 s : List Wk} (h : Kept s0 s) (h0 : sfOk s0 = true) {i : Nat} (hi : i < s0.length) : ∃ w2, workIn s s0[i].name = (w2, true) ∧ wkOk w2 = true ∧ ∀ k (hk : k < s0[i].copies.length), ∃ c, copyIn w2 (s0[i].copies[k]).ed = (c, true) ∧ c.page = (s0[i].copies[k]).page := by
  obtain ⟨w2, hw⟩ := h.name _ _ (getN_at h0 hi)
  have hk2 := ((sfOk_iff s).1 h.ok).2.1 w2 (getN_mem' hw)
  refine ⟨w2, ?_, hk2, fun k hk => ?_⟩
  · have := hw
    rw [getN_sf] at this
    unfold workIn
    rw [this]
  · have hp := h.page _ _ _ (page_at h0 hi hk)
    unfold pageOf at hp
    rw [hw] at hp
    have hp2 : (w2.copies.find? (isEd (s0[i].copies[k]).ed)).map (fun c => c.page) = some (s0[i].copies[k]).page := hp
    rcases hc : w2.copies.find? (isEd (s0[i].copies[k]).ed) with _ | c
    · rw [hc] at hp2; cases hp2
    · rw [hc] at hp2
      refine ⟨c, ?_, Option.some.inj hp2⟩
      unfold copyIn
      rw [if_pos hk2]
      unfold findEd
      rw [getIdx_find, hc]
end M
end Go.Proofs.YtblcgbgcccjpcaaGreat
namespace Go.Proofs.YtblcgbgcccjpcaaGreat
open Go.RowKit
set_option maxRecDepth 20000

end Go.Proofs.YtblcgbgcccjpcaaGreat
namespace Go.Proofs.YtblcgbgcccjpcaaGreat
open Go.RowKit
set_option maxRecDepth 20000

/-- Lists of copies that can be read: where, how much room, which. -/
def Rws (x : World) (rs : List (Option Addr × Nat × List M.Cp)) : Prop := ∀ r ∈ rs, Cps x r.1 r.2.2 ∧ (r.1 = none → r.2.1 = 0) ∧ r.2.2.length ≤ r.2.1
/-- A law's memory: nothing that was there in w has changed; the boxes bx hold their cells; the lists rs can be read. -/
def Lw (w : World) (bx : List (Nat × Array Value)) (rs : List (Option Addr × Nat × List M.Cp)) (x : World) : Prop := Mem w bx [] x ∧ Rws x rs
section
variable {w x y : World} {bx : List (Nat × Array Value)} {rs : List (Option Addr × Nat × List M.Cp)}
theorem Lw.start (w : World) : Lw w [] [] w := ⟨Mem.start w, fun _ h => by cases h⟩
theorem Lw.below (h : Lw w bx rs x) (hb : Below x.heap.size x y) : Lw w bx rs y := ⟨h.1.below hb, fun r hr => ⟨(h.2 r hr).1.below hb, (h.2 r hr).2⟩⟩
theorem Lw.alloc (h : Lw w bx rs x) (o : Obj) : Lw w bx rs (x.alloc o) := h.below ((Below.refl _ _).alloc (Nat.le_refl _) o)
theorem Lw.new (h : Lw w bx rs x) (C : Array Value) (t : TypeId) : Lw w ((x.heap.size, C) :: bx) rs (x.alloc (.cells C t)) := ⟨(h.alloc (.cells C t)).1.add (holds_new x C t), (h.alloc (.cells C t)).2⟩
theorem Lw.row (h : Lw w bx rs x) {B n c : Nat} {A : Option Addr} {l : List M.Cp} (ho : CpOwn B x (.slice A n c) l) : Lw w bx ((A, c, l) :: rs) x :=
  ⟨h.1, fun r hr => by
    rcases List.mem_cons.1 hr with rfl | hr
    · exact ⟨ho.cps.1, ho.nilc, own_cap ho⟩
    · exact h.2 r hr⟩
theorem Lw.cells (h : Lw w bx rs x) (R : Nat) (C : Array Value) (hp : (R, C) ∈ bx) : Holds x R C := h.1.get R C hp
theorem Lw.list (h : Lw w bx rs x) (A : Option Addr) (c : Nat) (l : List M.Cp) (hp : (A, c, l) ∈ rs) : Cps x A l ∧ (A = none → c = 0) ∧ l.length ≤ c := h.2 (A, c, l) hp
theorem Lw.sub {bx' : List (Nat × Array Value)} {rs' : List (Option Addr × Nat × List M.Cp)} (h : Lw w bx rs x) (hb : ∀ p ∈ bx', p ∈ bx) (hr : ∀ r ∈ rs', r ∈ rs) : Lw w bx' rs' x := ⟨h.1.sub hb, fun r hr' => h.2 r (hr r hr')⟩
end

end Go.Proofs.YtblcgbgcccjpcaaGreat
namespace Go.Proofs.YtblcgbgcccjpcaaGreat
open Go.RowKit
set_option maxRecDepth 20000
end Go.Proofs.YtblcgbgcccjpcaaGreat
namespace Go.Proofs.YtblcgbgcccjpcaaGreat
open Go Go.RowKit
end Go.Proofs.YtblcgbgcccjpcaaGreat
namespace Go.Proofs.YtblcgbgcccjpcaaGreat
open Go.ChangeShapes Go.WideShapes Go.ChangeAt Go.RowKit
set_option maxRecDepth 20000

theorem big_any (a : Option Addr) (len cap : Nat) (w : World) : Calls Tryz.prog 9 #[.slice a len cap] w fun e w' => e = .returned (.bool (decide (4096 < len))) ∧ w = w' := by
  by_cases h : 4096 < len
  · go_enter Tryz.func9, Tryz.ntmps9
    go_wp2
    go_ret
    exact ⟨ret_bool (decide_eq_decide.2 (by omega)), rfl⟩
  · go_enter Tryz.func9, Tryz.ntmps9
    go_wp2
    go_ret
    exact ⟨ret_bool (decide_eq_decide.2 (by omega)), rfl⟩

theorem CodeOk.later {w w' : World} {a : Option Addr} {len : Nat} (h : CodeOk w.heap.size w a len) (hb : Below w.heap.size w w') : CodeOk w'.heap.size w' a len := by
  intro j hj
  obtain ⟨b, off, n, ha, hlt, h0, h1, hc⟩ := h.kept hb.block j hj
  exact ⟨b, off, n, ha, Nat.lt_of_lt_of_le hlt hb.size, h0, h1, hc⟩

theorem open_code {H : Type} {enc : TypeId × Value → H} {W : World} {spare : Nat → Bool} {held : Bool} {r : Reach} {b0 : Nat} {v : Value} {d : DataW H} {p : List MemPlace}
    (hv : Value.okWide Tryz.prog W r b0 22 v) (h : DataW.Trod enc Tryz.prog W 0 spare held 22 v d p) :
    ∃ (a : Option Addr) (len cap : Nat), v = .slice a len cap ∧ CodeOk W.heap.size W a len := by
  obtain ⟨a0, len0, cap0, rfl⟩ := okWide_slice Tryz.underlying22 hv
  refine ⟨a0, len0, cap0, rfl, ?_⟩
  obtain ⟨fuel, hf⟩ := h
  rcases open_ints Tryz.underlying22 Tryz.underlying5 (by kernel_rfl) hf with ⟨hcs, _⟩ | ⟨x, l, c, zs, hcs, _, hl, hm, hz, _, hcell, hwz⟩
  · simp [Value.cells] at hcs
    obtain ⟨rfl, rfl, rfl⟩ := hcs
    intro j hj
    omega
  · simp [Value.cells] at hcs
    obtain ⟨rfl, rfl, rfl⟩ := hcs
    intro j hj
    have hz' : len0 ≤ zs.length := by
      rw [hz]; split <;> omega
    obtain ⟨b, off, rfl, hcs⟩ := ints_at hcell (by omega)
    have hcj := hcs j (by omega)
    have hlt := World.block_lt_of_cell? W _ hcj
    have hbd := bounds_u8 (hwz (zs.getD j 0) (by rw [List.getD_eq_getElem?_getD, List.getElem?_eq_getElem (by omega)]; exact List.getElem_mem _))
    exact ⟨b, off, _, rfl, hlt, hbd.1, hbd.2, hcj⟩
end Go.Proofs.YtblcgbgcccjpcaaGreat
