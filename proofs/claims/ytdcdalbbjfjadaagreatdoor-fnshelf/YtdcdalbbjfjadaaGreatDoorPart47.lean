/- Proved, in parts: Proved: what the model draws for the law on shelves: a small shelf in new memory, a deed, a name. Nothing that was there is written. Condition: a code of at most 4096 bytes. Proved: whatever a deed does, an edition that is there stays, with its page; plain facts, no program is named here; no condition. Proved: what a deed leaves in a shelf, and what is fetched of it behind; plain facts, no program is named here; no condition. Proved: the language's own test tells a copy like itself; no condition. Proved: the laws' own test tells a work like itself; what a law knows of its boxes and lists stays behind calls; nothing that was there is written. -/
import Derived.Test.YtdcdalbbjfjadaaGreatDoorPart46
import Derived.Test.YtdcdalbbjfjadaaGreatDoorPart27
import Derived.Test.YtdcdalbbjfjadaaGreatDoorPart45
import Derived.Test.YtdcdalbbjfjadaaGreatDoorPart36
import Derived.Test.YtdcdalbbjfjadaaGreatDoorPart05
import Derived.Calls
import Derived.KernelRfl
import Derived.Test.YtdcdalbbjfjadaaGreatDoorPart41
namespace Go.Proofs.YtdcdalbbjfjadaaGreatDoor
open Go.RowKit
set_option maxRecDepth 20000
set_option linter.unusedVariables false
/-- A small shelf in new memory. -/
def SfTop (w w' : World) (v : Value) : Prop :=
  ∃ (A : Option Addr) (c : Nat) (rs : List Wr), v = .slice A rs.length c ∧ SfOwn w.heap.size w' (.slice A rs.length c) rs ∧ (rs.length ≤ 6 ∧ WrsIn 64 rs)
theorem results_DrawDoes (v : Value) (d : M.Dd) (R : Nat) (W : World) (tmps : Array Value) (h2 : tmps.getD 2 undef = v) (h3 : tmps.getD 3 undef = .pointer (some ⟨R, 0, none⟩)) (hW : Holds W R (ddC d)) :
    (results Tryz.f5 tmps).run Tryz.prog W = .ok (.tuple #[v, ddV d]) W := by
  obtain ⟨q0, q1, q2, q3, q4, q5, q6⟩ := hW.seven
  simp at h2 h3
  simp [results, Tryz.results5, go_sem, h2, h3, q0, q1, q2, q3, q4, q5, q6]
set_option maxHeartbeats 4000000 in
theorem DrawDoes_any (w : World) (a : Option Addr) (len cap : Nat) (hl : len ≤ 4096) (hc : CodeOk w.heap.size w a len) :
    Calls Tryz.prog 5 #[.slice a len cap] w fun e w' => ∃ (v : Value) (d : M.Dd), e = .returned (.tuple #[v, ddV d]) ∧ SfTop w w' v ∧ (d.name.size ≤ 64 ∧ d.page.size ≤ 64) ∧ Below w.heap.size w w' := by
  have hm0 := (Mem.start w).new (ddC M.zeroDd) 28
  go_enter Tryz.func5, Tryz.ntmps5
  go_wp2_with fail
  refine (l1New_any w.heap.size _ a len cap (by simp <;> omega) hl (hc.alloc (Nat.le_refl _) _)).mono ?_
  rintro e0 x1 ⟨rfl, hc1, hg1⟩
  have hm := DrT.start hm0 (by simp) hg1 hc1
  simp only [World.size_alloc] at hm
  have hsz : w.heap.size + 1 < x1.heap.size := by have := hc1.2.1; simpa using this
  clear hm0 hc1 hg1 hc
  go_wp2_with fail
  refine (l5DrawAny_any _ _ _ hm.cur).mono ?_
  rintro e1 x2 ⟨A, c, rs, rfl, hs, hz, hc2, hg2⟩
  replace hm := hm.by hg2 hc2
  have HS := Lib.hid hs
  have HZ := Lib.hid hz
  clear hc2 hg2 hs hz
  go_wp2_with fail
  refine (l3DrawAny_any _ _ _ hm.cur).mono ?_
  rintro e1 x3 ⟨d, hd, rfl, hc2, hg2⟩
  replace hm := hm.by hg2 hc2
  replace HS := Lib.hid (HS.out.by hg2 (by omega))
  clear hc2 hg2
  obtain ⟨q0, q1, q2, q3, q4, q5, q6⟩ := (hm.get (R := w.heap.size) (C := ddC M.zeroDd) (by simp)).1.seven
  obtain ⟨z0, z1, z2, z3, z4, z5, z6⟩ := (hm.get (R := w.heap.size) (C := ddC M.zeroDd) (by simp)).2.seven
  have zl := (hm.get (R := w.heap.size) (C := ddC M.zeroDd) (by simp)).1.1
  have HM := Lib.hid hm
  clear hm
  go_wp2
  exact bodyPost_ret (results_DrawDoes (.slice A rs.length c) d w.heap.size _ _ rfl rfl ((HM.out.get (R := w.heap.size) (C := ddC M.zeroDd) (by simp)).1.wr7 _ _ _ _ _ _ _)) rfl ⟨_, d, rfl, ⟨A, c, rs, rfl, (((((((HS.out.set (by omega) 0 _).set (by omega) 1 _).set (by omega) 2 _).set (by omega) 3 _).set (by omega) 4 _).set (by omega) 5 _).set (by omega) 6 _).mono (by omega), HZ.out⟩, hd, far_7 HM.out.below (Nat.le_refl _) _ _ _ _ _ _ _⟩
set_option maxHeartbeats 4000000 in
theorem DrawWorkIn_any (w : World) (a : Option Addr) (len cap : Nat) (hl : len ≤ 4096) (hc : CodeOk w.heap.size w a len) :
    Calls Tryz.prog 7 #[.slice a len cap] w fun e w' => ∃ (v : Value) (s : ByteArray), e = .returned (.tuple #[v, .string s]) ∧ SfTop w w' v ∧ Below w.heap.size w w' := by
  have hm0 := Mem.start w
  go_enter Tryz.func7, Tryz.ntmps7
  go_wp2_with fail
  refine (l1New_any w.heap.size _ a len cap (Nat.le_refl _) hl hc).mono ?_
  rintro e0 x1 ⟨rfl, hc1, hg1⟩
  have hm := DrT.start hm0 (by simp) hg1 hc1
  have hsz : w.heap.size < x1.heap.size := by have := hc1.2.1; simpa using this
  clear hm0 hc1 hg1 hc
  go_wp2_with fail
  refine (l5DrawAny_any _ _ _ hm.cur).mono ?_
  rintro e1 x2 ⟨A, c, rs, rfl, hs, hz, hc2, hg2⟩
  replace hm := hm.by hg2 hc2
  have HS := Lib.hid hs
  have HZ := Lib.hid hz
  clear hc2 hg2 hs hz
  go_wp2_with fail
  refine (l1DrawName_any _ _ _ hm.cur).mono ?_
  rintro e1 x3 ⟨s, hn, rfl, hc2, hg2⟩
  have HM := Lib.hid (hm.by hg2 hc2)
  replace HS := Lib.hid (HS.out.by hg2 (by omega))
  clear hc2 hg2 hm
  go_wp2
  go_ret2
  exact ⟨_, s, rfl, ⟨A, c, rs, rfl, HS.out.mono (by omega), HZ.out⟩, HM.out.below⟩
set_option maxHeartbeats 4000000 in
theorem DrawShelfOk_any (w : World) (a : Option Addr) (len cap : Nat) (hl : len ≤ 4096) (hc : CodeOk w.heap.size w a len) :
    Calls Tryz.prog 28 #[.slice a len cap] w fun e w' => ∃ (v : Value), e = .returned v ∧ SfTop w w' v ∧ Below w.heap.size w w' := by
  have hm0 := Mem.start w
  go_enter Tryz.func28, Tryz.ntmps28
  go_wp2_with fail
  refine (l1New_any w.heap.size _ a len cap (Nat.le_refl _) hl hc).mono ?_
  rintro e0 x1 ⟨rfl, hc1, hg1⟩
  have hm := DrT.start hm0 (by simp) hg1 hc1
  have hsz : w.heap.size < x1.heap.size := by have := hc1.2.1; simpa using this
  clear hm0 hc1 hg1 hc
  go_wp2_with fail
  refine (l5DrawAny_any _ _ _ hm.cur).mono ?_
  rintro e1 x2 ⟨A, c, rs, rfl, hs, hz, hc2, hg2⟩
  have HM := Lib.hid (hm.by hg2 hc2)
  have HS := Lib.hid hs
  have HZ := Lib.hid hz
  clear hc2 hg2 hs hz hm
  go_wp2
  go_ret
  exact ⟨_, rfl, ⟨A, c, rs, rfl, HS.out.mono (by omega), HZ.out⟩, HM.out.below⟩
theorem DrawShowShelf_any (w : World) (a : Option Addr) (len cap : Nat) (hl : len ≤ 4096) (hc : CodeOk w.heap.size w a len) :
    Calls Tryz.prog 9 #[.slice a len cap] w fun e w' => ∃ (v : Value), e = .returned v ∧ SfTop w w' v ∧ Below w.heap.size w w' := by
  go_enter Tryz.func9, Tryz.ntmps9
  go_wp2_with fail
  refine (DrawShelfOk_any w a len cap hl hc).mono ?_
  rintro e1 x2 ⟨v, rfl, hs, hb⟩
  obtain ⟨A, c, rs, rfl, h1, h2⟩ := hs
  have HS := Lib.hid h1
  clear h1
  go_wp2
  go_ret
  exact ⟨_, rfl, ⟨A, c, rs, rfl, HS.out, h2⟩, hb⟩
end Go.Proofs.YtdcdalbbjfjadaaGreatDoor
namespace Go.Proofs.YtdcdalbbjfjadaaGreatDoor
open Go.RowKit
set_option maxRecDepth 20000
namespace M
def nmIs (n : ByteArray) (x : Wk) : Bool := x.name.data.toList == n.data.toList
theorem getN_putN (l : List Wk) (w : Wk) (n : ByteArray) : getN (putN l w) n = if nmIs n w then some w else getN l n := by
  have hF : ∀ F : List Wk, (∀ x ∈ F, nmIs w.name x = false) → (insN w F).find? (nmIs n) = if nmIs n w then some w else F.find? (nmIs n) := fun F hF => by
    rw [insN_at, List.find?_append, List.find?_cons]
    rcases hn : nmIs n w with _ | _
    · rw [if_neg (by simp)]
      show ((F.take (placeN F w)).find? (nmIs n)).or ((F.drop (placeN F w)).find? (nmIs n)) = _
      rw [← List.find?_append, List.take_append_drop]
    · rw [if_pos rfl]
      have e : w.name.data.toList = n.data.toList := by simpa [nmIs] using hn
      have : (F.take (placeN F w)).find? (nmIs n) = none := List.find?_eq_none.2 fun x hx h => by
        have h1 := hF x (List.mem_of_mem_take hx)
        simp only [nmIs, beq_eq_false_iff_ne, beq_iff_eq] at h1 h
        exact h1 (h.trans e.symm)
      rw [this]
      rfl
  show (insN w (l.filter fun x => !nmIs w.name x)).find? (nmIs n) = if nmIs n w then some w else l.find? (nmIs n)
  rw [hF _ fun x hx => by simpa using (List.mem_filter.1 hx).2]
  rcases hn : nmIs n w with _ | _
  · rw [if_neg (by simp), if_neg (by simp), List.find?_filter]
    congr 1
    funext x
    rcases hx : nmIs n x with _ | _
    · simp
    · have : nmIs w.name x = false := by
        simp only [nmIs, beq_eq_false_iff_ne, beq_iff_eq] at hn hx ⊢
        exact fun e => hn (e.symm.trans hx)
      simp [this]
  · rfl
end M
end Go.Proofs.YtdcdalbbjfjadaaGreatDoor
namespace Go.Proofs.YtdcdalbbjfjadaaGreatDoor
open Go.RowKit
set_option maxRecDepth 20000
namespace M
theorem nm_of_get {l : List Wk} {n : ByteArray} {w : Wk} (h : getN l n = some w) : w.name.data.toList = n.data.toList := by
  have := List.find?_some h
  simpa using this
theorem workIn_get (l : List Wk) (n : ByteArray) : (workIn l n).2 = (getN l n).isSome := by
  unfold workIn
  rw [getN_sf]
  rcases l[sfFind l n]? with _ | w <;> rfl
theorem get_put {l : List Wk} {n : ByteArray} {w w' : Wk} (h : getN l n = some w) (hn : w'.name = w.name) : getN (putN l w') n = some w' := by
  rw [getN_putN, if_pos]
  have := nm_of_get h
  simp only [nmIs, beq_iff_eq]
  rw [hn]; exact this
theorem claim_there {l : List Wk} {d : Dd} (h0 : (doClaim l d).2.1 = 0) : ∃ w, getN (doClaim l d).1 d.name = some w := by
  unfold doClaim at h0 ⊢
  rcases hg : getN l d.name with _ | w
  · rw [hg] at h0
    simp only at h0 ⊢
    by_cases h5 : 5 < l.length + 1
    · rw [if_pos h5] at h0; exact absurd h0 (by simp)
    · rw [if_neg h5]
      exact ⟨_, by rw [getN_putN, if_pos]; simp [nmIs]⟩
  · rw [hg] at h0
    exact absurd h0 (by simp)
theorem veil_there {l : List Wk} {d : Dd} {b : Bool} (h0 : (doVeil l d b).2.1 = 0) : ∃ w, getN (doVeil l d b).1 d.name = some w := by
  unfold doVeil at h0 ⊢
  rcases hg : getN l d.name with _ | w
  · rw [hg] at h0; exact absurd h0 (by simp)
  · rw [hg] at h0
    simp only at h0 ⊢
    by_cases ho : w.owner = d.who
    · rw [if_pos ho] at h0 ⊢
      rcases hv : (veiled w d.ed b).2 with _ | _
      · rw [hv] at h0; exact absurd h0 (by simp)
      · rw [if_pos rfl]
        exact ⟨_, get_put hg (veiled_name hv)⟩
    · rw [if_neg ho] at h0; exact absurd h0 (by simp)
theorem give_there {l : List Wk} {d : Dd} (h0 : (doGive l d).2.1 = 0) : ∃ w, getN (doGive l d).1 d.name = some w := by
  unfold doGive at h0 ⊢
  rcases hi : inI d.ed.ma 0 3 with _ | _
  · rw [hi] at h0; exact absurd h0 (by simp)
  · rw [hi] at h0
    rw [if_pos rfl] at h0 ⊢
    rcases hg : getN l d.name with _ | w
    · rw [hg] at h0; exact absurd h0 (by simp)
    · rw [hg] at h0
      simp only at h0 ⊢
      by_cases ho : w.owner = d.who
      · rw [if_pos ho]
        exact ⟨_, get_put hg rfl⟩
      · rw [if_neg ho] at h0; exact absurd h0 (by simp)
/-- What was put: the work, its edition with the page. -/
theorem put_there {l : List Wk} {d : Dd} (h0 : (doPut l d).2.1 = 0) : ∃ w, getN (doPut l d).1 d.name = some w ∧ w.owner = d.who ∧ copyIn w d.ed = (⟨d.ed, d.page, false⟩, true) := by
  unfold doPut at h0 ⊢
  rcases hg : getN l d.name with _ | w
  · rw [hg] at h0; exact absurd h0 (by simp)
  · rw [hg] at h0
    simp only at h0 ⊢
    by_cases ho : w.owner = d.who
    · rw [if_pos ho] at h0 ⊢
      rcases hc : (copyIn w d.ed).2 with _ | _
      · rw [hc] at h0
        rw [if_neg (by simp)] at h0 ⊢
        rcases hp : (printed w d.ed d.page).2 with _ | _
        · rw [hp] at h0; exact absurd h0 (by simp)
        · rw [if_pos rfl]
          have hown : (printed w d.ed d.page).1.owner = w.owner := by
            unfold printed at hp ⊢
            split at hp
            · rename_i hk
              rw [if_pos hk]
              split
              · rfl
              · rfl
            · cases hp
          exact ⟨_, get_put hg (printed_name hp), hown.trans ho, (print_law hp).2.2.1⟩
      · rw [hc] at h0
        rw [if_pos rfl] at h0; exact absurd h0 (by simp)
    · rw [if_neg ho] at h0; exact absurd h0 (by simp)
theorem fetch_same (l : List Wk) (d : Dd) : (doFetch l d).1 = l := by
  unfold doFetch
  rcases getN l d.name with _ | w
  · rfl
  · simp only
    split
    · split <;> rfl
    · rfl
/-- A deed that is done, not a fetch, leaves a work of that name. -/
theorem does_there {l : List Wk} {d : Dd} (h0 : (does l d).2.1 = 0) (hk : d.kind ≠ 5) : (workIn (does l d).1 d.name).2 = true := by
  rw [workIn_get]
  unfold does at h0 ⊢
  rcases hok : sfOk l with _ | _
  · rw [hok] at h0; exact absurd h0 (by simp)
  rw [hok] at h0
  rw [if_pos rfl] at h0 ⊢
  simp only at h0 ⊢
  rw [if_pos h0]
  suffices h : ∃ w, getN (doAll l d).1 d.name = some w by
    obtain ⟨w, hw⟩ := h
    rw [hw]; rfl
  unfold doAll at h0 ⊢
  rcases hd : deedOk d with _ | _
  · rw [hd] at h0; exact absurd h0 (by simp)
  rw [hd] at h0
  rw [if_pos rfl] at h0 ⊢
  by_cases k1 : d.kind = 1
  · rw [if_pos k1] at h0 ⊢; exact claim_there h0
  rw [if_neg k1] at h0 ⊢
  by_cases k2 : d.kind = 2
  · rw [if_pos k2] at h0 ⊢
    obtain ⟨w, hw, -⟩ := put_there h0
    exact ⟨w, hw⟩
  rw [if_neg k2] at h0 ⊢
  by_cases k3 : d.kind = 3
  · rw [if_pos k3] at h0 ⊢; exact veil_there h0
  rw [if_neg k3] at h0 ⊢
  by_cases k4 : d.kind = 4
  · rw [if_pos k4] at h0 ⊢; exact veil_there h0
  rw [if_neg k4] at h0 ⊢
  rw [if_neg hk] at h0 ⊢
  exact give_there h0
/-- What is refused, and what is fetched, changes nothing. -/
theorem does_same {l : List Wk} {d : Dd} (hok : sfOk l = true) (h : (does l d).2.1 ≠ 0 ∨ d.kind = 5) : (does l d).1 = l := by
  unfold does at h ⊢
  rw [hok] at h ⊢
  rw [if_pos rfl] at h ⊢
  simp only at h ⊢
  by_cases h0 : (doAll l d).2.1 = 0
  · rw [if_pos h0]
    have hk : d.kind = 5 := h.resolve_left (fun hn => hn h0)
    unfold doAll
    rcases hd : deedOk d with _ | _
    · rfl
    · rw [if_pos rfl, if_neg (by omega), if_neg (by omega), if_neg (by omega), if_neg (by omega), if_pos hk]
      exact fetch_same l d
  · rw [if_neg h0]
/-- The deed that fetches an edition. -/
def fetchOf (d : Dd) : Dd := ⟨5, d.name, d.ed, nilB, 0⟩
theorem put_parts {l : List Wk} {d : Dd} (h0 : (does l d).2.1 = 0) (hk : d.kind = 2) : deedOk d = true ∧ ∃ w, getN (does l d).1 d.name = some w ∧ w.owner = d.who ∧ copyIn w d.ed = (⟨d.ed, d.page, false⟩, true) := by
  unfold does at h0 ⊢
  rcases hok : sfOk l with _ | _
  · rw [hok] at h0; exact absurd h0 (by simp)
  rw [hok] at h0
  rw [if_pos rfl] at h0 ⊢
  simp only at h0 ⊢
  rw [if_pos h0]
  unfold doAll at h0 ⊢
  rcases hd : deedOk d with _ | _
  · rw [hd] at h0; exact absurd h0 (by simp)
  rw [hd] at h0
  rw [if_pos rfl, if_neg (by omega), if_pos hk] at h0 ⊢
  exact ⟨rfl, put_there h0⟩
theorem put_fetch {l : List Wk} {d : Dd} (h0 : (does l d).2.1 = 0) (hk : d.kind = 2) : (does (does l d).1 (fetchOf d)).2 = (0, d.page) := by
  obtain ⟨hd, w, hw, -, hc⟩ := put_parts h0 hk
  have hx := keep_does l d
  have hdf : deedOk (fetchOf d) = true := by
    rw [deedOk_iff] at hd ⊢
    obtain ⟨d1, d2, -, -, -, -⟩ := hd
    refine ⟨d1, d2, ?_, ⟨Int.le_refl _, by show (0 : Int) ≤ 3; decide⟩, .inr rfl, .inr (.inr (.inr (.inr (.inl ⟨rfl, rfl⟩))))⟩
    show pageOk nilB.data.toList = true
    decide
  generalize (does l d).1 = x at hw hx ⊢
  unfold does
  rw [if_pos hx]
  show (doAll x (fetchOf d)).2 = _
  unfold doAll
  have hkf : (fetchOf d).kind = 5 := rfl
  rw [if_pos hdf, if_neg (by omega), if_neg (by omega), if_neg (by omega), if_neg (by omega), if_pos hkf]
  unfold doFetch
  show (match getN x d.name with | none => _ | some w => _ : List Wk × Rp).2 = _
  rw [hw]
  have hc' : copyIn w (fetchOf d).ed = (⟨d.ed, d.page, false⟩, true) := hc
  simp [hc']
theorem put_again {l : List Wk} {d : Dd} (h0 : (does l d).2.1 = 0) (hk : d.kind = 2) : (does (does l d).1 d).2.1 = 2 := by
  obtain ⟨hd, w, hw, ho, hc⟩ := put_parts h0 hk
  have hx := keep_does l d
  generalize (does l d).1 = x at hw hx ⊢
  unfold does
  rw [if_pos hx]
  show (doAll x d).2.1 = _
  unfold doAll
  rw [if_pos hd, if_neg (by omega), if_pos hk]
  unfold doPut
  rw [hw]
  simp only
  rw [if_pos ho, hc]
  rfl
theorem does_bad {l : List Wk} {d : Dd} (h : sfOk l = false) : does l d = ([], (7, nilB)) := by
  unfold does; rw [if_neg (by rw [h]; simp)]
end M
end Go.Proofs.YtdcdalbbjfjadaaGreatDoor
namespace Go.Proofs.YtdcdalbbjfjadaaGreatDoor
open Go.RowKit
set_option maxRecDepth 20000

theorem cp_neq (c : M.Cp) (w : World) : (binOp .neq 71 (cpV c) (cpV c)).run Tryz.prog w = .ok (.bool false) w := by
  simp [go_sem, Tryz.underlying71, Tryz.underlying26, Tryz.underlying2, Tryz.underlying9, Tryz.underlying4]
theorem cpneq_read {A : Act} {o : Oper} {x y : Operand} {c : M.Cp} (ho : o.op = .binOp .neq 71 x y 71) (hx : A.eval x = cpV c) (hy : A.eval y = cpV c) (w : World) :
    (execOp A.eval o).run Tryz.prog w = .ok (.value (.bool false)) w := by
  unfold execOp
  rw [ho]
  have hg := fun (op : BinOp) (x y : Operand) (xs ys : Array Value) (w : World) => run_eqGuard_agg (P := Tryz.prog) w op 71 x y xs ys (by kernel_rfl)
  have he := fun w => cp_neq c w
  simp only [cpV] at he hx hy
  simp only [hx, hy, Sem.run_bind, hg, he, Result.andThen_ok, Sem.run_pure]
end Go.Proofs.YtdcdalbbjfjadaaGreatDoor
namespace Go.Proofs.YtdcdalbbjfjadaaGreatDoor
open Go.RowKit
set_option maxRecDepth 20000

/-- Lists of copies that can be read: where, how much room, which. -/
def Rws (x : World) (rs : List (Option Addr × Nat × List M.Cp)) : Prop := ∀ r ∈ rs, Cps x r.1 r.2.2 ∧ (r.1 = none → r.2.1 = 0) ∧ r.2.2.length ≤ r.2.1
/-- A law's memory: nothing that was there in w has changed; the boxes bx hold their cells; the lists rs can be read. -/
def Lw (w : World) (bx : List (Nat × Array Value)) (rs : List (Option Addr × Nat × List M.Cp)) (x : World) : Prop := Mem w bx [] x ∧ Rws x rs
section
variable {w x y : World} {bx : List (Nat × Array Value)} {rs : List (Option Addr × Nat × List M.Cp)}
theorem Lw.start (w : World) : Lw w [] [] w := ⟨Mem.start w, fun _ h => by cases h⟩
theorem Lw.below (h : Lw w bx rs x) (hb : Below x.heap.size x y) : Lw w bx rs y := ⟨h.1.below hb, fun r hr => ⟨(h.2 r hr).1.below hb, (h.2 r hr).2⟩⟩
theorem Lw.alloc (h : Lw w bx rs x) (o : Obj) : Lw w bx rs (x.alloc o) := h.below ((Below.refl _ _).alloc (Nat.le_refl _) o)
theorem Lw.new (h : Lw w bx rs x) (C : Array Value) (t : TypeId) : Lw w ((x.heap.size, C) :: bx) rs (x.alloc (.cells C t)) := ⟨(h.alloc (.cells C t)).1.add (holds_new x C t), (h.alloc (.cells C t)).2⟩
theorem Lw.row (h : Lw w bx rs x) {B n c : Nat} {A : Option Addr} {l : List M.Cp} (ho : CpOwn B x (.slice A n c) l) : Lw w bx ((A, c, l) :: rs) x :=
  ⟨h.1, fun r hr => by
    rcases List.mem_cons.1 hr with rfl | hr
    · exact ⟨ho.cps.1, ho.nilc, own_cap ho⟩
    · exact h.2 r hr⟩
theorem Lw.cells (h : Lw w bx rs x) (R : Nat) (C : Array Value) (hp : (R, C) ∈ bx) : Holds x R C := h.1.get R C hp
theorem Lw.list (h : Lw w bx rs x) (A : Option Addr) (c : Nat) (l : List M.Cp) (hp : (A, c, l) ∈ rs) : Cps x A l ∧ (A = none → c = 0) ∧ l.length ≤ c := h.2 (A, c, l) hp
theorem Lw.sub {bx' : List (Nat × Array Value)} {rs' : List (Option Addr × Nat × List M.Cp)} (h : Lw w bx rs x) (hb : ∀ p ∈ bx', p ∈ bx) (hr : ∀ r ∈ rs', r ∈ rs) : Lw w bx' rs' x := ⟨h.1.sub hb, fun r hr' => h.2 r (hr r hr')⟩
end

set_option maxHeartbeats 2000000 in
theorem likeWork_same (wk : M.Wk) (A B : Option Addr) (ca cb : Nat) (w : World) (ha : Cps w A wk.copies) (hb : Cps w B wk.copies) (hlen : wk.copies.length ≤ 1048576) :
    Calls Tryz.prog 17 #[wkV wk.name wk.owner A wk.copies.length ca, wkV wk.name wk.owner B wk.copies.length cb] w fun r w' => r = .returned (.bool true) ∧ Below w.heap.size w w' := by
  have h1 : (wk.name.toList != wk.name.toList) = false := by simp
  have h2 : (wk.owner != wk.owner) = false := by simp
  have h3 : ((wk.copies.length : Int) != (wk.copies.length : Int)) = false := by simp
  have hm := ((Mem.start w).new (wkL wk.name wk.owner A wk.copies.length ca) 39).new (wkL wk.name wk.owner B wk.copies.length cb) 39
  have HA := Lib.hid ((ha.alloc (.cells (wkL wk.name wk.owner A wk.copies.length ca) 39)).alloc (.cells (wkL wk.name wk.owner B wk.copies.length cb) 39))
  have HB := Lib.hid ((hb.alloc (.cells (wkL wk.name wk.owner A wk.copies.length ca) 39)).alloc (.cells (wkL wk.name wk.owner B wk.copies.length cb) 39))
  simp only [World.size_alloc] at hm
  have HM := Lib.hid hm
  clear ha hb hm
  go_enter Tryz.func17, Tryz.ntmps17
  go_wp2
  go_loopw [5] (fun i wr => ∃ j : Nat, i = .int .i64 j ∧ j ≤ wk.copies.length ∧ Mem w [(w.heap.size + 1, wkL wk.name wk.owner B wk.copies.length cb), (w.heap.size, wkL wk.name wk.owner A wk.copies.length ca)] [w.heap.size + 1, w.heap.size] wr ∧ Cps wr A wk.copies ∧ Cps wr B wk.copies) (fun i _ => wk.copies.length - (intOf i).toNat)
  case atStart => exact ⟨0, rfl, Nat.zero_le _, HM.out, HA.out, HB.out⟩
  case round =>
    clear HM HA HB
    obtain ⟨j, rfl, hj, hm, ha, hb⟩ := hrel
    have hH := hm.get w.heap.size (wkL wk.name wk.owner A wk.copies.length ca) (by simp)
    have hK := hm.get (w.heap.size + 1) (wkL wk.name wk.owner B wk.copies.length cb) (by simp)
    have l0 := hH.1
    have l1 := hK.1
    obtain ⟨p0, p1, p2⟩ := hH.three
    obtain ⟨q0, q1, q2⟩ := hK.three
    have HM := Lib.hid hm
    have HA := Lib.hid ha
    have HB := Lib.hid hb
    clear hm ha hb hH hK
    by_cases hlt : j < wk.copies.length
    · obtain ⟨b, o, hA, lb, c0, c1, c2, c3, c4⟩ := Cps_at HA.out hlt
      obtain ⟨b', o', hB, lb', d0, d1, d2, d3, d4⟩ := Cps_at HB.out hlt
      subst hA hB
      go_wp2_with fail
      refine wp_region_seq (fun w' => Below wr.heap.size wr w') [(0, true), (1, true), (2, true), (3, true), (4, true), (5, true), (6, true), (7, true), (8, true), (9, true), (10, true)] (by kernel_rfl) (by kernel_rfl) (fun _ _ _ _ _ h => h) (by kernel_rfl) (by decide) (Below.refl _ _).drew ?_
      intro hHeld
      repeat (first
        | (refine seq_read (by simp only [List.getElem?_toArray, List.getElem?_cons_succ, List.getElem?_cons_zero]; first | done | rfl) (by rfl) (fun w _ => cpneq_read rfl rfl rfl w) ?_; (try simp only [Act.put, List.setIfInBounds_toArray, List.set_cons_zero, List.set_cons_succ]))
        | (refine seq_skip (by simp only [List.getElem?_toArray, List.getElem?_cons_succ, List.getElem?_cons_zero]; first | done | rfl) (by rfl) ?_; (try simp only [Act.put, List.setIfInBounds_toArray, List.set_cons_zero, List.set_cons_succ]))
        | (refine seq_reads (by simp only [List.getElem?_toArray, List.getElem?_cons_succ, List.getElem?_cons_zero]; first | done | rfl) (by rfl) ?_; apply Exists.intro; apply And.intro; (focus (intro w hSw; obtain ⟨hcS, -⟩ := bcell hSw; go_simp; (try with_reducible rfl); done)); (try simp only [Act.put, List.setIfInBounds_toArray, List.set_cons_zero, List.set_cons_succ]))
        | (refine seq_pass (by simp only [List.getElem?_toArray, List.getElem?_cons_succ, List.getElem?_cons_zero]; first | done | rfl) (by rfl) hHeld ?_; clear hHeld; intro hHeld; (try simp only [Act.put, List.setIfInBounds_toArray, List.set_cons_zero, List.set_cons_succ])))
      refine seq_end ?_
      go_wp2
      go_roundw
      case rel => exact ⟨j + 1, by go_num, by omega, HM.out.below hHeld, HA.out.below hHeld, HB.out.below hHeld⟩
      case measure => simp [intOf]; omega
    · have hj' : j = wk.copies.length := by omega
      subst hj'
      go_wp2
      go_ret
      exact ⟨rfl, HM.out.1⟩
end Go.Proofs.YtdcdalbbjfjadaaGreatDoor
