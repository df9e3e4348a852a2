/- Proved, in parts: Proved: plain facts on works that the laws on them tell: what is printed is there, all else stays, veiled back it is the same, the newest one is there and none is newer; no program is named here; no condition. Proved: what the plain Lean functions of the deeds leave of a right shelf is a right shelf; a right shelf's names, pages and lists are short. No program is named here; no condition. Proved: the laws' helpers on one reply and one last (its size, its copy, its likeness) answer plain Lean functions; they write nothing that was there. No condition. Proved: the laws' own test tells an edition like itself; it writes nothing that was there. No condition. Proved: the laws' own tests tell a copy, a list of copies and a work like themselves; they write nothing that was there. No condition. -/
import Derived.Test.YtblcgbgcccjpcaaGreatPart21
import Derived.Test.YtblcgbgcccjpcaaGreatPart04
import Derived.Test.YtblcgbgcccjpcaaGreatPart07
import Derived.Test.YtblcgbgcccjpcaaGreatPart08
import Derived.Test.YtblcgbgcccjpcaaGreatPart02
import Derived.StillTailTactics
namespace Go.Proofs.YtblcgbgcccjpcaaGreat
namespace M

theorem find_rises {l : List Cp} (h : risesB l = true) {j : Nat} (hj : j < l.length) : findEd l l[j].ed = j := by
  refine (List.findIdx_eq hj).2 ⟨by simp [isEd], fun i hi => ?_⟩
  have h1 := rises_lt h j i hi hj
  simp only [isEd, decide_eq_false_iff_not]
  intro e
  rw [e, older_irrefl] at h1
  cases h1
theorem copyIn_mem {w : Wk} (hk : wkOk w = true) {c : Cp} (hc : c ∈ w.copies) : copyIn w c.ed = (c, true) := by
  obtain ⟨j, hj, rfl⟩ := List.mem_iff_getElem.1 hc
  have hf := find_rises (wkOk_rises hk).1 hj
  rw [copyIn_some hk (by rw [hf]; exact hj)]
  simp only [hf]

/-! ### Veiled back. -/
theorem veilAt_get {l : List Cp} {k i : Nat} {h : Bool} (hi : i < l.length) : (veilAt l k h)[i]'(by rw [veilAt_len]; exact hi) = { l[i] with hidden := if k = i then h else l[i].hidden } := by
  unfold veilAt
  rw [List.getElem_modify]
  split <;> simp_all
theorem veilAt_cps (l : List Cp) (k : Nat) (h : Bool) : cpsOk (veilAt l k h) = cpsOk l := by
  rw [Bool.eq_iff_iff, cpsOk_iff, cpsOk_iff]
  constructor
  · intro H i hi
    have := H i (by rw [veilAt_len]; exact hi)
    rw [veilAt_get hi] at this
    refine ⟨this.1, fun j e => ?_⟩
    have h2 := this.2 j e
    rw [veilAt_get (by omega)] at h2
    exact h2
  · intro H i hi
    have hi' : i < l.length := by rw [veilAt_len] at hi; exact hi
    rw [veilAt_get hi']
    refine ⟨(H i hi').1, fun j e => ?_⟩
    rw [veilAt_get (by omega)]
    exact (H i hi').2 j e
theorem veilAt_find (l : List Cp) (k : Nat) (h : Bool) (e : Ed) : findEd (veilAt l k h) e = findEd l e := by
  unfold findEd
  have hl := veilAt_len l k h
  by_cases hf : l.findIdx (isEd e) < l.length
  · refine (List.findIdx_eq (by rw [hl]; exact hf)).2 ⟨?_, fun j hj => ?_⟩
    · rw [veilAt_get hf]
      exact List.findIdx_getElem (w := hf)
    · rw [veilAt_get (by omega)]
      have := List.not_of_lt_findIdx hj
      simpa [isEd] using this
  · have hf' : l.findIdx (isEd e) = l.length := by
      have := List.findIdx_le_length (p := isEd e) (xs := l)
      omega
    rw [hf', ← hl]
    refine List.findIdx_eq_length.2 fun x hx => ?_
    obtain ⟨i, hi, rfl⟩ := List.mem_iff_getElem.1 hx
    have hi' : i < l.length := by rw [hl] at hi; exact hi
    rw [veilAt_get hi']
    have := List.findIdx_eq_length.1 hf' _ (List.getElem_mem hi')
    simpa [isEd] using this
theorem veilAt_back {l : List Cp} {k : Nat} (h : Bool) (hk : k < l.length) : veilAt (veilAt l k h) k l[k].hidden = l := by
  refine List.ext_getElem (by rw [veilAt_len, veilAt_len]) fun i h1 h2 => ?_
  rw [veilAt_get (by rw [veilAt_len]; exact h2), veilAt_get h2]
  by_cases e : k = i
  · subst e; simp
  · simp [e]
theorem veil_law {q : Wk} {f : Ed} {h : Bool} (hv : (veiled q f h).2 = true) : wkOk (veiled q f h).1 = true ∧ (veiled (veiled q f h).1 f (copyIn q f).1.hidden).1 = q := by
  rcases hk : wkOk q with _ | _
  · rw [veiled_bad f h hk] at hv; cases hv
  · by_cases hf : findEd q.copies f < q.copies.length
    · have hok : wkOk { q with copies := veilAt q.copies (findEd q.copies f) h } = true := by
        unfold wkOk at hk ⊢
        simp only [veilAt_len, veilAt_cps]
        exact hk
      rw [veiled_some h hk hf]
      refine ⟨hok, ?_⟩
      rw [copyIn_some hk hf, veiled_some _ hok (by simp only [veilAt_find, veilAt_len]; exact hf)]
      simp only [veilAt_find]
      rw [veilAt_back h hf]
    · have hf' : findEd q.copies f = q.copies.length := by
        have := List.findIdx_le_length (p := isEd f) (xs := q.copies)
        unfold findEd at hf ⊢; omega
      rw [veiled_none h hk hf'] at hv; cases hv

/-! ### Printed. -/
theorem putAt_get {l : List Cp} {k : Nat} {c : Cp} (hk : k ≤ l.length) (i : Nat) : (putAt l k c)[i]? = if i < k then l[i]? else if i = k then some c else l[i - 1]? := by
  unfold putAt
  by_cases h1 : i < k
  · rw [if_pos h1, List.getElem?_append_left (by simp; omega), List.getElem?_take_of_lt h1]
  · rw [if_neg h1, List.getElem?_append_right (by simp; omega)]
    have : (l.take k).length = k := by simp; omega
    rw [this]
    by_cases h2 : i = k
    · rw [if_pos h2, h2, Nat.sub_self]; rfl
    · rw [if_neg h2]
      obtain ⟨m, hm⟩ : ∃ m, i - k = m + 1 := ⟨i - k - 1, by omega⟩
      rw [hm, List.getElem?_cons_succ, List.getElem?_drop]
      congr 1; omega
theorem putAt_rises {l : List Cp} {e : Ed} {c : Cp} (h : risesB l = true) (hn : findEd l e = l.length) (hc : c.ed = e) : risesB (putAt l (place l e) c) = true := by
  have hple := place_le l e
  have hlen := putAt_len l (place l e) c hple
  have hlt : ∀ i (hi : i < l.length), i < place l e → older l[i].ed e = true := fun i hi hp => by
    have := List.not_of_lt_findIdx (p := notOlder e) hp
    simpa [notOlder] using this
  have hge : ∀ hi : place l e < l.length, older e l[place l e].ed = true := fun hi => by
    have h1 : notOlder e (l[place l e]'hi) = true := List.findIdx_getElem (w := hi)
    have h2 : older (l[place l e]'hi).ed e = false := by simpa [notOlder] using h1
    have h3 := List.findIdx_eq_length.1 hn _ (List.getElem_mem hi)
    rcases h4 : older e l[place l e].ed with _ | _
    · have := older_total _ _ h4 h2
      simp [isEd, ← this] at h3
    · rfl
  rw [risesB_iff]
  intro i hi
  rw [hlen] at hi
  have g1 := putAt_get (c := c) hple i
  have g2 := putAt_get (c := c) hple (i + 1)
  rw [List.getElem?_eq_getElem (by rw [hlen]; omega)] at g1 g2
  by_cases h1 : i + 1 < place l e
  · rw [if_pos (by omega), List.getElem?_eq_getElem (by omega)] at g1
    rw [if_pos h1, List.getElem?_eq_getElem (by omega)] at g2
    rw [Option.some.inj g1, Option.some.inj g2]
    exact (risesB_iff l).1 h i (by omega)
  · by_cases h2 : i + 1 = place l e
    · rw [if_pos (by omega), List.getElem?_eq_getElem (by omega)] at g1
      rw [if_neg h1, if_pos h2] at g2
      rw [Option.some.inj g1, Option.some.inj g2, hc]
      exact hlt i (by omega) (by omega)
    · by_cases h3 : i = place l e
      · rw [if_neg (by omega), if_pos h3] at g1
        rw [if_neg h1, if_neg h2, List.getElem?_eq_getElem (by omega)] at g2
        rw [Option.some.inj g1, Option.some.inj g2, hc]
        have hi' : place l e < l.length := by omega
        have := hge hi'
        have e1 : l[i + 1 - 1]'(by omega) = l[place l e]'hi' := by congr 1
        rw [e1]; exact this
      · rw [if_neg (by omega), if_neg h3, List.getElem?_eq_getElem (by omega)] at g1
        rw [if_neg h1, if_neg h2, List.getElem?_eq_getElem (by omega)] at g2
        rw [Option.some.inj g1, Option.some.inj g2]
        have := (risesB_iff l).1 h (i - 1) (by omega)
        have e1 : l[i + 1 - 1]'(by omega) = l[i - 1 + 1]'(by omega) := by congr 1; omega
        rw [e1]; exact this
theorem mem_putAt {l : List Cp} {k : Nat} {c x : Cp} (h : x ∈ l) : x ∈ putAt l k c := by
  unfold putAt
  have := List.take_append_drop k l
  rw [← this] at h
  rcases List.mem_append.1 h with h | h
  · exact List.mem_append.2 (.inl h)
  · exact List.mem_append.2 (.inr (List.mem_cons_of_mem _ h))
theorem print_law {w : Wk} {e : Ed} {p : ByteArray} (hp : (printed w e p).2 = true) :
    wkOk (printed w e p).1 = true ∧ (∀ c ∈ w.copies, copyIn (printed w e p).1 c.ed = (c, true)) ∧ copyIn (printed w e p).1 e = (⟨e, p, false⟩, true) ∧ (printed w e p).1.copies.length = w.copies.length + 1 := by
  rcases hk : wkOk w with _ | _
  · rw [printed_bad e p hk] at hp; cases hp
  · by_cases hc : findEd w.copies e < w.copies.length ∨ cpOk ⟨e, p, false⟩ = false ∨ w.copies.length = 8
    · unfold printed at hp; rw [if_pos hk, if_pos hc] at hp; cases hp
    · have hn : findEd w.copies e = w.copies.length := by
        have := List.findIdx_le_length (p := isEd e) (xs := w.copies)
        unfold findEd at hc ⊢; omega
      have hcp : cpOk ⟨e, p, false⟩ = true := by
        rcases h : cpOk ⟨e, p, false⟩ with _ | _
        · exact absurd (.inr (.inl h)) hc
        · rfl
      have h8 : w.copies.length ≠ 8 := fun h => hc (.inr (.inr h))
      obtain ⟨hr, hle, hall⟩ := wkOk_rises hk
      have hple := place_le w.copies e
      rw [printed_put hk hn hcp h8]
      have hok : wkOk { w with copies := putAt w.copies (place w.copies e) ⟨e, p, false⟩ } = true := by
        have hk' := hk
        simp only [wkOk, Bool.and_eq_true] at hk' ⊢
        refine ⟨⟨hk'.1.1, ?_⟩, ?_⟩
        · simp only [putAt_len _ _ _ hple, decide_eq_true_eq]; omega
        · simp only [cpsOk, Bool.and_eq_true, List.all_eq_true]
          refine ⟨fun x hx => ?_, putAt_rises hr hn rfl⟩
          rcases putAt_mem hx with rfl | hx
          · exact hcp
          · exact hall x hx
      refine ⟨hok, fun c hc => copyIn_mem hok (mem_putAt hc), ?_, putAt_len _ _ _ hple⟩
      exact copyIn_mem (c := ⟨e, p, false⟩) hok (by simp [putAt])
end M
end Go.Proofs.YtblcgbgcccjpcaaGreat
namespace Go.Proofs.YtblcgbgcccjpcaaGreat
open Go.RowKit
set_option maxRecDepth 20000
namespace M
def toWr (k : Wk) : Wr := ⟨k.name, k.owner, none, 0, k.copies⟩
theorem toWr_wk (k : Wk) : (toWr k).wk = k := rfl
theorem map_toWr (l : List Wk) : (l.map toWr).map Wr.wk = l := by
  rw [List.map_map]
  have : (Wr.wk ∘ toWr) = id := rfl
  rw [this, List.map_id]
end M
theorem risesN_of : ∀ {l : List Wr}, RiseW l → M.risesN (l.map Wr.wk) = true
  | [], _ => rfl
  | [a], _ => rfl
  | a :: b :: l, h => by
    obtain ⟨h1, h2⟩ := List.pairwise_cons.1 h
    have hab : M.nameLt a.name b.name = true := (before_name a.name b.name).symm.trans (h1 b (by simp))
    have ih := risesN_of (l := b :: l) h2
    show (M.nameLt a.name b.name && M.risesN ((b :: l).map Wr.wk)) = true
    rw [hab, ih]; rfl
namespace M
theorem putN_rises {l : List Wk} (h : risesN l = true) (w : Wk) : risesN (putN l w) = true := by
  have h1 : RiseW (l.map toWr) := rise_of (by rw [map_toWr]; exact h)
  have h2 := risesN_of (putW_rise (r := toWr w) h1)
  rw [putW_wk, map_toWr, toWr_wk] at h2
  exact h2
theorem putN_len_old {l : List Wk} {w y : Wk} (hy : y ∈ l) (hn : y.name = w.name) : (putN l w).length ≤ l.length := by
  unfold putN
  rw [insN_length]
  have : (l.filter fun x : Wk => !(x.name.data.toList == w.name.data.toList)).length < l.length := by
    have h1 := List.length_filter_lt_length_iff_exists (p := fun x : Wk => !(x.name.data.toList == w.name.data.toList)) (l := l)
    exact h1.2 ⟨y, hy, by simp [hn]⟩
  omega
theorem sfOk_iff (l : List Wk) : sfOk l = true ↔ l.length ≤ 5 ∧ (∀ x ∈ l, wkOk x = true) ∧ risesN l = true := by
  unfold sfOk
  simp only [Bool.and_eq_true, decide_eq_true_eq, List.all_eq_true]
theorem putN_ok {l : List Wk} {w : Wk} (h : sfOk l = true) (hw : wkOk w = true) (hlen : (putN l w).length ≤ 5) : sfOk (putN l w) = true := by
  obtain ⟨h1, h2, h3⟩ := (sfOk_iff l).1 h
  refine (sfOk_iff _).2 ⟨hlen, fun x hx => ?_, putN_rises h3 w⟩
  rcases insN_mem hx with rfl | hx
  · exact hw
  · exact h2 x (List.mem_filter.1 hx).1
theorem putN_old {l : List Wk} {n : ByteArray} {y w : Wk} (h : sfOk l = true) (hg : getN l n = some y) (hn : w.name = y.name) (hw : wkOk w = true) : sfOk (putN l w) = true :=
  putN_ok h hw (Nat.le_trans (putN_len_old (getN_mem hg) hn.symm) ((sfOk_iff l).1 h).1)
theorem wkOk_give {w : Wk} {o : Int} (h : wkOk w = true) (ho : inI o 0 3 = true) : wkOk { w with owner := o } = true := by
  simp only [wkOk, Bool.and_eq_true] at h ⊢
  exact ⟨⟨⟨h.1.1.1, ho⟩, h.1.2⟩, h.2⟩
theorem keepVeil {l : List Wk} {d : Dd} (h : sfOk l = true) (b : Bool) : sfOk (doVeil l d b).1 = true := by
  unfold doVeil
  split
  · exact h
  · rename_i w hw
    split
    · split
      · rename_i hp
        exact putN_old h hw (veiled_name hp) (veil_law hp).1
      · exact h
    · exact h
theorem keep_doAll {l : List Wk} {d : Dd} (h : sfOk l = true) : sfOk (doAll l d).1 = true := by
  unfold doAll
  split
  · rename_i hd
    split
    · rename_i hk
      unfold doClaim
      split
      · exact h
      · split
        · exact h
        · rename_i hf h5
          refine putN_ok h ?_ ?_
          · simp only [deedOk, Bool.and_eq_true] at hd
            simp only [wkOk, Bool.and_eq_true]
            exact ⟨⟨⟨hd.1.1.1.1.1, hd.1.1.2⟩, rfl⟩, rfl⟩
          · unfold putN
            rw [insN_length]
            have := List.length_filter_le (fun x : Wk => !(x.name.data.toList == d.name.data.toList)) l
            show (l.filter fun x : Wk => !(x.name.data.toList == d.name.data.toList)).length + 1 ≤ 5
            omega
    · split
      · unfold doPut
        split
        · exact h
        · rename_i w hw
          split
          · split
            · exact h
            · split
              · rename_i hp
                exact putN_old h hw (printed_name hp) (print_law hp).1
              · exact h
          · exact h
      · split
        · exact keepVeil h true
        · split
          · exact keepVeil h false
          · split
            · unfold doFetch
              split
              · exact h
              · split
                · split <;> exact h
                · exact h
            · unfold doGive
              split
              · rename_i ho
                split
                · exact h
                · rename_i w hw
                  split
                  · exact putN_old (w := { w with owner := d.ed.ma }) h hw rfl (wkOk_give (((sfOk_iff l).1 h).2.1 w (getN_mem hw)) ho)
                  · exact h
              · exact h
  · exact h
end M
theorem wrs_ok {l : List Wr} (h : M.sfOk (l.map Wr.wk) = true) : l.length ≤ 5 ∧ WrsIn 12 l := by
  obtain ⟨h1, h2, h3⟩ := (M.sfOk_iff _).1 h
  refine ⟨by simpa using h1, fun r hr => ?_⟩
  have hw := h2 r.wk (List.mem_map_of_mem hr)
  simp only [M.wkOk, M.cpsOk, M.nameOk, Bool.and_eq_true, decide_eq_true_eq, List.all_eq_true] at hw
  obtain ⟨⟨⟨hn, -⟩, hl⟩, hc, -⟩ := hw
  refine ⟨?_, Nat.le_trans hl (by decide), fun c hc' => ?_⟩
  · have h := hn.1
    rw [M.len_toList] at h
    exact Nat.le_trans h (by decide)
  · have h := hc c hc'
    simp only [M.cpOk, M.pageOk, Bool.and_eq_true, decide_eq_true_eq] at h
    have h := h.2.1
    rw [M.len_toList] at h
    exact h
end Go.Proofs.YtblcgbgcccjpcaaGreat
namespace Go.Proofs.YtblcgbgcccjpcaaGreat
open Go.RowKit
set_option maxRecDepth 20000
abbrev laL (c : M.La) : List Value := [.int .i64 c.client, .int .i64 c.seq, .int .i64 c.code, .string c.page]
abbrev laA (c : M.La) : Array Value := #[.int .i64 c.client, .int .i64 c.seq, .int .i64 c.code, .string c.page]
abbrev laV (c : M.La) : Value := .agg #[.int .i64 c.client, .int .i64 c.seq, .int .i64 c.code, .string c.page]
theorem laL_len (c : M.La) : (laL c).length = 4 := rfl
abbrev laIn (n : Nat) (c : M.La) : Prop := c.page.size ≤ n

set_option maxHeartbeats 400000 in
theorem rpSz_small (c : Int) (p : ByteArray) (n : Int) (w : World) (h1 : n ≤ 1048576) (h : (p.size : Int) ≤ n) :
    Calls Tryz.prog 172 #[rpV c p, .int .i64 n] w fun r w' => r = .returned (.int .i64 (n - p.size)) ∧ Below w.heap.size w w' := by
  go_enter Tryz.func172, Tryz.ntmps172
  go_wp2
  go_ret
  exact ⟨rfl, (Below.refl _ _).alloc (Nat.le_refl _) _⟩
set_option maxHeartbeats 400000 in
theorem rpSz_big (c : Int) (p : ByteArray) (n : Int) (w : World) (h0 : 0 ≤ n) (h1 : n ≤ 1048576) (hp : p.size ≤ maxLen) (h : n < (p.size : Int)) :
    Calls Tryz.prog 172 #[rpV c p, .int .i64 n] w fun r w' => r = .returned (.int .i64 (-1)) ∧ Below w.heap.size w w' := by
  unfold maxLen at hp
  go_enter Tryz.func172, Tryz.ntmps172
  go_wp2
  go_ret
  exact ⟨rfl, (Below.refl _ _).alloc (Nat.le_refl _) _⟩
set_option maxHeartbeats 400000 in
theorem laSz_small (c : M.La) (n : Int) (w : World) (h1 : n ≤ 1048576) (h : (c.page.size : Int) ≤ n) :
    Calls Tryz.prog 137 #[laV c, .int .i64 n] w fun r w' => r = .returned (.int .i64 (n - c.page.size)) ∧ Below w.heap.size w w' := by
  have b0 := (Below.refl w.heap.size w).alloc (Nat.le_refl _) (.cells (laA c) 195)
  have h0 : 0 ≤ n - (c.page.size : Int) := by omega
  go_enter Tryz.func137, Tryz.ntmps137
  go_wp2_with fail
  refine (rpSz_small c.code c.page n _ h1 h).mono ?_
  rintro r w1 ⟨rfl, b1⟩
  go_wp2
  go_ret
  exact ⟨rfl, next b0 b1⟩
set_option maxHeartbeats 400000 in
theorem laSz_big (c : M.La) (n : Int) (w : World) (h0 : 0 ≤ n) (h1 : n ≤ 1048576) (hp : laIn maxLen c) (h : n < (c.page.size : Int)) :
    Calls Tryz.prog 137 #[laV c, .int .i64 n] w fun r w' => r = .returned (.int .i64 (-1)) ∧ Below w.heap.size w w' := by
  have b0 := (Below.refl w.heap.size w).alloc (Nat.le_refl _) (.cells (laA c) 195)
  go_enter Tryz.func137, Tryz.ntmps137
  go_wp2_with fail
  refine (rpSz_big c.code c.page n _ h0 h1 hp h).mono ?_
  rintro r w1 ⟨rfl, b1⟩
  go_wp2
  go_ret
  exact ⟨rfl, next b0 b1⟩
theorem toReply_at (c : Int) (p : ByteArray) (w : World) :
    Calls Tryz.prog 174 #[rpV c p] w fun r w' => r = .returned (rpV c p) ∧ w' = ((w.alloc (.cells (rpA c p) 193)).alloc (.cells (rpA c p) 33)).alloc (.cells (rpA c p) 33) := by
  go_enter Tryz.func174, Tryz.ntmps174
  go_wp2
  exact bodyPost_ret (v := rpV c p) (by simp [results, Tryz.results174, go_sem]) rfl ⟨rfl, rfl⟩
set_option maxHeartbeats 1000000 in
theorem laTo_any (c : M.La) (w : World) :
    Calls Tryz.prog 140 #[laV c] w fun r w' => r = .returned (laV c) ∧ Below w.heap.size w w' := by
  go_enter Tryz.func140, Tryz.ntmps140
  go_wp2_with fail
  refine (toReply_at c.code c.page _).mono ?_
  rintro r w1 ⟨rfl, rfl⟩
  go_wp2
  refine bodyPost_ret (v := laV c) (by simp [results, Tryz.results140, go_sem]) rfl ⟨rfl, ?_⟩
  repeat (first | exact Below.refl _ _ | refine Below.alloc ?_ (by simp <;> omega) _)
set_option maxHeartbeats 1000000 in
theorem laEq_same (c : M.La) (w : World) :
    Calls Tryz.prog 143 #[laV c, laV c] w fun r w' => r = .returned (.bool true) ∧ Below w.heap.size w w' := by
  have h1 : (c.client != c.client) = false := by simp
  have h2 : (c.seq != c.seq) = false := by simp
  have b0 := ((Below.refl w.heap.size w).alloc (Nat.le_refl _) (.cells (laA c) 59)).alloc (by simp) (.cells (laA c) 59)
  go_enter Tryz.func143, Tryz.ntmps143
  go_wp2_with fail
  refine (eqReply_same c.code c.page _).mono ?_
  rintro r w1 ⟨rfl, b1⟩
  go_wp2
  go_ret
  exact ⟨rfl, next b0 b1⟩
end Go.Proofs.YtblcgbgcccjpcaaGreat
namespace Go.Proofs.YtblcgbgcccjpcaaGreat
open Go.RowKit
set_option maxRecDepth 20000

set_option maxHeartbeats 1000000 in
theorem eqEdition_same (a : M.Ed) (w : World) :
    Calls Tryz.prog 205 #[edV a, edV a] w fun r w' => r = .returned (.bool true) ∧ Below w.heap.size w w' := by
  have h0 : (a.ma != a.ma) = false := by simp
  have h1 : (a.mi != a.mi) = false := by simp
  have h2 : (a.pa != a.pa) = false := by simp
  go_enter Tryz.func205, Tryz.ntmps205
  go_wp2
  go_ret
  exact ⟨rfl, ((Below.refl _ _).alloc (Nat.le_refl _) _).alloc (by simp) _⟩
end Go.Proofs.YtblcgbgcccjpcaaGreat
namespace Go.Proofs.YtblcgbgcccjpcaaGreat
open Go.RowKit
set_option maxRecDepth 20000

set_option maxHeartbeats 1000000 in
theorem eqCopy_same (c : M.Cp) (w : World) :
    Calls Tryz.prog 204 #[cpV c, cpV c] w fun r w' => r = .returned (.bool true) ∧ Below w.heap.size w w' := by
  have h1 : (c.page.toList != c.page.toList) = false := by simp
  have h2 : (c.hidden != c.hidden) = false := by simp
  have b0 := ((Below.refl w.heap.size w).alloc (Nat.le_refl _) (.cells (cpV c).cells 48)).alloc (by simp) (.cells (cpV c).cells 48)
  go_enter Tryz.func204, Tryz.ntmps204
  go_wp2_with fail
  refine (eqEdition_same c.ed _).mono ?_
  rintro r w1 ⟨rfl, b1⟩
  obtain ⟨c1, f1⟩ := bcell b1
  go_wp2
  go_ret
  exact ⟨rfl, next b0 b1⟩

set_option maxHeartbeats 1000000 in
theorem eqCopyS_same (A B : Option Addr) (l : List M.Cp) (ca cb : Nat) (w : World) (ha : Cps w A l) (hb : Cps w B l) (hlen : l.length ≤ maxLen) :
    Calls Tryz.prog 176 #[.slice A l.length ca, .slice B l.length cb] w fun r w' => r = .returned (.bool true) ∧ Below w.heap.size w w' := by
  unfold maxLen at hlen
  have he : ((l.length : Int) != (l.length : Int)) = false := by simp
  go_enter Tryz.func176, Tryz.ntmps176
  go_wp2
  go_loopw [5] (fun i wr => ∃ j : Nat, i = .int .i64 j ∧ j ≤ l.length ∧ Below w.heap.size w wr) (fun i _ => l.length - (intOf i).toNat)
  case atStart => exact ⟨0, rfl, Nat.zero_le _, Below.refl _ _⟩
  case round =>
    obtain ⟨j, rfl, hj, hbl⟩ := hrel
    by_cases hlt : j < l.length
    · obtain ⟨b, o, rfl, _, c0, c1, c2, c3, c4⟩ := Cps_at (ha.below hbl) hlt
      obtain ⟨b', o', rfl, _, d0, d1, d2, d3, d4⟩ := Cps_at (hb.below hbl) hlt
      have HA := Lib.hid ha
      have HB := Lib.hid hb
      clear ha hb
      go_wp2_with fail
      go_still_tail 8, (by kernel_rfl)
      change wpList _ _ _ _ _ wr.drew
      go_wp2_with fail
      refine (eqCopy_same l[j] _).mono ?_
      rintro r w1 ⟨rfl, b1⟩
      go_wp2
      go_roundw
      case rel => exact ⟨j + 1, by go_num, by omega, next hbl.drew b1⟩
      case measure => simp [intOf]; omega
    · have hj' : j = l.length := by omega
      subst hj'
      go_wp2
      go_ret
      exact ⟨rfl, hbl⟩

set_option maxHeartbeats 1000000 in
theorem eqWork_same (name : ByteArray) (owner : Int) (A B : Option Addr) (l : List M.Cp) (ca cb : Nat) (w : World) (ha : Cps w A l) (hb : Cps w B l) (hlen : l.length ≤ maxLen) :
    Calls Tryz.prog 142 #[wkV name owner A l.length ca, wkV name owner B l.length cb] w fun r w' => r = .returned (.bool true) ∧ Below w.heap.size w w' := by
  have h1 : (name.toList != name.toList) = false := by simp
  have h2 : (owner != owner) = false := by simp
  have b0 := ((Below.refl w.heap.size w).alloc (Nat.le_refl _) (.cells (wkL name owner A l.length ca) 44)).alloc (by simp) (.cells (wkL name owner B l.length cb) 44)
  go_enter Tryz.func142, Tryz.ntmps142
  go_wp2_with fail
  refine (eqCopyS_same A B l ca cb _ ((ha.alloc _).alloc _) ((hb.alloc _).alloc _) hlen).mono ?_
  rintro r w1 ⟨rfl, b1⟩
  go_wp2
  go_ret
  exact ⟨rfl, next b0 b1⟩
end Go.Proofs.YtblcgbgcccjpcaaGreat
