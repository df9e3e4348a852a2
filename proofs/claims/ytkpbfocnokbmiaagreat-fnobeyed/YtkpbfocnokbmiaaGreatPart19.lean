/- Proved, in parts: Proved: plain facts on works that the laws on them tell: what is printed is there, all else stays, veiled back it is the same, the newest one is there and none is newer; no program is named here; no condition. Proved: what the plain Lean functions of the deeds leave of a right shelf is a right shelf; a right shelf's names, pages and lists are short. No program is named here; no condition. Proved: plain facts on orders, lasts and books; no program is named here; no condition. Proved: the laws' own test tells two replies alike that are; the laws' helper counts a deed; they write nothing that was there. Proved: the laws' helpers on one reply and one last (its size, its copy, its likeness) answer plain Lean functions; they write nothing that was there. No condition. Proved: the laws' own test tells an edition like itself; it writes nothing that was there. No condition. Proved: the laws' own tests tell a copy, a list of copies and a work like themselves; they write nothing that was there. No condition. Proved: the laws' helpers on lists of records of the type Last (their size, their copy, their likeness) answer plain Lean functions; they write nothing that was there. Condition: lists of at most a million. Proved: plain facts on the first place of a list at which something is so; no program is named here; no condition. Proved: the model's and the program's tests of an order answer a plain Lean function; the laws' helpers that count and copy an order; nothing that was there is written. Condition: texts of at most what memory has. -/
import Derived.Test.YtkpbfocnokbmiaaGreatPart18
import Derived.Test.YtkpbfocnokbmiaaGreatPart04
import Derived.Test.YtkpbfocnokbmiaaGreatPart10
import Derived.Test.YtkpbfocnokbmiaaGreatPart02
import Derived.StillTailTactics
import Derived.Test.YtkpbfocnokbmiaaGreatPart01
import Derived.Test.YtkpbfocnokbmiaaGreatPart17
namespace Go.Proofs.YtkpbfocnokbmiaaGreat
namespace M

theorem find_rises {l : List Cp} (h : risesB l = true) {j : Nat} (hj : j < l.length) : findEd l l[j].ed = j := by
  refine (List.findIdx_eq hj).2 ⟨by simp [isEd], fun i hi => ?_⟩
  have h1 := rises_lt h j i hi hj
  simp only [isEd, decide_eq_false_iff_not]
  intro e
  rw [e, older_irrefl] at h1
  cases h1
theorem copyIn_mem {w : Wk} (hk : wkOk w = true) {c : Cp} (hc : c ∈ w.copies) : copyIn w c.ed = (c, true) := by
  obtain ⟨j, hj, rfl⟩ := List.mem_iff_getElem.1 hc
  have hf := find_rises (wkOk_rises hk).1 hj
  rw [copyIn_some hk (by rw [hf]; exact hj)]
  simp only [hf]

/-! ### Veiled back. -/
theorem veilAt_get {l : List Cp} {k i : Nat} {h : Bool} (hi : i < l.length) : (veilAt l k h)[i]'(by rw [veilAt_len]; exact hi) = { l[i] with hidden := if k = i then h else l[i].hidden } := by
  unfold veilAt
  rw [List.getElem_modify]
  split <;> simp_all
theorem veilAt_cps (l : List Cp) (k : Nat) (h : Bool) : cpsOk (veilAt l k h) = cpsOk l := by
  rw [Bool.eq_iff_iff, cpsOk_iff, cpsOk_iff]
  constructor
  · intro H i hi
    have := H i (by rw [veilAt_len]; exact hi)
    rw [veilAt_get hi] at this
    refine ⟨this.1, fun j e => ?_⟩
    have h2 := this.2 j e
    rw [veilAt_get (by omega)] at h2
    exact h2
  · intro H i hi
    have hi' : i < l.length := by rw [veilAt_len] at hi; exact hi
    rw [veilAt_get hi']
    refine ⟨(H i hi').1, fun j e => ?_⟩
    rw [veilAt_get (by omega)]
    exact (H i hi').2 j e
theorem veilAt_find (l : List Cp) (k : Nat) (h : Bool) (e : Ed) : findEd (veilAt l k h) e = findEd l e := by
  unfold findEd
  have hl := veilAt_len l k h
  by_cases hf : l.findIdx (isEd e) < l.length
  · refine (List.findIdx_eq (by rw [hl]; exact hf)).2 ⟨?_, fun j hj => ?_⟩
    · rw [veilAt_get hf]
      exact List.findIdx_getElem (w := hf)
    · rw [veilAt_get (by omega)]
      have := List.not_of_lt_findIdx hj
      simpa [isEd] using this
  · have hf' : l.findIdx (isEd e) = l.length := by
      have := List.findIdx_le_length (p := isEd e) (xs := l)
      omega
    rw [hf', ← hl]
    refine List.findIdx_eq_length.2 fun x hx => ?_
    obtain ⟨i, hi, rfl⟩ := List.mem_iff_getElem.1 hx
    have hi' : i < l.length := by rw [hl] at hi; exact hi
    rw [veilAt_get hi']
    have := List.findIdx_eq_length.1 hf' _ (List.getElem_mem hi')
    simpa [isEd] using this
theorem veilAt_back {l : List Cp} {k : Nat} (h : Bool) (hk : k < l.length) : veilAt (veilAt l k h) k l[k].hidden = l := by
  refine List.ext_getElem (by rw [veilAt_len, veilAt_len]) fun i h1 h2 => ?_
  rw [veilAt_get (by rw [veilAt_len]; exact h2), veilAt_get h2]
  by_cases e : k = i
  · subst e; simp
  · simp [e]
theorem veil_law {q : Wk} {f : Ed} {h : Bool} (hv : (veiled q f h).2 = true) : wkOk (veiled q f h).1 = true ∧ (veiled (veiled q f h).1 f (copyIn q f).1.hidden).1 = q := by
  rcases hk : wkOk q with _ | _
  · rw [veiled_bad f h hk] at hv; cases hv
  · by_cases hf : findEd q.copies f < q.copies.length
    · have hok : wkOk { q with copies := veilAt q.copies (findEd q.copies f) h } = true := by
        unfold wkOk at hk ⊢
        simp only [veilAt_len, veilAt_cps]
        exact hk
      rw [veiled_some h hk hf]
      refine ⟨hok, ?_⟩
      rw [copyIn_some hk hf, veiled_some _ hok (by simp only [veilAt_find, veilAt_len]; exact hf)]
      simp only [veilAt_find]
      rw [veilAt_back h hf]
    · have hf' : findEd q.copies f = q.copies.length := by
        have := List.findIdx_le_length (p := isEd f) (xs := q.copies)
        unfold findEd at hf ⊢; omega
      rw [veiled_none h hk hf'] at hv; cases hv

/-! ### Printed. -/
theorem putAt_get {l : List Cp} {k : Nat} {c : Cp} (hk : k ≤ l.length) (i : Nat) : (putAt l k c)[i]? = if i < k then l[i]? else if i = k then some c else l[i - 1]? := by
  unfold putAt
  by_cases h1 : i < k
  · rw [if_pos h1, List.getElem?_append_left (by simp; omega), List.getElem?_take_of_lt h1]
  · rw [if_neg h1, List.getElem?_append_right (by simp; omega)]
    have : (l.take k).length = k := by simp; omega
    rw [this]
    by_cases h2 : i = k
    · rw [if_pos h2, h2, Nat.sub_self]; rfl
    · rw [if_neg h2]
      obtain ⟨m, hm⟩ : ∃ m, i - k = m + 1 := ⟨i - k - 1, by omega⟩
      rw [hm, List.getElem?_cons_succ, List.getElem?_drop]
      congr 1; omega
theorem putAt_rises {l : List Cp} {e : Ed} {c : Cp} (h : risesB l = true) (hn : findEd l e = l.length) (hc : c.ed = e) : risesB (putAt l (place l e) c) = true := by
  have hple := place_le l e
  have hlen := putAt_len l (place l e) c hple
  have hlt : ∀ i (hi : i < l.length), i < place l e → older l[i].ed e = true := fun i hi hp => by
    have := List.not_of_lt_findIdx (p := notOlder e) hp
    simpa [notOlder] using this
  have hge : ∀ hi : place l e < l.length, older e l[place l e].ed = true := fun hi => by
    have h1 : notOlder e (l[place l e]'hi) = true := List.findIdx_getElem (w := hi)
    have h2 : older (l[place l e]'hi).ed e = false := by simpa [notOlder] using h1
    have h3 := List.findIdx_eq_length.1 hn _ (List.getElem_mem hi)
    rcases h4 : older e l[place l e].ed with _ | _
    · have := older_total _ _ h4 h2
      simp [isEd, ← this] at h3
    · rfl
  rw [risesB_iff]
  intro i hi
  rw [hlen] at hi
  have g1 := putAt_get (c := c) hple i
  have g2 := putAt_get (c := c) hple (i + 1)
  rw [List.getElem?_eq_getElem (by rw [hlen]; omega)] at g1 g2
  by_cases h1 : i + 1 < place l e
  · rw [if_pos (by omega), List.getElem?_eq_getElem (by omega)] at g1
    rw [if_pos h1, List.getElem?_eq_getElem (by omega)] at g2
    rw [Option.some.inj g1, Option.some.inj g2]
    exact (risesB_iff l).1 h i (by omega)
  · by_cases h2 : i + 1 = place l e
    · rw [if_pos (by omega), List.getElem?_eq_getElem (by omega)] at g1
      rw [if_neg h1, if_pos h2] at g2
      rw [Option.some.inj g1, Option.some.inj g2, hc]
      exact hlt i (by omega) (by omega)
    · by_cases h3 : i = place l e
      · rw [if_neg (by omega), if_pos h3] at g1
        rw [if_neg h1, if_neg h2, List.getElem?_eq_getElem (by omega)] at g2
        rw [Option.some.inj g1, Option.some.inj g2, hc]
        have hi' : place l e < l.length := by omega
        have := hge hi'
        have e1 : l[i + 1 - 1]'(by omega) = l[place l e]'hi' := by congr 1
        rw [e1]; exact this
      · rw [if_neg (by omega), if_neg h3, List.getElem?_eq_getElem (by omega)] at g1
        rw [if_neg h1, if_neg h2, List.getElem?_eq_getElem (by omega)] at g2
        rw [Option.some.inj g1, Option.some.inj g2]
        have := (risesB_iff l).1 h (i - 1) (by omega)
        have e1 : l[i + 1 - 1]'(by omega) = l[i - 1 + 1]'(by omega) := by congr 1; omega
        rw [e1]; exact this
theorem mem_putAt {l : List Cp} {k : Nat} {c x : Cp} (h : x ∈ l) : x ∈ putAt l k c := by
  unfold putAt
  have := List.take_append_drop k l
  rw [← this] at h
  rcases List.mem_append.1 h with h | h
  · exact List.mem_append.2 (.inl h)
  · exact List.mem_append.2 (.inr (List.mem_cons_of_mem _ h))
theorem print_law {w : Wk} {e : Ed} {p : ByteArray} (hp : (printed w e p).2 = true) :
    wkOk (printed w e p).1 = true ∧ (∀ c ∈ w.copies, copyIn (printed w e p).1 c.ed = (c, true)) ∧ copyIn (printed w e p).1 e = (⟨e, p, false⟩, true) ∧ (printed w e p).1.copies.length = w.copies.length + 1 := by
  rcases hk : wkOk w with _ | _
  · rw [printed_bad e p hk] at hp; cases hp
  · by_cases hc : findEd w.copies e < w.copies.length ∨ cpOk ⟨e, p, false⟩ = false ∨ w.copies.length = 8
    · unfold printed at hp; rw [if_pos hk, if_pos hc] at hp; cases hp
    · have hn : findEd w.copies e = w.copies.length := by
        have := List.findIdx_le_length (p := isEd e) (xs := w.copies)
        unfold findEd at hc ⊢; omega
      have hcp : cpOk ⟨e, p, false⟩ = true := by
        rcases h : cpOk ⟨e, p, false⟩ with _ | _
        · exact absurd (.inr (.inl h)) hc
        · rfl
      have h8 : w.copies.length ≠ 8 := fun h => hc (.inr (.inr h))
      obtain ⟨hr, hle, hall⟩ := wkOk_rises hk
      have hple := place_le w.copies e
      rw [printed_put hk hn hcp h8]
      have hok : wkOk { w with copies := putAt w.copies (place w.copies e) ⟨e, p, false⟩ } = true := by
        have hk' := hk
        simp only [wkOk, Bool.and_eq_true] at hk' ⊢
        refine ⟨⟨hk'.1.1, ?_⟩, ?_⟩
        · simp only [putAt_len _ _ _ hple, decide_eq_true_eq]; omega
        · simp only [cpsOk, Bool.and_eq_true, List.all_eq_true]
          refine ⟨fun x hx => ?_, putAt_rises hr hn rfl⟩
          rcases putAt_mem hx with rfl | hx
          · exact hcp
          · exact hall x hx
      refine ⟨hok, fun c hc => copyIn_mem hok (mem_putAt hc), ?_, putAt_len _ _ _ hple⟩
      exact copyIn_mem (c := ⟨e, p, false⟩) hok (by simp [putAt])
end M
end Go.Proofs.YtkpbfocnokbmiaaGreat
namespace Go.Proofs.YtkpbfocnokbmiaaGreat
open Go.RowKit
set_option maxRecDepth 20000
namespace M
def toWr (k : Wk) : Wr := ⟨k.name, k.owner, none, 0, k.copies⟩
theorem toWr_wk (k : Wk) : (toWr k).wk = k := rfl
theorem map_toWr (l : List Wk) : (l.map toWr).map Wr.wk = l := by
  rw [List.map_map]
  have : (Wr.wk ∘ toWr) = id := rfl
  rw [this, List.map_id]
end M
theorem risesN_of : ∀ {l : List Wr}, RiseW l → M.risesN (l.map Wr.wk) = true
  | [], _ => rfl
  | [a], _ => rfl
  | a :: b :: l, h => by
    obtain ⟨h1, h2⟩ := List.pairwise_cons.1 h
    have hab : M.nameLt a.name b.name = true := (before_name a.name b.name).symm.trans (h1 b (by simp))
    have ih := risesN_of (l := b :: l) h2
    show (M.nameLt a.name b.name && M.risesN ((b :: l).map Wr.wk)) = true
    rw [hab, ih]; rfl
namespace M
theorem putN_rises {l : List Wk} (h : risesN l = true) (w : Wk) : risesN (putN l w) = true := by
  have h1 : RiseW (l.map toWr) := rise_of (by rw [map_toWr]; exact h)
  have h2 := risesN_of (putW_rise (r := toWr w) h1)
  rw [putW_wk, map_toWr, toWr_wk] at h2
  exact h2
theorem putN_len_old {l : List Wk} {w y : Wk} (hy : y ∈ l) (hn : y.name = w.name) : (putN l w).length ≤ l.length := by
  unfold putN
  rw [insN_length]
  have : (l.filter fun x : Wk => !(x.name.data.toList == w.name.data.toList)).length < l.length := by
    have h1 := List.length_filter_lt_length_iff_exists (p := fun x : Wk => !(x.name.data.toList == w.name.data.toList)) (l := l)
    exact h1.2 ⟨y, hy, by simp [hn]⟩
  omega
theorem sfOk_iff (l : List Wk) : sfOk l = true ↔ l.length ≤ 5 ∧ (∀ x ∈ l, wkOk x = true) ∧ risesN l = true := by
  unfold sfOk
  simp only [Bool.and_eq_true, decide_eq_true_eq, List.all_eq_true]
theorem putN_ok {l : List Wk} {w : Wk} (h : sfOk l = true) (hw : wkOk w = true) (hlen : (putN l w).length ≤ 5) : sfOk (putN l w) = true := by
  obtain ⟨h1, h2, h3⟩ := (sfOk_iff l).1 h
  refine (sfOk_iff _).2 ⟨hlen, fun x hx => ?_, putN_rises h3 w⟩
  rcases insN_mem hx with rfl | hx
  · exact hw
  · exact h2 x (List.mem_filter.1 hx).1
theorem putN_old {l : List Wk} {n : ByteArray} {y w : Wk} (h : sfOk l = true) (hg : getN l n = some y) (hn : w.name = y.name) (hw : wkOk w = true) : sfOk (putN l w) = true :=
  putN_ok h hw (Nat.le_trans (putN_len_old (getN_mem hg) hn.symm) ((sfOk_iff l).1 h).1)
theorem wkOk_give {w : Wk} {o : Int} (h : wkOk w = true) (ho : inI o 0 3 = true) : wkOk { w with owner := o } = true := by
  simp only [wkOk, Bool.and_eq_true] at h ⊢
  exact ⟨⟨⟨h.1.1.1, ho⟩, h.1.2⟩, h.2⟩
theorem keepVeil {l : List Wk} {d : Dd} (h : sfOk l = true) (b : Bool) : sfOk (doVeil l d b).1 = true := by
  unfold doVeil
  split
  · exact h
  · rename_i w hw
    split
    · split
      · rename_i hp
        exact putN_old h hw (veiled_name hp) (veil_law hp).1
      · exact h
    · exact h
theorem keep_doAll {l : List Wk} {d : Dd} (h : sfOk l = true) : sfOk (doAll l d).1 = true := by
  unfold doAll
  split
  · rename_i hd
    split
    · rename_i hk
      unfold doClaim
      split
      · exact h
      · split
        · exact h
        · rename_i hf h5
          refine putN_ok h ?_ ?_
          · simp only [deedOk, Bool.and_eq_true] at hd
            simp only [wkOk, Bool.and_eq_true]
            exact ⟨⟨⟨hd.1.1.1.1.1, hd.1.1.2⟩, rfl⟩, rfl⟩
          · unfold putN
            rw [insN_length]
            have := List.length_filter_le (fun x : Wk => !(x.name.data.toList == d.name.data.toList)) l
            show (l.filter fun x : Wk => !(x.name.data.toList == d.name.data.toList)).length + 1 ≤ 5
            omega
    · split
      · unfold doPut
        split
        · exact h
        · rename_i w hw
          split
          · split
            · exact h
            · split
              · rename_i hp
                exact putN_old h hw (printed_name hp) (print_law hp).1
              · exact h
          · exact h
      · split
        · exact keepVeil h true
        · split
          · exact keepVeil h false
          · split
            · unfold doFetch
              split
              · exact h
              · split
                · split <;> exact h
                · exact h
            · unfold doGive
              split
              · rename_i ho
                split
                · exact h
                · rename_i w hw
                  split
                  · exact putN_old (w := { w with owner := d.ed.ma }) h hw rfl (wkOk_give (((sfOk_iff l).1 h).2.1 w (getN_mem hw)) ho)
                  · exact h
              · exact h
  · exact h
theorem keep_does (l : List Wk) (d : Dd) : sfOk (does l d).1 = true := by
  unfold does
  split
  · rename_i h
    show sfOk (if (doAll l d).2.1 = 0 then (doAll l d).1 else l) = true
    split
    · exact keep_doAll h
    · exact h
  · rfl
end M
theorem wrs_ok {l : List Wr} (h : M.sfOk (l.map Wr.wk) = true) : l.length ≤ 5 ∧ WrsIn 12 l := by
  obtain ⟨h1, h2, h3⟩ := (M.sfOk_iff _).1 h
  refine ⟨by simpa using h1, fun r hr => ?_⟩
  have hw := h2 r.wk (List.mem_map_of_mem hr)
  simp only [M.wkOk, M.cpsOk, M.nameOk, Bool.and_eq_true, decide_eq_true_eq, List.all_eq_true] at hw
  obtain ⟨⟨⟨hn, -⟩, hl⟩, hc, -⟩ := hw
  refine ⟨?_, Nat.le_trans hl (by decide), fun c hc' => ?_⟩
  · have h := hn.1
    rw [M.len_toList] at h
    exact Nat.le_trans h (by decide)
  · have h := hc c hc'
    simp only [M.cpOk, M.pageOk, Bool.and_eq_true, decide_eq_true_eq] at h
    have h := h.2.1
    rw [M.len_toList] at h
    exact h
end Go.Proofs.YtkpbfocnokbmiaaGreat
namespace Go.Proofs.YtkpbfocnokbmiaaGreat
open Go.RowKit
namespace M
structure Or where
  client : Int
  seq : Int
  deed : Dd
structure La where
  client : Int
  seq : Int
  code : Int
  page : ByteArray
def orderOk (o : Or) : Bool := inI o.client 0 3 && inI o.seq 1 1000 && deedOk o.deed
end M
abbrev orC (o : M.Or) : Array Value := #[.int .i64 o.client, .int .i64 o.seq, .int .i64 o.deed.kind, .string o.deed.name, .int .i64 o.deed.ed.ma, .int .i64 o.deed.ed.mi, .int .i64 o.deed.ed.pa, .string o.deed.page, .int .i64 o.deed.who]
abbrev orV (o : M.Or) : Value := .agg #[.int .i64 o.client, .int .i64 o.seq, .int .i64 o.deed.kind, .string o.deed.name, .int .i64 o.deed.ed.ma, .int .i64 o.deed.ed.mi, .int .i64 o.deed.ed.pa, .string o.deed.page, .int .i64 o.deed.who]
theorem Holds.nine {w : World} {g : Nat} {a0 a1 a2 a3 a4 a5 a6 a7 a8 : Value} (h : Holds w g #[a0, a1, a2, a3, a4, a5, a6, a7, a8]) : w.cell? ⟨g, 0, none⟩ = some a0 ∧ w.cell? ⟨g, 1, none⟩ = some a1 ∧ w.cell? ⟨g, 2, none⟩ = some a2 ∧ w.cell? ⟨g, 3, none⟩ = some a3 ∧ w.cell? ⟨g, 4, none⟩ = some a4 ∧ w.cell? ⟨g, 5, none⟩ = some a5 ∧ w.cell? ⟨g, 6, none⟩ = some a6 ∧ w.cell? ⟨g, 7, none⟩ = some a7 ∧ w.cell? ⟨g, 8, none⟩ = some a8 :=
  ⟨h.2 0 _ rfl, h.2 1 _ rfl, h.2 2 _ rfl, h.2 3 _ rfl, h.2 4 _ rfl, h.2 5 _ rfl, h.2 6 _ rfl, h.2 7 _ rfl, h.2 8 _ rfl⟩
end Go.Proofs.YtkpbfocnokbmiaaGreat
namespace Go.Proofs.YtkpbfocnokbmiaaGreat
open Go.RowKit
set_option maxRecDepth 20000

end Go.Proofs.YtkpbfocnokbmiaaGreat
namespace Go.Proofs.YtkpbfocnokbmiaaGreat
open Go.RowKit
set_option maxRecDepth 20000
abbrev laL (c : M.La) : List Value := [.int .i64 c.client, .int .i64 c.seq, .int .i64 c.code, .string c.page]
abbrev laA (c : M.La) : Array Value := #[.int .i64 c.client, .int .i64 c.seq, .int .i64 c.code, .string c.page]
abbrev laV (c : M.La) : Value := .agg #[.int .i64 c.client, .int .i64 c.seq, .int .i64 c.code, .string c.page]
theorem laL_len (c : M.La) : (laL c).length = 4 := rfl
abbrev laIn (n : Nat) (c : M.La) : Prop := c.page.size ≤ n

end Go.Proofs.YtkpbfocnokbmiaaGreat
namespace Go.Proofs.YtkpbfocnokbmiaaGreat
open Go.RowKit
set_option maxRecDepth 20000

end Go.Proofs.YtkpbfocnokbmiaaGreat
namespace Go.Proofs.YtkpbfocnokbmiaaGreat
open Go.RowKit
set_option maxRecDepth 20000

end Go.Proofs.YtkpbfocnokbmiaaGreat
namespace Go.Proofs.YtkpbfocnokbmiaaGreat
open Go.RowKit
set_option maxRecDepth 20000
abbrev Las (w : World) (A : Option Addr) (l : List M.La) : Prop := Flat laL 4 w A l
theorem Las_at {w : World} {A : Option Addr} {l : List M.La} {i : Nat} (h : Las w A l) (hi : i < l.length) : ∃ b o, A = some ⟨b, o, none⟩ ∧ b < w.heap.size ∧
    w.cell? ⟨b, o + i * 4, none⟩ = some (.int .i64 l[i].client) ∧ w.cell? ⟨b, o + i * 4 + 1, none⟩ = some (.int .i64 l[i].seq) ∧ w.cell? ⟨b, o + i * 4 + 2, none⟩ = some (.int .i64 l[i].code) ∧ w.cell? ⟨b, o + i * 4 + 3, none⟩ = some (.string l[i].page) := by
  obtain ⟨b, o, rfl, hb, h⟩ := h.at hi
  exact ⟨b, o, rfl, hb, h 0 _ rfl, h 1 _ rfl, h 2 _ rfl, h 3 _ rfl⟩
theorem infoLas : (Tryz.prog.info? 71).map (fun i => (i.zero, i.size, i.bytes)) = some (some (.agg #[.int .i64 0, .int .i64 0, .int .i64 0, .string ⟨#[]⟩]), 4, 40) := by kernel_rfl
theorem setLas (xs ys : List Value) (a0 a1 a2 a3 f0 f1 f2 f3 : Value) (n : Nat) (hn : n = xs.length) :
    ((((xs ++ a0 :: a1 :: a2 :: a3 :: ys).set (n) f0).set (n + 1) f1).set (n + 2) f2).set (n + 3) f3 = xs ++ f0 :: f1 :: f2 :: f3 :: ys := by
  subst hn; simp
theorem own_putLas {w : World} {base e g n cap j : Nat} {xs ys : List Value} {f0 f1 f2 f3 a0 a1 a2 a3 : Value} (h : w.ownsRow base e 4 (.slice (some ⟨g, 0, none⟩) n cap) n (xs ++ a0 :: a1 :: a2 :: a3 :: ys)) (hj : j = xs.length) :
    (((((w.setCell ⟨g, j, none⟩ f0).setCell ⟨g, j + 1, none⟩ f1).setCell ⟨g, j + 2, none⟩ f2).setCell ⟨g, j + 3, none⟩ f3)).ownsRow base e 4 (.slice (some ⟨g, 0, none⟩) n cap) n (xs ++ f0 :: f1 :: f2 :: f3 :: ys) := by
  have := ((((h.stored j f0).1.stored (j + 1) f1).1.stored (j + 2) f2).1.stored (j + 3) f3)
  rw [setLas xs ys a0 a1 a2 a3 f0 f1 f2 f3 j hj] at this
  exact this.1
/-- v is a list of these in memory of one's own from block B on. -/
abbrev LasOwn (B : Nat) (w : World) (v : Value) (l : List M.La) : Prop := w.ownsRow B 71 4 v l.length (cellsOf laL l)
theorem own_atLas {w : World} {base e g c : Nat} {l : List M.La} (h : w.ownsRow base e 4 (.slice (some ⟨g, 0, none⟩) l.length c) l.length (cellsOf laL l)) : Las w (some ⟨g, 0, none⟩) l := by
  obtain ⟨A, c', hv, _, hf⟩ := own_flat laL_len h
  have hA : some ⟨g, 0, none⟩ = A := by injection hv
  rw [hA]; exact hf

end Go.Proofs.YtkpbfocnokbmiaaGreat
namespace Go.Proofs.YtkpbfocnokbmiaaGreat
def GNoneTo {α : Type} (p : α → Bool) (l : List α) (j : Nat) : Prop := ∀ (i : Nat) (h : i < l.length), i < j → p l[i] = false
theorem GNoneTo.zero {α : Type} (p : α → Bool) (l : List α) : GNoneTo p l 0 := fun _ _ h => absurd h (by omega)
theorem GNoneTo.next {α : Type} {p : α → Bool} {l : List α} {j : Nat} (h : GNoneTo p l j) (hj : j < l.length) (hp : p l[j] = false) : GNoneTo p l (j + 1) := fun i hi hij => by
  by_cases e : i = j
  · subst e; exact hp
  · exact h i hi (by omega)
theorem GNoneTo.hit {α : Type} {p : α → Bool} {l : List α} {j : Nat} (h : GNoneTo p l j) (hj : j < l.length) (hp : p l[j] = true) : l.findIdx p = j :=
  (List.findIdx_eq hj).2 ⟨hp, fun i hi => by simpa using h i (by omega) hi⟩
theorem GNoneTo.all {α : Type} {p : α → Bool} {l : List α} (h : GNoneTo p l l.length) : l.findIdx p = l.length :=
  List.findIdx_eq_length.2 fun x hx => by
    obtain ⟨i, hi, rfl⟩ := List.mem_iff_getElem.1 hx
    simp [h i hi hi]
theorem all_findIdxG {α : Type} (q : α → Bool) (l : List α) : ((l.findIdx (fun c => !q c) : Int) == (l.length : Int)) = l.all q := by
  rcases h : l.all q with _ | _
  · have : ¬ l.findIdx (fun c => !q c) = l.length := fun e => by
      have h1 := List.findIdx_eq_length.1 e
      have h2 : l.all q = true := List.all_eq_true.2 fun x hx => by simpa using h1 x hx
      rw [h] at h2; cases h2
    simp only [beq_eq_false_iff_ne]
    omega
  · have : l.findIdx (fun c => !q c) = l.length := List.findIdx_eq_length.2 fun x hx => by simp [List.all_eq_true.1 h x hx]
    rw [this]; simp
/-- Each of the first j is ahead of the next. -/
def GRisesTo {α : Type} (lt : α → α → Bool) (l : List α) (j : Nat) : Prop := ∀ (i : Nat) (h : i + 1 < l.length), i + 1 < j → lt l[i] l[i + 1] = true
def grises {α : Type} (lt : α → α → Bool) : List α → Bool
  | a :: b :: l => lt a b && grises lt (b :: l)
  | _ => true
theorem grises_iff {α : Type} (lt : α → α → Bool) : ∀ l : List α, grises lt l = true ↔ ∀ (i : Nat) (h : i + 1 < l.length), lt l[i] l[i + 1] = true
  | [] => by simp [grises]
  | [a] => by simp [grises]
  | a :: b :: l => by
    have ih := grises_iff lt (b :: l)
    simp only [grises, Bool.and_eq_true, ih]
    constructor
    · rintro ⟨h1, h2⟩ i hi
      cases i with
      | zero => exact h1
      | succ i => exact h2 i (by simpa using hi)
    · intro h
      exact ⟨h 0 (by simp), fun i hi => h (i + 1) (by simpa using hi)⟩
theorem GRisesTo.one {α : Type} (lt : α → α → Bool) (l : List α) : GRisesTo lt l 1 := fun _ _ h => absurd h (by omega)
theorem GRisesTo.next {α : Type} {lt : α → α → Bool} {l : List α} {k : Nat} (h : GRisesTo lt l (k + 1)) (hk : k + 1 < l.length) (ho : lt l[k] l[k + 1] = true) : GRisesTo lt l (k + 2) := fun i hi hij => by
  by_cases e : i = k
  · subst e; exact ho
  · exact h i hi (by omega)
theorem GRisesTo.all {α : Type} {lt : α → α → Bool} {l : List α} {j : Nat} (h : GRisesTo lt l j) (hj : l.length ≤ j) : grises lt l = true := (grises_iff lt l).2 fun i hi => h i hi (by omega)
theorem grises_not {α : Type} {lt : α → α → Bool} {l : List α} {k : Nat} (hk : k + 1 < l.length) (ho : lt l[k] l[k + 1] = false) : grises lt l = false := by
  rcases hc : grises lt l with _ | _
  · rfl
  · have := (grises_iff lt l).1 hc k hk
    rw [ho] at this; cases this
end Go.Proofs.YtkpbfocnokbmiaaGreat
namespace Go.Proofs.YtkpbfocnokbmiaaGreat
open Go.RowKit
set_option maxRecDepth 20000
theorem l6Client_any (n : Int) (w : World) : Calls Tryz.prog 36 #[.int .i64 n] w fun e w' => e = .returned (.bool (M.inI n 0 3)) ∧ w = w' := by
  go_enter Tryz.func36, Tryz.ntmps36
  go_wp2_with fail
  refine (in_i _ _ _ _).mono ?_
  rintro e w' ⟨rfl, rfl⟩
  go_wp2
  go_ret
  exact ⟨rfl, rfl⟩
theorem clientOk_any (n : Int) (w : World) : Calls Tryz.prog 58 #[.int .i64 n] w fun e w' => e = .returned (.bool (M.inI n 0 3)) ∧ w = w' := by
  by_cases h1 : 0 ≤ n
  · go_enter Tryz.func58, Tryz.ntmps58
    go_wp2
    go_ret
    exact ⟨by simp [M.inI, h1], rfl⟩
  · go_enter Tryz.func58, Tryz.ntmps58
    go_wp2
    go_ret
    exact ⟨by simp [M.inI]; omega, rfl⟩
theorem seqOk_any (n : Int) (w : World) : Calls Tryz.prog 59 #[.int .i64 n] w fun e w' => e = .returned (.bool (M.inI n 1 1000)) ∧ w = w' := by
  by_cases h1 : 1 ≤ n
  · go_enter Tryz.func59, Tryz.ntmps59
    go_wp2
    go_ret
    exact ⟨by simp [M.inI, h1], rfl⟩
  · go_enter Tryz.func59, Tryz.ntmps59
    go_wp2
    go_ret
    exact ⟨by simp [M.inI]; omega, rfl⟩

set_option maxHeartbeats 2000000 in
theorem specOrderOk (o : M.Or) (w : World) (hn : o.deed.name.size ≤ maxLen) (hp : o.deed.page.size ≤ maxLen) :
    Calls Tryz.prog 35 #[orV o] w fun r w' => r = .returned (.bool (M.orderOk o)) ∧ Below w.heap.size w w' := by
  have b0 := (Below.refl w.heap.size w).alloc (Nat.le_refl _) (.cells (orC o) 33)
  rcases h1 : M.inI o.client 0 3 with _ | _
  · have HE : Hid (M.orderOk o = false) := Lib.hid (by simp [M.orderOk, h1])
    go_enter Tryz.func35, Tryz.ntmps35
    go_wp2_with fail
    have hc := l6Client_any o.client (w.alloc (.cells (orC o) 33))
    rw [h1] at hc
    refine hc.mono ?_
    rintro e w' ⟨rfl, rfl⟩
    clear hc h1
    go_wp2
    go_ret
    exact ⟨by rw [HE.out]; rfl, b0⟩
  · rcases h2 : M.inI o.seq 1 1000 with _ | _
    · have HE : Hid (M.orderOk o = false) := Lib.hid (by simp [M.orderOk, h2])
      go_enter Tryz.func35, Tryz.ntmps35
      go_wp2_with fail
      have hc := l6Client_any o.client (w.alloc (.cells (orC o) 33))
      rw [h1] at hc
      refine hc.mono ?_
      rintro e w' ⟨rfl, rfl⟩
      clear hc h1
      go_wp2_with fail
      have hc := in_i o.seq 1 1000 (w.alloc (.cells (orC o) 33))
      rw [h2] at hc
      refine hc.mono ?_
      rintro e w' ⟨rfl, rfl⟩
      clear hc h2
      go_wp2
      go_ret
      exact ⟨by rw [HE.out]; rfl, b0⟩
    · have HE : Hid (M.orderOk o = M.deedOk o.deed) := Lib.hid (by simp [M.orderOk, h1, h2])
      go_enter Tryz.func35, Tryz.ntmps35
      go_wp2_with fail
      have hc := l6Client_any o.client (w.alloc (.cells (orC o) 33))
      rw [h1] at hc
      refine hc.mono ?_
      rintro e w' ⟨rfl, rfl⟩
      clear hc h1
      go_wp2_with fail
      have hc := in_i o.seq 1 1000 (w.alloc (.cells (orC o) 33))
      rw [h2] at hc
      refine hc.mono ?_
      rintro e w' ⟨rfl, rfl⟩
      clear hc h2
      go_wp2_with fail
      refine (specDeedOk o.deed _ hn hp).mono ?_
      rintro e w1 ⟨rfl, b1⟩
      go_wp2
      go_ret
      exact ⟨by rw [HE.out]; rfl, next b0 b1⟩

set_option maxHeartbeats 2000000 in
theorem implOrderOk (o : M.Or) (w : World) (hn : o.deed.name.size ≤ maxLen) (hp : o.deed.page.size ≤ maxLen) :
    Calls Tryz.prog 32 #[orV o] w fun r w' => r = .returned (.bool (M.orderOk o)) ∧ Below w.heap.size w w' := by
  have b0 := (Below.refl w.heap.size w).alloc (Nat.le_refl _) (.cells (orC o) 33)
  rcases h1 : M.inI o.client 0 3 with _ | _
  · have HE : Hid (M.orderOk o = false) := Lib.hid (by simp [M.orderOk, h1])
    go_enter Tryz.func32, Tryz.ntmps32
    go_wp2_with fail
    have hc := clientOk_any o.client (w.alloc (.cells (orC o) 33))
    rw [h1] at hc
    refine hc.mono ?_
    rintro e w' ⟨rfl, rfl⟩
    clear hc h1
    go_wp2
    go_ret
    exact ⟨by rw [HE.out]; rfl, b0⟩
  · rcases h2 : M.inI o.seq 1 1000 with _ | _
    · have HE : Hid (M.orderOk o = false) := Lib.hid (by simp [M.orderOk, h2])
      go_enter Tryz.func32, Tryz.ntmps32
      go_wp2_with fail
      have hc := clientOk_any o.client (w.alloc (.cells (orC o) 33))
      rw [h1] at hc
      refine hc.mono ?_
      rintro e w' ⟨rfl, rfl⟩
      clear hc h1
      go_wp2_with fail
      have hc := seqOk_any o.seq (w.alloc (.cells (orC o) 33))
      rw [h2] at hc
      refine hc.mono ?_
      rintro e w' ⟨rfl, rfl⟩
      clear hc h2
      go_wp2
      go_ret
      exact ⟨by rw [HE.out]; rfl, b0⟩
    · have HE : Hid (M.orderOk o = M.deedOk o.deed) := Lib.hid (by simp [M.orderOk, h1, h2])
      go_enter Tryz.func32, Tryz.ntmps32
      go_wp2_with fail
      have hc := clientOk_any o.client (w.alloc (.cells (orC o) 33))
      rw [h1] at hc
      refine hc.mono ?_
      rintro e w' ⟨rfl, rfl⟩
      clear hc h1
      go_wp2_with fail
      have hc := seqOk_any o.seq (w.alloc (.cells (orC o) 33))
      rw [h2] at hc
      refine hc.mono ?_
      rintro e w' ⟨rfl, rfl⟩
      clear hc h2
      go_wp2_with fail
      refine (implDeedOk o.deed _ hn hp).mono ?_
      rintro e w1 ⟨rfl, b1⟩
      go_wp2
      go_ret
      exact ⟨by rw [HE.out]; rfl, next b0 b1⟩

end Go.Proofs.YtkpbfocnokbmiaaGreat
