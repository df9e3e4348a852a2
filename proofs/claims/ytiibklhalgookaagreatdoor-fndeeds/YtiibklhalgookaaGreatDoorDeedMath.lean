/- Proved: plain facts on deeds: what is shown is read, what is read is shown so, and the program's way of reading is the model's; no program is named here; no condition. -/
import Derived.Test.YtiibklhalgookaaGreatDoorMath
import Derived.Test.YtiibklhalgookaaGreatDoorEdMathB
import Derived.Test.YtiibklhalgookaaGreatDoorNumText
import Derived.Test.YtiibklhalgookaaGreatDoorCutN
import Derived.Test.YtiibklhalgookaaGreatDoorDeedDefs
namespace Go.Proofs.YtiibklhalgookaaGreatDoor
namespace M

theorem join_len (b : UInt8) (x : List UInt8) (ws : List (List UInt8)) (h : ws ≠ []) : join b (x :: ws) = x ++ b :: join b ws := by
  match ws, h with
  | _ :: _, _ => rfl
theorem split_join (b : UInt8) : ∀ ws : List (List UInt8), ws ≠ [] → (∀ x ∈ ws, b ∉ x) → split b (join b ws) = ws
  | [x], _, h => split_one b x (h x (by simp))
  | x :: y :: r, _, h => by
    rw [join_len b x (y :: r) (by simp), split_more b x _ (h x (by simp)), split_join b (y :: r) (by simp) (fun z hz => h z (by simp [hz]))]
theorem splitK_join (b : UInt8) : ∀ (ws : List (List UInt8)) (k : Nat), ws ≠ [] → (∀ x ∈ ws, b ∉ x) → ws.length ≤ k + 1 → Lib.splitK [b] 0 k (join b ws) = ws
  | [x], k, _, h, _ => splitK_not b k x (h x (by simp))
  | x :: y :: r, 0, _, _, hl => by simp at hl
  | x :: y :: r, k + 1, _, h, hl => by
    rw [join_len b x (y :: r) (by simp), splitK_at b k x _ (h x (by simp)), splitK_join b (y :: r) k (by simp) (fun z hz => h z (by simp [hz])) (by simpa using hl)]
theorem join_size (b : UInt8) : ∀ ws : List (List UInt8), ws.length ≤ (join b ws).length + 1
  | [] => by simp
  | [x] => by simp [join]
  | x :: y :: r => by
    have := join_size b (y :: r)
    rw [join_len b x (y :: r) (by simp)]
    simp at this ⊢; omega

theorem mkB_list (l : List UInt8) : (mkB l).data.toList = l := rfl
theorem mkB_of (s : ByteArray) : mkB s.data.toList = s := rfl
theorem nm_no_blank : ∀ (b : Bool) (l : List UInt8), nm b l = true → (32 : UInt8) ∉ l
  | false, [], h => by simp [nm] at h
  | true, [], _ => by simp
  | false, c :: r, h => by
    simp only [nm, Bool.and_eq_true] at h
    simp only [List.mem_cons, not_or]
    exact ⟨fun e => by rw [← e] at h; revert h; simp [small, smallI], nm_no_blank true r h.2⟩
  | true, c :: r, h => by
    simp only [nm] at h
    simp only [List.mem_cons, not_or]
    split at h
    · rename_i hc
      exact ⟨fun e => by rw [← e] at hc; simp at hc, nm_no_blank false r h⟩
    · simp only [Bool.and_eq_true] at h
      exact ⟨fun e => by rw [← e] at h; revert h; simp [small, smallI], nm_no_blank true r h.2⟩
theorem name_no_blank {l : List UInt8} (h : nameOk l = true) : (32 : UInt8) ∉ l := by
  simp only [nameOk, Bool.and_eq_true] at h; exact nm_no_blank _ _ h.2
theorem page_no_blank {l : List UInt8} (h : pageOk l = true) : (32 : UInt8) ∉ l := by
  simp only [pageOk, Bool.and_eq_true] at h
  intro hm
  have := List.all_eq_true.1 h.2 _ hm
  revert this; decide
theorem int_no_blank {x : Int} (h : 0 ≤ x) : (32 : UInt8) ∉ intText x := by
  rw [intText_pos h]; exact digs_not _ 32 (by decide)
theorem ed_no_blank {e : Ed} (h : edOk e = true) : (32 : UInt8) ∉ edText e := by
  rw [edOk_iff] at h
  unfold edText
  simp [int_no_blank h.1.1, int_no_blank h.2.1.1, int_no_blank h.2.2.1]
theorem pageText_no_blank {p : ByteArray} (h : pageOk p.data.toList = true) : (32 : UInt8) ∉ pageText p := by
  unfold pageText; split
  · decide
  · exact page_no_blank h
theorem page_back {p : ByteArray} (h : pageOk p.data.toList = true) : pageRead (pageText p) = p ∧ pageText p ≠ [] := by
  unfold pageText; split
  · rename_i h0
    exact ⟨by rw [size0 h0]; rfl, by simp⟩
  · rename_i h0
    have hne : p.data.toList ≠ [] := fun e => h0 (by rw [← len0, e]; rfl)
    refine ⟨?_, hne⟩
    unfold pageRead
    rw [if_neg, mkB_of]
    intro e
    simp only [pageOk, Bool.and_eq_true] at h
    have := List.all_eq_true.1 h.2 45 (by rw [e]; simp)
    revert this; decide
theorem page_forth {l : List UInt8} (h : l ≠ []) : pageText (pageRead l) = l := by
  unfold pageRead; split
  · rename_i e; rw [e]; rfl
  · unfold pageText
    rw [if_neg, mkB_list]
    intro e
    rw [← len0, mkB_list] at e
    exact h (List.eq_nil_of_length_eq_zero e)

theorem words_no_blank {d : Dd} (h : deedOk d = true) : ∀ x ∈ deedWords d, (32 : UInt8) ∉ x := by
  obtain ⟨hn, he, hp, ⟨hw0, hw1⟩, hz, hk⟩ := (deedOk_iff d).1 h
  have h1 := name_no_blank hn
  have h2 := ed_no_blank he
  have h3 := pageText_no_blank hp
  have h4 := int_no_blank hw0
  have h5 := int_no_blank ((edOk_iff _).1 he).1.1
  rcases hk with ⟨hk, _⟩ | hk | hk | hk | ⟨hk, _⟩ | ⟨hk, _⟩ <;> simp [deedWords, hk, h1, h2, h3, h4, h5, wClaim, wPut, wHide, wShow, wFetch, wGive]
theorem words_ne (d : Dd) : deedWords d ≠ [] := by unfold deedWords; (repeat' split) <;> simp
theorem words_len (d : Dd) : (deedWords d).length ≤ 5 := by unfold deedWords; (repeat' split) <;> simp
theorem rd_back {x : Int} (h0 : 0 ≤ x) (h1 : x ≤ 99) : rd (intText x) = (x, true) := rd_of_text x (by omega) (by omega)

theorem dd_ext {a b : Dd} (h0 : a.kind = b.kind) (h1 : a.name = b.name) (h2 : a.ed = b.ed) (h3 : a.page = b.page) (h4 : a.who = b.who) : a = b := by
  cases a; cases b; simp_all
theorem shape_back {d : Dd} (h : deedOk d = true) : deedShape (deedWords d) = some (d, true) := by
  obtain ⟨hn, he, hp, ⟨hw0, hw1⟩, hz, hk⟩ := (deedOk_iff d).1 h
  have hr := rd_back hw0 (by omega)
  have hm := rd_back ((edOk_iff _).1 he).1.1 ((edOk_iff _).1 he).1.2
  have hE := edRead_text d.ed he
  obtain ⟨hP, hP'⟩ := page_back hp
  have h0 : d.kind ≠ 2 → d.page = nilB := fun hk => size0 (hz.resolve_left hk)
  rcases hk with ⟨hk, h2⟩ | hk | hk | hk | ⟨hk, h2⟩ | ⟨hk, h2, h3⟩
  · have e : deedWords d = [wClaim, d.name.data.toList, intText d.who] := by simp [deedWords, hk]
    rw [e, deedShape, if_pos rfl, hr]
    exact congrArg some (Prod.ext (dd_ext hk.symm rfl h2.symm (h0 (by omega)).symm rfl) rfl)
  · have e : deedWords d = [wPut, d.name.data.toList, edText d.ed, pageText d.page, intText d.who] := by simp [deedWords, hk]
    rw [e, deedShape, if_pos rfl, hr, hE, hP]
    exact congrArg some (Prod.ext (dd_ext hk.symm rfl rfl rfl rfl) (by simp [hP']))
  · have e : deedWords d = [wHide, d.name.data.toList, edText d.ed, intText d.who] := by simp [deedWords, hk]
    rw [e, deedShape, if_pos rfl, hr, hE]
    exact congrArg some (Prod.ext (dd_ext hk.symm rfl rfl (h0 (by omega)).symm rfl) rfl)
  · have e : deedWords d = [wShow, d.name.data.toList, edText d.ed, intText d.who] := by simp [deedWords, hk]
    rw [e, deedShape, if_neg (by decide), if_pos rfl, hr, hE]
    exact congrArg some (Prod.ext (dd_ext hk.symm rfl rfl (h0 (by omega)).symm rfl) rfl)
  · have e : deedWords d = [wFetch, d.name.data.toList, edText d.ed] := by simp [deedWords, hk]
    rw [e, deedShape, if_neg (by decide), if_pos rfl, hE]
    exact congrArg some (Prod.ext (dd_ext hk.symm rfl rfl (h0 (by omega)).symm h2.symm) rfl)
  · have e : deedWords d = [wGive, d.name.data.toList, intText d.who, intText d.ed.ma] := by simp [deedWords, hk]
    rw [e, deedShape, if_neg (by decide), if_neg (by decide), if_pos rfl, hr, hm]
    exact congrArg some (Prod.ext (dd_ext hk.symm rfl (by rw [ed_ext]; exact ⟨rfl, h2.symm, h3.symm⟩) (h0 (by omega)).symm rfl) rfl)

theorem shape_forth {ws : List (List UInt8)} {d : Dd} (h : deedShape ws = some (d, true)) : deedWords d = ws := by
  have key : ∀ {a : List UInt8}, (rd a).2 = true → intText (rd a).1 = a := fun h => (rd_text h).symm
  have keyE : ∀ {a : List UInt8}, (edRead a).2 = true → edText (edRead a).1 = a := fun {a} h => by
    obtain ⟨h1, h2⟩ := edShow_read h
    unfold edShow at h1; rw [if_pos h2] at h1; exact h1
  unfold deedShape at h
  split at h
  · split at h
    · rename_i k n a e
      simp only [Option.some.injEq, Prod.mk.injEq] at h
      obtain ⟨rfl, h⟩ := h
      simp [deedWords, mkB_list, key h, e]
    · split at h
      · rename_i k n a _ e
        simp only [Option.some.injEq, Prod.mk.injEq] at h
        obtain ⟨rfl, h⟩ := h
        simp [deedWords, mkB_list, keyE h, e]
      · cases h
  · split at h
    · rename_i k n a b e
      simp only [Option.some.injEq, Prod.mk.injEq, Bool.and_eq_true] at h
      obtain ⟨rfl, h, h'⟩ := h
      simp [deedWords, mkB_list, keyE h, key h', e]
    · split at h
      · rename_i k n a b _ e
        simp only [Option.some.injEq, Prod.mk.injEq, Bool.and_eq_true] at h
        obtain ⟨rfl, h, h'⟩ := h
        simp [deedWords, mkB_list, keyE h, key h', e]
      · split at h
        · rename_i k n a b _ _ e
          simp only [Option.some.injEq, Prod.mk.injEq, Bool.and_eq_true] at h
          obtain ⟨rfl, h, h'⟩ := h
          simp [deedWords, mkB_list, key h, key h', e]
        · cases h
  · split at h
    · rename_i k n a b c e
      simp only [Option.some.injEq, Prod.mk.injEq, Bool.and_eq_true, decide_eq_true_eq] at h
      obtain ⟨rfl, ⟨h, hb⟩, h'⟩ := h
      simp [deedWords, mkB_list, keyE h, key h', e, page_forth hb]
    · cases h
  · cases h

theorem deedRead_text {d : Dd} (h : deedOk d = true) : deedRead (deedText d) = (d, true) := by
  unfold deedRead deedText
  rw [split_join 32 _ (words_ne d) (words_no_blank h), shape_back h]
  simp [h]
theorem deedRead_show {d : Dd} (h : deedOk d = true) : deedRead (deedShow d) = (d, true) := by
  unfold deedShow; rw [if_pos h]; exact deedRead_text h
theorem deedRead_true {l : List UInt8} (h : (deedRead l).2 = true) : deedOk (deedRead l).1 = true ∧ deedText (deedRead l).1 = l := by
  unfold deedRead at h ⊢
  rcases hs : deedShape (split 32 l) with _ | ⟨d, g⟩
  · rw [hs] at h; cases h
  · rw [hs] at h
    simp only at h ⊢
    rcases hg : (g && deedOk d) with _ | _
    · rw [hg] at h; cases h
    · rw [if_pos rfl]
      simp only [Bool.and_eq_true] at hg
      obtain ⟨rfl, hd⟩ := hg
      exact ⟨hd, by unfold deedText; rw [shape_forth hs, join_split]⟩
theorem deedRead_false {l : List UInt8} (h : (deedRead l).2 = false) : deedRead l = (zeroDd, false) := by
  unfold deedRead at h ⊢
  rcases hs : deedShape (split 32 l) with _ | ⟨d, g⟩
  · rfl
  · rw [hs] at h
    simp only at h ⊢
    rcases hg : (g && deedOk d) with _ | _
    · rfl
    · rw [hg] at h; cases h
theorem deedText_ne (d : Dd) : deedText d ≠ [] := by
  unfold deedText deedWords; (repeat' split) <;> simp [join, wClaim, wPut, wHide, wShow, wFetch, wGive]
theorem deedShow_empty (d : Dd) : deedShow d = [] ↔ deedOk d = false := by
  unfold deedShow; rcases h : deedOk d with _ | _ <;> simp [deedText_ne]

theorem shape_nil (k : Nat) : deedShape (Lib.splitK [32] 0 k []) = none := by
  rw [splitK_not 32 k [] (by simp)]; rfl
/-- The program's way of reading: five words at most, and what is not shown so again is none. -/
theorem deedRead_impl (l : List UInt8) : deedRead l = match deedShape (Lib.splitK [32] 0 (min 5 (l.length + 1) - 1) l) with
    | none => (zeroDd, false)
    | some (d, _) => if deedShow d = l then (d, true) else (zeroDd, false) := by
  rcases hr : (deedRead l).2 with _ | _
  · rw [deedRead_false hr]
    rcases hs : deedShape (Lib.splitK [32] 0 (min 5 (l.length + 1) - 1) l) with _ | ⟨d, g⟩
    · rfl
    · simp only
      rw [if_neg]
      intro e
      rcases hd : deedOk d with _ | _
      · rw [(deedShow_empty d).2 hd] at e
        subst e
        rw [shape_nil] at hs; cases hs
      · rw [← e, deedRead_show hd] at hr; cases hr
  · obtain ⟨hd, ht⟩ := deedRead_true hr
    have hlen : (deedWords (deedRead l).1).length ≤ min 5 (l.length + 1) - 1 + 1 := by
      have h1 := words_len (deedRead l).1
      have h2 := join_size 32 (deedWords (deedRead l).1)
      have h3 : (join 32 (deedWords (deedRead l).1)).length = l.length := congrArg List.length ht
      omega
    have e : Lib.splitK [32] 0 (min 5 (l.length + 1) - 1) l = deedWords (deedRead l).1 := by
      conv => lhs; rw [show l = join 32 (deedWords (deedRead l).1) from ht.symm]
      rw [show (join 32 (deedWords (deedRead l).1)).length = l.length from congrArg List.length ht]
      exact splitK_join 32 _ _ (words_ne _) (words_no_blank hd) hlen
    rw [e, shape_back hd]
    simp only
    rw [if_pos (by unfold deedShow; rw [if_pos hd]; exact ht), ← hr]
end M
end Go.Proofs.YtiibklhalgookaaGreatDoor
