/- Proved, in parts: Proved: the program's bookOf lays a book into memory of its own, and written reads it back. Condition: texts and lists of at most a million. Proved: the program's Ordered answers a plain Lean function, its book in new memory; nothing that was there is written. Condition: texts and lists of at most a million. Proved: what the model does with an order is what the program does, where the book and the order are right. No program is named here. Condition: those two. Proved: what an order leaves of a right book is a right book; plain facts on many orders. No program is named here; no condition. Proved: an order that was given changes nothing when it is given again, whatever came between; plain facts, no program is named here; no condition. Proved: the model's l5Find tells where a name stands in a list of works, and its l5Copy answers the same works in new memory; they write nothing that was there. Condition: texts and lists of at most a million. Proved: where a name stands in a list whose names rise; what a put leaves of it, told by places. Condition: none. -/
import Derived.Test.YtkpbfocnokbmiaaGreatPart23
import Derived.Test.YtkpbfocnokbmiaaGreatPart21
import Derived.Test.YtkpbfocnokbmiaaGreatPart05
import Derived.Test.YtkpbfocnokbmiaaGreatPart04
import Derived.Test.YtkpbfocnokbmiaaGreatPart08
import Derived.Test.YtkpbfocnokbmiaaGreatPart18
namespace Go.Proofs.YtkpbfocnokbmiaaGreat
open Go.RowKit
set_option maxRecDepth 20000
theorem results_bookOf (a b : Value) (R : Nat) (W : World) (tmps : Array Value) (h2 : tmps.getD 2 undef = .pointer (some ⟨R, 0, none⟩)) (hW : Holds W R #[a, b]) :
    (results Tryz.f23 tmps).run Tryz.prog W = .ok (.agg #[a, b]) W := by
  obtain ⟨q0, q1⟩ := hW.two
  simp at h2
  simp [results, Tryz.results23, go_sem, h2, q0, q1]
theorem results_written (a b : Value) (R : Nat) (W : World) (tmps : Array Value) (h2 : tmps.getD 2 undef = .pointer (some ⟨R, 0, none⟩)) (hW : Holds W R #[a, b]) :
    (results Tryz.f25 tmps).run Tryz.prog W = .ok (.agg #[a, b]) W := by
  obtain ⟨q0, q1⟩ := hW.two
  simp at h2
  simp [results, Tryz.results25, go_sem, h2, q0, q1]
/-- What bookOf answers. -/
def BkMade (w : World) (l : List Wr) (m : List M.La) (e : Ending) (w' : World) : Prop :=
  ∃ b rs v, e = .returned (.agg #[.map (some b), v]) ∧ w.heap.size ≤ b ∧ rs.map Wr.wk = l.map Wr.wk ∧ ShM w' b l.length rs ∧ RsOwn (b + 1) w' rs ∧ b + 1 ≤ w'.heap.size ∧ LasOwn w.heap.size w' v m ∧ (∀ k, v.ownBlock = some k → b < k ∧ ∀ r ∈ rs, ∀ j, r.sl.ownBlock = some j → j < k) ∧ Below w.heap.size w w'
set_option maxHeartbeats 4000000 in
theorem bookOf_any (A : Option Addr) (l : List Wr) (cap : Nat) (A2 : Option Addr) (m : List M.La) (cb : Nat) (w : World) (hl : Wks w A l) (hr : RiseW l) (hlen : l.length ≤ 1048576) (hp : WrsIn 1048576 l) (hm : Las w A2 m) (hml : m.length ≤ 1048576) (hmp : ∀ c ∈ m, laIn 1048576 c) :
    Calls Tryz.prog 23 #[bkV A l.length cap A2 m.length cb] w (BkMade w l m) := by
  have HL := Lib.hid hl
  have HR := Lib.hid hr
  have HP := Lib.hid hp
  have HM := Lib.hid hm
  have HMP := Lib.hid hmp
  clear hl hr hp hm hmp
  have hM := ((Mem.start w).new (bkA A l.length cap A2 m.length cb) 27).new #[.map none, .slice none 0 0] 61
  simp only [World.size_alloc] at hM
  go_enter Tryz.func23, Tryz.ntmps23
  go_wp2_with fail
  generalize hx0 : (w.alloc (.cells (bkA A l.length cap A2 m.length cb) 27)).alloc (.cells #[.map none, .slice none 0 0] 61) = x0 at hM ⊢
  have HM0 := Lib.hid hM
  have HST : Hid (Holds x0 w.heap.size (bkA A l.length cap A2 m.length cb) ∧ Holds x0 (w.heap.size + 1) #[.map none, .slice none 0 0] ∧ Loose x0 (w.heap.size + 1)) := Lib.hid ⟨hM.get w.heap.size _ (by simp), hM.get (w.heap.size + 1) _ (by simp), hM.loose (w.heap.size + 1) (by simp)⟩
  clear hM hx0
  refine wp_region_fin 7 (fun x => Holds x w.heap.size (bkA A l.length cap A2 m.length cb) ∧ Holds x (w.heap.size + 1) #[.map none, .slice none 0 0] ∧ Loose x (w.heap.size + 1)) [(0, true), (1, true), (3, true), (4, true), (2, false), (5, false), (6, true), (7, false)] (by kernel_rfl) (by kernel_rfl) (fun _ _ _ _ _ h => h) (by kernel_rfl) (by decide) HST.out ?_
  intro hHeld
  repeat (first
    | (refine seqF_reads (by simp only [List.getElem?_toArray, List.getElem?_cons_succ, List.getElem?_cons_zero]; first | done | rfl) (by rfl) ?_; apply Exists.intro; apply And.intro; (focus (intro w hSw; (try (replace hSw := hSw (by decide +kernel))); obtain ⟨k0, k1⟩ := hSw.1.two; go_simp; (try with_reducible rfl); done)); (try simp only [Act.put, List.setIfInBounds_toArray, List.set_cons_zero, List.set_cons_succ]))
    | (refine seqF_call (by simp only [List.getElem?_toArray, List.getElem?_cons_succ, List.getElem?_cons_zero]; first | done | rfl) (by rfl) (fun K hK => ?_) (by decide); go_simp; go_at_call 49; refine (shelfOf_any A l cap _ ((HL.out.below HM0.out.1).below (Below.refl _ _).drew) HR.out hlen HP.out).mono ?_; rintro r w1 ⟨rfl, rs, hrs, hmap, hown, b1⟩; go_simp; refine hK.out _ _ _ (fun _ h => h) ⟨hHeld.1.below b1, hHeld.2.1.below b1, hHeld.2.2.below hHeld.2.1.1 b1⟩ ?_; clear hK hHeld; intro hHeld; (have HRS := Lib.hid hrs); (have HMAP := Lib.hid hmap); (have HOWN := Lib.hid hown); (have HB1 := Lib.hid b1); clear hrs hmap hown b1; (try simp only [Act.put, List.setIfInBounds_toArray, List.set_cons_zero, List.set_cons_succ]))
    | (refine seqF_call (by simp only [List.getElem?_toArray, List.getElem?_cons_succ, List.getElem?_cons_zero]; first | done | rfl) (by rfl) (fun K hK => ?_) (by decide); go_simp; go_at_call 50; refine (each_la A2 m cb _ (((HM.out.below HM0.out.1).below (Below.refl _ _).drew).below HB1.out) hml HMP.out).mono ?_; rintro r w1 ⟨A3, c3, rfl, o3, b1⟩; go_simp; refine hK.out _ _ _ (fun _ h => h) ⟨hHeld.1.below b1, hHeld.2.1.below b1, hHeld.2.2.below hHeld.2.1.1 b1⟩ ?_; clear hK hHeld; intro hHeld; (have HO3 := Lib.hid o3); (have HB3 := Lib.hid b1); clear o3 b1; (try simp only [Act.put, List.setIfInBounds_toArray, List.set_cons_zero, List.set_cons_succ]))
    | (refine seqF_last (by simp only [List.getElem?_toArray, List.getElem?_cons_succ, List.getElem?_cons_zero]; first | done | rfl) (by rfl) (fun K hK => ?_); (have hD := hHeld.2); (obtain ⟨q0, q1⟩ := hD.1.two); (have y0 := hD.2 0); (have y1 := hD.2 1); go_simp; refine hK.out _ _ ?_; clear hK; (have HHE := Lib.hid hHeld); clear hHeld hD q0 q1 y0 y1; (try simp only [Act.put, List.setIfInBounds_toArray, List.set_cons_zero, List.set_cons_succ])))
  refine seqF_end ?_
  go_wp2
  have hx0 : w.heap.size + 2 ≤ x0.heap.size := HST.out.2.1.1
  have hlt := HMAP.out.lt
  have hdr : x0.drew.heap.size = x0.heap.size := rfl
  have hne : ∀ r ∈ rs, r.sl.ownBlock ≠ some (w.heap.size + 1) := fun r hr e => by have := ((HOWN.out.1 r hr).lt _ e).1; omega
  have hblk : ∀ k, (Value.slice A3 m.length c3).ownBlock = some k → x0.heap.size < k ∧ ∀ r ∈ rs, ∀ j, r.sl.ownBlock = some j → j < k := fun k e => by
    have h1 := (World.ownsRow.lt HO3.out k e).1
    exact ⟨by omega, fun r hr j e' => by have := ((HOWN.out.1 r hr).lt _ e').2; omega⟩
  have bb := next (next (next HM0.out.1 (Below.refl _ _).drew) HB1.out) HB3.out
  refine bodyPost_ret (results_bookOf (.map (some x0.heap.size)) (.slice A3 m.length c3) (w.heap.size + 1) _ _ rfl ?_) rfl ⟨x0.heap.size, rs, .slice A3 m.length c3, rfl, by omega, HRS.out, ?_, ?_, ?_, ?_, hblk, ?_⟩
  · simpa using ((HHE.out.2.1.putM 0 (.map (some x0.heap.size))).putM 1 (.slice A3 m.length c3))
  · exact ShM.set (ShM.set (HMAP.out.kept (grown_lw HB3.out none) (by simp)) (by omega)) (by omega)
  · exact ((HOWN.out.below HB3.out).set hne 0 _).set hne 1 _
  · have := HB3.out.size
    simp
    omega
  · refine LasOwn.mono (own_off (own_off HO3.out (fun e => ?_) 0 _) (fun e => ?_) 1 _) (by have := HB1.out.size; omega)
    · have := (hblk _ e).1; omega
    · have := (hblk _ e).1; omega
  · exact (bb.setCell (by show w.heap.size ≤ w.heap.size + 1; omega) _).setCell (by show w.heap.size ≤ w.heap.size + 1; omega) _

/-- What written answers. -/
def BkRead (w : World) (B : Nat) (v : Value) (rs : List Wr) (e : Ending) (w' : World) : Prop :=
  ∃ A' c', e = .returned (.agg #[.slice A' rs.length c', v]) ∧ SfOwn B w' (.slice A' rs.length c') rs ∧ (∀ k, (Value.slice A' rs.length c').ownBlock = some k → w.heap.size ≤ k) ∧ Below w.heap.size w w'
set_option maxHeartbeats 4000000 in
theorem written_any (B b n : Nat) (rs : List Wr) (A4 : Option Addr) (n4 c4 : Nat) (w : World) (hm : ShM w b n rs) (hr : RiseW rs) (ho : RsOwn B w rs) (hB : B ≤ w.heap.size) (hlen : rs.length ≤ 1000) (hnm : ∀ r ∈ rs, r.name.size ≤ 1048576) :
    Calls Tryz.prog 25 #[.agg #[.map (some b), .slice A4 n4 c4]] w (BkRead w B (.slice A4 n4 c4) rs) := by
  have HO := Lib.hid ho
  have HR := Lib.hid hr
  have HN := Lib.hid hnm
  have HMP := Lib.hid hm
  clear ho hr hnm hm
  have hM := ((Mem.start w).new #[.map (some b), .slice A4 n4 c4] 61).new (bkA none 0 0 none 0 0) 27
  simp only [World.size_alloc] at hM
  go_enter Tryz.func25, Tryz.ntmps25
  go_wp2_with fail
  generalize hx0 : (w.alloc (.cells #[.map (some b), .slice A4 n4 c4] 61)).alloc (.cells (bkA none 0 0 none 0 0) 27) = x0 at hM ⊢
  have HM0 := Lib.hid hM
  have HB0 := Lib.hid (hM.1.trans ((Below.refl x0.heap.size x0).drew.mono hM.1.size))
  have HST : Hid (Holds x0 w.heap.size #[.map (some b), .slice A4 n4 c4] ∧ Holds x0 (w.heap.size + 1) (bkA none 0 0 none 0 0) ∧ Loose x0 (w.heap.size + 1)) := Lib.hid ⟨hM.get w.heap.size _ (by simp), hM.get (w.heap.size + 1) _ (by simp), hM.loose (w.heap.size + 1) (by simp)⟩
  clear hM hx0
  refine wp_region_fin 6 (fun x => Holds x w.heap.size #[.map (some b), .slice A4 n4 c4] ∧ Holds x (w.heap.size + 1) (bkA none 0 0 none 0 0) ∧ Loose x (w.heap.size + 1)) [(0, true), (1, true), (3, true), (4, true), (2, false), (5, true), (6, false)] (by kernel_rfl) (by kernel_rfl) (fun _ _ _ _ _ h => h) (by kernel_rfl) (by decide) HST.out ?_
  intro hHeld
  repeat (first
    | (refine seqF_reads (by simp only [List.getElem?_toArray, List.getElem?_cons_succ, List.getElem?_cons_zero]; first | done | rfl) (by rfl) ?_; apply Exists.intro; apply And.intro; (focus (intro w hSw; (try (replace hSw := hSw (by decide +kernel))); obtain ⟨k0, k1⟩ := hSw.1.two; go_simp; (try with_reducible rfl); done)); (try simp only [Act.put, List.setIfInBounds_toArray, List.set_cons_zero, List.set_cons_succ]))
    | (refine seqF_call (by simp only [List.getElem?_toArray, List.getElem?_cons_succ, List.getElem?_cons_zero]; first | done | rfl) (by rfl) (fun K hK => ?_) (by decide); go_simp; go_at_call 53; refine (inOrder_at b n B rs _ (HMP.out.kept (grown_lw HB0.out none) (by simp)) HR.out (HO.out.below HB0.out) (Nat.le_trans hB HB0.out.size) hlen HN.out).mono ?_; rintro r w1 ⟨v3, rfl, hs, hnew, b1⟩; (obtain ⟨A5, c5, rfl, -, -⟩ := hs.open); go_simp; refine hK.out _ _ _ (fun _ h => h) ⟨hHeld.1.below b1, hHeld.2.1.below b1, hHeld.2.2.below hHeld.2.1.1 b1⟩ ?_; clear hK hHeld; intro hHeld; (have HS := Lib.hid hs); (have HNEW := Lib.hid hnew); (have HB1 := Lib.hid b1); clear hs hnew b1; (try simp only [Act.put, List.setIfInBounds_toArray, List.set_cons_zero, List.set_cons_succ]))
    | (refine seqF_last (by simp only [List.getElem?_toArray, List.getElem?_cons_succ, List.getElem?_cons_zero]; first | done | rfl) (by rfl) (fun K hK => ?_); (have hD := hHeld.2); (obtain ⟨q0, q1⟩ := hD.1.two); (have y0 := hD.2 0); (have y1 := hD.2 1); go_simp; refine hK.out _ _ ?_; clear hK; (have HHE := Lib.hid hHeld); clear hHeld hD q0 q1 y0 y1; (try simp only [Act.put, List.setIfInBounds_toArray, List.set_cons_zero, List.set_cons_succ])))
  refine seqF_end ?_
  go_wp2
  have hx0 : w.heap.size + 2 ≤ x0.heap.size := HST.out.2.1.1
  have hnb : ∀ g, blocksS (.slice A5 rs.length c5) rs g → g ≠ w.heap.size + 1 := fun g hg e => by
    rcases hg with hg | ⟨r, hr, hg⟩
    · have h1 : x0.heap.size ≤ g := HNEW.out g hg
      omega
    · have := ((HO.out.1 r hr).lt g hg).2; omega
  refine bodyPost_ret (results_written (.slice A5 rs.length c5) (.slice A4 n4 c4) (w.heap.size + 1) _ _ rfl ?_) rfl ⟨A5, c5, rfl, ?_, fun k e => ?_, ?_⟩
  · simpa using ((HHE.out.2.1.putM 0 (.slice A5 rs.length c5)).putM 1 (.slice A4 n4 c4))
  · exact (HS.out.far (fun e => hnb _ (.inl e) rfl) (fun r hr e => hnb _ (.inr ⟨r, hr, e⟩) rfl) 0 _).far (fun e => hnb _ (.inl e) rfl) (fun r hr e => hnb _ (.inr ⟨r, hr, e⟩) rfl) 1 _
  · have h1 : x0.heap.size ≤ k := HNEW.out k e
    omega
  · exact ((next HB0.out HB1.out).setCell (by show w.heap.size ≤ w.heap.size + 1; omega) _).setCell (by show w.heap.size ≤ w.heap.size + 1; omega) _
end Go.Proofs.YtkpbfocnokbmiaaGreat
namespace Go.Proofs.YtkpbfocnokbmiaaGreat
open Go.RowKit
set_option maxRecDepth 20000
namespace M
def ordered (b : Bk) (o : Or) : Bk × Rp := if bkOk b.1 b.2 then ordI b o else (([], []), (7, nilB))
end M
/-- What Ordered answers. -/
def OrRet (w : World) (q : M.Bk × M.Rp) (e : Ending) (w' : World) : Prop :=
  ∃ v1 v2 rs', e = .returned (.tuple #[.agg #[v1, v2], rpV q.2.1 q.2.2]) ∧ SfOwn w.heap.size w' v1 rs' ∧ rs'.map Wr.wk = q.1.1 ∧ LasOwn w.heap.size w' v2 q.1.2 ∧ (∀ g, v2.ownBlock = some g → ¬ blocksS v1 rs' g) ∧ Below w.heap.size w w'
theorem Mem.touch {w0 : World} {hs : List (Nat × Array Value)} {ls : List Nat} {x y : World} {T : Nat → Prop} (h : Mem w0 hs ls x) (ht : TouchS T x y) (hT : ∀ g, T g → w0.heap.size ≤ g) (hne : ∀ p ∈ hs, ¬ T p.1) (hnl : ∀ g ∈ ls, ¬ T g) : Mem w0 hs ls y :=
  ⟨h.1.trans (ht.low w0.heap.size h.1.size hT), fun p hp => ht.holds (h.2.1 p hp) (hne p hp), fun g hg => ⟨Nat.lt_of_lt_of_le (h.2.2 g hg).1 ht.size, ht.loose (h.2.2 g hg).2 (h.2.2 g hg).1 (hnl g hg)⟩⟩
end Go.Proofs.YtkpbfocnokbmiaaGreat
namespace Go.Proofs.YtkpbfocnokbmiaaGreat
open Go.RowKit
set_option maxRecDepth 20000
namespace M
/-- What an order does to a right book, as the model goes about it. -/
def ordS (b : Bk) (o : Or) : Bk × Rp := match b.2[laFind b.2 o.client]? with
  | some x => if o.seq = x.seq then (b, (x.code, x.page)) else if o.seq < x.seq then (b, (6, nilB)) else (((does b.1 o.deed).1, b.2.set (laFind b.2 o.client) ⟨o.client, o.seq, (does b.1 o.deed).2.1, (does b.1 o.deed).2.2⟩), (does b.1 o.deed).2)
  | none => (((does b.1 o.deed).1, putLa b.2 (laPlace b.2 o.client) ⟨o.client, o.seq, (does b.1 o.deed).2.1, (does b.1 o.deed).2.2⟩), (does b.1 o.deed).2)
theorem find_at_place {l : List La} {c : Int} (h : laAt l c = true) : laFind l c = laPlace l c := by
  obtain ⟨hk, hc⟩ := laAt_lt h
  refine (List.findIdx_eq hk).2 ⟨hc, fun j hj => ?_⟩
  have h1 : isGe c (l[j]'(by omega)) = false := by
    have := List.not_of_lt_findIdx (xs := l) (p := isGe c) hj
    simpa using this
  simp only [isGe, decide_eq_false_iff_not] at h1
  simp only [isCl, beq_eq_false_iff_ne]
  omega
theorem find_none {l : List La} {c : Int} (hr : grises laLt l = true) (h : laAt l c = false) : laFind l c = l.length := by
  refine List.findIdx_eq_length.2 fun x hx => ?_
  obtain ⟨i, hi, rfl⟩ := List.mem_iff_getElem.1 hx
  rcases hc : isCl c l[i] with _ | _
  · rfl
  · have hc' : l[i].client = c := by simpa [isCl] using hc
    have hge : isGe c l[i] = true := by simp [isGe, hc']
    have hp : laPlace l c ≤ i := by
      rcases Nat.lt_or_ge i (laPlace l c) with h' | h'
      · have := List.not_of_lt_findIdx (xs := l) (p := isGe c) h'
        simp [hge] at this
      · exact h'
    have hpl : laPlace l c < l.length := by omega
    have hpc := laAt_not h hpl
    have hpc' : l[laPlace l c].client ≠ c := by simpa using hpc
    have hpg : isGe c l[laPlace l c] = true := List.findIdx_getElem (w := hpl)
    have hpg' : c ≤ l[laPlace l c].client := by simpa [isGe] using hpg
    by_cases e : laPlace l c = i
    · exact absurd (by simp only [e]; exact hc') hpc'
    · have := rises_la hr i (laPlace l c) (by omega) hi
      omega
theorem does_kept {l : List Wk} {d : Dd} (h : sfOk l = true) : does l d = keptD l d := by
  unfold does keptD
  rw [if_pos h]
theorem putLa_at {l : List La} {k : Nat} (hk : k ≤ l.length) (x : La) : ∃ h : k < (putLa l k x).length, (putLa l k x)[k] = x := by
  have h2 : (putLa l k x)[k]? = some x := by
    unfold putLa
    rw [List.getElem?_append_right (by simp; omega)]
    have : k - (l.take k).length = 0 := by simp; omega
    rw [this]; rfl
  exact List.getElem?_eq_some_iff.1 h2
theorem putLa_set {l : List La} {k : Nat} (hk : k ≤ l.length) (x y : La) : (putLa l k x).set k y = putLa l k y := by
  unfold putLa
  rw [List.set_append_right _ _ (by simp; omega)]
  have : k - (l.take k).length = 0 := by simp; omega
  rw [this, List.set_cons_zero]
theorem ordS_eq {b : Bk} {o : Or} (hb : bkOk b.1 b.2 = true) (ho : orderOk o = true) : ordS b o = ordI b o := by
  simp only [bkOk, lasOk, Bool.and_eq_true] at hb
  have hr := hb.2.2
  have hsq : 1 ≤ o.seq := by
    simp only [orderOk, Bool.and_eq_true, inI] at ho
    simp at ho
    omega
  unfold ordI
  rw [if_pos ho]
  unfold ordS
  rw [does_kept hb.1]
  rcases ha : laAt b.2 o.client with _ | _
  · rw [find_none hr ha, List.getElem?_eq_none (Nat.le_refl _)]
    have hf : laFor b.2 o.client = putLa b.2 (laPlace b.2 o.client) ⟨o.client, 0, 0, nilB⟩ := by unfold laFor; rw [ha]; rfl
    rw [hf]
    obtain ⟨h1, h2⟩ := putLa_at (laPlace_le b.2 o.client) ⟨o.client, 0, 0, nilB⟩
    rw [ordT_new (b := (b.1, putLa b.2 (laPlace b.2 o.client) ⟨o.client, 0, 0, nilB⟩)) h1 (by simp only [h2]; omega)]
    simp only [h2]
    rw [putLa_set (laPlace_le _ _)]
    rfl
  · have hf : laFor b.2 o.client = b.2 := by unfold laFor; rw [ha]; rfl
    obtain ⟨hk, hc⟩ := laAt_lt ha
    have hc' : b.2[laPlace b.2 o.client].client = o.client := by simpa using hc
    rw [hf, find_at_place ha, List.getElem?_eq_getElem hk]
    rcases Int.lt_trichotomy o.seq b.2[laPlace b.2 o.client].seq with h | h | h
    · rw [ordT_old (b := (b.1, b.2)) hk h]
      simp only
      rw [if_neg (by omega), if_pos h]
    · rw [ordT_same (b := (b.1, b.2)) hk h]
      simp only
      rw [if_pos h]
    · rw [ordT_new (b := (b.1, b.2)) hk h]
      simp only
      rw [if_neg (by omega), if_neg (by omega)]
      simp only [laSet, hc']
end M
end Go.Proofs.YtkpbfocnokbmiaaGreat
namespace Go.Proofs.YtkpbfocnokbmiaaGreat
open Go.RowKit
set_option maxRecDepth 20000
namespace M
theorem rises_of {l : List La} (h : ∀ (i : Nat) (hi : i + 1 < l.length), l[i].client < l[i + 1].client) : grises laLt l = true :=
  (grises_iff laLt l).2 fun i hi => by simpa [laLt] using h i hi
theorem lasOk_mk {l : List La} (h1 : ∀ x ∈ l, laOk x = true) (h2 : ∀ (i : Nat) (hi : i + 1 < l.length), l[i].client < l[i + 1].client) : lasOk l = true := by
  simp only [lasOk, Bool.and_eq_true]
  exact ⟨List.all_eq_true.2 h1, rises_of h2⟩
theorem lasOk_step {l : List La} (h : lasOk l = true) {i : Nat} (hi : i + 1 < l.length) : l[i].client < l[i + 1].client := by
  simp only [lasOk, Bool.and_eq_true] at h
  exact rises_la h.2 (i + 1) i (by omega) hi
theorem lasOk_all {l : List La} (h : lasOk l = true) : ∀ x ∈ l, laOk x = true := by
  simp only [lasOk, Bool.and_eq_true] at h
  exact List.all_eq_true.1 h.1
theorem lasOk_set {l : List La} (h : lasOk l = true) {k : Nat} (hk : k < l.length) {x : La} (hx : laOk x = true) (hc : x.client = l[k].client) : lasOk (l.set k x) = true := by
  refine lasOk_mk (fun y hy => ?_) (fun i hi => ?_)
  · rcases List.mem_or_eq_of_mem_set hy with hy | rfl
    · exact lasOk_all h y hy
    · exact hx
  · rw [List.length_set] at hi
    have hs := lasOk_step h hi
    rw [List.getElem_set, List.getElem_set]
    by_cases e1 : k = i
    · subst e1
      rw [if_pos rfl, if_neg (by omega), hc]
      exact hs
    · rw [if_neg e1]
      by_cases e2 : k = i + 1
      · subst e2
        rw [if_pos rfl, hc]
        exact hs
      · rw [if_neg e2]
        exact hs
theorem lasOk_put {l : List La} (h : lasOk l = true) {x : La} (hx : laOk x = true) (hn : laAt l x.client = false) : lasOk (putLa l (laPlace l x.client) x) = true := by
  have hle := laPlace_le l x.client
  have hlo : ∀ (i : Nat) (hi : i < laPlace l x.client), (l[i]'(by omega)).client < x.client := fun i hi => by
    have := List.not_of_lt_findIdx (xs := l) (p := isGe x.client) hi
    simp only [isGe, decide_eq_false_iff_not] at this
    omega
  have hhi : ∀ (hk : laPlace l x.client < l.length), x.client < l[laPlace l x.client].client := fun hk => by
    have h1 : isGe x.client l[laPlace l x.client] = true := List.findIdx_getElem (w := hk)
    have h2 := laAt_not hn hk
    simp only [isGe, decide_eq_true_eq] at h1
    have h2' : l[laPlace l x.client].client ≠ x.client := by simpa using h2
    omega
  obtain ⟨k, hk⟩ : ∃ k, laPlace l x.client = k := ⟨_, rfl⟩
  simp only [hk] at hle hlo hhi ⊢
  have hlen : (putLa l k x).length = l.length + 1 := putLa_len l k x hle
  have g1 : ∀ (i : Nat) (hi : i < k) (h' : i < (putLa l k x).length), (putLa l k x)[i] = l[i]'(by omega) := fun i hi h' => by
    have : (putLa l k x)[i]? = some (l[i]'(by omega)) := by
      unfold putLa
      rw [List.getElem?_append_left (by simp; omega), List.getElem?_take, if_pos hi, List.getElem?_eq_getElem]
    exact (List.getElem?_eq_some_iff.1 this).2
  have g2 : ∀ (h' : k < (putLa l k x).length), (putLa l k x)[k] = x := fun h' => (putLa_at hle x).2
  have g3 : ∀ (i : Nat) (hi : k < i) (h' : i < (putLa l k x).length), (putLa l k x)[i] = l[i - 1]'(by omega) := fun i hi h' => by
    have : (putLa l k x)[i]? = some (l[i - 1]'(by omega)) := by
      unfold putLa
      rw [List.getElem?_append_right (by simp; omega)]
      have e : i - (l.take k).length = (i - k - 1) + 1 := by rw [List.length_take, Nat.min_eq_left hle]; omega
      rw [e, List.getElem?_cons_succ, List.getElem?_drop, show k + (i - k - 1) = i - 1 by omega, List.getElem?_eq_getElem]
    exact (List.getElem?_eq_some_iff.1 this).2
  refine lasOk_mk (fun y hy => ?_) (fun i hi => ?_)
  · unfold putLa at hy
    rcases List.mem_append.1 hy with hy | hy
    · exact lasOk_all h y (List.mem_of_mem_take hy)
    · rcases List.mem_cons.1 hy with rfl | hy
      · exact hx
      · exact lasOk_all h y (List.mem_of_mem_drop hy)
  · rw [hlen] at hi
    rcases Nat.lt_trichotomy (i + 1) k with h1 | h1 | h1
    · rw [g1 i (by omega) (by omega), g1 (i + 1) h1 (by omega)]
      exact lasOk_step h (by omega)
    · rw [g1 i (by omega) (by omega)]
      simp only [h1]
      rw [g2 (by omega)]
      exact hlo i (by omega)
    · rcases Nat.lt_or_ge k i with h2 | h2
      · rw [g3 i h2 (by omega), g3 (i + 1) (by omega) (by omega)]
        have := lasOk_step h (i := i - 1) (by omega)
        simp only [show i - 1 + 1 = i by omega] at this
        exact this
      · have e : i = k := by omega
        subst e
        rw [g2 (by omega), g3 (i + 1) (by omega) (by omega)]
        exact hhi (by omega)
theorem ordS_ok {b : Bk} {o : Or} (hb : bkOk b.1 b.2 = true) (ho : orderOk o = true) : bkOk (ordS b o).1.1 (ordS b o).1.2 = true := by
  have hb' := hb
  simp only [bkOk, Bool.and_eq_true] at hb'
  have hx : laOk ⟨o.client, o.seq, (does b.1 o.deed).2.1, (does b.1 o.deed).2.2⟩ = true := by
    simp only [orderOk, Bool.and_eq_true] at ho
    simp only [laOk, Bool.and_eq_true]
    exact ho.1
  have hd : sfOk (does b.1 o.deed).1 = true := by rw [does_kept hb'.1]; exact keptD_ok hb'.1
  have hr : grises laLt b.2 = true := by
    have h := hb'.2
    simp only [lasOk, Bool.and_eq_true] at h
    exact h.2
  unfold ordS
  split
  · rename_i x hxk
    split
    · exact hb
    · split
      · exact hb
      · obtain ⟨hk, hxe⟩ := List.getElem?_eq_some_iff.1 hxk
        simp only [bkOk, Bool.and_eq_true]
        refine ⟨hd, lasOk_set hb'.2 hk hx ?_⟩
        have : isCl o.client b.2[laFind b.2 o.client] = true := List.findIdx_getElem (w := hk)
        simp only [isCl, beq_iff_eq] at this
        exact this.symm
  · rename_i hxk
    simp only [bkOk, Bool.and_eq_true]
    refine ⟨hd, lasOk_put hb'.2 hx ?_⟩
    rcases ha : laAt b.2 o.client with _ | _
    · rfl
    · obtain ⟨hk, -⟩ := laAt_lt ha
      rw [find_at_place ha, List.getElem?_eq_getElem hk] at hxk
      cases hxk
theorem ordI_ok {b : Bk} {o : Or} (hb : bkOk b.1 b.2 = true) : bkOk (ordI b o).1.1 (ordI b o).1.2 = true := by
  rcases ho : orderOk o with _ | _
  · unfold ordI
    rw [if_neg (by simp [ho])]
    exact hb
  · rw [← ordS_eq hb ho]
    exact ordS_ok hb ho
/-- Many orders, one after the other. -/
def ordTo (b : Bk) (l : List Or) : Bk × List Rp := l.foldl (fun p o => ((ordI p.1 o).1, p.2 ++ [(ordI p.1 o).2])) (b, [])
end M
end Go.Proofs.YtkpbfocnokbmiaaGreat
namespace Go.Proofs.YtkpbfocnokbmiaaGreat
open Go.RowKit
set_option maxRecDepth 20000
namespace M
/-- The last of a client. -/
def laGet (l : List La) (c : Int) : Option La := l.find? (isCl c)
/-- Was this order, or a later one of its client, given, or is it none? -/
def given (b : Bk) (o : Or) : Prop := orderOk o = true → ∃ x, laGet b.2 o.client = some x ∧ o.seq ≤ x.seq
end M
end Go.Proofs.YtkpbfocnokbmiaaGreat
namespace Go.Proofs.YtkpbfocnokbmiaaGreat
open Go.RowKit
set_option maxRecDepth 20000
namespace M
def isName (n : ByteArray) (w : Wk) : Bool := w.name.toList == n.toList
def sfFind (l : List Wk) (n : ByteArray) : Nat := l.findIdx (isName n)
def sfFindInt (l : List Wk) (n : ByteArray) : Int := if sfFind l n < l.length then (sfFind l n : Int) else -1
theorem sfFindInt_pos {l : List Wk} {n : ByteArray} (h : sfFind l n < l.length) : sfFindInt l n = sfFind l n := if_pos h
theorem sfFindInt_neg {l : List Wk} {n : ByteArray} (h : sfFind l n = l.length) : sfFindInt l n = -1 := if_neg (by omega)
end M

set_option maxHeartbeats 1000000 in
theorem l5Find_any (A : Option Addr) (l : List Wr) (cap : Nat) (name : ByteArray) (w : World) (hl : Wks w A l) (hlen : l.length ≤ 1048576) :
    Calls Tryz.prog 133 #[.slice A l.length cap, .string name] w fun r w' => r = .returned (.int .i64 (M.sfFindInt (l.map Wr.wk) name)) ∧ w = w' := by
  have HL := Lib.hid hl
  clear hl
  go_enter Tryz.func133, Tryz.ntmps133
  go_wp2
  go_loop [5] (fun i => ∃ j : Nat, i = .int .i64 j ∧ j ≤ l.length ∧ WNoneTo (fun r => M.isName name r.wk) l j) (fun i => l.length - (intOf i).toNat)
  case atStart => exact ⟨0, rfl, Nat.zero_le _, WNoneTo.zero _ l⟩
  case round =>
    obtain ⟨j, rfl, hj, hnone⟩ := hrel
    have HN := Lib.hid hnone
    clear hnone
    by_cases hlt : j < l.length
    · obtain ⟨b, o, hA, lb, c0, c1, c2, -⟩ := Wks_at HL.out hlt
      subst hA
      rcases hq : (l[j].name.toList == name.toList) with _ | _
      · have HQ : Hid ((fun r : Wr => M.isName name r.wk) l[j] = false) := Lib.hid hq
        go_wp2
        go_round
        case rel => exact ⟨j + 1, by go_num, by omega, HN.out.next hlt HQ.out⟩
        case measure => simp [intOf]; omega
      · have HE : Hid (M.sfFindInt (l.map Wr.wk) name = j) := Lib.hid (by
          have h1 : l.findIdx (fun r => M.isName name r.wk) = j := HN.out.hit hlt hq
          have h2 : M.sfFind (l.map Wr.wk) name = j := by unfold M.sfFind; rw [List.findIdx_map]; exact h1
          rw [M.sfFindInt_pos (by rw [h2]; simpa using hlt), h2])
        go_wp2
        go_ret
        exact ⟨ret_int HE.out.symm, rfl⟩
    · have hj' : j = l.length := by omega
      have HE : Hid (M.sfFindInt (l.map Wr.wk) name = -1) := Lib.hid (by
        have h1 : l.findIdx (fun r => M.isName name r.wk) = l.length := by
          have := HN.out
          rw [hj'] at this
          exact this.all
        have h2 : M.sfFind (l.map Wr.wk) name = (l.map Wr.wk).length := by unfold M.sfFind; rw [List.findIdx_map, List.length_map]; exact h1
        exact M.sfFindInt_neg h2)
      go_wp2
      go_ret
      exact ⟨ret_int HE.out.symm, rfl⟩
end Go.Proofs.YtkpbfocnokbmiaaGreat
namespace Go.Proofs.YtkpbfocnokbmiaaGreat
open Go.RowKit
namespace M
abbrev nmB (w : Wk) : List UInt8 := w.name.data.toList
def RiseN (l : List Wk) : Prop := l.Pairwise fun a b => bytesBefore (nmB a) (nmB b) = true
theorem riseN_of : ∀ {l : List Wk}, risesN l = true → RiseN l
  | [], _ => List.Pairwise.nil
  | [a], _ => List.pairwise_singleton _ _
  | a :: b :: l, h => by
    have h1 : nameLt a.name b.name = true ∧ risesN (b :: l) = true := by
      have h' : (nameLt a.name b.name && risesN (b :: l)) = true := h
      simpa using h'
    have ih := riseN_of (l := b :: l) h1.2
    have hab : bytesBefore (nmB a) (nmB b) = true := (before_name a.name b.name).trans h1.1
    refine List.pairwise_cons.2 ⟨fun x hx => ?_, ih⟩
    rcases List.mem_cons.1 hx with e | hx
    · rw [e]; exact hab
    · exact before_trans hab ((List.pairwise_cons.1 ih).1 x hx)
theorem sfOk_riseN {l : List Wk} (h : sfOk l = true) : RiseN l := by
  unfold sfOk at h
  simp only [Bool.and_eq_true] at h
  exact riseN_of h.2.2
/-- The first name that is behind. -/
def placeN (l : List Wk) (w : Wk) : Nat := l.findIdx fun x => bytesBefore (nmB w) (nmB x)
theorem insN_at (w : Wk) : ∀ l : List Wk, insN w l = l.take (placeN l w) ++ w :: l.drop (placeN l w)
  | [] => rfl
  | x :: l => by
    have ih := insN_at w l
    unfold insN placeN
    rw [List.findIdx_cons]
    by_cases h : bytesBefore (nmB w) (nmB x) = true
    · rw [if_pos h, h]; rfl
    · have h' : bytesBefore (nmB w) (nmB x) = false := by simpa using h
      rw [if_neg h, h', ih]
      rfl
theorem filter_new {l : List Wk} {w : Wk} (h : ∀ x ∈ l, nmB x ≠ nmB w) : (l.filter fun x => !(x.name.data.toList == w.name.data.toList)) = l :=
  List.filter_eq_self.2 fun x hx => by
    have := h x hx
    simpa using this
theorem putN_new {l : List Wk} {w : Wk} (h : ∀ x ∈ l, nmB x ≠ nmB w) : putN l w = l.take (placeN l w) ++ w :: l.drop (placeN l w) := by
  unfold putN
  rw [filter_new h, insN_at]
theorem putN_set : ∀ {l : List Wk} {w : Wk} (_ : RiseN l) {k : Nat} (hk : k < l.length) (_ : nmB l[k] = nmB w), putN l w = l.set k w
  | [], _, _, _, hk, _ => absurd hk (by simp)
  | x :: l, w, hr, 0, _, he => by
    have he' : nmB x = nmB w := he
    obtain ⟨h1, h2⟩ := List.pairwise_cons.1 hr
    have hf : (l.filter fun x => !(x.name.data.toList == w.name.data.toList)) = l := filter_new fun y hy e => by
      have := h1 y hy
      rw [e, ← he'] at this
      exact absurd (before_asymm this).2 (by simp)
    unfold putN
    rw [List.filter_cons, if_neg (by simpa using he'), hf, List.set_cons_zero]
    rcases l with _ | ⟨y, l⟩
    · rfl
    · unfold insN
      have := h1 y (by simp)
      rw [he'] at this
      rw [if_pos this]
  | x :: l, w, hr, k + 1, hk, he => by
    obtain ⟨h1, h2⟩ := List.pairwise_cons.1 hr
    have hk' : k < l.length := by simpa using hk
    have he' : nmB l[k] = nmB w := he
    have hxw : bytesBefore (nmB x) (nmB w) = true := by
      have := h1 l[k] (List.getElem_mem hk')
      rw [he'] at this
      exact this
    have ih := putN_set h2 hk' he'
    have hne : ¬ (nmB x = nmB w) := by
      have := (before_asymm hxw).2
      simpa using this
    unfold putN at ih ⊢
    rw [List.filter_cons, if_pos (by simpa using hne)]
    unfold insN
    rw [if_neg (by rw [(before_asymm hxw).1]; simp), ih, List.set_cons_succ]
theorem getN_find : ∀ (l : List Wk) (n : ByteArray), getN l n = l[l.findIdx fun x => x.name.data.toList == n.data.toList]?
  | [], _ => rfl
  | x :: l, n => by
    have ih := getN_find l n
    unfold getN at ih ⊢
    rw [List.find?_cons, List.findIdx_cons]
    rcases h : (x.name.data.toList == n.data.toList) with _ | _
    · simpa using ih
    · rfl
/-- Where all names are others', the names ahead are those that are not behind. -/
theorem place_count : ∀ {l : List Wk} {w : Wk} (_ : RiseN l) (_ : ∀ x ∈ l, nmB x ≠ nmB w) {k : Nat} (hk : k ≤ l.length) (_ : ∀ i (hi : i < k), bytesBefore (nmB (l[i]'(by omega))) (nmB w) = true) (_ : ∀ h : k < l.length, bytesBefore (nmB l[k]) (nmB w) = false), placeN l w = k
  | [], _, _, _, k, hk, _, _ => by
    have : k = 0 := by simpa using hk
    subst this
    rfl
  | x :: l, w, hr, hne, 0, _, _, h0 => by
    have h := h0 (by simp)
    have hx : bytesBefore (nmB w) (nmB x) = true := by
      rcases Go.WideAt.bytes_total _ _ (hne x (by simp)) with h' | h'
      · exact absurd h' (by rw [show bytesBefore (nmB x) (nmB w) = false from h]; simp)
      · exact h'
    unfold placeN
    rw [List.findIdx_cons, hx]
    rfl
  | x :: l, w, hr, hne, k + 1, hk, hlt, h0 => by
    obtain ⟨h1, h2⟩ := List.pairwise_cons.1 hr
    have hx := hlt 0 (by omega)
    have hx' : bytesBefore (nmB w) (nmB x) = false := (before_asymm hx).1
    have ih := place_count h2 (fun y hy => hne y (List.mem_cons_of_mem _ hy)) (k := k) (by simpa using hk) (fun i hi => by simpa using hlt (i + 1) (by omega)) (fun h => h0 (Nat.succ_lt_succ h))
    unfold placeN at ih ⊢
    rw [List.findIdx_cons, hx', ih]
    rfl
end M
end Go.Proofs.YtkpbfocnokbmiaaGreat
