/- Proved, in parts: Proved: the program's bookOf lays a book into memory of its own, and written reads it back. Condition: texts and lists of at most a million. Proved: the program's Ordered answers a plain Lean function, its book in new memory; nothing that was there is written. Condition: texts and lists of at most a million. Proved: what the model does with an order is what the program does, where the book and the order are right. No program is named here. Condition: those two. Proved: what an order leaves of a right book is a right book; plain facts on many orders. No program is named here; no condition. Proved: plain facts on what an entry does to a book, and many of them; no program is named here; no condition. Proved: where the laws' copy of an order leaves the world. No condition. Proved: the laws' own test tells a deed like itself; it writes nothing that was there. No condition. Proved: the laws' helpers on one order (its size, its copy, its likeness) answer plain Lean functions; they write nothing that was there. Condition: texts of at most a million where the size is told. -/
import Derived.Test.YtblcgbgcccjpcaaGreatPart29
import Derived.Test.YtblcgbgcccjpcaaGreatPart26
import Derived.Test.YtblcgbgcccjpcaaGreatPart07
import Derived.Test.YtblcgbgcccjpcaaGreatPart04
import Derived.Test.YtblcgbgcccjpcaaGreatPart22
namespace Go.Proofs.YtblcgbgcccjpcaaGreat
open Go.RowKit
set_option maxRecDepth 20000
theorem results_bookOf (a b : Value) (R : Nat) (W : World) (tmps : Array Value) (h2 : tmps.getD 2 undef = .pointer (some ⟨R, 0, none⟩)) (hW : Holds W R #[a, b]) :
    (results Tryz.f69 tmps).run Tryz.prog W = .ok (.agg #[a, b]) W := by
  obtain ⟨q0, q1⟩ := hW.two
  simp at h2
  simp [results, Tryz.results69, go_sem, h2, q0, q1]
theorem results_written (a b : Value) (R : Nat) (W : World) (tmps : Array Value) (h2 : tmps.getD 2 undef = .pointer (some ⟨R, 0, none⟩)) (hW : Holds W R #[a, b]) :
    (results Tryz.f71 tmps).run Tryz.prog W = .ok (.agg #[a, b]) W := by
  obtain ⟨q0, q1⟩ := hW.two
  simp at h2
  simp [results, Tryz.results71, go_sem, h2, q0, q1]
/-- What bookOf answers. -/
def BkMade (w : World) (l : List Wr) (m : List M.La) (e : Ending) (w' : World) : Prop :=
  ∃ b rs v, e = .returned (.agg #[.map (some b), v]) ∧ w.heap.size ≤ b ∧ rs.map Wr.wk = l.map Wr.wk ∧ ShM w' b l.length rs ∧ RsOwn (b + 1) w' rs ∧ b + 1 ≤ w'.heap.size ∧ LasOwn w.heap.size w' v m ∧ (∀ k, v.ownBlock = some k → b < k ∧ ∀ r ∈ rs, ∀ j, r.sl.ownBlock = some j → j < k) ∧ Below w.heap.size w w'
set_option maxHeartbeats 4000000 in
theorem bookOf_any (A : Option Addr) (l : List Wr) (cap : Nat) (A2 : Option Addr) (m : List M.La) (cb : Nat) (w : World) (hl : Wks w A l) (hr : RiseW l) (hlen : l.length ≤ 1048576) (hp : WrsIn 1048576 l) (hm : Las w A2 m) (hml : m.length ≤ 1048576) (hmp : ∀ c ∈ m, laIn 1048576 c) :
    Calls Tryz.prog 69 #[bkV A l.length cap A2 m.length cb] w (BkMade w l m) := by
  have HL := Lib.hid hl
  have HR := Lib.hid hr
  have HP := Lib.hid hp
  have HM := Lib.hid hm
  have HMP := Lib.hid hmp
  clear hl hr hp hm hmp
  have hM := ((Mem.start w).new (bkA A l.length cap A2 m.length cb) 27).new #[.map none, .slice none 0 0] 126
  simp only [World.size_alloc] at hM
  go_enter Tryz.func69, Tryz.ntmps69
  go_wp2_with fail
  generalize hx0 : (w.alloc (.cells (bkA A l.length cap A2 m.length cb) 27)).alloc (.cells #[.map none, .slice none 0 0] 126) = x0 at hM ⊢
  have HM0 := Lib.hid hM
  have HST : Hid (Holds x0 w.heap.size (bkA A l.length cap A2 m.length cb) ∧ Holds x0 (w.heap.size + 1) #[.map none, .slice none 0 0] ∧ Loose x0 (w.heap.size + 1)) := Lib.hid ⟨hM.get w.heap.size _ (by simp), hM.get (w.heap.size + 1) _ (by simp), hM.loose (w.heap.size + 1) (by simp)⟩
  clear hM hx0
  refine wp_region_fin 7 (fun x => Holds x w.heap.size (bkA A l.length cap A2 m.length cb) ∧ Holds x (w.heap.size + 1) #[.map none, .slice none 0 0] ∧ Loose x (w.heap.size + 1)) [(0, true), (1, true), (3, true), (4, true), (2, false), (5, false), (6, true), (7, false)] (by kernel_rfl) (by kernel_rfl) (fun _ _ _ _ _ h => h) (by kernel_rfl) (by decide) HST.out ?_
  intro hHeld
  repeat (first
    | (refine seqF_reads (by simp only [List.getElem?_toArray, List.getElem?_cons_succ, List.getElem?_cons_zero]; first | done | rfl) (by rfl) ?_; apply Exists.intro; apply And.intro; (focus (intro w hSw; (try (replace hSw := hSw (by decide +kernel))); obtain ⟨k0, k1⟩ := hSw.1.two; go_simp; (try with_reducible rfl); done)); (try simp only [Act.put, List.setIfInBounds_toArray, List.set_cons_zero, List.set_cons_succ]))
    | (refine seqF_call (by simp only [List.getElem?_toArray, List.getElem?_cons_succ, List.getElem?_cons_zero]; first | done | rfl) (by rfl) (fun K hK => ?_) (by decide); go_simp; go_at_call 62; refine (shelfOf_any A l cap _ ((HL.out.below HM0.out.1).below (Below.refl _ _).drew) HR.out hlen HP.out).mono ?_; rintro r w1 ⟨rfl, rs, hrs, hmap, hown, b1⟩; go_simp; refine hK.out _ _ _ (fun _ h => h) ⟨hHeld.1.below b1, hHeld.2.1.below b1, hHeld.2.2.below hHeld.2.1.1 b1⟩ ?_; clear hK hHeld; intro hHeld; (have HRS := Lib.hid hrs); (have HMAP := Lib.hid hmap); (have HOWN := Lib.hid hown); (have HB1 := Lib.hid b1); clear hrs hmap hown b1; (try simp only [Act.put, List.setIfInBounds_toArray, List.set_cons_zero, List.set_cons_succ]))
    | (refine seqF_call (by simp only [List.getElem?_toArray, List.getElem?_cons_succ, List.getElem?_cons_zero]; first | done | rfl) (by rfl) (fun K hK => ?_) (by decide); go_simp; go_at_call 124; refine (each_la A2 m cb _ (((HM.out.below HM0.out.1).below (Below.refl _ _).drew).below HB1.out) hml HMP.out).mono ?_; rintro r w1 ⟨A3, c3, rfl, o3, b1⟩; go_simp; refine hK.out _ _ _ (fun _ h => h) ⟨hHeld.1.below b1, hHeld.2.1.below b1, hHeld.2.2.below hHeld.2.1.1 b1⟩ ?_; clear hK hHeld; intro hHeld; (have HO3 := Lib.hid o3); (have HB3 := Lib.hid b1); clear o3 b1; (try simp only [Act.put, List.setIfInBounds_toArray, List.set_cons_zero, List.set_cons_succ]))
    | (refine seqF_last (by simp only [List.getElem?_toArray, List.getElem?_cons_succ, List.getElem?_cons_zero]; first | done | rfl) (by rfl) (fun K hK => ?_); (have hD := hHeld.2); (obtain ⟨q0, q1⟩ := hD.1.two); (have y0 := hD.2 0); (have y1 := hD.2 1); go_simp; refine hK.out _ _ ?_; clear hK; (have HHE := Lib.hid hHeld); clear hHeld hD q0 q1 y0 y1; (try simp only [Act.put, List.setIfInBounds_toArray, List.set_cons_zero, List.set_cons_succ])))
  refine seqF_end ?_
  go_wp2
  have hx0 : w.heap.size + 2 ≤ x0.heap.size := HST.out.2.1.1
  have hlt := HMAP.out.lt
  have hdr : x0.drew.heap.size = x0.heap.size := rfl
  have hne : ∀ r ∈ rs, r.sl.ownBlock ≠ some (w.heap.size + 1) := fun r hr e => by have := ((HOWN.out.1 r hr).lt _ e).1; omega
  have hblk : ∀ k, (Value.slice A3 m.length c3).ownBlock = some k → x0.heap.size < k ∧ ∀ r ∈ rs, ∀ j, r.sl.ownBlock = some j → j < k := fun k e => by
    have h1 := (World.ownsRow.lt HO3.out k e).1
    exact ⟨by omega, fun r hr j e' => by have := ((HOWN.out.1 r hr).lt _ e').2; omega⟩
  have bb := next (next (next HM0.out.1 (Below.refl _ _).drew) HB1.out) HB3.out
  refine bodyPost_ret (results_bookOf (.map (some x0.heap.size)) (.slice A3 m.length c3) (w.heap.size + 1) _ _ rfl ?_) rfl ⟨x0.heap.size, rs, .slice A3 m.length c3, rfl, by omega, HRS.out, ?_, ?_, ?_, ?_, hblk, ?_⟩
  · simpa using ((HHE.out.2.1.putM 0 (.map (some x0.heap.size))).putM 1 (.slice A3 m.length c3))
  · exact ShM.set (ShM.set (HMAP.out.kept (grown_lw HB3.out none) (by simp)) (by omega)) (by omega)
  · exact ((HOWN.out.below HB3.out).set hne 0 _).set hne 1 _
  · have := HB3.out.size
    simp
    omega
  · refine LasOwn.mono (own_off (own_off HO3.out (fun e => ?_) 0 _) (fun e => ?_) 1 _) (by have := HB1.out.size; omega)
    · have := (hblk _ e).1; omega
    · have := (hblk _ e).1; omega
  · exact (bb.setCell (by show w.heap.size ≤ w.heap.size + 1; omega) _).setCell (by show w.heap.size ≤ w.heap.size + 1; omega) _

/-- What written answers. -/
def BkRead (w : World) (B : Nat) (v : Value) (rs : List Wr) (e : Ending) (w' : World) : Prop :=
  ∃ A' c', e = .returned (.agg #[.slice A' rs.length c', v]) ∧ SfOwn B w' (.slice A' rs.length c') rs ∧ (∀ k, (Value.slice A' rs.length c').ownBlock = some k → w.heap.size ≤ k) ∧ Below w.heap.size w w'
set_option maxHeartbeats 4000000 in
theorem written_any (B b n : Nat) (rs : List Wr) (A4 : Option Addr) (n4 c4 : Nat) (w : World) (hm : ShM w b n rs) (hr : RiseW rs) (ho : RsOwn B w rs) (hB : B ≤ w.heap.size) (hlen : rs.length ≤ 1000) (hnm : ∀ r ∈ rs, r.name.size ≤ 1048576) :
    Calls Tryz.prog 71 #[.agg #[.map (some b), .slice A4 n4 c4]] w (BkRead w B (.slice A4 n4 c4) rs) := by
  have HO := Lib.hid ho
  have HR := Lib.hid hr
  have HN := Lib.hid hnm
  have HMP := Lib.hid hm
  clear ho hr hnm hm
  have hM := ((Mem.start w).new #[.map (some b), .slice A4 n4 c4] 126).new (bkA none 0 0 none 0 0) 27
  simp only [World.size_alloc] at hM
  go_enter Tryz.func71, Tryz.ntmps71
  go_wp2_with fail
  generalize hx0 : (w.alloc (.cells #[.map (some b), .slice A4 n4 c4] 126)).alloc (.cells (bkA none 0 0 none 0 0) 27) = x0 at hM ⊢
  have HM0 := Lib.hid hM
  have HB0 := Lib.hid (hM.1.trans ((Below.refl x0.heap.size x0).drew.mono hM.1.size))
  have HST : Hid (Holds x0 w.heap.size #[.map (some b), .slice A4 n4 c4] ∧ Holds x0 (w.heap.size + 1) (bkA none 0 0 none 0 0) ∧ Loose x0 (w.heap.size + 1)) := Lib.hid ⟨hM.get w.heap.size _ (by simp), hM.get (w.heap.size + 1) _ (by simp), hM.loose (w.heap.size + 1) (by simp)⟩
  clear hM hx0
  refine wp_region_fin 6 (fun x => Holds x w.heap.size #[.map (some b), .slice A4 n4 c4] ∧ Holds x (w.heap.size + 1) (bkA none 0 0 none 0 0) ∧ Loose x (w.heap.size + 1)) [(0, true), (1, true), (3, true), (4, true), (2, false), (5, true), (6, false)] (by kernel_rfl) (by kernel_rfl) (fun _ _ _ _ _ h => h) (by kernel_rfl) (by decide) HST.out ?_
  intro hHeld
  repeat (first
    | (refine seqF_reads (by simp only [List.getElem?_toArray, List.getElem?_cons_succ, List.getElem?_cons_zero]; first | done | rfl) (by rfl) ?_; apply Exists.intro; apply And.intro; (focus (intro w hSw; (try (replace hSw := hSw (by decide +kernel))); obtain ⟨k0, k1⟩ := hSw.1.two; go_simp; (try with_reducible rfl); done)); (try simp only [Act.put, List.setIfInBounds_toArray, List.set_cons_zero, List.set_cons_succ]))
    | (refine seqF_call (by simp only [List.getElem?_toArray, List.getElem?_cons_succ, List.getElem?_cons_zero]; first | done | rfl) (by rfl) (fun K hK => ?_) (by decide); go_simp; go_at_call 64; refine (inOrder_at b n B rs _ (HMP.out.kept (grown_lw HB0.out none) (by simp)) HR.out (HO.out.below HB0.out) (Nat.le_trans hB HB0.out.size) hlen HN.out).mono ?_; rintro r w1 ⟨v3, rfl, hs, hnew, b1⟩; (obtain ⟨A5, c5, rfl, -, -⟩ := hs.open); go_simp; refine hK.out _ _ _ (fun _ h => h) ⟨hHeld.1.below b1, hHeld.2.1.below b1, hHeld.2.2.below hHeld.2.1.1 b1⟩ ?_; clear hK hHeld; intro hHeld; (have HS := Lib.hid hs); (have HNEW := Lib.hid hnew); (have HB1 := Lib.hid b1); clear hs hnew b1; (try simp only [Act.put, List.setIfInBounds_toArray, List.set_cons_zero, List.set_cons_succ]))
    | (refine seqF_last (by simp only [List.getElem?_toArray, List.getElem?_cons_succ, List.getElem?_cons_zero]; first | done | rfl) (by rfl) (fun K hK => ?_); (have hD := hHeld.2); (obtain ⟨q0, q1⟩ := hD.1.two); (have y0 := hD.2 0); (have y1 := hD.2 1); go_simp; refine hK.out _ _ ?_; clear hK; (have HHE := Lib.hid hHeld); clear hHeld hD q0 q1 y0 y1; (try simp only [Act.put, List.setIfInBounds_toArray, List.set_cons_zero, List.set_cons_succ])))
  refine seqF_end ?_
  go_wp2
  have hx0 : w.heap.size + 2 ≤ x0.heap.size := HST.out.2.1.1
  have hnb : ∀ g, blocksS (.slice A5 rs.length c5) rs g → g ≠ w.heap.size + 1 := fun g hg e => by
    rcases hg with hg | ⟨r, hr, hg⟩
    · have h1 : x0.heap.size ≤ g := HNEW.out g hg
      omega
    · have := ((HO.out.1 r hr).lt g hg).2; omega
  refine bodyPost_ret (results_written (.slice A5 rs.length c5) (.slice A4 n4 c4) (w.heap.size + 1) _ _ rfl ?_) rfl ⟨A5, c5, rfl, ?_, fun k e => ?_, ?_⟩
  · simpa using ((HHE.out.2.1.putM 0 (.slice A5 rs.length c5)).putM 1 (.slice A4 n4 c4))
  · exact (HS.out.far (fun e => hnb _ (.inl e) rfl) (fun r hr e => hnb _ (.inr ⟨r, hr, e⟩) rfl) 0 _).far (fun e => hnb _ (.inl e) rfl) (fun r hr e => hnb _ (.inr ⟨r, hr, e⟩) rfl) 1 _
  · have h1 : x0.heap.size ≤ k := HNEW.out k e
    omega
  · exact ((next HB0.out HB1.out).setCell (by show w.heap.size ≤ w.heap.size + 1; omega) _).setCell (by show w.heap.size ≤ w.heap.size + 1; omega) _
end Go.Proofs.YtblcgbgcccjpcaaGreat
namespace Go.Proofs.YtblcgbgcccjpcaaGreat
open Go.RowKit
set_option maxRecDepth 20000
namespace M
def ordered (b : Bk) (o : Or) : Bk × Rp := if bkOk b.1 b.2 then ordI b o else (([], []), (7, nilB))
end M
/-- What Ordered answers. -/
def OrRet (w : World) (q : M.Bk × M.Rp) (e : Ending) (w' : World) : Prop :=
  ∃ v1 v2 rs', e = .returned (.tuple #[.agg #[v1, v2], rpV q.2.1 q.2.2]) ∧ SfOwn w.heap.size w' v1 rs' ∧ rs'.map Wr.wk = q.1.1 ∧ LasOwn w.heap.size w' v2 q.1.2 ∧ (∀ g, v2.ownBlock = some g → ¬ blocksS v1 rs' g) ∧ Below w.heap.size w w'
theorem Mem.touch {w0 : World} {hs : List (Nat × Array Value)} {ls : List Nat} {x y : World} {T : Nat → Prop} (h : Mem w0 hs ls x) (ht : TouchS T x y) (hT : ∀ g, T g → w0.heap.size ≤ g) (hne : ∀ p ∈ hs, ¬ T p.1) (hnl : ∀ g ∈ ls, ¬ T g) : Mem w0 hs ls y :=
  ⟨h.1.trans (ht.low w0.heap.size h.1.size hT), fun p hp => ht.holds (h.2.1 p hp) (hne p hp), fun g hg => ⟨Nat.lt_of_lt_of_le (h.2.2 g hg).1 ht.size, ht.loose (h.2.2 g hg).2 (h.2.2 g hg).1 (hnl g hg)⟩⟩
end Go.Proofs.YtblcgbgcccjpcaaGreat
namespace Go.Proofs.YtblcgbgcccjpcaaGreat
open Go.RowKit
set_option maxRecDepth 20000
namespace M
/-- What an order does to a right book, as the model goes about it. -/
def ordS (b : Bk) (o : Or) : Bk × Rp := match b.2[laFind b.2 o.client]? with
  | some x => if o.seq = x.seq then (b, (x.code, x.page)) else if o.seq < x.seq then (b, (6, nilB)) else (((does b.1 o.deed).1, b.2.set (laFind b.2 o.client) ⟨o.client, o.seq, (does b.1 o.deed).2.1, (does b.1 o.deed).2.2⟩), (does b.1 o.deed).2)
  | none => (((does b.1 o.deed).1, putLa b.2 (laPlace b.2 o.client) ⟨o.client, o.seq, (does b.1 o.deed).2.1, (does b.1 o.deed).2.2⟩), (does b.1 o.deed).2)
theorem find_at_place {l : List La} {c : Int} (h : laAt l c = true) : laFind l c = laPlace l c := by
  obtain ⟨hk, hc⟩ := laAt_lt h
  refine (List.findIdx_eq hk).2 ⟨hc, fun j hj => ?_⟩
  have h1 : isGe c (l[j]'(by omega)) = false := by
    have := List.not_of_lt_findIdx (xs := l) (p := isGe c) hj
    simpa using this
  simp only [isGe, decide_eq_false_iff_not] at h1
  simp only [isCl, beq_eq_false_iff_ne]
  omega
theorem find_none {l : List La} {c : Int} (hr : grises laLt l = true) (h : laAt l c = false) : laFind l c = l.length := by
  refine List.findIdx_eq_length.2 fun x hx => ?_
  obtain ⟨i, hi, rfl⟩ := List.mem_iff_getElem.1 hx
  rcases hc : isCl c l[i] with _ | _
  · rfl
  · have hc' : l[i].client = c := by simpa [isCl] using hc
    have hge : isGe c l[i] = true := by simp [isGe, hc']
    have hp : laPlace l c ≤ i := by
      rcases Nat.lt_or_ge i (laPlace l c) with h' | h'
      · have := List.not_of_lt_findIdx (xs := l) (p := isGe c) h'
        simp [hge] at this
      · exact h'
    have hpl : laPlace l c < l.length := by omega
    have hpc := laAt_not h hpl
    have hpc' : l[laPlace l c].client ≠ c := by simpa using hpc
    have hpg : isGe c l[laPlace l c] = true := List.findIdx_getElem (w := hpl)
    have hpg' : c ≤ l[laPlace l c].client := by simpa [isGe] using hpg
    by_cases e : laPlace l c = i
    · exact absurd (by simp only [e]; exact hc') hpc'
    · have := rises_la hr i (laPlace l c) (by omega) hi
      omega
theorem does_kept {l : List Wk} {d : Dd} (h : sfOk l = true) : does l d = keptD l d := by
  unfold does keptD
  rw [if_pos h]
theorem putLa_at {l : List La} {k : Nat} (hk : k ≤ l.length) (x : La) : ∃ h : k < (putLa l k x).length, (putLa l k x)[k] = x := by
  have h2 : (putLa l k x)[k]? = some x := by
    unfold putLa
    rw [List.getElem?_append_right (by simp; omega)]
    have : k - (l.take k).length = 0 := by simp; omega
    rw [this]; rfl
  exact List.getElem?_eq_some_iff.1 h2
theorem putLa_set {l : List La} {k : Nat} (hk : k ≤ l.length) (x y : La) : (putLa l k x).set k y = putLa l k y := by
  unfold putLa
  rw [List.set_append_right _ _ (by simp; omega)]
  have : k - (l.take k).length = 0 := by simp; omega
  rw [this, List.set_cons_zero]
theorem ordS_eq {b : Bk} {o : Or} (hb : bkOk b.1 b.2 = true) (ho : orderOk o = true) : ordS b o = ordI b o := by
  simp only [bkOk, lasOk, Bool.and_eq_true] at hb
  have hr := hb.2.2
  have hsq : 1 ≤ o.seq := by
    simp only [orderOk, Bool.and_eq_true, inI] at ho
    simp at ho
    omega
  unfold ordI
  rw [if_pos ho]
  unfold ordS
  rw [does_kept hb.1]
  rcases ha : laAt b.2 o.client with _ | _
  · rw [find_none hr ha, List.getElem?_eq_none (Nat.le_refl _)]
    have hf : laFor b.2 o.client = putLa b.2 (laPlace b.2 o.client) ⟨o.client, 0, 0, nilB⟩ := by unfold laFor; rw [ha]; rfl
    rw [hf]
    obtain ⟨h1, h2⟩ := putLa_at (laPlace_le b.2 o.client) ⟨o.client, 0, 0, nilB⟩
    rw [ordT_new (b := (b.1, putLa b.2 (laPlace b.2 o.client) ⟨o.client, 0, 0, nilB⟩)) h1 (by simp only [h2]; omega)]
    simp only [h2]
    rw [putLa_set (laPlace_le _ _)]
    rfl
  · have hf : laFor b.2 o.client = b.2 := by unfold laFor; rw [ha]; rfl
    obtain ⟨hk, hc⟩ := laAt_lt ha
    have hc' : b.2[laPlace b.2 o.client].client = o.client := by simpa using hc
    rw [hf, find_at_place ha, List.getElem?_eq_getElem hk]
    rcases Int.lt_trichotomy o.seq b.2[laPlace b.2 o.client].seq with h | h | h
    · rw [ordT_old (b := (b.1, b.2)) hk h]
      simp only
      rw [if_neg (by omega), if_pos h]
    · rw [ordT_same (b := (b.1, b.2)) hk h]
      simp only
      rw [if_pos h]
    · rw [ordT_new (b := (b.1, b.2)) hk h]
      simp only
      rw [if_neg (by omega), if_neg (by omega)]
      simp only [laSet, hc']
end M
end Go.Proofs.YtblcgbgcccjpcaaGreat
namespace Go.Proofs.YtblcgbgcccjpcaaGreat
open Go.RowKit
set_option maxRecDepth 20000
namespace M
theorem rises_of {l : List La} (h : ∀ (i : Nat) (hi : i + 1 < l.length), l[i].client < l[i + 1].client) : grises laLt l = true :=
  (grises_iff laLt l).2 fun i hi => by simpa [laLt] using h i hi
theorem lasOk_mk {l : List La} (h1 : ∀ x ∈ l, laOk x = true) (h2 : ∀ (i : Nat) (hi : i + 1 < l.length), l[i].client < l[i + 1].client) : lasOk l = true := by
  simp only [lasOk, Bool.and_eq_true]
  exact ⟨List.all_eq_true.2 h1, rises_of h2⟩
theorem lasOk_step {l : List La} (h : lasOk l = true) {i : Nat} (hi : i + 1 < l.length) : l[i].client < l[i + 1].client := by
  simp only [lasOk, Bool.and_eq_true] at h
  exact rises_la h.2 (i + 1) i (by omega) hi
theorem lasOk_all {l : List La} (h : lasOk l = true) : ∀ x ∈ l, laOk x = true := by
  simp only [lasOk, Bool.and_eq_true] at h
  exact List.all_eq_true.1 h.1
theorem lasOk_set {l : List La} (h : lasOk l = true) {k : Nat} (hk : k < l.length) {x : La} (hx : laOk x = true) (hc : x.client = l[k].client) : lasOk (l.set k x) = true := by
  refine lasOk_mk (fun y hy => ?_) (fun i hi => ?_)
  · rcases List.mem_or_eq_of_mem_set hy with hy | rfl
    · exact lasOk_all h y hy
    · exact hx
  · rw [List.length_set] at hi
    have hs := lasOk_step h hi
    rw [List.getElem_set, List.getElem_set]
    by_cases e1 : k = i
    · subst e1
      rw [if_pos rfl, if_neg (by omega), hc]
      exact hs
    · rw [if_neg e1]
      by_cases e2 : k = i + 1
      · subst e2
        rw [if_pos rfl, hc]
        exact hs
      · rw [if_neg e2]
        exact hs
theorem lasOk_put {l : List La} (h : lasOk l = true) {x : La} (hx : laOk x = true) (hn : laAt l x.client = false) : lasOk (putLa l (laPlace l x.client) x) = true := by
  have hle := laPlace_le l x.client
  have hlo : ∀ (i : Nat) (hi : i < laPlace l x.client), (l[i]'(by omega)).client < x.client := fun i hi => by
    have := List.not_of_lt_findIdx (xs := l) (p := isGe x.client) hi
    simp only [isGe, decide_eq_false_iff_not] at this
    omega
  have hhi : ∀ (hk : laPlace l x.client < l.length), x.client < l[laPlace l x.client].client := fun hk => by
    have h1 : isGe x.client l[laPlace l x.client] = true := List.findIdx_getElem (w := hk)
    have h2 := laAt_not hn hk
    simp only [isGe, decide_eq_true_eq] at h1
    have h2' : l[laPlace l x.client].client ≠ x.client := by simpa using h2
    omega
  obtain ⟨k, hk⟩ : ∃ k, laPlace l x.client = k := ⟨_, rfl⟩
  simp only [hk] at hle hlo hhi ⊢
  have hlen : (putLa l k x).length = l.length + 1 := putLa_len l k x hle
  have g1 : ∀ (i : Nat) (hi : i < k) (h' : i < (putLa l k x).length), (putLa l k x)[i] = l[i]'(by omega) := fun i hi h' => by
    have : (putLa l k x)[i]? = some (l[i]'(by omega)) := by
      unfold putLa
      rw [List.getElem?_append_left (by simp; omega), List.getElem?_take, if_pos hi, List.getElem?_eq_getElem]
    exact (List.getElem?_eq_some_iff.1 this).2
  have g2 : ∀ (h' : k < (putLa l k x).length), (putLa l k x)[k] = x := fun h' => (putLa_at hle x).2
  have g3 : ∀ (i : Nat) (hi : k < i) (h' : i < (putLa l k x).length), (putLa l k x)[i] = l[i - 1]'(by omega) := fun i hi h' => by
    have : (putLa l k x)[i]? = some (l[i - 1]'(by omega)) := by
      unfold putLa
      rw [List.getElem?_append_right (by simp; omega)]
      have e : i - (l.take k).length = (i - k - 1) + 1 := by rw [List.length_take, Nat.min_eq_left hle]; omega
      rw [e, List.getElem?_cons_succ, List.getElem?_drop, show k + (i - k - 1) = i - 1 by omega, List.getElem?_eq_getElem]
    exact (List.getElem?_eq_some_iff.1 this).2
  refine lasOk_mk (fun y hy => ?_) (fun i hi => ?_)
  · unfold putLa at hy
    rcases List.mem_append.1 hy with hy | hy
    · exact lasOk_all h y (List.mem_of_mem_take hy)
    · rcases List.mem_cons.1 hy with rfl | hy
      · exact hx
      · exact lasOk_all h y (List.mem_of_mem_drop hy)
  · rw [hlen] at hi
    rcases Nat.lt_trichotomy (i + 1) k with h1 | h1 | h1
    · rw [g1 i (by omega) (by omega), g1 (i + 1) h1 (by omega)]
      exact lasOk_step h (by omega)
    · rw [g1 i (by omega) (by omega)]
      simp only [h1]
      rw [g2 (by omega)]
      exact hlo i (by omega)
    · rcases Nat.lt_or_ge k i with h2 | h2
      · rw [g3 i h2 (by omega), g3 (i + 1) (by omega) (by omega)]
        have := lasOk_step h (i := i - 1) (by omega)
        simp only [show i - 1 + 1 = i by omega] at this
        exact this
      · have e : i = k := by omega
        subst e
        rw [g2 (by omega), g3 (i + 1) (by omega) (by omega)]
        exact hhi (by omega)
theorem ordS_ok {b : Bk} {o : Or} (hb : bkOk b.1 b.2 = true) (ho : orderOk o = true) : bkOk (ordS b o).1.1 (ordS b o).1.2 = true := by
  have hb' := hb
  simp only [bkOk, Bool.and_eq_true] at hb'
  have hx : laOk ⟨o.client, o.seq, (does b.1 o.deed).2.1, (does b.1 o.deed).2.2⟩ = true := by
    simp only [orderOk, Bool.and_eq_true] at ho
    simp only [laOk, Bool.and_eq_true]
    exact ho.1
  have hd : sfOk (does b.1 o.deed).1 = true := by rw [does_kept hb'.1]; exact keptD_ok hb'.1
  have hr : grises laLt b.2 = true := by
    have h := hb'.2
    simp only [lasOk, Bool.and_eq_true] at h
    exact h.2
  unfold ordS
  split
  · rename_i x hxk
    split
    · exact hb
    · split
      · exact hb
      · obtain ⟨hk, hxe⟩ := List.getElem?_eq_some_iff.1 hxk
        simp only [bkOk, Bool.and_eq_true]
        refine ⟨hd, lasOk_set hb'.2 hk hx ?_⟩
        have : isCl o.client b.2[laFind b.2 o.client] = true := List.findIdx_getElem (w := hk)
        simp only [isCl, beq_iff_eq] at this
        exact this.symm
  · rename_i hxk
    simp only [bkOk, Bool.and_eq_true]
    refine ⟨hd, lasOk_put hb'.2 hx ?_⟩
    rcases ha : laAt b.2 o.client with _ | _
    · rfl
    · obtain ⟨hk, -⟩ := laAt_lt ha
      rw [find_at_place ha, List.getElem?_eq_getElem hk] at hxk
      cases hxk
theorem ordI_ok {b : Bk} {o : Or} (hb : bkOk b.1 b.2 = true) : bkOk (ordI b o).1.1 (ordI b o).1.2 = true := by
  rcases ho : orderOk o with _ | _
  · unfold ordI
    rw [if_neg (by simp [ho])]
    exact hb
  · rw [← ordS_eq hb ho]
    exact ordS_ok hb ho
end M
end Go.Proofs.YtblcgbgcccjpcaaGreat
namespace Go.Proofs.YtblcgbgcccjpcaaGreat
open Go.RowKit
set_option maxRecDepth 20000
namespace M
def obeyI (b : Bk) (e : En) : Bk × Rp := if entryOk e then (if orEq e.order or0 then (b, (0, nilB)) else ordI b e.order) else (b, (7, nilB))
def obeyed (b : Bk) (e : En) : Bk × Rp := if bkOk b.1 b.2 then obeyI b e else (([], []), (7, nilB))
theorem obeyI_ok {b : Bk} {e : En} (hb : bkOk b.1 b.2 = true) : bkOk (obeyI b e).1.1 (obeyI b e).1.2 = true := by
  unfold obeyI
  split
  · split
    · exact hb
    · exact ordI_ok hb
  · exact hb
theorem obeyed_ok {b : Bk} {e : En} (hb : bkOk b.1 b.2 = true) : obeyed b e = obeyI b e := if_pos hb
/-- Many entries, one after the other. -/
def obeyTo (b : Bk) (l : List En) : Bk := l.foldl (fun b e => (obeyI b e).1) b
theorem obeyTo_ok {b : Bk} (hb : bkOk b.1 b.2 = true) (l : List En) : bkOk (obeyTo b l).1 (obeyTo b l).2 = true := by
  induction l generalizing b with
  | nil => exact hb
  | cons e l ih => exact ih (obeyI_ok (e := e) hb)
theorem obeyTo_succ (b : Bk) (l : List En) (j : Nat) (hj : j < l.length) : obeyTo b (l.take (j + 1)) = (obeyI (obeyTo b (l.take j)) l[j]).1 := by
  unfold obeyTo
  rw [List.take_succ_eq_append_getElem hj, List.foldl_append]
  rfl
def obeyedAll (b : Bk) (l : List En) : Bk := if bkOk b.1 b.2 && decide (l.length ≤ 400) then obeyTo b l else ([], [])
theorem obeyAll_ok (b : Bk) (l : List En) : sfOk (obeyedAll b l).1 = true ∧ (obeyedAll b l).2.length ≤ 5 := by
  unfold obeyedAll
  split
  · rename_i h
    have h2 := obeyTo_ok (by simp only [Bool.and_eq_true] at h; exact h.1) l
    simp only [bkOk, Bool.and_eq_true] at h2
    have := lasOk_len h2.2
    exact ⟨h2.1, by omega⟩
  · exact ⟨rfl, Nat.zero_le _⟩
end M
end Go.Proofs.YtblcgbgcccjpcaaGreat
namespace Go.Proofs.YtblcgbgcccjpcaaGreat
open Go.RowKit
set_option maxRecDepth 20000
/-- Where toOrder leaves the world. -/
abbrev orMade (o : M.Or) (w : World) : World := ddMade o.deed (((w.alloc (.cells (orC o) 91)).alloc (.cells (orC o) 41)).alloc (.cells (orC o) 41))
set_option maxHeartbeats 4000000 in
theorem toOrder_at (o : M.Or) (w : World) :
    Calls Tryz.prog 98 #[orV o] w fun r w' => r = .returned (orV o) ∧ w' = orMade o w := by
  go_enter Tryz.func98, Tryz.ntmps98
  go_wp2_with fail
  refine (toDeed_at o.deed _).mono ?_
  rintro r w1 ⟨rfl, rfl⟩
  go_wp2
  exact bodyPost_ret (v := orV o) (by simp [results, Tryz.results98, go_sem]) rfl ⟨rfl, rfl⟩
end Go.Proofs.YtblcgbgcccjpcaaGreat
namespace Go.Proofs.YtblcgbgcccjpcaaGreat
open Go.RowKit
set_option maxRecDepth 20000

set_option maxHeartbeats 1000000 in
theorem eqDeed_same (a : M.Dd) (w : World) :
    Calls Tryz.prog 177 #[ddV a, ddV a] w fun r w' => r = .returned (.bool true) ∧ Below w.heap.size w w' := by
  have h0 : (a.kind != a.kind) = false := by simp
  have h1 : (a.name.toList != a.name.toList) = false := by simp
  have h2 : (a.page.toList != a.page.toList) = false := by simp
  have h3 : (a.who != a.who) = false := by simp
  have b0 := ((Below.refl w.heap.size w).alloc (Nat.le_refl _) (.cells (ddC a) 39)).alloc (by simp) (.cells (ddC a) 39)
  have ha := (holds_new w (ddC a) 39).alloc (.cells (ddC a) 39)
  have hb := holds_new (w.alloc (.cells (ddC a) 39)) (ddC a) 39
  go_enter Tryz.func177, Tryz.ntmps177
  go_wp2_with fail
  refine (eqEdition_same a.ed _).mono ?_
  rintro r w1 ⟨rfl, b1⟩
  replace ha := ha.below b1
  replace hb := hb.below b1
  replace b0 := next b0 b1
  simp only [World.size_alloc] at hb
  obtain ⟨p0, p1, p2, p3, p4, p5, p6⟩ := ha.seven
  obtain ⟨q0, q1, q2, q3, q4, q5, q6⟩ := hb.seven
  clear b1
  go_wp2
  go_ret
  exact ⟨rfl, b0⟩
end Go.Proofs.YtblcgbgcccjpcaaGreat
namespace Go.Proofs.YtblcgbgcccjpcaaGreat
open Go.RowKit
set_option maxRecDepth 20000
abbrev orIn (n : Nat) (o : M.Or) : Prop := o.deed.name.size ≤ n ∧ o.deed.page.size ≤ n
set_option maxHeartbeats 1000000 in
theorem szDeed_is (d : M.Dd) (n : Int) (w : World) (hn : n ≤ 1048576) (h : (d.name.size + d.page.size : Int) ≤ n) :
    Calls Tryz.prog 138 #[ddV d, .int .i64 n] w fun r w' => r = .returned (.int .i64 (n - d.name.size - d.page.size)) ∧ Below w.heap.size w w' := by
  go_enter Tryz.func138, Tryz.ntmps138
  go_wp2
  go_ret
  exact ⟨ret_int (by omega), (Below.refl _ _).alloc (Nat.le_refl _) _⟩
set_option maxHeartbeats 1000000 in
theorem orSz_small (o : M.Or) (n : Int) (w : World) (h1 : n ≤ 1048576) (h : ((o.deed.name.size + o.deed.page.size : Nat) : Int) ≤ n) :
    Calls Tryz.prog 95 #[orV o, .int .i64 n] w fun r w' => r = .returned (.int .i64 (n - ((o.deed.name.size + o.deed.page.size : Nat) : Int))) ∧ Below w.heap.size w w' := by
  have b0 := (Below.refl w.heap.size w).alloc (Nat.le_refl _) (.cells (orC o) 91)
  have h0 : 0 ≤ n - (o.deed.name.size : Int) - (o.deed.page.size : Int) := by omega
  go_enter Tryz.func95, Tryz.ntmps95
  go_wp2_with fail
  refine (szDeed_is o.deed n _ h1 (by omega)).mono ?_
  rintro r w1 ⟨rfl, b1⟩
  go_wp2
  go_ret
  exact ⟨ret_int (by omega), next b0 b1⟩
set_option maxHeartbeats 1000000 in
theorem orSz_big (o : M.Or) (n : Int) (w : World) (h0 : 0 ≤ n) (h1 : n ≤ 1048576) (hp : orIn maxLen o) (h : n < ((o.deed.name.size + o.deed.page.size : Nat) : Int)) :
    Calls Tryz.prog 95 #[orV o, .int .i64 n] w fun r w' => r = .returned (.int .i64 (-1)) ∧ Below w.heap.size w w' :=
  szOrder_big o n w h0 h1 hp.1 hp.2 (by omega)
set_option maxHeartbeats 1000000 in
theorem orEq_same (o : M.Or) (w : World) :
    Calls Tryz.prog 146 #[orV o, orV o] w fun r w' => r = .returned (.bool true) ∧ Below w.heap.size w w' := by
  have h1 : (o.client != o.client) = false := by simp
  have h2 : (o.seq != o.seq) = false := by simp
  have b0 := ((Below.refl w.heap.size w).alloc (Nat.le_refl _) (.cells (orC o) 41)).alloc (by simp) (.cells (orC o) 41)
  go_enter Tryz.func146, Tryz.ntmps146
  go_wp2_with fail
  refine (eqDeed_same o.deed _).mono ?_
  rintro r w1 ⟨rfl, b1⟩
  go_wp2
  go_ret
  exact ⟨rfl, next b0 b1⟩
end Go.Proofs.YtblcgbgcccjpcaaGreat
