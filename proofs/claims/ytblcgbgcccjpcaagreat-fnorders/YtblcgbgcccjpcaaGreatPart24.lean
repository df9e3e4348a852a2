/- Proved, in parts: Proved: the program's bookOf lays a book into memory of its own, and written reads it back. Condition: texts and lists of at most a million. Proved: the program's Ordered answers a plain Lean function, its book in new memory; nothing that was there is written. Condition: texts and lists of at most a million. Proved: what the model does with an order is what the program does, where the book and the order are right. No program is named here. Condition: those two. Proved: what an order leaves of a right book is a right book; plain facts on many orders. No program is named here; no condition. -/
import Derived.Test.YtblcgbgcccjpcaaGreatPart23
import Derived.Test.YtblcgbgcccjpcaaGreatPart21
namespace Go.Proofs.YtblcgbgcccjpcaaGreat
open Go.RowKit
set_option maxRecDepth 20000
theorem results_bookOf (a b : Value) (R : Nat) (W : World) (tmps : Array Value) (h2 : tmps.getD 2 undef = .pointer (some ⟨R, 0, none⟩)) (hW : Holds W R #[a, b]) :
    (results Tryz.f69 tmps).run Tryz.prog W = .ok (.agg #[a, b]) W := by
  obtain ⟨q0, q1⟩ := hW.two
  simp at h2
  simp [results, Tryz.results69, go_sem, h2, q0, q1]
theorem results_written (a b : Value) (R : Nat) (W : World) (tmps : Array Value) (h2 : tmps.getD 2 undef = .pointer (some ⟨R, 0, none⟩)) (hW : Holds W R #[a, b]) :
    (results Tryz.f71 tmps).run Tryz.prog W = .ok (.agg #[a, b]) W := by
  obtain ⟨q0, q1⟩ := hW.two
  simp at h2
  simp [results, Tryz.results71, go_sem, h2, q0, q1]
/-- What bookOf answers. -/
def BkMade (w : World) (l : List Wr) (m : List M.La) (e : Ending) (w' : World) : Prop :=
  ∃ b rs v, e = .returned (.agg #[.map (some b), v]) ∧ w.heap.size ≤ b ∧ rs.map Wr.wk = l.map Wr.wk ∧ ShM w' b l.length rs ∧ RsOwn (b + 1) w' rs ∧ b + 1 ≤ w'.heap.size ∧ LasOwn w.heap.size w' v m ∧ (∀ k, v.ownBlock = some k → b < k ∧ ∀ r ∈ rs, ∀ j, r.sl.ownBlock = some j → j < k) ∧ Below w.heap.size w w'
set_option maxHeartbeats 4000000 in
theorem bookOf_any (A : Option Addr) (l : List Wr) (cap : Nat) (A2 : Option Addr) (m : List M.La) (cb : Nat) (w : World) (hl : Wks w A l) (hr : RiseW l) (hlen : l.length ≤ 1048576) (hp : WrsIn 1048576 l) (hm : Las w A2 m) (hml : m.length ≤ 1048576) (hmp : ∀ c ∈ m, laIn 1048576 c) :
    Calls Tryz.prog 69 #[bkV A l.length cap A2 m.length cb] w (BkMade w l m) := by
  have HL := Lib.hid hl
  have HR := Lib.hid hr
  have HP := Lib.hid hp
  have HM := Lib.hid hm
  have HMP := Lib.hid hmp
  clear hl hr hp hm hmp
  have hM := ((Mem.start w).new (bkA A l.length cap A2 m.length cb) 27).new #[.map none, .slice none 0 0] 126
  simp only [World.size_alloc] at hM
  go_enter Tryz.func69, Tryz.ntmps69
  go_wp2_with fail
  generalize hx0 : (w.alloc (.cells (bkA A l.length cap A2 m.length cb) 27)).alloc (.cells #[.map none, .slice none 0 0] 126) = x0 at hM ⊢
  have HM0 := Lib.hid hM
  have HST : Hid (Holds x0 w.heap.size (bkA A l.length cap A2 m.length cb) ∧ Holds x0 (w.heap.size + 1) #[.map none, .slice none 0 0] ∧ Loose x0 (w.heap.size + 1)) := Lib.hid ⟨hM.get w.heap.size _ (by simp), hM.get (w.heap.size + 1) _ (by simp), hM.loose (w.heap.size + 1) (by simp)⟩
  clear hM hx0
  refine wp_region_fin 7 (fun x => Holds x w.heap.size (bkA A l.length cap A2 m.length cb) ∧ Holds x (w.heap.size + 1) #[.map none, .slice none 0 0] ∧ Loose x (w.heap.size + 1)) [(0, true), (1, true), (3, true), (4, true), (2, false), (5, false), (6, true), (7, false)] (by kernel_rfl) (by kernel_rfl) (fun _ _ _ _ _ h => h) (by kernel_rfl) (by decide) HST.out ?_
  intro hHeld
  repeat (first
    | (refine seqF_reads (by simp only [List.getElem?_toArray, List.getElem?_cons_succ, List.getElem?_cons_zero]; first | done | rfl) (by rfl) ?_; apply Exists.intro; apply And.intro; (focus (intro w hSw; (try (replace hSw := hSw (by decide +kernel))); obtain ⟨k0, k1⟩ := hSw.1.two; go_simp; (try with_reducible rfl); done)); (try simp only [Act.put, List.setIfInBounds_toArray, List.set_cons_zero, List.set_cons_succ]))
    | (refine seqF_call (by simp only [List.getElem?_toArray, List.getElem?_cons_succ, List.getElem?_cons_zero]; first | done | rfl) (by rfl) (fun K hK => ?_) (by decide); go_simp; go_at_call 62; refine (shelfOf_any A l cap _ ((HL.out.below HM0.out.1).below (Below.refl _ _).drew) HR.out hlen HP.out).mono ?_; rintro r w1 ⟨rfl, rs, hrs, hmap, hown, b1⟩; go_simp; refine hK.out _ _ _ (fun _ h => h) ⟨hHeld.1.below b1, hHeld.2.1.below b1, hHeld.2.2.below hHeld.2.1.1 b1⟩ ?_; clear hK hHeld; intro hHeld; (have HRS := Lib.hid hrs); (have HMAP := Lib.hid hmap); (have HOWN := Lib.hid hown); (have HB1 := Lib.hid b1); clear hrs hmap hown b1; (try simp only [Act.put, List.setIfInBounds_toArray, List.set_cons_zero, List.set_cons_succ]))
    | (refine seqF_call (by simp only [List.getElem?_toArray, List.getElem?_cons_succ, List.getElem?_cons_zero]; first | done | rfl) (by rfl) (fun K hK => ?_) (by decide); go_simp; go_at_call 124; refine (each_la A2 m cb _ (((HM.out.below HM0.out.1).below (Below.refl _ _).drew).below HB1.out) hml HMP.out).mono ?_; rintro r w1 ⟨A3, c3, rfl, o3, b1⟩; go_simp; refine hK.out _ _ _ (fun _ h => h) ⟨hHeld.1.below b1, hHeld.2.1.below b1, hHeld.2.2.below hHeld.2.1.1 b1⟩ ?_; clear hK hHeld; intro hHeld; (have HO3 := Lib.hid o3); (have HB3 := Lib.hid b1); clear o3 b1; (try simp only [Act.put, List.setIfInBounds_toArray, List.set_cons_zero, List.set_cons_succ]))
    | (refine seqF_last (by simp only [List.getElem?_toArray, List.getElem?_cons_succ, List.getElem?_cons_zero]; first | done | rfl) (by rfl) (fun K hK => ?_); (have hD := hHeld.2); (obtain ⟨q0, q1⟩ := hD.1.two); (have y0 := hD.2 0); (have y1 := hD.2 1); go_simp; refine hK.out _ _ ?_; clear hK; (have HHE := Lib.hid hHeld); clear hHeld hD q0 q1 y0 y1; (try simp only [Act.put, List.setIfInBounds_toArray, List.set_cons_zero, List.set_cons_succ])))
  refine seqF_end ?_
  go_wp2
  have hx0 : w.heap.size + 2 ≤ x0.heap.size := HST.out.2.1.1
  have hlt := HMAP.out.lt
  have hdr : x0.drew.heap.size = x0.heap.size := rfl
  have hne : ∀ r ∈ rs, r.sl.ownBlock ≠ some (w.heap.size + 1) := fun r hr e => by have := ((HOWN.out.1 r hr).lt _ e).1; omega
  have hblk : ∀ k, (Value.slice A3 m.length c3).ownBlock = some k → x0.heap.size < k ∧ ∀ r ∈ rs, ∀ j, r.sl.ownBlock = some j → j < k := fun k e => by
    have h1 := (World.ownsRow.lt HO3.out k e).1
    exact ⟨by omega, fun r hr j e' => by have := ((HOWN.out.1 r hr).lt _ e').2; omega⟩
  have bb := next (next (next HM0.out.1 (Below.refl _ _).drew) HB1.out) HB3.out
  refine bodyPost_ret (results_bookOf (.map (some x0.heap.size)) (.slice A3 m.length c3) (w.heap.size + 1) _ _ rfl ?_) rfl ⟨x0.heap.size, rs, .slice A3 m.length c3, rfl, by omega, HRS.out, ?_, ?_, ?_, ?_, hblk, ?_⟩
  · simpa using ((HHE.out.2.1.putM 0 (.map (some x0.heap.size))).putM 1 (.slice A3 m.length c3))
  · exact ShM.set (ShM.set (HMAP.out.kept (grown_lw HB3.out none) (by simp)) (by omega)) (by omega)
  · exact ((HOWN.out.below HB3.out).set hne 0 _).set hne 1 _
  · have := HB3.out.size
    simp
    omega
  · refine LasOwn.mono (own_off (own_off HO3.out (fun e => ?_) 0 _) (fun e => ?_) 1 _) (by have := HB1.out.size; omega)
    · have := (hblk _ e).1; omega
    · have := (hblk _ e).1; omega
  · exact (bb.setCell (by show w.heap.size ≤ w.heap.size + 1; omega) _).setCell (by show w.heap.size ≤ w.heap.size + 1; omega) _

/-- What written answers. -/
def BkRead (w : World) (B : Nat) (v : Value) (rs : List Wr) (e : Ending) (w' : World) : Prop :=
  ∃ A' c', e = .returned (.agg #[.slice A' rs.length c', v]) ∧ SfOwn B w' (.slice A' rs.length c') rs ∧ (∀ k, (Value.slice A' rs.length c').ownBlock = some k → w.heap.size ≤ k) ∧ Below w.heap.size w w'
set_option maxHeartbeats 4000000 in
theorem written_any (B b n : Nat) (rs : List Wr) (A4 : Option Addr) (n4 c4 : Nat) (w : World) (hm : ShM w b n rs) (hr : RiseW rs) (ho : RsOwn B w rs) (hB : B ≤ w.heap.size) (hlen : rs.length ≤ 1000) (hnm : ∀ r ∈ rs, r.name.size ≤ 1048576) :
    Calls Tryz.prog 71 #[.agg #[.map (some b), .slice A4 n4 c4]] w (BkRead w B (.slice A4 n4 c4) rs) := by
  have HO := Lib.hid ho
  have HR := Lib.hid hr
  have HN := Lib.hid hnm
  have HMP := Lib.hid hm
  clear ho hr hnm hm
  have hM := ((Mem.start w).new #[.map (some b), .slice A4 n4 c4] 126).new (bkA none 0 0 none 0 0) 27
  simp only [World.size_alloc] at hM
  go_enter Tryz.func71, Tryz.ntmps71
  go_wp2_with fail
  generalize hx0 : (w.alloc (.cells #[.map (some b), .slice A4 n4 c4] 126)).alloc (.cells (bkA none 0 0 none 0 0) 27) = x0 at hM ⊢
  have HM0 := Lib.hid hM
  have HB0 := Lib.hid (hM.1.trans ((Below.refl x0.heap.size x0).drew.mono hM.1.size))
  have HST : Hid (Holds x0 w.heap.size #[.map (some b), .slice A4 n4 c4] ∧ Holds x0 (w.heap.size + 1) (bkA none 0 0 none 0 0) ∧ Loose x0 (w.heap.size + 1)) := Lib.hid ⟨hM.get w.heap.size _ (by simp), hM.get (w.heap.size + 1) _ (by simp), hM.loose (w.heap.size + 1) (by simp)⟩
  clear hM hx0
  refine wp_region_fin 6 (fun x => Holds x w.heap.size #[.map (some b), .slice A4 n4 c4] ∧ Holds x (w.heap.size + 1) (bkA none 0 0 none 0 0) ∧ Loose x (w.heap.size + 1)) [(0, true), (1, true), (3, true), (4, true), (2, false), (5, true), (6, false)] (by kernel_rfl) (by kernel_rfl) (fun _ _ _ _ _ h => h) (by kernel_rfl) (by decide) HST.out ?_
  intro hHeld
  repeat (first
    | (refine seqF_reads (by simp only [List.getElem?_toArray, List.getElem?_cons_succ, List.getElem?_cons_zero]; first | done | rfl) (by rfl) ?_; apply Exists.intro; apply And.intro; (focus (intro w hSw; (try (replace hSw := hSw (by decide +kernel))); obtain ⟨k0, k1⟩ := hSw.1.two; go_simp; (try with_reducible rfl); done)); (try simp only [Act.put, List.setIfInBounds_toArray, List.set_cons_zero, List.set_cons_succ]))
    | (refine seqF_call (by simp only [List.getElem?_toArray, List.getElem?_cons_succ, List.getElem?_cons_zero]; first | done | rfl) (by rfl) (fun K hK => ?_) (by decide); go_simp; go_at_call 64; refine (inOrder_at b n B rs _ (HMP.out.kept (grown_lw HB0.out none) (by simp)) HR.out (HO.out.below HB0.out) (Nat.le_trans hB HB0.out.size) hlen HN.out).mono ?_; rintro r w1 ⟨v3, rfl, hs, hnew, b1⟩; (obtain ⟨A5, c5, rfl, -, -⟩ := hs.open); go_simp; refine hK.out _ _ _ (fun _ h => h) ⟨hHeld.1.below b1, hHeld.2.1.below b1, hHeld.2.2.below hHeld.2.1.1 b1⟩ ?_; clear hK hHeld; intro hHeld; (have HS := Lib.hid hs); (have HNEW := Lib.hid hnew); (have HB1 := Lib.hid b1); clear hs hnew b1; (try simp only [Act.put, List.setIfInBounds_toArray, List.set_cons_zero, List.set_cons_succ]))
    | (refine seqF_last (by simp only [List.getElem?_toArray, List.getElem?_cons_succ, List.getElem?_cons_zero]; first | done | rfl) (by rfl) (fun K hK => ?_); (have hD := hHeld.2); (obtain ⟨q0, q1⟩ := hD.1.two); (have y0 := hD.2 0); (have y1 := hD.2 1); go_simp; refine hK.out _ _ ?_; clear hK; (have HHE := Lib.hid hHeld); clear hHeld hD q0 q1 y0 y1; (try simp only [Act.put, List.setIfInBounds_toArray, List.set_cons_zero, List.set_cons_succ])))
  refine seqF_end ?_
  go_wp2
  have hx0 : w.heap.size + 2 ≤ x0.heap.size := HST.out.2.1.1
  have hnb : ∀ g, blocksS (.slice A5 rs.length c5) rs g → g ≠ w.heap.size + 1 := fun g hg e => by
    rcases hg with hg | ⟨r, hr, hg⟩
    · have h1 : x0.heap.size ≤ g := HNEW.out g hg
      omega
    · have := ((HO.out.1 r hr).lt g hg).2; omega
  refine bodyPost_ret (results_written (.slice A5 rs.length c5) (.slice A4 n4 c4) (w.heap.size + 1) _ _ rfl ?_) rfl ⟨A5, c5, rfl, ?_, fun k e => ?_, ?_⟩
  · simpa using ((HHE.out.2.1.putM 0 (.slice A5 rs.length c5)).putM 1 (.slice A4 n4 c4))
  · exact (HS.out.far (fun e => hnb _ (.inl e) rfl) (fun r hr e => hnb _ (.inr ⟨r, hr, e⟩) rfl) 0 _).far (fun e => hnb _ (.inl e) rfl) (fun r hr e => hnb _ (.inr ⟨r, hr, e⟩) rfl) 1 _
  · have h1 : x0.heap.size ≤ k := HNEW.out k e
    omega
  · exact ((next HB0.out HB1.out).setCell (by show w.heap.size ≤ w.heap.size + 1; omega) _).setCell (by show w.heap.size ≤ w.heap.size + 1; omega) _
end Go.Proofs.YtblcgbgcccjpcaaGreat
namespace Go.Proofs.YtblcgbgcccjpcaaGreat
open Go.RowKit
set_option maxRecDepth 20000
namespace M
def ordered (b : Bk) (o : Or) : Bk × Rp := if bkOk b.1 b.2 then ordI b o else (([], []), (7, nilB))
end M
theorem results_iOrd (a b : Value) (c : Int) (p : ByteArray) (R T : Nat) (W : World) (tmps : Array Value) (h4 : tmps.getD 4 undef = .pointer (some ⟨R, 0, none⟩)) (h5 : tmps.getD 5 undef = .pointer (some ⟨T, 0, none⟩)) (hR : Holds W R #[a, b]) (hT : Holds W T (rpA c p)) :
    (results Tryz.f17 tmps).run Tryz.prog W = .ok (.tuple #[.agg #[a, b], rpV c p]) W := by
  obtain ⟨q0, q1⟩ := hR.two
  obtain ⟨r0, r1⟩ := hT.two
  simp at h4 h5
  simp [results, Tryz.results17, go_sem, h4, h5, q0, q1, r0, r1]
/-- What Ordered answers. -/
def OrRet (w : World) (q : M.Bk × M.Rp) (e : Ending) (w' : World) : Prop :=
  ∃ v1 v2 rs', e = .returned (.tuple #[.agg #[v1, v2], rpV q.2.1 q.2.2]) ∧ SfOwn w.heap.size w' v1 rs' ∧ rs'.map Wr.wk = q.1.1 ∧ LasOwn w.heap.size w' v2 q.1.2 ∧ (∀ g, v2.ownBlock = some g → ¬ blocksS v1 rs' g) ∧ Below w.heap.size w w'
theorem Mem.touch {w0 : World} {hs : List (Nat × Array Value)} {ls : List Nat} {x y : World} {T : Nat → Prop} (h : Mem w0 hs ls x) (ht : TouchS T x y) (hT : ∀ g, T g → w0.heap.size ≤ g) (hne : ∀ p ∈ hs, ¬ T p.1) (hnl : ∀ g ∈ ls, ¬ T g) : Mem w0 hs ls y :=
  ⟨h.1.trans (ht.low w0.heap.size h.1.size hT), fun p hp => ht.holds (h.2.1 p hp) (hne p hp), fun g hg => ⟨Nat.lt_of_lt_of_le (h.2.2 g hg).1 ht.size, ht.loose (h.2.2 g hg).2 (h.2.2 g hg).1 (hnl g hg)⟩⟩
set_option maxHeartbeats 4000000 in
theorem implOrdered (A : Option Addr) (l : List Wr) (cap : Nat) (A2 : Option Addr) (m : List M.La) (cb : Nat) (o : M.Or) (w : World) (hl : Wks w A l) (hlen : l.length ≤ 1048576) (hp : WrsIn 1048576 l) (hm : Las w A2 m) (hml : m.length ≤ 1048576) (hmp : ∀ c ∈ m, laIn 1048576 c) (hn : o.deed.name.size ≤ 1048576) (hpg : o.deed.page.size ≤ 1048576) :
    Calls Tryz.prog 17 #[bkV A l.length cap A2 m.length cb, orV o] w (OrRet w (M.ordered (l.map Wr.wk, m) o)) := by
  have HL := Lib.hid hl
  have HP := Lib.hid hp
  have HM := Lib.hid hm
  have HMP := Lib.hid hmp
  clear hl hp hm hmp
  have hM := ((((Mem.start w).new (bkA A l.length cap A2 m.length cb) 27).new (orC o) 41).new (bkA none 0 0 none 0 0) 27).new (rpA 0 noP) 33
  simp only [World.size_alloc] at hM
  rcases hok : M.bkOk (l.map Wr.wk) m with _ | _
  · have HE : Hid (M.ordered (l.map Wr.wk, m) o = (([], []), ((7 : Int), M.nilB))) := Lib.hid (by unfold M.ordered; rw [if_neg (by simp [hok])])
    have HOK := Lib.hid hok
    clear hok
    go_enter Tryz.func17, Tryz.ntmps17
    go_wp2_with fail
    refine (implBookOk A l cap A2 m cb _ (HL.out.below hM.1) (by omega) HP.out (HM.out.below hM.1) (by omega)).mono ?_
    rintro e x1 ⟨rfl, b1⟩
    rw [HOK.out]
    have hM1 := hM.below b1
    clear hM b1
    obtain ⟨q0, q1⟩ := (hM1.get (w.heap.size + 1 + 1) (bkA none 0 0 none 0 0) (by simp)).two
    obtain ⟨r0, r1⟩ := (hM1.get (w.heap.size + 1 + 1 + 1) (rpA 0 noP) (by simp)).two
    have y0 := hM1.loose (w.heap.size + 1 + 1) (by simp) 0
    have y1 := hM1.loose (w.heap.size + 1 + 1) (by simp) 1
    have z0 := hM1.loose (w.heap.size + 1 + 1 + 1) (by simp) 0
    have z1 := hM1.loose (w.heap.size + 1 + 1 + 1) (by simp) 1
    have HM1 := Lib.hid hM1
    clear hM1
    go_wp2
    refine bodyPost_ret (results_iOrd (.slice none 0 0) (.slice none 0 0) 7 noP (w.heap.size + 1 + 1) (w.heap.size + 1 + 1 + 1) _ _ rfl rfl ?_ ?_) rfl ⟨.slice none 0 0, .slice none 0 0, [], by rw [HE.out] <;> rfl, ⟨⟨rfl, .inl ⟨rfl, rfl⟩⟩, by simp, by simp, List.Pairwise.nil⟩, by rw [HE.out]; rfl, by rw [HE.out]; exact LasOwn.nil _ _, fun g e => (by cases e), ?_⟩
    · exact ((((HM1.out.get (w.heap.size + 1 + 1) (bkA none 0 0 none 0 0) (by simp)).wr2 _ _).otherM (by omega)).otherM (by omega))
    · exact (((HM1.out.get (w.heap.size + 1 + 1 + 1) (rpA 0 noP) (by simp)).otherM (by omega)).otherM (by omega)).wr2 _ _
    · exact far_2 (far_2 HM1.out.1 (by omega) _ _) (by omega) _ _
  · have HOKL : Hid (M.sfOk (l.map Wr.wk) = true) := Lib.hid (by simp only [M.bkOk, Bool.and_eq_true] at hok; exact hok.1)
    replace hml : m.length ≤ 1048575 := by
      have h := hok
      simp only [M.bkOk, Bool.and_eq_true] at h
      have := M.lasOk_len h.2
      omega
    obtain ⟨q, hq⟩ : ∃ q, M.ordI (l.map Wr.wk, m) o = q := ⟨_, rfl⟩
    have HQ := Lib.hid hq
    have HE : Hid (M.ordered (l.map Wr.wk, m) o = q) := Lib.hid (by unfold M.ordered; rw [if_pos hok]; exact hq)
    have HOK := Lib.hid hok
    clear hok hq
    go_enter Tryz.func17, Tryz.ntmps17
    go_wp2_with fail
    refine (implBookOk A l cap A2 m cb _ (HL.out.below hM.1) (by omega) HP.out (HM.out.below hM.1) (by omega)).mono ?_
    rintro e x1 ⟨rfl, b1⟩
    rw [HOK.out]
    have hM1 := hM.below b1
    clear hM b1
    obtain ⟨p0, p1⟩ := (hM1.get w.heap.size (bkA A l.length cap A2 m.length cb) (by simp)).two
    have hx1 : (w.heap.size + 1 + 1 + 1) < x1.heap.size := (hM1.get (w.heap.size + 1 + 1 + 1) (rpA 0 noP) (by simp)).1
    go_wp2_with fail
    refine (bookOf_any A l cap A2 m cb _ (HL.out.below hM1.1) (sfOk_rise HOKL.out).1 (by omega) HP.out (HM.out.below hM1.1) (by omega) HMP.out).mono ?_
    rintro e x2 ⟨b, rs, v, rfl, hb1, hrs, hmap, hown, hb2, hlas, hblk, b2⟩
    obtain ⟨A3, c3, rfl, -, -⟩ := LasOwn.open hlas
    have hM2 := hM1.below b2
    have hM3 := hM2.alloc (.cells #[.map (some b), .slice A3 m.length c3] 126)
    have bA := (Below.refl x2.heap.size x2).alloc (Nat.le_refl _) (.cells #[.map (some b), .slice A3 m.length c3] 126)
    have hst : BkSt (x2.alloc (.cells #[.map (some b), .slice A3 m.length c3] 126)) x1.heap.size (b + 1) b rs x2.heap.size (.slice A3 m.length c3) m :=
      ⟨(hmap.tight).kept (grown_lw bA none) (by simp), hown.below bA, by rw [hrs]; exact HOKL.out, Nat.lt_succ_self _, by simp; omega, holds_new _ _ _, loose_new _ _ _, LasOwn.below hlas bA, HMP.out, by omega, fun r hr e => by have := ((hown.1 r hr).lt _ e).2; omega, fun e => by have := (hblk _ e).1; omega, fun e => by have := (World.ownsRow.lt hlas _ e).2; omega, fun r hr k e e' => by have := (hblk _ e').2 r hr k e; omega, by omega, by omega⟩
    have HVB : Hid (∀ g, bkS b x2.heap.size (.slice A3 m.length c3) g → x1.heap.size ≤ g) := Lib.hid (fun g hg => by
      rcases hg with rfl | rfl | hg
      · omega
      · omega
      · have := (hblk g hg).1; omega)
    have HRSQ := Lib.hid hrs
    have HST := Lib.hid hst
    clear hM1 hM2 hmap hown hlas hblk b2 bA hst hrs p0 p1
    obtain ⟨p0, p1, p2, p3, p4, p5, p6, p7, p8⟩ := (hM3.get (w.heap.size + 1) (orC o) (by simp)).nine
    go_wp2_with fail
    have hcall := ordered_any x1.heap.size (b + 1) b rs x2.heap.size (.slice A3 m.length c3) m o _ HST.out hml hn hpg
    rw [HRSQ.out, HQ.out] at hcall
    refine hcall.mono ?_
    rintro e x4 ⟨rfl, ht, rs2, v2, hmp2, hst4, -⟩
    have hM4 := hM3.touch ht (fun g hg => by have := HVB.out g hg; omega) (fun p hp hT => by have := HVB.out _ hT; simp at hp; rcases hp with rfl | rfl | rfl | rfl <;> simp at this <;> omega) (fun g hp hT => by have := HVB.out _ hT; simp at hp; rcases hp with rfl | rfl | rfl | rfl <;> omega)
    clear hcall hM3 p0 p1 p2 p3 p4 p5 p6 p7 p8
    obtain ⟨A4, c4, rfl, -, -⟩ := LasOwn.open hst4.las
    have hV4 := fun g (e : (Value.slice A4 q.1.2.length c4).ownBlock = some g) => show (g ≠ b ∧ g ≠ x2.heap.size ∧ ∀ r ∈ rs2, r.sl.ownBlock ≠ some g) ∧ x1.heap.size ≤ g ∧ g < x4.heap.size from ⟨⟨fun h => hst4.vb (h ▸ e), fun h => hst4.vg (h ▸ e), fun r hr h => hst4.vr r hr g h e⟩, World.ownsRow.lt hst4.las g e⟩
    have h7 := holds_new x4 (rpA q.2.1 q.2.2) 33
    have bA := (Below.refl x4.heap.size x4).alloc (Nat.le_refl _) (.cells (rpA q.2.1 q.2.2) 33)
    have hM5 := hM4.below bA
    have hst5 := hst4.below bA
    have hx4 : x2.heap.size < x4.heap.size := hst4.box.1
    have HMP2 := Lib.hid hmp2
    clear hM4 hst4 hmp2 bA
    have HT := Lib.hid ht
    clear ht
    go_wp2_with fail
    generalize x4.alloc (.cells (rpA q.2.1 q.2.2) 33) = x5 at h7 hM5 hst5 ⊢
    have dr := (Below.refl x5.heap.size x5).drew
    have HSW := Lib.hid (hst5.below dr)
    have HM5 := Lib.hid (hM5.below dr)
    have HH := Lib.hid (show _ ∧ _ from ⟨hst5.box.below dr, h7.below dr⟩)
    have HRS := Lib.hid (show _ ∧ _ ∧ _ ∧ _ from ⟨(hM5.below dr).get (w.heap.size + 1 + 1) (bkA none 0 0 none 0 0) (by simp), (hM5.below dr).get (w.heap.size + 1 + 1 + 1) (rpA 0 noP) (by simp), (hM5.below dr).loose (w.heap.size + 1 + 1) (by simp), (hM5.below dr).loose (w.heap.size + 1 + 1 + 1) (by simp)⟩)
    have hx5 : x4.heap.size < x5.heap.size := h7.1
    clear hM5 hst5 h7 dr
    refine wp_region_seq (fun x => Holds x x2.heap.size #[.map (some b), .slice A4 q.1.2.length c4] ∧ Holds x x4.heap.size (rpA q.2.1 q.2.2)) [(0, true), (2, true), (1, false), (3, false), (4, false)] (by kernel_rfl) (by kernel_rfl) (fun _ _ _ _ _ h => h) (by kernel_rfl) (by decide) ⟨HH.out.1, HH.out.2⟩ ?_
    intro hHeld
    repeat (first
      | (refine seq_skip (by simp only [List.getElem?_toArray, List.getElem?_cons_succ, List.getElem?_cons_zero]; first | done | rfl) (by rfl) ?_; (try simp only [Act.put, List.setIfInBounds_toArray, List.set_cons_zero, List.set_cons_succ]))
      | (refine seq_reads (by simp only [List.getElem?_toArray, List.getElem?_cons_succ, List.getElem?_cons_zero]; first | done | rfl) (by rfl) ?_; apply Exists.intro; apply And.intro; (focus (intro w hSw; (try (obtain ⟨g0, g1⟩ := hSw.1.two)); (try (obtain ⟨r0, r1⟩ := hSw.2.two)); go_simp; (try with_reducible rfl); done)); (try simp only [Act.put, List.setIfInBounds_toArray, List.set_cons_zero, List.set_cons_succ]))
      | (refine seq_pass (by simp only [List.getElem?_toArray, List.getElem?_cons_succ, List.getElem?_cons_zero]; first | done | rfl) (by rfl) hHeld ?_; clear hHeld; intro hHeld; (try simp only [Act.put, List.setIfInBounds_toArray, List.set_cons_zero, List.set_cons_succ]))
      | (refine seq_call (by simp only [List.getElem?_toArray, List.getElem?_cons_succ, List.getElem?_cons_zero]; first | done | rfl) (by rfl) (fun K hK => ?_); go_simp; go_at_call 71; refine (written_any (b + 1) b rs2.length rs2 A4 q.1.2.length c4 _ (HSW.out.map) HSW.out.rise HSW.out.own HSW.out.top (by have := (wrs_ok HSW.out.ok).1; omega) (fun r hr => Nat.le_trans ((wrs_ok HSW.out.ok).2 r hr).1 (by omega))).mono ?_; rintro r w1 ⟨A9, c9, rfl, hs9, hn9, b1⟩; go_simp; refine hK.out _ _ ⟨hHeld.1.below b1, hHeld.2.below b1⟩ ?_; clear hK hHeld; intro hHeld; (have HS9 := Lib.hid hs9); (have HN9 := Lib.hid hn9); (have HB9 := Lib.hid b1); (have HX := Lib.hid (show _ ∧ _ ∧ _ ∧ _ from ⟨HRS.out.1.below b1, HRS.out.2.1.below b1, HRS.out.2.2.1.below HRS.out.1.1 b1, HRS.out.2.2.2.below HRS.out.2.1.1 b1⟩)); clear hs9 hn9 b1; (try simp only [Act.put, List.setIfInBounds_toArray, List.set_cons_zero, List.set_cons_succ]))
      | (refine seq_call (by simp only [List.getElem?_toArray, List.getElem?_cons_succ, List.getElem?_cons_zero]; first | done | rfl) (by rfl) (fun K hK => ?_); (obtain ⟨s0, s1⟩ := HX.out.1.two); (obtain ⟨t0, t1⟩ := HX.out.2.1.two); (have u0 := HX.out.2.2.1 0); (have u1 := HX.out.2.2.1 1); (have v0 := HX.out.2.2.2 0); (have v1 := HX.out.2.2.2 1); (have zs := HX.out.1.1); (have zt := HX.out.2.1.1); go_simp; refine hK.out _ _ ⟨(hHeld.1.otherM (by omega)).otherM (by omega), (hHeld.2.otherM (by omega)).otherM (by omega)⟩ ?_; clear hK hHeld; intro hHeld; clear s0 s1 t0 t1 u0 u1 v0 v1 zs zt; (try simp only [Act.put, List.setIfInBounds_toArray, List.set_cons_zero, List.set_cons_succ])))
    refine seq_end ?_
    go_wp2
    have hlas9 := LasOwn.below HSW.out.las HB9.out
    have hne4 : ∀ g, (Value.slice A4 q.1.2.length c4).ownBlock = some g → (w.heap.size + 1 + 1 + 1) < g := fun g e => by have := (hV4 g e).2.1; omega
    refine bodyPost_ret (results_iOrd (.slice A9 rs2.length c9) (.slice A4 q.1.2.length c4) q.2.1 q.2.2 (w.heap.size + 1 + 1) (w.heap.size + 1 + 1 + 1) _ _ rfl rfl ?_ ?_) rfl ⟨.slice A9 rs2.length c9, .slice A4 q.1.2.length c4, rs2, by rw [HE.out], ?_, by rw [HE.out]; exact HMP2.out, ?_, fun g e hg => ?_, ?_⟩
    · exact ((HX.out.1.wr2 _ _).otherM (by omega)).otherM (by omega)
    · exact ((HX.out.2.1.otherM (by omega)).otherM (by omega)).wr2 _ _
    · exact ((((HS9.out.set (by omega) 0 _).set (by omega) 1 _).set (by omega) 0 _).set (by omega) 1 _).mono (by omega)
    · rw [HE.out]
      exact LasOwn.mono (own_off (own_off (own_off (own_off hlas9 (fun e => by have := hne4 _ e; omega) 0 _) (fun e => by have := hne4 _ e; omega) 1 _) (fun e => by have := hne4 _ e; omega) 0 _) (fun e => by have := hne4 _ e; omega) 1 _) (by omega)
    · rcases hg with hg | ⟨r, hr, hg⟩
      · have h1 : x5.heap.size ≤ g := HN9.out g hg
        have := (hV4 g e).2.2
        omega
      · exact (hV4 g e).1.2.2 r hr hg
    · exact far_2 (far_2 (next HM5.out.1 HB9.out) (by omega) _ _) (by omega) _ _
end Go.Proofs.YtblcgbgcccjpcaaGreat
namespace Go.Proofs.YtblcgbgcccjpcaaGreat
open Go.RowKit
set_option maxRecDepth 20000
namespace M
/-- What an order does to a right book, as the model goes about it. -/
def ordS (b : Bk) (o : Or) : Bk × Rp := match b.2[laFind b.2 o.client]? with
  | some x => if o.seq = x.seq then (b, (x.code, x.page)) else if o.seq < x.seq then (b, (6, nilB)) else (((does b.1 o.deed).1, b.2.set (laFind b.2 o.client) ⟨o.client, o.seq, (does b.1 o.deed).2.1, (does b.1 o.deed).2.2⟩), (does b.1 o.deed).2)
  | none => (((does b.1 o.deed).1, putLa b.2 (laPlace b.2 o.client) ⟨o.client, o.seq, (does b.1 o.deed).2.1, (does b.1 o.deed).2.2⟩), (does b.1 o.deed).2)
theorem find_at_place {l : List La} {c : Int} (h : laAt l c = true) : laFind l c = laPlace l c := by
  obtain ⟨hk, hc⟩ := laAt_lt h
  refine (List.findIdx_eq hk).2 ⟨hc, fun j hj => ?_⟩
  have h1 : isGe c (l[j]'(by omega)) = false := by
    have := List.not_of_lt_findIdx (xs := l) (p := isGe c) hj
    simpa using this
  simp only [isGe, decide_eq_false_iff_not] at h1
  simp only [isCl, beq_eq_false_iff_ne]
  omega
theorem find_none {l : List La} {c : Int} (hr : grises laLt l = true) (h : laAt l c = false) : laFind l c = l.length := by
  refine List.findIdx_eq_length.2 fun x hx => ?_
  obtain ⟨i, hi, rfl⟩ := List.mem_iff_getElem.1 hx
  rcases hc : isCl c l[i] with _ | _
  · rfl
  · have hc' : l[i].client = c := by simpa [isCl] using hc
    have hge : isGe c l[i] = true := by simp [isGe, hc']
    have hp : laPlace l c ≤ i := by
      rcases Nat.lt_or_ge i (laPlace l c) with h' | h'
      · have := List.not_of_lt_findIdx (xs := l) (p := isGe c) h'
        simp [hge] at this
      · exact h'
    have hpl : laPlace l c < l.length := by omega
    have hpc := laAt_not h hpl
    have hpc' : l[laPlace l c].client ≠ c := by simpa using hpc
    have hpg : isGe c l[laPlace l c] = true := List.findIdx_getElem (w := hpl)
    have hpg' : c ≤ l[laPlace l c].client := by simpa [isGe] using hpg
    by_cases e : laPlace l c = i
    · exact absurd (by simp only [e]; exact hc') hpc'
    · have := rises_la hr i (laPlace l c) (by omega) hi
      omega
theorem does_kept {l : List Wk} {d : Dd} (h : sfOk l = true) : does l d = keptD l d := by
  unfold does keptD
  rw [if_pos h]
theorem putLa_at {l : List La} {k : Nat} (hk : k ≤ l.length) (x : La) : ∃ h : k < (putLa l k x).length, (putLa l k x)[k] = x := by
  have h2 : (putLa l k x)[k]? = some x := by
    unfold putLa
    rw [List.getElem?_append_right (by simp; omega)]
    have : k - (l.take k).length = 0 := by simp; omega
    rw [this]; rfl
  exact List.getElem?_eq_some_iff.1 h2
theorem putLa_set {l : List La} {k : Nat} (hk : k ≤ l.length) (x y : La) : (putLa l k x).set k y = putLa l k y := by
  unfold putLa
  rw [List.set_append_right _ _ (by simp; omega)]
  have : k - (l.take k).length = 0 := by simp; omega
  rw [this, List.set_cons_zero]
theorem ordS_eq {b : Bk} {o : Or} (hb : bkOk b.1 b.2 = true) (ho : orderOk o = true) : ordS b o = ordI b o := by
  simp only [bkOk, lasOk, Bool.and_eq_true] at hb
  have hr := hb.2.2
  have hsq : 1 ≤ o.seq := by
    simp only [orderOk, Bool.and_eq_true, inI] at ho
    simp at ho
    omega
  unfold ordI
  rw [if_pos ho]
  unfold ordS
  rw [does_kept hb.1]
  rcases ha : laAt b.2 o.client with _ | _
  · rw [find_none hr ha, List.getElem?_eq_none (Nat.le_refl _)]
    have hf : laFor b.2 o.client = putLa b.2 (laPlace b.2 o.client) ⟨o.client, 0, 0, nilB⟩ := by unfold laFor; rw [ha]; rfl
    rw [hf]
    obtain ⟨h1, h2⟩ := putLa_at (laPlace_le b.2 o.client) ⟨o.client, 0, 0, nilB⟩
    rw [ordT_new (b := (b.1, putLa b.2 (laPlace b.2 o.client) ⟨o.client, 0, 0, nilB⟩)) h1 (by simp only [h2]; omega)]
    simp only [h2]
    rw [putLa_set (laPlace_le _ _)]
    rfl
  · have hf : laFor b.2 o.client = b.2 := by unfold laFor; rw [ha]; rfl
    obtain ⟨hk, hc⟩ := laAt_lt ha
    have hc' : b.2[laPlace b.2 o.client].client = o.client := by simpa using hc
    rw [hf, find_at_place ha, List.getElem?_eq_getElem hk]
    rcases Int.lt_trichotomy o.seq b.2[laPlace b.2 o.client].seq with h | h | h
    · rw [ordT_old (b := (b.1, b.2)) hk h]
      simp only
      rw [if_neg (by omega), if_pos h]
    · rw [ordT_same (b := (b.1, b.2)) hk h]
      simp only
      rw [if_pos h]
    · rw [ordT_new (b := (b.1, b.2)) hk h]
      simp only
      rw [if_neg (by omega), if_neg (by omega)]
      simp only [laSet, hc']
end M
end Go.Proofs.YtblcgbgcccjpcaaGreat
namespace Go.Proofs.YtblcgbgcccjpcaaGreat
open Go.RowKit
set_option maxRecDepth 20000
namespace M
theorem rises_of {l : List La} (h : ∀ (i : Nat) (hi : i + 1 < l.length), l[i].client < l[i + 1].client) : grises laLt l = true :=
  (grises_iff laLt l).2 fun i hi => by simpa [laLt] using h i hi
theorem lasOk_mk {l : List La} (h1 : ∀ x ∈ l, laOk x = true) (h2 : ∀ (i : Nat) (hi : i + 1 < l.length), l[i].client < l[i + 1].client) : lasOk l = true := by
  simp only [lasOk, Bool.and_eq_true]
  exact ⟨List.all_eq_true.2 h1, rises_of h2⟩
theorem lasOk_step {l : List La} (h : lasOk l = true) {i : Nat} (hi : i + 1 < l.length) : l[i].client < l[i + 1].client := by
  simp only [lasOk, Bool.and_eq_true] at h
  exact rises_la h.2 (i + 1) i (by omega) hi
theorem lasOk_all {l : List La} (h : lasOk l = true) : ∀ x ∈ l, laOk x = true := by
  simp only [lasOk, Bool.and_eq_true] at h
  exact List.all_eq_true.1 h.1
theorem lasOk_set {l : List La} (h : lasOk l = true) {k : Nat} (hk : k < l.length) {x : La} (hx : laOk x = true) (hc : x.client = l[k].client) : lasOk (l.set k x) = true := by
  refine lasOk_mk (fun y hy => ?_) (fun i hi => ?_)
  · rcases List.mem_or_eq_of_mem_set hy with hy | rfl
    · exact lasOk_all h y hy
    · exact hx
  · rw [List.length_set] at hi
    have hs := lasOk_step h hi
    rw [List.getElem_set, List.getElem_set]
    by_cases e1 : k = i
    · subst e1
      rw [if_pos rfl, if_neg (by omega), hc]
      exact hs
    · rw [if_neg e1]
      by_cases e2 : k = i + 1
      · subst e2
        rw [if_pos rfl, hc]
        exact hs
      · rw [if_neg e2]
        exact hs
theorem lasOk_put {l : List La} (h : lasOk l = true) {x : La} (hx : laOk x = true) (hn : laAt l x.client = false) : lasOk (putLa l (laPlace l x.client) x) = true := by
  have hle := laPlace_le l x.client
  have hlo : ∀ (i : Nat) (hi : i < laPlace l x.client), (l[i]'(by omega)).client < x.client := fun i hi => by
    have := List.not_of_lt_findIdx (xs := l) (p := isGe x.client) hi
    simp only [isGe, decide_eq_false_iff_not] at this
    omega
  have hhi : ∀ (hk : laPlace l x.client < l.length), x.client < l[laPlace l x.client].client := fun hk => by
    have h1 : isGe x.client l[laPlace l x.client] = true := List.findIdx_getElem (w := hk)
    have h2 := laAt_not hn hk
    simp only [isGe, decide_eq_true_eq] at h1
    have h2' : l[laPlace l x.client].client ≠ x.client := by simpa using h2
    omega
  obtain ⟨k, hk⟩ : ∃ k, laPlace l x.client = k := ⟨_, rfl⟩
  simp only [hk] at hle hlo hhi ⊢
  have hlen : (putLa l k x).length = l.length + 1 := putLa_len l k x hle
  have g1 : ∀ (i : Nat) (hi : i < k) (h' : i < (putLa l k x).length), (putLa l k x)[i] = l[i]'(by omega) := fun i hi h' => by
    have : (putLa l k x)[i]? = some (l[i]'(by omega)) := by
      unfold putLa
      rw [List.getElem?_append_left (by simp; omega), List.getElem?_take, if_pos hi, List.getElem?_eq_getElem]
    exact (List.getElem?_eq_some_iff.1 this).2
  have g2 : ∀ (h' : k < (putLa l k x).length), (putLa l k x)[k] = x := fun h' => (putLa_at hle x).2
  have g3 : ∀ (i : Nat) (hi : k < i) (h' : i < (putLa l k x).length), (putLa l k x)[i] = l[i - 1]'(by omega) := fun i hi h' => by
    have : (putLa l k x)[i]? = some (l[i - 1]'(by omega)) := by
      unfold putLa
      rw [List.getElem?_append_right (by simp; omega)]
      have e : i - (l.take k).length = (i - k - 1) + 1 := by rw [List.length_take, Nat.min_eq_left hle]; omega
      rw [e, List.getElem?_cons_succ, List.getElem?_drop, show k + (i - k - 1) = i - 1 by omega, List.getElem?_eq_getElem]
    exact (List.getElem?_eq_some_iff.1 this).2
  refine lasOk_mk (fun y hy => ?_) (fun i hi => ?_)
  · unfold putLa at hy
    rcases List.mem_append.1 hy with hy | hy
    · exact lasOk_all h y (List.mem_of_mem_take hy)
    · rcases List.mem_cons.1 hy with rfl | hy
      · exact hx
      · exact lasOk_all h y (List.mem_of_mem_drop hy)
  · rw [hlen] at hi
    rcases Nat.lt_trichotomy (i + 1) k with h1 | h1 | h1
    · rw [g1 i (by omega) (by omega), g1 (i + 1) h1 (by omega)]
      exact lasOk_step h (by omega)
    · rw [g1 i (by omega) (by omega)]
      simp only [h1]
      rw [g2 (by omega)]
      exact hlo i (by omega)
    · rcases Nat.lt_or_ge k i with h2 | h2
      · rw [g3 i h2 (by omega), g3 (i + 1) (by omega) (by omega)]
        have := lasOk_step h (i := i - 1) (by omega)
        simp only [show i - 1 + 1 = i by omega] at this
        exact this
      · have e : i = k := by omega
        subst e
        rw [g2 (by omega), g3 (i + 1) (by omega) (by omega)]
        exact hhi (by omega)
theorem ordS_ok {b : Bk} {o : Or} (hb : bkOk b.1 b.2 = true) (ho : orderOk o = true) : bkOk (ordS b o).1.1 (ordS b o).1.2 = true := by
  have hb' := hb
  simp only [bkOk, Bool.and_eq_true] at hb'
  have hx : laOk ⟨o.client, o.seq, (does b.1 o.deed).2.1, (does b.1 o.deed).2.2⟩ = true := by
    simp only [orderOk, Bool.and_eq_true] at ho
    simp only [laOk, Bool.and_eq_true]
    exact ho.1
  have hd : sfOk (does b.1 o.deed).1 = true := by rw [does_kept hb'.1]; exact keptD_ok hb'.1
  have hr : grises laLt b.2 = true := by
    have h := hb'.2
    simp only [lasOk, Bool.and_eq_true] at h
    exact h.2
  unfold ordS
  split
  · rename_i x hxk
    split
    · exact hb
    · split
      · exact hb
      · obtain ⟨hk, hxe⟩ := List.getElem?_eq_some_iff.1 hxk
        simp only [bkOk, Bool.and_eq_true]
        refine ⟨hd, lasOk_set hb'.2 hk hx ?_⟩
        have : isCl o.client b.2[laFind b.2 o.client] = true := List.findIdx_getElem (w := hk)
        simp only [isCl, beq_iff_eq] at this
        exact this.symm
  · rename_i hxk
    simp only [bkOk, Bool.and_eq_true]
    refine ⟨hd, lasOk_put hb'.2 hx ?_⟩
    rcases ha : laAt b.2 o.client with _ | _
    · rfl
    · obtain ⟨hk, -⟩ := laAt_lt ha
      rw [find_at_place ha, List.getElem?_eq_getElem hk] at hxk
      cases hxk
theorem ordI_ok {b : Bk} {o : Or} (hb : bkOk b.1 b.2 = true) : bkOk (ordI b o).1.1 (ordI b o).1.2 = true := by
  rcases ho : orderOk o with _ | _
  · unfold ordI
    rw [if_neg (by simp [ho])]
    exact hb
  · rw [← ordS_eq hb ho]
    exact ordS_ok hb ho
/-- Many orders, one after the other. -/
def ordTo (b : Bk) (l : List Or) : Bk × List Rp := l.foldl (fun p o => ((ordI p.1 o).1, p.2 ++ [(ordI p.1 o).2])) (b, [])
theorem ordTo_succ (b : Bk) (l : List Or) (j : Nat) (hj : j < l.length) : ordTo b (l.take (j + 1)) = ((ordI (ordTo b (l.take j)).1 l[j]).1, (ordTo b (l.take j)).2 ++ [(ordI (ordTo b (l.take j)).1 l[j]).2]) := by
  unfold ordTo
  rw [List.take_succ_eq_append_getElem hj, List.foldl_append]
  rfl
theorem ordTo_ok {b : Bk} (hb : bkOk b.1 b.2 = true) (l : List Or) (j : Nat) : bkOk (ordTo b (l.take j)).1.1 (ordTo b (l.take j)).1.2 = true := by
  induction j with
  | zero => exact hb
  | succ j ih =>
    by_cases hj : j < l.length
    · rw [ordTo_succ b l j hj]
      exact ordI_ok ih
    · rw [List.take_of_length_le (by omega)] at ih ⊢
      exact ih
theorem ordTo_len (b : Bk) (l : List Or) (j : Nat) (hj : j ≤ l.length) : (ordTo b (l.take j)).2.length = j := by
  induction j with
  | zero => rfl
  | succ j ih =>
    rw [ordTo_succ b l j (by omega)]
    simp [ih (by omega)]
def allOrdered (b : Bk) (l : List Or) : Bk × List Rp := if bkOk b.1 b.2 && decide (l.length ≤ 400) then ordTo b l else (([], []), [])
end M
end Go.Proofs.YtblcgbgcccjpcaaGreat
