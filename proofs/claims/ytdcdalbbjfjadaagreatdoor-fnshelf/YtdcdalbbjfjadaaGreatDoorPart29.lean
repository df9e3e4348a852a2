/- Proved, in parts: Proved: the model's Does answers the same plain Lean function as the program's, given what its l5Do answers; nothing that was there is written. Condition: texts and lists of at most a million. -/
import Derived.Test.YtdcdalbbjfjadaaGreatDoorPart27
import Derived.Test.YtdcdalbbjfjadaaGreatDoorPart26
import Derived.Test.YtdcdalbbjfjadaaGreatDoorPart28
namespace Go.Proofs.YtdcdalbbjfjadaaGreatDoor
open Go.RowKit
set_option maxRecDepth 20000

theorem results_sDoes (v : Value) (c : Int) (p : ByteArray) (R : Nat) (W : World) (tmps : Array Value) (h4 : tmps.getD 4 undef = v) (h2 : tmps.getD 5 undef = .pointer (some ⟨R, 0, none⟩)) (hW : Holds W R (rpA c p)) :
    (results Tryz.f10 tmps).run Tryz.prog W = .ok (.tuple #[v, rpV c p]) W := by
  obtain ⟨q0, q1⟩ := hW.two
  simp at h2 h4
  simp [results, Tryz.results10, go_sem, h2, h4, q0, q1]
theorem Mem.low {w0 : World} {B : Nat} {hs : List (Nat × Array Value)} {ls : List Nat} {x y : World} (h : Mem w0 hs ls x) (hb : Below B x y) (hB : w0.heap.size ≤ B) (hne : ∀ p ∈ hs, p.1 < B) (hnl : ∀ g ∈ ls, g < B) : Mem w0 hs ls y :=
  ⟨h.1.trans (hb.mono hB), fun p hp => ⟨Nat.lt_of_lt_of_le (h.2.1 p hp).1 hb.size, fun j v hj => (hb.cell (p := ⟨p.1, j, none⟩) (hne p hp)).trans ((h.2.1 p hp).2 j v hj)⟩, fun g hg => ⟨Nat.lt_of_lt_of_le (h.2.2 g hg).1 hb.size, fun j => (hb.frozen (p := ⟨g, j, none⟩) (hnl g hg)).trans ((h.2.2 g hg).2 j)⟩⟩
/-- What l5Do leaves of a list of its own: all above B. -/
def DoIn (B : Nat) (x : World) (q : List M.Wk × M.Rp) (e : Ending) (x' : World) : Prop :=
  ∃ v l', e = .returned (.tuple #[v, rpV q.2.1 q.2.2]) ∧ SfOwn B x' v l' ∧ l'.map Wr.wk = q.1 ∧ Below B x x'
/-- The contract of l5Do that is wanted. -/
def L5Do (d : M.Dd) : Prop := ∀ (B : Nat) (A : Option Addr) (c : Nat) (rs : List Wr) (x : World), SfOwn B x (.slice A rs.length c) rs → B ≤ x.heap.size → WrsIn 1048576 rs → M.sfOk (rs.map Wr.wk) = true → M.deedOk d = true → (d.kind = 6 → M.inI d.ed.ma 0 3 = true) →
  Calls Tryz.prog 32 #[.slice A rs.length c, ddV d] x (DoIn B x (M.sDo (rs.map Wr.wk) d))

set_option maxHeartbeats 4000000 in
theorem specDoes_bad (A : Option Addr) (l : List Wr) (cap : Nat) (d : M.Dd) (w : World) (hl : Wks w A l) (hlen : l.length ≤ 1048576) (hp : WrsIn 1048576 l) (hok : M.sfOk (l.map Wr.wk) = false) :
    Calls Tryz.prog 10 #[.slice A l.length cap, ddV d] w (DoRet w (M.does (l.map Wr.wk) d)) := by
  have HP := Lib.hid hp
  have HL := Lib.hid hl
  have hm := ((Mem.start w).new (ddC d) 28).new (rpA 0 noP) 32
  have b0 := hm.1
  simp only [World.size_alloc] at hm
  clear hp hl
  have HE : Hid (M.does (l.map Wr.wk) d = ([], ((7 : Int), M.nilB))) := Lib.hid (by simp [M.does, hok])
  go_enter Tryz.func10, Tryz.ntmps10
  go_wp2_with fail
  have hcall := specShelfOk A l cap _ (HL.out.below b0) hlen HP.out
  rw [hok] at hcall
  refine hcall.mono ?_
  rintro e x1 ⟨rfl, b1⟩
  have hm1 := hm.below b1
  have hs1 := b1.size
  simp only [World.size_alloc] at hs1
  have ho0 := World.ownsRow_made (size := 3) (e := 39) x1 #[] 0 (base := w.heap.size + 2) (by omega) (Nat.zero_le _) rfl
  have hm2 := hm1.alloc (.cells #[] 39)
  clear hcall hm b0 b1 hok hm1
  obtain ⟨r0, r1⟩ := (hm2.get (w.heap.size + 1) (rpA 0 noP) (by simp)).two
  have z0 := hm2.loose (w.heap.size + 1) (by simp) 0
  have z1 := hm2.loose (w.heap.size + 1) (by simp) 1
  have HM := Lib.hid hm2
  have HO := Lib.hid ho0
  clear hm2 ho0
  go_wp2
  refine bodyPost_ret (results_sDoes (.slice (some ⟨x1.heap.size, 0, none⟩) 0 0) 7 noP (w.heap.size + 1) _ _ rfl rfl ?_) rfl ⟨_, [], by rw [HE.out]; rfl, ⟨World.ownsRow.mono (own_set (own_set HO.out (by omega) 0 _) (by omega) 1 _) (by omega), by simp, by simp, List.Pairwise.nil⟩, by rw [HE.out]; rfl, (HM.out.1.setCell (by show w.heap.size ≤ w.heap.size + 1; omega) _).setCell (by show w.heap.size ≤ w.heap.size + 1; omega) _⟩
  simpa using (((HM.out.get (w.heap.size + 1) (rpA 0 noP) (by simp)).putM 0 (.int .i64 7)).putM 1 (.string noP))

set_option maxHeartbeats 4000000 in
theorem specDoes_wrong (A : Option Addr) (l : List Wr) (cap : Nat) (d : M.Dd) (w : World) (hl : Wks w A l) (hA : ∀ r ∈ l, r.ad = none → r.cap = 0) (hlen : l.length ≤ 1048576) (hp : WrsIn 1048576 l) (hn : d.name.size ≤ 1048576) (hpg : d.page.size ≤ 1048576) (hok : M.sfOk (l.map Wr.wk) = true) (hd : M.deedOk d = false) :
    Calls Tryz.prog 10 #[.slice A l.length cap, ddV d] w (DoRet w (M.does (l.map Wr.wk) d)) := by
  have HP := Lib.hid hp
  have HL := Lib.hid hl
  have HA := Lib.hid hA
  have hm := ((Mem.start w).new (ddC d) 28).new (rpA 0 noP) 32
  have b0 := hm.1
  simp only [World.size_alloc] at hm
  clear hp hl hA
  have HE : Hid (M.does (l.map Wr.wk) d = (l.map Wr.wk, ((7 : Int), M.nilB))) := Lib.hid (by simp [M.does, hok, M.doAll, hd])
  go_enter Tryz.func10, Tryz.ntmps10
  go_wp2_with fail
  have hcall := specShelfOk A l cap _ (HL.out.below b0) hlen HP.out
  rw [hok] at hcall
  refine hcall.mono ?_
  rintro e x1 ⟨rfl, b1⟩
  have hm1 := hm.below b1
  have HL1 := Lib.hid ((HL.out.below b0).below b1)
  have hs1 := b1.size
  simp only [World.size_alloc] at hs1
  clear hcall hm b0 b1 hok
  obtain ⟨q0, q1, q2, q3, q4, q5, q6⟩ := (hm1.get w.heap.size (ddC d) (by simp)).seven
  go_wp2_with fail
  have hcall := specDeedOk d x1 (by unfold maxLen; omega) (by unfold maxLen; omega)
  rw [hd] at hcall
  refine hcall.mono ?_
  rintro e x2 ⟨rfl, b2⟩
  have hm2 := hm1.below b2
  have HL2 := Lib.hid (HL1.out.below b2)
  have hs2 := b2.size
  clear hcall hm1 b2 hd q0 q1 q2 q3 q4 q5 q6
  obtain ⟨q0, q1, q2, q3, q4, q5, q6⟩ := (hm2.get w.heap.size (ddC d) (by simp)).seven
  go_wp2_with fail
  refine (l5Copy_any A l cap x2 HL2.out HA.out hlen (fun r hr => (HP.out r hr).2.1)).mono ?_
  rintro e x3 ⟨v, rs, rfl, hrs, hs, b3⟩
  have hm3 := hm2.below b3
  clear hm2 b3 q0 q1 q2 q3 q4 q5 q6
  obtain ⟨r0, r1⟩ := (hm3.get (w.heap.size + 1) (rpA 0 noP) (by simp)).two
  have z0 := hm3.loose (w.heap.size + 1) (by simp) 0
  have z1 := hm3.loose (w.heap.size + 1) (by simp) 1
  have HM := Lib.hid hm3
  have HS := Lib.hid hs
  clear hm3 hs
  go_wp2
  refine bodyPost_ret (results_sDoes v 7 noP (w.heap.size + 1) _ _ rfl rfl ?_) rfl ⟨v, rs, by rw [HE.out]; rfl, ((HS.out.set (by omega) 0 _).set (by omega) 1 _).mono (by omega), by rw [HE.out]; exact hrs, (HM.out.1.setCell (by show w.heap.size ≤ w.heap.size + 1; omega) _).setCell (by show w.heap.size ≤ w.heap.size + 1; omega) _⟩
  simpa using (((HM.out.get (w.heap.size + 1) (rpA 0 noP) (by simp)).putM 0 (.int .i64 7)).putM 1 (.string noP))

set_option maxHeartbeats 4000000 in
theorem specDoes_other (A : Option Addr) (l : List Wr) (cap : Nat) (d : M.Dd) (w : World) (hDo : L5Do d) (hl : Wks w A l) (hA : ∀ r ∈ l, r.ad = none → r.cap = 0) (hlen : l.length ≤ 1048576) (hp : WrsIn 1048576 l) (hn : d.name.size ≤ 1048576) (hpg : d.page.size ≤ 1048576) (hok : M.sfOk (l.map Wr.wk) = true) (hd : M.deedOk d = true) (hk : ¬ d.kind = 6) :
    Calls Tryz.prog 10 #[.slice A l.length cap, ddV d] w (DoRet w (M.does (l.map Wr.wk) d)) := by
  have HP := Lib.hid hp
  have HL := Lib.hid hl
  have HA := Lib.hid hA
  have HOK := Lib.hid hok
  have HDD := Lib.hid hd
  obtain ⟨q, hq⟩ : ∃ q, M.sDo (l.map Wr.wk) d = q := ⟨_, rfl⟩
  have HE : Hid (M.does (l.map Wr.wk) d = q) := Lib.hid (by rw [← hq, M.sDo_eq hok hd (fun h => absurd h hk)]; simp [M.does, hok, M.kept])
  have HDO : Hid (∀ (B : Nat) (A5 : Option Addr) (c5 : Nat) (rs : List Wr) (x : World), rs.map Wr.wk = l.map Wr.wk → SfOwn B x (.slice A5 rs.length c5) rs → B ≤ x.heap.size → Calls Tryz.prog 32 #[.slice A5 rs.length c5, ddV d] x (DoIn B x q)) := Lib.hid (fun B A5 c5 rs x e h1 h2 => by
    have := hDo B A5 c5 rs x h1 h2 (wrs_same e hp) (by rw [e]; exact hok) hd (fun h => absurd h hk)
    rw [e, hq] at this
    exact this)
  have hm := ((Mem.start w).new (ddC d) 28).new (rpA 0 noP) 32
  have b0 := hm.1
  simp only [World.size_alloc] at hm
  clear hp hl hA hok hd hq hDo
  go_enter Tryz.func10, Tryz.ntmps10
  go_wp2_with fail
  have hcall := specShelfOk A l cap _ (HL.out.below b0) hlen HP.out
  rw [HOK.out] at hcall
  refine hcall.mono ?_
  rintro e x1 ⟨rfl, b1⟩
  have hm1 := hm.below b1
  have hs1 := b1.size
  simp only [World.size_alloc] at hs1
  clear hcall hm b0 b1
  obtain ⟨q0, q1, q2, q3, q4, q5, q6⟩ := (hm1.get w.heap.size (ddC d) (by simp)).seven
  go_wp2_with fail
  have hcall := specDeedOk d x1 (by unfold maxLen; omega) (by unfold maxLen; omega)
  rw [HDD.out] at hcall
  refine hcall.mono ?_
  rintro e x2 ⟨rfl, b2⟩
  have hm2 := hm1.below b2
  have hs2 := b2.size
  clear hcall hm1 b2 q0 q1 q2 q3 q4 q5 q6
  obtain ⟨q0, q1, q2, q3, q4, q5, q6⟩ := (hm2.get w.heap.size (ddC d) (by simp)).seven
  go_wp2_with fail
  have hmr := hm2.re (hs' := [(w.heap.size + 1, rpA 0 noP), (w.heap.size, ddC d)]) (ls' := [w.heap.size + 1]) (by simp) (by simp)
  have HM := Lib.hid hmr
  have HGET := Lib.hid (fun (x : World) (h : Mem w [(w.heap.size + 1, rpA 0 noP), (w.heap.size, ddC d)] [w.heap.size + 1] x) => (h.get w.heap.size (ddC d) (by simp)).seven)
  clear hm2 hmr q0 q1 q2 q3 q4 q5 q6
  refine wp_region_fin 7 (fun x => Mem w [(w.heap.size + 1, rpA 0 noP), (w.heap.size, ddC d)] [w.heap.size + 1] x) [(0, true), (2, true), (1, false), (3, false), (4, true), (5, true), (6, true), (7, false)] (by kernel_rfl) (by kernel_rfl) (fun _ _ _ _ _ h => h) (by kernel_rfl) (by decide) HM.out.drew ?_
  intro hHeld
  repeat (first
    | (refine seqF_reads (by simp only [List.getElem?_toArray, List.getElem?_cons_succ, List.getElem?_cons_zero]; first | done | rfl) (by rfl) ?_; apply Exists.intro; apply And.intro; (focus (intro w hSw; (try (replace hSw := hSw (by decide +kernel))); (try (obtain ⟨q0, q1, q2, q3, q4, q5, q6⟩ := HGET.out _ hSw)); go_simp; (try with_reducible rfl); done)); (try simp only [Act.put, List.setIfInBounds_toArray, List.set_cons_zero, List.set_cons_succ]))
    | (refine seqF_call (by simp only [List.getElem?_toArray, List.getElem?_cons_succ, List.getElem?_cons_zero]; first | done | rfl) (by rfl) (fun K hK => ?_) (by decide); go_simp; go_at_call 31; refine (l5Copy_any A l cap _ (HL.out.below hHeld.1) HA.out hlen (fun r hr => (HP.out r hr).2.1)).mono ?_; rintro r w1 ⟨v, rs, rfl, hrs, hs, b5⟩; (have HSY := Lib.hid (hHeld.get (w.heap.size + 1) (rpA 0 noP) (by simp)).1); go_simp; refine hK.out _ _ _ (fun _ h => h) (hHeld.below b5) ?_; clear hK hHeld; intro hHeld; obtain ⟨A5, c5, rfl, hc5, hw5⟩ := hs.open; (have HSF := Lib.hid hs); (have HRS := Lib.hid hrs); (have HB5 := Lib.hid b5.size); clear hs hrs b5 hc5 hw5; (try simp only [Act.put, List.setIfInBounds_toArray, List.set_cons_zero, List.set_cons_succ]))
    | (refine seqF_call (by simp only [List.getElem?_toArray, List.getElem?_cons_succ, List.getElem?_cons_zero]; first | done | rfl) (by rfl) (fun K hK => ?_) (by decide); go_simp; go_at_call 32; refine (HDO.out _ A5 c5 rs _ HRS.out HSF.out HB5.out).mono ?_; rintro r w1 ⟨v', rs', rfl, hs', hrs', b6⟩; go_simp; refine hK.out _ _ _ (fun _ h => h) (hHeld.low b6 (by have := HSY.out; omega) (by have := HSY.out; simp; omega) (by have := HSY.out; simp; omega)) ?_; clear hK hHeld; intro hHeld; (have HSF' := Lib.hid hs'); (have HRS' := Lib.hid hrs'); clear hs' hrs' b6; (try simp only [Act.put, List.setIfInBounds_toArray, List.set_cons_zero, List.set_cons_succ]))
    | (refine seqF_last (by simp only [List.getElem?_toArray, List.getElem?_cons_succ, List.getElem?_cons_zero]; first | done | rfl) (by rfl) (fun K hK => ?_); have hD := hHeld; obtain ⟨r0, r1⟩ := (hD.get (w.heap.size + 1) (rpA 0 noP) (by simp)).two; have z0 := hD.loose (w.heap.size + 1) (by simp) 0; have z1 := hD.loose (w.heap.size + 1) (by simp) 1; go_simp; refine hK.out _ _ ?_; clear hK; clear r0 r1 z0 z1 hD; (have HD := Lib.hid hHeld); clear hHeld; (try simp only [Act.put, List.setIfInBounds_toArray, List.set_cons_zero, List.set_cons_succ])))
  refine seqF_end ?_
  go_wp2
  refine bodyPost_ret (results_sDoes v' q.2.1 q.2.2 (w.heap.size + 1) _ _ rfl rfl ?_) rfl ⟨v', rs', by rw [HE.out], ((HSF'.out.set (by have := HSY.out; omega) 0 _).set (by have := HSY.out; omega) 1 _).mono (by have := HSY.out; omega), by rw [HE.out]; exact HRS'.out, (HD.out.1.setCell (by show w.heap.size ≤ w.heap.size + 1; omega) _).setCell (by show w.heap.size ≤ w.heap.size + 1; omega) _⟩
  simpa using (((HD.out.get (w.heap.size + 1) (rpA 0 noP) (by simp)).putM 0 (.int .i64 q.2.1)).putM 1 (.string q.2.2))

set_option maxHeartbeats 4000000 in
theorem specDoes_give (A : Option Addr) (l : List Wr) (cap : Nat) (d : M.Dd) (w : World) (hDo : L5Do d) (hl : Wks w A l) (hA : ∀ r ∈ l, r.ad = none → r.cap = 0) (hlen : l.length ≤ 1048576) (hp : WrsIn 1048576 l) (hn : d.name.size ≤ 1048576) (hpg : d.page.size ≤ 1048576) (hok : M.sfOk (l.map Wr.wk) = true) (hd : M.deedOk d = true) (hk : d.kind = 6) (hw : M.inI d.ed.ma 0 3 = true) :
    Calls Tryz.prog 10 #[.slice A l.length cap, ddV d] w (DoRet w (M.does (l.map Wr.wk) d)) := by
  have HP := Lib.hid hp
  have HL := Lib.hid hl
  have HA := Lib.hid hA
  have HOK := Lib.hid hok
  have HDD := Lib.hid hd
  obtain ⟨q, hq⟩ : ∃ q, M.sDo (l.map Wr.wk) d = q := ⟨_, rfl⟩
  have HE : Hid (M.does (l.map Wr.wk) d = q) := Lib.hid (by rw [← hq, M.sDo_eq hok hd (fun _ => hw)]; simp [M.does, hok, M.kept])
  have HDO : Hid (∀ (B : Nat) (A5 : Option Addr) (c5 : Nat) (rs : List Wr) (x : World), rs.map Wr.wk = l.map Wr.wk → SfOwn B x (.slice A5 rs.length c5) rs → B ≤ x.heap.size → Calls Tryz.prog 32 #[.slice A5 rs.length c5, ddV d] x (DoIn B x q)) := Lib.hid (fun B A5 c5 rs x e h1 h2 => by
    have := hDo B A5 c5 rs x h1 h2 (wrs_same e hp) (by rw [e]; exact hok) hd (fun _ => hw)
    rw [e, hq] at this
    exact this)
  have hm := ((Mem.start w).new (ddC d) 28).new (rpA 0 noP) 32
  have b0 := hm.1
  simp only [World.size_alloc] at hm
  have HK := Lib.hid hk
  have HW := Lib.hid hw
  clear hp hl hA hok hd hq hDo hk hw
  go_enter Tryz.func10, Tryz.ntmps10
  go_wp2_with fail
  have hcall := specShelfOk A l cap _ (HL.out.below b0) hlen HP.out
  rw [HOK.out] at hcall
  refine hcall.mono ?_
  rintro e x1 ⟨rfl, b1⟩
  have hm1 := hm.below b1
  have hs1 := b1.size
  simp only [World.size_alloc] at hs1
  clear hcall hm b0 b1
  obtain ⟨q0, q1, q2, q3, q4, q5, q6⟩ := (hm1.get w.heap.size (ddC d) (by simp)).seven
  go_wp2_with fail
  have hcall := specDeedOk d x1 (by unfold maxLen; omega) (by unfold maxLen; omega)
  rw [HDD.out] at hcall
  refine hcall.mono ?_
  rintro e x2 ⟨rfl, b2⟩
  have hm2 := hm1.below b2
  have hs2 := b2.size
  clear hcall hm1 b2 q0 q1 q2 q3 q4 q5 q6
  obtain ⟨q0, q1, q2, q3, q4, q5, q6⟩ := (hm2.get w.heap.size (ddC d) (by simp)).seven
  have hk6 := HK.out
  go_wp2_with fail
  refine (l3Who_any d.ed.ma x2).mono ?_
  rintro e x3 ⟨rfl, rfl⟩
  rw [HW.out]
  clear hk6
  go_wp2_with fail
  have hmr := hm2.re (hs' := [(w.heap.size + 1, rpA 0 noP), (w.heap.size, ddC d)]) (ls' := [w.heap.size + 1]) (by simp) (by simp)
  have HM := Lib.hid hmr
  have HGET := Lib.hid (fun (x : World) (h : Mem w [(w.heap.size + 1, rpA 0 noP), (w.heap.size, ddC d)] [w.heap.size + 1] x) => (h.get w.heap.size (ddC d) (by simp)).seven)
  clear hm2 hmr q0 q1 q2 q3 q4 q5 q6
  refine wp_region_fin 7 (fun x => Mem w [(w.heap.size + 1, rpA 0 noP), (w.heap.size, ddC d)] [w.heap.size + 1] x) [(0, true), (2, true), (1, false), (3, false), (4, true), (5, true), (6, true), (7, false)] (by kernel_rfl) (by kernel_rfl) (fun _ _ _ _ _ h => h) (by kernel_rfl) (by decide) HM.out.drew ?_
  intro hHeld
  repeat (first
    | (refine seqF_reads (by simp only [List.getElem?_toArray, List.getElem?_cons_succ, List.getElem?_cons_zero]; first | done | rfl) (by rfl) ?_; apply Exists.intro; apply And.intro; (focus (intro w hSw; (try (replace hSw := hSw (by decide +kernel))); (try (obtain ⟨q0, q1, q2, q3, q4, q5, q6⟩ := HGET.out _ hSw)); go_simp; (try with_reducible rfl); done)); (try simp only [Act.put, List.setIfInBounds_toArray, List.set_cons_zero, List.set_cons_succ]))
    | (refine seqF_call (by simp only [List.getElem?_toArray, List.getElem?_cons_succ, List.getElem?_cons_zero]; first | done | rfl) (by rfl) (fun K hK => ?_) (by decide); go_simp; go_at_call 31; refine (l5Copy_any A l cap _ (HL.out.below hHeld.1) HA.out hlen (fun r hr => (HP.out r hr).2.1)).mono ?_; rintro r w1 ⟨v, rs, rfl, hrs, hs, b5⟩; (have HSY := Lib.hid (hHeld.get (w.heap.size + 1) (rpA 0 noP) (by simp)).1); go_simp; refine hK.out _ _ _ (fun _ h => h) (hHeld.below b5) ?_; clear hK hHeld; intro hHeld; obtain ⟨A5, c5, rfl, hc5, hw5⟩ := hs.open; (have HSF := Lib.hid hs); (have HRS := Lib.hid hrs); (have HB5 := Lib.hid b5.size); clear hs hrs b5 hc5 hw5; (try simp only [Act.put, List.setIfInBounds_toArray, List.set_cons_zero, List.set_cons_succ]))
    | (refine seqF_call (by simp only [List.getElem?_toArray, List.getElem?_cons_succ, List.getElem?_cons_zero]; first | done | rfl) (by rfl) (fun K hK => ?_) (by decide); go_simp; go_at_call 32; refine (HDO.out _ A5 c5 rs _ HRS.out HSF.out HB5.out).mono ?_; rintro r w1 ⟨v', rs', rfl, hs', hrs', b6⟩; go_simp; refine hK.out _ _ _ (fun _ h => h) (hHeld.low b6 (by have := HSY.out; omega) (by have := HSY.out; simp; omega) (by have := HSY.out; simp; omega)) ?_; clear hK hHeld; intro hHeld; (have HSF' := Lib.hid hs'); (have HRS' := Lib.hid hrs'); clear hs' hrs' b6; (try simp only [Act.put, List.setIfInBounds_toArray, List.set_cons_zero, List.set_cons_succ]))
    | (refine seqF_last (by simp only [List.getElem?_toArray, List.getElem?_cons_succ, List.getElem?_cons_zero]; first | done | rfl) (by rfl) (fun K hK => ?_); have hD := hHeld; obtain ⟨r0, r1⟩ := (hD.get (w.heap.size + 1) (rpA 0 noP) (by simp)).two; have z0 := hD.loose (w.heap.size + 1) (by simp) 0; have z1 := hD.loose (w.heap.size + 1) (by simp) 1; go_simp; refine hK.out _ _ ?_; clear hK; clear r0 r1 z0 z1 hD; (have HD := Lib.hid hHeld); clear hHeld; (try simp only [Act.put, List.setIfInBounds_toArray, List.set_cons_zero, List.set_cons_succ])))
  refine seqF_end ?_
  go_wp2
  refine bodyPost_ret (results_sDoes v' q.2.1 q.2.2 (w.heap.size + 1) _ _ rfl rfl ?_) rfl ⟨v', rs', by rw [HE.out], ((HSF'.out.set (by have := HSY.out; omega) 0 _).set (by have := HSY.out; omega) 1 _).mono (by have := HSY.out; omega), by rw [HE.out]; exact HRS'.out, (HD.out.1.setCell (by show w.heap.size ≤ w.heap.size + 1; omega) _).setCell (by show w.heap.size ≤ w.heap.size + 1; omega) _⟩
  simpa using (((HD.out.get (w.heap.size + 1) (rpA 0 noP) (by simp)).putM 0 (.int .i64 q.2.1)).putM 1 (.string q.2.2))

set_option maxHeartbeats 4000000 in
theorem specDoes_who (A : Option Addr) (l : List Wr) (cap : Nat) (d : M.Dd) (w : World) (hl : Wks w A l) (hA : ∀ r ∈ l, r.ad = none → r.cap = 0) (hlen : l.length ≤ 1048576) (hp : WrsIn 1048576 l) (hn : d.name.size ≤ 1048576) (hpg : d.page.size ≤ 1048576) (hok : M.sfOk (l.map Wr.wk) = true) (hd : M.deedOk d = true) (hk : d.kind = 6) (hw : M.inI d.ed.ma 0 3 = false) :
    Calls Tryz.prog 10 #[.slice A l.length cap, ddV d] w (DoRet w (M.does (l.map Wr.wk) d)) := by
  have HP := Lib.hid hp
  have HL := Lib.hid hl
  have HA := Lib.hid hA
  have HOK := Lib.hid hok
  have HDD := Lib.hid hd
  have HE : Hid (M.does (l.map Wr.wk) d = (l.map Wr.wk, ((7 : Int), M.nilB))) := Lib.hid (by simp [M.does, hok, M.doAll, hd, hk, M.doGive, hw])
  have hm := ((Mem.start w).new (ddC d) 28).new (rpA 0 noP) 32
  have b0 := hm.1
  simp only [World.size_alloc] at hm
  have HK := Lib.hid hk
  have HW := Lib.hid hw
  clear hp hl hA hok hd hk hw
  go_enter Tryz.func10, Tryz.ntmps10
  go_wp2_with fail
  have hcall := specShelfOk A l cap _ (HL.out.below b0) hlen HP.out
  rw [HOK.out] at hcall
  refine hcall.mono ?_
  rintro e x1 ⟨rfl, b1⟩
  have hm1 := hm.below b1
  have hs1 := b1.size
  simp only [World.size_alloc] at hs1
  clear hcall hm b0 b1
  obtain ⟨q0, q1, q2, q3, q4, q5, q6⟩ := (hm1.get w.heap.size (ddC d) (by simp)).seven
  go_wp2_with fail
  have hcall := specDeedOk d x1 (by unfold maxLen; omega) (by unfold maxLen; omega)
  rw [HDD.out] at hcall
  refine hcall.mono ?_
  rintro e x2 ⟨rfl, b2⟩
  have hm2 := hm1.below b2
  have hs2 := b2.size
  clear hcall hm1 b2 q0 q1 q2 q3 q4 q5 q6
  obtain ⟨q0, q1, q2, q3, q4, q5, q6⟩ := (hm2.get w.heap.size (ddC d) (by simp)).seven
  have hk6 := HK.out
  go_wp2_with fail
  refine (l3Who_any d.ed.ma x2).mono ?_
  rintro e x3 ⟨rfl, rfl⟩
  rw [HW.out]
  clear hk6
  go_wp2_with fail
  refine (l5Copy_any A l cap x2 (HL.out.below hm2.1) HA.out hlen (fun r hr => (HP.out r hr).2.1)).mono ?_
  rintro e x3 ⟨v, rs, rfl, hrs, hs, b3⟩
  have hm3 := hm2.below b3
  clear hm2 b3 q0 q1 q2 q3 q4 q5 q6
  obtain ⟨r0, r1⟩ := (hm3.get (w.heap.size + 1) (rpA 0 noP) (by simp)).two
  have z0 := hm3.loose (w.heap.size + 1) (by simp) 0
  have z1 := hm3.loose (w.heap.size + 1) (by simp) 1
  have HM := Lib.hid hm3
  have HS := Lib.hid hs
  clear hm3 hs
  go_wp2
  refine bodyPost_ret (results_sDoes v 7 noP (w.heap.size + 1) _ _ rfl rfl ?_) rfl ⟨v, rs, by rw [HE.out]; rfl, ((HS.out.set (by omega) 0 _).set (by omega) 1 _).mono (by omega), by rw [HE.out]; exact hrs, (HM.out.1.setCell (by show w.heap.size ≤ w.heap.size + 1; omega) _).setCell (by show w.heap.size ≤ w.heap.size + 1; omega) _⟩
  simpa using (((HM.out.get (w.heap.size + 1) (rpA 0 noP) (by simp)).putM 0 (.int .i64 7)).putM 1 (.string noP))

theorem specDoes_of (A : Option Addr) (l : List Wr) (cap : Nat) (d : M.Dd) (w : World) (hDo : L5Do d) (hl : Wks w A l) (hA : ∀ r ∈ l, r.ad = none → r.cap = 0) (hlen : l.length ≤ 1048576) (hp : WrsIn 1048576 l) (hn : d.name.size ≤ 1048576) (hpg : d.page.size ≤ 1048576) :
    Calls Tryz.prog 10 #[.slice A l.length cap, ddV d] w (DoRet w (M.does (l.map Wr.wk) d)) := by
  rcases hok : M.sfOk (l.map Wr.wk) with _ | _
  · exact specDoes_bad A l cap d w hl hlen hp hok
  · rcases hd : M.deedOk d with _ | _
    · exact specDoes_wrong A l cap d w hl hA hlen hp hn hpg hok hd
    · by_cases hk : d.kind = 6
      · rcases hw : M.inI d.ed.ma 0 3 with _ | _
        · exact specDoes_who A l cap d w hl hA hlen hp hn hpg hok hd hk hw
        · exact specDoes_give A l cap d w hDo hl hA hlen hp hn hpg hok hd hk hw
      · exact specDoes_other A l cap d w hDo hl hA hlen hp hn hpg hok hd hk
end Go.Proofs.YtdcdalbbjfjadaaGreatDoor
