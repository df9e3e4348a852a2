/- Proved, in parts: Proved: the model's copy of a book is the same book in new memory; it writes nothing that was there. Condition: lists of at most a million. Proved: what the model's l6Order does where the client has a last: the same order, an older one, a newer one. Condition: a right book of its own. -/
import Derived.Test.YtblcgbgcccjpcaaGreatPart25
import Derived.Test.YtblcgbgcccjpcaaGreatPart29
import Derived.Test.YtblcgbgcccjpcaaGreatPart32
namespace Go.Proofs.YtblcgbgcccjpcaaGreat
open Go.RowKit
set_option maxRecDepth 20000
theorem SfOwn.kept {B : Nat} {w w' : World} {v : Value} {l : List Wr} {row : Option Nat} (h : SfOwn B w v l) (hg : w.grownBy w' row) (hne : ∀ g, row = some g → ¬ blocksS v l g) : SfOwn B w' v l :=
  ⟨World.ownsRow.kept h.1 hg (own_two (fun z hz e => hne z e (.inl hz))), fun r hr => World.ownsRow.kept (h.2.1 r hr) hg (own_two (fun z hz e => hne z e (.inr ⟨r, hr, hz⟩))), h.2.2⟩
theorem ap_new {B : Nat} {Y : World} {v : Value} {l : List Wr} (h : SfOwn B Y v l) : ∀ z, some Y.heap.size = some z → ¬ blocksS v l z := fun z hz e => by
  have := (h.ge e).2
  injection hz with hz
  omega
theorem ap_old {B t k n : Nat} {Y Y' : World} {v0 v : Value} {l : List Wr} {xs : List Value} (e0 : Y.ownsRow B t k v0 n xs) (h : SfOwn Y.heap.size Y' v l) : ∀ z, v0.ownBlock = some z → ¬ blocksS v l z := fun z hz e => by
  have := (h.ge e).1
  have := (World.ownsRow.lt e0 z hz).2
  omega
theorem ap_grown {B : Nat} {Y : World} {v : Value} {l : List Wr} {o o' : Option Nat} (ap : ∀ z, o = some z → ¬ blocksS v l z) (h : SfOwn B Y v l) (hat : o' = o ∨ o' = some Y.heap.size) : ∀ z, o' = some z → ¬ blocksS v l z := fun z hz => by
  rcases hat with e | e
  · exact ap z (e ▸ hz)
  · exact ap_new h z (e ▸ hz)
theorem e0lt {B t k n g : Nat} {Y : World} {v0 : Value} {xs : List Value} (e0 : Y.ownsRow B t k v0 n xs) (hg : g < B) : ∀ z, v0.ownBlock = some z → z ≠ g := fun z hz e => by
  have := (World.ownsRow.lt e0 z hz).1
  omega
theorem tq_madeL {P : Program} {ops : Array Oper} {Q : Exit → Act → World → Prop} {S : World → Prop} {t : Tq} {a : Act} {Y : World} {WB : Nat} {ty : TypeId} (hb : WB ≤ Y.heap.size)
    (h : ∀ x, Below Y.heap.size Y x → x.ownsRow WB 59 4 (.slice (some ⟨Y.heap.size, 0, none⟩) 0 0) 0 [] → S x → TqV P ops Q t S a x) (hS : S (Y.alloc (.cells #[] ty))) (hty : ty = 59 := by rfl) : TqV P ops Q t S a (Y.alloc (.cells #[] ty)) := by
  subst hty
  exact h _ ((Below.refl _ _).alloc (Nat.le_refl _) _) (World.ownsRow_made (size := 4) (e := 59) Y #[] 0 hb (Nat.zero_le _) rfl) hS
/-- e answers the book q in memory of its own from block B on. -/
def BkNew (B : Nat) (w : World) (q : M.Bk) (e : Ending) (w' : World) : Prop :=
  ∃ v1 v2 rs, e = .returned (.agg #[v1, v2]) ∧ SfOwn B w' v1 rs ∧ rs.map Wr.wk = q.1 ∧ LasOwn B w' v2 q.2 ∧ (∀ g, v2.ownBlock = some g → ¬ blocksS v1 rs g) ∧ Below w.heap.size w w'
theorem results_l6Copy (a b : Value) (R : Nat) (W : World) (tmps : Array Value) (h2 : tmps.getD 2 undef = .pointer (some ⟨R, 0, none⟩)) (hW : Holds W R #[a, b]) :
    (results Tryz.f76 tmps).run Tryz.prog W = .ok (.agg #[a, b]) W := by
  obtain ⟨q0, q1⟩ := hW.two
  simp at h2
  simp [results, Tryz.results76, go_sem, h2, q0, q1]
set_option maxHeartbeats 4000000 in
theorem l6Copy_any (A : Option Addr) (l : List Wr) (cap : Nat) (A2 : Option Addr) (m : List M.La) (cb : Nat) (w : World) (hl : Wks w A l) (hA : ∀ r ∈ l, r.ad = none → r.cap = 0) (hlen : l.length ≤ 1048576) (hp : ∀ r ∈ l, r.cps.length ≤ 1048576) (hm : Las w A2 m) (hN : A2 = none → cb = 0) (hml : m.length ≤ 1048576) :
    Calls Tryz.prog 76 #[bkV A l.length cap A2 m.length cb] w (BkNew w.heap.size w (l.map Wr.wk, m)) := by
  obtain ⟨i0, hi, hz0, hz1, hz2⟩ := info_parts infoLas
  have HL := Lib.hid hl
  have HA := Lib.hid hA
  have HC := Lib.hid hp
  have HM := Lib.hid hm
  have HN := Lib.hid hN
  clear hl hA hp hm hN
  have hM := ((Mem.start w).new (bkA A l.length cap A2 m.length cb) 27).new (bkA none 0 0 none 0 0) 27
  simp only [World.size_alloc] at hM
  go_enter Tryz.func76, Tryz.ntmps76
  go_upto_region 1 with (fail)
  generalize (w.alloc (.cells (bkA A l.length cap A2 m.length cb) 27)).alloc (.cells (bkA none 0 0 none 0 0) 27) = W1 at hM ⊢
  obtain ⟨p0, p1⟩ := (hM.get w.heap.size (bkA A l.length cap A2 m.length cb) (by simp)).two
  have dr := (Below.refl W1.heap.size W1).drew
  have HR := Lib.hid (show _ ∧ _ from ⟨(hM.get (w.heap.size + 1) (bkA none 0 0 none 0 0) (by simp)).below dr, (hM.loose (w.heap.size + 1) (by simp)).below (hM.get (w.heap.size + 1) (bkA none 0 0 none 0 0) (by simp)).1 dr⟩)
  have HP := Lib.hid (show _ ∧ _ ∧ _ from ⟨hM.1.drew, (hM.get w.heap.size (bkA A l.length cap A2 m.length cb) (by simp)).below dr, (show w.heap.size + 2 ≤ W1.heap.size from (hM.get (w.heap.size + 1) (bkA none 0 0 none 0 0) (by simp)).1)⟩)
  clear hM p0 p1 dr
  refine wp_region_tq (fun y => Below w.heap.size w y ∧ Holds y w.heap.size (bkA A l.length cap A2 m.length cb) ∧ w.heap.size + 2 ≤ y.heap.size) (.read 0 (.read 1 (.read 4 (.read 5 (.two 2 3 (.one 3 (.one 6 (.read 7 (.one 8 .done)))) (.one 2 (.one 6 (.read 7 (.one 8 .done))))))))) (by kernel_rfl) (by kernel_rfl) (fun _ _ _ _ _ h => h) (by kernel_rfl) (by decide) HP.out ?_
  intro hHeld
  generalize W1.drew = wd at hHeld HR ⊢
  repeat (first
    | (refine tq_reads (by simp only [List.getElem?_toArray, List.getElem?_cons_succ, List.getElem?_cons_zero]; first | done | rfl) (by rfl) ?_; apply Exists.intro; apply And.intro; (focus (intro w hSw; obtain ⟨k0, k1⟩ := hSw.2.1.two; go_simp; (try with_reducible rfl); done)); (try simp only [Act.put, List.setIfInBounds_toArray, List.set_cons_zero, List.set_cons_succ]))
    | (refine tq_two ?_ ?_)
    | (refine tq_three ?_ ?_ ?_)
    | (refine tq_one (by simp only [List.getElem?_toArray, List.getElem?_cons_succ, List.getElem?_cons_zero]; first | done | rfl) (by rfl) (fun K hK => ?_); go_simp; go_at_call 128; refine (l5Copy_any A l cap _ (HL.out.below hHeld.1) HA.out hlen HC.out).mono ?_; rintro r w1 ⟨v1, rs, rfl, hmap, hsf, b1⟩; (try (have ap := ap_old e0 hsf; replace e0 := Own.below e0 b1)); (replace HR := Lib.hid (show _ ∧ _ from ⟨HR.out.1.below b1, HR.out.2.below HR.out.1.1 b1⟩)); obtain ⟨A1, c1, rfl, -, -⟩ := hsf.open; (have HS := Lib.hid (hsf.mono hHeld.2.2)); clear hsf; go_simp; refine hK.out _ _ _ (fun _ h => h) ⟨next hHeld.1 b1, hHeld.2.1.below b1, Nat.le_trans hHeld.2.2 b1.size⟩ ?_; clear hK hHeld b1; intro hHeld; (try simp only [Act.put, List.setIfInBounds_toArray, List.set_cons_zero, List.set_cons_succ]))
    | (refine tq_one (by simp only [List.getElem?_toArray, List.getElem?_cons_succ, List.getElem?_cons_zero]; first | done | rfl) (by rfl) (fun K hK => ?_); go_simp; refine hK.out _ _ _ (fun _ h => h) ⟨hHeld.1.alloc hHeld.1.size _, hHeld.2.1.alloc _, by have := hHeld.2.2; simp only [World.size_alloc]; omega⟩ ?_; clear hK; intro hS; refine tq_madeL hHeld.2.2 ?_ hS; clear hS; intro wA bA e0 hS; (replace HR := Lib.hid (show _ ∧ _ from ⟨HR.out.1.below bA, HR.out.2.below HR.out.1.1 bA⟩)); (try (have ap := ap_new HS.out; replace HS := Lib.hid (HS.out.below bA))); clear hHeld; have hHeld := hS; clear hS bA; (try simp only [Act.put, List.setIfInBounds_toArray, List.set_cons_zero, List.set_cons_succ]))
    | (refine tq_one (by simp only [List.getElem?_toArray, List.getElem?_cons_succ, List.getElem?_cons_zero]; first | done | rfl) (by rfl) (fun K hK => ?_); refine wp_append_flat_at (k := 4) (enc := laL) (l := m) _ _ 25 rfl (w.heap.size + 2) 59 i0 _ 40 Tryz.underlying25 hi hz0 hz1 hz2 rfl (by decide) _ _ _ rfl e0 A2 cb rfl HN.out (HM.out.below hHeld.1) laL_len (la_one _) (by unfold maxLen; omega) (by omega) hHeld.2.2 ?_; intro v9 w9 own9 grow9 at9; (have lt0 := fun z (hz : _ = some z) => World.ownsRow.lt e0 z hz); (have ap9 := ap_grown ap HS.out at9); (replace HS := Lib.hid (HS.out.kept grow9 ap)); (replace HR := Lib.hid (show _ ∧ _ from ⟨grown_holds HR.out.1 grow9 (fun h => ((e0lt e0 (by omega)) _ h.symm) rfl), grown_loose HR.out.2 HR.out.1.1 grow9 (fun h => ((e0lt e0 (by omega)) _ h.symm) rfl)⟩)); (have hh2 := grown_holds hHeld.2.1 grow9 (fun h => ((e0lt e0 (by omega)) _ h.symm) rfl)); (have bg := hHeld.1.grown grow9 hHeld.1.size (fun z hz => by have := (lt0 z hz).1; omega)); rw [Nat.zero_add, List.nil_append] at own9; (have e4 := Lib.hid own9); obtain ⟨A4, c4, rfl⟩ := row_form own9; (have AP := Lib.hid ap9); refine hK.out _ _ _ (fun _ h => h) ⟨bg, hh2, Nat.le_trans hHeld.2.2 grow9.size⟩ ?_; clear own9 e0 grow9 at9 lt0 ap ap9 hK hHeld bg hh2; intro hHeld; (try simp only [Act.put, List.setIfInBounds_toArray, List.set_cons_zero, List.set_cons_succ]))
    | (refine tq_one (by simp only [List.getElem?_toArray, List.getElem?_cons_succ, List.getElem?_cons_zero]; first | done | rfl) (by rfl) (fun K hK => ?_); obtain ⟨x0, x1⟩ := HR.out.1.two; (have y0 := HR.out.2 0); (have y1 := HR.out.2 1); go_simp; refine hK.out _ _ _ (fun _ h => h) ⟨far_2 hHeld.1 (by omega) _ _, (hHeld.2.1.otherM (by omega)).otherM (by omega), by simpa using hHeld.2.2⟩ ?_; clear hK hHeld; intro hHeld; clear x0 x1 y0 y1; (try simp only [Act.put, List.setIfInBounds_toArray, List.set_cons_zero, List.set_cons_succ]))
    | (refine tq_end ?_; have HH := Lib.hid hHeld; clear hHeld; go_wp2; refine bodyPost_ret (results_l6Copy (.slice A1 rs.length c1) (.slice A4 m.length c4) (w.heap.size + 1) _ _ rfl (HR.out.1.wr2 _ _)) rfl ⟨_, _, rs, rfl, (HS.out.off2 (fun e => by have := (HS.out.ge e).1; omega) _ _).mono (by omega), hmap, LasOwn.mono (own_set (own_set e4.out (by omega) _ _) (by omega) _ _) (by omega), AP.out, HH.out.1⟩))
end Go.Proofs.YtblcgbgcccjpcaaGreat
namespace Go.Proofs.YtblcgbgcccjpcaaGreat
open Go.RowKit
set_option maxRecDepth 20000
/-- e answers the book and the reply of q, in memory from block B on. -/
def OrIn (B : Nat) (x : World) (q : M.Bk × M.Rp) (e : Ending) (x' : World) : Prop :=
  ∃ v1 v2 rs', e = .returned (.tuple #[.agg #[v1, v2], rpV q.2.1 q.2.2]) ∧ SfOwn B x' v1 rs' ∧ rs'.map Wr.wk = q.1.1 ∧ LasOwn B x' v2 q.1.2 ∧ (∀ g, v2.ownBlock = some g → ¬ blocksS v1 rs' g) ∧ Below B x x'
theorem Mem.off {w0 : World} {g j : Nat} {v : Value} {hs : List (Nat × Array Value)} {ls : List Nat} {x : World} (h : Mem w0 hs ls x) (hg : w0.heap.size ≤ g) (hn : ∀ p ∈ hs, p.1 ≠ g) : Mem w0 hs ls (x.setCell ⟨g, j, none⟩ v) :=
  ⟨farM h.1 hg j v, fun p hp => (h.2.1 p hp).otherM (hn p hp), fun k hk => ⟨by simpa using (h.2.2 k hk).1, fun i => by rw [World.frozen?_setCell]; exact (h.2.2 k hk).2 i⟩⟩
theorem results_sOrd (a b : Value) (c : Int) (p : ByteArray) (R T : Nat) (W : World) (tmps : Array Value) (h4 : tmps.getD 4 undef = .pointer (some ⟨R, 0, none⟩)) (h5 : tmps.getD 5 undef = .pointer (some ⟨T, 0, none⟩)) (hR : Holds W R #[a, b]) (hT : Holds W T (rpA c p)) :
    (results Tryz.f77 tmps).run Tryz.prog W = .ok (.tuple #[.agg #[a, b], rpV c p]) W := by
  obtain ⟨q0, q1⟩ := hR.two
  obtain ⟨r0, r1⟩ := hT.two
  simp at h4 h5
  simp [results, Tryz.results77, go_sem, h4, h5, q0, q1, r0, r1]
theorem SfOwn.offN {B g : Nat} {w : World} {v : Value} {l : List Wr} (h : SfOwn B w v l) (hne : ¬ blocksS v l g) (i : Nat) (u : Value) : SfOwn B (w.setCell ⟨g, i, none⟩ u) v l :=
  h.far (fun e => hne (.inl e)) (fun r hr e => hne (.inr ⟨r, hr, e⟩)) i u
theorem LasOwn.ne {B k : Nat} {w : World} {v : Value} {l : List M.La} (h : LasOwn B w v l) (hn : w.heap.size ≤ k) : v.ownBlock ≠ some k := fun e => by
  have := (World.ownsRow.lt h k e).2
  omega
set_option maxHeartbeats 4000000 in
theorem l6Order_old (B : Nat) (A : Option Addr) (c g c2 : Nat) (rs : List Wr) (ls : List M.La) (x : World) (o : M.Or) (hs : SfOwn B x (.slice A rs.length c) rs) (hla : LasOwn B x (.slice (some ⟨g, 0, none⟩) ls.length c2) ls) (hap : ¬ blocksS (.slice A rs.length c) rs g) (hB : B ≤ x.heap.size) (hml : ls.length ≤ 1048576) (k : Nat) (hk : k < ls.length) (hf : M.laFind ls o.client = k) (hq : o.seq < ls[k].seq) :
    Calls Tryz.prog 77 #[bkV A rs.length c (some ⟨g, 0, none⟩) ls.length c2, orV o] x (OrIn B x ((rs.map Wr.wk, ls), ((6 : Int), M.nilB))) := by
  have hpos : M.laFindInt ls o.client = (k : Int) := by rw [M.laFindInt_pos (by rw [hf]; exact hk), hf]
  have HPOS := Lib.hid hpos
  have hge : decide ((0 : Int) ≤ (k : Int)) = true := by simp
  clear hpos hf
  have hM := ((((Mem.start x).new (bkA A rs.length c (some ⟨g, 0, none⟩) ls.length c2) 27).new (orC o) 41).new (bkA none 0 0 none 0 0) 27).new (rpA 0 noP) 33
  simp only [World.size_alloc] at hM
  have hgx := World.ownsRow.lt hla g rfl
  have HS := Lib.hid hs
  have HLA := Lib.hid hla
  have HAP := Lib.hid hap
  have HB := Lib.hid hB
  clear hs hla hap hB
  have HGET := Lib.hid (fun (y : World) (h : Mem x [(x.heap.size + 1 + 1 + 1, rpA 0 noP), (x.heap.size + 1 + 1, bkA none 0 0 none 0 0), (x.heap.size + 1, orC o), (x.heap.size, bkA A rs.length c (some ⟨g, 0, none⟩) ls.length c2)] [x.heap.size + 1 + 1 + 1, x.heap.size + 1 + 1, x.heap.size + 1, x.heap.size] y) => And.intro (h.get x.heap.size (bkA A rs.length c (some ⟨g, 0, none⟩) ls.length c2) (by simp)).two (And.intro (h.get (x.heap.size + 1) (orC o) (by simp)).nine (la_cells (LasOwn.below HLA.out h.1) hk).1))
  go_enter Tryz.func77, Tryz.ntmps77
  go_wp2_with fail
  have hcall := l6Last_any A rs.length c (some ⟨g, 0, none⟩) ls c2 o.client _ (own_atLas (LasOwn.below HLA.out hM.1)) hml
  rw [HPOS.out] at hcall
  refine hcall.mono ?_
  rintro e x1 ⟨rfl, b1⟩
  have hM1 := hM.below b1
  clear hM hcall b1
  have HM1 := Lib.hid hM1
  clear hM1
  have hne : (o.seq == ls[k].seq) = false := by simp; omega
  have hlt : decide (o.seq < ls[k].seq) = true := by simp; omega
  go_upto_region 2 with (fail)
  refine wp_region_seq (fun y => Mem x [(x.heap.size + 1 + 1 + 1, rpA 0 noP), (x.heap.size + 1 + 1, bkA none 0 0 none 0 0), (x.heap.size + 1, orC o), (x.heap.size, bkA A rs.length c (some ⟨g, 0, none⟩) ls.length c2)] [x.heap.size + 1 + 1 + 1, x.heap.size + 1 + 1, x.heap.size + 1, x.heap.size] y) [(0, true), (1, true), (2, true), (3, true), (4, true), (5, true), (6, true), (7, true), (8, true), (9, true), (10, true), (11, true), (12, true)] (by kernel_rfl) (by kernel_rfl) (fun _ _ _ _ _ h => h) (by kernel_rfl) (by decide) HM1.out.drew ?_
  intro hHeld
  repeat (first
    | (refine seq_skip (by simp only [List.getElem?_toArray, List.getElem?_cons_succ, List.getElem?_cons_zero]; first | done | rfl) (by rfl) ?_; (try simp only [Act.put, List.setIfInBounds_toArray, List.set_cons_zero, List.set_cons_succ]))
    | (refine seq_reads (by simp only [List.getElem?_toArray, List.getElem?_cons_succ, List.getElem?_cons_zero]; first | done | rfl) (by rfl) ?_; apply Exists.intro; apply And.intro; (focus (intro w hSw; obtain ⟨⟨k0, k1⟩, ⟨q0, q1, q2, q3, q4, q5, q6, q7, q8⟩, d0, d1, d2, d3⟩ := HGET.out _ hSw; go_simp; (try with_reducible rfl); done)); (try simp only [Act.put, List.setIfInBounds_toArray, List.set_cons_zero, List.set_cons_succ]))
    | (refine seq_pass (by simp only [List.getElem?_toArray, List.getElem?_cons_succ, List.getElem?_cons_zero]; first | done | rfl) (by rfl) hHeld ?_; clear hHeld; intro hHeld; (try simp only [Act.put, List.setIfInBounds_toArray, List.set_cons_zero, List.set_cons_succ])))
  refine seq_end ?_
  replace HM1 := Lib.hid hHeld
  clear hHeld
  generalize World.drew _ = xx at HM1 ⊢
  go_upto_region 4 with (fail)
  refine wp_region_seq (fun y => Mem x [(x.heap.size + 1 + 1 + 1, rpA 0 noP), (x.heap.size + 1 + 1, bkA none 0 0 none 0 0), (x.heap.size + 1, orC o), (x.heap.size, bkA A rs.length c (some ⟨g, 0, none⟩) ls.length c2)] [x.heap.size + 1 + 1 + 1, x.heap.size + 1 + 1, x.heap.size + 1, x.heap.size] y) [(0, true), (1, true), (2, true), (3, true), (4, true), (5, true), (6, true), (7, true), (8, true), (9, true), (10, true), (11, true), (12, true)] (by kernel_rfl) (by kernel_rfl) (fun _ _ _ _ _ h => h) (by kernel_rfl) (by decide) HM1.out.drew ?_
  intro hHeld
  repeat (first
    | (refine seq_skip (by simp only [List.getElem?_toArray, List.getElem?_cons_succ, List.getElem?_cons_zero]; first | done | rfl) (by rfl) ?_; (try simp only [Act.put, List.setIfInBounds_toArray, List.set_cons_zero, List.set_cons_succ]))
    | (refine seq_reads (by simp only [List.getElem?_toArray, List.getElem?_cons_succ, List.getElem?_cons_zero]; first | done | rfl) (by rfl) ?_; apply Exists.intro; apply And.intro; (focus (intro w hSw; obtain ⟨⟨k0, k1⟩, ⟨q0, q1, q2, q3, q4, q5, q6, q7, q8⟩, d0, d1, d2, d3⟩ := HGET.out _ hSw; go_simp; (try with_reducible rfl); done)); (try simp only [Act.put, List.setIfInBounds_toArray, List.set_cons_zero, List.set_cons_succ]))
    | (refine seq_pass (by simp only [List.getElem?_toArray, List.getElem?_cons_succ, List.getElem?_cons_zero]; first | done | rfl) (by rfl) hHeld ?_; clear hHeld; intro hHeld; (try simp only [Act.put, List.setIfInBounds_toArray, List.set_cons_zero, List.set_cons_succ])))
  refine seq_end ?_
  replace HM1 := Lib.hid hHeld
  clear hHeld
  generalize World.drew _ = xx at HM1 ⊢
  obtain ⟨k0, k1⟩ := (HM1.out.get x.heap.size (bkA A rs.length c (some ⟨g, 0, none⟩) ls.length c2) (by simp)).two
  obtain ⟨s0, s1⟩ := (HM1.out.get (x.heap.size + 1 + 1) (bkA none 0 0 none 0 0) (by simp)).two
  obtain ⟨t0, t1⟩ := (HM1.out.get (x.heap.size + 1 + 1 + 1) (rpA 0 noP) (by simp)).two
  have y0 := HM1.out.loose (x.heap.size + 1 + 1) (by simp) 0
  have y1 := HM1.out.loose (x.heap.size + 1 + 1) (by simp) 1
  have z0 := HM1.out.loose (x.heap.size + 1 + 1 + 1) (by simp) 0
  have z1 := HM1.out.loose (x.heap.size + 1 + 1 + 1) (by simp) 1
  clear hlt hne
  go_wp2
  have hBB := HB.out
  have hxx := HM1.out.1
  refine bodyPost_ret (results_sOrd (.slice A rs.length c) (.slice (some ⟨g, 0, none⟩) ls.length c2) 6 noP (x.heap.size + 1 + 1) (x.heap.size + 1 + 1 + 1) _ _ rfl rfl ?_ ?_) rfl ⟨.slice A rs.length c, .slice (some ⟨g, 0, none⟩) ls.length c2, rs, rfl, ?_, rfl, ?_, fun z hz hb => ?_, ?_⟩
  · exact (((HM1.out.get (x.heap.size + 1 + 1) (bkA none 0 0 none 0 0) (by simp)).wr2 _ _).otherM (by omega)).otherM (by omega)
  · exact (((HM1.out.get (x.heap.size + 1 + 1 + 1) (rpA 0 noP) (by simp)).otherM (by omega)).otherM (by omega)).wr2 _ _
  · have hne : ∀ z, x.heap.size ≤ z → ¬ blocksS (.slice A rs.length c) rs z := fun z hz e => by have := (HS.out.ge e).2; omega
    exact ((((HS.out.below hxx).offN (hne _ (by omega)) 0 _).offN (hne _ (by omega)) 1 _).offN (hne _ (by omega)) 0 _).offN (hne _ (by omega)) 1 _
  · have hne : ∀ z, x.heap.size ≤ z → (Value.slice (some ⟨g, 0, none⟩) ls.length c2).ownBlock ≠ some z := fun z hz => LasOwn.ne HLA.out hz
    exact own_off (own_off (own_off (own_off (LasOwn.below HLA.out hxx) (hne _ (by omega)) 0 _) (hne _ (by omega)) 1 _) (hne _ (by omega)) 0 _) (hne _ (by omega)) 1 _
  · obtain rfl : g = z := Option.some.inj hz
    exact HAP.out hb
  · exact far_2 (far_2 (hxx.mono hBB) (by omega) _ _) (by omega) _ _
set_option maxHeartbeats 4000000 in
theorem l6Order_same (B : Nat) (A : Option Addr) (c g c2 : Nat) (rs : List Wr) (ls : List M.La) (x : World) (o : M.Or) (hs : SfOwn B x (.slice A rs.length c) rs) (hla : LasOwn B x (.slice (some ⟨g, 0, none⟩) ls.length c2) ls) (hap : ¬ blocksS (.slice A rs.length c) rs g) (hB : B ≤ x.heap.size) (hml : ls.length ≤ 1048576) (k : Nat) (hk : k < ls.length) (hf : M.laFind ls o.client = k) (hq : o.seq = ls[k].seq) :
    Calls Tryz.prog 77 #[bkV A rs.length c (some ⟨g, 0, none⟩) ls.length c2, orV o] x (OrIn B x ((rs.map Wr.wk, ls), (ls[k].code, ls[k].page))) := by
  have HQ := Lib.hid hq
  clear hq
  have hpos : M.laFindInt ls o.client = (k : Int) := by rw [M.laFindInt_pos (by rw [hf]; exact hk), hf]
  have HPOS := Lib.hid hpos
  have hge : decide ((0 : Int) ≤ (k : Int)) = true := by simp
  clear hpos hf
  have hM := ((((Mem.start x).new (bkA A rs.length c (some ⟨g, 0, none⟩) ls.length c2) 27).new (orC o) 41).new (bkA none 0 0 none 0 0) 27).new (rpA 0 noP) 33
  simp only [World.size_alloc] at hM
  have hgx := World.ownsRow.lt hla g rfl
  have HS := Lib.hid hs
  have HLA := Lib.hid hla
  have HAP := Lib.hid hap
  have HB := Lib.hid hB
  clear hs hla hap hB
  have HGET := Lib.hid (fun (y : World) (h : Mem x [(x.heap.size + 1 + 1 + 1, rpA 0 noP), (x.heap.size + 1 + 1, bkA none 0 0 none 0 0), (x.heap.size + 1, orC o), (x.heap.size, bkA A rs.length c (some ⟨g, 0, none⟩) ls.length c2)] [x.heap.size + 1 + 1 + 1, x.heap.size + 1 + 1, x.heap.size + 1, x.heap.size] y) => And.intro (h.get x.heap.size (bkA A rs.length c (some ⟨g, 0, none⟩) ls.length c2) (by simp)).two (And.intro (h.get (x.heap.size + 1) (orC o) (by simp)).nine (la_cells (LasOwn.below HLA.out h.1) hk).1))
  go_enter Tryz.func77, Tryz.ntmps77
  go_wp2_with fail
  have hcall := l6Last_any A rs.length c (some ⟨g, 0, none⟩) ls c2 o.client _ (own_atLas (LasOwn.below HLA.out hM.1)) hml
  rw [HPOS.out] at hcall
  refine hcall.mono ?_
  rintro e x1 ⟨rfl, b1⟩
  have hM1 := hM.below b1
  clear hM hcall b1
  have HM1 := Lib.hid hM1
  clear hM1
  have hne : (o.seq == ls[k].seq) = true := by simp [HQ.out]
  go_upto_region 2 with (fail)
  refine wp_region_seq (fun y => Mem x [(x.heap.size + 1 + 1 + 1, rpA 0 noP), (x.heap.size + 1 + 1, bkA none 0 0 none 0 0), (x.heap.size + 1, orC o), (x.heap.size, bkA A rs.length c (some ⟨g, 0, none⟩) ls.length c2)] [x.heap.size + 1 + 1 + 1, x.heap.size + 1 + 1, x.heap.size + 1, x.heap.size] y) [(0, true), (1, true), (2, true), (3, true), (4, true), (5, true), (6, true), (7, true), (8, true), (9, true), (10, true), (11, true), (12, true)] (by kernel_rfl) (by kernel_rfl) (fun _ _ _ _ _ h => h) (by kernel_rfl) (by decide) HM1.out.drew ?_
  intro hHeld
  repeat (first
    | (refine seq_skip (by simp only [List.getElem?_toArray, List.getElem?_cons_succ, List.getElem?_cons_zero]; first | done | rfl) (by rfl) ?_; (try simp only [Act.put, List.setIfInBounds_toArray, List.set_cons_zero, List.set_cons_succ]))
    | (refine seq_reads (by simp only [List.getElem?_toArray, List.getElem?_cons_succ, List.getElem?_cons_zero]; first | done | rfl) (by rfl) ?_; apply Exists.intro; apply And.intro; (focus (intro w hSw; obtain ⟨⟨k0, k1⟩, ⟨q0, q1, q2, q3, q4, q5, q6, q7, q8⟩, d0, d1, d2, d3⟩ := HGET.out _ hSw; go_simp; (try with_reducible rfl); done)); (try simp only [Act.put, List.setIfInBounds_toArray, List.set_cons_zero, List.set_cons_succ]))
    | (refine seq_pass (by simp only [List.getElem?_toArray, List.getElem?_cons_succ, List.getElem?_cons_zero]; first | done | rfl) (by rfl) hHeld ?_; clear hHeld; intro hHeld; (try simp only [Act.put, List.setIfInBounds_toArray, List.set_cons_zero, List.set_cons_succ])))
  refine seq_end ?_
  replace HM1 := Lib.hid hHeld
  clear hHeld
  generalize World.drew _ = xx at HM1 ⊢
  clear hne hge
  have HM2 := Lib.hid HM1.out.drew
  have HG2 := Lib.hid (fun (y : World) (h : Mem x [(x.heap.size, (bkA A rs.length c (some ⟨g, 0, none⟩) ls.length c2))] [] y) => And.intro (h.get x.heap.size (bkA A rs.length c (some ⟨g, 0, none⟩) ls.length c2) (by simp)).two (la_cells (LasOwn.below HLA.out h.1) hk).1)
  have HS2 := Lib.hid (HM1.out.drew.re (hs' := [(x.heap.size, (bkA A rs.length c (some ⟨g, 0, none⟩) ls.length c2))]) (ls' := []) (by simp) (by simp))
  go_upto_region 3 with (fail)
  refine wp_region_seq (fun y => Mem x [(x.heap.size, (bkA A rs.length c (some ⟨g, 0, none⟩) ls.length c2))] [] y) [(0, true), (1, true), (2, true), (3, true), (4, true), (5, true), (6, true), (7, false), (8, false)] (by kernel_rfl) (by kernel_rfl) (fun _ _ _ _ _ h => h) (by kernel_rfl) (by decide) HS2.out ?_
  intro hHeld
  generalize World.drew _ = wd at hHeld HM2 ⊢
  repeat (first
    | (refine seq_skip (by simp only [List.getElem?_toArray, List.getElem?_cons_succ, List.getElem?_cons_zero]; first | done | rfl) (by rfl) ?_; (try simp only [Act.put, List.setIfInBounds_toArray, List.set_cons_zero, List.set_cons_succ]))
    | (refine seq_reads (by simp only [List.getElem?_toArray, List.getElem?_cons_succ, List.getElem?_cons_zero]; first | done | rfl) (by rfl) ?_; apply Exists.intro; apply And.intro; (focus (intro w hSw; (try (obtain ⟨⟨k0, k1⟩, d0, d1, d2, d3⟩ := HG2.out _ hSw)); go_simp; (try with_reducible rfl); done)); (try simp only [Act.put, List.setIfInBounds_toArray, List.set_cons_zero, List.set_cons_succ]))
    | (refine seq_pass (by simp only [List.getElem?_toArray, List.getElem?_cons_succ, List.getElem?_cons_zero]; first | done | rfl) (by rfl) hHeld ?_; clear hHeld; intro hHeld; (try simp only [Act.put, List.setIfInBounds_toArray, List.set_cons_zero, List.set_cons_succ]))
    | (refine seq_call (by simp only [List.getElem?_toArray, List.getElem?_cons_succ, List.getElem?_cons_zero]; first | done | rfl) (by rfl) (fun K hK => ?_); (obtain ⟨s0, s1⟩ := (HM2.out.get (x.heap.size + 1 + 1) (bkA none 0 0 none 0 0) (by simp)).two); (obtain ⟨t0, t1⟩ := (HM2.out.get (x.heap.size + 1 + 1 + 1) (rpA 0 noP) (by simp)).two); (have y0 := HM2.out.loose (x.heap.size + 1 + 1) (by simp) 0); (have y1 := HM2.out.loose (x.heap.size + 1 + 1) (by simp) 1); (have z0 := HM2.out.loose (x.heap.size + 1 + 1 + 1) (by simp) 0); (have z1 := HM2.out.loose (x.heap.size + 1 + 1 + 1) (by simp) 1); (have zs := (HM2.out.get (x.heap.size + 1 + 1) (bkA none 0 0 none 0 0) (by simp)).1); (have zt := (HM2.out.get (x.heap.size + 1 + 1 + 1) (rpA 0 noP) (by simp)).1); go_simp; refine hK.out _ _ ((hHeld.off (by omega) (fun p hp => by obtain rfl := List.mem_singleton.1 hp; show x.heap.size ≠ _; omega)).off (by omega) (fun p hp => by obtain rfl := List.mem_singleton.1 hp; show x.heap.size ≠ _; omega)) ?_; clear hK hHeld; intro hHeld; clear s0 s1 t0 t1 y0 y1 z0 z1 zs zt; (try simp only [Act.put, List.setIfInBounds_toArray, List.set_cons_zero, List.set_cons_succ])))
  refine seq_end ?_
  go_wp2
  have hBB := HB.out
  have hxx := HM2.out.1
  refine bodyPost_ret (results_sOrd (.slice A rs.length c) (.slice (some ⟨g, 0, none⟩) ls.length c2) (ls[k].code) (ls[k].page) (x.heap.size + 1 + 1) (x.heap.size + 1 + 1 + 1) _ _ rfl rfl ?_ ?_) rfl ⟨.slice A rs.length c, .slice (some ⟨g, 0, none⟩) ls.length c2, rs, rfl, ?_, rfl, ?_, fun z hz hb => ?_, ?_⟩
  · exact (((HM2.out.get (x.heap.size + 1 + 1) (bkA none 0 0 none 0 0) (by simp)).wr2 _ _).otherM (by omega)).otherM (by omega)
  · exact (((HM2.out.get (x.heap.size + 1 + 1 + 1) (rpA 0 noP) (by simp)).otherM (by omega)).otherM (by omega)).wr2 _ _
  · have hne : ∀ z, x.heap.size ≤ z → ¬ blocksS (.slice A rs.length c) rs z := fun z hz e => by have := (HS.out.ge e).2; omega
    exact ((((HS.out.below hxx).offN (hne _ (by omega)) 0 _).offN (hne _ (by omega)) 1 _).offN (hne _ (by omega)) 0 _).offN (hne _ (by omega)) 1 _
  · have hne : ∀ z, x.heap.size ≤ z → (Value.slice (some ⟨g, 0, none⟩) ls.length c2).ownBlock ≠ some z := fun z hz => LasOwn.ne HLA.out hz
    exact own_off (own_off (own_off (own_off (LasOwn.below HLA.out hxx) (hne _ (by omega)) 0 _) (hne _ (by omega)) 1 _) (hne _ (by omega)) 0 _) (hne _ (by omega)) 1 _
  · obtain rfl : g = z := Option.some.inj hz
    exact HAP.out hb
  · exact far_2 (far_2 (hxx.mono hBB) (by omega) _ _) (by omega) _ _

end Go.Proofs.YtblcgbgcccjpcaaGreat
