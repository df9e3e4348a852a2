/- Proved, in parts: Proved: the model's l5Copy answers the same works in new memory, each list in a block of its own; it writes nothing that was there. Condition: lists of at most a million. Proved: the program's does on the map of works leaves what a plain Lean function tells, all as it was where the deed is refused; it writes the map's block alone. Condition: texts of at most a million bytes. -/
import Derived.Test.YteomdakohlikeaaGreatPart21
import Derived.Test.YteomdakohlikeaaGreatPart23
import Derived.Test.YteomdakohlikeaaGreatPart31
namespace Go.Proofs.YteomdakohlikeaaGreat
open Go.RowKit
set_option maxRecDepth 20000

theorem wpList_append_flat_at {α : Type} {enc : α → List Value} {k : Nat} {w : World} {l : List α} {P : Program} {ops : Array Oper} {rest : List Oper} {o : Oper} {a : Act} {Q : Exit → Act → World → Prop} (hgd : o.guard = none) (s x : Operand) (t : TypeId)
    (ho : o.op = .call { callee := .builtin .append, args := #[s, x], argTypes := #[t, t] })
    (base : Nat) (e : TypeId) (i : TypeInfo) (z : Value) (bytes : Nat) (ht : P.underlying t = some (.slice e)) (hi : P.info? e = some i) (hz : i.zero = some z)
    (hsize : i.size = k) (hby : i.bytes = bytes) (hzs : z.cells.size = k) (hsz : 0 < k)
    (v : Value) (n : Nat) (xs : List Value) (hs : a.eval s = v) (hown : w.ownsRow base e k v n xs)
    (A : Option Addr) (c : Nat) (hx : a.eval x = .slice A l.length c) (hA : A = none → c = 0) (hfl : Flat enc k w A l) (hk : ∀ x, (enc x).length = k) (h1 : ∀ u ∈ cellsOf enc l, u.oneCell' = true)
    (h63 : n + l.length ≤ maxLen) (hbytes : (n + l.length) * bytes ≤ 140737488355328) (hbase : base ≤ w.heap.size)
    (h : ∀ v' w', w'.ownsRow base e k v' (n + l.length) (xs ++ cellsOf enc l) → w.grownBy w' v.ownBlock → (v'.ownBlock = v.ownBlock ∨ v'.ownBlock = some w.heap.size) → wpList P ops Q rest (a.put o.dst v') w') : wpList P ops Q (o :: rest) a w :=
  wpList_plain hgd fun _ hK => wp_append_flat_at s x t ho base e i z bytes ht hi hz hsize hby hzs hsz v n xs hs hown A c hx hA hfl hk h1 h63 hbytes hbase fun v' w' h2 h3 h4 => hK _ _ (h v' w' h2 h3 h4)

/-- One work more, its list made in a world of its own. -/
theorem SfOwn.push {B : Nat} {x x2 w4 : World} {v v' : Value} {rs : List Wr} {r : Wr} (h : SfOwn B x v rs) (hB : B ≤ x.heap.size) (b2 : Below x.heap.size x x2) (ho : CpOwn x.heap.size x2 r.sl r.cps) (o : Obj) (hown : w4.ownsRow B 44 3 v' (rs.length + 1) (cellsOf wrL rs ++ cellsOf wrL [r])) (hg : (x2.alloc o).grownBy w4 v.ownBlock) (hat : v'.ownBlock = v.ownBlock ∨ v'.ownBlock = some (x2.alloc o).heap.size) : SfOwn B w4 v' (rs ++ [r]) := by
  have ba : Below x2.heap.size x2 (x2.alloc o) := (Below.refl _ _).alloc (Nat.le_refl _) o
  have hnew : Apart r.sl v := by
    unfold Apart
    rcases hr : r.sl.ownBlock with _ | k
    · exact .inl rfl
    · refine .inr fun e => ?_
      have h1 := (ho.lt k hr).1
      have h2 := (World.ownsRow.lt h.1 k e.symm).2
      omega
  have hfar : ∀ y : Wr, CpOwn B (x2.alloc o) y.sl y.cps → Apart y.sl v → Apart y.sl v' := fun y hy ha => by
    rcases hat with e | e
    · unfold Apart at ha ⊢; rw [e]; exact ha
    · unfold Apart
      rcases hk : y.sl.ownBlock with _ | k
      · exact .inl rfl
      · refine .inr fun e' => ?_
        have h1 := (hy.lt k hk).2
        rw [e] at e'
        have := Option.some.inj e'
        omega
  have hold : ∀ y ∈ rs, CpOwn B (x2.alloc o) y.sl y.cps := fun y hy => ((h.2.1 y hy).below b2).below ba
  have hnw : CpOwn B (x2.alloc o) r.sl r.cps := (ho.mono hB).below ba
  refine ⟨?_, fun y hy => ?_, fun y hy => ?_, ?_⟩
  · rw [cellsOf_append, List.length_append]
    exact hown
  · rcases List.mem_append.1 hy with hy | hy
    · exact World.ownsRow.kept (hold y hy) hg (h.2.2.1 y hy)
    · obtain rfl : y = r := by simpa using hy
      exact World.ownsRow.kept hnw hg hnew
  · rcases List.mem_append.1 hy with hy | hy
    · exact hfar y (hold y hy) (h.2.2.1 y hy)
    · obtain rfl : y = r := by simpa using hy
      exact hfar y hnw hnew
  · rw [List.pairwise_append]
    refine ⟨h.2.2.2, List.pairwise_singleton _ _, fun a ha b hb' => ?_⟩
    obtain rfl : b = r := by simpa using hb'
    exact own_differ (fun k hk => ((h.2.1 a ha).lt k hk).2) (fun k hk => (ho.lt k hk).1)

set_option maxHeartbeats 2000000 in
theorem l5Copy_any (A : Option Addr) (l : List Wr) (cap : Nat) (w : World) (hl : Wks w A l) (hA : ∀ r ∈ l, r.ad = none → r.cap = 0) (hlen : l.length ≤ 1048576) (hp : ∀ r ∈ l, r.cps.length ≤ 1048576) :
    Calls Tryz.prog 59 #[.slice A l.length cap] w fun e w' => ∃ v rs, e = .returned v ∧ rs.map Wr.wk = l.map Wr.wk ∧ SfOwn w.heap.size w' v rs ∧ Below w.heap.size w w' := by
  obtain ⟨i0, hi, hz0, hz1, hz2⟩ := info_parts infoWk
  have HP := Lib.hid hp
  have HA := Lib.hid hA
  have HL := Lib.hid hl
  clear hp hA hl
  have ho0 := World.ownsRow_made (size := 3) (e := 44) w #[] 0 (base := w.heap.size) (Nat.le_refl _) (Nat.zero_le _) rfl
  have HO0 := Lib.hid ho0
  clear ho0
  go_enter Tryz.func59, Tryz.ntmps59
  go_wp2
  go_loopw [3, 4] (fun out i wr => ∃ (j : Nat) (rs : List Wr), i = .int .i64 j ∧ j ≤ l.length ∧ rs.length = j ∧ rs.map Wr.wk = (l.take j).map Wr.wk ∧ SfOwn w.heap.size wr out rs ∧ Below w.heap.size w wr) (fun _ i _ => l.length - (intOf i).toNat)
  case atStart => exact ⟨0, [], rfl, Nat.zero_le _, rfl, rfl, ⟨HO0.out, by simp, by simp, List.Pairwise.nil⟩, (Below.refl _ _).alloc (Nat.le_refl _) _⟩
  case round =>
    obtain ⟨j, rs, rfl, hj, hrl, hrm, hown, hb⟩ := hrel
    have HOW := Lib.hid hown
    have HRM := Lib.hid hrm
    have HRL := Lib.hid hrl
    clear hown hrm hrl
    by_cases hlt : j < l.length
    · obtain ⟨b, o, rfl, hbl, c0, c1, c2, hc⟩ := Wks_at (HL.out.below hb) hlt
      have HC := Lib.hid hc
      have hcl := HP.out l[j] (List.getElem_mem hlt)
      have HCA := Lib.hid (HA.out l[j] (List.getElem_mem hlt))
      have hsz := hb.size
      clear hc
      go_wp2_with fail
      refine (l4Own_any l[j].name l[j].owner l[j].ad l[j].cps l[j].cap _ HC.out HCA.out hcl).mono ?_
      rintro r w2 ⟨A', c', rfl, ho, b2⟩
      have HN := Lib.hid ho
      have HB2 := Lib.hid b2
      have hs2 := b2.size
      clear ho b2
      go_wp2_with (at_builtin; refine wpList_append_flat_at (k := 3) (enc := wrL) (l := [(⟨l[j].name, l[j].owner, A', c', l[j].cps⟩ : Wr)]) rfl _ _ 24 rfl w.heap.size 44 i0 _ 48 Tryz.underlying24 hi hz0 hz1 hz2 rfl (by decide) _ rs.length (cellsOf wrL rs) rfl ((Own.below HOW.out.1 HB2.out).alloc _) (some ⟨w2.heap.size, 0, none⟩) 1 rfl (fun h => by cases h) (one_flatW w2 ⟨l[j].name, l[j].owner, A', c', l[j].cps⟩ _) wrL_len (wr_one _) (by have := HRL.out; simp only [List.length_singleton]; unfold maxLen; omega) (by have := HRL.out; simp only [List.length_singleton]; omega) (by simp; omega) ?_; intro v' w4 hown4 hgrow4 hat4)
      have HOW4 := Lib.hid hown4
      have HGR4 := Lib.hid hgrow4
      have HAT4 := Lib.hid hat4
      clear hown4 hgrow4 hat4
      go_roundw
      case rel =>
        refine ⟨j + 1, rs ++ [⟨l[j].name, l[j].owner, A', c', l[j].cps⟩], by go_num, by omega, by simp [HRL.out], ?_, ?_, ?_⟩
        · rw [List.map_append, HRM.out, List.take_succ_eq_append_getElem hlt, List.map_append]; rfl
        · exact HOW.out.push hb.size HB2.out HN.out _ HOW4.out HGR4.out HAT4.out
        · exact below_grow (next hb HB2.out) (Own.below HOW.out.1 HB2.out) HGR4.out
      case measure => simp [intOf]; omega
    · have hj' : j = l.length := by omega
      have hrm := HRM.out
      rw [hj', List.take_length] at hrm
      have HRM2 := Lib.hid hrm
      clear hrm
      go_wp2
      go_ret
      exact ⟨_, rs, rfl, HRM2.out, HOW.out, hb⟩
end Go.Proofs.YteomdakohlikeaaGreat
namespace Go.Proofs.YteomdakohlikeaaGreat
open Go.RowKit
set_option maxRecDepth 20000

/-- What does leaves. -/
def DoOut (w : World) (B b : Nat) (rs : List Wr) (q : List M.Wk × M.Rp) (e : Ending) (w' : World) : Prop :=
  e = .returned (rpV q.2.1 q.2.2) ∧ w.grownBy w' (some b) ∧ ∃ n' rs', ShM w' b n' rs' ∧ RiseW rs' ∧ RsOwn B w' rs' ∧ rs'.map Wr.wk = q.1 ∧ ∀ r ∈ rs', ∀ k, r.sl.ownBlock = some k → w.heap.size ≤ k ∨ ∃ x ∈ rs, x.sl.ownBlock = some k

theorem results_sdoes (c : Int) (p : ByteArray) (R : Nat) (W : World) (tmps : Array Value) (h2 : tmps.getD 4 undef = .pointer (some ⟨R, 0, none⟩)) (hW : Holds W R (rpA c p)) :
    (results Tryz.f50 tmps).run Tryz.prog W = .ok (rpV c p) W := by
  obtain ⟨q0, q1⟩ := hW.two
  simp at h2
  simp [results, Tryz.results50, go_sem, h2, q0, q1]

set_option maxHeartbeats 4000000 in
theorem does_any (B b n : Nat) (rs : List Wr) (d : M.Dd) (w : World) (h : St w B b n rs) (hl5 : rs.length ≤ 5) (hn : d.name.size ≤ 1048576) (hpg : d.page.size ≤ 1048576) :
    Calls Tryz.prog 50 #[.map (some b), ddV d] w (DoOut w B b rs (M.keptD (rs.map Wr.wk) d)) := by
  have HP := Lib.hid h.size
  have HRI := Lib.hid h.rise
  obtain ⟨p, hpp⟩ : ∃ p, M.doAll (rs.map Wr.wk) d = p := ⟨_, rfl⟩
  have HPP := Lib.hid hpp
  have HDO : Hid (M.keptD (rs.map Wr.wk) d = (if p.2.1 = 0 then p.1 else rs.map Wr.wk, p.2)) := Lib.hid (by rw [← hpp]; rfl)
  clear hpp
  have hm := ((Mem.start w).new (ddC d) 39).new (rpA 0 noP) 33
  have hst := h.below (((Below.refl w.heap.size w).alloc (Nat.le_refl _) (.cells (ddC d) 39)).alloc (by simp) (.cells (rpA 0 noP) 33))
  simp only [World.size_alloc] at hm
  have hbB : b < B := h.low
  have hBw : B ≤ w.heap.size := h.top
  have HLOW : Hid (∀ r ∈ rs, ∀ k, r.sl.ownBlock = some k → k < w.heap.size) := Lib.hid (fun r hr k e => ((h.own.1 r hr).lt k e).2)
  clear h
  go_enter Tryz.func50, Tryz.ntmps50
  go_wp2_with fail
  refine (inOrder_any b n B rs _ hst.map HRI.out hst.own hst.top (by omega) (fun r hr => (HP.out r hr).1)).mono ?_
  rintro e x1 ⟨v, rfl, hs, b1⟩
  have hm1 := hm.below b1
  have hst1 := hst.below b1
  have hs1 := b1.size
  simp only [World.size_alloc] at hs1
  obtain ⟨A, cap, rfl, hcap, -⟩ := hs.open
  have HS := Lib.hid hs
  have HST := Lib.hid hst1
  clear hm hst b1 hs hst1 hcap
  obtain ⟨q0, q1, q2, q3, q4, q5, q6⟩ := (hm1.get w.heap.size (ddC d) (by simp)).seven
  go_wp2_with fail
  have hcall := tries_any B b n rs d x1 HST.out hn hpg
  rw [HPP.out] at hcall
  refine hcall.mono ?_
  rintro e x3 ho
  obtain rfl := ho.1
  have hR := holds_by (hm1.get (w.heap.size + 1) (rpA 0 noP) (by simp)) ho.2.1 (by omega)
  have lR := loose_by (hm1.loose (w.heap.size + 1) (by simp)) (hm1.get (w.heap.size + 1) (rpA 0 noP) (by simp)).1 ho.2.1 (by omega)
  have bA := (Below.refl x3.heap.size x3).alloc (Nat.le_refl _) (.cells (rpA p.2.1 p.2.2) 33)
  have HL := Lib.hid (lR.below hR.1 bA)
  have HR := Lib.hid (hR.below bA)
  have HX := Lib.hid (holds_new x3 (rpA p.2.1 p.2.2) 33)
  have hg3 := ho.2.1.size
  have HS3 := Lib.hid ((HS.out.by ho.2.1 hbB).below ((Below.refl _ _).alloc (Nat.le_refl _) (.cells (rpA p.2.1 p.2.2) 33)))
  have HG : Hid (w.grownBy (x3.alloc (.cells (rpA p.2.1 p.2.2) 33)) (some b)) := Lib.hid (grown_tr (grown_tr (grown_lw hm1.1 _) ho.2.1) (World.grownBy_alloc x3 _ _))
  have HOM := Lib.hid ho.2.2.1
  have HOZ := Lib.hid ho.2.2.2
  clear hcall ho hm1 hR lR bA q0 q1 q2 q3 q4 q5 q6
  by_cases hz : p.2.1 = 0
  · have HE : Hid (M.keptD (rs.map Wr.wk) d = (p.1, p.2)) := Lib.hid (by rw [HDO.out, if_pos hz])
    obtain ⟨n', rs', h1, h2, h3, h4, h5⟩ := HOZ.out hz
    have HMP := Lib.hid (h1.alloc (.cells (rpA p.2.1 p.2.2) 33))
    have HRO := Lib.hid (h3.below ((Below.refl _ _).alloc (Nat.le_refl _) (.cells (rpA p.2.1 p.2.2) 33)))
    have H4 := Lib.hid h4
    have H5 : Hid (∀ r ∈ rs', ∀ k, r.sl.ownBlock = some k → w.heap.size + 2 ≤ k ∨ ∃ x ∈ rs, x.sl.ownBlock = some k) := Lib.hid (fun r hr k e => by
      rcases h5 r hr k e with h | h
      · exact .inl (by omega)
      · exact .inr h)
    have hz' : (p.2.1 != 0) = false := by simp [hz]
    have HZ := Lib.hid hz
    obtain ⟨r0, r1⟩ := HR.out.two
    obtain ⟨s0, s1⟩ := HX.out.two
    have z0 := HL.out 0
    have z1 := HL.out 1
    clear h1 h3 h4 h5 hz
    go_wp2
    have hne : ∀ r ∈ rs', r.sl.ownBlock ≠ some (w.heap.size + 1) := fun r hr e => by
      rcases H5.out r hr _ e with h | ⟨x, hx, e'⟩
      · omega
      · have := HLOW.out x hx _ e'; omega
    refine bodyPost_ret (results_sdoes p.2.1 p.2.2 (w.heap.size + 1) _ _ rfl ?_) rfl ?_
    · simpa using ((HR.out.putM 0 (.int .i64 p.2.1)).putM 1 (.string p.2.2))
    · refine ⟨by rw [HE.out], grown_new (grown_new HG.out (Nat.le_succ _) _ _) (Nat.le_succ _) _ _, n', rs', ShM.set (ShM.set HMP.out (by omega)) (by omega), h2, (HRO.out.set hne 0 _).set hne 1 _, by rw [HE.out]; exact H4.out, fun r hr k e => ?_⟩
      rcases H5.out r hr k e with h | h
      · exact .inl (by omega)
      · exact .inr h
  · have HE : Hid (M.keptD (rs.map Wr.wk) d = (rs.map Wr.wk, p.2)) := Lib.hid (by rw [HDO.out, if_neg hz])
    obtain ⟨n', D, hom⟩ := HOM.out
    have hom' := hom.alloc (.cells (rpA p.2.1 p.2.2) 33)
    have hz' : (p.2.1 != 0) = true := by simp [hz]
    have HZ := Lib.hid hz
    obtain ⟨s0, s1⟩ := HX.out.two
    clear hz hom
    go_wp2_with fail
    refine (fill_any b n' D A rs cap _ hom' (fun x hg => (HS3.out.by hg hbB).wks.1) HRI.out (by omega) HP.out).mono ?_
    rintro e x4 ⟨rfl, rs', h4, h1, h3, hg4⟩
    have hR4 := holds_by HR.out hg4 (by omega)
    have lR4 := loose_by HL.out HR.out.1 hg4 (by omega)
    have hX4 := holds_by HX.out hg4 (by omega)
    rw [World.size_alloc] at h3
    have HG4 := Lib.hid (grown_tr HG.out hg4)
    have HMP := Lib.hid h1
    have HRO := Lib.hid h3
    have H4 := Lib.hid h4
    have HR4 := Lib.hid hR4
    obtain ⟨r0, r1⟩ := hR4.two
    obtain ⟨s0', s1'⟩ := hX4.two
    have z0 := lR4 0
    have z1 := lR4 1
    clear h1 h3 h4 hg4 hom' hR4 lR4 hX4 s0 s1
    go_wp2
    have hne : ∀ r ∈ rs', r.sl.ownBlock ≠ some (w.heap.size + 1) := fun r hr e => by
      have := ((HRO.out.1 r hr).lt _ e).1
      omega
    refine bodyPost_ret (results_sdoes p.2.1 p.2.2 (w.heap.size + 1) _ _ rfl ?_) rfl ?_
    · simpa using ((HR4.out.putM 0 (.int .i64 p.2.1)).putM 1 (.string p.2.2))
    · refine ⟨by rw [HE.out], grown_new (grown_new HG4.out (Nat.le_succ _) _ _) (Nat.le_succ _) _ _, rs.length, rs', ShM.set (ShM.set HMP.out (by omega)) (by omega), rise_same H4.out HRI.out, ((HRO.out.mono (by omega)).set hne 0 _).set hne 1 _, by rw [HE.out]; exact H4.out, fun r hr k e => ?_⟩
      have := ((HRO.out.1 r hr).lt _ e).1
      exact .inl (by omega)
end Go.Proofs.YteomdakohlikeaaGreat
