/- Proved, in parts: Proved: the model's l5Copy answers the same works in new memory, each list in a block of its own; it writes nothing that was there. Condition: lists of at most a million. Proved: the program's Does answers a plain Lean function, its works in new memory; nothing that was there is written. Condition: texts and lists of at most a million. Proved: the model's ShelfOk answers as the plain Lean function does; it writes nothing that was there. Condition: texts and lists of at most a million. -/
import Derived.Test.YtblcgbgcccjpcaaGreatPart13
import Derived.Test.YtblcgbgcccjpcaaGreatPart15
import Derived.Test.YtblcgbgcccjpcaaGreatPart24
import Derived.Test.YtblcgbgcccjpcaaGreatPart04
import Derived.Test.YtblcgbgcccjpcaaGreatPart08
namespace Go.Proofs.YtblcgbgcccjpcaaGreat
open Go.RowKit
set_option maxRecDepth 20000

theorem wpList_append_flat_at {α : Type} {enc : α → List Value} {k : Nat} {w : World} {l : List α} {P : Program} {ops : Array Oper} {rest : List Oper} {o : Oper} {a : Act} {Q : Exit → Act → World → Prop} (hgd : o.guard = none) (s x : Operand) (t : TypeId)
    (ho : o.op = .call { callee := .builtin .append, args := #[s, x], argTypes := #[t, t] })
    (base : Nat) (e : TypeId) (i : TypeInfo) (z : Value) (bytes : Nat) (ht : P.underlying t = some (.slice e)) (hi : P.info? e = some i) (hz : i.zero = some z)
    (hsize : i.size = k) (hby : i.bytes = bytes) (hzs : z.cells.size = k) (hsz : 0 < k)
    (v : Value) (n : Nat) (xs : List Value) (hs : a.eval s = v) (hown : w.ownsRow base e k v n xs)
    (A : Option Addr) (c : Nat) (hx : a.eval x = .slice A l.length c) (hA : A = none → c = 0) (hfl : Flat enc k w A l) (hk : ∀ x, (enc x).length = k) (h1 : ∀ u ∈ cellsOf enc l, u.oneCell' = true)
    (h63 : n + l.length ≤ maxLen) (hbytes : (n + l.length) * bytes ≤ 140737488355328) (hbase : base ≤ w.heap.size)
    (h : ∀ v' w', w'.ownsRow base e k v' (n + l.length) (xs ++ cellsOf enc l) → w.grownBy w' v.ownBlock → (v'.ownBlock = v.ownBlock ∨ v'.ownBlock = some w.heap.size) → wpList P ops Q rest (a.put o.dst v') w') : wpList P ops Q (o :: rest) a w :=
  wpList_plain hgd fun _ hK => wp_append_flat_at s x t ho base e i z bytes ht hi hz hsize hby hzs hsz v n xs hs hown A c hx hA hfl hk h1 h63 hbytes hbase fun v' w' h2 h3 h4 => hK _ _ (h v' w' h2 h3 h4)

/-- One work more, its list made in a world of its own. -/
theorem SfOwn.push {B : Nat} {x x2 w4 : World} {v v' : Value} {rs : List Wr} {r : Wr} (h : SfOwn B x v rs) (hB : B ≤ x.heap.size) (b2 : Below x.heap.size x x2) (ho : CpOwn x.heap.size x2 r.sl r.cps) (o : Obj) (hown : w4.ownsRow B 44 3 v' (rs.length + 1) (cellsOf wrL rs ++ cellsOf wrL [r])) (hg : (x2.alloc o).grownBy w4 v.ownBlock) (hat : v'.ownBlock = v.ownBlock ∨ v'.ownBlock = some (x2.alloc o).heap.size) : SfOwn B w4 v' (rs ++ [r]) := by
  have ba : Below x2.heap.size x2 (x2.alloc o) := (Below.refl _ _).alloc (Nat.le_refl _) o
  have hnew : Apart r.sl v := by
    unfold Apart
    rcases hr : r.sl.ownBlock with _ | k
    · exact .inl rfl
    · refine .inr fun e => ?_
      have h1 := (ho.lt k hr).1
      have h2 := (World.ownsRow.lt h.1 k e.symm).2
      omega
  have hfar : ∀ y : Wr, CpOwn B (x2.alloc o) y.sl y.cps → Apart y.sl v → Apart y.sl v' := fun y hy ha => by
    rcases hat with e | e
    · unfold Apart at ha ⊢; rw [e]; exact ha
    · unfold Apart
      rcases hk : y.sl.ownBlock with _ | k
      · exact .inl rfl
      · refine .inr fun e' => ?_
        have h1 := (hy.lt k hk).2
        rw [e] at e'
        have := Option.some.inj e'
        omega
  have hold : ∀ y ∈ rs, CpOwn B (x2.alloc o) y.sl y.cps := fun y hy => ((h.2.1 y hy).below b2).below ba
  have hnw : CpOwn B (x2.alloc o) r.sl r.cps := (ho.mono hB).below ba
  refine ⟨?_, fun y hy => ?_, fun y hy => ?_, ?_⟩
  · rw [cellsOf_append, List.length_append]
    exact hown
  · rcases List.mem_append.1 hy with hy | hy
    · exact World.ownsRow.kept (hold y hy) hg (h.2.2.1 y hy)
    · obtain rfl : y = r := by simpa using hy
      exact World.ownsRow.kept hnw hg hnew
  · rcases List.mem_append.1 hy with hy | hy
    · exact hfar y (hold y hy) (h.2.2.1 y hy)
    · obtain rfl : y = r := by simpa using hy
      exact hfar y hnw hnew
  · rw [List.pairwise_append]
    refine ⟨h.2.2.2, List.pairwise_singleton _ _, fun a ha b hb' => ?_⟩
    obtain rfl : b = r := by simpa using hb'
    exact own_differ (fun k hk => ((h.2.1 a ha).lt k hk).2) (fun k hk => (ho.lt k hk).1)

set_option maxHeartbeats 2000000 in
theorem l5Copy_any (A : Option Addr) (l : List Wr) (cap : Nat) (w : World) (hl : Wks w A l) (hA : ∀ r ∈ l, r.ad = none → r.cap = 0) (hlen : l.length ≤ 1048576) (hp : ∀ r ∈ l, r.cps.length ≤ 1048576) :
    Calls Tryz.prog 128 #[.slice A l.length cap] w fun e w' => ∃ v rs, e = .returned v ∧ rs.map Wr.wk = l.map Wr.wk ∧ SfOwn w.heap.size w' v rs ∧ Below w.heap.size w w' := by
  obtain ⟨i0, hi, hz0, hz1, hz2⟩ := info_parts infoWk
  have HP := Lib.hid hp
  have HA := Lib.hid hA
  have HL := Lib.hid hl
  clear hp hA hl
  have ho0 := World.ownsRow_made (size := 3) (e := 44) w #[] 0 (base := w.heap.size) (Nat.le_refl _) (Nat.zero_le _) rfl
  have HO0 := Lib.hid ho0
  clear ho0
  go_enter Tryz.func128, Tryz.ntmps128
  go_wp2
  go_loopw [3, 4] (fun out i wr => ∃ (j : Nat) (rs : List Wr), i = .int .i64 j ∧ j ≤ l.length ∧ rs.length = j ∧ rs.map Wr.wk = (l.take j).map Wr.wk ∧ SfOwn w.heap.size wr out rs ∧ Below w.heap.size w wr) (fun _ i _ => l.length - (intOf i).toNat)
  case atStart => exact ⟨0, [], rfl, Nat.zero_le _, rfl, rfl, ⟨HO0.out, by simp, by simp, List.Pairwise.nil⟩, (Below.refl _ _).alloc (Nat.le_refl _) _⟩
  case round =>
    obtain ⟨j, rs, rfl, hj, hrl, hrm, hown, hb⟩ := hrel
    have HOW := Lib.hid hown
    have HRM := Lib.hid hrm
    have HRL := Lib.hid hrl
    clear hown hrm hrl
    by_cases hlt : j < l.length
    · obtain ⟨b, o, rfl, hbl, c0, c1, c2, hc⟩ := Wks_at (HL.out.below hb) hlt
      have HC := Lib.hid hc
      have hcl := HP.out l[j] (List.getElem_mem hlt)
      have HCA := Lib.hid (HA.out l[j] (List.getElem_mem hlt))
      have hsz := hb.size
      clear hc
      go_wp2_with fail
      refine (l4Own_any l[j].name l[j].owner l[j].ad l[j].cps l[j].cap _ HC.out HCA.out hcl).mono ?_
      rintro r w2 ⟨A', c', rfl, ho, b2⟩
      have HN := Lib.hid ho
      have HB2 := Lib.hid b2
      have hs2 := b2.size
      clear ho b2
      go_wp2_with (at_builtin; refine wpList_append_flat_at (k := 3) (enc := wrL) (l := [(⟨l[j].name, l[j].owner, A', c', l[j].cps⟩ : Wr)]) rfl _ _ 24 rfl w.heap.size 44 i0 _ 48 Tryz.underlying24 hi hz0 hz1 hz2 rfl (by decide) _ rs.length (cellsOf wrL rs) rfl ((Own.below HOW.out.1 HB2.out).alloc _) (some ⟨w2.heap.size, 0, none⟩) 1 rfl (fun h => by cases h) (one_flatW w2 ⟨l[j].name, l[j].owner, A', c', l[j].cps⟩ _) wrL_len (wr_one _) (by have := HRL.out; simp only [List.length_singleton]; unfold maxLen; omega) (by have := HRL.out; simp only [List.length_singleton]; omega) (by simp; omega) ?_; intro v' w4 hown4 hgrow4 hat4)
      have HOW4 := Lib.hid hown4
      have HGR4 := Lib.hid hgrow4
      have HAT4 := Lib.hid hat4
      clear hown4 hgrow4 hat4
      go_roundw
      case rel =>
        refine ⟨j + 1, rs ++ [⟨l[j].name, l[j].owner, A', c', l[j].cps⟩], by go_num, by omega, by simp [HRL.out], ?_, ?_, ?_⟩
        · rw [List.map_append, HRM.out, List.take_succ_eq_append_getElem hlt, List.map_append]; rfl
        · exact HOW.out.push hb.size HB2.out HN.out _ HOW4.out HGR4.out HAT4.out
        · exact below_grow (next hb HB2.out) (Own.below HOW.out.1 HB2.out) HGR4.out
      case measure => simp [intOf]; omega
    · have hj' : j = l.length := by omega
      have hrm := HRM.out
      rw [hj', List.take_length] at hrm
      have HRM2 := Lib.hid hrm
      clear hrm
      go_wp2
      go_ret
      exact ⟨_, rs, rfl, HRM2.out, HOW.out, hb⟩
end Go.Proofs.YtblcgbgcccjpcaaGreat
namespace Go.Proofs.YtblcgbgcccjpcaaGreat
open Go.RowKit
set_option maxRecDepth 20000

theorem results_iDoes (v : Value) (c : Int) (p : ByteArray) (R : Nat) (W : World) (tmps : Array Value) (h4 : tmps.getD 4 undef = v) (h2 : tmps.getD 5 undef = .pointer (some ⟨R, 0, none⟩)) (hW : Holds W R (rpA c p)) :
    (results Tryz.f12 tmps).run Tryz.prog W = .ok (.tuple #[v, rpV c p]) W := by
  obtain ⟨q0, q1⟩ := hW.two
  simp at h2 h4
  simp [results, Tryz.results12, go_sem, h2, h4, q0, q1]

/-- What Does answers. -/
def DoRet (w : World) (q : List M.Wk × M.Rp) (e : Ending) (w' : World) : Prop :=
  ∃ v l', e = .returned (.tuple #[v, rpV q.2.1 q.2.2]) ∧ SfOwn w.heap.size w' v l' ∧ l'.map Wr.wk = q.1 ∧ Below w.heap.size w w'

set_option maxHeartbeats 4000000 in
theorem implDoes (A : Option Addr) (l : List Wr) (cap : Nat) (d : M.Dd) (w : World) (hl : Wks w A l) (hlen : l.length ≤ 1048576) (hp : WrsIn 1048576 l) (hn : d.name.size ≤ 1048576) (hpg : d.page.size ≤ 1048576) :
    Calls Tryz.prog 12 #[.slice A l.length cap, ddV d] w (DoRet w (M.does (l.map Wr.wk) d)) := by
  have HP := Lib.hid hp
  have HL := Lib.hid hl
  have hm := ((Mem.start w).new (ddC d) 39).new (rpA 0 noP) 33
  have b0 := hm.1
  simp only [World.size_alloc] at hm
  clear hp hl
  rcases hok : M.sfOk (l.map Wr.wk) with _ | _
  · have HE : Hid (M.does (l.map Wr.wk) d = ([], ((7 : Int), M.nilB))) := Lib.hid (by simp [M.does, hok])
    go_enter Tryz.func12, Tryz.ntmps12
    go_wp2_with fail
    have hcall := implShelfOk A l cap _ (HL.out.below b0) hlen HP.out
    rw [hok] at hcall
    refine hcall.mono ?_
    rintro e x1 ⟨rfl, b1⟩
    have hm1 := hm.below b1
    clear hcall hm b0 b1 hok
    obtain ⟨r0, r1⟩ := (hm1.get (w.heap.size + 1) (rpA 0 noP) (by simp)).two
    have z0 := hm1.loose (w.heap.size + 1) (by simp) 0
    have z1 := hm1.loose (w.heap.size + 1) (by simp) 1
    have HM := Lib.hid hm1
    clear hm1
    go_wp2
    refine bodyPost_ret (results_iDoes (.slice none 0 0) 7 noP (w.heap.size + 1) _ _ rfl rfl ?_) rfl ⟨.slice none 0 0, [], by rw [HE.out]; rfl, ⟨⟨rfl, .inl ⟨rfl, rfl⟩⟩, by simp, by simp, List.Pairwise.nil⟩, by rw [HE.out]; rfl, (HM.out.1.setCell (by show w.heap.size ≤ w.heap.size + 1; omega) _).setCell (by show w.heap.size ≤ w.heap.size + 1; omega) _⟩
    simpa using (((HM.out.get (w.heap.size + 1) (rpA 0 noP) (by simp)).putM 0 (.int .i64 7)).putM 1 (.string noP))
  · obtain ⟨hrise, hl5⟩ := sfOk_rise hok
    have HRL := Lib.hid hrise
    have HL5 := Lib.hid hl5
    have HOK := Lib.hid hok
    clear hrise hl5
    go_enter Tryz.func12, Tryz.ntmps12
    go_wp2_with fail
    have hcall := implShelfOk A l cap _ (HL.out.below b0) hlen HP.out
    rw [hok] at hcall
    refine hcall.mono ?_
    rintro e x1 ⟨rfl, b1⟩
    have hm1 := hm.below b1
    have hs1 := b1.size
    simp only [World.size_alloc] at hs1
    have HL1 := Lib.hid ((HL.out.below b0).below b1)
    clear hcall hm b0 b1 hok
    go_wp2_with fail
    refine (shelfOf_any A l cap x1 HL1.out HRL.out hlen HP.out).mono ?_
    rintro e x2 ⟨rfl, rs, hrs, hmap, hown, b2⟩
    have hm2 := hm1.below b2
    have htop : x1.heap.size + 1 ≤ x2.heap.size := hmap.lt
    have hst : St x2 (x1.heap.size + 1) x1.heap.size l.length rs := ⟨hmap, rise_same hrs HRL.out, hown, Nat.lt_succ_self _, htop, (by have := HL5.out; omega), wrs_same hrs HP.out⟩
    have HST := Lib.hid hst
    have HRS := Lib.hid hrs
    clear hm1 hmap hown b2 hst hrs
    obtain ⟨q0, q1, q2, q3, q4, q5, q6⟩ := (hm2.get w.heap.size (ddC d) (by simp)).seven
    go_wp2_with fail
    have hcall := does_any (x1.heap.size + 1) x1.heap.size l.length rs d x2 HST.out (by have := length_same HRS.out; have := HL5.out; omega) hn hpg
    rw [HRS.out] at hcall
    obtain ⟨p, hpp⟩ : ∃ p, M.keptD (l.map Wr.wk) d = p := ⟨_, rfl⟩
    rw [hpp] at hcall
    have HPP := Lib.hid hpp
    have HE : Hid (M.does (l.map Wr.wk) d = (p.1, p.2)) := Lib.hid (by rw [← hpp]; simp [M.does, M.keptD, HOK.out])
    clear hpp
    refine hcall.mono ?_
    rintro e x3 ho
    obtain ⟨rfl, hg3, n', rs', h1, h2, h3, h4, h5⟩ := ho
    have hm3 := (hm2.by hg3 (by omega) (by simp; omega) (by simp; omega)).new (rpA p.2.1 p.2.2) 33
    have hmr := hm3.re (hs' := [(x3.heap.size, rpA p.2.1 p.2.2), (w.heap.size + 1, rpA 0 noP)]) (ls' := [x3.heap.size, w.heap.size + 1]) (by simp) (by simp)
    have hg3s := hg3.size
    have HM := Lib.hid hmr
    clear hcall hm2 hm3 hmr q0 q1 q2 q3 q4 q5 q6 hg3
    have HMP := Lib.hid (h1.alloc (.cells (rpA p.2.1 p.2.2) 33))
    have HRI := Lib.hid h2
    have HRO := Lib.hid (h3.below ((Below.refl _ _).alloc (Nat.le_refl _) (.cells (rpA p.2.1 p.2.2) 33)))
    have HNN := Lib.hid (near_names (HPP.out ▸ M.near_keptD (l.map Wr.wk) d) h4 HL5.out HP.out hn)
    have H4 := Lib.hid h4
    have HBS : Hid (x1.heap.size + 1 ≤ (x3.alloc (.cells (rpA p.2.1 p.2.2) 33)).heap.size) := Lib.hid (by simp; omega)
    clear h1 h2 h3 h4 h5
    go_wp2_with fail
    refine wp_region_fin 4 (fun x => Mem w [(x3.heap.size, rpA p.2.1 p.2.2), (w.heap.size + 1, rpA 0 noP)] [x3.heap.size, w.heap.size + 1] x ∧ ShM x x1.heap.size n' rs' ∧ RsOwn (x1.heap.size + 1) x rs' ∧ (x1.heap.size + 1) ≤ x.heap.size) [(0,true),(2,true),(1,false),(3,true),(4,false)] (by kernel_rfl) (by kernel_rfl) (fun _ _ _ _ _ h => h) (by kernel_rfl) (by decide) ⟨HM.out.drew, HMP.out.drew, HRO.out, HBS.out⟩ ?_
    intro hHeld
    repeat (first
      | (refine seqF_reads (by simp only [List.getElem?_toArray, List.getElem?_cons_succ, List.getElem?_cons_zero]; first | done | rfl) (by rfl) ?_; apply Exists.intro; apply And.intro; (focus (intro w hSw; (try (replace hSw := hSw (by decide +kernel))); (try (obtain ⟨q0, q1⟩ := (hSw.1.get (x3.heap.size) (rpA p.2.1 p.2.2) (by simp)).two)); go_simp; (try with_reducible rfl); done)); (try simp only [Act.put, List.setIfInBounds_toArray, List.set_cons_zero, List.set_cons_succ]))
      | (refine seqF_call (by simp only [List.getElem?_toArray, List.getElem?_cons_succ, List.getElem?_cons_zero]; first | done | rfl) (by rfl) (fun K hK => ?_) (by decide); go_simp; go_at_call 64; refine (inOrder_any x1.heap.size n' (x1.heap.size + 1) rs' _ hHeld.2.1 HRI.out hHeld.2.2.1 hHeld.2.2.2 HNN.out.1 HNN.out.2).mono ?_; rintro r w1 ⟨v, rfl, hs, b5⟩; go_simp; refine hK.out _ _ _ (fun _ h => h) ⟨hHeld.1.below b5, hHeld.2.1.kept (grown_lw b5 none) (by simp), hHeld.2.2.1.below b5, Nat.le_trans hHeld.2.2.2 b5.size⟩ ?_; clear hK hHeld; intro hHeld; (have HSF := Lib.hid hs); clear hs b5; (try simp only [Act.put, List.setIfInBounds_toArray, List.set_cons_zero, List.set_cons_succ]))
      | (refine seqF_last (by simp only [List.getElem?_toArray, List.getElem?_cons_succ, List.getElem?_cons_zero]; first | done | rfl) (by rfl) (fun K hK => ?_); have hD := hHeld.1; obtain ⟨r0, r1⟩ := (hD.get (w.heap.size + 1) (rpA 0 noP) (by simp)).two; have z0 := hD.loose (w.heap.size + 1) (by simp) 0; have z1 := hD.loose (w.heap.size + 1) (by simp) 1; go_simp; refine hK.out _ _ ?_; clear hK; clear r0 r1 z0 z1 hD; (have HD := Lib.hid hHeld); clear hHeld; (try simp only [Act.put, List.setIfInBounds_toArray, List.set_cons_zero, List.set_cons_succ])))
    refine seqF_end ?_
    go_wp2
    refine bodyPost_ret (results_iDoes v p.2.1 p.2.2 (w.heap.size + 1) _ _ rfl rfl ?_) rfl ⟨v, rs', by rw [HE.out], ((HSF.out.set (by omega) 0 _).set (by omega) 1 _).mono (by omega), by rw [HE.out]; exact H4.out, (HD.out.1.1.setCell (by show w.heap.size ≤ w.heap.size + 1; omega) _).setCell (by show w.heap.size ≤ w.heap.size + 1; omega) _⟩
    simpa using (((HD.out.1.get (w.heap.size + 1) (rpA 0 noP) (by simp)).putM 0 (.int .i64 p.2.1)).putM 1 (.string p.2.2))
end Go.Proofs.YtblcgbgcccjpcaaGreat
namespace Go.Proofs.YtblcgbgcccjpcaaGreat
open Go.RowKit
set_option maxRecDepth 20000

theorem leq_of {a b : ByteArray} : (Op.bytesLess b.toList a.toList || b.toList == a.toList) = !M.nameLt a b := by
  unfold M.nameLt
  rw [bytesLess_tri a.toList b.toList, Bool.not_not]

set_option maxHeartbeats 4000000 in
theorem specShelfOk (A : Option Addr) (l : List Wr) (cap : Nat) (w : World) (hl : Wks w A l) (hlen : l.length ≤ 1048576) (hp : WrsIn 1048576 l) :
    Calls Tryz.prog 15 #[.slice A l.length cap] w fun r w' => r = .returned (.bool (M.sfOk (l.map Wr.wk))) ∧ Below w.heap.size w w' := by
  go_enter Tryz.func15, Tryz.ntmps15
  go_wp2
  go_loopw [3] (fun i wr => ∃ j : Nat, i = .int .i64 j ∧ j ≤ l.length ∧ M.sfTo (l.map Wr.wk) j ∧ Below w.heap.size w wr) (fun i _ => l.length - (intOf i).toNat)
  case atStart => exact ⟨0, rfl, Nat.zero_le _, M.sfTo_zero _, Below.refl _ _⟩
  case round =>
    obtain ⟨j, rfl, hj, hu, hb⟩ := hrel
    by_cases hlt : j < l.length
    · rcases hk : M.wkOk ⟨l[j].name, l[j].owner, l[j].cps⟩ with _ | _
      · have HE : Hid (M.sfOk (l.map Wr.wk) = false) := Lib.hid (M.sfOk_not_work (k := j) (by simpa using hlt) (by simpa [Wr.wk] using hk))
        obtain ⟨b, o, rfl, hbl, c0, c1, c2, hc⟩ := Wks_at (hl.below hb) hlt
        have HC := Lib.hid hc
        have HPJ := Lib.hid (hp l[j] (List.getElem_mem hlt))
        have HL := Lib.hid hl
        have HU := Lib.hid hu
        clear hl hu hc hp
        go_wp2_with fail
        refine wp_region_seq (fun w' => Below wr.heap.size wr w') [(0, true), (1, true), (2, true), (3, true), (4, false), (5, true), (6, true), (7, true), (8, true), (9, true), (10, true), (11, true), (12, true), (13, true), (14, true), (15, true), (16, true), (17, true), (18, true), (19, true), (20, true), (21, true), (22, true), (23, true)] (by kernel_rfl) (by kernel_rfl) (fun _ _ _ _ _ h => h) (by kernel_rfl) (by decide) (Below.refl _ _).drew ?_
        intro hHeld
        repeat (first
          | (refine seq_skip (by simp only [List.getElem?_toArray, List.getElem?_cons_succ, List.getElem?_cons_zero]; first | done | rfl) (by rfl) ?_; (try simp only [Act.put, List.setIfInBounds_toArray, List.set_cons_zero, List.set_cons_succ]))
          | (refine seq_reads (by simp only [List.getElem?_toArray, List.getElem?_cons_succ, List.getElem?_cons_zero]; first | done | rfl) (by rfl) ?_; apply Exists.intro; apply And.intro; (focus (intro w hSw; obtain ⟨hcS, -⟩ := bcell hSw; go_simp; (try with_reducible rfl); done)); (try simp only [Act.put, List.setIfInBounds_toArray, List.set_cons_zero, List.set_cons_succ]))
          | (refine seq_pass (by simp only [List.getElem?_toArray, List.getElem?_cons_succ, List.getElem?_cons_zero]; first | done | rfl) (by rfl) hHeld ?_; clear hHeld; intro hHeld; (try simp only [Act.put, List.setIfInBounds_toArray, List.set_cons_zero, List.set_cons_succ]))
          | (refine seq_call (by simp only [List.getElem?_toArray, List.getElem?_cons_succ, List.getElem?_cons_zero]; first | done | rfl) (by rfl) (fun K hK => ?_); go_simp; go_at_call 68; refine (specWorkOk l[j].name l[j].owner l[j].ad l[j].cps l[j].cap _ (HC.out.below hHeld) (Nat.le_trans HPJ.out.1 (by unfold maxLen; omega)) HPJ.out.2.1 (fun x hx => Nat.le_trans (HPJ.out.2.2 x hx) (by unfold maxLen; omega))).mono ?_; rintro r w1 ⟨rfl, b1⟩; go_simp; refine hK.out _ _ (next hHeld b1) ?_; clear hK hHeld; intro hHeld; (try simp only [Act.put, List.setIfInBounds_toArray, List.set_cons_zero, List.set_cons_succ])))
        refine seq_end ?_
        go_wp2
        go_ret
        exact ⟨ret_bool HE.out.symm, next hb hHeld⟩
      · rcases Nat.eq_zero_or_pos j with h0 | h0
        · have HN : Hid (M.sfTo (l.map Wr.wk) (j + 1)) := Lib.hid (by subst h0; exact M.sfTo_first (by simpa using hlt) (by simpa [Wr.wk] using hk))
          have e0 : decide (0 < j) = false := by simp; omega
          have H0 := Lib.hid h0
          clear h0
          obtain ⟨b, o, rfl, hbl, c0, c1, c2, hc⟩ := Wks_at (hl.below hb) hlt
          have HC := Lib.hid hc
          have HPJ := Lib.hid (hp l[j] (List.getElem_mem hlt))
          have HL := Lib.hid hl
          have HU := Lib.hid hu
          clear hl hu hc hp
          go_wp2_with fail
          refine wp_region_seq (fun w' => Below wr.heap.size wr w') [(0, true), (1, true), (2, true), (3, true), (4, false), (5, true), (6, true), (7, true), (8, true), (9, true), (10, true), (11, true), (12, true), (13, true), (14, true), (15, true), (16, true), (17, true), (18, true), (19, true), (20, true), (21, true), (22, true), (23, true)] (by kernel_rfl) (by kernel_rfl) (fun _ _ _ _ _ h => h) (by kernel_rfl) (by decide) (Below.refl _ _).drew ?_
          intro hHeld
          repeat (first
            | (refine seq_skip (by simp only [List.getElem?_toArray, List.getElem?_cons_succ, List.getElem?_cons_zero]; first | done | rfl) (by rfl) ?_; (try simp only [Act.put, List.setIfInBounds_toArray, List.set_cons_zero, List.set_cons_succ]))
            | (refine seq_reads (by simp only [List.getElem?_toArray, List.getElem?_cons_succ, List.getElem?_cons_zero]; first | done | rfl) (by rfl) ?_; apply Exists.intro; apply And.intro; (focus (intro w hSw; obtain ⟨hcS, -⟩ := bcell hSw; go_simp; (try with_reducible rfl); done)); (try simp only [Act.put, List.setIfInBounds_toArray, List.set_cons_zero, List.set_cons_succ]))
            | (refine seq_pass (by simp only [List.getElem?_toArray, List.getElem?_cons_succ, List.getElem?_cons_zero]; first | done | rfl) (by rfl) hHeld ?_; clear hHeld; intro hHeld; (try simp only [Act.put, List.setIfInBounds_toArray, List.set_cons_zero, List.set_cons_succ]))
            | (refine seq_call (by simp only [List.getElem?_toArray, List.getElem?_cons_succ, List.getElem?_cons_zero]; first | done | rfl) (by rfl) (fun K hK => ?_); go_simp; go_at_call 68; refine (specWorkOk l[j].name l[j].owner l[j].ad l[j].cps l[j].cap _ (HC.out.below hHeld) (Nat.le_trans HPJ.out.1 (by unfold maxLen; omega)) HPJ.out.2.1 (fun x hx => Nat.le_trans (HPJ.out.2.2 x hx) (by unfold maxLen; omega))).mono ?_; rintro r w1 ⟨rfl, b1⟩; go_simp; refine hK.out _ _ (next hHeld b1) ?_; clear hK hHeld; intro hHeld; (try simp only [Act.put, List.setIfInBounds_toArray, List.set_cons_zero, List.set_cons_succ])))
          refine seq_end ?_
          go_wp2
          go_roundw
          case rel => exact ⟨j + 1, by go_num, by omega, HN.out, next hb hHeld⟩
          case measure => simp [intOf]; omega
        · obtain ⟨k, hkj⟩ : ∃ k, j = k + 1 := ⟨j - 1, by omega⟩
          have hkl : k < l.length := by omega
          rcases hnl : M.nameLt l[k].name l[j].name with _ | _
          · have HE : Hid (M.sfOk (l.map Wr.wk) = false) := Lib.hid (by subst hkj; exact M.sfOk_not_rise (k := k) (by simpa using hlt) (by simpa [Wr.wk] using hnl))
            have e6 : (Op.bytesLess l[j].name.toList l[k].name.toList || l[j].name.toList == l[k].name.toList) = true := by rw [leq_of, hnl]; rfl
            obtain ⟨b, o, rfl, hbl, c0, c1, c2, hc⟩ := Wks_at (hl.below hb) hlt
            have HC := Lib.hid hc
            have HPJ := Lib.hid (hp l[j] (List.getElem_mem hlt))
            have HL := Lib.hid hl
            have HU := Lib.hid hu
            obtain ⟨b', o', hbo, -, d0, d1, d2, -⟩ := Wks_at (hl.below hb) hkl
            obtain ⟨rfl, rfl⟩ : b = b' ∧ o = o' := by simpa using hbo
            have e0 : decide (0 < j) = true := by simp; omega
            have e1 : IntKind.i64.wrap ((j : Int) - 1) = (j : Int) - 1 := IntWalk.i64_in _ (by omega)
            have e2 : ((j : Int) - 1).toNat = k := by omega
            have e3 : (1 : Int) ≤ (j : Int) := by omega
            have e5 : ¬ ((l.length : Int) ≤ (j : Int) - 1) := by omega
            have HN := Lib.hid hnl
            have HK := Lib.hid hkj
            have H0 := Lib.hid h0
            clear hbo hnl hkj d1 d2 h0
            clear hl hu hc hp
            go_wp2_with fail
            refine wp_region_seq (fun w' => Below wr.heap.size wr w') [(0, true), (1, true), (2, true), (3, true), (4, false), (5, true), (6, true), (7, true), (8, true), (9, true), (10, true), (11, true), (12, true), (13, true), (14, true), (15, true), (16, true), (17, true), (18, true), (19, true), (20, true), (21, true), (22, true), (23, true)] (by kernel_rfl) (by kernel_rfl) (fun _ _ _ _ _ h => h) (by kernel_rfl) (by decide) (Below.refl _ _).drew ?_
            intro hHeld
            repeat (first
              | (refine seq_skip (by simp only [List.getElem?_toArray, List.getElem?_cons_succ, List.getElem?_cons_zero]; first | done | rfl) (by rfl) ?_; (try simp only [Act.put, List.setIfInBounds_toArray, List.set_cons_zero, List.set_cons_succ]))
              | (refine seq_reads (by simp only [List.getElem?_toArray, List.getElem?_cons_succ, List.getElem?_cons_zero]; first | done | rfl) (by rfl) ?_; apply Exists.intro; apply And.intro; (focus (intro w hSw; obtain ⟨hcS, -⟩ := bcell hSw; go_simp; (try with_reducible rfl); done)); (try simp only [Act.put, List.setIfInBounds_toArray, List.set_cons_zero, List.set_cons_succ]))
              | (refine seq_pass (by simp only [List.getElem?_toArray, List.getElem?_cons_succ, List.getElem?_cons_zero]; first | done | rfl) (by rfl) hHeld ?_; clear hHeld; intro hHeld; (try simp only [Act.put, List.setIfInBounds_toArray, List.set_cons_zero, List.set_cons_succ]))
              | (refine seq_call (by simp only [List.getElem?_toArray, List.getElem?_cons_succ, List.getElem?_cons_zero]; first | done | rfl) (by rfl) (fun K hK => ?_); go_simp; go_at_call 68; refine (specWorkOk l[j].name l[j].owner l[j].ad l[j].cps l[j].cap _ (HC.out.below hHeld) (Nat.le_trans HPJ.out.1 (by unfold maxLen; omega)) HPJ.out.2.1 (fun x hx => Nat.le_trans (HPJ.out.2.2 x hx) (by unfold maxLen; omega))).mono ?_; rintro r w1 ⟨rfl, b1⟩; go_simp; refine hK.out _ _ (next hHeld b1) ?_; clear hK hHeld; intro hHeld; (try simp only [Act.put, List.setIfInBounds_toArray, List.set_cons_zero, List.set_cons_succ])))
            refine seq_end ?_
            go_wp2
            go_ret
            exact ⟨ret_bool HE.out.symm, next hb hHeld⟩
          · have HT : Hid (M.sfTo (l.map Wr.wk) (j + 1)) := Lib.hid (by subst hkj; exact M.sfTo_next hu (by simpa using hlt) (by simpa [Wr.wk] using hk) (by simpa [Wr.wk] using hnl))
            have e6 : (Op.bytesLess l[j].name.toList l[k].name.toList || l[j].name.toList == l[k].name.toList) = false := by rw [leq_of, hnl]; rfl
            obtain ⟨b, o, rfl, hbl, c0, c1, c2, hc⟩ := Wks_at (hl.below hb) hlt
            have HC := Lib.hid hc
            have HPJ := Lib.hid (hp l[j] (List.getElem_mem hlt))
            have HL := Lib.hid hl
            have HU := Lib.hid hu
            obtain ⟨b', o', hbo, -, d0, d1, d2, -⟩ := Wks_at (hl.below hb) hkl
            obtain ⟨rfl, rfl⟩ : b = b' ∧ o = o' := by simpa using hbo
            have e0 : decide (0 < j) = true := by simp; omega
            have e1 : IntKind.i64.wrap ((j : Int) - 1) = (j : Int) - 1 := IntWalk.i64_in _ (by omega)
            have e2 : ((j : Int) - 1).toNat = k := by omega
            have e3 : (1 : Int) ≤ (j : Int) := by omega
            have e5 : ¬ ((l.length : Int) ≤ (j : Int) - 1) := by omega
            have HN := Lib.hid hnl
            have HK := Lib.hid hkj
            have H0 := Lib.hid h0
            clear hbo hnl hkj d1 d2 h0
            clear hl hu hc hp
            go_wp2_with fail
            refine wp_region_seq (fun w' => Below wr.heap.size wr w') [(0, true), (1, true), (2, true), (3, true), (4, false), (5, true), (6, true), (7, true), (8, true), (9, true), (10, true), (11, true), (12, true), (13, true), (14, true), (15, true), (16, true), (17, true), (18, true), (19, true), (20, true), (21, true), (22, true), (23, true)] (by kernel_rfl) (by kernel_rfl) (fun _ _ _ _ _ h => h) (by kernel_rfl) (by decide) (Below.refl _ _).drew ?_
            intro hHeld
            repeat (first
              | (refine seq_skip (by simp only [List.getElem?_toArray, List.getElem?_cons_succ, List.getElem?_cons_zero]; first | done | rfl) (by rfl) ?_; (try simp only [Act.put, List.setIfInBounds_toArray, List.set_cons_zero, List.set_cons_succ]))
              | (refine seq_reads (by simp only [List.getElem?_toArray, List.getElem?_cons_succ, List.getElem?_cons_zero]; first | done | rfl) (by rfl) ?_; apply Exists.intro; apply And.intro; (focus (intro w hSw; obtain ⟨hcS, -⟩ := bcell hSw; go_simp; (try with_reducible rfl); done)); (try simp only [Act.put, List.setIfInBounds_toArray, List.set_cons_zero, List.set_cons_succ]))
              | (refine seq_pass (by simp only [List.getElem?_toArray, List.getElem?_cons_succ, List.getElem?_cons_zero]; first | done | rfl) (by rfl) hHeld ?_; clear hHeld; intro hHeld; (try simp only [Act.put, List.setIfInBounds_toArray, List.set_cons_zero, List.set_cons_succ]))
              | (refine seq_call (by simp only [List.getElem?_toArray, List.getElem?_cons_succ, List.getElem?_cons_zero]; first | done | rfl) (by rfl) (fun K hK => ?_); go_simp; go_at_call 68; refine (specWorkOk l[j].name l[j].owner l[j].ad l[j].cps l[j].cap _ (HC.out.below hHeld) (Nat.le_trans HPJ.out.1 (by unfold maxLen; omega)) HPJ.out.2.1 (fun x hx => Nat.le_trans (HPJ.out.2.2 x hx) (by unfold maxLen; omega))).mono ?_; rintro r w1 ⟨rfl, b1⟩; go_simp; refine hK.out _ _ (next hHeld b1) ?_; clear hK hHeld; intro hHeld; (try simp only [Act.put, List.setIfInBounds_toArray, List.set_cons_zero, List.set_cons_succ])))
            refine seq_end ?_
            clear e1 e2 e3 e5 e6
            go_wp2
            go_roundw
            case rel => exact ⟨j + 1, by go_num, by omega, HT.out, next hb hHeld⟩
            case measure => simp [intOf]; omega
    · have HE : Hid (M.sfOk (l.map Wr.wk) = decide ((l.length : Int) ≤ 5)) := Lib.hid (by rw [M.sfTo_all hu (by simp; omega)]; simp; omega)
      clear hu
      go_wp2
      go_ret
      exact ⟨ret_bool HE.out.symm, hb⟩
end Go.Proofs.YtblcgbgcccjpcaaGreat
