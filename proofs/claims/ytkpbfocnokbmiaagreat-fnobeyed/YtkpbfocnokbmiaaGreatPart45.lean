/- Proved, in parts: Proved: plain facts on many entries told in two parts, and the laws' own pick out of a list of bytes. Condition: at most 4096 bytes, at most a million to pick from. Proved: the language's own test tells a copy like itself; no condition. Proved: the laws' own test tells a work like itself; what a law knows of its boxes and lists stays behind calls; nothing that was there is written. Proved: the laws' own tests tell shelves, books and lists of replies like themselves; nothing that was there is written. Condition: lists of at most a million. Proved: the language's own test whether two entries are alike is whether they are alike in each field; no condition. Proved: the model's and the program's test whether two entries are the same is whether they are alike in each field; nothing that was there is written. No condition. -/
import Derived.Test.YtkpbfocnokbmiaaGreatPart42
import Derived.Test.YtkpbfocnokbmiaaGreatPart44
import Derived.Test.YtkpbfocnokbmiaaGreatPart03
import Derived.Calls
import Derived.KernelRfl
import Derived.Test.YtkpbfocnokbmiaaGreatPart36
import Derived.Test.YtkpbfocnokbmiaaGreatPart19
import Derived.Test.YtkpbfocnokbmiaaGreatPart35
import Derived.Test.YtkpbfocnokbmiaaGreatPart01
namespace Go.Proofs.YtkpbfocnokbmiaaGreat
open Go.RowKit
set_option maxRecDepth 20000
namespace M
theorem oball_is {b : Bk} {l : List En} (hb : bkOk b.1 b.2 = true) (hl : l.length ≤ 400) : obeyedAll b l = obeyTo b l := by
  unfold obeyedAll; simp [hb, hl]
theorem oball_cut {b : Bk} {l : List En} (hb : bkOk b.1 b.2 = true) (hl : l.length ≤ 400) (k : Nat) : obeyedAll (obeyedAll b (l.take k)) (l.drop k) = obeyedAll b l := by
  rw [oball_is (l := l.take k) hb (by rw [List.length_take]; omega), oball_is (l := l.drop k) (obeyTo_ok hb _) (by rw [List.length_drop]; omega), oball_is hb hl, ← obeyTo_append, List.take_append_drop]
theorem oball_cutQ {b : Bk} {l : List En} {V : Bk} {l1 : List Wk} (hb : bkOk b.1 b.2 = true) (hl : l.length ≤ 400) (k : Nat) (hV : V = obeyedAll b (l.take k)) (h : l1 = V.1) : obeyedAll (l1, V.2) (l.drop k) = obeyedAll b l := by
  rw [h]; show obeyedAll V (l.drop k) = _; rw [hV]; exact oball_cut hb hl k
theorem obey_none {b : Bk} {e : En} (hb : bkOk b.1 b.2 = true) (he : entryOk e = true) (h0 : orEq e.order or0 = true) : obeyed b e = (b, (0, nilB)) := by
  rw [obeyed_ok hb]; unfold obeyI; rw [if_pos he, if_pos h0]
theorem obeyI_in {rs : List Wr} {ls : List La} {e : En} {n : Nat} (hp : WrsIn n rs) (hl : ∀ x ∈ ls, laIn n x) : ∀ x ∈ (obeyI (rs.map Wr.wk, ls) e).1.2, laIn n x := by
  unfold obeyI
  split
  · split
    · exact hl
    · exact ordI_in hp hl
  · exact hl
theorem obeyTo_in {rs : List Wr} {ls : List La} (n : Nat) (hn : 12 ≤ n) (hb : bkOk (rs.map Wr.wk) ls = true) (hl : ∀ x ∈ ls, laIn n x) (l : List En) : ∀ j, j ≤ l.length → ∀ x ∈ (obeyTo (rs.map Wr.wk, ls) (l.take j)).2, laIn n x := by
  intro j
  induction j with
  | zero => intro _; exact hl
  | succ j ih =>
    intro hj
    rw [obeyTo_succ _ l j (by omega)]
    have h1 := ih (by omega)
    have h2 := obeyTo_ok (b := (rs.map Wr.wk, ls)) hb (l.take j)
    obtain ⟨ts, hts⟩ : ∃ ts : List Wr, ts.map Wr.wk = (obeyTo (rs.map Wr.wk, ls) (l.take j)).1 := ⟨(obeyTo (rs.map Wr.wk, ls) (l.take j)).1.map fun w => ⟨w.name, w.owner, none, 0, w.copies⟩, by rw [List.map_map]; exact List.map_id'' (fun _ => rfl) _⟩
    simp only [bkOk, Bool.and_eq_true] at h2
    have h3 := (wrs_ok (hts ▸ h2.1)).2.mono hn
    have h4 := obeyI_in (e := l[j]) h3 h1
    rw [hts] at h4
    exact h4
theorem oball_in {rs : List Wr} {ls : List La} {l : List En} (hl : ∀ x ∈ ls, laIn 64 x) : ∀ x ∈ (obeyedAll (rs.map Wr.wk, ls) l).2, laIn 64 x := by
  unfold obeyedAll
  split
  · rename_i h
    simp only [Bool.and_eq_true, decide_eq_true_eq] at h
    have := obeyTo_in 64 (by omega) h.1 hl l l.length (Nat.le_refl _)
    rwa [List.take_length] at this
  · simp
end M
theorem implObeyedAll_n (A : Option Addr) (l : List Wr) (cap : Nat) (A2 : Option Addr) (m : List M.La) (cb : Nat) (AO : Option Addr) (es : List M.En) (n co : Nat) (w : World) (U : M.Bk) (hn : es.length = n) (hU : M.obeyedAll (l.map Wr.wk, m) es = U) (hl : Wks w A l) (hlen : l.length ≤ 1048576) (hp : WrsIn 1048576 l) (hm : Las w A2 m) (hml : m.length ≤ 1048576) (hmp : ∀ c ∈ m, laIn 1048576 c) (ho : Ens w AO es) (hol : es.length ≤ 1048576) (hop : ∀ e ∈ es, enIn 1048576 e) :
    Calls Tryz.prog 8 #[bkV A l.length cap A2 m.length cb, .slice AO n co] w (BkRet w U) := by
  subst hn hU
  exact implObeyedAll A l cap A2 m cb AO es co w hl hlen hp hm hml hmp ho hol hop
theorem BkRet.read {w y : World} {q : M.Bk} {r : Ending} (h : BkRet w q r y) : ∃ A1 c1 A2 c2 rs, r = .returned (bkV A1 rs.length c1 A2 q.2.length c2) ∧ BkR y A1 rs A2 q.2 ∧ rs.map Wr.wk = q.1 ∧ Below w.heap.size w y := by
  obtain ⟨A1, c1, A2, c2, rs, e, h1, h2, h3, -, h5⟩ := h.open
  exact ⟨A1, c1, A2, c2, rs, e, ⟨h1.wks.1, las_of h3⟩, h2, h5⟩
set_option maxHeartbeats 1000000 in
theorem pick_any (a : Option Addr) (len cap n : Nat) (N : Int) (w : World) (hN : N = n) (hn : 1 ≤ n) (hn2 : n ≤ 1048576) (hl : len ≤ 4096) (hc : CodeOk w.heap.size w a len) :
    Calls Tryz.prog 18 #[.slice a len cap, .int .i64 1, .int .i64 N] w fun r w' => ∃ k : Nat, k < n ∧ r = .returned (.int .i64 k) ∧ w = w' := by
  subst hN
  have HC := Lib.hid hc
  clear hc
  go_enter Tryz.func18, Tryz.ntmps18
  go_wp2
  go_loopw [7, 8] (fun s i wr => ∃ (m j : Nat), s = .int .i64 m ∧ i = .int .i64 j ∧ m ≤ 1000003 ∧ j ≤ len ∧ w = wr) (fun _ i _ => len - (intOf i).toNat)
  case atStart => exact ⟨len + 7919, 0, by go_num, rfl, by omega, Nat.zero_le _, rfl⟩
  case round =>
    obtain ⟨m, j, rfl, rfl, hm, hj, rfl⟩ := hrel
    by_cases hlt : j < len
    · obtain ⟨b, off, y, rfl, hb, h0, h1, hcell⟩ := HC.out j hlt
      go_wp2
      go_roundw
      case rel =>
        refine ⟨(((m : Int) * 311 + y + 1) % 1000003).toNat, j + 1, ?_, by go_num, by omega, by omega, trivial⟩
        rw [Int.toNat_of_nonneg (by omega)]
      case measure => simp [intOf]; omega
    · go_wp2
      go_ret
      exact ⟨m % n, Nat.mod_lt _ (by omega), ret_int (by rw [Int.natCast_emod]), rfl⟩
end Go.Proofs.YtkpbfocnokbmiaaGreat
namespace Go.Proofs.YtkpbfocnokbmiaaGreat
open Go.RowKit
set_option maxRecDepth 20000

theorem cp_neq (c : M.Cp) (w : World) : (binOp .neq 127 (cpV c) (cpV c)).run Tryz.prog w = .ok (.bool false) w := by
  simp [go_sem, Tryz.underlying127, Tryz.underlying29, Tryz.underlying2, Tryz.underlying9, Tryz.underlying4]
theorem cpneq_read {A : Act} {o : Oper} {x y : Operand} {c : M.Cp} (ho : o.op = .binOp .neq 127 x y 127) (hx : A.eval x = cpV c) (hy : A.eval y = cpV c) (w : World) :
    (execOp A.eval o).run Tryz.prog w = .ok (.value (.bool false)) w := by
  unfold execOp
  rw [ho]
  have hg := fun (op : BinOp) (x y : Operand) (xs ys : Array Value) (w : World) => run_eqGuard_agg (P := Tryz.prog) w op 127 x y xs ys (by kernel_rfl)
  have he := fun w => cp_neq c w
  simp only [cpV] at he hx hy
  simp only [hx, hy, Sem.run_bind, hg, he, Result.andThen_ok, Sem.run_pure]
end Go.Proofs.YtkpbfocnokbmiaaGreat
namespace Go.Proofs.YtkpbfocnokbmiaaGreat
open Go.RowKit
set_option maxRecDepth 20000

/-- Lists of copies that can be read: where, how much room, which. -/
def Rws (x : World) (rs : List (Option Addr × Nat × List M.Cp)) : Prop := ∀ r ∈ rs, Cps x r.1 r.2.2 ∧ (r.1 = none → r.2.1 = 0) ∧ r.2.2.length ≤ r.2.1
/-- A law's memory: nothing that was there in w has changed; the boxes bx hold their cells; the lists rs can be read. -/
def Lw (w : World) (bx : List (Nat × Array Value)) (rs : List (Option Addr × Nat × List M.Cp)) (x : World) : Prop := Mem w bx [] x ∧ Rws x rs
section
variable {w x y : World} {bx : List (Nat × Array Value)} {rs : List (Option Addr × Nat × List M.Cp)}
theorem Lw.start (w : World) : Lw w [] [] w := ⟨Mem.start w, fun _ h => by cases h⟩
theorem Lw.below (h : Lw w bx rs x) (hb : Below x.heap.size x y) : Lw w bx rs y := ⟨h.1.below hb, fun r hr => ⟨(h.2 r hr).1.below hb, (h.2 r hr).2⟩⟩
theorem Lw.alloc (h : Lw w bx rs x) (o : Obj) : Lw w bx rs (x.alloc o) := h.below ((Below.refl _ _).alloc (Nat.le_refl _) o)
theorem Lw.new (h : Lw w bx rs x) (C : Array Value) (t : TypeId) : Lw w ((x.heap.size, C) :: bx) rs (x.alloc (.cells C t)) := ⟨(h.alloc (.cells C t)).1.add (holds_new x C t), (h.alloc (.cells C t)).2⟩
theorem Lw.row (h : Lw w bx rs x) {B n c : Nat} {A : Option Addr} {l : List M.Cp} (ho : CpOwn B x (.slice A n c) l) : Lw w bx ((A, c, l) :: rs) x :=
  ⟨h.1, fun r hr => by
    rcases List.mem_cons.1 hr with rfl | hr
    · exact ⟨ho.cps.1, ho.nilc, own_cap ho⟩
    · exact h.2 r hr⟩
theorem Lw.cells (h : Lw w bx rs x) (R : Nat) (C : Array Value) (hp : (R, C) ∈ bx) : Holds x R C := h.1.get R C hp
theorem Lw.list (h : Lw w bx rs x) (A : Option Addr) (c : Nat) (l : List M.Cp) (hp : (A, c, l) ∈ rs) : Cps x A l ∧ (A = none → c = 0) ∧ l.length ≤ c := h.2 (A, c, l) hp
theorem Lw.sub {bx' : List (Nat × Array Value)} {rs' : List (Option Addr × Nat × List M.Cp)} (h : Lw w bx rs x) (hb : ∀ p ∈ bx', p ∈ bx) (hr : ∀ r ∈ rs', r ∈ rs) : Lw w bx' rs' x := ⟨h.1.sub hb, fun r hr' => h.2 r (hr r hr')⟩
end

set_option maxHeartbeats 2000000 in
theorem likeWork_same (wk : M.Wk) (A B : Option Addr) (ca cb : Nat) (w : World) (ha : Cps w A wk.copies) (hb : Cps w B wk.copies) (hlen : wk.copies.length ≤ 1048576) :
    Calls Tryz.prog 57 #[wkV wk.name wk.owner A wk.copies.length ca, wkV wk.name wk.owner B wk.copies.length cb] w fun r w' => r = .returned (.bool true) ∧ Below w.heap.size w w' := by
  have h1 : (wk.name.toList != wk.name.toList) = false := by simp
  have h2 : (wk.owner != wk.owner) = false := by simp
  have h3 : ((wk.copies.length : Int) != (wk.copies.length : Int)) = false := by simp
  have hm := ((Mem.start w).new (wkL wk.name wk.owner A wk.copies.length ca) 100).new (wkL wk.name wk.owner B wk.copies.length cb) 100
  have HA := Lib.hid ((ha.alloc (.cells (wkL wk.name wk.owner A wk.copies.length ca) 100)).alloc (.cells (wkL wk.name wk.owner B wk.copies.length cb) 100))
  have HB := Lib.hid ((hb.alloc (.cells (wkL wk.name wk.owner A wk.copies.length ca) 100)).alloc (.cells (wkL wk.name wk.owner B wk.copies.length cb) 100))
  simp only [World.size_alloc] at hm
  have HM := Lib.hid hm
  clear ha hb hm
  go_enter Tryz.func57, Tryz.ntmps57
  go_wp2
  go_loopw [5] (fun i wr => ∃ j : Nat, i = .int .i64 j ∧ j ≤ wk.copies.length ∧ Mem w [(w.heap.size + 1, wkL wk.name wk.owner B wk.copies.length cb), (w.heap.size, wkL wk.name wk.owner A wk.copies.length ca)] [w.heap.size + 1, w.heap.size] wr ∧ Cps wr A wk.copies ∧ Cps wr B wk.copies) (fun i _ => wk.copies.length - (intOf i).toNat)
  case atStart => exact ⟨0, rfl, Nat.zero_le _, HM.out, HA.out, HB.out⟩
  case round =>
    clear HM HA HB
    obtain ⟨j, rfl, hj, hm, ha, hb⟩ := hrel
    have hH := hm.get w.heap.size (wkL wk.name wk.owner A wk.copies.length ca) (by simp)
    have hK := hm.get (w.heap.size + 1) (wkL wk.name wk.owner B wk.copies.length cb) (by simp)
    have l0 := hH.1
    have l1 := hK.1
    obtain ⟨p0, p1, p2⟩ := hH.three
    obtain ⟨q0, q1, q2⟩ := hK.three
    have HM := Lib.hid hm
    have HA := Lib.hid ha
    have HB := Lib.hid hb
    clear hm ha hb hH hK
    by_cases hlt : j < wk.copies.length
    · obtain ⟨b, o, hA, lb, c0, c1, c2, c3, c4⟩ := Cps_at HA.out hlt
      obtain ⟨b', o', hB, lb', d0, d1, d2, d3, d4⟩ := Cps_at HB.out hlt
      subst hA hB
      go_wp2_with fail
      refine wp_region_seq (fun w' => Below wr.heap.size wr w') [(0, true), (1, true), (2, true), (3, true), (4, true), (5, true), (6, true), (7, true), (8, true), (9, true), (10, true)] (by kernel_rfl) (by kernel_rfl) (fun _ _ _ _ _ h => h) (by kernel_rfl) (by decide) (Below.refl _ _).drew ?_
      intro hHeld
      repeat (first
        | (refine seq_read (by simp only [List.getElem?_toArray, List.getElem?_cons_succ, List.getElem?_cons_zero]; first | done | rfl) (by rfl) (fun w _ => cpneq_read rfl rfl rfl w) ?_; (try simp only [Act.put, List.setIfInBounds_toArray, List.set_cons_zero, List.set_cons_succ]))
        | (refine seq_skip (by simp only [List.getElem?_toArray, List.getElem?_cons_succ, List.getElem?_cons_zero]; first | done | rfl) (by rfl) ?_; (try simp only [Act.put, List.setIfInBounds_toArray, List.set_cons_zero, List.set_cons_succ]))
        | (refine seq_reads (by simp only [List.getElem?_toArray, List.getElem?_cons_succ, List.getElem?_cons_zero]; first | done | rfl) (by rfl) ?_; apply Exists.intro; apply And.intro; (focus (intro w hSw; obtain ⟨hcS, -⟩ := bcell hSw; go_simp; (try with_reducible rfl); done)); (try simp only [Act.put, List.setIfInBounds_toArray, List.set_cons_zero, List.set_cons_succ]))
        | (refine seq_pass (by simp only [List.getElem?_toArray, List.getElem?_cons_succ, List.getElem?_cons_zero]; first | done | rfl) (by rfl) hHeld ?_; clear hHeld; intro hHeld; (try simp only [Act.put, List.setIfInBounds_toArray, List.set_cons_zero, List.set_cons_succ])))
      refine seq_end ?_
      go_wp2
      go_roundw
      case rel => exact ⟨j + 1, by go_num, by omega, HM.out.below hHeld, HA.out.below hHeld, HB.out.below hHeld⟩
      case measure => simp [intOf]; omega
    · have hj' : j = wk.copies.length := by omega
      subst hj'
      go_wp2
      go_ret
      exact ⟨rfl, HM.out.1⟩
end Go.Proofs.YtkpbfocnokbmiaaGreat
namespace Go.Proofs.YtkpbfocnokbmiaaGreat
open Go.RowKit
set_option maxRecDepth 20000
theorem la_neq (c : M.La) (w : World) : (binOp .neq 71 (laV c) (laV c)).run Tryz.prog w = .ok (.bool false) w := by
  simp [go_sem, Tryz.underlying71, Tryz.underlying39, Tryz.underlying2, Tryz.underlying9]
theorem laneq_read {A : Act} {o : Oper} {x y : Operand} {c : M.La} (ho : o.op = .binOp .neq 71 x y 71) (hx : A.eval x = laV c) (hy : A.eval y = laV c) (w : World) :
    (execOp A.eval o).run Tryz.prog w = .ok (.value (.bool false)) w := by
  unfold execOp
  rw [ho]
  have hg := fun (op : BinOp) (x y : Operand) (xs ys : Array Value) (w : World) => run_eqGuard_agg (P := Tryz.prog) w op 71 x y xs ys (by kernel_rfl)
  have he := fun w => la_neq c w
  simp only [laV] at he hx hy
  simp only [hx, hy, Sem.run_bind, hg, he, Result.andThen_ok, Sem.run_pure]
theorem rp_neq (c : M.Rp) (w : World) : (binOp .neq 39 (rpV c.1 c.2) (rpV c.1 c.2)).run Tryz.prog w = .ok (.bool false) w := by
  simp [go_sem, Tryz.underlying39, Tryz.underlying2, Tryz.underlying9]
theorem rpneq_read {A : Act} {o : Oper} {x y : Operand} {c : M.Rp} (ho : o.op = .binOp .neq 39 x y 39) (hx : A.eval x = rpV c.1 c.2) (hy : A.eval y = rpV c.1 c.2) (w : World) :
    (execOp A.eval o).run Tryz.prog w = .ok (.value (.bool false)) w := by
  unfold execOp
  rw [ho]
  have hg := fun (op : BinOp) (x y : Operand) (xs ys : Array Value) (w : World) => run_eqGuard_agg (P := Tryz.prog) w op 39 x y xs ys (by kernel_rfl)
  have he := fun w => rp_neq c w
  simp only [rpV] at he hx hy
  simp only [hx, hy, Sem.run_bind, hg, he, Result.andThen_ok, Sem.run_pure]
set_option maxHeartbeats 4000000 in
theorem likeShelf_same (A : Option Addr) (l : List Wr) (ca : Nat) (B : Option Addr) (m : List Wr) (n cb : Nat) (w : World) (ha : Wks w A l) (hb : Wks w B m) (hm : m.map Wr.wk = l.map Wr.wk) (hn : m.length = n) (hlen : l.length ≤ 1048576) (hp : ∀ r ∈ l, r.cps.length ≤ 1048576) :
    Calls Tryz.prog 30 #[.slice A l.length ca, .slice B n cb] w fun r w' => r = .returned (.bool true) ∧ Below w.heap.size w w' := by
  have HML : Hid (m.length = l.length) := Lib.hid (by simpa using congrArg List.length hm)
  have HWK : Hid (∀ j (hj : j < l.length) (hj' : j < m.length), (m[j]).name = (l[j]).name ∧ (m[j]).owner = (l[j]).owner ∧ (m[j]).cps = (l[j]).cps) := Lib.hid (fun j hj hj' => by
    have h := congrArg (fun x => x[j]?) hm
    simp only [List.getElem?_map, List.getElem?_eq_getElem hj, List.getElem?_eq_getElem hj', Option.map_some, Option.some.injEq] at h
    exact ⟨congrArg M.Wk.name h, congrArg M.Wk.owner h, congrArg M.Wk.copies h⟩)
  obtain rfl : n = l.length := hn.symm.trans HML.out
  have h3 : ((l.length : Int) != (l.length : Int)) = false := by simp
  have HA := Lib.hid ha
  have HB := Lib.hid hb
  have HP := Lib.hid hp
  clear ha hb hm hn hp
  go_enter Tryz.func30, Tryz.ntmps30
  go_wp2
  go_loopw [5] (fun i wr => ∃ j : Nat, i = .int .i64 j ∧ j ≤ l.length ∧ Below w.heap.size w wr) (fun i _ => l.length - (intOf i).toNat)
  case atStart => exact ⟨0, rfl, Nat.zero_le _, Below.refl _ _⟩
  case round =>
    obtain ⟨j, rfl, hj, hbl⟩ := hrel
    by_cases hlt : j < l.length
    · have hlt' : j < m.length := by rw [HML.out]; exact hlt
      obtain ⟨b, o, hA, lb, c0, c1, c2, hca⟩ := Wks_at (HA.out.below hbl) hlt
      obtain ⟨b', o', hB, lb', d0, d1, d2, hcb⟩ := Wks_at (HB.out.below hbl) hlt'
      obtain ⟨e0, e1, e2⟩ := HWK.out j hlt hlt'
      rw [e0] at d0
      rw [e1] at d1
      rw [e2] at d2 hcb
      have HCA := Lib.hid hca
      have HCB := Lib.hid hcb
      have HBL := Lib.hid hbl
      clear e0 e1 e2 hca hcb hbl
      subst hA hB
      go_wp2_with fail
      refine wp_region_seq (fun w' => Below wr.heap.size wr w') [(0, true), (1, true), (2, true), (3, true), (4, true), (5, true), (6, true), (7, true), (8, false), (9, true)] (by kernel_rfl) (by kernel_rfl) (fun _ _ _ _ _ h => h) (by kernel_rfl) (by decide) (Below.refl _ _).drew ?_
      intro hHeld
      repeat (first
        | (refine seq_skip (by simp only [List.getElem?_toArray, List.getElem?_cons_succ, List.getElem?_cons_zero]; first | done | rfl) (by rfl) ?_; (try simp only [Act.put, List.setIfInBounds_toArray, List.set_cons_zero, List.set_cons_succ]))
        | (refine seq_reads (by simp only [List.getElem?_toArray, List.getElem?_cons_succ, List.getElem?_cons_zero]; first | done | rfl) (by rfl) ?_; apply Exists.intro; apply And.intro; (focus (intro w hSw; obtain ⟨hcS, -⟩ := bcell hSw; go_simp; (try with_reducible rfl); done)); (try simp only [Act.put, List.setIfInBounds_toArray, List.set_cons_zero, List.set_cons_succ]))
        | (refine seq_pass (by simp only [List.getElem?_toArray, List.getElem?_cons_succ, List.getElem?_cons_zero]; first | done | rfl) (by rfl) hHeld ?_; clear hHeld; intro hHeld; (try simp only [Act.put, List.setIfInBounds_toArray, List.set_cons_zero, List.set_cons_succ]))
        | (refine seq_call (by simp only [List.getElem?_toArray, List.getElem?_cons_succ, List.getElem?_cons_zero]; first | done | rfl) (by rfl) (fun K hK => ?_); go_simp; go_at_call 57; refine (likeWork_same ⟨(l[j]).name, (l[j]).owner, (l[j]).cps⟩ _ _ _ _ _ (HCA.out.below hHeld) (HCB.out.below hHeld) (HP.out l[j] (List.getElem_mem hlt))).mono ?_; rintro r w1 ⟨rfl, b1⟩; go_simp; refine hK.out _ _ (next hHeld b1) ?_; clear hK hHeld; intro hHeld; (try simp only [Act.put, List.setIfInBounds_toArray, List.set_cons_zero, List.set_cons_succ])))
      refine seq_end ?_
      go_wp2
      go_roundw
      case rel => exact ⟨j + 1, by go_num, by omega, next HBL.out hHeld⟩
      case measure => simp [intOf]; omega
    · have hj' : j = l.length := by omega
      subst hj'
      go_wp2
      go_ret
      exact ⟨rfl, hbl⟩
set_option maxHeartbeats 4000000 in
theorem likeBook_same (A : Option Addr) (l : List Wr) (ca : Nat) (A2 : Option Addr) (m : List M.La) (c2 : Nat) (B : Option Addr) (k : List Wr) (n cb : Nat) (B2 : Option Addr) (d2 : Nat) (w : World) (ha : Wks w A l) (hb : Wks w B k) (hm : k.map Wr.wk = l.map Wr.wk) (hn : k.length = n) (hlen : l.length ≤ 1048576) (hp : ∀ r ∈ l, r.cps.length ≤ 1048576) (hla : Las w A2 m) (hlb : Las w B2 m) (hml : m.length ≤ 1048576) :
    Calls Tryz.prog 11 #[bkV A l.length ca A2 m.length c2, bkV B n cb B2 m.length d2] w fun r w' => r = .returned (.bool true) ∧ Below w.heap.size w w' := by
  have hM := ((Mem.start w).new (bkA A l.length ca A2 m.length c2) 27).new (bkA B n cb B2 m.length d2) 27
  simp only [World.size_alloc] at hM
  have h3 : ((m.length : Int) != (m.length : Int)) = false := by simp
  have HLA := Lib.hid hla
  have HLB := Lib.hid hlb
  have HA := Lib.hid (ha.below hM.1)
  have HB := Lib.hid (hb.below hM.1)
  have HM := Lib.hid hm
  have HN := Lib.hid hn
  have HP := Lib.hid hp
  clear ha hb hla hlb hm hn hp
  go_enter Tryz.func11, Tryz.ntmps11
  go_wp2_with fail
  refine (likeShelf_same A l ca B k n cb _ HA.out HB.out HM.out HN.out hlen HP.out).mono ?_
  rintro r w1 ⟨rfl, b1⟩
  replace hM := hM.below b1
  clear b1 HA HB
  obtain ⟨p0, p1⟩ := (hM.get w.heap.size (bkA A l.length ca A2 m.length c2) (by simp)).two
  obtain ⟨q0, q1⟩ := (hM.get (w.heap.size + 1) (bkA B n cb B2 m.length d2) (by simp)).two
  have HMM := Lib.hid hM
  clear hM
  go_wp2
  go_loopw [5] (fun i wr => ∃ j : Nat, i = .int .i64 j ∧ j ≤ m.length ∧ Mem w [(w.heap.size + 1, (bkA B n cb B2 m.length d2)), (w.heap.size, (bkA A l.length ca A2 m.length c2))] [w.heap.size + 1, w.heap.size] wr) (fun i _ => m.length - (intOf i).toNat)
  case atStart => exact ⟨0, rfl, Nat.zero_le _, HMM.out⟩
  case round =>
    clear HMM p0 p1 q0 q1
    obtain ⟨j, rfl, hj, hM⟩ := hrel
    obtain ⟨p0, p1⟩ := (hM.get w.heap.size (bkA A l.length ca A2 m.length c2) (by simp)).two
    obtain ⟨q0, q1⟩ := (hM.get (w.heap.size + 1) (bkA B n cb B2 m.length d2) (by simp)).two
    have zp := (hM.get w.heap.size (bkA A l.length ca A2 m.length c2) (by simp)).1
    have zq := (hM.get (w.heap.size + 1) (bkA B n cb B2 m.length d2) (by simp)).1
    have HMM := Lib.hid hM
    clear hM
    by_cases hlt : j < m.length
    · obtain ⟨b, o, hA, lb, c0, c1, c2', c3⟩ := Las_at (HLA.out.below HMM.out.1) hlt
      obtain ⟨b', o', hB, lb', d0, d1, d2', d3⟩ := Las_at (HLB.out.below HMM.out.1) hlt
      subst hA hB
      go_wp2_with fail
      refine wp_region_seq (fun w' => Below wr.heap.size wr w') [(0, true), (1, true), (2, true), (3, true), (4, true), (5, true), (6, true), (7, true), (8, true), (9, true), (10, true)] (by kernel_rfl) (by kernel_rfl) (fun _ _ _ _ _ h => h) (by kernel_rfl) (by decide) (Below.refl _ _).drew ?_
      intro hHeld
      repeat (first
        | (refine seq_read (by simp only [List.getElem?_toArray, List.getElem?_cons_succ, List.getElem?_cons_zero]; first | done | rfl) (by rfl) (fun w _ => laneq_read rfl rfl rfl w) ?_; (try simp only [Act.put, List.setIfInBounds_toArray, List.set_cons_zero, List.set_cons_succ]))
        | (refine seq_skip (by simp only [List.getElem?_toArray, List.getElem?_cons_succ, List.getElem?_cons_zero]; first | done | rfl) (by rfl) ?_; (try simp only [Act.put, List.setIfInBounds_toArray, List.set_cons_zero, List.set_cons_succ]))
        | (refine seq_reads (by simp only [List.getElem?_toArray, List.getElem?_cons_succ, List.getElem?_cons_zero]; first | done | rfl) (by rfl) ?_; apply Exists.intro; apply And.intro; (focus (intro w hSw; obtain ⟨hcS, -⟩ := bcell hSw; go_simp; (try with_reducible rfl); done)); (try simp only [Act.put, List.setIfInBounds_toArray, List.set_cons_zero, List.set_cons_succ]))
        | (refine seq_pass (by simp only [List.getElem?_toArray, List.getElem?_cons_succ, List.getElem?_cons_zero]; first | done | rfl) (by rfl) hHeld ?_; clear hHeld; intro hHeld; (try simp only [Act.put, List.setIfInBounds_toArray, List.set_cons_zero, List.set_cons_succ])))
      refine seq_end ?_
      go_wp2
      go_roundw
      case rel => exact ⟨j + 1, by go_num, by omega, HMM.out.below hHeld⟩
      case measure => simp [intOf]; omega
    · have hj' : j = m.length := by omega
      subst hj'
      go_wp2
      go_ret
      exact ⟨rfl, HMM.out.1⟩
end Go.Proofs.YtkpbfocnokbmiaaGreat
namespace Go.Proofs.YtkpbfocnokbmiaaGreat
open Go.RowKit
set_option maxRecDepth 20000
namespace M
def enEq (a b : En) : Bool := ((a.reign == b.reign) && ((a.order.client == b.order.client) && ((a.order.seq == b.order.seq) && ((a.order.deed.kind == b.order.deed.kind) && (decide (a.order.deed.name = b.order.deed.name) && ((a.order.deed.ed.ma == b.order.deed.ed.ma) && ((a.order.deed.ed.mi == b.order.deed.ed.mi) && ((a.order.deed.ed.pa == b.order.deed.ed.pa) && (decide (a.order.deed.page = b.order.deed.page) && (a.order.deed.who == b.order.deed.who))))))))))
end M
set_option maxHeartbeats 8000000 in
theorem en_eql (a b : M.En) (w : World) : (binOp .eql 35 (enV a) (enV b)).run Tryz.prog w = .ok (.bool (M.enEq a b)) w := by
  rcases h0 : (a.reign == b.reign) with _ | _
  · have e : M.enEq a b = false := by simp [M.enEq, h0]
    rw [e]
    simp [go_sem, h0]
  · rcases h1 : (a.order.client == b.order.client) with _ | _
    · have e : M.enEq a b = false := by simp [M.enEq, h1]
      rw [e]
      simp [go_sem, h0, h1]
    · rcases h2 : (a.order.seq == b.order.seq) with _ | _
      · have e : M.enEq a b = false := by simp [M.enEq, h2]
        rw [e]
        simp [go_sem, h0, h1, h2]
      · rcases h3 : (a.order.deed.kind == b.order.deed.kind) with _ | _
        · have e : M.enEq a b = false := by simp [M.enEq, h3]
          rw [e]
          simp [go_sem, h0, h1, h2, h3]
        · by_cases h4 : a.order.deed.name = b.order.deed.name
          · rcases h5 : (a.order.deed.ed.ma == b.order.deed.ed.ma) with _ | _
            · have e : M.enEq a b = false := by simp [M.enEq, h5]
              rw [e]
              simp [go_sem, h0, h1, h2, h3, h4, h5]
            · rcases h6 : (a.order.deed.ed.mi == b.order.deed.ed.mi) with _ | _
              · have e : M.enEq a b = false := by simp [M.enEq, h6]
                rw [e]
                simp [go_sem, h0, h1, h2, h3, h4, h5, h6]
              · rcases h7 : (a.order.deed.ed.pa == b.order.deed.ed.pa) with _ | _
                · have e : M.enEq a b = false := by simp [M.enEq, h7]
                  rw [e]
                  simp [go_sem, h0, h1, h2, h3, h4, h5, h6, h7]
                · by_cases h8 : a.order.deed.page = b.order.deed.page
                  · have e : M.enEq a b = (a.order.deed.who == b.order.deed.who) := by simp [M.enEq, h0, h1, h2, h3, h4, h5, h6, h7, h8]
                    rcases h9 : (a.order.deed.who == b.order.deed.who) with _ | _ <;> rw [e, h9] <;> simp [go_sem, h0, h1, h2, h3, h4, h5, h6, h7, h8, h9, Tryz.underlying35, Tryz.underlying33, Tryz.underlying31, Tryz.underlying29, Tryz.underlying2, Tryz.underlying9]
                  · have e : M.enEq a b = false := by simp [M.enEq, h8]
                    have h8' := txt_other h8
                    rw [e]
                    simp [go_sem, h0, h1, h2, h3, h4, h5, h6, h7, h8']
          · have e : M.enEq a b = false := by simp [M.enEq, h4]
            have h4' := txt_other h4
            rw [e]
            simp [go_sem, h0, h1, h2, h3, h4']
theorem eneql_read {A : Act} {o : Oper} {x y : Operand} {a b : M.En} (ho : o.op = .binOp .eql 35 x y 35) (hx : A.eval x = enV a) (hy : A.eval y = enV b) (w : World) :
    (execOp A.eval o).run Tryz.prog w = .ok (.value (.bool (M.enEq a b))) w := by
  unfold execOp
  rw [ho]
  have hg := fun (op : BinOp) (x y : Operand) (xs ys : Array Value) (w : World) => run_eqGuard_agg (P := Tryz.prog) w op 35 x y xs ys (by kernel_rfl)
  have he := fun w => en_eql a b w
  simp only [enV] at he hx hy
  simp only [hx, hy, Sem.run_bind, hg, he, Result.andThen_ok, Sem.run_pure]
end Go.Proofs.YtkpbfocnokbmiaaGreat
namespace Go.Proofs.YtkpbfocnokbmiaaGreat
open Go.RowKit
set_option maxRecDepth 20000
set_option maxHeartbeats 4000000 in
theorem specSameEntry (a b : M.En) (w : World) : Calls Tryz.prog 16 #[enV a, enV b] w fun r w' => r = .returned (.bool (M.enEq a b)) ∧ Below w.heap.size w w' := by
  have b0 := ((Below.refl w.heap.size w).alloc (Nat.le_refl _) (.cells (enC a) 35)).alloc (by simp) (.cells (enC b) 35)
  go_enter Tryz.func16, Tryz.ntmps16
  go_wp2_with (refine wpList_run (by rfl) (eneql_read (a := a) (b := b) rfl rfl rfl _) ?_)
  go_ret
  exact ⟨rfl, b0⟩
set_option maxHeartbeats 4000000 in
theorem implSameEntry (a b : M.En) (w : World) : Calls Tryz.prog 15 #[enV a, enV b] w fun r w' => r = .returned (.bool (M.enEq a b)) ∧ Below w.heap.size w w' := by
  have b0 := ((Below.refl w.heap.size w).alloc (Nat.le_refl _) (.cells (enC a) 35)).alloc (by simp) (.cells (enC b) 35)
  go_enter Tryz.func15, Tryz.ntmps15
  go_wp2_with (refine wpList_run (by rfl) (eneql_read (a := a) (b := b) rfl rfl rfl _) ?_)
  go_ret
  exact ⟨rfl, b0⟩
end Go.Proofs.YtkpbfocnokbmiaaGreat
