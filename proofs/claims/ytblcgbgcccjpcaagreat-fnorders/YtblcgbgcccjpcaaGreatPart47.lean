/- Proved, in parts: Proved: the language's own test tells a copy like itself; no condition. Proved: the laws' own test tells a work like itself; what a law knows of its boxes and lists stays behind calls; nothing that was there is written. Proved: the laws' own tests tell shelves, books and lists of replies like themselves; nothing that was there is written. Condition: lists of at most a million. Proved: an operation whose run is told walks on with its value; no program is named here; no condition. Proved: an argument that is a list of bytes can be read byte by byte, and the laws' own test of its length; no condition. -/
import Derived.Test.YtblcgbgcccjpcaaGreatPart03
import Derived.Calls
import Derived.KernelRfl
import Derived.Test.YtblcgbgcccjpcaaGreatPart38
import Derived.Test.YtblcgbgcccjpcaaGreatPart19
import Derived.Test.YtblcgbgcccjpcaaGreatPart44
import Derived.Test.YtblcgbgcccjpcaaGreatPart36
import Derived.Test.YtblcgbgcccjpcaaGreatPart01
import Derived.ProofKit
import Derived.OpenShut
import Derived.Carry
namespace Go.Proofs.YtblcgbgcccjpcaaGreat
open Go.RowKit
set_option maxRecDepth 20000

theorem cp_neq (c : M.Cp) (w : World) : (binOp .neq 48 (cpV c) (cpV c)).run Tryz.prog w = .ok (.bool false) w := by
  simp [go_sem, Tryz.underlying48, Tryz.underlying37, Tryz.underlying2, Tryz.underlying9, Tryz.underlying4]
theorem cpneq_read {A : Act} {o : Oper} {x y : Operand} {c : M.Cp} (ho : o.op = .binOp .neq 48 x y 48) (hx : A.eval x = cpV c) (hy : A.eval y = cpV c) (w : World) :
    (execOp A.eval o).run Tryz.prog w = .ok (.value (.bool false)) w := by
  unfold execOp
  rw [ho]
  have hg := fun (op : BinOp) (x y : Operand) (xs ys : Array Value) (w : World) => run_eqGuard_agg (P := Tryz.prog) w op 48 x y xs ys (by kernel_rfl)
  have he := fun w => cp_neq c w
  simp only [cpV] at he hx hy
  simp only [hx, hy, Sem.run_bind, hg, he, Result.andThen_ok, Sem.run_pure]
end Go.Proofs.YtblcgbgcccjpcaaGreat
namespace Go.Proofs.YtblcgbgcccjpcaaGreat
open Go.RowKit
set_option maxRecDepth 20000

/-- Lists of copies that can be read: where, how much room, which. -/
def Rws (x : World) (rs : List (Option Addr × Nat × List M.Cp)) : Prop := ∀ r ∈ rs, Cps x r.1 r.2.2 ∧ (r.1 = none → r.2.1 = 0) ∧ r.2.2.length ≤ r.2.1
/-- A law's memory: nothing that was there in w has changed; the boxes bx hold their cells; the lists rs can be read. -/
def Lw (w : World) (bx : List (Nat × Array Value)) (rs : List (Option Addr × Nat × List M.Cp)) (x : World) : Prop := Mem w bx [] x ∧ Rws x rs
section
variable {w x y : World} {bx : List (Nat × Array Value)} {rs : List (Option Addr × Nat × List M.Cp)}
theorem Lw.start (w : World) : Lw w [] [] w := ⟨Mem.start w, fun _ h => by cases h⟩
theorem Lw.below (h : Lw w bx rs x) (hb : Below x.heap.size x y) : Lw w bx rs y := ⟨h.1.below hb, fun r hr => ⟨(h.2 r hr).1.below hb, (h.2 r hr).2⟩⟩
theorem Lw.alloc (h : Lw w bx rs x) (o : Obj) : Lw w bx rs (x.alloc o) := h.below ((Below.refl _ _).alloc (Nat.le_refl _) o)
theorem Lw.new (h : Lw w bx rs x) (C : Array Value) (t : TypeId) : Lw w ((x.heap.size, C) :: bx) rs (x.alloc (.cells C t)) := ⟨(h.alloc (.cells C t)).1.add (holds_new x C t), (h.alloc (.cells C t)).2⟩
theorem Lw.row (h : Lw w bx rs x) {B n c : Nat} {A : Option Addr} {l : List M.Cp} (ho : CpOwn B x (.slice A n c) l) : Lw w bx ((A, c, l) :: rs) x :=
  ⟨h.1, fun r hr => by
    rcases List.mem_cons.1 hr with rfl | hr
    · exact ⟨ho.cps.1, ho.nilc, own_cap ho⟩
    · exact h.2 r hr⟩
theorem Lw.cells (h : Lw w bx rs x) (R : Nat) (C : Array Value) (hp : (R, C) ∈ bx) : Holds x R C := h.1.get R C hp
theorem Lw.list (h : Lw w bx rs x) (A : Option Addr) (c : Nat) (l : List M.Cp) (hp : (A, c, l) ∈ rs) : Cps x A l ∧ (A = none → c = 0) ∧ l.length ≤ c := h.2 (A, c, l) hp
theorem Lw.sub {bx' : List (Nat × Array Value)} {rs' : List (Option Addr × Nat × List M.Cp)} (h : Lw w bx rs x) (hb : ∀ p ∈ bx', p ∈ bx) (hr : ∀ r ∈ rs', r ∈ rs) : Lw w bx' rs' x := ⟨h.1.sub hb, fun r hr' => h.2 r (hr r hr')⟩
end

set_option maxHeartbeats 2000000 in
theorem likeWork_same (wk : M.Wk) (A B : Option Addr) (ca cb : Nat) (w : World) (ha : Cps w A wk.copies) (hb : Cps w B wk.copies) (hlen : wk.copies.length ≤ 1048576) :
    Calls Tryz.prog 87 #[wkV wk.name wk.owner A wk.copies.length ca, wkV wk.name wk.owner B wk.copies.length cb] w fun r w' => r = .returned (.bool true) ∧ Below w.heap.size w w' := by
  have h1 : (wk.name.toList != wk.name.toList) = false := by simp
  have h2 : (wk.owner != wk.owner) = false := by simp
  have h3 : ((wk.copies.length : Int) != (wk.copies.length : Int)) = false := by simp
  have hm := ((Mem.start w).new (wkL wk.name wk.owner A wk.copies.length ca) 44).new (wkL wk.name wk.owner B wk.copies.length cb) 44
  have HA := Lib.hid ((ha.alloc (.cells (wkL wk.name wk.owner A wk.copies.length ca) 44)).alloc (.cells (wkL wk.name wk.owner B wk.copies.length cb) 44))
  have HB := Lib.hid ((hb.alloc (.cells (wkL wk.name wk.owner A wk.copies.length ca) 44)).alloc (.cells (wkL wk.name wk.owner B wk.copies.length cb) 44))
  simp only [World.size_alloc] at hm
  have HM := Lib.hid hm
  clear ha hb hm
  go_enter Tryz.func87, Tryz.ntmps87
  go_wp2
  go_loopw [5] (fun i wr => ∃ j : Nat, i = .int .i64 j ∧ j ≤ wk.copies.length ∧ Mem w [(w.heap.size + 1, wkL wk.name wk.owner B wk.copies.length cb), (w.heap.size, wkL wk.name wk.owner A wk.copies.length ca)] [w.heap.size + 1, w.heap.size] wr ∧ Cps wr A wk.copies ∧ Cps wr B wk.copies) (fun i _ => wk.copies.length - (intOf i).toNat)
  case atStart => exact ⟨0, rfl, Nat.zero_le _, HM.out, HA.out, HB.out⟩
  case round =>
    clear HM HA HB
    obtain ⟨j, rfl, hj, hm, ha, hb⟩ := hrel
    have hH := hm.get w.heap.size (wkL wk.name wk.owner A wk.copies.length ca) (by simp)
    have hK := hm.get (w.heap.size + 1) (wkL wk.name wk.owner B wk.copies.length cb) (by simp)
    have l0 := hH.1
    have l1 := hK.1
    obtain ⟨p0, p1, p2⟩ := hH.three
    obtain ⟨q0, q1, q2⟩ := hK.three
    have HM := Lib.hid hm
    have HA := Lib.hid ha
    have HB := Lib.hid hb
    clear hm ha hb hH hK
    by_cases hlt : j < wk.copies.length
    · obtain ⟨b, o, hA, lb, c0, c1, c2, c3, c4⟩ := Cps_at HA.out hlt
      obtain ⟨b', o', hB, lb', d0, d1, d2, d3, d4⟩ := Cps_at HB.out hlt
      subst hA hB
      go_wp2_with fail
      refine wp_region_seq (fun w' => Below wr.heap.size wr w') [(0, true), (1, true), (2, true), (3, true), (4, true), (5, true), (6, true), (7, true), (8, true), (9, true), (10, true)] (by kernel_rfl) (by kernel_rfl) (fun _ _ _ _ _ h => h) (by kernel_rfl) (by decide) (Below.refl _ _).drew ?_
      intro hHeld
      repeat (first
        | (refine seq_read (by simp only [List.getElem?_toArray, List.getElem?_cons_succ, List.getElem?_cons_zero]; first | done | rfl) (by rfl) (fun w _ => cpneq_read rfl rfl rfl w) ?_; (try simp only [Act.put, List.setIfInBounds_toArray, List.set_cons_zero, List.set_cons_succ]))
        | (refine seq_skip (by simp only [List.getElem?_toArray, List.getElem?_cons_succ, List.getElem?_cons_zero]; first | done | rfl) (by rfl) ?_; (try simp only [Act.put, List.setIfInBounds_toArray, List.set_cons_zero, List.set_cons_succ]))
        | (refine seq_reads (by simp only [List.getElem?_toArray, List.getElem?_cons_succ, List.getElem?_cons_zero]; first | done | rfl) (by rfl) ?_; apply Exists.intro; apply And.intro; (focus (intro w hSw; obtain ⟨hcS, -⟩ := bcell hSw; go_simp; (try with_reducible rfl); done)); (try simp only [Act.put, List.setIfInBounds_toArray, List.set_cons_zero, List.set_cons_succ]))
        | (refine seq_pass (by simp only [List.getElem?_toArray, List.getElem?_cons_succ, List.getElem?_cons_zero]; first | done | rfl) (by rfl) hHeld ?_; clear hHeld; intro hHeld; (try simp only [Act.put, List.setIfInBounds_toArray, List.set_cons_zero, List.set_cons_succ])))
      refine seq_end ?_
      go_wp2
      go_roundw
      case rel => exact ⟨j + 1, by go_num, by omega, HM.out.below hHeld, HA.out.below hHeld, HB.out.below hHeld⟩
      case measure => simp [intOf]; omega
    · have hj' : j = wk.copies.length := by omega
      subst hj'
      go_wp2
      go_ret
      exact ⟨rfl, HM.out.1⟩
end Go.Proofs.YtblcgbgcccjpcaaGreat
namespace Go.Proofs.YtblcgbgcccjpcaaGreat
open Go.RowKit
set_option maxRecDepth 20000
theorem la_neq (c : M.La) (w : World) : (binOp .neq 59 (laV c) (laV c)).run Tryz.prog w = .ok (.bool false) w := by
  simp [go_sem, Tryz.underlying59, Tryz.underlying33, Tryz.underlying2, Tryz.underlying9]
theorem laneq_read {A : Act} {o : Oper} {x y : Operand} {c : M.La} (ho : o.op = .binOp .neq 59 x y 59) (hx : A.eval x = laV c) (hy : A.eval y = laV c) (w : World) :
    (execOp A.eval o).run Tryz.prog w = .ok (.value (.bool false)) w := by
  unfold execOp
  rw [ho]
  have hg := fun (op : BinOp) (x y : Operand) (xs ys : Array Value) (w : World) => run_eqGuard_agg (P := Tryz.prog) w op 59 x y xs ys (by kernel_rfl)
  have he := fun w => la_neq c w
  simp only [laV] at he hx hy
  simp only [hx, hy, Sem.run_bind, hg, he, Result.andThen_ok, Sem.run_pure]
theorem rp_neq (c : M.Rp) (w : World) : (binOp .neq 33 (rpV c.1 c.2) (rpV c.1 c.2)).run Tryz.prog w = .ok (.bool false) w := by
  simp [go_sem, Tryz.underlying33, Tryz.underlying2, Tryz.underlying9]
theorem rpneq_read {A : Act} {o : Oper} {x y : Operand} {c : M.Rp} (ho : o.op = .binOp .neq 33 x y 33) (hx : A.eval x = rpV c.1 c.2) (hy : A.eval y = rpV c.1 c.2) (w : World) :
    (execOp A.eval o).run Tryz.prog w = .ok (.value (.bool false)) w := by
  unfold execOp
  rw [ho]
  have hg := fun (op : BinOp) (x y : Operand) (xs ys : Array Value) (w : World) => run_eqGuard_agg (P := Tryz.prog) w op 33 x y xs ys (by kernel_rfl)
  have he := fun w => rp_neq c w
  simp only [rpV] at he hx hy
  simp only [hx, hy, Sem.run_bind, hg, he, Result.andThen_ok, Sem.run_pure]
set_option maxHeartbeats 4000000 in
theorem likeShelf_same (A : Option Addr) (l : List Wr) (ca : Nat) (B : Option Addr) (m : List Wr) (n cb : Nat) (w : World) (ha : Wks w A l) (hb : Wks w B m) (hm : m.map Wr.wk = l.map Wr.wk) (hn : m.length = n) (hlen : l.length ≤ 1048576) (hp : ∀ r ∈ l, r.cps.length ≤ 1048576) :
    Calls Tryz.prog 29 #[.slice A l.length ca, .slice B n cb] w fun r w' => r = .returned (.bool true) ∧ Below w.heap.size w w' := by
  have HML : Hid (m.length = l.length) := Lib.hid (by simpa using congrArg List.length hm)
  have HWK : Hid (∀ j (hj : j < l.length) (hj' : j < m.length), (m[j]).name = (l[j]).name ∧ (m[j]).owner = (l[j]).owner ∧ (m[j]).cps = (l[j]).cps) := Lib.hid (fun j hj hj' => by
    have h := congrArg (fun x => x[j]?) hm
    simp only [List.getElem?_map, List.getElem?_eq_getElem hj, List.getElem?_eq_getElem hj', Option.map_some, Option.some.injEq] at h
    exact ⟨congrArg M.Wk.name h, congrArg M.Wk.owner h, congrArg M.Wk.copies h⟩)
  obtain rfl : n = l.length := hn.symm.trans HML.out
  have h3 : ((l.length : Int) != (l.length : Int)) = false := by simp
  have HA := Lib.hid ha
  have HB := Lib.hid hb
  have HP := Lib.hid hp
  clear ha hb hm hn hp
  go_enter Tryz.func29, Tryz.ntmps29
  go_wp2
  go_loopw [5] (fun i wr => ∃ j : Nat, i = .int .i64 j ∧ j ≤ l.length ∧ Below w.heap.size w wr) (fun i _ => l.length - (intOf i).toNat)
  case atStart => exact ⟨0, rfl, Nat.zero_le _, Below.refl _ _⟩
  case round =>
    obtain ⟨j, rfl, hj, hbl⟩ := hrel
    by_cases hlt : j < l.length
    · have hlt' : j < m.length := by rw [HML.out]; exact hlt
      obtain ⟨b, o, hA, lb, c0, c1, c2, hca⟩ := Wks_at (HA.out.below hbl) hlt
      obtain ⟨b', o', hB, lb', d0, d1, d2, hcb⟩ := Wks_at (HB.out.below hbl) hlt'
      obtain ⟨e0, e1, e2⟩ := HWK.out j hlt hlt'
      rw [e0] at d0
      rw [e1] at d1
      rw [e2] at d2 hcb
      have HCA := Lib.hid hca
      have HCB := Lib.hid hcb
      have HBL := Lib.hid hbl
      clear e0 e1 e2 hca hcb hbl
      subst hA hB
      go_wp2_with fail
      refine wp_region_seq (fun w' => Below wr.heap.size wr w') [(0, true), (1, true), (2, true), (3, true), (4, true), (5, true), (6, true), (7, true), (8, false), (9, true)] (by kernel_rfl) (by kernel_rfl) (fun _ _ _ _ _ h => h) (by kernel_rfl) (by decide) (Below.refl _ _).drew ?_
      intro hHeld
      repeat (first
        | (refine seq_skip (by simp only [List.getElem?_toArray, List.getElem?_cons_succ, List.getElem?_cons_zero]; first | done | rfl) (by rfl) ?_; (try simp only [Act.put, List.setIfInBounds_toArray, List.set_cons_zero, List.set_cons_succ]))
        | (refine seq_reads (by simp only [List.getElem?_toArray, List.getElem?_cons_succ, List.getElem?_cons_zero]; first | done | rfl) (by rfl) ?_; apply Exists.intro; apply And.intro; (focus (intro w hSw; obtain ⟨hcS, -⟩ := bcell hSw; go_simp; (try with_reducible rfl); done)); (try simp only [Act.put, List.setIfInBounds_toArray, List.set_cons_zero, List.set_cons_succ]))
        | (refine seq_pass (by simp only [List.getElem?_toArray, List.getElem?_cons_succ, List.getElem?_cons_zero]; first | done | rfl) (by rfl) hHeld ?_; clear hHeld; intro hHeld; (try simp only [Act.put, List.setIfInBounds_toArray, List.set_cons_zero, List.set_cons_succ]))
        | (refine seq_call (by simp only [List.getElem?_toArray, List.getElem?_cons_succ, List.getElem?_cons_zero]; first | done | rfl) (by rfl) (fun K hK => ?_); go_simp; go_at_call 87; refine (likeWork_same ⟨(l[j]).name, (l[j]).owner, (l[j]).cps⟩ _ _ _ _ _ (HCA.out.below hHeld) (HCB.out.below hHeld) (HP.out l[j] (List.getElem_mem hlt))).mono ?_; rintro r w1 ⟨rfl, b1⟩; go_simp; refine hK.out _ _ (next hHeld b1) ?_; clear hK hHeld; intro hHeld; (try simp only [Act.put, List.setIfInBounds_toArray, List.set_cons_zero, List.set_cons_succ])))
      refine seq_end ?_
      go_wp2
      go_roundw
      case rel => exact ⟨j + 1, by go_num, by omega, next HBL.out hHeld⟩
      case measure => simp [intOf]; omega
    · have hj' : j = l.length := by omega
      subst hj'
      go_wp2
      go_ret
      exact ⟨rfl, hbl⟩
set_option maxHeartbeats 4000000 in
theorem likeBook_same (A : Option Addr) (l : List Wr) (ca : Nat) (A2 : Option Addr) (m : List M.La) (c2 : Nat) (B : Option Addr) (k : List Wr) (n cb : Nat) (B2 : Option Addr) (d2 : Nat) (w : World) (ha : Wks w A l) (hb : Wks w B k) (hm : k.map Wr.wk = l.map Wr.wk) (hn : k.length = n) (hlen : l.length ≤ 1048576) (hp : ∀ r ∈ l, r.cps.length ≤ 1048576) (hla : Las w A2 m) (hlb : Las w B2 m) (hml : m.length ≤ 1048576) :
    Calls Tryz.prog 21 #[bkV A l.length ca A2 m.length c2, bkV B n cb B2 m.length d2] w fun r w' => r = .returned (.bool true) ∧ Below w.heap.size w w' := by
  have hM := ((Mem.start w).new (bkA A l.length ca A2 m.length c2) 27).new (bkA B n cb B2 m.length d2) 27
  simp only [World.size_alloc] at hM
  have h3 : ((m.length : Int) != (m.length : Int)) = false := by simp
  have HLA := Lib.hid hla
  have HLB := Lib.hid hlb
  have HA := Lib.hid (ha.below hM.1)
  have HB := Lib.hid (hb.below hM.1)
  have HM := Lib.hid hm
  have HN := Lib.hid hn
  have HP := Lib.hid hp
  clear ha hb hla hlb hm hn hp
  go_enter Tryz.func21, Tryz.ntmps21
  go_wp2_with fail
  refine (likeShelf_same A l ca B k n cb _ HA.out HB.out HM.out HN.out hlen HP.out).mono ?_
  rintro r w1 ⟨rfl, b1⟩
  replace hM := hM.below b1
  clear b1 HA HB
  obtain ⟨p0, p1⟩ := (hM.get w.heap.size (bkA A l.length ca A2 m.length c2) (by simp)).two
  obtain ⟨q0, q1⟩ := (hM.get (w.heap.size + 1) (bkA B n cb B2 m.length d2) (by simp)).two
  have HMM := Lib.hid hM
  clear hM
  go_wp2
  go_loopw [5] (fun i wr => ∃ j : Nat, i = .int .i64 j ∧ j ≤ m.length ∧ Mem w [(w.heap.size + 1, (bkA B n cb B2 m.length d2)), (w.heap.size, (bkA A l.length ca A2 m.length c2))] [w.heap.size + 1, w.heap.size] wr) (fun i _ => m.length - (intOf i).toNat)
  case atStart => exact ⟨0, rfl, Nat.zero_le _, HMM.out⟩
  case round =>
    clear HMM p0 p1 q0 q1
    obtain ⟨j, rfl, hj, hM⟩ := hrel
    obtain ⟨p0, p1⟩ := (hM.get w.heap.size (bkA A l.length ca A2 m.length c2) (by simp)).two
    obtain ⟨q0, q1⟩ := (hM.get (w.heap.size + 1) (bkA B n cb B2 m.length d2) (by simp)).two
    have zp := (hM.get w.heap.size (bkA A l.length ca A2 m.length c2) (by simp)).1
    have zq := (hM.get (w.heap.size + 1) (bkA B n cb B2 m.length d2) (by simp)).1
    have HMM := Lib.hid hM
    clear hM
    by_cases hlt : j < m.length
    · obtain ⟨b, o, hA, lb, c0, c1, c2', c3⟩ := Las_at (HLA.out.below HMM.out.1) hlt
      obtain ⟨b', o', hB, lb', d0, d1, d2', d3⟩ := Las_at (HLB.out.below HMM.out.1) hlt
      subst hA hB
      go_wp2_with fail
      refine wp_region_seq (fun w' => Below wr.heap.size wr w') [(0, true), (1, true), (2, true), (3, true), (4, true), (5, true), (6, true), (7, true), (8, true), (9, true), (10, true)] (by kernel_rfl) (by kernel_rfl) (fun _ _ _ _ _ h => h) (by kernel_rfl) (by decide) (Below.refl _ _).drew ?_
      intro hHeld
      repeat (first
        | (refine seq_read (by simp only [List.getElem?_toArray, List.getElem?_cons_succ, List.getElem?_cons_zero]; first | done | rfl) (by rfl) (fun w _ => laneq_read rfl rfl rfl w) ?_; (try simp only [Act.put, List.setIfInBounds_toArray, List.set_cons_zero, List.set_cons_succ]))
        | (refine seq_skip (by simp only [List.getElem?_toArray, List.getElem?_cons_succ, List.getElem?_cons_zero]; first | done | rfl) (by rfl) ?_; (try simp only [Act.put, List.setIfInBounds_toArray, List.set_cons_zero, List.set_cons_succ]))
        | (refine seq_reads (by simp only [List.getElem?_toArray, List.getElem?_cons_succ, List.getElem?_cons_zero]; first | done | rfl) (by rfl) ?_; apply Exists.intro; apply And.intro; (focus (intro w hSw; obtain ⟨hcS, -⟩ := bcell hSw; go_simp; (try with_reducible rfl); done)); (try simp only [Act.put, List.setIfInBounds_toArray, List.set_cons_zero, List.set_cons_succ]))
        | (refine seq_pass (by simp only [List.getElem?_toArray, List.getElem?_cons_succ, List.getElem?_cons_zero]; first | done | rfl) (by rfl) hHeld ?_; clear hHeld; intro hHeld; (try simp only [Act.put, List.setIfInBounds_toArray, List.set_cons_zero, List.set_cons_succ])))
      refine seq_end ?_
      go_wp2
      go_roundw
      case rel => exact ⟨j + 1, by go_num, by omega, HMM.out.below hHeld⟩
      case measure => simp [intOf]; omega
    · have hj' : j = m.length := by omega
      subst hj'
      go_wp2
      go_ret
      exact ⟨rfl, HMM.out.1⟩
set_option maxHeartbeats 4000000 in
theorem likeReplies_same (A B : Option Addr) (l : List M.Rp) (ca cb : Nat) (w : World) (ha : Rps w A l) (hb : Rps w B l) (hlen : l.length ≤ 1048576) :
    Calls Tryz.prog 28 #[.slice A l.length ca, .slice B l.length cb] w fun r w' => r = .returned (.bool true) ∧ Below w.heap.size w w' := by
  have h3 : ((l.length : Int) != (l.length : Int)) = false := by simp
  have HA := Lib.hid ha
  have HB := Lib.hid hb
  clear ha hb
  go_enter Tryz.func28, Tryz.ntmps28
  go_wp2
  go_loopw [5] (fun i wr => ∃ j : Nat, i = .int .i64 j ∧ j ≤ l.length ∧ Below w.heap.size w wr) (fun i _ => l.length - (intOf i).toNat)
  case atStart => exact ⟨0, rfl, Nat.zero_le _, Below.refl _ _⟩
  case round =>
    obtain ⟨j, rfl, hj, hbl⟩ := hrel
    by_cases hlt : j < l.length
    · obtain ⟨b, o, hA, lb, c0, c1⟩ := Rps_at (HA.out.below hbl) hlt
      obtain ⟨b', o', hB, lb', d0, d1⟩ := Rps_at (HB.out.below hbl) hlt
      have HBL := Lib.hid hbl
      clear hbl
      subst hA hB
      go_wp2_with fail
      refine wp_region_seq (fun w' => Below wr.heap.size wr w') [(0, true), (1, true), (2, true), (3, true), (4, true), (5, true), (6, true), (7, true), (8, true)] (by kernel_rfl) (by kernel_rfl) (fun _ _ _ _ _ h => h) (by kernel_rfl) (by decide) (Below.refl _ _).drew ?_
      intro hHeld
      repeat (first
        | (refine seq_read (by simp only [List.getElem?_toArray, List.getElem?_cons_succ, List.getElem?_cons_zero]; first | done | rfl) (by rfl) (fun w _ => rpneq_read rfl rfl rfl w) ?_; (try simp only [Act.put, List.setIfInBounds_toArray, List.set_cons_zero, List.set_cons_succ]))
        | (refine seq_skip (by simp only [List.getElem?_toArray, List.getElem?_cons_succ, List.getElem?_cons_zero]; first | done | rfl) (by rfl) ?_; (try simp only [Act.put, List.setIfInBounds_toArray, List.set_cons_zero, List.set_cons_succ]))
        | (refine seq_reads (by simp only [List.getElem?_toArray, List.getElem?_cons_succ, List.getElem?_cons_zero]; first | done | rfl) (by rfl) ?_; apply Exists.intro; apply And.intro; (focus (intro w hSw; obtain ⟨hcS, -⟩ := bcell hSw; go_simp; (try with_reducible rfl); done)); (try simp only [Act.put, List.setIfInBounds_toArray, List.set_cons_zero, List.set_cons_succ]))
        | (refine seq_pass (by simp only [List.getElem?_toArray, List.getElem?_cons_succ, List.getElem?_cons_zero]; first | done | rfl) (by rfl) hHeld ?_; clear hHeld; intro hHeld; (try simp only [Act.put, List.setIfInBounds_toArray, List.set_cons_zero, List.set_cons_succ])))
      refine seq_end ?_
      go_wp2
      go_roundw
      case rel => exact ⟨j + 1, by go_num, by omega, next HBL.out hHeld⟩
      case measure => simp [intOf]; omega
    · have hj' : j = l.length := by omega
      subst hj'
      go_wp2
      go_ret
      exact ⟨rfl, hbl⟩
end Go.Proofs.YtblcgbgcccjpcaaGreat
namespace Go.Proofs.YtblcgbgcccjpcaaGreat
open Go Go.RowKit
end Go.Proofs.YtblcgbgcccjpcaaGreat
namespace Go.Proofs.YtblcgbgcccjpcaaGreat
open Go.ChangeShapes Go.WideShapes Go.ChangeAt Go.RowKit
set_option maxRecDepth 20000

theorem big_any (a : Option Addr) (len cap : Nat) (w : World) : Calls Tryz.prog 9 #[.slice a len cap] w fun e w' => e = .returned (.bool (decide (4096 < len))) ∧ w = w' := by
  by_cases h : 4096 < len
  · go_enter Tryz.func9, Tryz.ntmps9
    go_wp2
    go_ret
    exact ⟨ret_bool (decide_eq_decide.2 (by omega)), rfl⟩
  · go_enter Tryz.func9, Tryz.ntmps9
    go_wp2
    go_ret
    exact ⟨ret_bool (decide_eq_decide.2 (by omega)), rfl⟩

theorem CodeOk.later {w w' : World} {a : Option Addr} {len : Nat} (h : CodeOk w.heap.size w a len) (hb : Below w.heap.size w w') : CodeOk w'.heap.size w' a len := by
  intro j hj
  obtain ⟨b, off, n, ha, hlt, h0, h1, hc⟩ := h.kept hb.block j hj
  exact ⟨b, off, n, ha, Nat.lt_of_lt_of_le hlt hb.size, h0, h1, hc⟩

theorem open_code {H : Type} {enc : TypeId × Value → H} {W : World} {spare : Nat → Bool} {held : Bool} {r : Reach} {b0 : Nat} {v : Value} {d : DataW H} {p : List MemPlace}
    (hv : Value.okWide Tryz.prog W r b0 22 v) (h : DataW.Trod enc Tryz.prog W 0 spare held 22 v d p) :
    ∃ (a : Option Addr) (len cap : Nat), v = .slice a len cap ∧ CodeOk W.heap.size W a len := by
  obtain ⟨a0, len0, cap0, rfl⟩ := okWide_slice Tryz.underlying22 hv
  refine ⟨a0, len0, cap0, rfl, ?_⟩
  obtain ⟨fuel, hf⟩ := h
  rcases open_ints Tryz.underlying22 Tryz.underlying5 (by kernel_rfl) hf with ⟨hcs, _⟩ | ⟨x, l, c, zs, hcs, _, hl, hm, hz, _, hcell, hwz⟩
  · simp [Value.cells] at hcs
    obtain ⟨rfl, rfl, rfl⟩ := hcs
    intro j hj
    omega
  · simp [Value.cells] at hcs
    obtain ⟨rfl, rfl, rfl⟩ := hcs
    intro j hj
    have hz' : len0 ≤ zs.length := by
      rw [hz]; split <;> omega
    obtain ⟨b, off, rfl, hcs⟩ := ints_at hcell (by omega)
    have hcj := hcs j (by omega)
    have hlt := World.block_lt_of_cell? W _ hcj
    have hbd := bounds_u8 (hwz (zs.getD j 0) (by rw [List.getD_eq_getElem?_getD, List.getElem?_eq_getElem (by omega)]; exact List.getElem_mem _))
    exact ⟨b, off, _, rfl, hlt, hbd.1, hbd.2, hcj⟩
end Go.Proofs.YtblcgbgcccjpcaaGreat
