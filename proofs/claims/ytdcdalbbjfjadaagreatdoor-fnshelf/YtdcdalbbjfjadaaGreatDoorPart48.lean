/- Proved, in parts: Proved: the laws' own tests tell shelves and replies like themselves; nothing that was there is written. Condition: lists of at most a million. Proved: an operation whose run is told walks on with its value; no program is named here; no condition. -/
import Derived.Test.YtdcdalbbjfjadaaGreatDoorPart47
import Derived.Test.YtdcdalbbjfjadaaGreatDoorPart16
import Derived.Test.YtdcdalbbjfjadaaGreatDoorPart07
import Derived.Test.YtdcdalbbjfjadaaGreatDoorPart20
import Derived.Test.YtdcdalbbjfjadaaGreatDoorPart01
namespace Go.Proofs.YtdcdalbbjfjadaaGreatDoor
open Go.RowKit
set_option maxRecDepth 20000
theorem rp_neq (c : M.Rp) (w : World) : (binOp .neq 32 (rpV c.1 c.2) (rpV c.1 c.2)).run Tryz.prog w = .ok (.bool false) w := by
  simp [go_sem, Tryz.underlying32, Tryz.underlying2, Tryz.underlying9]
theorem rpneq_read {A : Act} {o : Oper} {x y : Operand} {c : M.Rp} (ho : o.op = .binOp .neq 32 x y 32) (hx : A.eval x = rpV c.1 c.2) (hy : A.eval y = rpV c.1 c.2) (w : World) :
    (execOp A.eval o).run Tryz.prog w = .ok (.value (.bool false)) w := by
  unfold execOp
  rw [ho]
  have hg := fun (op : BinOp) (x y : Operand) (xs ys : Array Value) (w : World) => run_eqGuard_agg (P := Tryz.prog) w op 32 x y xs ys (by kernel_rfl)
  have he := fun w => rp_neq c w
  simp only [rpV] at he hx hy
  simp only [hx, hy, Sem.run_bind, hg, he, Result.andThen_ok, Sem.run_pure]
theorem rp_eqlS (c : M.Rp) (w : World) : (binOp .eql 32 (rpV c.1 c.2) (rpV c.1 c.2)).run Tryz.prog w = .ok (.bool true) w := by
  simp [go_sem, Tryz.underlying32, Tryz.underlying2, Tryz.underlying9]
theorem rpeql_read {A : Act} {o : Oper} {x y : Operand} {c : M.Rp} (ho : o.op = .binOp .eql 32 x y 32) (hx : A.eval x = rpV c.1 c.2) (hy : A.eval y = rpV c.1 c.2) (w : World) :
    (execOp A.eval o).run Tryz.prog w = .ok (.value (.bool true)) w := by
  unfold execOp
  rw [ho]
  have hg := fun (op : BinOp) (x y : Operand) (xs ys : Array Value) (w : World) => run_eqGuard_agg (P := Tryz.prog) w op 32 x y xs ys (by kernel_rfl)
  have he := fun w => rp_eqlS c w
  simp only [rpV] at he hx hy
  simp only [hx, hy, Sem.run_bind, hg, he, Result.andThen_ok, Sem.run_pure]
set_option maxHeartbeats 4000000 in
theorem likeShelf_same (A : Option Addr) (l : List Wr) (ca : Nat) (B : Option Addr) (m : List Wr) (n cb : Nat) (w : World) (ha : Wks w A l) (hb : Wks w B m) (hm : m.map Wr.wk = l.map Wr.wk) (hn : m.length = n) (hlen : l.length ≤ 1048576) (hp : ∀ r ∈ l, r.cps.length ≤ 1048576) :
    Calls Tryz.prog 11 #[.slice A l.length ca, .slice B n cb] w fun r w' => r = .returned (.bool true) ∧ Below w.heap.size w w' := by
  have HML : Hid (m.length = l.length) := Lib.hid (by simpa using congrArg List.length hm)
  have HWK : Hid (∀ j (hj : j < l.length) (hj' : j < m.length), (m[j]).name = (l[j]).name ∧ (m[j]).owner = (l[j]).owner ∧ (m[j]).cps = (l[j]).cps) := Lib.hid (fun j hj hj' => by
    have h := congrArg (fun x => x[j]?) hm
    simp only [List.getElem?_map, List.getElem?_eq_getElem hj, List.getElem?_eq_getElem hj', Option.map_some, Option.some.injEq] at h
    exact ⟨congrArg M.Wk.name h, congrArg M.Wk.owner h, congrArg M.Wk.copies h⟩)
  obtain rfl : n = l.length := hn.symm.trans HML.out
  have h3 : ((l.length : Int) != (l.length : Int)) = false := by simp
  have HA := Lib.hid ha
  have HB := Lib.hid hb
  have HP := Lib.hid hp
  clear ha hb hm hn hp
  go_enter Tryz.func11, Tryz.ntmps11
  go_wp2
  go_loopw [5] (fun i wr => ∃ j : Nat, i = .int .i64 j ∧ j ≤ l.length ∧ Below w.heap.size w wr) (fun i _ => l.length - (intOf i).toNat)
  case atStart => exact ⟨0, rfl, Nat.zero_le _, Below.refl _ _⟩
  case round =>
    obtain ⟨j, rfl, hj, hbl⟩ := hrel
    by_cases hlt : j < l.length
    · have hlt' : j < m.length := by rw [HML.out]; exact hlt
      obtain ⟨b, o, hA, lb, c0, c1, c2, hca⟩ := Wks_at (HA.out.below hbl) hlt
      obtain ⟨b', o', hB, lb', d0, d1, d2, hcb⟩ := Wks_at (HB.out.below hbl) hlt'
      obtain ⟨e0, e1, e2⟩ := HWK.out j hlt hlt'
      rw [e0] at d0
      rw [e1] at d1
      rw [e2] at d2 hcb
      have HCA := Lib.hid hca
      have HCB := Lib.hid hcb
      have HBL := Lib.hid hbl
      clear e0 e1 e2 hca hcb hbl
      subst hA hB
      go_wp2_with fail
      refine wp_region_seq (fun w' => Below wr.heap.size wr w') [(0, true), (1, true), (2, true), (3, true), (4, true), (5, true), (6, true), (7, true), (8, false), (9, true)] (by kernel_rfl) (by kernel_rfl) (fun _ _ _ _ _ h => h) (by kernel_rfl) (by decide) (Below.refl _ _).drew ?_
      intro hHeld
      repeat (first
        | (refine seq_skip (by simp only [List.getElem?_toArray, List.getElem?_cons_succ, List.getElem?_cons_zero]; first | done | rfl) (by rfl) ?_; (try simp only [Act.put, List.setIfInBounds_toArray, List.set_cons_zero, List.set_cons_succ]))
        | (refine seq_reads (by simp only [List.getElem?_toArray, List.getElem?_cons_succ, List.getElem?_cons_zero]; first | done | rfl) (by rfl) ?_; apply Exists.intro; apply And.intro; (focus (intro w hSw; obtain ⟨hcS, -⟩ := bcell hSw; go_simp; (try with_reducible rfl); done)); (try simp only [Act.put, List.setIfInBounds_toArray, List.set_cons_zero, List.set_cons_succ]))
        | (refine seq_pass (by simp only [List.getElem?_toArray, List.getElem?_cons_succ, List.getElem?_cons_zero]; first | done | rfl) (by rfl) hHeld ?_; clear hHeld; intro hHeld; (try simp only [Act.put, List.setIfInBounds_toArray, List.set_cons_zero, List.set_cons_succ]))
        | (refine seq_call (by simp only [List.getElem?_toArray, List.getElem?_cons_succ, List.getElem?_cons_zero]; first | done | rfl) (by rfl) (fun K hK => ?_); go_simp; go_at_call 17; refine (likeWork_same ⟨(l[j]).name, (l[j]).owner, (l[j]).cps⟩ _ _ _ _ _ (HCA.out.below hHeld) (HCB.out.below hHeld) (HP.out l[j] (List.getElem_mem hlt))).mono ?_; rintro r w1 ⟨rfl, b1⟩; go_simp; refine hK.out _ _ (next hHeld b1) ?_; clear hK hHeld; intro hHeld; (try simp only [Act.put, List.setIfInBounds_toArray, List.set_cons_zero, List.set_cons_succ])))
      refine seq_end ?_
      go_wp2
      go_roundw
      case rel => exact ⟨j + 1, by go_num, by omega, next HBL.out hHeld⟩
      case measure => simp [intOf]; omega
    · have hj' : j = l.length := by omega
      subst hj'
      go_wp2
      go_ret
      exact ⟨rfl, hbl⟩
end Go.Proofs.YtdcdalbbjfjadaaGreatDoor
namespace Go.Proofs.YtdcdalbbjfjadaaGreatDoor
open Go Go.RowKit
theorem wpList_run {P : Program} {ops : Array Oper} {Q : Exit → Act → World → Prop} {o : Oper} {rest : List Oper} {a : Act} {w : World} {v : Value} (hw : Region.wanted o (yielded ops a.tmps) = true) (hr : (execOp a.eval o).run P w = .ok (.value v) w) (h : wpList P ops Q rest (a.put o.dst v) w) : wpList P ops Q (o :: rest) a w :=
  wpList_step fun K hK => by
    rw [if_pos hw]
    show o.upon P a K Q ((execOp a.eval o).run P w)
    rw [hr]
    exact hK _ _ h
end Go.Proofs.YtdcdalbbjfjadaaGreatDoor
