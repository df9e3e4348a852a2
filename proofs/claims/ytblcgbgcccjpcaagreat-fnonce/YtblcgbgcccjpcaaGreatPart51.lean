/- Proved, in parts: Proved: the laws' own tests tell shelves, books and lists of replies like themselves; nothing that was there is written. Condition: lists of at most a million. Proved: an operation whose run is told walks on with its value; no program is named here; no condition. Proved: an argument that is a list of bytes can be read byte by byte, and the laws' own test of its length; no condition. -/
import Derived.Test.YtblcgbgcccjpcaaGreatPart50
import Derived.Test.YtblcgbgcccjpcaaGreatPart22
import Derived.Test.YtblcgbgcccjpcaaGreatPart42
import Derived.Test.YtblcgbgcccjpcaaGreatPart01
import Derived.Test.YtblcgbgcccjpcaaGreatPart43
import Derived.ProofKit
import Derived.OpenShut
import Derived.Carry
namespace Go.Proofs.YtblcgbgcccjpcaaGreat
open Go.RowKit
set_option maxRecDepth 20000
theorem la_neq (c : M.La) (w : World) : (binOp .neq 59 (laV c) (laV c)).run Tryz.prog w = .ok (.bool false) w := by
  simp [go_sem, Tryz.underlying59, Tryz.underlying33, Tryz.underlying2, Tryz.underlying9]
theorem laneq_read {A : Act} {o : Oper} {x y : Operand} {c : M.La} (ho : o.op = .binOp .neq 59 x y 59) (hx : A.eval x = laV c) (hy : A.eval y = laV c) (w : World) :
    (execOp A.eval o).run Tryz.prog w = .ok (.value (.bool false)) w := by
  unfold execOp
  rw [ho]
  have hg := fun (op : BinOp) (x y : Operand) (xs ys : Array Value) (w : World) => run_eqGuard_agg (P := Tryz.prog) w op 59 x y xs ys (by kernel_rfl)
  have he := fun w => la_neq c w
  simp only [laV] at he hx hy
  simp only [hx, hy, Sem.run_bind, hg, he, Result.andThen_ok, Sem.run_pure]
theorem rp_neq (c : M.Rp) (w : World) : (binOp .neq 33 (rpV c.1 c.2) (rpV c.1 c.2)).run Tryz.prog w = .ok (.bool false) w := by
  simp [go_sem, Tryz.underlying33, Tryz.underlying2, Tryz.underlying9]
theorem rpneq_read {A : Act} {o : Oper} {x y : Operand} {c : M.Rp} (ho : o.op = .binOp .neq 33 x y 33) (hx : A.eval x = rpV c.1 c.2) (hy : A.eval y = rpV c.1 c.2) (w : World) :
    (execOp A.eval o).run Tryz.prog w = .ok (.value (.bool false)) w := by
  unfold execOp
  rw [ho]
  have hg := fun (op : BinOp) (x y : Operand) (xs ys : Array Value) (w : World) => run_eqGuard_agg (P := Tryz.prog) w op 33 x y xs ys (by kernel_rfl)
  have he := fun w => rp_neq c w
  simp only [rpV] at he hx hy
  simp only [hx, hy, Sem.run_bind, hg, he, Result.andThen_ok, Sem.run_pure]
theorem rp_eqlS (c : M.Rp) (w : World) : (binOp .eql 33 (rpV c.1 c.2) (rpV c.1 c.2)).run Tryz.prog w = .ok (.bool true) w := by
  simp [go_sem, Tryz.underlying33, Tryz.underlying2, Tryz.underlying9]
theorem rpeql_read {A : Act} {o : Oper} {x y : Operand} {c : M.Rp} (ho : o.op = .binOp .eql 33 x y 33) (hx : A.eval x = rpV c.1 c.2) (hy : A.eval y = rpV c.1 c.2) (w : World) :
    (execOp A.eval o).run Tryz.prog w = .ok (.value (.bool true)) w := by
  unfold execOp
  rw [ho]
  have hg := fun (op : BinOp) (x y : Operand) (xs ys : Array Value) (w : World) => run_eqGuard_agg (P := Tryz.prog) w op 33 x y xs ys (by kernel_rfl)
  have he := fun w => rp_eqlS c w
  simp only [rpV] at he hx hy
  simp only [hx, hy, Sem.run_bind, hg, he, Result.andThen_ok, Sem.run_pure]
set_option maxHeartbeats 4000000 in
theorem likeShelf_same (A : Option Addr) (l : List Wr) (ca : Nat) (B : Option Addr) (m : List Wr) (n cb : Nat) (w : World) (ha : Wks w A l) (hb : Wks w B m) (hm : m.map Wr.wk = l.map Wr.wk) (hn : m.length = n) (hlen : l.length ≤ 1048576) (hp : ∀ r ∈ l, r.cps.length ≤ 1048576) :
    Calls Tryz.prog 29 #[.slice A l.length ca, .slice B n cb] w fun r w' => r = .returned (.bool true) ∧ Below w.heap.size w w' := by
  have HML : Hid (m.length = l.length) := Lib.hid (by simpa using congrArg List.length hm)
  have HWK : Hid (∀ j (hj : j < l.length) (hj' : j < m.length), (m[j]).name = (l[j]).name ∧ (m[j]).owner = (l[j]).owner ∧ (m[j]).cps = (l[j]).cps) := Lib.hid (fun j hj hj' => by
    have h := congrArg (fun x => x[j]?) hm
    simp only [List.getElem?_map, List.getElem?_eq_getElem hj, List.getElem?_eq_getElem hj', Option.map_some, Option.some.injEq] at h
    exact ⟨congrArg M.Wk.name h, congrArg M.Wk.owner h, congrArg M.Wk.copies h⟩)
  obtain rfl : n = l.length := hn.symm.trans HML.out
  have h3 : ((l.length : Int) != (l.length : Int)) = false := by simp
  have HA := Lib.hid ha
  have HB := Lib.hid hb
  have HP := Lib.hid hp
  clear ha hb hm hn hp
  go_enter Tryz.func29, Tryz.ntmps29
  go_wp2
  go_loopw [5] (fun i wr => ∃ j : Nat, i = .int .i64 j ∧ j ≤ l.length ∧ Below w.heap.size w wr) (fun i _ => l.length - (intOf i).toNat)
  case atStart => exact ⟨0, rfl, Nat.zero_le _, Below.refl _ _⟩
  case round =>
    obtain ⟨j, rfl, hj, hbl⟩ := hrel
    by_cases hlt : j < l.length
    · have hlt' : j < m.length := by rw [HML.out]; exact hlt
      obtain ⟨b, o, hA, lb, c0, c1, c2, hca⟩ := Wks_at (HA.out.below hbl) hlt
      obtain ⟨b', o', hB, lb', d0, d1, d2, hcb⟩ := Wks_at (HB.out.below hbl) hlt'
      obtain ⟨e0, e1, e2⟩ := HWK.out j hlt hlt'
      rw [e0] at d0
      rw [e1] at d1
      rw [e2] at d2 hcb
      have HCA := Lib.hid hca
      have HCB := Lib.hid hcb
      have HBL := Lib.hid hbl
      clear e0 e1 e2 hca hcb hbl
      subst hA hB
      go_wp2_with fail
      refine wp_region_seq (fun w' => Below wr.heap.size wr w') [(0, true), (1, true), (2, true), (3, true), (4, true), (5, true), (6, true), (7, true), (8, false), (9, true)] (by kernel_rfl) (by kernel_rfl) (fun _ _ _ _ _ h => h) (by kernel_rfl) (by decide) (Below.refl _ _).drew ?_
      intro hHeld
      repeat (first
        | (refine seq_skip (by simp only [List.getElem?_toArray, List.getElem?_cons_succ, List.getElem?_cons_zero]; first | done | rfl) (by rfl) ?_; (try simp only [Act.put, List.setIfInBounds_toArray, List.set_cons_zero, List.set_cons_succ]))
        | (refine seq_reads (by simp only [List.getElem?_toArray, List.getElem?_cons_succ, List.getElem?_cons_zero]; first | done | rfl) (by rfl) ?_; apply Exists.intro; apply And.intro; (focus (intro w hSw; obtain ⟨hcS, -⟩ := bcell hSw; go_simp; (try with_reducible rfl); done)); (try simp only [Act.put, List.setIfInBounds_toArray, List.set_cons_zero, List.set_cons_succ]))
        | (refine seq_pass (by simp only [List.getElem?_toArray, List.getElem?_cons_succ, List.getElem?_cons_zero]; first | done | rfl) (by rfl) hHeld ?_; clear hHeld; intro hHeld; (try simp only [Act.put, List.setIfInBounds_toArray, List.set_cons_zero, List.set_cons_succ]))
        | (refine seq_call (by simp only [List.getElem?_toArray, List.getElem?_cons_succ, List.getElem?_cons_zero]; first | done | rfl) (by rfl) (fun K hK => ?_); go_simp; go_at_call 87; refine (likeWork_same ⟨(l[j]).name, (l[j]).owner, (l[j]).cps⟩ _ _ _ _ _ (HCA.out.below hHeld) (HCB.out.below hHeld) (HP.out l[j] (List.getElem_mem hlt))).mono ?_; rintro r w1 ⟨rfl, b1⟩; go_simp; refine hK.out _ _ (next hHeld b1) ?_; clear hK hHeld; intro hHeld; (try simp only [Act.put, List.setIfInBounds_toArray, List.set_cons_zero, List.set_cons_succ])))
      refine seq_end ?_
      go_wp2
      go_roundw
      case rel => exact ⟨j + 1, by go_num, by omega, next HBL.out hHeld⟩
      case measure => simp [intOf]; omega
    · have hj' : j = l.length := by omega
      subst hj'
      go_wp2
      go_ret
      exact ⟨rfl, hbl⟩
set_option maxHeartbeats 4000000 in
theorem likeBook_same (A : Option Addr) (l : List Wr) (ca : Nat) (A2 : Option Addr) (m : List M.La) (c2 : Nat) (B : Option Addr) (k : List Wr) (n cb : Nat) (B2 : Option Addr) (d2 : Nat) (w : World) (ha : Wks w A l) (hb : Wks w B k) (hm : k.map Wr.wk = l.map Wr.wk) (hn : k.length = n) (hlen : l.length ≤ 1048576) (hp : ∀ r ∈ l, r.cps.length ≤ 1048576) (hla : Las w A2 m) (hlb : Las w B2 m) (hml : m.length ≤ 1048576) :
    Calls Tryz.prog 21 #[bkV A l.length ca A2 m.length c2, bkV B n cb B2 m.length d2] w fun r w' => r = .returned (.bool true) ∧ Below w.heap.size w w' := by
  have hM := ((Mem.start w).new (bkA A l.length ca A2 m.length c2) 27).new (bkA B n cb B2 m.length d2) 27
  simp only [World.size_alloc] at hM
  have h3 : ((m.length : Int) != (m.length : Int)) = false := by simp
  have HLA := Lib.hid hla
  have HLB := Lib.hid hlb
  have HA := Lib.hid (ha.below hM.1)
  have HB := Lib.hid (hb.below hM.1)
  have HM := Lib.hid hm
  have HN := Lib.hid hn
  have HP := Lib.hid hp
  clear ha hb hla hlb hm hn hp
  go_enter Tryz.func21, Tryz.ntmps21
  go_wp2_with fail
  refine (likeShelf_same A l ca B k n cb _ HA.out HB.out HM.out HN.out hlen HP.out).mono ?_
  rintro r w1 ⟨rfl, b1⟩
  replace hM := hM.below b1
  clear b1 HA HB
  obtain ⟨p0, p1⟩ := (hM.get w.heap.size (bkA A l.length ca A2 m.length c2) (by simp)).two
  obtain ⟨q0, q1⟩ := (hM.get (w.heap.size + 1) (bkA B n cb B2 m.length d2) (by simp)).two
  have HMM := Lib.hid hM
  clear hM
  go_wp2
  go_loopw [5] (fun i wr => ∃ j : Nat, i = .int .i64 j ∧ j ≤ m.length ∧ Mem w [(w.heap.size + 1, (bkA B n cb B2 m.length d2)), (w.heap.size, (bkA A l.length ca A2 m.length c2))] [w.heap.size + 1, w.heap.size] wr) (fun i _ => m.length - (intOf i).toNat)
  case atStart => exact ⟨0, rfl, Nat.zero_le _, HMM.out⟩
  case round =>
    clear HMM p0 p1 q0 q1
    obtain ⟨j, rfl, hj, hM⟩ := hrel
    obtain ⟨p0, p1⟩ := (hM.get w.heap.size (bkA A l.length ca A2 m.length c2) (by simp)).two
    obtain ⟨q0, q1⟩ := (hM.get (w.heap.size + 1) (bkA B n cb B2 m.length d2) (by simp)).two
    have zp := (hM.get w.heap.size (bkA A l.length ca A2 m.length c2) (by simp)).1
    have zq := (hM.get (w.heap.size + 1) (bkA B n cb B2 m.length d2) (by simp)).1
    have HMM := Lib.hid hM
    clear hM
    by_cases hlt : j < m.length
    · obtain ⟨b, o, hA, lb, c0, c1, c2', c3⟩ := Las_at (HLA.out.below HMM.out.1) hlt
      obtain ⟨b', o', hB, lb', d0, d1, d2', d3⟩ := Las_at (HLB.out.below HMM.out.1) hlt
      subst hA hB
      go_wp2_with fail
      refine wp_region_seq (fun w' => Below wr.heap.size wr w') [(0, true), (1, true), (2, true), (3, true), (4, true), (5, true), (6, true), (7, true), (8, true), (9, true), (10, true)] (by kernel_rfl) (by kernel_rfl) (fun _ _ _ _ _ h => h) (by kernel_rfl) (by decide) (Below.refl _ _).drew ?_
      intro hHeld
      repeat (first
        | (refine seq_read (by simp only [List.getElem?_toArray, List.getElem?_cons_succ, List.getElem?_cons_zero]; first | done | rfl) (by rfl) (fun w _ => laneq_read rfl rfl rfl w) ?_; (try simp only [Act.put, List.setIfInBounds_toArray, List.set_cons_zero, List.set_cons_succ]))
        | (refine seq_skip (by simp only [List.getElem?_toArray, List.getElem?_cons_succ, List.getElem?_cons_zero]; first | done | rfl) (by rfl) ?_; (try simp only [Act.put, List.setIfInBounds_toArray, List.set_cons_zero, List.set_cons_succ]))
        | (refine seq_reads (by simp only [List.getElem?_toArray, List.getElem?_cons_succ, List.getElem?_cons_zero]; first | done | rfl) (by rfl) ?_; apply Exists.intro; apply And.intro; (focus (intro w hSw; obtain ⟨hcS, -⟩ := bcell hSw; go_simp; (try with_reducible rfl); done)); (try simp only [Act.put, List.setIfInBounds_toArray, List.set_cons_zero, List.set_cons_succ]))
        | (refine seq_pass (by simp only [List.getElem?_toArray, List.getElem?_cons_succ, List.getElem?_cons_zero]; first | done | rfl) (by rfl) hHeld ?_; clear hHeld; intro hHeld; (try simp only [Act.put, List.setIfInBounds_toArray, List.set_cons_zero, List.set_cons_succ])))
      refine seq_end ?_
      go_wp2
      go_roundw
      case rel => exact ⟨j + 1, by go_num, by omega, HMM.out.below hHeld⟩
      case measure => simp [intOf]; omega
    · have hj' : j = m.length := by omega
      subst hj'
      go_wp2
      go_ret
      exact ⟨rfl, HMM.out.1⟩
end Go.Proofs.YtblcgbgcccjpcaaGreat
namespace Go.Proofs.YtblcgbgcccjpcaaGreat
open Go Go.RowKit
theorem wpList_run {P : Program} {ops : Array Oper} {Q : Exit → Act → World → Prop} {o : Oper} {rest : List Oper} {a : Act} {w : World} {v : Value} (hw : Region.wanted o (yielded ops a.tmps) = true) (hr : (execOp a.eval o).run P w = .ok (.value v) w) (h : wpList P ops Q rest (a.put o.dst v) w) : wpList P ops Q (o :: rest) a w :=
  wpList_step fun K hK => by
    rw [if_pos hw]
    show o.upon P a K Q ((execOp a.eval o).run P w)
    rw [hr]
    exact hK _ _ h
end Go.Proofs.YtblcgbgcccjpcaaGreat
namespace Go.Proofs.YtblcgbgcccjpcaaGreat
open Go.ChangeShapes Go.WideShapes Go.ChangeAt Go.RowKit
set_option maxRecDepth 20000

theorem big_any (a : Option Addr) (len cap : Nat) (w : World) : Calls Tryz.prog 9 #[.slice a len cap] w fun e w' => e = .returned (.bool (decide (4096 < len))) ∧ w = w' := by
  by_cases h : 4096 < len
  · go_enter Tryz.func9, Tryz.ntmps9
    go_wp2
    go_ret
    exact ⟨ret_bool (decide_eq_decide.2 (by omega)), rfl⟩
  · go_enter Tryz.func9, Tryz.ntmps9
    go_wp2
    go_ret
    exact ⟨ret_bool (decide_eq_decide.2 (by omega)), rfl⟩

theorem CodeOk.later {w w' : World} {a : Option Addr} {len : Nat} (h : CodeOk w.heap.size w a len) (hb : Below w.heap.size w w') : CodeOk w'.heap.size w' a len := by
  intro j hj
  obtain ⟨b, off, n, ha, hlt, h0, h1, hc⟩ := h.kept hb.block j hj
  exact ⟨b, off, n, ha, Nat.lt_of_lt_of_le hlt hb.size, h0, h1, hc⟩

theorem open_code {H : Type} {enc : TypeId × Value → H} {W : World} {spare : Nat → Bool} {held : Bool} {r : Reach} {b0 : Nat} {v : Value} {d : DataW H} {p : List MemPlace}
    (hv : Value.okWide Tryz.prog W r b0 22 v) (h : DataW.Trod enc Tryz.prog W 0 spare held 22 v d p) :
    ∃ (a : Option Addr) (len cap : Nat), v = .slice a len cap ∧ CodeOk W.heap.size W a len := by
  obtain ⟨a0, len0, cap0, rfl⟩ := okWide_slice Tryz.underlying22 hv
  refine ⟨a0, len0, cap0, rfl, ?_⟩
  obtain ⟨fuel, hf⟩ := h
  rcases open_ints Tryz.underlying22 Tryz.underlying5 (by kernel_rfl) hf with ⟨hcs, _⟩ | ⟨x, l, c, zs, hcs, _, hl, hm, hz, _, hcell, hwz⟩
  · simp [Value.cells] at hcs
    obtain ⟨rfl, rfl, rfl⟩ := hcs
    intro j hj
    omega
  · simp [Value.cells] at hcs
    obtain ⟨rfl, rfl, rfl⟩ := hcs
    intro j hj
    have hz' : len0 ≤ zs.length := by
      rw [hz]; split <;> omega
    obtain ⟨b, off, rfl, hcs⟩ := ints_at hcell (by omega)
    have hcj := hcs j (by omega)
    have hlt := World.block_lt_of_cell? W _ hcj
    have hbd := bounds_u8 (hwz (zs.getD j 0) (by rw [List.getD_eq_getElem?_getD, List.getElem?_eq_getElem (by omega)]; exact List.getElem_mem _))
    exact ⟨b, off, _, rfl, hlt, hbd.1, hbd.2, hcj⟩
end Go.Proofs.YtblcgbgcccjpcaaGreat
