/- Proved, in parts: Proved: two letters are the same, as plain data, where they are so field by field. No program is named here; no condition. Proved: the language's own test whether two entries are unlike is whether they are unlike in some field; no condition. Proved: the language's own test whether two lasts are unlike is whether they are unlike in some field; no condition. Proved: the language's own test whether two copies are unlike is whether they are unlike in some field; no condition. Proved: the library's test whether two lists are the same, of entries, of lasts and of copies, answers whether they are; nothing that was there is written. Condition: lists of at most a million. -/
import Derived.Test.YtdoeiphnalbinaaGreatPart17
import Derived.Test.YtdoeiphnalbinaaGreatPart08
import Derived.Test.YtdoeiphnalbinaaGreatPart10
import Derived.Calls
import Derived.KernelRfl
import Derived.Test.YtdoeiphnalbinaaGreatPart09
import Derived.Test.YtdoeiphnalbinaaGreatPart05
import Derived.Test.YtdoeiphnalbinaaGreatPart15
import Derived.Test.YtdoeiphnalbinaaGreatPart03
namespace Go.Proofs.YtdoeiphnalbinaaGreat
open Go.RowKit
namespace M
instance : DecidableEq Lt := fun a b =>
  if h : a.kind = b.kind ∧ a.frm = b.frm ∧ a.dst = b.dst ∧ a.reign = b.reign ∧ a.index = b.index ∧ a.mark = b.mark ∧ a.list = b.list ∧ a.commit = b.commit ∧ a.yes = b.yes ∧ a.book = b.book then isTrue (by cases a; cases b; simp_all) else isFalse (by rintro rfl; simp at h)
theorem lt_same (a b : Lt) : decide (a = b) = ((a.kind == b.kind) && ((a.frm == b.frm) && ((a.dst == b.dst) && ((a.reign == b.reign) && ((a.index == b.index) && ((a.mark == b.mark) && (decide (a.list = b.list) && ((a.commit == b.commit) && ((a.yes == b.yes) && bkSame a.book b.book))))))))) := by
  rw [Bool.eq_iff_iff]
  simp only [decide_eq_true_eq, Bool.and_eq_true, beq_iff_eq, bkSame]
  constructor
  · rintro rfl; simp
  · obtain ⟨a0, a1, a2, a3, a4, a5, a6, a7, a8, a9, a10⟩ := a
    obtain ⟨b0, b1, b2, b3, b4, b5, b6, b7, b8, b9, b10⟩ := b
    rintro ⟨h0, h1, h2, h3, h4, h5, h6, h7, h8, h9, h10⟩
    simp only at h0 h1 h2 h3 h4 h5 h6 h7 h8 h9 h10
    subst h0; subst h1; subst h2; subst h3; subst h4; subst h5; subst h6; subst h7; subst h8; subst h9; subst h10; rfl
end M
end Go.Proofs.YtdoeiphnalbinaaGreat
namespace Go.Proofs.YtdoeiphnalbinaaGreat
open Go.RowKit
set_option maxRecDepth 20000
namespace M
def enxEq (a b : En) : Bool := ((a.reign == b.reign) && ((a.order.client == b.order.client) && ((a.order.seq == b.order.seq) && ((a.order.deed.kind == b.order.deed.kind) && (decide (a.order.deed.name = b.order.deed.name) && ((a.order.deed.ed.ma == b.order.deed.ed.ma) && ((a.order.deed.ed.mi == b.order.deed.ed.mi) && ((a.order.deed.ed.pa == b.order.deed.ed.pa) && (decide (a.order.deed.page = b.order.deed.page) && (a.order.deed.who == b.order.deed.who))))))))))
theorem enxEq_iff (a b : En) : enxEq a b = true ↔ a = b := by
  unfold enxEq
  constructor
  · intro h
    simp only [Bool.and_eq_true, beq_iff_eq, decide_eq_true_eq] at h
    obtain ⟨h0, h1, h2, h3, h4, h5, h6, h7, h8, h9⟩ := h
    obtain ⟨x0, ⟨x1, x2, ⟨x3, x4, ⟨x5, x6, x7⟩, x8, x9⟩⟩⟩ := a; obtain ⟨y0, ⟨y1, y2, ⟨y3, y4, ⟨y5, y6, y7⟩, y8, y9⟩⟩⟩ := b; simp_all
  · rintro rfl
    simp
end M
set_option maxHeartbeats 8000000 in
theorem enx_neq (a b : M.En) (w : World) : (binOp .neq 53 (enV a) (enV b)).run Tryz.prog w = .ok (.bool (!M.enxEq a b)) w := by
  rcases h0 : (a.reign == b.reign) with _ | _
  · have e : M.enxEq a b = false := by simp [M.enxEq, h0]
    rw [e]
    simp [go_sem, h0]
  · rcases h1 : (a.order.client == b.order.client) with _ | _
    · have e : M.enxEq a b = false := by simp [M.enxEq, h1]
      rw [e]
      simp [go_sem, h0, h1]
    · rcases h2 : (a.order.seq == b.order.seq) with _ | _
      · have e : M.enxEq a b = false := by simp [M.enxEq, h2]
        rw [e]
        simp [go_sem, h0, h1, h2]
      · rcases h3 : (a.order.deed.kind == b.order.deed.kind) with _ | _
        · have e : M.enxEq a b = false := by simp [M.enxEq, h3]
          rw [e]
          simp [go_sem, h0, h1, h2, h3]
        · by_cases h4 : a.order.deed.name = b.order.deed.name
          · rcases h5 : (a.order.deed.ed.ma == b.order.deed.ed.ma) with _ | _
            · have e : M.enxEq a b = false := by simp [M.enxEq, h5]
              rw [e]
              simp [go_sem, h0, h1, h2, h3, h4, h5]
            · rcases h6 : (a.order.deed.ed.mi == b.order.deed.ed.mi) with _ | _
              · have e : M.enxEq a b = false := by simp [M.enxEq, h6]
                rw [e]
                simp [go_sem, h0, h1, h2, h3, h4, h5, h6]
              · rcases h7 : (a.order.deed.ed.pa == b.order.deed.ed.pa) with _ | _
                · have e : M.enxEq a b = false := by simp [M.enxEq, h7]
                  rw [e]
                  simp [go_sem, h0, h1, h2, h3, h4, h5, h6, h7]
                · by_cases h8 : a.order.deed.page = b.order.deed.page
                  · have e : M.enxEq a b = (a.order.deed.who == b.order.deed.who) := by simp [M.enxEq, h0, h1, h2, h3, h4, h5, h6, h7, h8]
                    rcases h9 : (a.order.deed.who == b.order.deed.who) with _ | _ <;> rw [e, h9] <;> simp [go_sem, h0, h1, h2, h3, h4, h5, h6, h7, h8, h9, Tryz.underlying53, Tryz.underlying51, Tryz.underlying49, Tryz.underlying47, Tryz.underlying2, Tryz.underlying9]
                  · have e : M.enxEq a b = false := by simp [M.enxEq, h8]
                    have h8' := txt_other h8
                    rw [e]
                    simp [go_sem, h0, h1, h2, h3, h4, h5, h6, h7, h8']
          · have e : M.enxEq a b = false := by simp [M.enxEq, h4]
            have h4' := txt_other h4
            rw [e]
            simp [go_sem, h0, h1, h2, h3, h4']
theorem enxneq_read {A : Act} {o : Oper} {x y : Operand} {a b : M.En} (ho : o.op = .binOp .neq 53 x y 53) (hx : A.eval x = enV a) (hy : A.eval y = enV b) (w : World) :
    (execOp A.eval o).run Tryz.prog w = .ok (.value (.bool (!M.enxEq a b))) w := by
  unfold execOp
  rw [ho]
  have hg := fun (op : BinOp) (x y : Operand) (xs ys : Array Value) (w : World) => run_eqGuard_agg (P := Tryz.prog) w op 53 x y xs ys (by kernel_rfl)
  have he := fun w => enx_neq a b w
  simp only [enV] at he hx hy
  simp only [hx, hy, Sem.run_bind, hg, he, Result.andThen_ok, Sem.run_pure]
end Go.Proofs.YtdoeiphnalbinaaGreat
namespace Go.Proofs.YtdoeiphnalbinaaGreat
open Go.RowKit
set_option maxRecDepth 20000
namespace M
def laxEq (a b : La) : Bool := ((a.client == b.client) && ((a.seq == b.seq) && ((a.code == b.code) && decide (a.page = b.page))))
theorem laxEq_iff (a b : La) : laxEq a b = true ↔ a = b := by
  unfold laxEq
  constructor
  · intro h
    simp only [Bool.and_eq_true, beq_iff_eq, decide_eq_true_eq] at h
    obtain ⟨h0, h1, h2, h3⟩ := h
    cases a; cases b; simp_all
  · rintro rfl
    simp
end M
set_option maxHeartbeats 8000000 in
theorem lax_neq (a b : M.La) (w : World) : (binOp .neq 85 (laV a) (laV b)).run Tryz.prog w = .ok (.bool (!M.laxEq a b)) w := by
  rcases h0 : (a.client == b.client) with _ | _
  · have e : M.laxEq a b = false := by simp [M.laxEq, h0]
    rw [e]
    simp [go_sem, h0]
  · rcases h1 : (a.seq == b.seq) with _ | _
    · have e : M.laxEq a b = false := by simp [M.laxEq, h1]
      rw [e]
      simp [go_sem, h0, h1]
    · rcases h2 : (a.code == b.code) with _ | _
      · have e : M.laxEq a b = false := by simp [M.laxEq, h2]
        rw [e]
        simp [go_sem, h0, h1, h2]
      · by_cases h3 : a.page = b.page
        · have e : M.laxEq a b = true := by simp [M.laxEq, h3, h0, h1, h2]
          rw [e]
          simp [go_sem, h0, h1, h2, h3, Tryz.underlying85, Tryz.underlying83, Tryz.underlying2, Tryz.underlying9]
        · have e : M.laxEq a b = false := by simp [M.laxEq, h3]
          have h3' := txt_other h3
          rw [e]
          simp [go_sem, h0, h1, h2, h3', Tryz.underlying85, Tryz.underlying83, Tryz.underlying2, Tryz.underlying9]
theorem laxneq_read {A : Act} {o : Oper} {x y : Operand} {a b : M.La} (ho : o.op = .binOp .neq 85 x y 85) (hx : A.eval x = laV a) (hy : A.eval y = laV b) (w : World) :
    (execOp A.eval o).run Tryz.prog w = .ok (.value (.bool (!M.laxEq a b))) w := by
  unfold execOp
  rw [ho]
  have hg := fun (op : BinOp) (x y : Operand) (xs ys : Array Value) (w : World) => run_eqGuard_agg (P := Tryz.prog) w op 85 x y xs ys (by kernel_rfl)
  have he := fun w => lax_neq a b w
  simp only [laV] at he hx hy
  simp only [hx, hy, Sem.run_bind, hg, he, Result.andThen_ok, Sem.run_pure]
end Go.Proofs.YtdoeiphnalbinaaGreat
namespace Go.Proofs.YtdoeiphnalbinaaGreat
open Go.RowKit
set_option maxRecDepth 20000
namespace M
def cpxEq (a b : Cp) : Bool := ((a.ed.ma == b.ed.ma) && ((a.ed.mi == b.ed.mi) && ((a.ed.pa == b.ed.pa) && (decide (a.page = b.page) && (a.hidden == b.hidden)))))
theorem cpxEq_iff (a b : Cp) : cpxEq a b = true ↔ a = b := by
  unfold cpxEq
  constructor
  · intro h
    simp only [Bool.and_eq_true, beq_iff_eq, decide_eq_true_eq] at h
    obtain ⟨h0, h1, h2, h3, h4⟩ := h
    obtain ⟨⟨x1, x2, x3⟩, x4, x5⟩ := a; obtain ⟨⟨y1, y2, y3⟩, y4, y5⟩ := b; simp_all
  · rintro rfl
    simp
end M
set_option maxHeartbeats 8000000 in
theorem cpx_neq (a b : M.Cp) (w : World) : (binOp .neq 142 (cpV a) (cpV b)).run Tryz.prog w = .ok (.bool (!M.cpxEq a b)) w := by
  rcases h0 : (a.ed.ma == b.ed.ma) with _ | _
  · have e : M.cpxEq a b = false := by simp [M.cpxEq, h0]
    rw [e]
    simp [go_sem, h0]
  · rcases h1 : (a.ed.mi == b.ed.mi) with _ | _
    · have e : M.cpxEq a b = false := by simp [M.cpxEq, h1]
      rw [e]
      simp [go_sem, h0, h1]
    · rcases h2 : (a.ed.pa == b.ed.pa) with _ | _
      · have e : M.cpxEq a b = false := by simp [M.cpxEq, h2]
        rw [e]
        simp [go_sem, h0, h1, h2]
      · by_cases h3 : a.page = b.page
        · have e : M.cpxEq a b = (a.hidden == b.hidden) := by simp [M.cpxEq, h0, h1, h2, h3]
          rw [e]
          rcases h4 : a.hidden with _ | _ <;> rcases k4 : b.hidden with _ | _ <;> simp [go_sem, h0, h1, h2, h3, h4, k4, Tryz.underlying142, Tryz.underlying47, Tryz.underlying2, Tryz.underlying9, Tryz.underlying4]
        · have e : M.cpxEq a b = false := by simp [M.cpxEq, h3]
          have h3' := txt_other h3
          rw [e]
          simp [go_sem, h0, h1, h2, h3']
theorem cpxneq_read {A : Act} {o : Oper} {x y : Operand} {a b : M.Cp} (ho : o.op = .binOp .neq 142 x y 142) (hx : A.eval x = cpV a) (hy : A.eval y = cpV b) (w : World) :
    (execOp A.eval o).run Tryz.prog w = .ok (.value (.bool (!M.cpxEq a b))) w := by
  unfold execOp
  rw [ho]
  have hg := fun (op : BinOp) (x y : Operand) (xs ys : Array Value) (w : World) => run_eqGuard_agg (P := Tryz.prog) w op 142 x y xs ys (by kernel_rfl)
  have he := fun w => cpx_neq a b w
  simp only [cpV] at he hx hy
  simp only [hx, hy, Sem.run_bind, hg, he, Result.andThen_ok, Sem.run_pure]
end Go.Proofs.YtdoeiphnalbinaaGreat
namespace Go.Proofs.YtdoeiphnalbinaaGreat
open Go.RowKit
set_option maxRecDepth 20000

set_option maxHeartbeats 4000000 in
theorem eqsEn_any (A B : Option Addr) (l m : List M.En) (ca cb : Nat) (w : World) (hl : Ens w A l) (hm : Ens w B m) (hlen : l.length ≤ 1048576) :
    Calls Tryz.prog 95 #[.slice A l.length ca, .slice B m.length cb] w fun e w' => e = .returned (.bool (decide (l = m))) ∧ Below w.heap.size w w' := by
  by_cases hl1 : l.length = m.length
  · have e1 : ((l.length : Int) != (m.length : Int)) = false := by simp [hl1]
    have HL1 := Lib.hid hl1
    clear hl1
    go_enter Tryz.func95, Tryz.ntmps95
    go_wp2
    go_loopw [13] (fun i wr => ∃ j : Nat, i = .int .i64 j ∧ j ≤ l.length ∧ l.take j = m.take j ∧ Below w.heap.size w wr) (fun i _ => l.length - (intOf i).toNat)
    case atStart => exact ⟨0, rfl, Nat.zero_le _, by simp, Below.refl _ _⟩
    case round =>
      obtain ⟨j, rfl, hj, hup, hbl⟩ := hrel
      have HU := Lib.hid hup
      clear hup
      by_cases hlt : j < l.length
      · have hlt2 : j < m.length := by have := HL1.out; omega
        obtain ⟨g, o, rfl, zb, c0, c1, c2, c3, c4, c5, c6, c7, c8, c9⟩ := Ens_at (hl.below hbl) hlt
        obtain ⟨g', o', rfl, zb', d0, d1, d2, d3, d4, d5, d6, d7, d8, d9⟩ := Ens_at (hm.below hbl) hlt2
        have w1 : IntKind.i64.wrap (j : Int) = j := by simp [IntKind.wrap, IntKind.bits, IntKind.signed]; omega
        have HLL := Lib.hid hl
        have HMM := Lib.hid hm
        clear hl hm
        go_wp2_with fail
        refine wp_region_seq (fun w' => Below wr.heap.size wr w') [(0, true), (1, true), (2, true), (3, true), (4, true), (5, true), (6, true), (7, true), (8, true)] (by kernel_rfl) (by kernel_rfl) (fun _ _ _ _ _ h => h) (by kernel_rfl) (by decide) (Below.refl _ _).drew ?_
        intro hHeld
        repeat (first
          | (refine seq_read (by simp only [List.getElem?_toArray, List.getElem?_cons_succ, List.getElem?_cons_zero]; first | done | rfl) (by rfl) (fun w _ => enxneq_read rfl rfl rfl w) ?_; (try simp only [Act.put, List.setIfInBounds_toArray, List.set_cons_zero, List.set_cons_succ]))
          | (refine seq_skip (by simp only [List.getElem?_toArray, List.getElem?_cons_succ, List.getElem?_cons_zero]; first | done | rfl) (by rfl) ?_; (try simp only [Act.put, List.setIfInBounds_toArray, List.set_cons_zero, List.set_cons_succ]))
          | (refine seq_reads (by simp only [List.getElem?_toArray, List.getElem?_cons_succ, List.getElem?_cons_zero]; first | done | rfl) (by rfl) ?_; apply Exists.intro; apply And.intro; (focus (intro w hSw; obtain ⟨hcS, -⟩ := bcell hSw; go_simp; (try with_reducible rfl); done)); (try simp only [Act.put, List.setIfInBounds_toArray, List.set_cons_zero, List.set_cons_succ]))
          | (refine seq_pass (by simp only [List.getElem?_toArray, List.getElem?_cons_succ, List.getElem?_cons_zero]; first | done | rfl) (by rfl) hHeld ?_; clear hHeld; intro hHeld; (try simp only [Act.put, List.setIfInBounds_toArray, List.set_cons_zero, List.set_cons_succ])))
        refine seq_end ?_
        rcases hq : M.enxEq l[j] m[j] with _ | _
        · have HE : Hid (decide (l = m) = false) := Lib.hid (decide_eq_false (fun e => by
            have e3 : l[j] = m[j] := by simp [e]
            rw [(M.enxEq_iff _ _).2 e3] at hq; cases hq))
          go_wp2
          go_ret
          exact ⟨ret_bool HE.out.symm, next hbl hHeld⟩
        · have HN := Lib.hid (show l.take (j + 1) = m.take (j + 1) by
            rw [List.take_succ_eq_append_getElem hlt, List.take_succ_eq_append_getElem hlt2, HU.out, (M.enxEq_iff _ _).1 hq])
          go_wp2
          go_roundw
          case rel => exact ⟨j + 1, by go_num, by omega, HN.out, next hbl hHeld⟩
          case measure => simp [intOf]; omega
      · have HE : Hid (decide (l = m) = true) := Lib.hid (decide_eq_true (by
          have h1 := HU.out
          have h2 := HL1.out
          rwa [List.take_of_length_le (by omega), List.take_of_length_le (by omega)] at h1))
        go_wp2
        go_ret
        exact ⟨ret_bool HE.out.symm, hbl⟩
  · have e1 : ((l.length : Int) != (m.length : Int)) = true := by simp; omega
    have HE : Hid (decide (l = m) = false) := Lib.hid (decide_eq_false (fun e => hl1 (by rw [e])))
    clear hl1
    go_enter Tryz.func95, Tryz.ntmps95
    go_wp2
    go_ret
    exact ⟨ret_bool HE.out.symm, Below.refl _ _⟩
set_option maxHeartbeats 4000000 in
theorem eqsLa_any (A B : Option Addr) (l m : List M.La) (ca cb : Nat) (w : World) (hl : Las w A l) (hm : Las w B m) (hlen : l.length ≤ 1048576) :
    Calls Tryz.prog 117 #[.slice A l.length ca, .slice B m.length cb] w fun e w' => e = .returned (.bool (decide (l = m))) ∧ Below w.heap.size w w' := by
  by_cases hl1 : l.length = m.length
  · have e1 : ((l.length : Int) != (m.length : Int)) = false := by simp [hl1]
    have HL1 := Lib.hid hl1
    clear hl1
    go_enter Tryz.func117, Tryz.ntmps117
    go_wp2
    go_loopw [13] (fun i wr => ∃ j : Nat, i = .int .i64 j ∧ j ≤ l.length ∧ l.take j = m.take j ∧ Below w.heap.size w wr) (fun i _ => l.length - (intOf i).toNat)
    case atStart => exact ⟨0, rfl, Nat.zero_le _, by simp, Below.refl _ _⟩
    case round =>
      obtain ⟨j, rfl, hj, hup, hbl⟩ := hrel
      have HU := Lib.hid hup
      clear hup
      by_cases hlt : j < l.length
      · have hlt2 : j < m.length := by have := HL1.out; omega
        obtain ⟨g, o, rfl, zb, c0, c1, c2, c3⟩ := Las_at (hl.below hbl) hlt
        obtain ⟨g', o', rfl, zb', d0, d1, d2, d3⟩ := Las_at (hm.below hbl) hlt2
        have w1 : IntKind.i64.wrap (j : Int) = j := by simp [IntKind.wrap, IntKind.bits, IntKind.signed]; omega
        have HLL := Lib.hid hl
        have HMM := Lib.hid hm
        clear hl hm
        go_wp2_with fail
        refine wp_region_seq (fun w' => Below wr.heap.size wr w') [(0, true), (1, true), (2, true), (3, true), (4, true), (5, true), (6, true), (7, true), (8, true)] (by kernel_rfl) (by kernel_rfl) (fun _ _ _ _ _ h => h) (by kernel_rfl) (by decide) (Below.refl _ _).drew ?_
        intro hHeld
        repeat (first
          | (refine seq_read (by simp only [List.getElem?_toArray, List.getElem?_cons_succ, List.getElem?_cons_zero]; first | done | rfl) (by rfl) (fun w _ => laxneq_read rfl rfl rfl w) ?_; (try simp only [Act.put, List.setIfInBounds_toArray, List.set_cons_zero, List.set_cons_succ]))
          | (refine seq_skip (by simp only [List.getElem?_toArray, List.getElem?_cons_succ, List.getElem?_cons_zero]; first | done | rfl) (by rfl) ?_; (try simp only [Act.put, List.setIfInBounds_toArray, List.set_cons_zero, List.set_cons_succ]))
          | (refine seq_reads (by simp only [List.getElem?_toArray, List.getElem?_cons_succ, List.getElem?_cons_zero]; first | done | rfl) (by rfl) ?_; apply Exists.intro; apply And.intro; (focus (intro w hSw; obtain ⟨hcS, -⟩ := bcell hSw; go_simp; (try with_reducible rfl); done)); (try simp only [Act.put, List.setIfInBounds_toArray, List.set_cons_zero, List.set_cons_succ]))
          | (refine seq_pass (by simp only [List.getElem?_toArray, List.getElem?_cons_succ, List.getElem?_cons_zero]; first | done | rfl) (by rfl) hHeld ?_; clear hHeld; intro hHeld; (try simp only [Act.put, List.setIfInBounds_toArray, List.set_cons_zero, List.set_cons_succ])))
        refine seq_end ?_
        rcases hq : M.laxEq l[j] m[j] with _ | _
        · have HE : Hid (decide (l = m) = false) := Lib.hid (decide_eq_false (fun e => by
            have e3 : l[j] = m[j] := by simp [e]
            rw [(M.laxEq_iff _ _).2 e3] at hq; cases hq))
          go_wp2
          go_ret
          exact ⟨ret_bool HE.out.symm, next hbl hHeld⟩
        · have HN := Lib.hid (show l.take (j + 1) = m.take (j + 1) by
            rw [List.take_succ_eq_append_getElem hlt, List.take_succ_eq_append_getElem hlt2, HU.out, (M.laxEq_iff _ _).1 hq])
          go_wp2
          go_roundw
          case rel => exact ⟨j + 1, by go_num, by omega, HN.out, next hbl hHeld⟩
          case measure => simp [intOf]; omega
      · have HE : Hid (decide (l = m) = true) := Lib.hid (decide_eq_true (by
          have h1 := HU.out
          have h2 := HL1.out
          rwa [List.take_of_length_le (by omega), List.take_of_length_le (by omega)] at h1))
        go_wp2
        go_ret
        exact ⟨ret_bool HE.out.symm, hbl⟩
  · have e1 : ((l.length : Int) != (m.length : Int)) = true := by simp; omega
    have HE : Hid (decide (l = m) = false) := Lib.hid (decide_eq_false (fun e => hl1 (by rw [e])))
    clear hl1
    go_enter Tryz.func117, Tryz.ntmps117
    go_wp2
    go_ret
    exact ⟨ret_bool HE.out.symm, Below.refl _ _⟩
set_option maxHeartbeats 4000000 in
theorem eqsCp_any (A B : Option Addr) (l m : List M.Cp) (ca cb : Nat) (w : World) (hl : Cps w A l) (hm : Cps w B m) (hlen : l.length ≤ 1048576) :
    Calls Tryz.prog 127 #[.slice A l.length ca, .slice B m.length cb] w fun e w' => e = .returned (.bool (decide (l = m))) ∧ Below w.heap.size w w' := by
  by_cases hl1 : l.length = m.length
  · have e1 : ((l.length : Int) != (m.length : Int)) = false := by simp [hl1]
    have HL1 := Lib.hid hl1
    clear hl1
    go_enter Tryz.func127, Tryz.ntmps127
    go_wp2
    go_loopw [13] (fun i wr => ∃ j : Nat, i = .int .i64 j ∧ j ≤ l.length ∧ l.take j = m.take j ∧ Below w.heap.size w wr) (fun i _ => l.length - (intOf i).toNat)
    case atStart => exact ⟨0, rfl, Nat.zero_le _, by simp, Below.refl _ _⟩
    case round =>
      obtain ⟨j, rfl, hj, hup, hbl⟩ := hrel
      have HU := Lib.hid hup
      clear hup
      by_cases hlt : j < l.length
      · have hlt2 : j < m.length := by have := HL1.out; omega
        obtain ⟨g, o, rfl, zb, c0, c1, c2, c3, c4⟩ := Cps_at (hl.below hbl) hlt
        obtain ⟨g', o', rfl, zb', d0, d1, d2, d3, d4⟩ := Cps_at (hm.below hbl) hlt2
        have w1 : IntKind.i64.wrap (j : Int) = j := by simp [IntKind.wrap, IntKind.bits, IntKind.signed]; omega
        have HLL := Lib.hid hl
        have HMM := Lib.hid hm
        clear hl hm
        go_wp2_with fail
        refine wp_region_seq (fun w' => Below wr.heap.size wr w') [(0, true), (1, true), (2, true), (3, true), (4, true), (5, true), (6, true), (7, true), (8, true)] (by kernel_rfl) (by kernel_rfl) (fun _ _ _ _ _ h => h) (by kernel_rfl) (by decide) (Below.refl _ _).drew ?_
        intro hHeld
        repeat (first
          | (refine seq_read (by simp only [List.getElem?_toArray, List.getElem?_cons_succ, List.getElem?_cons_zero]; first | done | rfl) (by rfl) (fun w _ => cpxneq_read rfl rfl rfl w) ?_; (try simp only [Act.put, List.setIfInBounds_toArray, List.set_cons_zero, List.set_cons_succ]))
          | (refine seq_skip (by simp only [List.getElem?_toArray, List.getElem?_cons_succ, List.getElem?_cons_zero]; first | done | rfl) (by rfl) ?_; (try simp only [Act.put, List.setIfInBounds_toArray, List.set_cons_zero, List.set_cons_succ]))
          | (refine seq_reads (by simp only [List.getElem?_toArray, List.getElem?_cons_succ, List.getElem?_cons_zero]; first | done | rfl) (by rfl) ?_; apply Exists.intro; apply And.intro; (focus (intro w hSw; obtain ⟨hcS, -⟩ := bcell hSw; go_simp; (try with_reducible rfl); done)); (try simp only [Act.put, List.setIfInBounds_toArray, List.set_cons_zero, List.set_cons_succ]))
          | (refine seq_pass (by simp only [List.getElem?_toArray, List.getElem?_cons_succ, List.getElem?_cons_zero]; first | done | rfl) (by rfl) hHeld ?_; clear hHeld; intro hHeld; (try simp only [Act.put, List.setIfInBounds_toArray, List.set_cons_zero, List.set_cons_succ])))
        refine seq_end ?_
        rcases hq : M.cpxEq l[j] m[j] with _ | _
        · have HE : Hid (decide (l = m) = false) := Lib.hid (decide_eq_false (fun e => by
            have e3 : l[j] = m[j] := by simp [e]
            rw [(M.cpxEq_iff _ _).2 e3] at hq; cases hq))
          go_wp2
          go_ret
          exact ⟨ret_bool HE.out.symm, next hbl hHeld⟩
        · have HN := Lib.hid (show l.take (j + 1) = m.take (j + 1) by
            rw [List.take_succ_eq_append_getElem hlt, List.take_succ_eq_append_getElem hlt2, HU.out, (M.cpxEq_iff _ _).1 hq])
          go_wp2
          go_roundw
          case rel => exact ⟨j + 1, by go_num, by omega, HN.out, next hbl hHeld⟩
          case measure => simp [intOf]; omega
      · have HE : Hid (decide (l = m) = true) := Lib.hid (decide_eq_true (by
          have h1 := HU.out
          have h2 := HL1.out
          rwa [List.take_of_length_le (by omega), List.take_of_length_le (by omega)] at h1))
        go_wp2
        go_ret
        exact ⟨ret_bool HE.out.symm, hbl⟩
  · have e1 : ((l.length : Int) != (m.length : Int)) = true := by simp; omega
    have HE : Hid (decide (l = m) = false) := Lib.hid (decide_eq_false (fun e => hl1 (by rw [e])))
    clear hl1
    go_enter Tryz.func127, Tryz.ntmps127
    go_wp2
    go_ret
    exact ⟨ret_bool HE.out.symm, Below.refl _ _⟩
end Go.Proofs.YtdoeiphnalbinaaGreat
