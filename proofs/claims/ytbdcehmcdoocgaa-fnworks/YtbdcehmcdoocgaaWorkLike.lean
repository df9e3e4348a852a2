/- Proved: the laws' own test tells a work like itself; what a law knows of its boxes and lists stays behind calls; nothing that was there is written. -/
import Derived.Test.YtbdcehmcdoocgaaDrawMem
import Derived.Test.YtbdcehmcdoocgaaEqlCp
namespace Go.Proofs.Ytbdcehmcdoocgaa
open Go.RowKit
set_option maxRecDepth 20000

abbrev cA (c : M.Cp) : Array Value := #[.int .i64 c.ed.ma, .int .i64 c.ed.mi, .int .i64 c.ed.pa, .string c.page, .bool c.hidden]
/-- Lists of copies that can be read: where, how much room, which. -/
def Rws (x : World) (rs : List (Option Addr × Nat × List M.Cp)) : Prop := ∀ r ∈ rs, Cps x r.1 r.2.2 ∧ (r.1 = none → r.2.1 = 0) ∧ r.2.2.length ≤ r.2.1
/-- A law's memory: nothing that was there in w has changed; the boxes bx hold their cells; the lists rs can be read. -/
def Lw (w : World) (bx : List (Nat × Array Value)) (rs : List (Option Addr × Nat × List M.Cp)) (x : World) : Prop := Mem w bx [] x ∧ Rws x rs
section
variable {w x y : World} {bx : List (Nat × Array Value)} {rs : List (Option Addr × Nat × List M.Cp)}
theorem Lw.start (w : World) : Lw w [] [] w := ⟨Mem.start w, fun _ h => by cases h⟩
theorem Lw.below (h : Lw w bx rs x) (hb : Below x.heap.size x y) : Lw w bx rs y := ⟨h.1.below hb, fun r hr => ⟨(h.2 r hr).1.below hb, (h.2 r hr).2⟩⟩
theorem Lw.alloc (h : Lw w bx rs x) (o : Obj) : Lw w bx rs (x.alloc o) := h.below ((Below.refl _ _).alloc (Nat.le_refl _) o)
theorem Lw.new (h : Lw w bx rs x) (C : Array Value) (t : TypeId) : Lw w ((x.heap.size, C) :: bx) rs (x.alloc (.cells C t)) := ⟨(h.alloc (.cells C t)).1.add (holds_new x C t), (h.alloc (.cells C t)).2⟩
theorem Lw.row (h : Lw w bx rs x) {B n c : Nat} {A : Option Addr} {l : List M.Cp} (ho : CpOwn B x (.slice A n c) l) : Lw w bx ((A, c, l) :: rs) x :=
  ⟨h.1, fun r hr => by
    rcases List.mem_cons.1 hr with rfl | hr
    · exact ⟨ho.cps.1, ho.nilc, own_cap ho⟩
    · exact h.2 r hr⟩
theorem Lw.cells (h : Lw w bx rs x) (R : Nat) (C : Array Value) (hp : (R, C) ∈ bx) : Holds x R C := h.1.get R C hp
theorem Lw.list (h : Lw w bx rs x) (A : Option Addr) (c : Nat) (l : List M.Cp) (hp : (A, c, l) ∈ rs) : Cps x A l ∧ (A = none → c = 0) ∧ l.length ≤ c := h.2 (A, c, l) hp
theorem Lw.sub {bx' : List (Nat × Array Value)} {rs' : List (Option Addr × Nat × List M.Cp)} (h : Lw w bx rs x) (hb : ∀ p ∈ bx', p ∈ bx) (hr : ∀ r ∈ rs', r ∈ rs) : Lw w bx' rs' x := ⟨h.1.sub hb, fun r hr' => h.2 r (hr r hr')⟩
end

set_option maxHeartbeats 2000000 in
theorem likeWork_same (wk : M.Wk) (A B : Option Addr) (ca cb : Nat) (w : World) (ha : Cps w A wk.copies) (hb : Cps w B wk.copies) (hlen : wk.copies.length ≤ 1048576) :
    Calls Try.prog 13 #[wkV wk.name wk.owner A wk.copies.length ca, wkV wk.name wk.owner B wk.copies.length cb] w fun r w' => r = .returned (.bool true) ∧ Below w.heap.size w w' := by
  have h1 : (wk.name.toList != wk.name.toList) = false := by simp
  have h2 : (wk.owner != wk.owner) = false := by simp
  have h3 : ((wk.copies.length : Int) != (wk.copies.length : Int)) = false := by simp
  have hm := ((Mem.start w).new (wkL wk.name wk.owner A wk.copies.length ca) 26).new (wkL wk.name wk.owner B wk.copies.length cb) 26
  have HA := Lib.hid ((ha.alloc (.cells (wkL wk.name wk.owner A wk.copies.length ca) 26)).alloc (.cells (wkL wk.name wk.owner B wk.copies.length cb) 26))
  have HB := Lib.hid ((hb.alloc (.cells (wkL wk.name wk.owner A wk.copies.length ca) 26)).alloc (.cells (wkL wk.name wk.owner B wk.copies.length cb) 26))
  simp only [World.size_alloc] at hm
  have HM := Lib.hid hm
  clear ha hb hm
  go_enter Try.func13, Try.ntmps13
  go_wp2
  go_loopw [5] (fun i wr => ∃ j : Nat, i = .int .i64 j ∧ j ≤ wk.copies.length ∧ Mem w [(w.heap.size + 1, wkL wk.name wk.owner B wk.copies.length cb), (w.heap.size, wkL wk.name wk.owner A wk.copies.length ca)] [w.heap.size + 1, w.heap.size] wr ∧ Cps wr A wk.copies ∧ Cps wr B wk.copies) (fun i _ => wk.copies.length - (intOf i).toNat)
  case atStart => exact ⟨0, rfl, Nat.zero_le _, HM.out, HA.out, HB.out⟩
  case round =>
    clear HM HA HB
    obtain ⟨j, rfl, hj, hm, ha, hb⟩ := hrel
    have hH := hm.get w.heap.size (wkL wk.name wk.owner A wk.copies.length ca) (by simp)
    have hK := hm.get (w.heap.size + 1) (wkL wk.name wk.owner B wk.copies.length cb) (by simp)
    have l0 := hH.1
    have l1 := hK.1
    obtain ⟨p0, p1, p2⟩ := hH.three
    obtain ⟨q0, q1, q2⟩ := hK.three
    have HM := Lib.hid hm
    have HA := Lib.hid ha
    have HB := Lib.hid hb
    clear hm ha hb hH hK
    by_cases hlt : j < wk.copies.length
    · obtain ⟨b, o, hA, lb, c0, c1, c2, c3, c4⟩ := Cps_at HA.out hlt
      obtain ⟨b', o', hB, lb', d0, d1, d2, d3, d4⟩ := Cps_at HB.out hlt
      subst hA hB
      go_wp2_with fail
      refine wp_region_seq (fun w' => Below wr.heap.size wr w') [(0, true), (1, true), (2, true), (3, true), (4, true), (5, true), (6, true), (7, true), (8, true), (9, true), (10, true)] (by kernel_rfl) (by kernel_rfl) (fun _ _ _ _ _ h => h) (by kernel_rfl) (by decide) (Below.refl _ _).drew ?_
      intro hHeld
      repeat (first
        | (refine seq_read (by simp only [List.getElem?_toArray, List.getElem?_cons_succ, List.getElem?_cons_zero]; first | done | rfl) (by rfl) (fun w _ => cpneq_read rfl rfl rfl w) ?_; (try simp only [Act.put, List.setIfInBounds_toArray, List.set_cons_zero, List.set_cons_succ]))
        | (refine seq_skip (by simp only [List.getElem?_toArray, List.getElem?_cons_succ, List.getElem?_cons_zero]; first | done | rfl) (by rfl) ?_; (try simp only [Act.put, List.setIfInBounds_toArray, List.set_cons_zero, List.set_cons_succ]))
        | (refine seq_reads (by simp only [List.getElem?_toArray, List.getElem?_cons_succ, List.getElem?_cons_zero]; first | done | rfl) (by rfl) ?_; apply Exists.intro; apply And.intro; (focus (intro w hSw; obtain ⟨hcS, -⟩ := bcell hSw; go_simp; (try with_reducible rfl); done)); (try simp only [Act.put, List.setIfInBounds_toArray, List.set_cons_zero, List.set_cons_succ]))
        | (refine seq_pass (by simp only [List.getElem?_toArray, List.getElem?_cons_succ, List.getElem?_cons_zero]; first | done | rfl) (by rfl) hHeld ?_; clear hHeld; intro hHeld; (try simp only [Act.put, List.setIfInBounds_toArray, List.set_cons_zero, List.set_cons_succ])))
      refine seq_end ?_
      go_wp2
      go_roundw
      case rel => exact ⟨j + 1, by go_num, by omega, HM.out.below hHeld, HA.out.below hHeld, HB.out.below hHeld⟩
      case measure => simp [intOf]; omega
    · have hj' : j = wk.copies.length := by omega
      subst hj'
      go_wp2
      go_ret
      exact ⟨rfl, HM.out.1⟩
end Go.Proofs.Ytbdcehmcdoocgaa
