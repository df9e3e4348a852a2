/- Proved, in parts: Proved: a statement that leaves its order open is gone through in one order, where its last operation may write what the others read; no program is named here. Condition: what is taken first reads the same in every memory that is as told, and the last one waits for it. Proved: the program's Does answers a plain Lean function, its works in new memory; nothing that was there is written. Condition: texts and lists of at most a million. Proved: the model's l5Find tells where a name stands in a list of works, and its l5Copy answers the same works in new memory; they write nothing that was there. Condition: texts and lists of at most a million. -/
import Derived.Test.YtdcdalbbjfjadaaGreatDoorPart18
import Derived.Test.YtdcdalbbjfjadaaGreatDoorPart25
import Derived.Test.YtdcdalbbjfjadaaGreatDoorPart08
import Derived.Test.YtdcdalbbjfjadaaGreatDoorPart07
import Derived.Test.YtdcdalbbjfjadaaGreatDoorPart13
namespace Go.Proofs.YtdcdalbbjfjadaaGreatDoor
open Go

/-- Does number n wait for number i? -/
def waits (ops : Array Oper) (n i : Nat) : Bool := match ops[n]? with
  | some o => o.after.any fun e => Region.binds .any e && e.on == i
  | none => false

/-- Whatever order is picked from here on; S holds behind every operation as long as number n has not come up. -/
def wpAnyF (P : Program) (ops : Array Oper) (Q : Exit → Act → World → Prop) (n : Nat) (S : World → Prop) : Nat → Array Bool → Act → World → Prop
  | 0, listed, a, w => Region.ready .any ops listed = [] ∧ Q .normal a w
  | fuel + 1, listed, a, w =>
    (Region.ready .any ops listed = [] → Q .normal a w) ∧
    ∀ i ∈ Region.ready .any ops listed, wpOp P ops Q i (fun a' w' => ((listed.setIfInBounds i true).getD n true = false → S w') ∧ wpAnyF P ops Q n S fuel (listed.setIfInBounds i true) a' w') a w

theorem wpAny_of_F {P : Program} {ops : Array Oper} {Q : Exit → Act → World → Prop} {n : Nat} {S : World → Prop} : ∀ (fuel : Nat) (listed : Array Bool) (a : Act) (w : World), wpAnyF P ops Q n S fuel listed a w → wpAny P .any ops Q fuel listed a w
  | 0, _, _, _, h => h
  | fuel + 1, _, _, _, h => ⟨h.1, fun i hi => wpOp_mono (fun a' w' h' => wpAny_of_F fuel _ a' w' h'.2) (h.2 i hi)⟩

theorem wpAnyF_first {P : Program} {ops : Array Oper} {Q : Exit → Act → World → Prop} {n : Nat} {S : World → Prop} {i : Nat} {oi : Oper} {v : Value} (hi : ops[i]? = some oi) (hin : i ≠ n) (hsel : ∀ (j : Nat) (o : Oper) cs b, ops[j]? = some o → o.op ≠ .select cs b)
    (hQ : ∀ c a w, Q (.panic c) (a.put oi.dst v) w → Q (.panic c) a w) :
    ∀ (fuel : Nat) (listed : Array Bool) (a : Act) (w : World),
      (∀ j oj, ops[j]? = some oj → j ≠ i → listed.getD j true = false → (∀ e ∈ oj.after, Region.binds .any e = true → e.on ≠ i) → oi.apart ops oj = true) →
      i ∈ Region.ready .any ops listed → YieldsIf P ops (fun x => waits ops n i = true → S x) oi v a → (waits ops n i = true → listed.getD n true = false) → (listed.getD n true = false → S w) →
      wpAnyF P ops Q n S fuel (listed.setIfInBounds i true) (a.put oi.dst v) w → wpAnyF P ops Q n S (fuel + 1) listed a w := by
  intro fuel
  induction fuel with
  | zero =>
    intro listed a w _ hr hy hn hS H
    refine ⟨fun h => (by rw [h] at hr; cases hr), fun j hj => ?_⟩
    by_cases hji : j = i
    · subst hji
      exact hy.wpOp hi (fun h => hS (hn h)) ⟨fun h => hS (by rwa [getD_set_ne true hin] at h), H⟩
    · have := ready_mono hj hji
      rw [H.1] at this
      cases this
  | succ fuel ih =>
    intro listed a w hfree hr hy hn hS H
    refine ⟨fun h => (by rw [h] at hr; cases hr), fun j hj => ?_⟩
    by_cases hji : j = i
    · subst hji
      exact hy.wpOp hi (fun h => hS (hn h)) ⟨fun h => hS (by rwa [getD_set_ne true hin] at h), H⟩
    · have h1 := H.2 j (ready_mono hj hji)
      obtain ⟨hjun, oj, hoj, hall⟩ := mem_ready.1 hj
      have hnot : ∀ e ∈ oj.after, Region.binds .any e = true → e.on ≠ i := fun e he hb heq => by
        have h1 := hall e he hb
        have h0 := (mem_ready.1 hr).1
        rw [heq] at h1
        rcases Nat.lt_or_ge i listed.size with h' | h'
        · simp [h'] at h0 h1; rw [h0] at h1; cases h1
        · simp [Array.getElem?_eq_none h'] at h1
      have hjn : waits ops n i = true → j ≠ n := fun hw e => by
        subst e
        unfold waits at hw
        rw [hoj] at hw
        simp only [Array.any_eq_true] at hw
        obtain ⟨k, hk, hb⟩ := hw
        simp only [Bool.and_eq_true, beq_iff_eq] at hb
        exact hnot _ (Array.getElem_mem hk) hb.1 hb.2
      have h2 := wpOp_putIf hoj (hfree j oj hoj hji hjun hnot) (fun cs b => hsel i oi cs b hi) (fun cs b => hsel j oj cs b hoj) hQ hy h1
      have hfree' : ∀ k ok, ops[k]? = some ok → k ≠ i → (listed.setIfInBounds j true).getD k true = false →
          (∀ e ∈ ok.after, Region.binds .any e = true → e.on ≠ i) → oi.apart ops ok = true := fun k ok hk hki hun hno => by
        refine hfree k ok hk hki ?_ hno
        by_cases hjk : j = k
        · subst hjk; exact hjun
        · rw [getD_set_ne true hjk] at hun; exact hun
      refine wpOp_mono (fun a' w' h3 => ?_) h2
      have hS' : (listed.setIfInBounds j true).getD n true = false → S w' := fun h => h3.2.1 (by
        rw [Array.setIfInBounds_comm _ _ (Ne.symm hji), getD_set_ne true hin]; exact h)
      refine ⟨hS', ih (listed.setIfInBounds j true) a' w' hfree' (ready_mono hr (Ne.symm hji)) h3.1 (fun hw => ?_) hS' ?_⟩
      · rw [getD_set_ne true (hjn hw)]; exact hn hw
      · rw [Array.setIfInBounds_comm _ _ hji]
        exact h3.2.2

theorem anyF_weaken {P : Program} {ops : Array Oper} {Q : Exit → Act → World → Prop} {n : Nat} {S S' : World → Prop} (h : ∀ w, S' w → S w) :
    ∀ (fuel : Nat) (listed : Array Bool) (a : Act) (w : World), wpAnyF P ops Q n S' fuel listed a w → wpAnyF P ops Q n S fuel listed a w
  | 0, _, _, _, k => k
  | fuel + 1, _, _, _, k => ⟨k.1, fun i hi => wpOp_mono (fun a' w' h' => ⟨fun hl => h w' (h'.1 hl), anyF_weaken h fuel _ a' w' h'.2⟩) (k.2 i hi)⟩

def okSeqF (ops : Array Oper) (n : Nat) : Array Bool → List (Nat × Bool) → Bool
  | listed, [] => (Region.ready .any ops listed).isEmpty
  | listed, (i, true) :: σ => Region.free .any ops listed i && (Region.ready .any ops listed).contains i && (i != n && !(listed.getD n true)) && okSeqF ops n (listed.setIfInBounds i true) σ
  | listed, (i, false) :: σ => (Region.ready .any ops listed == [i]) && !(listed.getD n true) && okSeqF ops n (listed.setIfInBounds i true) σ

def SeqF (P : Program) (ops : Array Oper) (Q : Exit → Act → World → Prop) (n : Nat) : List (Nat × Bool) → (World → Prop) → Act → World → Prop
  | [], _, a, w => Q .normal a w
  | (i, true) :: σ, S, a, w => ∃ o v, ops[i]? = some o ∧ YieldsIf P ops (fun x => waits ops n i = true → S x) o v a ∧ SeqF P ops Q n σ S (a.put o.dst v) w
  | (i, false) :: σ, S, a, w => ∃ o, ops[i]? = some o ∧ ∀ K : Act → World → Prop, Shut (∀ (S' : World → Prop) a' w', (∀ x, S' x → S x) → (i ≠ n → S' w') → ((i ≠ n → S' w') → SeqF P ops Q n σ S' a' w') → K a' w') →
      if Region.wanted o (yielded ops a.tmps) = true then Oper.wp P o a w K Q else K (a.put o.dst undef) w

theorem seqF_any {P : Program} {ops : Array Oper} {Q : Exit → Act → World → Prop} {n : Nat} (hns : Region.noSelect ops = true)
    (hQ : ∀ c a d v w, Q (.panic c) (Act.put a (some d) v) w → Q (.panic c) a w) :
    ∀ (σ : List (Nat × Bool)) (S : World → Prop) (listed : Array Bool) (a : Act) (w : World) (fuel : Nat), okSeqF ops n listed σ = true → σ.length ≤ fuel → (listed.getD n true = false → S w) → SeqF P ops Q n σ S a w → wpAnyF P ops Q n S fuel listed a w
  | [], S, listed, a, w, fuel, hok, _, _, h => by
    have hr : Region.ready .any ops listed = [] := by simpa [okSeqF] using hok
    cases fuel with
    | zero => exact ⟨hr, h⟩
    | succ f => exact ⟨fun _ => h, by rw [hr]; simp⟩
  | (i, true) :: σ, S, listed, a, w, 0, _, hl, _, _ => by simp at hl
  | (i, true) :: σ, S, listed, a, w, fuel + 1, hok, hl, hS, ⟨o, v, ho, hy, h⟩ => by
    simp only [okSeqF, Bool.and_eq_true, bne_iff_ne, Bool.not_eq_true'] at hok
    obtain ⟨⟨⟨h1, h2⟩, h3, h4⟩, h5⟩ := hok
    refine wpAnyF_first ho h3 (Region.noSelect_spec hns) (fun c a w hq => by
      cases hd : o.dst with
      | none => rw [hd] at hq; exact hq
      | some d => rw [hd] at hq; exact hQ c a d v w hq) fuel listed a w (Region.free_spec ho h1) (by simpa using h2) hy (fun _ => h4) hS ?_
    exact seqF_any hns hQ σ S _ _ w fuel h5 (by simpa using hl) (fun hl' => hS h4) h
  | (i, false) :: σ, S, listed, a, w, 0, _, hl, _, _ => by simp at hl
  | (i, false) :: σ, S, listed, a, w, fuel + 1, hok, hl, hS, ⟨o, ho, h⟩ => by
    simp only [okSeqF, Bool.and_eq_true, beq_iff_eq, Bool.not_eq_true'] at hok
    obtain ⟨⟨h1, h4⟩, h5⟩ := hok
    refine ⟨fun h0 => (by rw [h1] at h0; cases h0), fun j hj => ?_⟩
    rw [h1] at hj
    obtain rfl : j = i := by simpa using hj
    have hset : ∀ x : Bool, (listed.setIfInBounds j true).getD n x = false → j ≠ n := fun x hx e => by
      subst e
      rcases Nat.lt_or_ge j listed.size with h' | h'
      · simp [Array.getD, h'] at hx
      · simp [Array.getD, Nat.not_lt.2 h'] at h4
    have := h (fun a' w' => ((listed.setIfInBounds j true).getD n true = false → S w') ∧ wpAnyF P ops Q n S fuel (listed.setIfInBounds j true) a' w') (fun S' a' w' hle hS' hw =>
      ⟨fun hx => hle _ (hS' (hset _ hx)), anyF_weaken hle _ _ _ _ (seqF_any hns hQ σ S' _ a' w' fuel h5 (by simpa using hl) (fun hx => hS' (hset _ hx)) (hw hS'))⟩)
    unfold wpOp
    simp only [ho]
    split
    · rename_i hw
      rw [if_pos hw] at this
      exact .inl this
    · rename_i hw
      rw [if_neg hw] at this
      exact this

/-- THE LAW: a statement that draws its order, gone through in one order; number n comes last and may write what was read. -/
theorem wp_region_fin {P : Program} {id : Nat} {ops : Array Oper} {Q : Exit → Act → World → Prop} {a : Act} {w : World} (n : Nat) (S : World → Prop) (σ : List (Nat × Bool))
    (hm : P.follows .mixedOrders = true) (hns : Region.noSelect ops = true) (hQ : ∀ c a d v w, Q (.panic c) (Act.put a (some d) v) w → Q (.panic c) a w)
    (hok : okSeqF ops n (Array.replicate ops.size false) σ = true) (hlen : σ.length ≤ ops.size) (hS : S w.drew) (h : S w.drew → SeqF P ops Q n σ S a w.drew) : (Code.region id ops true).wp P Q a w :=
  wp_region_any hm (wpAny_of_F _ _ _ _ (seqF_any hns hQ σ S _ a _ _ hok hlen (fun _ => hS) (h hS)))

theorem seqF_end {P : Program} {ops : Array Oper} {Q : Exit → Act → World → Prop} {n : Nat} {S : World → Prop} {a : Act} {w : World} (h : Q .normal a w) : SeqF P ops Q n [] S a w := h
theorem seqF_reads {P : Program} {ops : Array Oper} {Q : Exit → Act → World → Prop} {n : Nat} {S : World → Prop} {i : Nat} {o : Oper} {σ : List (Nat × Bool)} {a : Act} {w : World} (ho : ops[i]? = some o)
    (hw : Region.wanted o (yielded ops a.tmps) = true) (h : ∃ v, (∀ w, (waits ops n i = true → S w) → (execOp a.eval o).run P w = .ok (.value v) w) ∧ SeqF P ops Q n σ S (a.put o.dst v) w) : SeqF P ops Q n ((i, true) :: σ) S a w :=
  h.elim fun v h => ⟨o, v, ho, .inl ⟨hw, h.1⟩, h.2⟩
theorem seqF_call {P : Program} {ops : Array Oper} {Q : Exit → Act → World → Prop} {n : Nat} {S : World → Prop} {i : Nat} {o : Oper} {σ : List (Nat × Bool)} {a : Act} {w : World} (ho : ops[i]? = some o)
    (hw : Region.wanted o (yielded ops a.tmps) = true) (h : ∀ K : Act → World → Prop, Shut (∀ (S' : World → Prop) a' w', (∀ x, S' x → S x) → S' w' → (S' w' → SeqF P ops Q n σ S' a' w') → K a' w') → Oper.wp P o a w K Q) (hin : i ≠ n) : SeqF P ops Q n ((i, false) :: σ) S a w :=
  ⟨o, ho, fun K hK => by rw [if_pos hw]; exact h K (fun S' a' w' h1 h2 h3 => hK.out S' a' w' h1 (fun _ => h2) (fun h => h3 (h hin)))⟩
/-- The last one: it may write what was read. -/
theorem seqF_last {P : Program} {ops : Array Oper} {Q : Exit → Act → World → Prop} {n : Nat} {S : World → Prop} {o : Oper} {σ : List (Nat × Bool)} {a : Act} {w : World} (ho : ops[n]? = some o)
    (hw : Region.wanted o (yielded ops a.tmps) = true) (h : ∀ K : Act → World → Prop, Shut (∀ a' w', SeqF P ops Q n σ S a' w' → K a' w') → Oper.wp P o a w K Q) : SeqF P ops Q n ((n, false) :: σ) S a w :=
  ⟨o, ho, fun K hK => by rw [if_pos hw]; exact h K (fun a' w' h1 => hK.out S a' w' (fun _ h => h) (fun h => absurd rfl h) (fun _ => h1))⟩
end Go.Proofs.YtdcdalbbjfjadaaGreatDoor
namespace Go.Proofs.YtdcdalbbjfjadaaGreatDoor
open Go.RowKit
set_option maxRecDepth 20000

theorem results_iDoes (v : Value) (c : Int) (p : ByteArray) (R : Nat) (W : World) (tmps : Array Value) (h4 : tmps.getD 4 undef = v) (h2 : tmps.getD 5 undef = .pointer (some ⟨R, 0, none⟩)) (hW : Holds W R (rpA c p)) :
    (results Tryz.f6 tmps).run Tryz.prog W = .ok (.tuple #[v, rpV c p]) W := by
  obtain ⟨q0, q1⟩ := hW.two
  simp at h2 h4
  simp [results, Tryz.results6, go_sem, h2, h4, q0, q1]

/-- What Does answers. -/
def DoRet (w : World) (q : List M.Wk × M.Rp) (e : Ending) (w' : World) : Prop :=
  ∃ v l', e = .returned (.tuple #[v, rpV q.2.1 q.2.2]) ∧ SfOwn w.heap.size w' v l' ∧ l'.map Wr.wk = q.1 ∧ Below w.heap.size w w'

set_option maxHeartbeats 4000000 in
theorem implDoes (A : Option Addr) (l : List Wr) (cap : Nat) (d : M.Dd) (w : World) (hl : Wks w A l) (hlen : l.length ≤ 1048576) (hp : WrsIn 1048576 l) (hn : d.name.size ≤ 1048576) (hpg : d.page.size ≤ 1048576) :
    Calls Tryz.prog 6 #[.slice A l.length cap, ddV d] w (DoRet w (M.does (l.map Wr.wk) d)) := by
  have HP := Lib.hid hp
  have HL := Lib.hid hl
  have hm := ((Mem.start w).new (ddC d) 28).new (rpA 0 noP) 32
  have b0 := hm.1
  simp only [World.size_alloc] at hm
  clear hp hl
  rcases hok : M.sfOk (l.map Wr.wk) with _ | _
  · have HE : Hid (M.does (l.map Wr.wk) d = ([], ((7 : Int), M.nilB))) := Lib.hid (by simp [M.does, hok])
    go_enter Tryz.func6, Tryz.ntmps6
    go_wp2_with fail
    have hcall := implShelfOk A l cap _ (HL.out.below b0) hlen HP.out
    rw [hok] at hcall
    refine hcall.mono ?_
    rintro e x1 ⟨rfl, b1⟩
    have hm1 := hm.below b1
    clear hcall hm b0 b1 hok
    obtain ⟨r0, r1⟩ := (hm1.get (w.heap.size + 1) (rpA 0 noP) (by simp)).two
    have z0 := hm1.loose (w.heap.size + 1) (by simp) 0
    have z1 := hm1.loose (w.heap.size + 1) (by simp) 1
    have HM := Lib.hid hm1
    clear hm1
    go_wp2
    refine bodyPost_ret (results_iDoes (.slice none 0 0) 7 noP (w.heap.size + 1) _ _ rfl rfl ?_) rfl ⟨.slice none 0 0, [], by rw [HE.out]; rfl, ⟨⟨rfl, .inl ⟨rfl, rfl⟩⟩, by simp, by simp, List.Pairwise.nil⟩, by rw [HE.out]; rfl, (HM.out.1.setCell (by show w.heap.size ≤ w.heap.size + 1; omega) _).setCell (by show w.heap.size ≤ w.heap.size + 1; omega) _⟩
    simpa using (((HM.out.get (w.heap.size + 1) (rpA 0 noP) (by simp)).putM 0 (.int .i64 7)).putM 1 (.string noP))
  · obtain ⟨hrise, hl5⟩ := sfOk_rise hok
    have HRL := Lib.hid hrise
    have HL5 := Lib.hid hl5
    have HOK := Lib.hid hok
    clear hrise hl5
    go_enter Tryz.func6, Tryz.ntmps6
    go_wp2_with fail
    have hcall := implShelfOk A l cap _ (HL.out.below b0) hlen HP.out
    rw [hok] at hcall
    refine hcall.mono ?_
    rintro e x1 ⟨rfl, b1⟩
    have hm1 := hm.below b1
    have hs1 := b1.size
    simp only [World.size_alloc] at hs1
    have HL1 := Lib.hid ((HL.out.below b0).below b1)
    clear hcall hm b0 b1 hok
    go_wp2_with fail
    refine (shelfOf_any A l cap x1 HL1.out HRL.out hlen HP.out).mono ?_
    rintro e x2 ⟨rfl, rs, hrs, hmap, hown, b2⟩
    have hm2 := hm1.below b2
    have htop : x1.heap.size + 1 ≤ x2.heap.size := hmap.lt
    have hst : St x2 (x1.heap.size + 1) x1.heap.size l.length rs := ⟨hmap, rise_same hrs HRL.out, hown, Nat.lt_succ_self _, htop, (by have := HL5.out; omega), wrs_same hrs HP.out⟩
    have HST := Lib.hid hst
    have HRS := Lib.hid hrs
    clear hm1 hmap hown b2 hst hrs
    obtain ⟨q0, q1, q2, q3, q4, q5, q6⟩ := (hm2.get w.heap.size (ddC d) (by simp)).seven
    go_wp2_with fail
    have hcall := does_any (x1.heap.size + 1) x1.heap.size l.length rs d x2 HST.out (by have := length_same HRS.out; have := HL5.out; omega) hn hpg
    rw [HRS.out] at hcall
    obtain ⟨p, hpp⟩ : ∃ p, M.keptD (l.map Wr.wk) d = p := ⟨_, rfl⟩
    rw [hpp] at hcall
    have HPP := Lib.hid hpp
    have HE : Hid (M.does (l.map Wr.wk) d = (p.1, p.2)) := Lib.hid (by rw [← hpp]; simp [M.does, M.keptD, HOK.out])
    clear hpp
    refine hcall.mono ?_
    rintro e x3 ho
    obtain ⟨rfl, hg3, n', rs', h1, h2, h3, h4, h5⟩ := ho
    have hm3 := (hm2.by hg3 (by omega) (by simp; omega) (by simp; omega)).new (rpA p.2.1 p.2.2) 32
    have hmr := hm3.re (hs' := [(x3.heap.size, rpA p.2.1 p.2.2), (w.heap.size + 1, rpA 0 noP)]) (ls' := [x3.heap.size, w.heap.size + 1]) (by simp) (by simp)
    have hg3s := hg3.size
    have HM := Lib.hid hmr
    clear hcall hm2 hm3 hmr q0 q1 q2 q3 q4 q5 q6 hg3
    have HMP := Lib.hid (h1.alloc (.cells (rpA p.2.1 p.2.2) 32))
    have HRI := Lib.hid h2
    have HRO := Lib.hid (h3.below ((Below.refl _ _).alloc (Nat.le_refl _) (.cells (rpA p.2.1 p.2.2) 32)))
    have HNN := Lib.hid (near_names (HPP.out ▸ M.near_keptD (l.map Wr.wk) d) h4 HL5.out HP.out hn)
    have H4 := Lib.hid h4
    have HBS : Hid (x1.heap.size + 1 ≤ (x3.alloc (.cells (rpA p.2.1 p.2.2) 32)).heap.size) := Lib.hid (by simp; omega)
    clear h1 h2 h3 h4 h5
    go_wp2_with fail
    refine wp_region_fin 4 (fun x => Mem w [(x3.heap.size, rpA p.2.1 p.2.2), (w.heap.size + 1, rpA 0 noP)] [x3.heap.size, w.heap.size + 1] x ∧ ShM x x1.heap.size n' rs' ∧ RsOwn (x1.heap.size + 1) x rs' ∧ (x1.heap.size + 1) ≤ x.heap.size) [(0,true),(2,true),(1,false),(3,true),(4,false)] (by kernel_rfl) (by kernel_rfl) (fun _ _ _ _ _ h => h) (by kernel_rfl) (by decide) ⟨HM.out.drew, HMP.out.drew, HRO.out, HBS.out⟩ ?_
    intro hHeld
    repeat (first
      | (refine seqF_reads (by simp only [List.getElem?_toArray, List.getElem?_cons_succ, List.getElem?_cons_zero]; first | done | rfl) (by rfl) ?_; apply Exists.intro; apply And.intro; (focus (intro w hSw; (try (replace hSw := hSw (by decide +kernel))); (try (obtain ⟨q0, q1⟩ := (hSw.1.get (x3.heap.size) (rpA p.2.1 p.2.2) (by simp)).two)); go_simp; (try with_reducible rfl); done)); (try simp only [Act.put, List.setIfInBounds_toArray, List.set_cons_zero, List.set_cons_succ]))
      | (refine seqF_call (by simp only [List.getElem?_toArray, List.getElem?_cons_succ, List.getElem?_cons_zero]; first | done | rfl) (by rfl) (fun K hK => ?_) (by decide); go_simp; go_at_call 23; refine (inOrder_any x1.heap.size n' (x1.heap.size + 1) rs' _ hHeld.2.1 HRI.out hHeld.2.2.1 hHeld.2.2.2 HNN.out.1 HNN.out.2).mono ?_; rintro r w1 ⟨v, rfl, hs, b5⟩; go_simp; refine hK.out _ _ _ (fun _ h => h) ⟨hHeld.1.below b5, hHeld.2.1.kept (grown_lw b5 none) (by simp), hHeld.2.2.1.below b5, Nat.le_trans hHeld.2.2.2 b5.size⟩ ?_; clear hK hHeld; intro hHeld; (have HSF := Lib.hid hs); clear hs b5; (try simp only [Act.put, List.setIfInBounds_toArray, List.set_cons_zero, List.set_cons_succ]))
      | (refine seqF_last (by simp only [List.getElem?_toArray, List.getElem?_cons_succ, List.getElem?_cons_zero]; first | done | rfl) (by rfl) (fun K hK => ?_); have hD := hHeld.1; obtain ⟨r0, r1⟩ := (hD.get (w.heap.size + 1) (rpA 0 noP) (by simp)).two; have z0 := hD.loose (w.heap.size + 1) (by simp) 0; have z1 := hD.loose (w.heap.size + 1) (by simp) 1; go_simp; refine hK.out _ _ ?_; clear hK; clear r0 r1 z0 z1 hD; (have HD := Lib.hid hHeld); clear hHeld; (try simp only [Act.put, List.setIfInBounds_toArray, List.set_cons_zero, List.set_cons_succ])))
    refine seqF_end ?_
    go_wp2
    refine bodyPost_ret (results_iDoes v p.2.1 p.2.2 (w.heap.size + 1) _ _ rfl rfl ?_) rfl ⟨v, rs', by rw [HE.out], ((HSF.out.set (by omega) 0 _).set (by omega) 1 _).mono (by omega), by rw [HE.out]; exact H4.out, (HD.out.1.1.setCell (by show w.heap.size ≤ w.heap.size + 1; omega) _).setCell (by show w.heap.size ≤ w.heap.size + 1; omega) _⟩
    simpa using (((HD.out.1.get (w.heap.size + 1) (rpA 0 noP) (by simp)).putM 0 (.int .i64 p.2.1)).putM 1 (.string p.2.2))
end Go.Proofs.YtdcdalbbjfjadaaGreatDoor
namespace Go.Proofs.YtdcdalbbjfjadaaGreatDoor
open Go.RowKit
set_option maxRecDepth 20000
namespace M
def isName (n : ByteArray) (w : Wk) : Bool := w.name.toList == n.toList
def sfFind (l : List Wk) (n : ByteArray) : Nat := l.findIdx (isName n)
def sfFindInt (l : List Wk) (n : ByteArray) : Int := if sfFind l n < l.length then (sfFind l n : Int) else -1
theorem sfFindInt_pos {l : List Wk} {n : ByteArray} (h : sfFind l n < l.length) : sfFindInt l n = sfFind l n := if_pos h
theorem sfFindInt_neg {l : List Wk} {n : ByteArray} (h : sfFind l n = l.length) : sfFindInt l n = -1 := if_neg (by omega)
end M

set_option maxHeartbeats 1000000 in
theorem l5Find_any (A : Option Addr) (l : List Wr) (cap : Nat) (name : ByteArray) (w : World) (hl : Wks w A l) (hlen : l.length ≤ 1048576) :
    Calls Tryz.prog 43 #[.slice A l.length cap, .string name] w fun r w' => r = .returned (.int .i64 (M.sfFindInt (l.map Wr.wk) name)) ∧ w = w' := by
  have HL := Lib.hid hl
  clear hl
  go_enter Tryz.func43, Tryz.ntmps43
  go_wp2
  go_loop [5] (fun i => ∃ j : Nat, i = .int .i64 j ∧ j ≤ l.length ∧ WNoneTo (fun r => M.isName name r.wk) l j) (fun i => l.length - (intOf i).toNat)
  case atStart => exact ⟨0, rfl, Nat.zero_le _, WNoneTo.zero _ l⟩
  case round =>
    obtain ⟨j, rfl, hj, hnone⟩ := hrel
    have HN := Lib.hid hnone
    clear hnone
    by_cases hlt : j < l.length
    · obtain ⟨b, o, hA, lb, c0, c1, c2, -⟩ := Wks_at HL.out hlt
      subst hA
      rcases hq : (l[j].name.toList == name.toList) with _ | _
      · have HQ : Hid ((fun r : Wr => M.isName name r.wk) l[j] = false) := Lib.hid hq
        go_wp2
        go_round
        case rel => exact ⟨j + 1, by go_num, by omega, HN.out.next hlt HQ.out⟩
        case measure => simp [intOf]; omega
      · have HE : Hid (M.sfFindInt (l.map Wr.wk) name = j) := Lib.hid (by
          have h1 : l.findIdx (fun r => M.isName name r.wk) = j := HN.out.hit hlt hq
          have h2 : M.sfFind (l.map Wr.wk) name = j := by unfold M.sfFind; rw [List.findIdx_map]; exact h1
          rw [M.sfFindInt_pos (by rw [h2]; simpa using hlt), h2])
        go_wp2
        go_ret
        exact ⟨ret_int HE.out.symm, rfl⟩
    · have hj' : j = l.length := by omega
      have HE : Hid (M.sfFindInt (l.map Wr.wk) name = -1) := Lib.hid (by
        have h1 : l.findIdx (fun r => M.isName name r.wk) = l.length := by
          have := HN.out
          rw [hj'] at this
          exact this.all
        have h2 : M.sfFind (l.map Wr.wk) name = (l.map Wr.wk).length := by unfold M.sfFind; rw [List.findIdx_map, List.length_map]; exact h1
        exact M.sfFindInt_neg h2)
      go_wp2
      go_ret
      exact ⟨ret_int HE.out.symm, rfl⟩
end Go.Proofs.YtdcdalbbjfjadaaGreatDoor
