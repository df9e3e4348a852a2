/- Proved, in parts: Proved: append of a slice of records onto a row of the call's own, the source nil, empty or not; cuts of such a row; no program's function is named here. Condition: the bytes fit. Proved: the model's WorkOk answers one plain Lean function at every work; it writes nothing that was there. Condition: texts of at most maxLen bytes, at most a million copies. Proved: plain facts on works: the place of an edition among copies that rise; no program is named here; no condition. Proved: the language's own test whether two editions are alike is whether they are the same three numbers; no condition. -/
import Derived.Test.YtkpbfocnokbmiaaGreatPart01
import Derived.Test.YtkpbfocnokbmiaaGreatPart04
import Derived.OwnWalk
import Derived.Test.YtkpbfocnokbmiaaGreatPart03
import Derived.Test.YtkpbfocnokbmiaaGreatPart02
import Derived.IntWalk
import Derived.Calls
import Derived.KernelRfl
namespace Go.Proofs.YtkpbfocnokbmiaaGreat
open Go.RowKit

/-- A goal at which a walk stands still. -/
def Stop (p : Prop) : Prop := p
theorem stop_mk {p : Prop} (h : Stop p) : p := h
theorem stop_un {p : Prop} (h : p) : Stop p := h

section
variable {α : Type} {enc : α → List Value} {k : Nat} {w w' : World} {l : List α}
theorem flat_news {ad : Addr} (hk : ∀ x, (enc x).length = k) (hk0 : 0 < k) (h : Flat enc k w (some ad) l) : ∀ j u, (cellsOf enc l)[j]? = some u → w.cell? (ad.add j) = some u := by
  intro j u hu
  rcases h with rfl | ⟨b, o, hA, hlt, h⟩
  · simp [cellsOf] at hu
  · obtain rfl : ad = ⟨b, o, none⟩ := by injection hA
    have hj : j < l.length * k := by
      have := (List.getElem?_eq_some_iff.1 hu).1
      rwa [cellsOf_len hk] at this
    have hi : j / k < l.length := Nat.div_lt_of_lt_mul (by rw [Nat.mul_comm]; exact hj)
    have ht : j % k < k := Nat.mod_lt _ hk0
    have hd : j / k * k + j % k = j := by rw [Nat.mul_comm]; exact Nat.div_add_mod j k
    have h1 := cellsOf_at hk l (j / k) (j % k) l[j / k] (List.getElem?_eq_getElem hi) ht
    rw [hd, hu] at h1
    have := h (j / k) (j % k) l[j / k] u (List.getElem?_eq_getElem hi) h1.symm
    rw [Nat.add_assoc, hd] at this
    rw [addr_add]; exact this
theorem flat_none (h : Flat enc k w none l) : l = [] := by
  rcases h with h | ⟨b, o, hA, _⟩
  · exact h
  · cases hA

theorem Flat.cutTake {A : Option Addr} (h : Flat enc k w A l) (m : Nat) : Flat enc k w A (l.take m) := by
  rcases h with rfl | ⟨b, o, rfl, hlt, h⟩
  · exact .inl (by simp)
  · refine .inr ⟨b, o, rfl, hlt, fun i t x u hi hu => h i t x u ?_ hu⟩
    rw [List.getElem?_take] at hi
    split at hi
    · exact hi
    · cases hi
/-- What a slice cut from place m on points to. -/
def cutAt (A : Option Addr) (cap m k : Nat) : Option Addr := if cap = m then A else A.map (·.add (m * k))
theorem Flat.cutDrop {A : Option Addr} {cap : Nat} (h : Flat enc k w A l) (m : Nat) (hc : l.length ≤ cap) : Flat enc k w (cutAt A cap m k) (l.drop m) := by
  by_cases hm : m < l.length
  · rcases h with rfl | ⟨b, o, rfl, hlt, h⟩
    · simp at hm
    · unfold cutAt
      rw [if_neg (by omega)]
      refine .inr ⟨b, o + m * k, ?_, hlt, fun i t x u hi hu => ?_⟩
      · simp [addr_add]
      · rw [List.getElem?_drop] at hi
        have := h (m + i) t x u hi hu
        rw [Nat.add_mul, ← Nat.add_assoc] at this
        exact this
  · exact .inl (List.drop_eq_nil_of_le (by omega))
/-- append of a slice of records. -/
theorem wp_append_flat {P : Program} {o : Oper} {a : Act} {K : Act → World → Prop} {Q : Exit → Act → World → Prop} (s x : Operand) (t : TypeId)
    (ho : o.op = .call { callee := .builtin .append, args := #[s, x], argTypes := #[t, t] })
    (base : Nat) (e : TypeId) (i : TypeInfo) (z : Value) (bytes : Nat) (ht : P.underlying t = some (.slice e)) (hi : P.info? e = some i) (hz : i.zero = some z)
    (hsize : i.size = k) (hby : i.bytes = bytes) (hzs : z.cells.size = k) (hsz : 0 < k)
    (v : Value) (n : Nat) (xs : List Value) (hs : a.eval s = v) (hown : w.ownsRow base e k v n xs)
    (A : Option Addr) (c : Nat) (hx : a.eval x = .slice A l.length c) (hA : A = none → c = 0) (hfl : Flat enc k w A l) (hk : ∀ x, (enc x).length = k) (h1 : ∀ u ∈ cellsOf enc l, u.oneCell' = true)
    (h63 : n + l.length ≤ maxLen) (hbytes : (n + l.length) * bytes ≤ 140737488355328) (hbase : base ≤ w.heap.size)
    (h : ∀ v' w', w'.ownsRow base e k v' (n + l.length) (xs ++ cellsOf enc l) → w.grownBy w' v.ownBlock → K (a.put o.dst v') w') : o.wp P a w K Q := by
  rcases A with _ | ad
  · have hl := flat_none hfl
    have hc := hA rfl
    subst hl hc
    have hrun := run_append_owned_none (P := P) w base t o.type e i k ht hi v n xs hown
    unfold Oper.wp execOp
    simp only [List.length_nil] at hx
    simp only [ho, resolve, invoke, builtin, Sem.run_bind, Sem.run_pure, Result.andThen_ok, List.map_toArray, List.map_cons, List.map_nil, hs, hx, hrun]
    refine h v w ?_ ⟨rfl, rfl, rfl, Nat.le_refl _, fun _ _ _ => rfl⟩
    simpa [cellsOf] using hown
  · exact wp_append_own w s x t ho base e i z k bytes ht hi hz hsize hby hzs hsz v n xs hs hown ad l.length c (cellsOf enc l) hx (cellsOf_len hk l) (flat_news hk hsz hfl) h1 h63 hbytes hbase fun v' w' h2 h3 _ => h v' w' h2 h3
theorem wpList_append_flat {P : Program} {ops : Array Oper} {rest : List Oper} {o : Oper} {a : Act} {Q : Exit → Act → World → Prop} (hgd : o.guard = none) (s x : Operand) (t : TypeId)
    (ho : o.op = .call { callee := .builtin .append, args := #[s, x], argTypes := #[t, t] })
    (base : Nat) (e : TypeId) (i : TypeInfo) (z : Value) (bytes : Nat) (ht : P.underlying t = some (.slice e)) (hi : P.info? e = some i) (hz : i.zero = some z)
    (hsize : i.size = k) (hby : i.bytes = bytes) (hzs : z.cells.size = k) (hsz : 0 < k)
    (v : Value) (n : Nat) (xs : List Value) (hs : a.eval s = v) (hown : w.ownsRow base e k v n xs)
    (A : Option Addr) (c : Nat) (hx : a.eval x = .slice A l.length c) (hA : A = none → c = 0) (hfl : Flat enc k w A l) (hk : ∀ x, (enc x).length = k) (h1 : ∀ u ∈ cellsOf enc l, u.oneCell' = true)
    (h63 : n + l.length ≤ maxLen) (hbytes : (n + l.length) * bytes ≤ 140737488355328) (hbase : base ≤ w.heap.size)
    (h : ∀ v' w', w'.ownsRow base e k v' (n + l.length) (xs ++ cellsOf enc l) → w.grownBy w' v.ownBlock → wpList P ops Q rest (a.put o.dst v') w') : wpList P ops Q (o :: rest) a w :=
  wpList_plain hgd fun _ hK => wp_append_flat s x t ho base e i z bytes ht hi hz hsize hby hzs hsz v n xs hs hown A c hx hA hfl hk h1 h63 hbytes hbase fun v' w' h2 h3 => hK _ _ (h v' w' h2 h3)

/-- The first n of a row of one's own. -/
theorem own_cut {base e g n m cap : Nat} {xs : List Value} (h : w.ownsRow base e k (.slice (some ⟨g, 0, none⟩) n cap) n xs) (hm : m ≤ n) : w.ownsRow base e k (.slice (some ⟨g, 0, none⟩) m cap) m (xs.take (m * k)) := by
  obtain ⟨hl, ⟨h0, _⟩ | ⟨g', cap', cur, hv, hb, hh, hnc, hcm, hcs, ht⟩⟩ := h
  · simp at h0
  · have hmk : m * k ≤ n * k := Nat.mul_le_mul_right k hm
    simp only [Value.slice.injEq, Option.some.injEq, Addr.mk.injEq, and_true, true_and] at hv
    obtain ⟨rfl, rfl⟩ := hv
    refine ⟨by rw [List.length_take, hl]; omega, .inr ⟨g, cap, cur, rfl, hb, hh, by omega, hcm, hcs, ?_⟩⟩
    rw [← ht, List.take_take, Nat.min_eq_left hmk]
theorem grown_holds {g : Nat} {C : Array Value} {row : Option Nat} (h : Holds w g C) (hg : w.grownBy w' row) (hne : some g ≠ row) : Holds w' g C :=
  ⟨Nat.lt_of_lt_of_le h.1 hg.size, fun j v hj => (World.cell?_of_block (a := ⟨g, j, none⟩) (hg.block g h.1 hne)).trans (h.2 j v hj)⟩
theorem grown_loose {g : Nat} {row : Option Nat} (h : Loose w g) (hlt : g < w.heap.size) (hg : w.grownBy w' row) (hne : some g ≠ row) : Loose w' g := fun j => by
  have := hg.block g hlt hne
  have h' := h j
  unfold World.frozen? at h' ⊢
  rw [this]; exact h'
theorem own_ne {base e n : Nat} {v : Value} {xs : List Value} (h : w.ownsRow base e k v n xs) {g : Nat} (hg : g < base) : some g ≠ v.ownBlock := fun he => by
  have := (h.lt g he.symm).1; omega
end

theorem cp_one (l : List M.Cp) : ∀ u ∈ cellsOf cpL l, u.oneCell' = true := by
  intro u hu
  unfold cellsOf at hu
  rw [List.mem_flatMap] at hu
  obtain ⟨c, _, hc⟩ := hu
  simp at hc
  rcases hc with rfl | rfl | rfl | rfl | rfl <;> rfl
end Go.Proofs.YtkpbfocnokbmiaaGreat
namespace Go.Proofs.YtkpbfocnokbmiaaGreat
open Go.RowKit
set_option maxRecDepth 20000

set_option maxHeartbeats 1000000 in
theorem l4Copy_any (c : M.Cp) (w : World) (hp : c.page.size ≤ maxLen) :
    Calls Tryz.prog 89 #[cpV c] w fun r w' => r = .returned (.bool (M.cpOk c)) ∧ Below w.heap.size w w' := by
  have b0 := (Below.refl w.heap.size w).alloc (Nat.le_refl _) (.cells (cpV c).cells 127)
  rcases h1 : M.edOk c.ed with _ | _
  · have HE : Hid (M.cpOk c = false) := Lib.hid (by simp [M.cpOk, h1])
    go_enter Tryz.func89, Tryz.ntmps89
    go_wp2_with fail
    refine (specEditionOk c.ed _).mono ?_
    rintro r w1 ⟨rfl, b1⟩
    go_wp2
    go_ret
    exact ⟨ret_bool HE.out.symm, next b0 b1⟩
  · have HE : Hid (M.cpOk c = M.pageOk c.page.data.toList) := Lib.hid (by simp [M.cpOk, h1])
    go_enter Tryz.func89, Tryz.ntmps89
    go_wp2_with fail
    refine (specEditionOk c.ed _).mono ?_
    rintro r w1 ⟨rfl, b1⟩
    obtain ⟨c1, f1⟩ := bcell b1
    go_wp2_with fail
    refine (specPageOk c.page _ hp).mono ?_
    rintro r w2 ⟨rfl, rfl⟩
    go_wp2
    go_ret
    exact ⟨ret_bool HE.out.symm, next b0 b1⟩


set_option maxHeartbeats 4000000 in
theorem specWorkOk (name : ByteArray) (owner : Int) (A : Option Addr) (l : List M.Cp) (cap : Nat) (w : World) (hl : Cps w A l) (hn : name.size ≤ maxLen) (hlen : l.length ≤ 1048576) (hp : ∀ c ∈ l, c.page.size ≤ maxLen) :
    Calls Tryz.prog 62 #[wkV name owner A l.length cap] w fun r w' => r = .returned (.bool (M.wkOk ⟨name, owner, l⟩)) ∧ Below w.heap.size w w' := by
  go_enter Tryz.func62, Tryz.ntmps62
  go_wp2
  go_loopw [3] (fun i wr => ∃ j : Nat, i = .int .i64 j ∧ j ≤ l.length ∧ M.upTo l j ∧ Below (w.alloc (.cells (wkL name owner A l.length cap) 100)).heap.size (w.alloc (.cells (wkL name owner A l.length cap) 100)) wr) (fun i _ => l.length - (intOf i).toNat)
  case atStart => exact ⟨0, rfl, Nat.zero_le _, M.upTo_zero l, Below.refl _ _⟩
  case round =>
    obtain ⟨j, rfl, hj, hu, hb⟩ := hrel
    by_cases hlt : j < l.length
    · rcases hc : M.cpOk l[j] with _ | _
      · have HE : Hid (M.wkOk ⟨name, owner, l⟩ = false) := Lib.hid (by simp [M.wkOk, M.cpsOk_not_copy hlt hc])
        have hpj := hp l[j] (List.getElem_mem (by omega))
        obtain ⟨b, o, rfl, -, c0, c1, c2, c3, c4⟩ := Cps_at (i := j) (hl.alloc _ |>.below hb) (by omega)
        have bx : wr.cell? ⟨w.heap.size, 2, none⟩ = some (.slice (some ⟨b, o, none⟩) l.length cap) := box_cells hb 2
        have HL := Lib.hid hl
        have HU := Lib.hid hu
        clear hl hu

        go_wp2_with fail
        refine wp_region_seq (fun w' => Below (w.alloc (.cells (wkL name owner (some ⟨b, o, none⟩) l.length cap) 100)).heap.size (w.alloc (.cells (wkL name owner (some ⟨b, o, none⟩) l.length cap) 100)) w' ∧ w'.cell? ⟨w.heap.size, 2, none⟩ = some (.slice (some ⟨b, o, none⟩) l.length cap) ∧ w'.cell? ⟨b, o + j * 5, none⟩ = some (.int .i64 l[j].ed.ma) ∧ w'.cell? ⟨b, o + j * 5 + 1, none⟩ = some (.int .i64 l[j].ed.mi) ∧ w'.cell? ⟨b, o + j * 5 + 2, none⟩ = some (.int .i64 l[j].ed.pa) ∧ w'.cell? ⟨b, o + j * 5 + 3, none⟩ = some (.string l[j].page) ∧ w'.cell? ⟨b, o + j * 5 + 4, none⟩ = some (.bool l[j].hidden)) [(0, true), (1, true), (2, true), (3, true), (4, true), (5, false), (6, true), (7, true), (8, true), (9, true), (10, true), (11, true), (12, true), (13, true), (14, true), (15, true), (16, true), (17, true), (18, true), (19, true), (20, true), (21, true), (22, true), (23, true), (24, false), (25, true), (26, true), (27, true)] (by kernel_rfl) (by kernel_rfl) (fun _ _ _ _ _ h => h) (by kernel_rfl) (by decide) ?_ ?_
        · ((try dsimp only); (repeat' apply And.intro) <;> first | assumption | (exact Below.drew (by assumption)) | (simp [go_sem]; done))
        intro hHeld
        repeat (first
          | (refine seq_skip (by simp only [List.getElem?_toArray, List.getElem?_cons_succ, List.getElem?_cons_zero]; first | done | rfl) (by rfl) ?_; (try simp only [Act.put, List.setIfInBounds_toArray, List.set_cons_zero, List.set_cons_succ]))
          | (refine seq_reads (by simp only [List.getElem?_toArray, List.getElem?_cons_succ, List.getElem?_cons_zero]; first | done | rfl) (by rfl) ?_; apply Exists.intro; apply And.intro; (focus (intro w hSw; (try dsimp only at hSw); go_split_ands; go_simp; (try with_reducible rfl); done)); (try simp only [Act.put, List.setIfInBounds_toArray, List.set_cons_zero, List.set_cons_succ]))
          | (refine seq_pass (by simp only [List.getElem?_toArray, List.getElem?_cons_succ, List.getElem?_cons_zero]; first | done | rfl) (by rfl) hHeld ?_; clear hHeld; intro hHeld; (try simp only [Act.put, List.setIfInBounds_toArray, List.set_cons_zero, List.set_cons_succ]))
          | (refine seq_call (by simp only [List.getElem?_toArray, List.getElem?_cons_succ, List.getElem?_cons_zero]; first | done | rfl) (by rfl) (fun K hK => ?_); go_simp; go_at_call 89; refine (keeps (l4Copy_any l[j] _ hpj) (W0 := (w.alloc (.cells (wkL name owner (some ⟨b, o, none⟩) l.length cap) 100))) hHeld.1).mono ?_; rintro r w1 ⟨rfl, b1, kp⟩; go_simp; refine hK.out _ _ ⟨b1, kp _ _ _ hHeld.2.1, kp _ _ _ hHeld.2.2.1, kp _ _ _ hHeld.2.2.2.1, kp _ _ _ hHeld.2.2.2.2.1, kp _ _ _ hHeld.2.2.2.2.2.1, kp _ _ _ hHeld.2.2.2.2.2.2⟩ ?_; clear hHeld kp b1 hK; intro hHeld; (try simp only [Act.put, List.setIfInBounds_toArray, List.set_cons_zero, List.set_cons_succ])))
        refine seq_end ?_
        go_split_ands
        go_wp2
        go_ret
        exact ⟨ret_bool HE.out.symm, next ((Below.refl _ _).alloc (Nat.le_refl _) _) (by assumption)⟩
      · rcases Nat.eq_zero_or_pos j with h0 | h0
        · have HN : Hid (M.upTo l (j + 1)) := Lib.hid (by subst h0; exact M.upTo_first hlt hc)
          have hpj := hp l[j] (List.getElem_mem (by omega))
          obtain ⟨b, o, rfl, -, c0, c1, c2, c3, c4⟩ := Cps_at (i := j) (hl.alloc _ |>.below hb) (by omega)
          have bx : wr.cell? ⟨w.heap.size, 2, none⟩ = some (.slice (some ⟨b, o, none⟩) l.length cap) := box_cells hb 2
          have HL := Lib.hid hl
          have HU := Lib.hid hu
          clear hl hu

          have e0 : decide (0 < j) = false := by simp; omega
          have H0 := Lib.hid h0
          clear h0
          go_wp2_with fail
          refine wp_region_seq (fun w' => Below (w.alloc (.cells (wkL name owner (some ⟨b, o, none⟩) l.length cap) 100)).heap.size (w.alloc (.cells (wkL name owner (some ⟨b, o, none⟩) l.length cap) 100)) w' ∧ w'.cell? ⟨w.heap.size, 2, none⟩ = some (.slice (some ⟨b, o, none⟩) l.length cap) ∧ w'.cell? ⟨b, o + j * 5, none⟩ = some (.int .i64 l[j].ed.ma) ∧ w'.cell? ⟨b, o + j * 5 + 1, none⟩ = some (.int .i64 l[j].ed.mi) ∧ w'.cell? ⟨b, o + j * 5 + 2, none⟩ = some (.int .i64 l[j].ed.pa) ∧ w'.cell? ⟨b, o + j * 5 + 3, none⟩ = some (.string l[j].page) ∧ w'.cell? ⟨b, o + j * 5 + 4, none⟩ = some (.bool l[j].hidden)) [(0, true), (1, true), (2, true), (3, true), (4, true), (5, false), (6, true), (7, true), (8, true), (9, true), (10, true), (11, true), (12, true), (13, true), (14, true), (15, true), (16, true), (17, true), (18, true), (19, true), (20, true), (21, true), (22, true), (23, true), (24, false), (25, true), (26, true), (27, true)] (by kernel_rfl) (by kernel_rfl) (fun _ _ _ _ _ h => h) (by kernel_rfl) (by decide) ?_ ?_
          · ((try dsimp only); (repeat' apply And.intro) <;> first | assumption | (exact Below.drew (by assumption)) | (simp [go_sem]; done))
          intro hHeld
          repeat (first
            | (refine seq_skip (by simp only [List.getElem?_toArray, List.getElem?_cons_succ, List.getElem?_cons_zero]; first | done | rfl) (by rfl) ?_; (try simp only [Act.put, List.setIfInBounds_toArray, List.set_cons_zero, List.set_cons_succ]))
            | (refine seq_reads (by simp only [List.getElem?_toArray, List.getElem?_cons_succ, List.getElem?_cons_zero]; first | done | rfl) (by rfl) ?_; apply Exists.intro; apply And.intro; (focus (intro w hSw; (try dsimp only at hSw); go_split_ands; go_simp; (try with_reducible rfl); done)); (try simp only [Act.put, List.setIfInBounds_toArray, List.set_cons_zero, List.set_cons_succ]))
            | (refine seq_pass (by simp only [List.getElem?_toArray, List.getElem?_cons_succ, List.getElem?_cons_zero]; first | done | rfl) (by rfl) hHeld ?_; clear hHeld; intro hHeld; (try simp only [Act.put, List.setIfInBounds_toArray, List.set_cons_zero, List.set_cons_succ]))
            | (refine seq_call (by simp only [List.getElem?_toArray, List.getElem?_cons_succ, List.getElem?_cons_zero]; first | done | rfl) (by rfl) (fun K hK => ?_); go_simp; go_at_call 89; refine (keeps (l4Copy_any l[j] _ hpj) (W0 := (w.alloc (.cells (wkL name owner (some ⟨b, o, none⟩) l.length cap) 100))) hHeld.1).mono ?_; rintro r w1 ⟨rfl, b1, kp⟩; go_simp; refine hK.out _ _ ⟨b1, kp _ _ _ hHeld.2.1, kp _ _ _ hHeld.2.2.1, kp _ _ _ hHeld.2.2.2.1, kp _ _ _ hHeld.2.2.2.2.1, kp _ _ _ hHeld.2.2.2.2.2.1, kp _ _ _ hHeld.2.2.2.2.2.2⟩ ?_; clear hHeld kp b1 hK; intro hHeld; (try simp only [Act.put, List.setIfInBounds_toArray, List.set_cons_zero, List.set_cons_succ])))
          refine seq_end ?_
          go_split_ands
          go_wp2
          go_roundw
          case rel => exact ⟨j + 1, by go_num, by omega, HN.out, by assumption⟩
          case measure => simp [intOf]; omega
        · obtain ⟨k, hk⟩ : ∃ k, j = k + 1 := ⟨j - 1, by omega⟩
          have hkl : k < l.length := by omega
          rcases hol : M.older l[k].ed l[j].ed with _ | _
          · have HE : Hid (M.wkOk ⟨name, owner, l⟩ = false) := Lib.hid (by subst hk; simp [M.wkOk, M.cpsOk_not_older hlt hol])
            have hpj := hp l[j] (List.getElem_mem (by omega))
            obtain ⟨b, o, rfl, -, c0, c1, c2, c3, c4⟩ := Cps_at (i := j) (hl.alloc _ |>.below hb) (by omega)
            obtain ⟨b', o', hbo, -, d0, d1, d2, d3, d4⟩ := Cps_at (i := k) (hl.alloc _ |>.below hb) (by omega)
            obtain ⟨rfl, rfl⟩ : b = b' ∧ o = o' := by simpa using hbo
            clear hbo d3 d4
            have bx : wr.cell? ⟨w.heap.size, 2, none⟩ = some (.slice (some ⟨b, o, none⟩) l.length cap) := box_cells hb 2
            have HL := Lib.hid hl
            have HU := Lib.hid hu
            clear hl hu
            have e0 : decide ((0 : Int) < (j : Int)) = true := by simp; omega
            have e1 : IntKind.i64.wrap ((j : Int) - 1) = (j : Int) - 1 := IntWalk.i64_in _ (by omega)
            have e2 : ((j : Int) - 1).toNat = k := by omega
            have e3 : (1 : Int) ≤ (j : Int) := by omega
            have e5 : ¬ ((l.length : Int) ≤ (j : Int) - 1) := by omega
            have e4 : k < l.length := by omega
            have HK := Lib.hid hk
            clear hk
            go_wp2_with fail
            refine wp_region_seq (fun w' => Below (w.alloc (.cells (wkL name owner (some ⟨b, o, none⟩) l.length cap) 100)).heap.size (w.alloc (.cells (wkL name owner (some ⟨b, o, none⟩) l.length cap) 100)) w' ∧ w'.cell? ⟨w.heap.size, 2, none⟩ = some (.slice (some ⟨b, o, none⟩) l.length cap) ∧ w'.cell? ⟨b, o + j * 5, none⟩ = some (.int .i64 l[j].ed.ma) ∧ w'.cell? ⟨b, o + j * 5 + 1, none⟩ = some (.int .i64 l[j].ed.mi) ∧ w'.cell? ⟨b, o + j * 5 + 2, none⟩ = some (.int .i64 l[j].ed.pa) ∧ w'.cell? ⟨b, o + j * 5 + 3, none⟩ = some (.string l[j].page) ∧ w'.cell? ⟨b, o + j * 5 + 4, none⟩ = some (.bool l[j].hidden) ∧ w'.cell? ⟨b, o + k * 5, none⟩ = some (.int .i64 l[k].ed.ma) ∧ w'.cell? ⟨b, o + k * 5 + 1, none⟩ = some (.int .i64 l[k].ed.mi) ∧ w'.cell? ⟨b, o + k * 5 + 2, none⟩ = some (.int .i64 l[k].ed.pa)) [(0, true), (1, true), (2, true), (3, true), (4, true), (5, false), (6, true), (7, true), (8, true), (9, true), (10, true), (11, true), (12, true), (13, true), (14, true), (15, true), (16, true), (17, true), (18, true), (19, true), (20, true), (21, true), (22, true), (23, true), (24, false), (25, true), (26, true), (27, true)] (by kernel_rfl) (by kernel_rfl) (fun _ _ _ _ _ h => h) (by kernel_rfl) (by decide) ?_ ?_
            · ((try dsimp only); (repeat' apply And.intro) <;> first | assumption | (exact Below.drew (by assumption)) | (simp [go_sem]; done))
            intro hHeld
            repeat (first
              | (refine seq_skip (by simp only [List.getElem?_toArray, List.getElem?_cons_succ, List.getElem?_cons_zero]; first | done | rfl) (by rfl) ?_; (try simp only [Act.put, List.setIfInBounds_toArray, List.set_cons_zero, List.set_cons_succ]))
              | (refine seq_reads (by simp only [List.getElem?_toArray, List.getElem?_cons_succ, List.getElem?_cons_zero]; first | done | rfl) (by rfl) ?_; apply Exists.intro; apply And.intro; (focus (intro w hSw; (try dsimp only at hSw); go_split_ands; go_simp; (try with_reducible rfl); done)); (try simp only [Act.put, List.setIfInBounds_toArray, List.set_cons_zero, List.set_cons_succ]))
              | (refine seq_pass (by simp only [List.getElem?_toArray, List.getElem?_cons_succ, List.getElem?_cons_zero]; first | done | rfl) (by rfl) hHeld ?_; clear hHeld; intro hHeld; (try simp only [Act.put, List.setIfInBounds_toArray, List.set_cons_zero, List.set_cons_succ]))
              | (refine seq_call (by simp only [List.getElem?_toArray, List.getElem?_cons_succ, List.getElem?_cons_zero]; first | done | rfl) (by rfl) (fun K hK => ?_); go_simp; go_at_call 89; refine (keeps (l4Copy_any l[j] _ hpj) (W0 := (w.alloc (.cells (wkL name owner (some ⟨b, o, none⟩) l.length cap) 100))) hHeld.1).mono ?_; rintro r w1 ⟨rfl, b1, kp⟩; go_simp; refine hK.out _ _ ⟨b1, kp _ _ _ hHeld.2.1, kp _ _ _ hHeld.2.2.1, kp _ _ _ hHeld.2.2.2.1, kp _ _ _ hHeld.2.2.2.2.1, kp _ _ _ hHeld.2.2.2.2.2.1, kp _ _ _ hHeld.2.2.2.2.2.2.1, kp _ _ _ hHeld.2.2.2.2.2.2.2.1, kp _ _ _ hHeld.2.2.2.2.2.2.2.2.1, kp _ _ _ hHeld.2.2.2.2.2.2.2.2.2⟩ ?_; clear hHeld kp b1 hK; intro hHeld; (try simp only [Act.put, List.setIfInBounds_toArray, List.set_cons_zero, List.set_cons_succ]))
              | (refine seq_call (by simp only [List.getElem?_toArray, List.getElem?_cons_succ, List.getElem?_cons_zero]; first | done | rfl) (by rfl) (fun K hK => ?_); go_simp; go_at_call 90; refine (keeps (specOlder l[k].ed l[j].ed _) (W0 := (w.alloc (.cells (wkL name owner (some ⟨b, o, none⟩) l.length cap) 100))) hHeld.1).mono ?_; rintro r w1 ⟨rfl, b1, kp⟩; go_simp; refine hK.out _ _ ⟨b1, kp _ _ _ hHeld.2.1, kp _ _ _ hHeld.2.2.1, kp _ _ _ hHeld.2.2.2.1, kp _ _ _ hHeld.2.2.2.2.1, kp _ _ _ hHeld.2.2.2.2.2.1, kp _ _ _ hHeld.2.2.2.2.2.2.1, kp _ _ _ hHeld.2.2.2.2.2.2.2.1, kp _ _ _ hHeld.2.2.2.2.2.2.2.2.1, kp _ _ _ hHeld.2.2.2.2.2.2.2.2.2⟩ ?_; clear hHeld kp b1 hK; intro hHeld; (try simp only [Act.put, List.setIfInBounds_toArray, List.set_cons_zero, List.set_cons_succ])))
            refine seq_end ?_
            go_split_ands
            go_wp2
            go_ret
            exact ⟨ret_bool HE.out.symm, next ((Below.refl _ _).alloc (Nat.le_refl _) _) (by assumption)⟩
          · have HN : Hid (M.upTo l (j + 1)) := Lib.hid (by subst hk; exact M.upTo_next hu hlt hc hol)
            have hpj := hp l[j] (List.getElem_mem (by omega))
            obtain ⟨b, o, rfl, -, c0, c1, c2, c3, c4⟩ := Cps_at (i := j) (hl.alloc _ |>.below hb) (by omega)
            obtain ⟨b', o', hbo, -, d0, d1, d2, d3, d4⟩ := Cps_at (i := k) (hl.alloc _ |>.below hb) (by omega)
            obtain ⟨rfl, rfl⟩ : b = b' ∧ o = o' := by simpa using hbo
            clear hbo d3 d4
            have bx : wr.cell? ⟨w.heap.size, 2, none⟩ = some (.slice (some ⟨b, o, none⟩) l.length cap) := box_cells hb 2
            have HL := Lib.hid hl
            have HU := Lib.hid hu
            clear hl hu
            have e0 : decide ((0 : Int) < (j : Int)) = true := by simp; omega
            have e1 : IntKind.i64.wrap ((j : Int) - 1) = (j : Int) - 1 := IntWalk.i64_in _ (by omega)
            have e2 : ((j : Int) - 1).toNat = k := by omega
            have e3 : (1 : Int) ≤ (j : Int) := by omega
            have e5 : ¬ ((l.length : Int) ≤ (j : Int) - 1) := by omega
            have e4 : k < l.length := by omega
            have HK := Lib.hid hk
            clear hk
            go_wp2_with fail
            refine wp_region_seq (fun w' => Below (w.alloc (.cells (wkL name owner (some ⟨b, o, none⟩) l.length cap) 100)).heap.size (w.alloc (.cells (wkL name owner (some ⟨b, o, none⟩) l.length cap) 100)) w' ∧ w'.cell? ⟨w.heap.size, 2, none⟩ = some (.slice (some ⟨b, o, none⟩) l.length cap) ∧ w'.cell? ⟨b, o + j * 5, none⟩ = some (.int .i64 l[j].ed.ma) ∧ w'.cell? ⟨b, o + j * 5 + 1, none⟩ = some (.int .i64 l[j].ed.mi) ∧ w'.cell? ⟨b, o + j * 5 + 2, none⟩ = some (.int .i64 l[j].ed.pa) ∧ w'.cell? ⟨b, o + j * 5 + 3, none⟩ = some (.string l[j].page) ∧ w'.cell? ⟨b, o + j * 5 + 4, none⟩ = some (.bool l[j].hidden) ∧ w'.cell? ⟨b, o + k * 5, none⟩ = some (.int .i64 l[k].ed.ma) ∧ w'.cell? ⟨b, o + k * 5 + 1, none⟩ = some (.int .i64 l[k].ed.mi) ∧ w'.cell? ⟨b, o + k * 5 + 2, none⟩ = some (.int .i64 l[k].ed.pa)) [(0, true), (1, true), (2, true), (3, true), (4, true), (5, false), (6, true), (7, true), (8, true), (9, true), (10, true), (11, true), (12, true), (13, true), (14, true), (15, true), (16, true), (17, true), (18, true), (19, true), (20, true), (21, true), (22, true), (23, true), (24, false), (25, true), (26, true), (27, true)] (by kernel_rfl) (by kernel_rfl) (fun _ _ _ _ _ h => h) (by kernel_rfl) (by decide) ?_ ?_
            · ((try dsimp only); (repeat' apply And.intro) <;> first | assumption | (exact Below.drew (by assumption)) | (simp [go_sem]; done))
            intro hHeld
            repeat (first
              | (refine seq_skip (by simp only [List.getElem?_toArray, List.getElem?_cons_succ, List.getElem?_cons_zero]; first | done | rfl) (by rfl) ?_; (try simp only [Act.put, List.setIfInBounds_toArray, List.set_cons_zero, List.set_cons_succ]))
              | (refine seq_reads (by simp only [List.getElem?_toArray, List.getElem?_cons_succ, List.getElem?_cons_zero]; first | done | rfl) (by rfl) ?_; apply Exists.intro; apply And.intro; (focus (intro w hSw; (try dsimp only at hSw); go_split_ands; go_simp; (try with_reducible rfl); done)); (try simp only [Act.put, List.setIfInBounds_toArray, List.set_cons_zero, List.set_cons_succ]))
              | (refine seq_pass (by simp only [List.getElem?_toArray, List.getElem?_cons_succ, List.getElem?_cons_zero]; first | done | rfl) (by rfl) hHeld ?_; clear hHeld; intro hHeld; (try simp only [Act.put, List.setIfInBounds_toArray, List.set_cons_zero, List.set_cons_succ]))
              | (refine seq_call (by simp only [List.getElem?_toArray, List.getElem?_cons_succ, List.getElem?_cons_zero]; first | done | rfl) (by rfl) (fun K hK => ?_); go_simp; go_at_call 89; refine (keeps (l4Copy_any l[j] _ hpj) (W0 := (w.alloc (.cells (wkL name owner (some ⟨b, o, none⟩) l.length cap) 100))) hHeld.1).mono ?_; rintro r w1 ⟨rfl, b1, kp⟩; go_simp; refine hK.out _ _ ⟨b1, kp _ _ _ hHeld.2.1, kp _ _ _ hHeld.2.2.1, kp _ _ _ hHeld.2.2.2.1, kp _ _ _ hHeld.2.2.2.2.1, kp _ _ _ hHeld.2.2.2.2.2.1, kp _ _ _ hHeld.2.2.2.2.2.2.1, kp _ _ _ hHeld.2.2.2.2.2.2.2.1, kp _ _ _ hHeld.2.2.2.2.2.2.2.2.1, kp _ _ _ hHeld.2.2.2.2.2.2.2.2.2⟩ ?_; clear hHeld kp b1 hK; intro hHeld; (try simp only [Act.put, List.setIfInBounds_toArray, List.set_cons_zero, List.set_cons_succ]))
              | (refine seq_call (by simp only [List.getElem?_toArray, List.getElem?_cons_succ, List.getElem?_cons_zero]; first | done | rfl) (by rfl) (fun K hK => ?_); go_simp; go_at_call 90; refine (keeps (specOlder l[k].ed l[j].ed _) (W0 := (w.alloc (.cells (wkL name owner (some ⟨b, o, none⟩) l.length cap) 100))) hHeld.1).mono ?_; rintro r w1 ⟨rfl, b1, kp⟩; go_simp; refine hK.out _ _ ⟨b1, kp _ _ _ hHeld.2.1, kp _ _ _ hHeld.2.2.1, kp _ _ _ hHeld.2.2.2.1, kp _ _ _ hHeld.2.2.2.2.1, kp _ _ _ hHeld.2.2.2.2.2.1, kp _ _ _ hHeld.2.2.2.2.2.2.1, kp _ _ _ hHeld.2.2.2.2.2.2.2.1, kp _ _ _ hHeld.2.2.2.2.2.2.2.2.1, kp _ _ _ hHeld.2.2.2.2.2.2.2.2.2⟩ ?_; clear hHeld kp b1 hK; intro hHeld; (try simp only [Act.put, List.setIfInBounds_toArray, List.set_cons_zero, List.set_cons_succ])))
            refine seq_end ?_
            go_split_ands
            go_wp2
            go_roundw
            case rel => exact ⟨j + 1, by go_num, by omega, HN.out, by assumption⟩
            case measure => simp [intOf]; omega
    · have hj' : j = l.length := by omega
      subst hj'
      have hk := M.upTo_all l hu
      have b0 := next ((Below.refl w.heap.size w).alloc (Nat.le_refl _) _) hb
      have x0 : wr.cell? ⟨w.heap.size, 0, none⟩ = some (.string name) := box_cells hb 0
      have x1 : wr.cell? ⟨w.heap.size, 1, none⟩ = some (.int .i64 owner) := box_cells hb 1
      have x2 : wr.cell? ⟨w.heap.size, 2, none⟩ = some (.slice A l.length cap) := box_cells hb 2
      have HL := Lib.hid hl
      clear hl hu
      rcases h1 : M.nameOk name.data.toList with _ | _
      · have HE : Hid (M.wkOk ⟨name, owner, l⟩ = false) := Lib.hid (by simp [M.wkOk, h1])
        clear hk
        go_wp2_with fail
        refine (specNameOk name _ hn).mono ?_
        rintro r w1 ⟨rfl, rfl⟩
        go_wp2
        go_ret
        exact ⟨ret_bool HE.out.symm, b0⟩
      · rcases h2 : M.inI owner 0 3 with _ | _
        · have HE : Hid (M.wkOk ⟨name, owner, l⟩ = false) := Lib.hid (by simp [M.wkOk, h2])
          clear hk
          go_wp2_with fail
          refine (specNameOk name _ hn).mono ?_
          rintro r w1 ⟨rfl, rfl⟩
          go_wp2_with fail
          refine (l3Who_any owner _).mono ?_
          rintro r w1 ⟨rfl, rfl⟩
          go_wp2
          go_ret
          exact ⟨ret_bool HE.out.symm, b0⟩
        · have HE : Hid (M.wkOk ⟨name, owner, l⟩ = decide (l.length ≤ 8)) := Lib.hid (by simp [M.wkOk, h1, h2, hk])
          clear hk
          go_wp2_with fail
          refine (specNameOk name _ hn).mono ?_
          rintro r w1 ⟨rfl, rfl⟩
          go_wp2_with fail
          refine (l3Who_any owner _).mono ?_
          rintro r w1 ⟨rfl, rfl⟩
          go_wp2
          go_ret
          exact ⟨ret_bool (by rw [HE.out]; simp; omega), b0⟩

end Go.Proofs.YtkpbfocnokbmiaaGreat
namespace Go.Proofs.YtkpbfocnokbmiaaGreat
namespace M

/-- Where the copy of an edition stands. -/
def isEd (e : Ed) (c : Cp) : Bool := decide (c.ed = e)
def notOlder (e : Ed) (c : Cp) : Bool := !older c.ed e
def findEd (l : List Cp) (e : Ed) : Nat := l.findIdx (isEd e)
/-- The same as the model tells it. -/
def findInt (l : List Cp) (e : Ed) : Int := if findEd l e < l.length then (findEd l e : Int) else -1
theorem findInt_pos {l : List Cp} {e : Ed} (h : findEd l e < l.length) : findInt l e = findEd l e := if_pos h
theorem findInt_neg {l : List Cp} {e : Ed} (h : findEd l e = l.length) : findInt l e = -1 := if_neg (by omega)
def place (l : List Cp) (e : Ed) : Nat := l.findIdx (notOlder e)
def isAt (l : List Cp) (e : Ed) : Bool := match l[place l e]? with
  | some c => isEd e c
  | none => false

theorem rises_lt {l : List Cp} (h : risesB l = true) : ∀ (j i : Nat) (hi : i < j) (hj : j < l.length), older (l[i]'(by omega)).ed l[j].ed = true := by
  intro j
  induction j with
  | zero => intro i hi; omega
  | succ j ih =>
    intro i hi hj
    have h1 := (risesB_iff l).1 h j hj
    by_cases e : i = j
    · subst e; exact h1
    · exact older_trans _ _ _ (ih i (by omega) (by omega)) h1

/-- Among copies that rise an edition that is there is at its place. -/
theorem place_find {l : List Cp} (h : risesB l = true) (e : Ed) : (isAt l e = true ∧ findEd l e < l.length ∧ place l e = findEd l e) ∨ (isAt l e = false ∧ findEd l e = l.length) := by
  by_cases hf : findEd l e < l.length
  · left
    have h1 : isEd e (l[findEd l e]'hf) = true := List.findIdx_getElem (w := hf)
    have h2 : (l[findEd l e]'hf).ed = e := by simpa [isEd] using h1
    have hp : place l e = findEd l e := by
      refine (List.findIdx_eq hf).2 ⟨?_, fun j hj => ?_⟩
      · simp [notOlder, h2, older_irrefl]
      · have := rises_lt h (findEd l e) j hj hf
        rw [h2] at this
        simp [notOlder, this]
    refine ⟨?_, hf, hp⟩
    unfold isAt
    rw [hp, List.getElem?_eq_getElem hf]
    exact h1
  · right
    have hf' : findEd l e = l.length := by
      have := List.findIdx_le_length (p := isEd e) (xs := l)
      unfold findEd at hf ⊢; omega
    refine ⟨?_, hf'⟩
    unfold isAt
    rcases hp : l[place l e]? with _ | c
    · rfl
    · have hm : c ∈ l := List.mem_of_getElem? hp
      have := List.findIdx_eq_length.1 hf' c hm
      simpa using this

def copyIn (w : Wk) (e : Ed) : Cp × Bool := if wkOk w then match w.copies[findEd w.copies e]? with
  | some c => (c, true)
  | none => (zeroCp, false) else (zeroCp, false)
theorem copyIn_bad {w : Wk} (e : Ed) (h : wkOk w = false) : copyIn w e = (zeroCp, false) := by simp [copyIn, h]
theorem copyIn_none {w : Wk} {e : Ed} (h : findEd w.copies e = w.copies.length) : copyIn w e = (zeroCp, false) := by
  unfold copyIn
  rw [h, List.getElem?_eq_none (Nat.le_refl _)]
  split <;> rfl
theorem copyIn_some {w : Wk} {e : Ed} (h : wkOk w = true) (hf : findEd w.copies e < w.copies.length) : copyIn w e = (w.copies[findEd w.copies e], true) := by
  unfold copyIn
  rw [if_pos h, List.getElem?_eq_getElem hf]
theorem wkOk_rises {w : Wk} (h : wkOk w = true) : risesB w.copies = true ∧ w.copies.length ≤ 8 ∧ (∀ c ∈ w.copies, cpOk c = true) := by
  simp only [wkOk, cpsOk, Bool.and_eq_true, decide_eq_true_eq, List.all_eq_true] at h
  exact ⟨h.2.2, h.1.2, h.2.1⟩

/-- Is it shown, and does it fit? -/
def shown (want : Ed) (c : Cp) : Bool := !c.hidden && fits c.ed want
/-- The last of the first k that is so. -/
def lastTo (p : Cp → Bool) (l : List Cp) : Nat → Option Nat
  | 0 => none
  | k + 1 => match l[k]? with
    | some c => if p c then some k else lastTo p l k
    | none => lastTo p l k
theorem lastTo_no {p : Cp → Bool} {l : List Cp} {k : Nat} (hk : k < l.length) (h : p l[k] = false) : lastTo p l (k + 1) = lastTo p l k := by
  simp [lastTo, List.getElem?_eq_getElem hk, h]
/-- How far a search from the end has come: nothing is left, or place j is next. -/
def Back (p : Cp → Bool) (l : List Cp) (i : Int) : Prop := (i = -1 ∧ lastTo p l l.length = none) ∨ ∃ j : Nat, i = j ∧ j < l.length ∧ lastTo p l l.length = lastTo p l (j + 1)
theorem Back.start (p : Cp → Bool) (l : List Cp) : Back p l ((l.length : Int) - 1) := by
  rcases Nat.eq_zero_or_pos l.length with h | h
  · exact .inl ⟨by omega, by rw [h]; rfl⟩
  · exact .inr ⟨l.length - 1, by omega, by omega, by rw [Nat.sub_add_cancel h]⟩
theorem Back.next {p : Cp → Bool} {l : List Cp} {j : Nat} (hj : j < l.length) (h : lastTo p l l.length = lastTo p l (j + 1)) (hp : p l[j] = false) : Back p l ((j : Int) - 1) := by
  rw [lastTo_no hj hp] at h
  rcases Nat.eq_zero_or_pos j with h0 | h0
  · exact .inl ⟨by omega, by rw [h, h0]; rfl⟩
  · exact .inr ⟨j - 1, by omega, by omega, by rw [h, Nat.sub_add_cancel h0]⟩
end M
end Go.Proofs.YtkpbfocnokbmiaaGreat
namespace Go.Proofs.YtkpbfocnokbmiaaGreat
open Go.RowKit
set_option maxRecDepth 20000

theorem ed_eql (a b : M.Ed) (w : World) : (binOp .eql 29 (edV a) (edV b)).run Tryz.prog w = .ok (.bool (decide (a = b))) w := by
  by_cases h0 : a.ma = b.ma
  · have h0' : (a.ma == b.ma) = true := by simpa using h0
    by_cases h1 : a.mi = b.mi
    · have h1' : (a.mi == b.mi) = true := by simpa using h1
      have e : decide (a = b) = (a.pa == b.pa) := by rw [Bool.eq_iff_iff]; simp [M.ed_ext, h0, h1]
      rcases h2' : (a.pa == b.pa) with _ | _ <;> rw [e, h2'] <;> simp [go_sem, h0', h1', h2', Tryz.underlying29, Tryz.underlying2]
    · have h1' : (a.mi == b.mi) = false := by simpa using h1
      have e : decide (a = b) = false := by simp [M.ed_ext, h1]
      rw [e]
      simp [go_sem, h0', h1']
  · have h0' : (a.ma == b.ma) = false := by simpa using h0
    have e : decide (a = b) = false := by simp [M.ed_ext, h0]
    rw [e]
    simp [go_sem, h0']
theorem eql_read {A : Act} {o : Oper} {x y : Operand} {a b : M.Ed} (ho : o.op = .binOp .eql 29 x y 29) (hx : A.eval x = edV a) (hy : A.eval y = edV b) (w : World) :
    (execOp A.eval o).run Tryz.prog w = .ok (.value (.bool (decide (a = b)))) w := by
  unfold execOp
  rw [ho]
  have hg := fun (op : BinOp) (x y : Operand) (xs ys : Array Value) (w : World) => run_eqGuard_agg (P := Tryz.prog) w op 29 x y xs ys (by kernel_rfl)
  have he := fun w => ed_eql a b w
  simp only [edV] at he hx hy
  simp only [hx, hy, Sem.run_bind, hg, he, Result.andThen_ok, Sem.run_pure]
end Go.Proofs.YtkpbfocnokbmiaaGreat
