/- Proved: append of a slice of records onto a row of the call's own, the source nil, empty or not; cuts of such a row; no program's function is named here. Condition: the bytes fit. -/
import Derived.Test.YtnelgadfgeakjaaFlat
import Derived.Test.YtnelgadfgeakjaaWorkTo
import Derived.OwnWalk
namespace Go.Proofs.Ytnelgadfgeakjaa
open Go.RowKit

/-- A goal at which a walk stands still. -/
def Stop (p : Prop) : Prop := p
theorem stop_mk {p : Prop} (h : Stop p) : p := h
theorem stop_un {p : Prop} (h : p) : Stop p := h

section
variable {α : Type} {enc : α → List Value} {k : Nat} {w w' : World} {l : List α}
theorem flat_news {ad : Addr} (hk : ∀ x, (enc x).length = k) (hk0 : 0 < k) (h : Flat enc k w (some ad) l) : ∀ j u, (cellsOf enc l)[j]? = some u → w.cell? (ad.add j) = some u := by
  intro j u hu
  rcases h with rfl | ⟨b, o, hA, hlt, h⟩
  · simp [cellsOf] at hu
  · obtain rfl : ad = ⟨b, o, none⟩ := by injection hA
    have hj : j < l.length * k := by
      have := (List.getElem?_eq_some_iff.1 hu).1
      rwa [cellsOf_len hk] at this
    have hi : j / k < l.length := Nat.div_lt_of_lt_mul (by rw [Nat.mul_comm]; exact hj)
    have ht : j % k < k := Nat.mod_lt _ hk0
    have hd : j / k * k + j % k = j := by rw [Nat.mul_comm]; exact Nat.div_add_mod j k
    have h1 := cellsOf_at hk l (j / k) (j % k) l[j / k] (List.getElem?_eq_getElem hi) ht
    rw [hd, hu] at h1
    have := h (j / k) (j % k) l[j / k] u (List.getElem?_eq_getElem hi) h1.symm
    rw [Nat.add_assoc, hd] at this
    rw [addr_add]; exact this
theorem flat_none (h : Flat enc k w none l) : l = [] := by
  rcases h with h | ⟨b, o, hA, _⟩
  · exact h
  · cases hA

theorem Flat.cutTake {A : Option Addr} (h : Flat enc k w A l) (m : Nat) : Flat enc k w A (l.take m) := by
  rcases h with rfl | ⟨b, o, rfl, hlt, h⟩
  · exact .inl (by simp)
  · refine .inr ⟨b, o, rfl, hlt, fun i t x u hi hu => h i t x u ?_ hu⟩
    rw [List.getElem?_take] at hi
    split at hi
    · exact hi
    · cases hi
/-- What a slice cut from place m on points to. -/
def cutAt (A : Option Addr) (cap m k : Nat) : Option Addr := if cap = m then A else A.map (·.add (m * k))
theorem Flat.cutDrop {A : Option Addr} {cap : Nat} (h : Flat enc k w A l) (m : Nat) (hc : l.length ≤ cap) : Flat enc k w (cutAt A cap m k) (l.drop m) := by
  by_cases hm : m < l.length
  · rcases h with rfl | ⟨b, o, rfl, hlt, h⟩
    · simp at hm
    · unfold cutAt
      rw [if_neg (by omega)]
      refine .inr ⟨b, o + m * k, ?_, hlt, fun i t x u hi hu => ?_⟩
      · simp [addr_add]
      · rw [List.getElem?_drop] at hi
        have := h (m + i) t x u hi hu
        rw [Nat.add_mul, ← Nat.add_assoc] at this
        exact this
  · exact .inl (List.drop_eq_nil_of_le (by omega))
theorem cutAt_none {A : Option Addr} {cap m : Nat} (hA : A = none → cap = 0) : cutAt A cap m k = none → cap - m = 0 := by
  unfold cutAt
  intro h
  split at h
  · omega
  · rcases A with _ | a
    · have := hA rfl; omega
    · simp at h

/-- append of a slice of records. -/
theorem wp_append_flat {P : Program} {o : Oper} {a : Act} {K : Act → World → Prop} {Q : Exit → Act → World → Prop} (s x : Operand) (t : TypeId)
    (ho : o.op = .call { callee := .builtin .append, args := #[s, x], argTypes := #[t, t] })
    (base : Nat) (e : TypeId) (i : TypeInfo) (z : Value) (bytes : Nat) (ht : P.underlying t = some (.slice e)) (hi : P.info? e = some i) (hz : i.zero = some z)
    (hsize : i.size = k) (hby : i.bytes = bytes) (hzs : z.cells.size = k) (hsz : 0 < k)
    (v : Value) (n : Nat) (xs : List Value) (hs : a.eval s = v) (hown : w.ownsRow base e k v n xs)
    (A : Option Addr) (c : Nat) (hx : a.eval x = .slice A l.length c) (hA : A = none → c = 0) (hfl : Flat enc k w A l) (hk : ∀ x, (enc x).length = k) (h1 : ∀ u ∈ cellsOf enc l, u.oneCell' = true)
    (h63 : n + l.length ≤ maxLen) (hbytes : (n + l.length) * bytes ≤ 140737488355328) (hbase : base ≤ w.heap.size)
    (h : ∀ v' w', w'.ownsRow base e k v' (n + l.length) (xs ++ cellsOf enc l) → w.grownBy w' v.ownBlock → K (a.put o.dst v') w') : o.wp P a w K Q := by
  rcases A with _ | ad
  · have hl := flat_none hfl
    have hc := hA rfl
    subst hl hc
    have hrun := run_append_owned_none (P := P) w base t o.type e i k ht hi v n xs hown
    unfold Oper.wp execOp
    simp only [List.length_nil] at hx
    simp only [ho, resolve, invoke, builtin, Sem.run_bind, Sem.run_pure, Result.andThen_ok, List.map_toArray, List.map_cons, List.map_nil, hs, hx, hrun]
    refine h v w ?_ ⟨rfl, rfl, rfl, Nat.le_refl _, fun _ _ _ => rfl⟩
    simpa [cellsOf] using hown
  · exact wp_append_own w s x t ho base e i z k bytes ht hi hz hsize hby hzs hsz v n xs hs hown ad l.length c (cellsOf enc l) hx (cellsOf_len hk l) (flat_news hk hsz hfl) h1 h63 hbytes hbase fun v' w' h2 h3 _ => h v' w' h2 h3
theorem wpList_append_flat {P : Program} {ops : Array Oper} {rest : List Oper} {o : Oper} {a : Act} {Q : Exit → Act → World → Prop} (hgd : o.guard = none) (s x : Operand) (t : TypeId)
    (ho : o.op = .call { callee := .builtin .append, args := #[s, x], argTypes := #[t, t] })
    (base : Nat) (e : TypeId) (i : TypeInfo) (z : Value) (bytes : Nat) (ht : P.underlying t = some (.slice e)) (hi : P.info? e = some i) (hz : i.zero = some z)
    (hsize : i.size = k) (hby : i.bytes = bytes) (hzs : z.cells.size = k) (hsz : 0 < k)
    (v : Value) (n : Nat) (xs : List Value) (hs : a.eval s = v) (hown : w.ownsRow base e k v n xs)
    (A : Option Addr) (c : Nat) (hx : a.eval x = .slice A l.length c) (hA : A = none → c = 0) (hfl : Flat enc k w A l) (hk : ∀ x, (enc x).length = k) (h1 : ∀ u ∈ cellsOf enc l, u.oneCell' = true)
    (h63 : n + l.length ≤ maxLen) (hbytes : (n + l.length) * bytes ≤ 140737488355328) (hbase : base ≤ w.heap.size)
    (h : ∀ v' w', w'.ownsRow base e k v' (n + l.length) (xs ++ cellsOf enc l) → w.grownBy w' v.ownBlock → wpList P ops Q rest (a.put o.dst v') w') : wpList P ops Q (o :: rest) a w :=
  wpList_plain hgd fun _ hK => wp_append_flat s x t ho base e i z bytes ht hi hz hsize hby hzs hsz v n xs hs hown A c hx hA hfl hk h1 h63 hbytes hbase fun v' w' h2 h3 => hK _ _ (h v' w' h2 h3)

/-- The first n of a row of one's own. -/
theorem own_cut {base e g n m cap : Nat} {xs : List Value} (h : w.ownsRow base e k (.slice (some ⟨g, 0, none⟩) n cap) n xs) (hm : m ≤ n) : w.ownsRow base e k (.slice (some ⟨g, 0, none⟩) m cap) m (xs.take (m * k)) := by
  obtain ⟨hl, ⟨h0, _⟩ | ⟨g', cap', cur, hv, hb, hh, hnc, hcm, hcs, ht⟩⟩ := h
  · simp at h0
  · have hmk : m * k ≤ n * k := Nat.mul_le_mul_right k hm
    simp only [Value.slice.injEq, Option.some.injEq, Addr.mk.injEq, and_true, true_and] at hv
    obtain ⟨rfl, rfl⟩ := hv
    refine ⟨by rw [List.length_take, hl]; omega, .inr ⟨g, cap, cur, rfl, hb, hh, by omega, hcm, hcs, ?_⟩⟩
    rw [← ht, List.take_take, Nat.min_eq_left hmk]
theorem grown_holds {g : Nat} {C : Array Value} {row : Option Nat} (h : Holds w g C) (hg : w.grownBy w' row) (hne : some g ≠ row) : Holds w' g C :=
  ⟨Nat.lt_of_lt_of_le h.1 hg.size, fun j v hj => (World.cell?_of_block (a := ⟨g, j, none⟩) (hg.block g h.1 hne)).trans (h.2 j v hj)⟩
theorem grown_loose {g : Nat} {row : Option Nat} (h : Loose w g) (hlt : g < w.heap.size) (hg : w.grownBy w' row) (hne : some g ≠ row) : Loose w' g := fun j => by
  have := hg.block g hlt hne
  have h' := h j
  unfold World.frozen? at h' ⊢
  rw [this]; exact h'
theorem own_ne {base e n : Nat} {v : Value} {xs : List Value} (h : w.ownsRow base e k v n xs) {g : Nat} (hg : g < base) : some g ≠ v.ownBlock := fun he => by
  have := (h.lt g he.symm).1; omega
end

theorem cp_one (l : List M.Cp) : ∀ u ∈ cellsOf cpL l, u.oneCell' = true := by
  intro u hu
  unfold cellsOf at hu
  rw [List.mem_flatMap] at hu
  obtain ⟨c, _, hc⟩ := hu
  simp at hc
  rcases hc with rfl | rfl | rfl | rfl | rfl <;> rfl
end Go.Proofs.Ytnelgadfgeakjaa
