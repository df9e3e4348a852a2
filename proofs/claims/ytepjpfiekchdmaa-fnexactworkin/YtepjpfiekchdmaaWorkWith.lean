/- Proved: the program's list method with answers the list with one copy more, in new memory; it writes nothing that was there. Condition: at most a million copies. -/
import Derived.Test.YtepjpfiekchdmaaWorkOwn2
import Derived.Maps.AppendAt
namespace Go.Proofs.Ytepjpfiekchdmaa
open Go.RowKit
set_option maxRecDepth 20000

/-- append of a slice of records, and where the row then lies. -/
theorem wp_append_flat_at {α : Type} {enc : α → List Value} {k : Nat} {w : World} {l : List α} {P : Program} {o : Oper} {a : Act} {K : Act → World → Prop} {Q : Exit → Act → World → Prop} (s x : Operand) (t : TypeId)
    (ho : o.op = .call { callee := .builtin .append, args := #[s, x], argTypes := #[t, t] })
    (base : Nat) (e : TypeId) (i : TypeInfo) (z : Value) (bytes : Nat) (ht : P.underlying t = some (.slice e)) (hi : P.info? e = some i) (hz : i.zero = some z)
    (hsize : i.size = k) (hby : i.bytes = bytes) (hzs : z.cells.size = k) (hsz : 0 < k)
    (v : Value) (n : Nat) (xs : List Value) (hs : a.eval s = v) (hown : w.ownsRow base e k v n xs)
    (A : Option Addr) (c : Nat) (hx : a.eval x = .slice A l.length c) (hA : A = none → c = 0) (hfl : Flat enc k w A l) (hk : ∀ x, (enc x).length = k) (h1 : ∀ u ∈ cellsOf enc l, u.oneCell' = true)
    (h63 : n + l.length ≤ maxLen) (hbytes : (n + l.length) * bytes ≤ 140737488355328) (hbase : base ≤ w.heap.size)
    (h : ∀ v' w', w'.ownsRow base e k v' (n + l.length) (xs ++ cellsOf enc l) → w.grownBy w' v.ownBlock → (v'.ownBlock = v.ownBlock ∨ v'.ownBlock = some w.heap.size) → K (a.put o.dst v') w') : o.wp P a w K Q := by
  rcases A with _ | ad
  · have hl := flat_none hfl
    have hc := hA rfl
    subst hl hc
    have hrun := run_append_owned_none (P := P) w base t o.type e i k ht hi v n xs hown
    unfold Oper.wp execOp
    simp only [List.length_nil] at hx
    simp only [ho, resolve, invoke, builtin, Sem.run_bind, Sem.run_pure, Result.andThen_ok, List.map_toArray, List.map_cons, List.map_nil, hs, hx, hrun]
    refine h v w ?_ ⟨rfl, rfl, rfl, Nat.le_refl _, fun _ _ _ => rfl⟩ (.inl rfl)
    simpa [cellsOf] using hown
  · obtain ⟨v', w', hr, h2, h3, _, h5⟩ := run_append_own_at (P := P) w base t o.type e i z k bytes ht hi hz hsize hby hzs hsz v n xs hown ad l.length c (cellsOf enc l) (cellsOf_len hk l) (flat_news hk hsz hfl) h1 h63 hbytes hbase
    unfold Oper.wp execOp
    simp only [ho, resolve, invoke, builtin, Sem.run_bind, Sem.run_pure, Result.andThen_ok, List.map_toArray, List.map_cons, List.map_nil, hs, hx, hr]
    exact h v' w' h2 h3 h5
theorem CpOwn.apartN {B : Nat} {w : World} {v : Value} {l : List M.Cp} (h : CpOwn B w v l) {a : Addr} (ha : v.ownBlock ≠ some a.block) (u : Value) : CpOwn B (w.setCell a u) v l := by
  obtain ⟨hl, h0 | ⟨k, cap, cur, rfl, hb, hh, hr⟩⟩ := h
  · exact ⟨hl, .inl h0⟩
  · exact ⟨hl, .inr ⟨k, cap, cur, rfl, hb, (Below.heap_setCell _ _ _ _ (fun e => ha (by rw [← e]; rfl))).trans hh, hr⟩⟩
theorem own_blk (A : Option Addr) (n m c d : Nat) : (Value.slice A n c).ownBlock = (Value.slice A m d).ownBlock := by cases A <;> rfl
theorem own_k {B k : Nat} {w : World} {v : Value} {l : List M.Cp} (hk : l.length = k) (h : CpOwn B w v l) : w.ownsRow B 57 5 v k (cellsOf cpL l) := by subst hk; exact h
theorem k_own {B k : Nat} {w : World} {v : Value} {l : List M.Cp} (hk : l.length = k) (h : w.ownsRow B 57 5 v k (cellsOf cpL l)) : CpOwn B w v l := by subst hk; exact h
theorem own_two {o1 o2 : Option Nat} (h : ∀ k, o1 = some k → o2 ≠ some k) : o1 = none ∨ o1 ≠ o2 := by
  rcases o1 with _ | k
  · exact .inl rfl
  · exact .inr fun e => h k rfl e.symm
theorem own_cap {B : Nat} {w : World} {A : Option Addr} {n c : Nat} {l : List M.Cp} (h : CpOwn B w (.slice A n c) l) : l.length ≤ c := by
  obtain ⟨_, ⟨h0, hn⟩ | ⟨g, cap, cur, hv, _, _, hnc, _⟩⟩ := h
  · omega
  · injection hv with _ _ hc
    omega
theorem CpOwn.nilc {B : Nat} {w : World} {A : Option Addr} {n c : Nat} {l : List M.Cp} (h : CpOwn B w (.slice A n c) l) : A = none → c = 0 := by
  obtain ⟨A', c', hv, _, hc⟩ := h.open
  injection hv with hA _ hcc
  subst hA hcc
  exact hc

end Go.Proofs.Ytepjpfiekchdmaa
