/- Proved, in parts: Proved: facts on a map of works by their names: what it holds behind a store, which names it has; no program's function is named here; no condition. Proved: append of a slice of records onto a row of the call's own, the source nil, empty or not; cuts of such a row; no program's function is named here. Condition: the bytes fit. -/
import Derived.Test.YtblcgbgcccjpcaaGreatPart05
import Derived.Test.YtblcgbgcccjpcaaGreatPart06
import Derived.Maps.OwnSet
import Derived.Sort.KeysCollected
import Derived.Test.YtblcgbgcccjpcaaGreatPart01
import Derived.OwnWalk
namespace Go.Proofs.YtblcgbgcccjpcaaGreat
open Go.RowKit Go.ChangeMaps Go.MapKept Go.WideElems
set_option maxRecDepth 20000

/-- A work in the map reads as itself. -/
def heldR (v : Value) : Option (DataW Value × List MemPlace) := some (.held v, [])
abbrev nmL (r : Wr) : List UInt8 := r.name.data.toList
abbrev ent (r : Wr) : Lit × DataW Value := (.string (nmL r), .held (wrV r))
/-- The map that holds the works l, in this order. -/
def mapD (l : List Wr) : DataW Value := .map (l.map ent)
def insW (r : Wr) : List Wr → List Wr
  | [] => [r]
  | x :: l => if bytesBefore (nmL r) (nmL x) then r :: x :: l else x :: insW r l
def putW (l : List Wr) (r : Wr) : List Wr := insW r (l.filter fun x => !(nmL x == nmL r))
def findW (l : List Wr) (n : List UInt8) : Option Wr := l.find? fun x => nmL x == n

theorem before_less : ∀ a b : List UInt8, bytesBefore a b = Op.bytesLess a b
  | [], [] => rfl
  | [], _ :: _ => rfl
  | _ :: _, [] => rfl
  | a :: x, b :: y => by simp only [bytesBefore, Op.bytesLess, before_less x y]
theorem before_name (a b : ByteArray) : bytesBefore a.data.toList b.data.toList = M.nameLt a b := by
  rw [before_less]
  unfold M.nameLt
  rw [ByteArray.toList_eq, ByteArray.toList_eq]

theorem ent_ins (r : Wr) : ∀ l : List Wr, DataW.insert (ent r) (l.map ent) = (insW r l).map ent
  | [] => rfl
  | x :: l => by
    have ih := ent_ins r l
    by_cases h : bytesBefore (nmL r) (nmL x) = true
    · have h' : (ent r).1.before (ent x).1 = true := h
      rw [List.map_cons, DataW.insert, if_pos h', insW, if_pos h]; rfl
    · have h' : ¬ (ent r).1.before (ent x).1 = true := h
      rw [List.map_cons, DataW.insert, if_neg h', insW, if_neg h, ih]; rfl
theorem mapD_put (l : List Wr) (r : Wr) : (mapD l).put (.string (nmL r)) (.held (wrV r)) = mapD (putW l r) := by
  unfold mapD DataW.put putW
  simp only
  rw [← ent_ins]
  congr 1
  rw [List.filter_map]
  rfl
theorem mapD_size (l : List Wr) : Maps.size (mapD l) = l.length := by simp [mapD, Maps.size]
theorem mapD_has (l : List Wr) (n : List UInt8) : Maps.has (mapD l) (.string n) = (findW l n).isSome := by
  unfold mapD findW
  rw [Maps.has_eq, List.any_map, Bool.eq_iff_iff, List.any_eq_true, List.find?_isSome]
  rfl
theorem mapD_at (l : List Wr) (n : List UInt8) (z : DataW Value) : (mapD l).atKey (.string n) z = match findW l n with
    | some r => .held (wrV r)
    | none => z := by
  unfold mapD findW DataW.atKey
  simp only
  rw [List.find?_map]
  have e : (fun p : Lit × DataW Value => p.1.sameKey (.string n)) ∘ ent = fun x => nmL x == n := rfl
  rw [e]
  rcases l.find? (fun x => nmL x == n) with _ | r <;> rfl
theorem mapD_keys (l : List Wr) : strKeys (mapD l) = l.map nmL := by
  show (l.map ent).map (fun p => Go.strOf p.1) = l.map nmL
  rw [List.map_map]
  rfl

/-- Names rise. -/
def RiseW (l : List Wr) : Prop := l.Pairwise fun a b => bytesBefore (nmL a) (nmL b) = true
theorem insW_snoc (r : Wr) : ∀ l : List Wr, (∀ x ∈ l, bytesBefore (nmL r) (nmL x) = false) → insW r l = l ++ [r]
  | [], _ => rfl
  | x :: l, h => by
    rw [insW, if_neg (by rw [h x (by simp)]; simp), insW_snoc r l fun y hy => h y (List.mem_cons_of_mem _ hy)]
    rfl
theorem before_asymm {a b : List UInt8} (h : bytesBefore a b = true) : bytesBefore b a = false ∧ (a == b) = false := by
  rw [before_less] at h ⊢
  have := bytesLess_tri a b
  rw [h] at this
  have h2 : (Op.bytesLess b a || b == a) = false := by
    rcases hx : (Op.bytesLess b a || b == a) with _ | _
    · rfl
    · rw [hx] at this; cases this
  rw [Bool.or_eq_false_iff] at h2
  refine ⟨h2.1, ?_⟩
  rw [beq_eq_false_iff_ne] at h2 ⊢
  exact fun e => h2.2 e.symm
theorem putW_snoc {l : List Wr} {r : Wr} (h : ∀ x ∈ l, bytesBefore (nmL x) (nmL r) = true) : putW l r = l ++ [r] := by
  unfold putW
  rw [List.filter_eq_self.2 fun x hx => by rw [(before_asymm (h x hx)).2]; rfl]
  exact insW_snoc r l fun x hx => (before_asymm (h x hx)).1

/-- The lists of the works rs lie in memory of one's own, each in a block of its own. -/
def RsOwn (B : Nat) (w : World) (rs : List Wr) : Prop := (∀ r ∈ rs, CpOwn B w r.sl r.cps) ∧ rs.Pairwise fun a b => Apart a.sl b.sl
theorem RsOwn.nil (B : Nat) (w : World) : RsOwn B w [] := ⟨by simp, List.Pairwise.nil⟩
theorem RsOwn.below {B : Nat} {w w' : World} {rs : List Wr} (h : RsOwn B w rs) (hb : Below w.heap.size w w') : RsOwn B w' rs := ⟨fun r hr => (h.1 r hr).below hb, h.2⟩
theorem RsOwn.mono {B B' : Nat} {w : World} {rs : List Wr} (h : RsOwn B w rs) (hb : B' ≤ B) : RsOwn B' w rs := ⟨fun r hr => (h.1 r hr).mono hb, h.2⟩
theorem cp_by {b g : Nat} {x y : World} {v : Value} {l : List M.Cp} (h : CpOwn b x v l) (hg : x.grownBy y (some g)) (hb : g < b) : CpOwn b y v l := by
  obtain ⟨hl, h0 | ⟨k, cap, cur, rfl, hk, hh, hr⟩⟩ := h
  · exact ⟨hl, .inl h0⟩
  · refine ⟨hl, .inr ⟨k, cap, cur, rfl, hk, (hg.block k (Array.getElem?_eq_some_iff.1 hh).1 ?_).trans hh, hr⟩⟩
    intro e
    injection e with e
    omega
theorem RsOwn.by {B g : Nat} {w w' : World} {rs : List Wr} (h : RsOwn B w rs) (hg : w.grownBy w' (some g)) (hb : g < B) : RsOwn B w' rs := ⟨fun r hr => cp_by (h.1 r hr) hg hb, h.2⟩
theorem RsOwn.set {B g : Nat} {w : World} {rs : List Wr} (h : RsOwn B w rs) (hne : ∀ r ∈ rs, r.sl.ownBlock ≠ some g) (i : Nat) (v : Value) : RsOwn B (w.setCell ⟨g, i, none⟩ v) rs := by
  refine ⟨fun r hr => ?_, h.2⟩
  obtain ⟨hl, h0 | ⟨k, cap, cur, hv, hb, hh, hr'⟩⟩ := h.1 r hr
  · exact ⟨hl, .inl h0⟩
  · refine ⟨hl, .inr ⟨k, cap, cur, hv, hb, (Below.heap_setCell _ _ _ _ (fun e => hne r hr ?_)).trans hh, hr'⟩⟩
    rw [hv]
    show some k = some g
    rw [e]
theorem RsOwn.snoc {B : Nat} {w w' : World} {rs : List Wr} (h : RsOwn B w rs) (hb : Below w.heap.size w w') (hB : B ≤ w.heap.size) (r : Wr) (ho : CpOwn w.heap.size w' r.sl r.cps) : RsOwn B w' (rs ++ [r]) := by
  refine ⟨fun x hx => ?_, ?_⟩
  · rcases List.mem_append.1 hx with hx | hx
    · exact (h.1 x hx).below hb
    · obtain rfl : x = r := by simpa using hx
      exact ho.mono hB
  · rw [List.pairwise_append]
    refine ⟨h.2, List.pairwise_singleton _ _, fun a ha b hb' => ?_⟩
    obtain rfl : b = r := by simpa using hb'
    exact own_differ (fun k hk => ((h.1 a ha).lt k hk).2) (fun k hk => (ho.lt k hk).1)

/-! ### The map's block. -/
theorem run_clear {w : World} {b n : Nat} {D : DataW Value} {t k e : TypeId} {P : Program} (h : w.ownsMap P k heldR b n D) (ht : P.underlying t = some (.map k e)) (ty : TypeId) :
    ∃ w', (Builtin.clear_ #[t] ty #[.map (some b)]).run P w = .ok (.tuple #[]) w' ∧ w'.ownsMap P k heldR b 0 (mapD []) ∧ w.grownBy w' (some b) := by
  obtain ⟨es, clock, hb, F, hs, hD⟩ := h
  refine ⟨setBlock w b (.map #[] clock), ?_, ⟨#[], clock, heap_setBlock_same hb _, ⟨by simp, stamped_empty clock, by simp⟩, Nat.le_refl _, rfl⟩, ⟨rfl, rfl, rfl, by simp [setBlock], fun i _ hi => heap_setBlock_other hb _ (fun e => hi (by rw [e]))⟩⟩
  simp [Builtin.clear_, run_underlying ht, MapKept.run_getObj_map hb, MapKept.run_setObj_map _ hb, Result.andThen, setBlock]
/-- clear(m), for the walk. -/
theorem wpList_clear_own {P : Program} {w : World} {ops : Array Oper} {rest : List Oper} {o : Oper} {a : Act} {Q : Exit → Act → World → Prop} (hg : o.guard = none) (m : Operand) (t : TypeId) (hop : o.op = Op.call { callee := Callee.builtin Builtin.clear, args := #[m], argTypes := #[t] })
    (k e : TypeId) (ht : P.underlying t = some (.map k e)) (b n : Nat) (D : DataW Value) (hm : a.eval m = .map (some b)) (hown : w.ownsMap P k heldR b n D)
    (hK : ∀ w', w'.ownsMap P k heldR b 0 (mapD []) → w.grownBy w' (some b) → wpList P ops Q rest (a.put o.dst (.tuple #[])) w') : wpList P ops Q (o :: rest) a w := by
  refine wpList_plain hg fun K' hK' => ?_
  obtain ⟨w', hrun, r1, r2⟩ := run_clear hown ht o.type
  unfold Oper.wp
  simp [execOp, hop, resolve, invoke, builtin, hm, hrun, Result.andThen]
  exact hK' _ _ (hK w' r1 r2)
end Go.Proofs.YtblcgbgcccjpcaaGreat
namespace Go.Proofs.YtblcgbgcccjpcaaGreat
open Go.RowKit

/-- A goal at which a walk stands still. -/
def Stop (p : Prop) : Prop := p
theorem stop_mk {p : Prop} (h : Stop p) : p := h
theorem stop_un {p : Prop} (h : p) : Stop p := h

section
variable {α : Type} {enc : α → List Value} {k : Nat} {w w' : World} {l : List α}
theorem flat_news {ad : Addr} (hk : ∀ x, (enc x).length = k) (hk0 : 0 < k) (h : Flat enc k w (some ad) l) : ∀ j u, (cellsOf enc l)[j]? = some u → w.cell? (ad.add j) = some u := by
  intro j u hu
  rcases h with rfl | ⟨b, o, hA, hlt, h⟩
  · simp [cellsOf] at hu
  · obtain rfl : ad = ⟨b, o, none⟩ := by injection hA
    have hj : j < l.length * k := by
      have := (List.getElem?_eq_some_iff.1 hu).1
      rwa [cellsOf_len hk] at this
    have hi : j / k < l.length := Nat.div_lt_of_lt_mul (by rw [Nat.mul_comm]; exact hj)
    have ht : j % k < k := Nat.mod_lt _ hk0
    have hd : j / k * k + j % k = j := by rw [Nat.mul_comm]; exact Nat.div_add_mod j k
    have h1 := cellsOf_at hk l (j / k) (j % k) l[j / k] (List.getElem?_eq_getElem hi) ht
    rw [hd, hu] at h1
    have := h (j / k) (j % k) l[j / k] u (List.getElem?_eq_getElem hi) h1.symm
    rw [Nat.add_assoc, hd] at this
    rw [addr_add]; exact this
theorem flat_none (h : Flat enc k w none l) : l = [] := by
  rcases h with h | ⟨b, o, hA, _⟩
  · exact h
  · cases hA

theorem Flat.cutTake {A : Option Addr} (h : Flat enc k w A l) (m : Nat) : Flat enc k w A (l.take m) := by
  rcases h with rfl | ⟨b, o, rfl, hlt, h⟩
  · exact .inl (by simp)
  · refine .inr ⟨b, o, rfl, hlt, fun i t x u hi hu => h i t x u ?_ hu⟩
    rw [List.getElem?_take] at hi
    split at hi
    · exact hi
    · cases hi
/-- What a slice cut from place m on points to. -/
def cutAt (A : Option Addr) (cap m k : Nat) : Option Addr := if cap = m then A else A.map (·.add (m * k))
theorem Flat.cutDrop {A : Option Addr} {cap : Nat} (h : Flat enc k w A l) (m : Nat) (hc : l.length ≤ cap) : Flat enc k w (cutAt A cap m k) (l.drop m) := by
  by_cases hm : m < l.length
  · rcases h with rfl | ⟨b, o, rfl, hlt, h⟩
    · simp at hm
    · unfold cutAt
      rw [if_neg (by omega)]
      refine .inr ⟨b, o + m * k, ?_, hlt, fun i t x u hi hu => ?_⟩
      · simp [addr_add]
      · rw [List.getElem?_drop] at hi
        have := h (m + i) t x u hi hu
        rw [Nat.add_mul, ← Nat.add_assoc] at this
        exact this
  · exact .inl (List.drop_eq_nil_of_le (by omega))
/-- append of a slice of records. -/
theorem wp_append_flat {P : Program} {o : Oper} {a : Act} {K : Act → World → Prop} {Q : Exit → Act → World → Prop} (s x : Operand) (t : TypeId)
    (ho : o.op = .call { callee := .builtin .append, args := #[s, x], argTypes := #[t, t] })
    (base : Nat) (e : TypeId) (i : TypeInfo) (z : Value) (bytes : Nat) (ht : P.underlying t = some (.slice e)) (hi : P.info? e = some i) (hz : i.zero = some z)
    (hsize : i.size = k) (hby : i.bytes = bytes) (hzs : z.cells.size = k) (hsz : 0 < k)
    (v : Value) (n : Nat) (xs : List Value) (hs : a.eval s = v) (hown : w.ownsRow base e k v n xs)
    (A : Option Addr) (c : Nat) (hx : a.eval x = .slice A l.length c) (hA : A = none → c = 0) (hfl : Flat enc k w A l) (hk : ∀ x, (enc x).length = k) (h1 : ∀ u ∈ cellsOf enc l, u.oneCell' = true)
    (h63 : n + l.length ≤ maxLen) (hbytes : (n + l.length) * bytes ≤ 140737488355328) (hbase : base ≤ w.heap.size)
    (h : ∀ v' w', w'.ownsRow base e k v' (n + l.length) (xs ++ cellsOf enc l) → w.grownBy w' v.ownBlock → K (a.put o.dst v') w') : o.wp P a w K Q := by
  rcases A with _ | ad
  · have hl := flat_none hfl
    have hc := hA rfl
    subst hl hc
    have hrun := run_append_owned_none (P := P) w base t o.type e i k ht hi v n xs hown
    unfold Oper.wp execOp
    simp only [List.length_nil] at hx
    simp only [ho, resolve, invoke, builtin, Sem.run_bind, Sem.run_pure, Result.andThen_ok, List.map_toArray, List.map_cons, List.map_nil, hs, hx, hrun]
    refine h v w ?_ ⟨rfl, rfl, rfl, Nat.le_refl _, fun _ _ _ => rfl⟩
    simpa [cellsOf] using hown
  · exact wp_append_own w s x t ho base e i z k bytes ht hi hz hsize hby hzs hsz v n xs hs hown ad l.length c (cellsOf enc l) hx (cellsOf_len hk l) (flat_news hk hsz hfl) h1 h63 hbytes hbase fun v' w' h2 h3 _ => h v' w' h2 h3
theorem wpList_append_flat {P : Program} {ops : Array Oper} {rest : List Oper} {o : Oper} {a : Act} {Q : Exit → Act → World → Prop} (hgd : o.guard = none) (s x : Operand) (t : TypeId)
    (ho : o.op = .call { callee := .builtin .append, args := #[s, x], argTypes := #[t, t] })
    (base : Nat) (e : TypeId) (i : TypeInfo) (z : Value) (bytes : Nat) (ht : P.underlying t = some (.slice e)) (hi : P.info? e = some i) (hz : i.zero = some z)
    (hsize : i.size = k) (hby : i.bytes = bytes) (hzs : z.cells.size = k) (hsz : 0 < k)
    (v : Value) (n : Nat) (xs : List Value) (hs : a.eval s = v) (hown : w.ownsRow base e k v n xs)
    (A : Option Addr) (c : Nat) (hx : a.eval x = .slice A l.length c) (hA : A = none → c = 0) (hfl : Flat enc k w A l) (hk : ∀ x, (enc x).length = k) (h1 : ∀ u ∈ cellsOf enc l, u.oneCell' = true)
    (h63 : n + l.length ≤ maxLen) (hbytes : (n + l.length) * bytes ≤ 140737488355328) (hbase : base ≤ w.heap.size)
    (h : ∀ v' w', w'.ownsRow base e k v' (n + l.length) (xs ++ cellsOf enc l) → w.grownBy w' v.ownBlock → wpList P ops Q rest (a.put o.dst v') w') : wpList P ops Q (o :: rest) a w :=
  wpList_plain hgd fun _ hK => wp_append_flat s x t ho base e i z bytes ht hi hz hsize hby hzs hsz v n xs hs hown A c hx hA hfl hk h1 h63 hbytes hbase fun v' w' h2 h3 => hK _ _ (h v' w' h2 h3)

/-- The first n of a row of one's own. -/
theorem own_cut {base e g n m cap : Nat} {xs : List Value} (h : w.ownsRow base e k (.slice (some ⟨g, 0, none⟩) n cap) n xs) (hm : m ≤ n) : w.ownsRow base e k (.slice (some ⟨g, 0, none⟩) m cap) m (xs.take (m * k)) := by
  obtain ⟨hl, ⟨h0, _⟩ | ⟨g', cap', cur, hv, hb, hh, hnc, hcm, hcs, ht⟩⟩ := h
  · simp at h0
  · have hmk : m * k ≤ n * k := Nat.mul_le_mul_right k hm
    simp only [Value.slice.injEq, Option.some.injEq, Addr.mk.injEq, and_true, true_and] at hv
    obtain ⟨rfl, rfl⟩ := hv
    refine ⟨by rw [List.length_take, hl]; omega, .inr ⟨g, cap, cur, rfl, hb, hh, by omega, hcm, hcs, ?_⟩⟩
    rw [← ht, List.take_take, Nat.min_eq_left hmk]
theorem grown_holds {g : Nat} {C : Array Value} {row : Option Nat} (h : Holds w g C) (hg : w.grownBy w' row) (hne : some g ≠ row) : Holds w' g C :=
  ⟨Nat.lt_of_lt_of_le h.1 hg.size, fun j v hj => (World.cell?_of_block (a := ⟨g, j, none⟩) (hg.block g h.1 hne)).trans (h.2 j v hj)⟩
theorem grown_loose {g : Nat} {row : Option Nat} (h : Loose w g) (hlt : g < w.heap.size) (hg : w.grownBy w' row) (hne : some g ≠ row) : Loose w' g := fun j => by
  have := hg.block g hlt hne
  have h' := h j
  unfold World.frozen? at h' ⊢
  rw [this]; exact h'
theorem own_ne {base e n : Nat} {v : Value} {xs : List Value} (h : w.ownsRow base e k v n xs) {g : Nat} (hg : g < base) : some g ≠ v.ownBlock := fun he => by
  have := (h.lt g he.symm).1; omega
end

theorem cp_one (l : List M.Cp) : ∀ u ∈ cellsOf cpL l, u.oneCell' = true := by
  intro u hu
  unfold cellsOf at hu
  rw [List.mem_flatMap] at hu
  obtain ⟨c, _, hc⟩ := hu
  simp at hc
  rcases hc with rfl | rfl | rfl | rfl | rfl <;> rfl
end Go.Proofs.YtblcgbgcccjpcaaGreat
