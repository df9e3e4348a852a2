/- Proved, in parts: Proved: the program's look-up of a work that is one's own in the map; what a store leaves in it; nothing that was there is written. Condition: names of at most a million bytes. Proved: the program's DeedOk, which goes over shapes, answers the same plain Lean function as the model's, at every deed; it writes nothing that was there. Condition: texts of at most maxLen bytes. -/
import Derived.Test.YtblcgbgcccjpcaaGreatPart13
import Derived.Test.YtblcgbgcccjpcaaGreatPart01
import Derived.Test.YtblcgbgcccjpcaaGreatPart05
import Derived.KernelRfl
namespace Go.Proofs.YtblcgbgcccjpcaaGreat
open Go.RowKit
set_option maxRecDepth 20000

abbrev zW : Value := wkV ⟨#[]⟩ 0 none 0 0

theorem look_none {w : World} {b n : Nat} {l : List Wr} (hm : ShM w b n l) {s : ByteArray} (hs : s.size ≤ maxLen) (hf : findW l s.data.toList = none) :
    (Instr.lookup 116 (.map (some b)) (.string s) true).run Tryz.prog w = .ok (.tuple #[zW, .bool false]) w := by
  obtain ⟨vv, ps, hrun, hv⟩ := hm.look_ok kd Tryz.underlying116 (Tryz.zeroValue44 w) (zd := .held _) (zp := []) rfl (key_of hs)
  rw [mapD_at, hf] at hv
  simp only [heldR, Option.some.injEq, Prod.mk.injEq, DataW.held.injEq] at hv
  rw [hv.1, mapD_has, hf] at hrun
  exact hrun
theorem look_some {w : World} {b n : Nat} {l : List Wr} (hm : ShM w b n l) {s : ByteArray} (hs : s.size ≤ maxLen) {r : Wr} (hf : findW l s.data.toList = some r) :
    (Instr.lookup 116 (.map (some b)) (.string s) true).run Tryz.prog w = .ok (.tuple #[wrV r, .bool true]) w := by
  obtain ⟨vv, ps, hrun, hv⟩ := hm.look_ok kd Tryz.underlying116 (Tryz.zeroValue44 w) (zd := .held _) (zp := []) rfl (key_of hs)
  rw [mapD_at, hf] at hv
  simp only [heldR, Option.some.injEq, Prod.mk.injEq, DataW.held.injEq] at hv
  rw [hv.1, mapD_has, hf] at hrun
  exact hrun
theorem look1_none {w : World} {b n : Nat} {l : List Wr} (hm : ShM w b n l) {s : ByteArray} (hs : s.size ≤ maxLen) (hf : findW l s.data.toList = none) :
    (Instr.lookup 116 (.map (some b)) (.string s) false).run Tryz.prog w = .ok zW w := by
  obtain ⟨vv, ps, hrun, hv⟩ := hm.lookup kd Tryz.underlying116 (Tryz.zeroValue44 w) (zd := .held _) (zp := []) rfl (key_of hs)
  rw [mapD_at, hf] at hv
  simp only [heldR, Option.some.injEq, Prod.mk.injEq, DataW.held.injEq] at hv
  rw [hv.1] at hrun
  exact hrun
theorem look1_some {w : World} {b n : Nat} {l : List Wr} (hm : ShM w b n l) {s : ByteArray} (hs : s.size ≤ maxLen) {r : Wr} (hf : findW l s.data.toList = some r) :
    (Instr.lookup 116 (.map (some b)) (.string s) false).run Tryz.prog w = .ok (wrV r) w := by
  obtain ⟨vv, ps, hrun, hv⟩ := hm.lookup kd Tryz.underlying116 (Tryz.zeroValue44 w) (zd := .held _) (zp := []) rfl (key_of hs)
  rw [mapD_at, hf] at hv
  simp only [heldR, Option.some.injEq, Prod.mk.injEq, DataW.held.injEq] at hv
  rw [hv.1] at hrun
  exact hrun

/-- What owned answers. -/
def ownedV (rs : List Wr) (name : ByteArray) (who : Int) : Value × Int := match findW rs name.data.toList with
  | none => (zW, 1)
  | some r => if r.owner = who then (wrV r, 0) else (zW, 3)

set_option maxHeartbeats 2000000 in
theorem owned_any (b n : Nat) (rs : List Wr) (name : ByteArray) (who : Int) (w : World) (hm : ShM w b n rs) (hn : name.size ≤ maxLen) :
    Calls Tryz.prog 190 #[.map (some b), .string name, .int .i64 who] w fun e w' => e = .returned (.tuple #[(ownedV rs name who).1, rpV (ownedV rs name who).2 noP]) ∧ Below w.heap.size w w' := by
  have hm2 := (hm.alloc (.cells (wkL ⟨#[]⟩ 0 none 0 0) 44)).alloc (.cells (rpA 0 noP) 33)
  rcases hf : findW rs name.data.toList with _ | r
  · have hlk := look_none hm2 hn hf
    have HE : Hid (ownedV rs name who = (zW, 1)) := Lib.hid (by unfold ownedV; rw [hf])
    clear hm hm2
    go_enter Tryz.func190, Tryz.ntmps190
    go_wp2
    refine bodyPost_ret (v := .tuple #[zW, rpV 1 noP]) (by simp [results, Tryz.results190, go_sem]) rfl ⟨by rw [HE.out], ?_⟩
    repeat (first | exact Below.refl _ _ | refine Below.setCell ?_ (by simp <;> omega) _ | refine Below.alloc ?_ (by simp <;> omega) _)
  · have hlk := look_some hm2 hn hf
    by_cases ho : r.owner = who
    · have ho' : (r.owner != who) = false := by simp [ho]
      have HE : Hid (ownedV rs name who = (wrV r, 0)) := Lib.hid (by unfold ownedV; rw [hf]; simp [ho])
      clear hm hm2 ho
      go_enter Tryz.func190, Tryz.ntmps190
      go_wp2
      refine bodyPost_ret (v := .tuple #[wrV r, rpV 0 noP]) (by simp [results, Tryz.results190, go_sem]) rfl ⟨by rw [HE.out], ?_⟩
      repeat (first | exact Below.refl _ _ | refine Below.setCell ?_ (by simp <;> omega) _ | refine Below.alloc ?_ (by simp <;> omega) _)
    · have ho' : (r.owner != who) = true := by simp [ho]
      have HE : Hid (ownedV rs name who = (zW, 3)) := Lib.hid (by unfold ownedV; rw [hf]; simp [ho])
      clear hm hm2 ho
      go_enter Tryz.func190, Tryz.ntmps190
      go_wp2
      refine bodyPost_ret (v := .tuple #[zW, rpV 3 noP]) (by simp [results, Tryz.results190, go_sem]) rfl ⟨by rw [HE.out], ?_⟩
      repeat (first | exact Below.refl _ _ | refine Below.setCell ?_ (by simp <;> omega) _ | refine Below.alloc ?_ (by simp <;> omega) _)

/-! ### A store: the names rise still, each list is in a block of its own. -/
theorem before_trans {a b c : List UInt8} (h : bytesBefore a b = true) (k : bytesBefore b c = true) : bytesBefore a c = true := Go.WideShapes.bytes_trans a b c h k
theorem insW_mem {r x : Wr} : ∀ {l : List Wr}, x ∈ insW r l → x = r ∨ x ∈ l
  | [], h => .inl (by simpa [insW] using h)
  | y :: l, h => by
    unfold insW at h
    split at h
    · rcases List.mem_cons.1 h with h | h
      · exact .inl h
      · exact .inr h
    · rcases List.mem_cons.1 h with h | h
      · exact .inr (by rw [h]; simp)
      · rcases insW_mem h with h | h
        · exact .inl h
        · exact .inr (List.mem_cons_of_mem _ h)
theorem insW_perm (r : Wr) : ∀ l : List Wr, (insW r l).Perm (r :: l)
  | [] => List.Perm.refl _
  | y :: l => by
    unfold insW
    split
    · exact List.Perm.refl _
    · exact ((insW_perm r l).cons y).trans (List.Perm.swap r y l)
theorem insW_rise {r : Wr} : ∀ {l : List Wr}, RiseW l → (∀ x ∈ l, nmL x ≠ nmL r) → RiseW (insW r l)
  | [], _, _ => List.pairwise_singleton _ _
  | y :: l, h, hne => by
    obtain ⟨h1, h2⟩ := List.pairwise_cons.1 h
    unfold insW
    split
    · rename_i hb
      refine List.pairwise_cons.2 ⟨fun z hz => ?_, h⟩
      rcases List.mem_cons.1 hz with rfl | hz
      · exact hb
      · exact before_trans hb (h1 z hz)
    · rename_i hb
      have hyr : bytesBefore (nmL y) (nmL r) = true := by
        rcases Go.WideAt.bytes_total _ _ (hne y (by simp)) with h' | h'
        · exact h'
        · exact absurd h' hb
      refine List.pairwise_cons.2 ⟨fun z hz => ?_, insW_rise h2 fun x hx => hne x (List.mem_cons_of_mem _ hx)⟩
      rcases insW_mem hz with rfl | hz
      · exact hyr
      · exact h1 z hz
theorem putW_rise {l : List Wr} {r : Wr} (h : RiseW l) : RiseW (putW l r) := by
  unfold putW
  refine insW_rise (List.Pairwise.filter _ h) fun x hx => ?_
  have := (List.mem_filter.1 hx).2
  simpa using this
theorem Apart.symm {a b : Value} (h : Apart a b) : Apart b a := by
  unfold Apart at h ⊢
  rcases hb : b.ownBlock with _ | k
  · exact .inl rfl
  · refine .inr fun e => ?_
    rcases h with h | h
    · rw [h] at e; cases e
    · exact h (by rw [hb, ← e])
theorem RsOwn.put {B : Nat} {w : World} {rs : List Wr} {r : Wr} (h : RsOwn B w rs) (ho : CpOwn B w r.sl r.cps) (hap : ∀ x ∈ rs, nmL x ≠ nmL r → Apart r.sl x.sl) : RsOwn B w (putW rs r) := by
  have hp := insW_perm r (rs.filter fun x => !(nmL x == nmL r))
  refine ⟨fun x hx => ?_, ?_⟩
  · rcases insW_mem hx with rfl | hx
    · exact ho
    · exact h.1 x (List.mem_filter.1 hx).1
  · refine (hp.pairwise_iff (fun h => Apart.symm h)).2 (List.pairwise_cons.2 ⟨fun x hx => ?_, List.Pairwise.filter _ h.2⟩)
    obtain ⟨h1, h2⟩ := List.mem_filter.1 hx
    exact hap x h1 (by simpa using h2)
end Go.Proofs.YtblcgbgcccjpcaaGreat
namespace Go.Proofs.YtblcgbgcccjpcaaGreat
open Go.RowKit
set_option maxRecDepth 20000

abbrev clV (d : M.Dd) : Value := .agg #[.string d.name, .int .i64 d.who]
abbrev puV (d : M.Dd) : Value := .agg #[.string d.name, .int .i64 d.ed.ma, .int .i64 d.ed.mi, .int .i64 d.ed.pa, .string d.page, .int .i64 d.who]
abbrev veV (b : Bool) (d : M.Dd) : Value := .agg #[.bool b, .string d.name, .int .i64 d.ed.ma, .int .i64 d.ed.mi, .int .i64 d.ed.pa, .int .i64 d.who]
abbrev feV (d : M.Dd) : Value := .agg #[.string d.name, .int .i64 d.ed.ma, .int .i64 d.ed.mi, .int .i64 d.ed.pa]
abbrev giV (d : M.Dd) : Value := .agg #[.string d.name, .int .i64 d.who, .int .i64 d.ed.ma]

theorem deed_claim (d : M.Dd) (w : World) : Calls Tryz.prog 247 #[clV d] w fun r w' => r = .returned (ddV ⟨1, d.name, ⟨0, 0, 0⟩, ⟨#[]⟩, d.who⟩) ∧ Below w.heap.size w w' := by
  go_enter Tryz.func247, Tryz.ntmps247
  go_wp2
  refine bodyPost_ret (v := ddV ⟨1, d.name, ⟨0, 0, 0⟩, ⟨#[]⟩, d.who⟩) (by simp [results, Tryz.results247, go_sem]) rfl ⟨rfl, ?_⟩
  repeat (first | exact Below.refl _ _ | refine Below.alloc ?_ (by simp <;> omega) _)
theorem deed_put (d : M.Dd) (w : World) : Calls Tryz.prog 248 #[puV d] w fun r w' => r = .returned (ddV ⟨2, d.name, d.ed, d.page, d.who⟩) ∧ Below w.heap.size w w' := by
  go_enter Tryz.func248, Tryz.ntmps248
  go_wp2
  refine bodyPost_ret (v := ddV ⟨2, d.name, d.ed, d.page, d.who⟩) (by simp [results, Tryz.results248, go_sem]) rfl ⟨rfl, ?_⟩
  repeat (first | exact Below.refl _ _ | refine Below.alloc ?_ (by simp <;> omega) _)
theorem deed_veil (b : Bool) (d : M.Dd) (w : World) : Calls Tryz.prog 249 #[veV b d] w fun r w' => r = .returned (ddV ⟨if b then 3 else 4, d.name, d.ed, ⟨#[]⟩, d.who⟩) ∧ Below w.heap.size w w' := by
  cases b
  · go_enter Tryz.func249, Tryz.ntmps249
    go_wp2
    refine bodyPost_ret (v := ddV ⟨4, d.name, d.ed, ⟨#[]⟩, d.who⟩) (by simp [results, Tryz.results249, go_sem]) rfl ⟨rfl, ?_⟩
    repeat (first | exact Below.refl _ _ | refine Below.alloc ?_ (by simp <;> omega) _)
  · go_enter Tryz.func249, Tryz.ntmps249
    go_wp2
    refine bodyPost_ret (v := ddV ⟨3, d.name, d.ed, ⟨#[]⟩, d.who⟩) (by simp [results, Tryz.results249, go_sem]) rfl ⟨rfl, ?_⟩
    repeat (first | exact Below.refl _ _ | refine Below.alloc ?_ (by simp <;> omega) _)
theorem deed_fetch (d : M.Dd) (w : World) : Calls Tryz.prog 250 #[feV d] w fun r w' => r = .returned (ddV ⟨5, d.name, d.ed, ⟨#[]⟩, 0⟩) ∧ Below w.heap.size w w' := by
  go_enter Tryz.func250, Tryz.ntmps250
  go_wp2
  refine bodyPost_ret (v := ddV ⟨5, d.name, d.ed, ⟨#[]⟩, 0⟩) (by simp [results, Tryz.results250, go_sem]) rfl ⟨rfl, ?_⟩
  repeat (first | exact Below.refl _ _ | refine Below.alloc ?_ (by simp <;> omega) _)
theorem deed_give (d : M.Dd) (w : World) : Calls Tryz.prog 251 #[giV d] w fun r w' => r = .returned (ddV ⟨6, d.name, ⟨d.ed.ma, 0, 0⟩, ⟨#[]⟩, d.who⟩) ∧ Below w.heap.size w w' := by
  go_enter Tryz.func251, Tryz.ntmps251
  go_wp2
  refine bodyPost_ret (v := ddV ⟨6, d.name, ⟨d.ed.ma, 0, 0⟩, ⟨#[]⟩, d.who⟩) (by simp [results, Tryz.results251, go_sem]) rfl ⟨rfl, ?_⟩
  repeat (first | exact Below.refl _ _ | refine Below.alloc ?_ (by simp <;> omega) _)

theorem as_cl_cl (v : Value) (w : World) : (Instr.typeAssert (.iface 209 v) 182 209 true).run Tryz.prog w = .ok (.tuple #[v, .bool true]) w := by kernel_rfl
theorem as_pu_cl (v : Value) (w : World) : (Instr.typeAssert (.iface 212 v) 182 209 true).run Tryz.prog w = .ok (.tuple #[.agg #[.string ⟨#[]⟩, .int .i64 0], .bool false]) w := by kernel_rfl
theorem as_pu_pu (v : Value) (w : World) : (Instr.typeAssert (.iface 212 v) 182 212 true).run Tryz.prog w = .ok (.tuple #[v, .bool true]) w := by kernel_rfl
theorem as_ve_cl (v : Value) (w : World) : (Instr.typeAssert (.iface 215 v) 182 209 true).run Tryz.prog w = .ok (.tuple #[.agg #[.string ⟨#[]⟩, .int .i64 0], .bool false]) w := by kernel_rfl
theorem as_ve_pu (v : Value) (w : World) : (Instr.typeAssert (.iface 215 v) 182 212 true).run Tryz.prog w = .ok (.tuple #[.agg #[.string ⟨#[]⟩, .int .i64 0, .int .i64 0, .int .i64 0, .string ⟨#[]⟩, .int .i64 0], .bool false]) w := by kernel_rfl
theorem as_ve_ve (v : Value) (w : World) : (Instr.typeAssert (.iface 215 v) 182 215 true).run Tryz.prog w = .ok (.tuple #[v, .bool true]) w := by kernel_rfl
theorem as_fe_cl (v : Value) (w : World) : (Instr.typeAssert (.iface 218 v) 182 209 true).run Tryz.prog w = .ok (.tuple #[.agg #[.string ⟨#[]⟩, .int .i64 0], .bool false]) w := by kernel_rfl
theorem as_fe_pu (v : Value) (w : World) : (Instr.typeAssert (.iface 218 v) 182 212 true).run Tryz.prog w = .ok (.tuple #[.agg #[.string ⟨#[]⟩, .int .i64 0, .int .i64 0, .int .i64 0, .string ⟨#[]⟩, .int .i64 0], .bool false]) w := by kernel_rfl
theorem as_fe_ve (v : Value) (w : World) : (Instr.typeAssert (.iface 218 v) 182 215 true).run Tryz.prog w = .ok (.tuple #[.agg #[.bool false, .string ⟨#[]⟩, .int .i64 0, .int .i64 0, .int .i64 0, .int .i64 0], .bool false]) w := by kernel_rfl
theorem as_fe_fe (v : Value) (w : World) : (Instr.typeAssert (.iface 218 v) 182 218 true).run Tryz.prog w = .ok (.tuple #[v, .bool true]) w := by kernel_rfl
theorem as_gi_cl (v : Value) (w : World) : (Instr.typeAssert (.iface 221 v) 182 209 true).run Tryz.prog w = .ok (.tuple #[.agg #[.string ⟨#[]⟩, .int .i64 0], .bool false]) w := by kernel_rfl
theorem as_gi_pu (v : Value) (w : World) : (Instr.typeAssert (.iface 221 v) 182 212 true).run Tryz.prog w = .ok (.tuple #[.agg #[.string ⟨#[]⟩, .int .i64 0, .int .i64 0, .int .i64 0, .string ⟨#[]⟩, .int .i64 0], .bool false]) w := by kernel_rfl
theorem as_gi_ve (v : Value) (w : World) : (Instr.typeAssert (.iface 221 v) 182 215 true).run Tryz.prog w = .ok (.tuple #[.agg #[.bool false, .string ⟨#[]⟩, .int .i64 0, .int .i64 0, .int .i64 0, .int .i64 0], .bool false]) w := by kernel_rfl
theorem as_gi_fe (v : Value) (w : World) : (Instr.typeAssert (.iface 221 v) 182 218 true).run Tryz.prog w = .ok (.tuple #[.agg #[.string ⟨#[]⟩, .int .i64 0, .int .i64 0, .int .i64 0], .bool false]) w := by kernel_rfl
theorem as_gi_gi (v : Value) (w : World) : (Instr.typeAssert (.iface 221 v) 182 221 true).run Tryz.prog w = .ok (.tuple #[v, .bool true]) w := by kernel_rfl
theorem as_nil_cl (w : World) : (Instr.typeAssert .nilIface 182 209 true).run Tryz.prog w = .ok (.tuple #[.agg #[.string ⟨#[]⟩, .int .i64 0], .bool false]) w := by kernel_rfl
theorem as_nil_pu (w : World) : (Instr.typeAssert .nilIface 182 212 true).run Tryz.prog w = .ok (.tuple #[.agg #[.string ⟨#[]⟩, .int .i64 0, .int .i64 0, .int .i64 0, .string ⟨#[]⟩, .int .i64 0], .bool false]) w := by kernel_rfl
theorem as_nil_ve (w : World) : (Instr.typeAssert .nilIface 182 215 true).run Tryz.prog w = .ok (.tuple #[.agg #[.bool false, .string ⟨#[]⟩, .int .i64 0, .int .i64 0, .int .i64 0, .int .i64 0], .bool false]) w := by kernel_rfl
theorem as_nil_fe (w : World) : (Instr.typeAssert .nilIface 182 218 true).run Tryz.prog w = .ok (.tuple #[.agg #[.string ⟨#[]⟩, .int .i64 0, .int .i64 0, .int .i64 0], .bool false]) w := by kernel_rfl
theorem as_nil_gi (w : World) : (Instr.typeAssert .nilIface 182 221 true).run Tryz.prog w = .ok (.tuple #[.agg #[.string ⟨#[]⟩, .int .i64 0, .int .i64 0], .bool false]) w := by kernel_rfl

/-- What shapeOf makes of a deed. -/
def shV (d : M.Dd) : Value :=
  if d.kind == 1 then .iface 209 (clV d) else if d.kind == 2 then .iface 212 (puV d) else if d.kind == 3 then .iface 215 (veV true d)
  else if d.kind == 4 then .iface 215 (veV false d) else if d.kind == 5 then .iface 218 (feV d) else if d.kind == 6 then .iface 221 (giV d) else .nilIface

theorem ret_v {a b : Value} (h : a = b) : Ending.returned a = .returned b := by rw [h]

set_option maxHeartbeats 1000000 in
theorem shapeOf_any (d : M.Dd) (w : World) :
    Calls Tryz.prog 131 #[ddV d] w fun r w' => r = .returned (shV d) ∧ Below w.heap.size w w' := by
  have b0 : Below w.heap.size w (w.alloc (.cells (ddC d) 39)) := (Below.refl _ _).alloc (Nat.le_refl _) _
  go_enter Tryz.func131, Tryz.ntmps131
  go_wp2
  all_goals
    go_ret
    refine ⟨ret_v ?_, b0⟩
    simp only [shV, *, if_true, if_false, Bool.false_eq_true]
    try rfl

abbrev clC (d : M.Dd) : Array Value := #[.string d.name, .int .i64 d.who]
abbrev puC (d : M.Dd) : Array Value := #[.string d.name, .int .i64 d.ed.ma, .int .i64 d.ed.mi, .int .i64 d.ed.pa, .string d.page, .int .i64 d.who]
abbrev veC (b : Bool) (d : M.Dd) : Array Value := #[.bool b, .string d.name, .int .i64 d.ed.ma, .int .i64 d.ed.mi, .int .i64 d.ed.pa, .int .i64 d.who]
abbrev feC (d : M.Dd) : Array Value := #[.string d.name, .int .i64 d.ed.ma, .int .i64 d.ed.mi, .int .i64 d.ed.pa]
abbrev giC (d : M.Dd) : Array Value := #[.string d.name, .int .i64 d.who, .int .i64 d.ed.ma]
set_option maxHeartbeats 1000000 in
theorem shapeOk_claim (d : M.Dd) (w : World) (hn : d.name.size ≤ maxLen) :
    Calls Tryz.prog 132 #[.iface 209 (clV d)] w fun r w' => r = .returned (.bool (M.nameOk d.name.data.toList && (M.inI d.who 0 3))) ∧ Below w.heap.size w w' := by
  have as_cl := as_cl_cl
  have b0 := (Below.refl w.heap.size w).alloc (Nat.le_refl _) (.cells (clC d) 209)
  have h0 := holds_new w (clC d) 209
  rcases h1 : M.nameOk d.name.data.toList with _ | _
  ·
    go_enter Tryz.func132, Tryz.ntmps132
    go_wp2_with fail
    refine (implNameOk d.name _ hn).mono ?_
    rintro r w1 ⟨rfl, rfl⟩
    go_wp2
    go_ret
    exact ⟨rfl, b0⟩
  ·
    go_enter Tryz.func132, Tryz.ntmps132
    go_wp2_with fail
    refine (implNameOk d.name _ hn).mono ?_
    rintro r w1 ⟨rfl, rfl⟩
    go_wp2_with fail
    refine (whoOk_any d.who _).mono ?_
    rintro r w2 ⟨rfl, rfl⟩
    go_wp2
    go_ret
    exact ⟨rfl, b0⟩
set_option maxHeartbeats 1000000 in
theorem shapeOk_put (d : M.Dd) (w : World) (hn : d.name.size ≤ maxLen) (hp : d.page.size ≤ maxLen) :
    Calls Tryz.prog 132 #[.iface 212 (puV d)] w fun r w' => r = .returned (.bool (M.nameOk d.name.data.toList && (M.edOk d.ed && (M.pageOk d.page.data.toList && (M.inI d.who 0 3))))) ∧ Below w.heap.size w w' := by
  have as_cl := as_pu_cl
  have as_pu := as_pu_pu
  have b0 := (Below.refl w.heap.size w).alloc (Nat.le_refl _) (.cells (puC d) 212)
  have h0 := holds_new w (puC d) 212
  rcases h1 : M.nameOk d.name.data.toList with _ | _
  ·
    go_enter Tryz.func132, Tryz.ntmps132
    go_wp2_with fail
    refine (implNameOk d.name _ hn).mono ?_
    rintro r w1 ⟨rfl, rfl⟩
    go_wp2
    go_ret
    exact ⟨rfl, b0⟩
  ·
    rcases h2 : M.edOk d.ed with _ | _
    ·
      go_enter Tryz.func132, Tryz.ntmps132
      go_wp2_with fail
      refine (implNameOk d.name _ hn).mono ?_
      rintro r w1 ⟨rfl, rfl⟩
      go_wp2_with fail
      refine (implEditionOk d.ed _).mono ?_
      rintro r w2 ⟨rfl, b1⟩
      replace h0 := h0.below b1
      replace b0 := next b0 b1
      obtain ⟨p0, p1, p2, p3, p4, p5⟩ := h0.six
      go_wp2
      go_ret
      exact ⟨rfl, b0⟩
    ·
      rcases h3 : M.pageOk d.page.data.toList with _ | _
      ·
        go_enter Tryz.func132, Tryz.ntmps132
        go_wp2_with fail
        refine (implNameOk d.name _ hn).mono ?_
        rintro r w1 ⟨rfl, rfl⟩
        go_wp2_with fail
        refine (implEditionOk d.ed _).mono ?_
        rintro r w2 ⟨rfl, b1⟩
        replace h0 := h0.below b1
        replace b0 := next b0 b1
        obtain ⟨p0, p1, p2, p3, p4, p5⟩ := h0.six
        go_wp2_with fail
        refine (implPageOk d.page _ hp).mono ?_
        rintro r w3 ⟨rfl, rfl⟩
        go_wp2
        go_ret
        exact ⟨rfl, b0⟩
      ·
        go_enter Tryz.func132, Tryz.ntmps132
        go_wp2_with fail
        refine (implNameOk d.name _ hn).mono ?_
        rintro r w1 ⟨rfl, rfl⟩
        go_wp2_with fail
        refine (implEditionOk d.ed _).mono ?_
        rintro r w2 ⟨rfl, b1⟩
        replace h0 := h0.below b1
        replace b0 := next b0 b1
        obtain ⟨p0, p1, p2, p3, p4, p5⟩ := h0.six
        go_wp2_with fail
        refine (implPageOk d.page _ hp).mono ?_
        rintro r w3 ⟨rfl, rfl⟩
        go_wp2_with fail
        refine (whoOk_any d.who _).mono ?_
        rintro r w4 ⟨rfl, rfl⟩
        go_wp2
        go_ret
        exact ⟨rfl, b0⟩
set_option maxHeartbeats 1000000 in
theorem shapeOk_veil (b : Bool) (d : M.Dd) (w : World) (hn : d.name.size ≤ maxLen) :
    Calls Tryz.prog 132 #[.iface 215 (veV b d)] w fun r w' => r = .returned (.bool (M.nameOk d.name.data.toList && (M.edOk d.ed && (M.inI d.who 0 3)))) ∧ Below w.heap.size w w' := by
  have as_cl := as_ve_cl
  have as_pu := as_ve_pu
  have as_ve := as_ve_ve
  have b0 := (Below.refl w.heap.size w).alloc (Nat.le_refl _) (.cells (veC b d) 215)
  have h0 := holds_new w (veC b d) 215
  rcases h1 : M.nameOk d.name.data.toList with _ | _
  ·
    go_enter Tryz.func132, Tryz.ntmps132
    go_wp2_with fail
    refine (implNameOk d.name _ hn).mono ?_
    rintro r w1 ⟨rfl, rfl⟩
    go_wp2
    go_ret
    exact ⟨rfl, b0⟩
  ·
    rcases h2 : M.edOk d.ed with _ | _
    ·
      go_enter Tryz.func132, Tryz.ntmps132
      go_wp2_with fail
      refine (implNameOk d.name _ hn).mono ?_
      rintro r w1 ⟨rfl, rfl⟩
      go_wp2_with fail
      refine (implEditionOk d.ed _).mono ?_
      rintro r w2 ⟨rfl, b1⟩
      replace h0 := h0.below b1
      replace b0 := next b0 b1
      obtain ⟨p0, p1, p2, p3, p4, p5⟩ := h0.six
      go_wp2
      go_ret
      exact ⟨rfl, b0⟩
    ·
      go_enter Tryz.func132, Tryz.ntmps132
      go_wp2_with fail
      refine (implNameOk d.name _ hn).mono ?_
      rintro r w1 ⟨rfl, rfl⟩
      go_wp2_with fail
      refine (implEditionOk d.ed _).mono ?_
      rintro r w2 ⟨rfl, b1⟩
      replace h0 := h0.below b1
      replace b0 := next b0 b1
      obtain ⟨p0, p1, p2, p3, p4, p5⟩ := h0.six
      go_wp2_with fail
      refine (whoOk_any d.who _).mono ?_
      rintro r w3 ⟨rfl, rfl⟩
      go_wp2
      go_ret
      exact ⟨rfl, b0⟩
set_option maxHeartbeats 1000000 in
theorem shapeOk_fetch (d : M.Dd) (w : World) (hn : d.name.size ≤ maxLen) :
    Calls Tryz.prog 132 #[.iface 218 (feV d)] w fun r w' => r = .returned (.bool (M.nameOk d.name.data.toList && (M.edOk d.ed))) ∧ Below w.heap.size w w' := by
  have as_cl := as_fe_cl
  have as_pu := as_fe_pu
  have as_ve := as_fe_ve
  have as_fe := as_fe_fe
  have b0 := (Below.refl w.heap.size w).alloc (Nat.le_refl _) (.cells (feC d) 218)
  have h0 := holds_new w (feC d) 218
  rcases h1 : M.nameOk d.name.data.toList with _ | _
  ·
    go_enter Tryz.func132, Tryz.ntmps132
    go_wp2_with fail
    refine (implNameOk d.name _ hn).mono ?_
    rintro r w1 ⟨rfl, rfl⟩
    go_wp2
    go_ret
    exact ⟨rfl, b0⟩
  ·
    go_enter Tryz.func132, Tryz.ntmps132
    go_wp2_with fail
    refine (implNameOk d.name _ hn).mono ?_
    rintro r w1 ⟨rfl, rfl⟩
    go_wp2_with fail
    refine (implEditionOk d.ed _).mono ?_
    rintro r w2 ⟨rfl, b1⟩
    replace h0 := h0.below b1
    replace b0 := next b0 b1
    go_wp2
    go_ret
    exact ⟨rfl, b0⟩
set_option maxHeartbeats 1000000 in
theorem shapeOk_give (d : M.Dd) (w : World) (hn : d.name.size ≤ maxLen) :
    Calls Tryz.prog 132 #[.iface 221 (giV d)] w fun r w' => r = .returned (.bool (M.nameOk d.name.data.toList && (M.inI d.who 0 3 && (M.edOk ⟨d.ed.ma, 0, 0⟩)))) ∧ Below w.heap.size w w' := by
  have as_cl := as_gi_cl
  have as_pu := as_gi_pu
  have as_ve := as_gi_ve
  have as_fe := as_gi_fe
  have as_gi := as_gi_gi
  have b0 := (Below.refl w.heap.size w).alloc (Nat.le_refl _) (.cells (giC d) 221)
  have h0 := holds_new w (giC d) 221
  rcases h1 : M.nameOk d.name.data.toList with _ | _
  ·
    go_enter Tryz.func132, Tryz.ntmps132
    go_wp2_with fail
    refine (implNameOk d.name _ hn).mono ?_
    rintro r w1 ⟨rfl, rfl⟩
    go_wp2
    go_ret
    exact ⟨rfl, b0⟩
  ·
    rcases h2 : M.inI d.who 0 3 with _ | _
    ·
      go_enter Tryz.func132, Tryz.ntmps132
      go_wp2_with fail
      refine (implNameOk d.name _ hn).mono ?_
      rintro r w1 ⟨rfl, rfl⟩
      go_wp2_with fail
      refine (whoOk_any d.who _).mono ?_
      rintro r w2 ⟨rfl, rfl⟩
      go_wp2
      go_ret
      exact ⟨rfl, b0⟩
    ·
      go_enter Tryz.func132, Tryz.ntmps132
      go_wp2_with fail
      refine (implNameOk d.name _ hn).mono ?_
      rintro r w1 ⟨rfl, rfl⟩
      go_wp2_with fail
      refine (whoOk_any d.who _).mono ?_
      rintro r w2 ⟨rfl, rfl⟩
      go_wp2_with fail
      refine (implEditionOk ⟨d.ed.ma, 0, 0⟩ _).mono ?_
      rintro r w3 ⟨rfl, b1⟩
      replace h0 := h0.below b1
      replace b0 := next b0 b1
      go_wp2
      go_ret
      exact ⟨rfl, b0⟩
end Go.Proofs.YtblcgbgcccjpcaaGreat
