/- Proved, in parts: Proved: the model's and the program's tests of an order answer a plain Lean function; the laws' helpers that count and copy an order; nothing that was there is written. Condition: texts of at most what memory has. Proved: the program's test of a book answers a plain Lean function; nothing that was there is written. Condition: texts and lists of at most a million. Proved: the model's and the program's LastOf answer one plain Lean function; nothing that was there is written. Condition: texts and lists of at most a million. -/
import Derived.Test.YtjdaeecmgkhpmaaGreatPart24
import Derived.Test.YtjdaeecmgkhpmaaGreatPart22
import Derived.Test.YtjdaeecmgkhpmaaGreatPart25
import Derived.Test.YtjdaeecmgkhpmaaGreatPart08
import Derived.Test.YtjdaeecmgkhpmaaGreatPart01
import Derived.Test.YtjdaeecmgkhpmaaGreatPart11
import Derived.Test.YtjdaeecmgkhpmaaGreatPart12
namespace Go.Proofs.YtjdaeecmgkhpmaaGreat
open Go.RowKit
set_option maxRecDepth 20000
theorem l6Client_any (n : Int) (w : World) : Calls Tryz.prog 48 #[.int .i64 n] w fun e w' => e = .returned (.bool (M.inI n 0 3)) ∧ w = w' := by
  go_enter Tryz.func48, Tryz.ntmps48
  go_wp2_with fail
  refine (in_i _ _ _ _).mono ?_
  rintro e w' ⟨rfl, rfl⟩
  go_wp2
  go_ret
  exact ⟨rfl, rfl⟩
theorem clientOk_any (n : Int) (w : World) : Calls Tryz.prog 94 #[.int .i64 n] w fun e w' => e = .returned (.bool (M.inI n 0 3)) ∧ w = w' := by
  by_cases h1 : 0 ≤ n
  · go_enter Tryz.func94, Tryz.ntmps94
    go_wp2
    go_ret
    exact ⟨by simp [M.inI, h1], rfl⟩
  · go_enter Tryz.func94, Tryz.ntmps94
    go_wp2
    go_ret
    exact ⟨by simp [M.inI]; omega, rfl⟩
theorem seqOk_any (n : Int) (w : World) : Calls Tryz.prog 95 #[.int .i64 n] w fun e w' => e = .returned (.bool (M.inI n 1 1000)) ∧ w = w' := by
  by_cases h1 : 1 ≤ n
  · go_enter Tryz.func95, Tryz.ntmps95
    go_wp2
    go_ret
    exact ⟨by simp [M.inI, h1], rfl⟩
  · go_enter Tryz.func95, Tryz.ntmps95
    go_wp2
    go_ret
    exact ⟨by simp [M.inI]; omega, rfl⟩

set_option maxHeartbeats 2000000 in
theorem specOrderOk (o : M.Or) (w : World) (hn : o.deed.name.size ≤ maxLen) (hp : o.deed.page.size ≤ maxLen) :
    Calls Tryz.prog 28 #[orV o] w fun r w' => r = .returned (.bool (M.orderOk o)) ∧ Below w.heap.size w w' := by
  have b0 := (Below.refl w.heap.size w).alloc (Nat.le_refl _) (.cells (orC o) 47)
  rcases h1 : M.inI o.client 0 3 with _ | _
  · have HE : Hid (M.orderOk o = false) := Lib.hid (by simp [M.orderOk, h1])
    go_enter Tryz.func28, Tryz.ntmps28
    go_wp2_with fail
    have hc := l6Client_any o.client (w.alloc (.cells (orC o) 47))
    rw [h1] at hc
    refine hc.mono ?_
    rintro e w' ⟨rfl, rfl⟩
    clear hc h1
    go_wp2
    go_ret
    exact ⟨by rw [HE.out]; rfl, b0⟩
  · rcases h2 : M.inI o.seq 1 1000 with _ | _
    · have HE : Hid (M.orderOk o = false) := Lib.hid (by simp [M.orderOk, h2])
      go_enter Tryz.func28, Tryz.ntmps28
      go_wp2_with fail
      have hc := l6Client_any o.client (w.alloc (.cells (orC o) 47))
      rw [h1] at hc
      refine hc.mono ?_
      rintro e w' ⟨rfl, rfl⟩
      clear hc h1
      go_wp2_with fail
      have hc := in_i o.seq 1 1000 (w.alloc (.cells (orC o) 47))
      rw [h2] at hc
      refine hc.mono ?_
      rintro e w' ⟨rfl, rfl⟩
      clear hc h2
      go_wp2
      go_ret
      exact ⟨by rw [HE.out]; rfl, b0⟩
    · have HE : Hid (M.orderOk o = M.deedOk o.deed) := Lib.hid (by simp [M.orderOk, h1, h2])
      go_enter Tryz.func28, Tryz.ntmps28
      go_wp2_with fail
      have hc := l6Client_any o.client (w.alloc (.cells (orC o) 47))
      rw [h1] at hc
      refine hc.mono ?_
      rintro e w' ⟨rfl, rfl⟩
      clear hc h1
      go_wp2_with fail
      have hc := in_i o.seq 1 1000 (w.alloc (.cells (orC o) 47))
      rw [h2] at hc
      refine hc.mono ?_
      rintro e w' ⟨rfl, rfl⟩
      clear hc h2
      go_wp2_with fail
      refine (specDeedOk o.deed _ hn hp).mono ?_
      rintro e w1 ⟨rfl, b1⟩
      go_wp2
      go_ret
      exact ⟨by rw [HE.out]; rfl, next b0 b1⟩

set_option maxHeartbeats 2000000 in
theorem implOrderOk (o : M.Or) (w : World) (hn : o.deed.name.size ≤ maxLen) (hp : o.deed.page.size ≤ maxLen) :
    Calls Tryz.prog 66 #[orV o] w fun r w' => r = .returned (.bool (M.orderOk o)) ∧ Below w.heap.size w w' := by
  have b0 := (Below.refl w.heap.size w).alloc (Nat.le_refl _) (.cells (orC o) 47)
  rcases h1 : M.inI o.client 0 3 with _ | _
  · have HE : Hid (M.orderOk o = false) := Lib.hid (by simp [M.orderOk, h1])
    go_enter Tryz.func66, Tryz.ntmps66
    go_wp2_with fail
    have hc := clientOk_any o.client (w.alloc (.cells (orC o) 47))
    rw [h1] at hc
    refine hc.mono ?_
    rintro e w' ⟨rfl, rfl⟩
    clear hc h1
    go_wp2
    go_ret
    exact ⟨by rw [HE.out]; rfl, b0⟩
  · rcases h2 : M.inI o.seq 1 1000 with _ | _
    · have HE : Hid (M.orderOk o = false) := Lib.hid (by simp [M.orderOk, h2])
      go_enter Tryz.func66, Tryz.ntmps66
      go_wp2_with fail
      have hc := clientOk_any o.client (w.alloc (.cells (orC o) 47))
      rw [h1] at hc
      refine hc.mono ?_
      rintro e w' ⟨rfl, rfl⟩
      clear hc h1
      go_wp2_with fail
      have hc := seqOk_any o.seq (w.alloc (.cells (orC o) 47))
      rw [h2] at hc
      refine hc.mono ?_
      rintro e w' ⟨rfl, rfl⟩
      clear hc h2
      go_wp2
      go_ret
      exact ⟨by rw [HE.out]; rfl, b0⟩
    · have HE : Hid (M.orderOk o = M.deedOk o.deed) := Lib.hid (by simp [M.orderOk, h1, h2])
      go_enter Tryz.func66, Tryz.ntmps66
      go_wp2_with fail
      have hc := clientOk_any o.client (w.alloc (.cells (orC o) 47))
      rw [h1] at hc
      refine hc.mono ?_
      rintro e w' ⟨rfl, rfl⟩
      clear hc h1
      go_wp2_with fail
      have hc := seqOk_any o.seq (w.alloc (.cells (orC o) 47))
      rw [h2] at hc
      refine hc.mono ?_
      rintro e w' ⟨rfl, rfl⟩
      clear hc h2
      go_wp2_with fail
      refine (implDeedOk o.deed _ hn hp).mono ?_
      rintro e w1 ⟨rfl, b1⟩
      go_wp2
      go_ret
      exact ⟨by rw [HE.out]; rfl, next b0 b1⟩

set_option maxHeartbeats 2000000 in
theorem szOrder_small (o : M.Or) (n : Int) (w : World) (hn : n ≤ 1048576) (h : (o.deed.name.size + o.deed.page.size : Int) ≤ n) :
    Calls Tryz.prog 6 #[orV o, .int .i64 n] w fun r w' => (∃ m : Nat, r = .returned (.int .i64 m)) ∧ Below w.heap.size w w' := by
  have b0 := (Below.refl w.heap.size w).alloc (Nat.le_refl _) (.cells (orC o) 31)
  go_enter Tryz.func6, Tryz.ntmps6
  go_wp2_with fail
  refine (szDeed_smallN o.deed n _ hn h).mono ?_
  rintro r w1 ⟨⟨m, rfl⟩, b1⟩
  go_wp2
  go_ret
  exact ⟨⟨m, rfl⟩, next b0 b1⟩
set_option maxHeartbeats 2000000 in
theorem szOrder_big (o : M.Or) (n : Int) (w : World) (h0 : 0 ≤ n) (hn : n ≤ 1048576) (hnm : o.deed.name.size ≤ maxLen) (hp : o.deed.page.size ≤ maxLen) (h : n < (o.deed.name.size + o.deed.page.size : Int)) :
    Calls Tryz.prog 6 #[orV o, .int .i64 n] w fun r w' => r = .returned (.int .i64 (-1)) ∧ Below w.heap.size w w' := by
  have b0 := (Below.refl w.heap.size w).alloc (Nat.le_refl _) (.cells (orC o) 31)
  go_enter Tryz.func6, Tryz.ntmps6
  go_wp2_with fail
  refine (szDeed_bigN o.deed n _ h0 hn hnm hp h).mono ?_
  rintro r w1 ⟨rfl, b1⟩
  go_wp2
  go_ret
  exact ⟨rfl, next b0 b1⟩

abbrev edC (e : M.Ed) : Array Value := #[.int .i64 e.ma, .int .i64 e.mi, .int .i64 e.pa]
/-- Where toDeed leaves the world. -/
abbrev ddMade (d : M.Dd) (w : World) : World := (((((w.alloc (.cells (ddC d) 29)).alloc (.cells (ddC d) 45)).alloc (.cells (ddC d) 45)).alloc (.cells (edC d.ed) 27)).alloc (.cells (edC d.ed) 43)).alloc (.cells (edC d.ed) 43)
set_option maxHeartbeats 1000000 in
theorem toDeed_at (d : M.Dd) (w : World) :
    Calls Tryz.prog 33 #[ddV d] w fun r w' => r = .returned (ddV d) ∧ w' = ddMade d w := by
  go_enter Tryz.func33, Tryz.ntmps33
  go_wp2_with fail
  refine (toEdition_at d.ed _).mono ?_
  rintro r w1 ⟨rfl, rfl⟩
  go_wp2
  exact bodyPost_ret (v := ddV d) (by simp [results, Tryz.results33, go_sem]) rfl ⟨rfl, rfl⟩
set_option maxHeartbeats 4000000 in
theorem toOrder_any (o : M.Or) (w : World) :
    Calls Tryz.prog 9 #[orV o] w fun r w' => r = .returned (orV o) ∧ Below w.heap.size w w' := by
  go_enter Tryz.func9, Tryz.ntmps9
  go_wp2_with fail
  refine (toDeed_at o.deed _).mono ?_
  rintro r w1 ⟨rfl, rfl⟩
  go_wp2
  refine bodyPost_ret (v := orV o) (by simp [results, Tryz.results9, go_sem]) rfl ⟨rfl, ?_⟩
  repeat (first | exact Below.refl _ _ | refine Below.alloc ?_ (by simp <;> omega) _)
end Go.Proofs.YtjdaeecmgkhpmaaGreat
namespace Go.Proofs.YtjdaeecmgkhpmaaGreat
open Go.RowKit
set_option maxRecDepth 20000
namespace M
def laOk (c : La) : Bool := inI c.client 0 3 && inI c.seq 1 1000
def laLt (a b : La) : Bool := decide (a.client < b.client)
def lasOk (l : List La) : Bool := l.all laOk && grises laLt l
def bkOk (s : List Wk) (l : List La) : Bool := sfOk s && lasOk l
end M
/-- A book: its works in memory, its lasts. -/
abbrev bkA (A : Option Addr) (n c : Nat) (B : Option Addr) (m e : Nat) : Array Value := #[.slice A n c, .slice B m e]
abbrev bkV (A : Option Addr) (n c : Nat) (B : Option Addr) (m e : Nat) : Value := .agg (bkA A n c B m e)

set_option maxHeartbeats 1000000 in
theorem lastOk_any (c : M.La) (w : World) :
    Calls Tryz.prog 60 #[laV c] w fun r w' => r = .returned (.bool (M.laOk c)) ∧ Below w.heap.size w w' := by
  have b0 := (Below.refl w.heap.size w).alloc (Nat.le_refl _) (.cells (laA c) 97)
  rcases h1 : M.inI c.client 0 3 with _ | _
  · have HE : Hid (M.laOk c = false) := Lib.hid (by simp [M.laOk, h1])
    go_enter Tryz.func60, Tryz.ntmps60
    go_wp2_with fail
    have hc := clientOk_any c.client (w.alloc (.cells (laA c) 97))
    rw [h1] at hc
    refine hc.mono ?_
    rintro e w' ⟨rfl, rfl⟩
    clear hc h1
    go_wp2
    go_ret
    exact ⟨by rw [HE.out]; rfl, b0⟩
  · have HE : Hid (M.laOk c = M.inI c.seq 1 1000) := Lib.hid (by simp [M.laOk, h1])
    go_enter Tryz.func60, Tryz.ntmps60
    go_wp2_with fail
    have hc := clientOk_any c.client (w.alloc (.cells (laA c) 97))
    rw [h1] at hc
    refine hc.mono ?_
    rintro e w' ⟨rfl, rfl⟩
    clear hc h1
    go_wp2_with fail
    refine (seqOk_any c.seq _).mono ?_
    rintro e w' ⟨rfl, rfl⟩
    go_wp2
    go_ret
    exact ⟨by rw [HE.out]; rfl, b0⟩
set_option maxHeartbeats 1000000 in
theorem clientAhead_any (c d : M.La) (w : World) :
    Calls Tryz.prog 62 #[laV c, laV d] w fun r w' => r = .returned (.bool (M.laLt c d)) ∧ Below w.heap.size w w' := by
  have b0 := ((Below.refl w.heap.size w).alloc (Nat.le_refl _) (.cells (laA c) 97)).alloc (by simp) (.cells (laA d) 97)
  go_enter Tryz.func62, Tryz.ntmps62
  go_wp2
  go_ret
  exact ⟨rfl, b0⟩

set_option maxHeartbeats 1000000 in
theorem lfirst_all (p : M.La → Bool) (A : Option Addr) (l : List M.La) (cap : Nat) (g : Value) (w : World) (hl : Las w A l) (hlen : l.length ≤ 1048576)
    (hcall : ∀ (c : M.La) (w' : World), c ∈ l → Below w.heap.size w w' → Calls Tryz.prog 93 #[laV c, g] w' fun r w'' => r = .returned (.bool (p c)) ∧ Below w'.heap.size w' w'') :
    Calls Tryz.prog 92 #[.slice A l.length cap, .func (.func 93) #[] #[g]] w fun r w' => r = .returned (.int .i64 (l.findIdx p : Nat)) ∧ Below w.heap.size w w' := by
  have HC := Lib.hid hcall
  clear hcall
  go_enter Tryz.func92, Tryz.ntmps92
  go_wp2
  go_loopw [9] (fun i wr => ∃ j : Nat, i = .int .i64 j ∧ j ≤ l.length ∧ GNoneTo p l j ∧ Below w.heap.size w wr) (fun i _ => l.length - (intOf i).toNat)
  case atStart => exact ⟨0, rfl, Nat.zero_le _, GNoneTo.zero p l, Below.refl _ _⟩
  case round =>
    obtain ⟨j, rfl, hj, hnone, hbl⟩ := hrel
    by_cases hlt : j < l.length
    · obtain ⟨b, o, rfl, -, c0, c1, c2, c3⟩ := Las_at (hl.below hbl) hlt
      have HA := Lib.hid hl
      have HN := Lib.hid hnone
      have ba := hbl.alloc hbl.size (.cells (laA l[j]) 97)
      clear hl hnone
      rcases hp : p l[j] with _ | _
      · have HP := Lib.hid hp
        go_wp2_with fail
        refine (HC.out l[j] _ (List.getElem_mem hlt) ba).mono ?_
        rintro r w1 ⟨rfl, b1⟩
        clear hp
        have hp := HP.out
        rw [hp]
        clear hp
        go_wp2
        go_roundw
        case rel => exact ⟨j + 1, by go_num, by omega, HN.out.next hlt HP.out, next ba b1⟩
        case measure => simp [intOf]; omega
      · have HP := Lib.hid hp
        go_wp2_with fail
        refine (HC.out l[j] _ (List.getElem_mem hlt) ba).mono ?_
        rintro r w1 ⟨rfl, b1⟩
        clear hp
        have hp := HP.out
        rw [hp]
        clear hp
        go_wp2
        go_ret
        exact ⟨ret_int (by rw [HN.out.hit hlt HP.out]), next ba b1⟩
    · have hj' : j = l.length := by omega
      subst hj'
      have HN := Lib.hid hnone
      clear hnone
      go_wp2
      go_ret
      exact ⟨ret_int (by rw [HN.out.all]), hbl⟩

set_option maxHeartbeats 1000000 in
theorem all1_lastOk (c : M.La) (g : Nat) (w : World) (hg : w.cell? ⟨g, 0, none⟩ = some (.func (.func 60) #[] #[])) :
    Calls Tryz.prog 93 #[laV c, .pointer (some ⟨g, 0, none⟩)] w fun r w' => r = .returned (.bool (!M.laOk c)) ∧ Below w.heap.size w w' := by
  have b0 := (Below.refl w.heap.size w).alloc (Nat.le_refl _) (.cells (laA c) 97)
  have hgl : g < w.heap.size := World.block_lt_of_cell? w _ hg
  go_enter Tryz.func93, Tryz.ntmps93
  go_wp2_with fail
  refine (lastOk_any c _).mono ?_
  rintro r w1 ⟨rfl, b1⟩
  go_wp2
  go_ret
  exact ⟨rfl, next b0 b1⟩
set_option maxHeartbeats 1000000 in
theorem all_lastOk (A : Option Addr) (l : List M.La) (cap : Nat) (w : World) (hl : Las w A l) (hlen : l.length ≤ 1048576) :
    Calls Tryz.prog 59 #[.slice A l.length cap, .func (.func 60) #[] #[]] w fun r w' => r = .returned (.bool (l.all M.laOk)) ∧ Below w.heap.size w w' := by
  have b0 := (Below.refl w.heap.size w).alloc (Nat.le_refl _) (.cells #[.func (.func 60) #[] #[]] 113)
  have HB : Hid (((l.findIdx (fun c => !M.laOk c) : Int) == (l.length : Int)) = l.all M.laOk) := Lib.hid (all_findIdxG _ l)
  have HL := Lib.hid hl
  clear hl
  go_enter Tryz.func59, Tryz.ntmps59
  go_wp2_with fail
  refine (lfirst_all (fun c => !M.laOk c) A l cap _ _ (HL.out.alloc _) hlen (fun c w' _ hb => all1_lastOk c _ w' (box_cells hb 0))).mono ?_
  rintro r w1 ⟨rfl, b1⟩
  go_wp2
  go_ret
  exact ⟨ret_bool HB.out, next b0 b1⟩
set_option maxHeartbeats 1000000 in
theorem rises_last (A : Option Addr) (l : List M.La) (cap : Nat) (w : World) (hl : Las w A l) (hlen : l.length ≤ 1048576) :
    Calls Tryz.prog 61 #[.slice A l.length cap, .func (.func 62) #[] #[]] w fun r w' => r = .returned (.bool (grises M.laLt l)) ∧ Below w.heap.size w w' := by
  go_enter Tryz.func61, Tryz.ntmps61
  go_wp2
  go_loopw [5] (fun i wr => ∃ j : Nat, i = .int .i64 j ∧ 1 ≤ j ∧ j ≤ l.length + 1 ∧ GRisesTo M.laLt l j ∧ Below w.heap.size w wr) (fun i _ => l.length + 1 - (intOf i).toNat)
  case atStart => exact ⟨1, rfl, by omega, by omega, GRisesTo.one _ l, Below.refl _ _⟩
  case round =>
    obtain ⟨j, rfl, hj1, hj, hr, hbl⟩ := hrel
    by_cases hlt : j < l.length
    · obtain ⟨k, hk⟩ : ∃ k, j = k + 1 := ⟨j - 1, by omega⟩
      have hkl : k < l.length := by omega
      obtain ⟨b, o, rfl, -, c0, c1, c2, c3⟩ := Las_at (hl.below hbl) hlt
      obtain ⟨b', o', hbo, -, d0, d1, d2, d3⟩ := Las_at (hl.below hbl) hkl
      obtain ⟨rfl, rfl⟩ : b = b' ∧ o = o' := by simpa using hbo
      have e1 : IntKind.i64.wrap ((j : Int) - 1) = (j : Int) - 1 := IntWalk.i64_in _ (by omega)
      have e2 : ((j : Int) - 1).toNat = k := by omega
      have e3 : (1 : Int) ≤ (j : Int) := by omega
      have e5 : ¬ ((l.length : Int) ≤ (j : Int) - 1) := by omega
      rcases ho : M.laLt l[k] l[j] with _ | _
      · have HE : Hid (grises M.laLt l = false) := Lib.hid (by subst hk; exact grises_not hlt ho)
        have HA := Lib.hid hl
        have HK := Lib.hid hk
        have HO := Lib.hid ho
        clear hl hbo hk hr ho
        go_wp2_with fail
        go_still_tail 10, (by kernel_rfl)
        change wpList _ _ _ _ _ wr.drew
        go_wp2_with fail
        refine (clientAhead_any l[k] l[j] _).mono ?_
        rintro r w1 ⟨rfl, b1⟩
        rw [HO.out]
        go_wp2
        go_ret
        exact ⟨ret_bool HE.out.symm, next hbl.drew b1⟩
      · have HN : Hid (GRisesTo M.laLt l (j + 1)) := Lib.hid (by subst hk; exact hr.next hlt ho)
        have HA := Lib.hid hl
        have HK := Lib.hid hk
        have HO := Lib.hid ho
        clear hl hbo hk hr ho
        go_wp2_with fail
        go_still_tail 10, (by kernel_rfl)
        change wpList _ _ _ _ _ wr.drew
        go_wp2_with fail
        refine (clientAhead_any l[k] l[j] _).mono ?_
        rintro r w1 ⟨rfl, b1⟩
        rw [HO.out]
        clear e1 e2 e3 e5
        go_wp2
        go_roundw
        case rel => exact ⟨j + 1, by go_num, by omega, by omega, HN.out, next hbl.drew b1⟩
        case measure => simp [intOf]; omega
    · have HE : Hid (grises M.laLt l = true) := Lib.hid (hr.all (by omega))
      clear hr
      go_wp2
      go_ret
      exact ⟨ret_bool HE.out.symm, hbl⟩

set_option maxHeartbeats 2000000 in
theorem implBookOk (A : Option Addr) (l : List Wr) (cap : Nat) (B : Option Addr) (m : List M.La) (cb : Nat) (w : World) (hl : Wks w A l) (hlen : l.length ≤ 1048576) (hp : WrsIn 1048576 l) (hm : Las w B m) (hml : m.length ≤ 1048576) :
    Calls Tryz.prog 34 #[bkV A l.length cap B m.length cb] w fun r w' => r = .returned (.bool (M.bkOk (l.map Wr.wk) m)) ∧ Below w.heap.size w w' := by
  have b0 := (Below.refl w.heap.size w).alloc (Nat.le_refl _) (.cells (bkA A l.length cap B m.length cb) 37)
  have HP := Lib.hid hp
  have HL := Lib.hid (hl.alloc (.cells (bkA A l.length cap B m.length cb) 37))
  have HM := Lib.hid (hm.alloc (.cells (bkA A l.length cap B m.length cb) 37))
  clear hp hl hm
  rcases h1 : M.sfOk (l.map Wr.wk) with _ | _
  · have HE : Hid (M.bkOk (l.map Wr.wk) m = false) := Lib.hid (by simp [M.bkOk, h1])
    have H1 := Lib.hid h1
    clear h1
    go_enter Tryz.func34, Tryz.ntmps34
    go_wp2_with fail
    refine (implShelfOk A l cap _ HL.out hlen HP.out).mono ?_
    rintro r w1 ⟨rfl, b1⟩
    rw [H1.out]
    go_wp2
    go_ret
    exact ⟨ret_bool HE.out.symm, next b0 b1⟩
  · rcases h2 : m.all M.laOk with _ | _
    · have HE : Hid (M.bkOk (l.map Wr.wk) m = false) := Lib.hid (by simp only [M.bkOk, M.lasOk, h2]; simp)
      have H1 := Lib.hid h1
      have H2 := Lib.hid h2
      clear h1 h2
      go_enter Tryz.func34, Tryz.ntmps34
      go_wp2_with fail
      refine (implShelfOk A l cap _ HL.out hlen HP.out).mono ?_
      rintro r w1 ⟨rfl, b1⟩
      rw [H1.out]
      go_wp2_with fail
      refine (all_lastOk B m cb _ (HM.out.below b1) hml).mono ?_
      rintro r w2 ⟨rfl, b2⟩
      rw [H2.out]
      go_wp2
      go_ret
      exact ⟨ret_bool HE.out.symm, next (next b0 b1) b2⟩
    · have HE : Hid (M.bkOk (l.map Wr.wk) m = grises M.laLt m) := Lib.hid (by simp only [M.bkOk, M.lasOk, h1, h2]; simp)
      have H1 := Lib.hid h1
      have H2 := Lib.hid h2
      clear h1 h2
      go_enter Tryz.func34, Tryz.ntmps34
      go_wp2_with fail
      refine (implShelfOk A l cap _ HL.out hlen HP.out).mono ?_
      rintro r w1 ⟨rfl, b1⟩
      rw [H1.out]
      go_wp2_with fail
      refine (all_lastOk B m cb _ (HM.out.below b1) hml).mono ?_
      rintro r w2 ⟨rfl, b2⟩
      rw [H2.out]
      go_wp2_with fail
      refine (rises_last B m cb _ ((HM.out.below b1).below b2) hml).mono ?_
      rintro r w3 ⟨rfl, b3⟩
      go_wp2
      go_ret
      exact ⟨ret_bool HE.out.symm, next (next (next b0 b1) b2) b3⟩
end Go.Proofs.YtjdaeecmgkhpmaaGreat
namespace Go.Proofs.YtjdaeecmgkhpmaaGreat
open Go.RowKit
set_option maxRecDepth 20000
namespace M
def zLa : La := ⟨0, 0, 0, ⟨#[]⟩⟩
def isCl (c : Int) (x : La) : Bool := x.client == c
def laFind (l : List La) (c : Int) : Nat := l.findIdx (isCl c)
def laFindInt (l : List La) (c : Int) : Int := if laFind l c < l.length then (laFind l c : Int) else -1
theorem laFindInt_pos {l : List La} {c : Int} (h : laFind l c < l.length) : laFindInt l c = laFind l c := if_pos h
theorem laFindInt_neg {l : List La} {c : Int} (h : laFind l c = l.length) : laFindInt l c = -1 := if_neg (by omega)
def lastOf (l : List La) (c : Int) : La × Bool := match l[laFind l c]? with
  | some x => (x, true)
  | none => (zLa, false)
theorem lastOf_pos {l : List La} {c : Int} (h : laFind l c < l.length) : lastOf l c = (l[laFind l c], true) := by
  unfold lastOf
  rw [List.getElem?_eq_getElem h]
theorem lastOf_neg {l : List La} {c : Int} (h : laFind l c = l.length) : lastOf l c = (zLa, false) := by
  unfold lastOf
  rw [h, List.getElem?_eq_none (Nat.le_refl _)]
theorem laFind_le (l : List La) (c : Int) : laFind l c ≤ l.length := List.findIdx_le_length
end M

set_option maxHeartbeats 1000000 in
theorem l6Last_any (A : Option Addr) (n cap : Nat) (B : Option Addr) (l : List M.La) (cb : Nat) (c : Int) (w : World) (hm : Las w B l) (hml : l.length ≤ 1048576) :
    Calls Tryz.prog 53 #[bkV A n cap B l.length cb, .int .i64 c] w fun r w' => r = .returned (.int .i64 (M.laFindInt l c)) ∧ Below w.heap.size w w' := by
  have b0 := (Below.refl w.heap.size w).alloc (Nat.le_refl _) (.cells (bkA A n cap B l.length cb) 37)
  have hK := holds_new w (bkA A n cap B l.length cb) 37
  have HL := Lib.hid (hm.below b0)
  clear hm
  go_enter Tryz.func53, Tryz.ntmps53
  go_wp2
  generalize hwB : w.alloc (.cells (bkA A n cap B l.length cb) 37) = wB at b0 hK HL ⊢
  clear hwB
  obtain ⟨k0, k1⟩ := hK.two
  have zk := hK.1
  go_loop [5] (fun i => ∃ j : Nat, i = .int .i64 j ∧ j ≤ l.length ∧ GNoneTo (M.isCl c) l j) (fun i => l.length - (intOf i).toNat)
  case atStart => exact ⟨0, rfl, Nat.zero_le _, GNoneTo.zero _ l⟩
  case round =>
    obtain ⟨j, rfl, hj, hnone⟩ := hrel
    have HN := Lib.hid hnone
    clear hnone
    by_cases hlt : j < l.length
    · obtain ⟨b, o, hA, lb, c0, c1, c2, c3⟩ := Las_at HL.out hlt
      subst hA
      rcases hq : (l[j].client == c) with _ | _
      · have HQ : Hid (M.isCl c l[j] = false) := Lib.hid hq
        go_wp2
        go_round
        case rel => exact ⟨j + 1, by go_num, by omega, HN.out.next hlt HQ.out⟩
        case measure => simp [intOf]; omega
      · have HE : Hid (M.laFindInt l c = j) := Lib.hid (by
          have h1 : M.laFind l c = j := HN.out.hit hlt hq
          rw [M.laFindInt_pos (by rw [h1]; exact hlt), h1])
        go_wp2
        go_ret
        exact ⟨ret_int HE.out.symm, b0⟩
    · have hj' : j = l.length := by omega
      subst hj'
      have HE : Hid (M.laFindInt l c = -1) := Lib.hid (M.laFindInt_neg HN.out.all)
      go_wp2
      go_ret
      exact ⟨ret_int HE.out.symm, b0⟩

theorem Holds.putLa {w : World} {g : Nat} {y : M.La} (h : Holds w g (laA y)) (x : M.La) : Holds ((((w.setCell ⟨g, 0, none⟩ (.int .i64 x.client)).setCell ⟨g, 1, none⟩ (.int .i64 x.seq)).setCell ⟨g, 2, none⟩ (.int .i64 x.code)).setCell ⟨g, 3, none⟩ (.string x.page)) g (laA x) := by
  simpa using (((h.putM 0 (.int .i64 x.client)).putM 1 (.int .i64 x.seq)).putM 2 (.int .i64 x.code)).putM 3 (.string x.page)
theorem below4 {w0 W : World} {g : Nat} (h : Below w0.heap.size w0 W) (hg : w0.heap.size ≤ g) (a b c d : Value) : Below w0.heap.size w0 ((((W.setCell ⟨g, 0, none⟩ a).setCell ⟨g, 1, none⟩ b).setCell ⟨g, 2, none⟩ c).setCell ⟨g, 3, none⟩ d) :=
  (((h.setCell hg _).setCell hg _).setCell hg _).setCell hg _

set_option maxHeartbeats 1000000 in
theorem clone_la (s : ByteArray) (w : World) (h : s.size ≤ 1048576) :
    Calls Tryz.prog 100 #[.string s] w fun r w' => r = .returned (.string s) ∧ Below w.heap.size w w' := by
  go_enter Tryz.func100, Tryz.ntmps100
  go_wp2_with fail
  refine (Tryz.stringslite_Clone s _ (by omega)).mono ?_
  rintro r w1 ⟨rfl, b1⟩
  go_wp2
  go_ret
  exact ⟨rfl, b1⟩
theorem results_newReply (c : Int) (p : ByteArray) (R : Nat) (W : World) (tmps : Array Value) (h2 : tmps.getD 2 undef = .pointer (some ⟨R, 0, none⟩)) (hW : Holds W R (rpA c p)) :
    (results Tryz.f70 tmps).run Tryz.prog W = .ok (rpV c p) W := by
  obtain ⟨q0, q1⟩ := hW.two
  simp at h2
  simp [results, Tryz.results70, go_sem, h2, q0, q1]
set_option maxHeartbeats 1000000 in
theorem newReply_any (c : Int) (p : ByteArray) (w : World) (h : p.size ≤ 1048576) :
    Calls Tryz.prog 70 #[rpV c p] w fun r w' => r = .returned (rpV c p) ∧ Below w.heap.size w w' := by
  have hM := ((Mem.start w).new (rpA c p) 39).new (rpA 0 noP) 39
  simp only [World.size_alloc] at hM
  go_enter Tryz.func70, Tryz.ntmps70
  go_wp2_with fail
  refine (clone_la p _ h).mono ?_
  rintro r w1 ⟨rfl, b1⟩
  have hM1 := hM.below b1
  clear hM b1
  obtain ⟨p0, p1⟩ := (hM1.get w.heap.size (rpA c p) (by simp)).two
  obtain ⟨q0, q1⟩ := (hM1.get (w.heap.size + 1) (rpA 0 noP) (by simp)).two
  have y0 := hM1.loose (w.heap.size + 1) (by simp) 0
  have y1 := hM1.loose (w.heap.size + 1) (by simp) 1
  have x1 := hM1.loose w.heap.size (by simp) 1
  have HM1 := Lib.hid hM1
  clear hM1
  go_wp2
  exact bodyPost_ret (results_newReply c p (w.heap.size + 1) _ _ rfl (((HM1.out.get (w.heap.size + 1) (rpA 0 noP) (by simp)).otherM (by omega)).wr2 _ _)) rfl ⟨rfl, far_2 (farM HM1.out.1 (Nat.le_refl _) _ _) (by omega) _ _⟩
theorem results_newLast (x : M.La) (R : Nat) (W : World) (tmps : Array Value) (h2 : tmps.getD 2 undef = .pointer (some ⟨R, 0, none⟩)) (hW : Holds W R (laA x)) :
    (results Tryz.f65 tmps).run Tryz.prog W = .ok (laV x) W := by
  obtain ⟨q0, q1, q2, q3⟩ := hW.four
  simp at h2
  simp [results, Tryz.results65, go_sem, h2, q0, q1, q2, q3]
set_option maxHeartbeats 1000000 in
theorem newLast_any (x : M.La) (w : World) (h : x.page.size ≤ 1048576) :
    Calls Tryz.prog 65 #[laV x] w fun r w' => r = .returned (laV x) ∧ Below w.heap.size w w' := by
  have hM := ((Mem.start w).new (laA x) 97).new (laA M.zLa) 97
  simp only [World.size_alloc] at hM
  go_enter Tryz.func65, Tryz.ntmps65
  go_wp2_with fail
  refine (newReply_any x.code x.page _ h).mono ?_
  rintro r w1 ⟨rfl, b1⟩
  have hM1 := hM.below b1
  clear hM b1
  obtain ⟨p0, p1, p2, p3⟩ := (hM1.get w.heap.size (laA x) (by simp)).four
  obtain ⟨q0, q1, q2, q3⟩ := (hM1.get (w.heap.size + 1) (laA M.zLa) (by simp)).four
  have y0 := hM1.loose (w.heap.size + 1) (by simp) 0
  have y1 := hM1.loose (w.heap.size + 1) (by simp) 1
  have y2 := hM1.loose (w.heap.size + 1) (by simp) 2
  have y3 := hM1.loose (w.heap.size + 1) (by simp) 3
  have x2 := hM1.loose w.heap.size (by simp) 2
  have x3 := hM1.loose w.heap.size (by simp) 3
  have HM1 := Lib.hid hM1
  clear hM1
  go_wp2
  exact bodyPost_ret (results_newLast x (w.heap.size + 1) _ _ rfl ((((HM1.out.get (w.heap.size + 1) (laA M.zLa) (by simp)).otherM (by omega)).otherM (by omega)).wr4 _ _ _ _)) rfl ⟨rfl, far_4 (farM (farM HM1.out.1 (Nat.le_refl _) _ _) (Nat.le_refl _) _ _) (by omega) _ _ _ _⟩

end Go.Proofs.YtjdaeecmgkhpmaaGreat
