/- Proved, in parts: Proved: the functions on deeds that tell whether one is right, of the program and of its model, answer one plain Lean function at every deed; they write nothing that was there. Condition: texts of at most maxLen bytes. Proved: the laws' helpers that make a work of the program's own types out of the laws' answer the same work, in new memory; they write nothing that was there. Proved: facts on a list of copies that lies in memory of one's own; no program's function is named here; no condition. Proved: the laws' helper that makes a list of works of the program's own types out of the laws' answers the same works, in new memory, no two lists of which are one; it writes nothing that was there. -/
import Derived.Test.YtblcgbgcccjpcaaGreatPart04
import Derived.Test.YtblcgbgcccjpcaaGreatPart03
import Derived.Test.YtblcgbgcccjpcaaGreatPart01
import Derived.OwnWalk
import Derived.Deep.Onto
namespace Go.Proofs.YtblcgbgcccjpcaaGreat
open Go.RowKit
set_option maxRecDepth 20000

abbrev ddC (d : M.Dd) : Array Value := #[.int .i64 d.kind, .string d.name, .int .i64 d.ed.ma, .int .i64 d.ed.mi, .int .i64 d.ed.pa, .string d.page, .int .i64 d.who]
abbrev ddV (d : M.Dd) : Value := .agg #[.int .i64 d.kind, .string d.name, .int .i64 d.ed.ma, .int .i64 d.ed.mi, .int .i64 d.ed.pa, .string d.page, .int .i64 d.who]
theorem far {w w1 : World} {B g : Nat} (h : Below B w w1) (hg : B ≤ g) (j : Nat) (v : Value) : Below B w (w1.setCell ⟨g, j, none⟩ v) := h.setCell hg v

theorem l3Who_any (n : Int) (w : World) : Calls Tryz.prog 123 #[.int .i64 n] w fun e w' => e = .returned (.bool (M.inI n 0 3)) ∧ w = w' := by
  go_enter Tryz.func123, Tryz.ntmps123
  go_wp2_with fail
  refine (in_i _ _ _ _).mono ?_
  rintro e w' ⟨rfl, rfl⟩
  go_wp2
  go_ret
  exact ⟨rfl, rfl⟩
theorem whoOk_any (n : Int) (w : World) : Calls Tryz.prog 155 #[.int .i64 n] w fun e w' => e = .returned (.bool (M.inI n 0 3)) ∧ w = w' := by
  by_cases h1 : 0 ≤ n
  · go_enter Tryz.func155, Tryz.ntmps155
    go_wp2
    go_ret
    exact ⟨by simp [M.inI, h1], rfl⟩
  · go_enter Tryz.func155, Tryz.ntmps155
    go_wp2
    go_ret
    exact ⟨by simp [M.inI]; omega, rfl⟩

theorem no_text {s : ByteArray} (h : s.size = 0) : (s.toList == []) = true ∧ (s.toList != []) = false := by
  have e : s.toList = [] := by rw [ByteArray.toList_eq]; exact List.eq_nil_of_length_eq_zero (by simpa using h)
  rw [e]; exact ⟨rfl, rfl⟩
theorem some_text {s : ByteArray} (h : s.size ≠ 0) : (s.toList == []) = false ∧ (s.toList != []) = true := by
  have e : s.toList ≠ [] := by rw [ByteArray.toList_eq]; intro e; exact h (by have := congrArg List.length e; simpa using this)
  exact ⟨by simpa using e, by simpa using e⟩

set_option maxHeartbeats 1000000 in
theorem specDeedOk (d : M.Dd) (w : World) (hn : d.name.size ≤ maxLen) (hp : d.page.size ≤ maxLen) :
    Calls Tryz.prog 85 #[ddV d] w fun r w' => r = .returned (.bool (M.deedOk d)) ∧ Below w.heap.size w w' := by
  have b0 : Below w.heap.size w (w.alloc (.cells (ddC d) 39)) := (Below.refl _ _).alloc (Nat.le_refl _) _
  have h0 := holds_new w (ddC d) 39
  rcases h1 : M.nameOk d.name.data.toList with _ | _
  · have HE : Hid (M.deedOk d = false) := Lib.hid (by simp [M.deedOk, h1])
    clear h0
    go_enter Tryz.func85, Tryz.ntmps85
    go_wp2_with fail
    refine (specNameOk d.name _ hn).mono ?_
    rintro r w1 ⟨rfl, rfl⟩
    go_wp2
    go_ret
    exact ⟨ret_bool HE.out.symm, b0⟩
  · rcases h2 : M.edOk d.ed with _ | _
    · have HE : Hid (M.deedOk d = false) := Lib.hid (by simp [M.deedOk, h2])
      clear h0
      go_enter Tryz.func85, Tryz.ntmps85
      go_wp2_with fail
      refine (specNameOk d.name _ hn).mono ?_
      rintro r w1 ⟨rfl, rfl⟩
      go_wp2_with fail
      refine (specEditionOk d.ed _).mono ?_
      rintro r w1 ⟨rfl, b1⟩
      go_wp2
      go_ret
      exact ⟨ret_bool HE.out.symm, next b0 b1⟩
    · go_enter Tryz.func85, Tryz.ntmps85
      go_wp2_with fail
      refine (specNameOk d.name _ hn).mono ?_
      rintro r w1 ⟨rfl, rfl⟩
      go_wp2_with fail
      refine (specEditionOk d.ed _).mono ?_
      rintro r w1 ⟨rfl, b1⟩
      replace h0 := h0.below b1
      obtain ⟨p0, p1, p2, p3, p4, p5, p6⟩ := h0.seven
      have bb := next b0 b1
      clear b0 b1 h0
      rcases h3 : M.pageOk d.page.data.toList with _ | _
      · have HE : Hid (M.deedOk d = false) := Lib.hid (by simp [M.deedOk, h3])
        go_wp2_with fail
        refine (specPageOk d.page _ hp).mono ?_
        rintro r w2 ⟨rfl, rfl⟩
        go_wp2
        go_ret
        exact ⟨ret_bool HE.out.symm, bb⟩
      · rcases h4 : M.inI d.who 0 3 with _ | _
        · have HE : Hid (M.deedOk d = false) := Lib.hid (by simp [M.deedOk, h4])
          go_wp2_with fail
          refine (specPageOk d.page _ hp).mono ?_
          rintro r w2 ⟨rfl, rfl⟩
          go_wp2_with fail
          refine (l3Who_any d.who _).mono ?_
          rintro r w2 ⟨rfl, rfl⟩
          go_wp2
          go_ret
          exact ⟨ret_bool HE.out.symm, bb⟩
        · go_wp2_with fail
          refine (specPageOk d.page _ hp).mono ?_
          rintro r w2 ⟨rfl, rfl⟩
          go_wp2_with fail
          refine (l3Who_any d.who _).mono ?_
          rintro r w2 ⟨rfl, rfl⟩
          by_cases k2 : d.kind = 2
          · have HE : Hid (M.deedOk d = M.inI d.kind 2 4) := Lib.hid (by simp [M.deedOk, h1, h2, h3, h4, k2])
            have k2' : (d.kind != 2) = false := by simpa using k2
            have k1' : (d.kind == 1) = false := by simp [k2]
            have k5' : (d.kind == 5) = false := by simp [k2]
            have k6' : (d.kind == 6) = false := by simp [k2]
            clear k2
            go_wp2_with fail
            refine (in_i _ _ _ _).mono ?_
            rintro e w' ⟨rfl, rfl⟩
            go_wp2
            go_ret
            exact ⟨ret_bool HE.out.symm, bb⟩
          · have k2' : (d.kind != 2) = true := by simpa using k2
            by_cases hz : d.page.size = 0
            · have hz' := no_text hz
              by_cases k1 : d.kind = 1
              · have HE : Hid (M.deedOk d = decide (d.ed = M.zeroEd)) := Lib.hid (by simp [M.deedOk, h1, h2, h3, h4, k1, hz])
                have k1' : (d.kind == 1) = true := by simp [k1]
                clear k1 k2 hz
                go_wp2
                all_goals
                  go_ret
                  exact ⟨ret_bool (by rw [HE.out]; simp [M.ed_ext, M.zeroEd, *]), bb⟩
              · have k1' : (d.kind == 1) = false := by simpa using k1
                by_cases k5 : d.kind = 5
                · have HE : Hid (M.deedOk d = decide (d.who = 0)) := Lib.hid (by simp [M.deedOk, h1, h2, h3, h4, k5, hz])
                  have k5' : (d.kind == 5) = true := by simp [k5]
                  clear k1 k2 k5 hz
                  go_wp2
                  go_ret
                  exact ⟨ret_bool (by rw [HE.out]; rfl), bb⟩
                · have k5' : (d.kind == 5) = false := by simpa using k5
                  by_cases k6 : d.kind = 6
                  · have HE : Hid (M.deedOk d = (decide (d.ed.mi = 0) && decide (d.ed.pa = 0))) := Lib.hid (by simp [M.deedOk, h1, h2, h3, h4, k6, hz])
                    have k6' : (d.kind == 6) = true := by simp [k6]
                    clear k1 k2 k5 k6 hz
                    go_wp2
                    all_goals
                      go_ret
                      exact ⟨ret_bool (by rw [HE.out]; simp [*] <;> rfl), bb⟩
                  · have HE : Hid (M.deedOk d = M.inI d.kind 2 4) := Lib.hid (by simp [M.deedOk, h1, h2, h3, h4, k1, k5, k6, hz])
                    have k6' : (d.kind == 6) = false := by simpa using k6
                    clear k1 k2 k5 k6 hz
                    go_wp2_with fail
                    refine (in_i _ _ _ _).mono ?_
                    rintro e w' ⟨rfl, rfl⟩
                    go_wp2
                    go_ret
                    exact ⟨ret_bool HE.out.symm, bb⟩
            · have HE : Hid (M.deedOk d = false) := Lib.hid (by simp [M.deedOk, k2, hz])
              have hz' := some_text hz
              clear k2 hz
              go_wp2
              go_ret
              exact ⟨ret_bool HE.out.symm, bb⟩
end Go.Proofs.YtblcgbgcccjpcaaGreat
namespace Go.Proofs.YtblcgbgcccjpcaaGreat
open Go.RowKit

theorem Own.below {w w' : World} {base e k n : Nat} {v : Value} {xs : List Value} (h : w.ownsRow base e k v n xs) (hb : Below w.heap.size w w') : w'.ownsRow base e k v n xs := by
  obtain ⟨hl, h | ⟨g, cap, cur, hv, h1, hh, h2⟩⟩ := h
  · exact ⟨hl, .inl h⟩
  · exact ⟨hl, .inr ⟨g, cap, cur, hv, h1, (hb.block g (Array.getElem?_eq_some_iff.1 hh).1).trans hh, h2⟩⟩

theorem infoCp : (Tryz.prog.info? 48).map (fun i => (i.zero, i.size, i.bytes)) = some (some (.agg #[.int .i64 0, .int .i64 0, .int .i64 0, .string ⟨#[]⟩, .bool false]), 5, 48) := by kernel_rfl

end Go.Proofs.YtblcgbgcccjpcaaGreat
namespace Go.Proofs.YtblcgbgcccjpcaaGreat
open Go.RowKit

/-- v is a list of the copies l, in memory of one's own from block B on. -/
def CpOwn (B : Nat) (w : World) (v : Value) (l : List M.Cp) : Prop := w.ownsRow B 48 5 v l.length (cellsOf cpL l)
theorem CpOwn.below {B : Nat} {w w' : World} {v : Value} {l : List M.Cp} (h : CpOwn B w v l) (hb : Below w.heap.size w w') : CpOwn B w' v l := Own.below h hb
theorem CpOwn.nil (B : Nat) (w : World) : CpOwn B w (.slice none 0 0) [] := World.ownsRow_nil _ _ _ _
theorem CpOwn.open {B : Nat} {w : World} {v : Value} {l : List M.Cp} (h : CpOwn B w v l) : ∃ A c, v = .slice A l.length c ∧ Cps w A l ∧ (A = none → c = 0) := by
  obtain ⟨hl, ⟨rfl, h0⟩ | ⟨g, cap, cur, rfl, hr⟩⟩ := h
  · have : l = [] := List.length_eq_zero_iff.1 h0
    subst this
    exact ⟨none, 0, rfl, .inl rfl, fun _ => rfl⟩
  · obtain ⟨A, c, hv, _, hf⟩ := own_flat (l := l) cpL_len (show w.ownsRow B 48 5 (.slice (some ⟨g, 0, none⟩) l.length cap) l.length (cellsOf cpL l) from ⟨hl, .inr ⟨g, cap, cur, rfl, hr⟩⟩)
    injection hv with hA _ hc
    subst hA hc
    exact ⟨_, _, rfl, hf, fun h => by cases h⟩
theorem CpOwn.off {B : Nat} {w : World} {v : Value} {l : List M.Cp} (h : CpOwn B w v l) {a : Addr} (ha : a.block < B) (u : Value) : CpOwn B (w.setCell a u) v l := ownsRow_setCell_below h ha u
theorem CpOwn.mono {B B' : Nat} {w : World} {v : Value} {l : List M.Cp} (h : CpOwn B w v l) (hb : B' ≤ B) : CpOwn B' w v l := World.ownsRow.mono h hb
theorem CpOwn.cps {B : Nat} {w : World} {A : Option Addr} {n c : Nat} {l : List M.Cp} (h : CpOwn B w (.slice A n c) l) : Cps w A l ∧ n = l.length := by
  obtain ⟨A', c', hv, hf, _⟩ := h.open
  injection hv with hA hn _
  subst hA
  exact ⟨hf, hn⟩
theorem own_differ {u v : Value} {B : Nat} (hu : ∀ k, u.ownBlock = some k → k < B) (hv : ∀ k, v.ownBlock = some k → B ≤ k) : u.ownBlock = none ∨ u.ownBlock ≠ v.ownBlock := by
  rcases h : u.ownBlock with _ | k
  · exact .inl rfl
  · refine .inr fun e => ?_
    have h1 := hu k h
    have h2 := hv k e.symm
    omega
end Go.Proofs.YtblcgbgcccjpcaaGreat
namespace Go.Proofs.YtblcgbgcccjpcaaGreat
open Go.RowKit
set_option maxRecDepth 20000

/-- Where the copies of r lie. -/
abbrev Wr.sl (r : Wr) : Value := .slice r.ad r.cps.length r.cap
/-- Two lists are in two blocks. -/
def Apart (a b : Value) : Prop := a.ownBlock = none ∨ a.ownBlock ≠ b.ownBlock
/-- v is a list of the works l, in memory of one's own from block B on, each list in a block of its own. -/
def SfOwn (B : Nat) (w : World) (v : Value) (l : List Wr) : Prop :=
  w.ownsRow B 44 3 v l.length (cellsOf wrL l) ∧ (∀ r ∈ l, CpOwn B w r.sl r.cps) ∧ (∀ r ∈ l, Apart r.sl v) ∧ l.Pairwise fun a b => Apart a.sl b.sl
theorem SfOwn.below {B : Nat} {w w' : World} {v : Value} {l : List Wr} (h : SfOwn B w v l) (hb : Below w.heap.size w w') : SfOwn B w' v l :=
  ⟨Own.below h.1 hb, fun r hr => (h.2.1 r hr).below hb, h.2.2⟩
theorem SfOwn.mono {B B' : Nat} {w : World} {v : Value} {l : List Wr} (h : SfOwn B w v l) (hb : B' ≤ B) : SfOwn B' w v l :=
  ⟨World.ownsRow.mono h.1 hb, fun r hr => (h.2.1 r hr).mono hb, h.2.2⟩
theorem SfOwn.open {B : Nat} {w : World} {v : Value} {l : List Wr} (h : SfOwn B w v l) : ∃ A c, v = .slice A l.length c ∧ l.length ≤ c ∧ Wks w A l := by
  obtain ⟨A, c, hv, hc, hf⟩ := own_flat wrL_len h.1
  exact ⟨A, c, hv, hc, hf, fun r hr => (h.2.1 r hr).cps.1⟩
theorem SfOwn.wks {B : Nat} {w : World} {A : Option Addr} {n c : Nat} {l : List Wr} (h : SfOwn B w (.slice A n c) l) : Wks w A l ∧ n = l.length := by
  obtain ⟨A', c', hv, _, hw⟩ := h.open
  injection hv with hA hn _
  subst hA
  exact ⟨hw, hn⟩

theorem infoWk : (Tryz.prog.info? 44).map (fun i => (i.zero, i.size, i.bytes)) = some (some (.agg #[.string ⟨#[]⟩, .int .i64 0, .slice none 0 0]), 3, 48) := by kernel_rfl

theorem set3w (xs ys : List Value) (a b c f0 f1 f2 : Value) (n : Nat) (hn : n = xs.length) :
    (((xs ++ a :: b :: c :: ys).set n f0).set (n + 1) f1).set (n + 2) f2 = xs ++ f0 :: f1 :: f2 :: ys := by
  subst hn; simp
/-- Three stores into a row. -/
theorem own_put3 {w : World} {base e g n cap j : Nat} {xs ys : List Value} {f0 f1 f2 : Value} {a b c : Value} (h : w.ownsRow base e 3 (.slice (some ⟨g, 0, none⟩) n cap) n (xs ++ a :: b :: c :: ys)) (hj : j = xs.length) :
    (((w.setCell ⟨g, j, none⟩ f0).setCell ⟨g, j + 1, none⟩ f1).setCell ⟨g, j + 2, none⟩ f2).ownsRow base e 3 (.slice (some ⟨g, 0, none⟩) n cap) n (xs ++ f0 :: f1 :: f2 :: ys) := by
  have := ((h.stored j f0).1.stored (j + 1) f1).1.stored (j + 2) f2
  rw [set3w xs ys a b c f0 f1 f2 j hj] at this
  exact this.1
theorem own_cells3 {w : World} {base e g n cap j : Nat} {xs ys : List Value} {a b c : Value} (h : w.ownsRow base e 3 (.slice (some ⟨g, 0, none⟩) n cap) n (xs ++ a :: b :: c :: ys)) (hj : j = xs.length) :
    (w.cell? ⟨g, j, none⟩ = some a ∧ w.cell? ⟨g, j + 1, none⟩ = some b ∧ w.cell? ⟨g, j + 2, none⟩ = some c) ∧
    (w.frozen? ⟨g, j, none⟩ = false ∧ w.frozen? ⟨g, j + 1, none⟩ = false ∧ w.frozen? ⟨g, j + 2, none⟩ = false) := by
  have hl := h.1
  simp at hl
  subst hj
  refine ⟨⟨?_, ?_, ?_⟩, h.frozenAt _, h.frozenAt _, h.frozenAt _⟩ <;> (rw [h.cellAt _ (by omega)]; simp)

/-- The works that were made so far: each list behind block G, in a block of its own. -/
def Made (G : Nat) (w : World) (rs : List Wr) : Prop :=
  (∀ r ∈ rs, CpOwn (G + 1) w r.sl r.cps ∧ r.ad ≠ none ∧ r.cap = r.cps.length) ∧ rs.Pairwise fun a b => Apart a.sl b.sl
theorem Made.nil (G : Nat) (w : World) : Made G w [] := ⟨by simp, List.Pairwise.nil⟩
theorem Made.below {G : Nat} {w w' : World} {rs : List Wr} (h : Made G w rs) (hb : Below w.heap.size w w') : Made G w' rs :=
  ⟨fun r hr => ⟨(h.1 r hr).1.below hb, (h.1 r hr).2⟩, h.2⟩
theorem Made.set {G : Nat} {w : World} {rs : List Wr} (h : Made G w rs) (i : Nat) (v : Value) : Made G (w.setCell ⟨G, i, none⟩ v) rs :=
  ⟨fun r hr => ⟨(h.1 r hr).1.off (by simp) v, (h.1 r hr).2⟩, h.2⟩
/-- One more, made in a world of its own. -/
theorem Made.snoc {G : Nat} {w w' : World} {rs : List Wr} (h : Made G w rs) (hb : Below w.heap.size w w') (hG : G + 1 ≤ w.heap.size) (r : Wr) (ho : CpOwn w.heap.size w' r.sl r.cps) (hr : r.ad ≠ none ∧ r.cap = r.cps.length) : Made G w' (rs ++ [r]) := by
  refine ⟨fun x hx => ?_, ?_⟩
  · rcases List.mem_append.1 hx with hx | hx
    · exact ⟨(h.1 x hx).1.below hb, (h.1 x hx).2⟩
    · obtain rfl : x = r := by simpa using hx
      exact ⟨ho.mono hG, hr⟩
  · rw [List.pairwise_append]
    refine ⟨h.2, List.pairwise_singleton _ _, fun a ha b hb' => ?_⟩
    obtain rfl : b = r := by simpa using hb'
    exact own_differ (fun k hk => ((h.1 a ha).1.lt k hk).2) (fun k hk => (ho.lt k hk).1)

end Go.Proofs.YtblcgbgcccjpcaaGreat
