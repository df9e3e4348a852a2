/- Proved: the laws' helpers on lists of numbers: a copy is in new memory, and two lists of the same numbers are alike; an argument that is a slice of numbers is a list of them. Condition: at most 1048576 numbers. -/
import Derived.Test.YtnelgadfgeakjaaReachSpec
import Derived.Test.YtnelgadfgeakjaaOpenRows
namespace Go.Proofs.Ytnelgadfgeakjaa
open Go.ChangeShapes Go.WideShapes Go.ChangeAt Go.RowKit Go.Joins Go.Deep

theorem ints_at {A : Option Addr} {l : List Int} {w : World} (h : Ints w A l) {j : Nat} (hj : j < l.length) : ∃ b o, A = some ⟨b, o, none⟩ ∧ b < w.heap.size ∧ w.cell? ⟨b, o + j, none⟩ = some (.int .i64 l[j]) := by
  obtain ⟨b, o, hA, hb, hc⟩ := Flat.at h hj
  exact ⟨b, o, hA, hb, by have := hc 0 _ rfl; rwa [Nat.mul_one, Nat.add_zero] at this⟩

/-- v is a list of numbers in memory of one's own from block B on. -/
abbrev IntsOwn (B : Nat) (w : World) (v : Value) (l : List Int) : Prop := w.ownsRow B 2 1 v l.length (cellsOf inL l)
theorem own_ints {w : World} {base e g c : Nat} {l : List Int} (h : w.ownsRow base e 1 (.slice (some ⟨g, 0, none⟩) l.length c) l.length (cellsOf inL l)) : Ints w (some ⟨g, 0, none⟩) l := by
  obtain ⟨A, c', hv, _, hf⟩ := own_flat (k := 1) (enc := inL) (fun _ => rfl) h
  have hA : some ⟨g, 0, none⟩ = A := by injection hv
  rw [hA]; exact hf
theorem setInts (xs ys : List Value) (a0 f0 : Value) (n : Nat) (hn : n = xs.length) : (xs ++ a0 :: ys).set n f0 = xs ++ f0 :: ys := by subst hn; simp

section
variable {H : Type} {enc : TypeId × Value → H} {P : Program} {w : World} {base : Nat} {spare : Nat → Bool} {held : Bool}
theorem open_ints {r : Reach} {b0 : Nat} {ts t : TypeId} {v : Value} {d : DataW H} {p : List MemPlace} (hts : P.underlying ts = some (.slice t)) (ht : P.underlying t = some (.int .i64)) (hC : P.cellsOf t = 1)
    (hv : Value.okWide P w r b0 ts v) (h : DataW.Trod enc P w base spare held ts v d p) :
    ∃ (A : Option Addr) (l : List Int) (c : Nat), v = .slice A l.length c ∧ Ints w A l ∧ l.length ≤ c ∧ c ≤ maxLen := by
  obtain ⟨a0, len0, cap0, rfl⟩ := okWide_slice hts hv
  obtain ⟨fuel, hf⟩ := h
  obtain ⟨A, l, c, hcell, hfl, hlc, hcm, -⟩ := open_rows (en := inL) (Q := fun _ => True) hts hC (by omega) (fun _ => rfl) (fun n cs x hx => by
    obtain ⟨m, e, -⟩ := DataW.trod_int ht hx
    exact ⟨m, e, trivial⟩) hf
  refine ⟨A, l, c, ?_, hfl, hlc, hcm⟩
  simpa [Value.cells] using hcell
end

set_option maxHeartbeats 1000000 in
theorem toInts_any (A : Option Addr) (l : List Int) (cap : Nat) (w : World) (hl : Ints w A l) (hlen : l.length ≤ 1048576) :
    Calls Try.prog 28 #[.slice A l.length cap] w fun r w' => r = .returned (.slice (some ⟨w.heap.size, 0, none⟩) l.length l.length) ∧ IntsOwn w.heap.size w' (.slice (some ⟨w.heap.size, 0, none⟩) l.length l.length) l ∧ Below w.heap.size w w' := by
  obtain ⟨i0, hi, hz0, hz1, hz2⟩ := info_parts infoInt
  go_enter Try.func28, Try.ntmps28
  go_wp2_with (refine wpList_make_full _ rfl _ _ 33 rfl w.heap.size 2 i0 _ 1 Try.underlying33 hi hz0 hz1 .i64 .i64 _ _ l.length rfl rfl rfl rfl (by rw [hz2]; omega) (by unfold maxLen; omega) (Nat.le_refl _) ?_; intro w1 hown hgrow)
  have b1 : Below w.heap.size w w1 := (Below.refl _ _).grown hgrow (Nat.le_refl _) (fun k hk => by cases hk)
  go_loopw [4] (fun i wr => ∃ (j : Nat) (rest : List Value), i = .int .i64 j ∧ j ≤ l.length ∧ rest.length = l.length - j ∧ wr.ownsRow w.heap.size 2 1 (.slice (some ⟨w.heap.size, 0, none⟩) l.length l.length) l.length (cellsOf inL (l.take j) ++ rest) ∧ Below w.heap.size w wr) (fun i _ => l.length - (intOf i).toNat)
  case atStart => exact ⟨0, _, rfl, Nat.zero_le _, by rw [Nat.sub_zero]; exact hown.1.trans (Nat.mul_one _), hown, b1⟩
  case round =>
    obtain ⟨j, rest, rfl, hj, hr, hown', hb⟩ := hrel
    by_cases hlt : j < l.length
    · obtain ⟨e0, rs, rfl⟩ : ∃ e0 rs, rest = e0 :: rs := by
        rcases rest with _ | ⟨e0, rs⟩
        · simp at hr; omega
        · exact ⟨e0, rs, rfl⟩
      have hz : j = (cellsOf inL (l.take j)).length := by rw [cellsOf_len (k := 1) (fun _ => rfl), List.length_take, Nat.min_eq_left (by omega), Nat.mul_one]
      have hrs : rs.length = l.length - (j + 1) := by simp at hr; omega
      obtain ⟨b, o, rfl, hbl, c0⟩ := ints_at (hl.below hb) hlt
      have k0 : wr.cell? ⟨w.heap.size, j, none⟩ = some e0 := by
        rw [hown'.cellAt j (by have := hown'.1; omega)]
        rw [List.getElem?_append_right (by omega), ← hz, Nat.sub_self]; rfl
      have f0 := hown'.frozenAt j
      have HO := Lib.hid hown'
      have HL := Lib.hid hl
      have HZ := Lib.hid hz
      have HR := Lib.hid hrs
      clear hown hown' hl hz hrs hr
      go_wp2
      go_roundw
      case rel =>
        refine ⟨j + 1, rs, by go_num, by omega, HR.out, ?_, ?_⟩
        · rw [List.take_succ_eq_append_getElem hlt, cellsOf_append, List.append_assoc]
          have h := (HO.out.stored j (.int .i64 l[j])).1
          rw [setInts _ rs e0 _ j HZ.out] at h
          exact h
        · exact hb.setCell (Nat.le_refl _) _
      case measure => simp [intOf]; omega
    · have hj' : j = l.length := by omega
      subst hj'
      have hr0 : rest = [] := List.length_eq_zero_iff.1 (by rw [hr]; omega)
      subst hr0
      rw [List.take_length, List.append_nil] at hown'
      have HO := Lib.hid hown'
      clear hown hown' hr
      go_wp2
      go_ret
      exact ⟨rfl, HO.out, hb⟩

set_option maxHeartbeats 1000000 in
theorem eqInts_same (A B : Option Addr) (l : List Int) (ca cb : Nat) (w : World) (ha : Ints w A l) (hb : Ints w B l) (hlen : l.length ≤ maxLen) :
    Calls Try.prog 29 #[.slice A l.length ca, .slice B l.length cb] w fun r w' => r = .returned (.bool true) ∧ Below w.heap.size w w' := by
  unfold maxLen at hlen
  have he : ((l.length : Int) != (l.length : Int)) = false := by simp
  go_enter Try.func29, Try.ntmps29
  go_wp2
  go_loopw [5] (fun i wr => ∃ j : Nat, i = .int .i64 j ∧ j ≤ l.length ∧ Below w.heap.size w wr) (fun i _ => l.length - (intOf i).toNat)
  case atStart => exact ⟨0, rfl, Nat.zero_le _, Below.refl _ _⟩
  case round =>
    obtain ⟨j, rfl, hj, hbl⟩ := hrel
    by_cases hlt : j < l.length
    · obtain ⟨b, o, rfl, hb1, c1⟩ := ints_at (ha.below hbl) hlt
      obtain ⟨b', o', rfl, hb2, c2⟩ := ints_at (hb.below hbl) hlt
      have hx : (l[j] != l[j]) = false := by simp
      have w1 : IntKind.i64.wrap (j : Int) = j := by simp [IntKind.wrap, IntKind.bits, IntKind.signed]; omega
      clear ha hb
      go_wp2_with fail
      refine wp_region_seq (fun w' => Below wr.heap.size wr w') [(0, true), (1, true), (2, true), (3, true), (4, true), (5, true), (6, true), (7, true), (8, true)] (by kernel_rfl) (by kernel_rfl) (fun _ _ _ _ _ h => h) (by kernel_rfl) (by decide) (Below.refl _ _).drew ?_
      intro hHeld
      repeat (first
        | (refine seq_reads (by simp only [List.getElem?_toArray, List.getElem?_cons_succ, List.getElem?_cons_zero]; first | done | rfl) (by rfl) ?_; apply Exists.intro; apply And.intro; (focus (intro w hSw; obtain ⟨hcS, -⟩ := bcell hSw; go_simp; (try simp only [w1, Int.toNat_natCast]); (first | done | (with_reducible rfl) | (rw [if_pos (by omega)]; done) | (rw [if_pos (by omega)]; with_reducible rfl) | (simp only [hcS _ _ hb1, hcS _ _ hb2, c1, c2]; first | done | (go_simp; first | done | with_reducible rfl)) | (trace_state; fail)))); (try simp only [Act.put, List.setIfInBounds_toArray, List.set_cons_zero, List.set_cons_succ]))
        | (refine seq_pass (by simp only [List.getElem?_toArray, List.getElem?_cons_succ, List.getElem?_cons_zero]; first | done | rfl) (by rfl) hHeld ?_; clear hHeld; intro hHeld; (try simp only [Act.put, List.setIfInBounds_toArray, List.set_cons_zero, List.set_cons_succ])))
      refine seq_end ?_
      go_wp2
      go_roundw
      case rel => exact ⟨j + 1, by go_num, by omega, next hbl hHeld⟩
      case measure => simp [intOf]; omega
    · have hj' : j = l.length := by omega
      subst hj'
      go_wp2
      go_ret
      exact ⟨rfl, hbl⟩
end Go.Proofs.Ytnelgadfgeakjaa
