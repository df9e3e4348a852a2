/- Proved: the model's l1Split cuts a text of at most a million bytes at a byte; its list lies in new memory; it writes nothing that was there. -/
import Derived.Test.YtiibklhalgookaaGreatDoorTextWalks
import Derived.Test.YtiibklhalgookaaGreatDoorSplit
import Derived.Lib.Strings
namespace Go.Proofs.YtiibklhalgookaaGreatDoor
open Go.RowKit

def strOf (l : List UInt8) : Value := .string ⟨l.toArray⟩
/-- v is a list of the texts ls, in memory of the call's own, from block B on. -/
def StrRow (B : Nat) (w : World) (v : Value) (ls : List (List UInt8)) : Prop :=
  w.ownsRow B 9 1 v ls.length (ls.map strOf)

theorem Tryz.infoStr : (Tryz.prog.info? 9).map (fun i => (i.zero, i.size, i.bytes)) = some (some (.string ⟨#[]⟩), 1, 16) := by kernel_rfl

theorem extract_str (s : ByteArray) (f k : Nat) : Value.string (s.extract f k) = strOf ((s.data.toList.take k).drop f) := by
  unfold strOf
  congr 1
  apply ByteArray.ext
  apply Array.toList_inj.1
  rw [Lib.extract_data, List.drop_take]

theorem strRow_snoc {B : Nat} {w : World} {v : Value} {P : List (List UInt8)} {s : ByteArray} {fn k : Nat} {x : List UInt8} (h : w.ownsRow B 9 1 v (P.length + 1) (P.map strOf ++ [.string (s.extract fn k)])) (hx : (s.data.toList.take k).drop fn = x) : StrRow B w v (P ++ [x]) := by
  unfold StrRow
  rw [List.length_append, List.length_singleton, List.map_append, List.map_singleton, ← hx, ← extract_str]
  exact h

theorem below_grow {B e n size : Nat} {w wr w1 : World} {v : Value} {xs : List Value} {o : Obj} (hb : Below w.heap.size w wr) (ho : wr.ownsRow B e size v n xs) (hg : (wr.alloc o).grownBy w1 v.ownBlock) (hB : w.heap.size ≤ B := by exact Nat.le_refl _) : Below w.heap.size w w1 :=
  (hb.alloc hb.size o).grown hg (by have := hb.size; simp; omega) (fun k hk => Nat.le_trans hB (ho.lt k hk).1)

theorem StrRow.open {B : Nat} {w : World} {v : Value} {ls : List (List UInt8)} (h : StrRow B w v ls) (hne : ls ≠ []) :
    ∃ g cap, v = .slice (some ⟨g, 0, none⟩) ls.length cap ∧ B ≤ g ∧ g < w.heap.size ∧ ∀ j (hj : j < ls.length), w.cell? ⟨g, j, none⟩ = some (strOf ls[j]) := by
  have h0 := h
  unfold StrRow at h
  rcases h.2 with ⟨_, hn⟩ | ⟨g, cap, cur, rfl, hB, hg, _⟩
  · exact absurd (List.eq_nil_of_length_eq_zero hn) hne
  · refine ⟨g, cap, rfl, hB, (Array.getElem?_eq_some_iff.1 hg).1, fun j hj => ?_⟩
    rw [World.ownsRow.cellAt h j (by omega)]
    simp [hj]

set_option maxHeartbeats 1000000 in
theorem l1Split_any (s : ByteArray) (b : UInt8) (w : World) (hs : s.size ≤ 1048576) :
    Calls Tryz.prog 24 #[.string s, .int .u8 b.toNat] w fun e w' => ∃ v, e = .returned v ∧ StrRow w.heap.size w' v (M.split b s.data.toList) ∧ Below w.heap.size w w' := by
  obtain ⟨i0, hi, hz0, hz1, hz2⟩ := info_parts Tryz.infoStr
  go_enter Tryz.func24, Tryz.ntmps24
  go_wp2
  go_loopw [5, 6, 7] (fun o f i wr => ∃ (fn k : Nat) (P : List (List UInt8)), f = .int .i64 fn ∧ i = .int .i64 k ∧ k ≤ s.size + 1 ∧ M.Srel b s.data.toList fn k P ∧ StrRow w.heap.size wr o P ∧ Below w.heap.size w wr) (fun _ _ i _ => s.size + 1 - (intOf i).toNat)
  case atStart => exact ⟨0, 0, [], rfl, rfl, Nat.zero_le _, M.Srel_start _ _, World.ownsRow_made w #[] 0 (Nat.le_refl _) (Nat.zero_le _) rfl, (Below.refl _ _).alloc (Nat.le_refl _) _⟩
  case round =>
    obtain ⟨fn, k, P, rfl, rfl, hk, hsr, hown, hbel⟩ := hrel
    have hfk := hsr.1
    have hpl := hsr.2.1
    have HR := Lib.hid hsr
    clear hsr
    by_cases hle : k ≤ s.size
    · by_cases hlast : k = s.size
      · have HN := Lib.hid (M.Srel_last (b := b) (L := s.data.toList) (f := fn) (P := P) (by have := HR.out; rwa [hlast, ← M.len0 s] at this))
        have hl' : ((k : Int) == (s.size : Int)) = true := by simp; omega
        have HE : Hid ((s.data.toList.take k).drop fn = s.data.toList.drop fn) := Lib.hid (by rw [List.take_of_length_le (by rw [M.len0]; omega)])
        have HL := Lib.hid hlast
        clear hlast
        go_wp2_with (at_builtin; refine wpList_append_own _ rfl _ _ 35 rfl w.heap.size 9 i0 (.string ⟨#[]⟩) 1 16 Tryz.underlying35 hi hz0 hz1 hz2 rfl (by decide) _ _ _ rfl (hown.alloc _) ⟨wr.heap.size, 0, none⟩ 1 1 [.string (s.extract fn k)] rfl rfl (cell_one_new _ _ _) (by simp [Value.oneCell']) (by unfold maxLen; omega) (by omega) (by have := hbel.size; simp; omega) ?_; intro v' w1 hown' hgrow _)
        go_roundw
        case rel =>
          refine ⟨k + 1, k + 1, P ++ [s.data.toList.drop fn], by go_num, by go_num, by omega, ?_, strRow_snoc hown' HE.out, below_grow hbel hown hgrow⟩
          have h := HN.out
          rw [M.len0, ← HL.out] at h
          exact h
        case measure => simp [intOf]; omega
      · have hl' : ((k : Int) == (s.size : Int)) = false := by simp; omega
        have hlt : k < s.size := by omega
        clear hlast
        by_cases hb : s[k] = b
        · have HN := Lib.hid (M.Srel_cut HR.out (by rw [M.len0]; exact hlt) hb)
          have hb' : ((s[k].toNat : Int) == (b.toNat : Int)) = true := by rw [hb]; simp
          clear hb
          go_wp2_with (at_builtin; refine wpList_append_own _ rfl _ _ 35 rfl w.heap.size 9 i0 (.string ⟨#[]⟩) 1 16 Tryz.underlying35 hi hz0 hz1 hz2 rfl (by decide) _ _ _ rfl (hown.alloc _) ⟨wr.heap.size, 0, none⟩ 1 1 [.string (s.extract fn k)] rfl rfl (cell_one_new _ _ _) (by simp [Value.oneCell']) (by unfold maxLen; omega) (by omega) (by have := hbel.size; simp; omega) ?_; intro v' w1 hown' hgrow _)
          go_roundw
          case rel => exact ⟨k + 1, k + 1, P ++ [(s.data.toList.take k).drop fn], by go_num, by go_num, by omega, HN.out, strRow_snoc hown' rfl, below_grow hbel hown hgrow⟩
          case measure => simp [intOf]; omega
        · have HN := Lib.hid (M.Srel_on HR.out (by rw [M.len0]; exact hlt) hb)
          have hb' : ((s[k].toNat : Int) == (b.toNat : Int)) = false := by
            have hne : s[k].toNat ≠ b.toNat := fun e => hb (UInt8.toNat_inj.1 e)
            simp; omega
          clear hb
          go_wp2
          go_roundw
          case rel => exact ⟨fn, k + 1, P, rfl, by go_num, by omega, HN.out, hown, hbel⟩
          case measure => simp [intOf]; omega
    · have HN := Lib.hid (M.Srel_end HR.out (by rw [M.len0]; omega))
      go_wp2
      go_ret
      exact ⟨_, rfl, by rw [HN.out]; exact hown, hbel⟩
end Go.Proofs.YtiibklhalgookaaGreatDoor
