/- Proved: what the laws' marks leave as it was, for lists of one's own, nil among them; no condition. -/
import Derived.Test.YtepjpfiekchdmaaMark
import Derived.Test.YtepjpfiekchdmaaWorkWith
import Derived.Test.YtepjpfiekchdmaaOrdersBox
namespace Go.Proofs.Ytepjpfiekchdmaa
open Go.RowKit
set_option maxRecDepth 20000

theorem CpOwn.apart {B : Nat} {w : World} {v : Value} {l : List M.Cp} (h : CpOwn B w v l) {a : Addr} (ha : v.ownBlock ≠ some a.block) (u : Value) : CpOwn B (w.setCell a u) v l := by
  obtain ⟨hl, h0 | ⟨k, cap, cur, rfl, hb, hh, hr⟩⟩ := h
  · exact ⟨hl, .inl h0⟩
  · exact ⟨hl, .inr ⟨k, cap, cur, rfl, hb, (Below.heap_setCell _ _ _ _ (fun e => ha (by rw [← e]; rfl))).trans hh, hr⟩⟩
theorem CpOwn.ne_low {B g : Nat} {w : World} {v : Value} {l : List M.Cp} (h : CpOwn B w v l) (hg : g < B) : v.ownBlock ≠ some g := fun e => by
  have := (h.lt g e).1; omega
theorem CpOwn.ne_new {B : Nat} {w : World} {v : Value} {l : List M.Cp} (h : CpOwn B w v l) : v.ownBlock ≠ some w.heap.size := fun e => by
  have := (h.lt _ e).2; omega

/-- The block row alone, of all that was there, may have changed. -/
structure TouchO (row : Option Nat) (w w' : World) : Prop where
  size : w.heap.size ≤ w'.heap.size
  low : ∀ B, B ≤ w.heap.size → (∀ g, row = some g → B ≤ g) → Below B w w'
  block : ∀ k, k < w.heap.size → some k ≠ row → w'.heap[k]? = w.heap[k]?
theorem TouchO.holds {row : Option Nat} {k : Nat} {w w1 : World} {C : Array Value} (h : TouchO row w w1) (hC : Holds w k C) (hk : some k ≠ row) : Holds w1 k C :=
  ⟨Nat.lt_of_lt_of_le hC.1 h.size, fun j v hj => (World.cell?_of_block (a := ⟨k, j, none⟩) (h.block k hC.1 hk)).trans (hC.2 j v hj)⟩
theorem TouchO.own {row : Option Nat} {B : Nat} {w w1 : World} {v : Value} {l : List M.Cp} (h : TouchO row w w1) (ho : CpOwn B w v l) (hne : v.ownBlock = none ∨ v.ownBlock ≠ row) : CpOwn B w1 v l := by
  obtain ⟨hl, h0 | ⟨k, cap, cur, rfl, hb, hh, hr⟩⟩ := ho
  · exact ⟨hl, .inl h0⟩
  · have hk : some k ≠ row := by
      rcases hne with hne | hne
      · simp [Value.ownBlock] at hne
      · exact hne
    have hlt : k < w.heap.size := (Array.getElem?_eq_some_iff.1 hh).1
    exact ⟨hl, .inr ⟨k, cap, cur, rfl, hb, (h.block k hlt hk).trans hh, hr⟩⟩

theorem markWork_own (name : ByteArray) (owner : Int) (A : Option Addr) (l : List M.Cp) (n cap : Nat) (B : Nat) (w : World) (ho : CpOwn B w (.slice A n cap) l) (hlen : l.length ≤ 2000000) :
    Calls Try.prog 11 #[wkV name owner A n cap, .int .i64 1] w fun r w' => r = .returned (.int .i64 (1 + 5 * n : Nat)) ∧ CpOwn B w' (.slice A n cap) (marks 1 n) ∧ TouchO (Value.slice A n cap).ownBlock w w' := by
  have hn := ho.cps.2
  subst hn
  rcases A with _ | a
  · have hl : l = [] := flat_none ho.cps.1
    subst hl
    have hc := ho.nilc rfl
    subst hc
    refine (markWork_none name owner none 0 1 w).mono ?_
    rintro r w' ⟨rfl, hb⟩
    exact ⟨rfl, CpOwn.nil _ _, hb.size, fun B' hB _ => hb.mono hB, fun k hk _ => hb.block k hk⟩
  · obtain ⟨g, rfl⟩ : ∃ g, a = ⟨g, 0, none⟩ := by
      obtain ⟨_, ⟨h0, _⟩ | ⟨g, cap', cur, hv, _⟩⟩ := ho
      · simp at h0
      · injection hv with hA _ _
        exact ⟨g, by injection hA⟩
    refine (markWork_any name owner g l cap 1 B w ho hlen (by omega) (by omega)).mono ?_
    rintro r w' ⟨rfl, ho', ht⟩
    exact ⟨rfl, ho', ht.size, fun B' _ hB => ht.low B' (hB g rfl), fun k hk hne => ht.block k hk (fun e => hne (by rw [e]; rfl))⟩

/-- s is a pointer to a new box that holds the work p tells, its copies in new memory of their own; sb is the flag. -/
def WkBox (W0 : World) (p : M.Wk × Bool) (s sb : Value) (wx : World) : Prop :=
  ∃ G A c, sb = .bool p.2 ∧ s = .pointer (some ⟨G, 0, none⟩) ∧ W0.heap.size ≤ G ∧ Below W0.heap.size W0 wx ∧ Holds wx G (wkL p.1.name p.1.owner A p.1.copies.length c) ∧ CpOwn W0.heap.size wx (.slice A p.1.copies.length c) p.1.copies ∧ (Value.slice A p.1.copies.length c).ownBlock ≠ some G
end Go.Proofs.Ytepjpfiekchdmaa
