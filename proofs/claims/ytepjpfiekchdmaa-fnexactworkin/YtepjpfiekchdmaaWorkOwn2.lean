/- Proved: the program's newWork, and Veiled of the model and of the program, answer plain Lean functions, their lists in new memory; they write nothing that was there. Condition: texts of at most a million bytes, at most a million copies. -/
import Derived.Test.YtepjpfiekchdmaaWorkOwn
import Derived.Test.YtepjpfiekchdmaaWorkMathB
namespace Go.Proofs.Ytepjpfiekchdmaa
open Go.RowKit
set_option maxRecDepth 20000


set_option maxHeartbeats 1000000 in
theorem newWork_any (name : ByteArray) (owner : Int) (A : Option Addr) (l : List M.Cp) (cap : Nat) (w : World) (hl : Cps w A l) (hn : name.size ≤ 1048576) (hlen : l.length ≤ 1048576) (hp : ∀ c ∈ l, c.page.size ≤ 1048576) :
    Calls Try.prog 19 #[wkV name owner A l.length cap] w fun r w' => ∃ A' c', r = .returned (wkV name owner A' l.length c') ∧ CpOwn w.heap.size w' (.slice A' l.length c') l ∧ Below w.heap.size w w' := by
  have b0 := ((Below.refl w.heap.size w).alloc (Nat.le_refl _) (.cells (wkL name owner A l.length cap) 26)).alloc (by simp) (.cells (wkL ⟨#[]⟩ 0 none 0 0) 26)
  have h0 := (holds_new w (wkL name owner A l.length cap) 26).alloc (.cells (wkL ⟨#[]⟩ 0 none 0 0) 26)
  have h1 := holds_new (w.alloc (.cells (wkL name owner A l.length cap) 26)) (wkL ⟨#[]⟩ 0 none 0 0) 26
  have f1 := loose_new (w.alloc (.cells (wkL name owner A l.length cap) 26)) (wkL ⟨#[]⟩ 0 none 0 0) 26
  simp only [World.size_alloc] at h1 f1
  have HL := Lib.hid hl
  have HP := Lib.hid hp
  clear hl hp
  go_enter Try.func19, Try.ntmps19
  go_wp2_with fail
  generalize hW : (w.alloc (.cells (wkL name owner A l.length cap) 26)).alloc (.cells (wkL ⟨#[]⟩ 0 none 0 0) 26) = wz at b0 h0 h1 f1 ⊢
  clear hW
  replace h1 : Holds wz.drew (w.heap.size + 1) (wkL ⟨#[]⟩ 0 none 0 0) := h1
  replace f1 : Loose wz.drew (w.heap.size + 1) := f1
  refine wp_region_seq (fun x => Below w.heap.size w x ∧ Holds x w.heap.size (wkL name owner A l.length cap)) [(0, true), (1, true), (3, true), (4, true), (5, true), (6, true), (2, false), (7, false), (8, true), (9, false)] (by kernel_rfl) (by kernel_rfl) (fun _ _ _ _ _ h => h) (by kernel_rfl) (by decide) ⟨b0.drew, h0⟩ ?_
  intro hHeld
  repeat (first
    | (refine seq_skip (by simp only [List.getElem?_toArray, List.getElem?_cons_succ, List.getElem?_cons_zero]; first | done | rfl) (by rfl) ?_; (try simp only [Act.put, List.setIfInBounds_toArray, List.set_cons_zero, List.set_cons_succ]))
    | (refine seq_reads (by simp only [List.getElem?_toArray, List.getElem?_cons_succ, List.getElem?_cons_zero]; first | done | rfl) (by rfl) ?_; apply Exists.intro; apply And.intro; (focus (intro w hSw; obtain ⟨p0, p1, p2⟩ := hSw.2.at3; go_simp; (try with_reducible rfl); done)); (try simp only [Act.put, List.setIfInBounds_toArray, List.set_cons_zero, List.set_cons_succ]))
    | (refine seq_pass (by simp only [List.getElem?_toArray, List.getElem?_cons_succ, List.getElem?_cons_zero]; first | done | rfl) (by rfl) hHeld ?_; clear hHeld; intro hHeld; (try simp only [Act.put, List.setIfInBounds_toArray, List.set_cons_zero, List.set_cons_succ]))
    | (refine seq_call (by simp only [List.getElem?_toArray, List.getElem?_cons_succ, List.getElem?_cons_zero]; first | done | rfl) (by rfl) (fun K hK => ?_); go_simp; go_at_call 26; refine (clone_any name _ hn).mono ?_; rintro r w1 ⟨rfl, b1⟩; go_simp; refine hK.out _ _ ⟨next hHeld.1 b1, hHeld.2.below b1⟩ ?_; clear hK hHeld; intro hHeld; replace f1 := f1.below h1.1 b1; replace h1 := h1.below b1; (try simp only [Act.put, List.setIfInBounds_toArray, List.set_cons_zero, List.set_cons_succ]))
    | (refine seq_call (by simp only [List.getElem?_toArray, List.getElem?_cons_succ, List.getElem?_cons_zero]; first | done | rfl) (by rfl) (fun K hK => ?_); go_simp; go_at_call 27; refine (each_new A l cap _ (HL.out.below hHeld.1) hlen HP.out).mono ?_; rintro r w1 ⟨A', c', rfl, ho, b1⟩; go_simp; refine hK.out _ _ ⟨next hHeld.1 b1, hHeld.2.below b1⟩ ?_; clear hK hHeld; intro hHeld; have HZ := Lib.hid h1.1; replace f1 := f1.below h1.1 b1; replace h1 := h1.below b1; have HO := Lib.hid ho; clear ho; (try simp only [Act.put, List.setIfInBounds_toArray, List.set_cons_zero, List.set_cons_succ]))
    | (refine seq_call (by simp only [List.getElem?_toArray, List.getElem?_cons_succ, List.getElem?_cons_zero]; first | done | rfl) (by rfl) (fun K hK => ?_); obtain ⟨x0, x1, x2⟩ := h1.at3; obtain ⟨y0, y1, y2⟩ := f1.fz3; go_simp; refine hK.out _ _ ⟨far_3 hHeld.1 (by omega) _ _ _, hHeld.2.off3 (by omega) _ _ _⟩ ?_; clear hK hHeld; intro hHeld; (try simp only [Act.put, List.setIfInBounds_toArray, List.set_cons_zero, List.set_cons_succ])))
  refine seq_end ?_
  go_wp2
  refine bodyPost_ret (results_newWork name owner (.slice A' l.length c') (w.heap.size + 1) _ _ rfl (h1.wr3 _ _ _)) rfl ⟨A', c', rfl, ?_, hHeld.1⟩
  exact (((HO.out.off HZ.out _).off HZ.out _).off HZ.out _).mono (by have := HZ.out; omega)


/-- A work that a call answers: its name, owner, and its copies in memory of the call's own; and a flag. -/
def WkRet (B : Nat) (p : M.Wk × Bool) (r : Ending) (w' : World) : Prop :=
  ∃ A c, r = .returned (.tuple #[wkV p.1.name p.1.owner A p.1.copies.length c, .bool p.2]) ∧ CpOwn B w' (.slice A p.1.copies.length c) p.1.copies
theorem WkRet.zero (B : Nat) (w : World) {p : M.Wk × Bool} (hp : p = (M.zeroWk, false)) : WkRet B p (.returned (.tuple #[wkV ⟨#[]⟩ 0 none 0 0, .bool false])) w := by
  subst hp
  exact ⟨none, 0, rfl, CpOwn.nil _ _⟩
theorem WkRet.mk' {B : Nat} {w : World} {p : M.Wk × Bool} {name : ByteArray} {owner : Int} {l : List M.Cp} {b : Bool} {A : Option Addr} {c : Nat} (hp : p = (⟨name, owner, l⟩, b)) (h : CpOwn B w (.slice A l.length c) l) :
    WkRet B p (.returned (.tuple #[wkV name owner A l.length c, .bool b])) w := by
  subst hp
  exact ⟨A, c, rfl, h⟩
theorem WkRet.mk2 {B n : Nat} {w : World} {p : M.Wk × Bool} {name : ByteArray} {owner : Int} {l : List M.Cp} {b : Bool} {A : Option Addr} {c : Nat} (hp : p = (⟨name, owner, l⟩, b)) (hn : l.length = n) (h : CpOwn B w (.slice A n c) l) :
    WkRet B p (.returned (.tuple #[wkV name owner A n c, .bool b])) w := by
  subst hn
  exact WkRet.mk' hp h


theorem own_form {B : Nat} {w : World} {A : Option Addr} {n c : Nat} {l : List M.Cp} (h : CpOwn B w (.slice A n c) l) (hn : 0 < l.length) : ∃ g cc, Value.slice A n c = .slice (some ⟨g, 0, none⟩) l.length cc ∧ B ≤ g ∧ g < w.heap.size := World.ownsRow.form h hn
theorem own_hidden {B : Nat} {w : World} {g c k : Nat} {l : List M.Cp} (h : CpOwn B w (.slice (some ⟨g, 0, none⟩) l.length c) l) (hk : k < l.length) : w.cell? ⟨g, k * 5 + 4, none⟩ = some (.bool l[k].hidden) := by
  rw [World.ownsRow.cellAt h _ (by omega), cellsOf_at cpL_len l k 4 l[k] (List.getElem?_eq_getElem hk) (by omega)]
  rfl
theorem own_veil {B : Nat} {w : World} {g c k : Nat} {l : List M.Cp} (h : CpOwn B w (.slice (some ⟨g, 0, none⟩) l.length c) l) (hk : k < l.length) (hid : Bool) :
    CpOwn B (w.setCell ⟨g, k * 5 + 4, none⟩ (.bool hid)) (.slice (some ⟨g, 0, none⟩) l.length c) (M.veilAt l k hid) := by
  have := (World.ownsRow.stored h (k * 5 + 4) (.bool hid)).1
  rw [veil_cells l k hid hk] at this
  unfold CpOwn
  rw [M.veilAt_len]
  exact this


end Go.Proofs.Ytepjpfiekchdmaa
