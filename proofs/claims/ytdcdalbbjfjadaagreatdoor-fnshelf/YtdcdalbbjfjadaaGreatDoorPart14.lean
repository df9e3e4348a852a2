/- Proved, in parts: Proved: the program's newWork, and Veiled of the model and of the program, answer plain Lean functions, their lists in new memory; they write nothing that was there. Condition: texts of at most a million bytes, at most a million copies. -/
import Derived.Test.YtdcdalbbjfjadaaGreatDoorPart13
namespace Go.Proofs.YtdcdalbbjfjadaaGreatDoor
open Go.RowKit
set_option maxRecDepth 20000


set_option maxHeartbeats 1000000 in
theorem newWork_any (name : ByteArray) (owner : Int) (A : Option Addr) (l : List M.Cp) (cap : Nat) (w : World) (hl : Cps w A l) (hn : name.size ≤ 1048576) (hlen : l.length ≤ 1048576) (hp : ∀ c ∈ l, c.page.size ≤ 1048576) :
    Calls Tryz.prog 27 #[wkV name owner A l.length cap] w fun r w' => ∃ A' c', r = .returned (wkV name owner A' l.length c') ∧ CpOwn w.heap.size w' (.slice A' l.length c') l ∧ Below w.heap.size w w' := by
  have b0 := ((Below.refl w.heap.size w).alloc (Nat.le_refl _) (.cells (wkL name owner A l.length cap) 39)).alloc (by simp) (.cells (wkL ⟨#[]⟩ 0 none 0 0) 39)
  have h0 := (holds_new w (wkL name owner A l.length cap) 39).alloc (.cells (wkL ⟨#[]⟩ 0 none 0 0) 39)
  have h1 := holds_new (w.alloc (.cells (wkL name owner A l.length cap) 39)) (wkL ⟨#[]⟩ 0 none 0 0) 39
  have f1 := loose_new (w.alloc (.cells (wkL name owner A l.length cap) 39)) (wkL ⟨#[]⟩ 0 none 0 0) 39
  simp only [World.size_alloc] at h1 f1
  have HL := Lib.hid hl
  have HP := Lib.hid hp
  clear hl hp
  go_enter Tryz.func27, Tryz.ntmps27
  go_wp2_with fail
  generalize hW : (w.alloc (.cells (wkL name owner A l.length cap) 39)).alloc (.cells (wkL ⟨#[]⟩ 0 none 0 0) 39) = wz at b0 h0 h1 f1 ⊢
  clear hW
  replace h1 : Holds wz.drew (w.heap.size + 1) (wkL ⟨#[]⟩ 0 none 0 0) := h1
  replace f1 : Loose wz.drew (w.heap.size + 1) := f1
  refine wp_region_seq (fun x => Below w.heap.size w x ∧ Holds x w.heap.size (wkL name owner A l.length cap)) [(0, true), (1, true), (3, true), (4, true), (5, true), (6, true), (2, false), (7, false), (8, true), (9, false)] (by kernel_rfl) (by kernel_rfl) (fun _ _ _ _ _ h => h) (by kernel_rfl) (by decide) ⟨b0.drew, h0⟩ ?_
  intro hHeld
  repeat (first
    | (refine seq_skip (by simp only [List.getElem?_toArray, List.getElem?_cons_succ, List.getElem?_cons_zero]; first | done | rfl) (by rfl) ?_; (try simp only [Act.put, List.setIfInBounds_toArray, List.set_cons_zero, List.set_cons_succ]))
    | (refine seq_reads (by simp only [List.getElem?_toArray, List.getElem?_cons_succ, List.getElem?_cons_zero]; first | done | rfl) (by rfl) ?_; apply Exists.intro; apply And.intro; (focus (intro w hSw; obtain ⟨p0, p1, p2⟩ := hSw.2.at3; go_simp; (try with_reducible rfl); done)); (try simp only [Act.put, List.setIfInBounds_toArray, List.set_cons_zero, List.set_cons_succ]))
    | (refine seq_pass (by simp only [List.getElem?_toArray, List.getElem?_cons_succ, List.getElem?_cons_zero]; first | done | rfl) (by rfl) hHeld ?_; clear hHeld; intro hHeld; (try simp only [Act.put, List.setIfInBounds_toArray, List.set_cons_zero, List.set_cons_succ]))
    | (refine seq_call (by simp only [List.getElem?_toArray, List.getElem?_cons_succ, List.getElem?_cons_zero]; first | done | rfl) (by rfl) (fun K hK => ?_); go_simp; go_at_call 57; refine (clone_any name _ hn).mono ?_; rintro r w1 ⟨rfl, b1⟩; go_simp; refine hK.out _ _ ⟨next hHeld.1 b1, hHeld.2.below b1⟩ ?_; clear hK hHeld; intro hHeld; replace f1 := f1.below h1.1 b1; replace h1 := h1.below b1; (try simp only [Act.put, List.setIfInBounds_toArray, List.set_cons_zero, List.set_cons_succ]))
    | (refine seq_call (by simp only [List.getElem?_toArray, List.getElem?_cons_succ, List.getElem?_cons_zero]; first | done | rfl) (by rfl) (fun K hK => ?_); go_simp; go_at_call 58; refine (each_new A l cap _ (HL.out.below hHeld.1) hlen HP.out).mono ?_; rintro r w1 ⟨A', c', rfl, ho, b1⟩; go_simp; refine hK.out _ _ ⟨next hHeld.1 b1, hHeld.2.below b1⟩ ?_; clear hK hHeld; intro hHeld; have HZ := Lib.hid h1.1; replace f1 := f1.below h1.1 b1; replace h1 := h1.below b1; have HO := Lib.hid ho; clear ho; (try simp only [Act.put, List.setIfInBounds_toArray, List.set_cons_zero, List.set_cons_succ]))
    | (refine seq_call (by simp only [List.getElem?_toArray, List.getElem?_cons_succ, List.getElem?_cons_zero]; first | done | rfl) (by rfl) (fun K hK => ?_); obtain ⟨x0, x1, x2⟩ := h1.at3; obtain ⟨y0, y1, y2⟩ := f1.fz3; go_simp; refine hK.out _ _ ⟨far_3 hHeld.1 (by omega) _ _ _, hHeld.2.off3 (by omega) _ _ _⟩ ?_; clear hK hHeld; intro hHeld; (try simp only [Act.put, List.setIfInBounds_toArray, List.set_cons_zero, List.set_cons_succ])))
  refine seq_end ?_
  go_wp2
  refine bodyPost_ret (results_newWork name owner (.slice A' l.length c') (w.heap.size + 1) _ _ rfl (h1.wr3 _ _ _)) rfl ⟨A', c', rfl, ?_, hHeld.1⟩
  exact (((HO.out.off HZ.out _).off HZ.out _).off HZ.out _).mono (by have := HZ.out; omega)


theorem results_sve (name : ByteArray) (owner : Int) (v : Value) (b : Bool) (R : Nat) (W : World) (tmps : Array Value) (h2 : tmps.getD 6 undef = .pointer (some ⟨R, 0, none⟩)) (h3 : tmps.getD 7 undef = .bool b) (hW : Holds W R (wkA name owner v)) :
    (results Tryz.f68 tmps).run Tryz.prog W = .ok (.tuple #[.agg (wkA name owner v), .bool b]) W := by
  obtain ⟨q0, q1, q2⟩ := hW.at3
  simp at h2 h3
  simp [results, Tryz.results68, go_sem, h2, h3, q0, q1, q2]

theorem results_ive (name : ByteArray) (owner : Int) (v : Value) (b : Bool) (R : Nat) (W : World) (tmps : Array Value) (h2 : tmps.getD 6 undef = .pointer (some ⟨R, 0, none⟩)) (h3 : tmps.getD 7 undef = .bool b) (hW : Holds W R (wkA name owner v)) :
    (results Tryz.f108 tmps).run Tryz.prog W = .ok (.tuple #[.agg (wkA name owner v), .bool b]) W := by
  obtain ⟨q0, q1, q2⟩ := hW.at3
  simp at h2 h3
  simp [results, Tryz.results108, go_sem, h2, h3, q0, q1, q2]

theorem results_spr (name : ByteArray) (owner : Int) (v : Value) (b : Bool) (R : Nat) (W : World) (tmps : Array Value) (h2 : tmps.getD 6 undef = .pointer (some ⟨R, 0, none⟩)) (h3 : tmps.getD 7 undef = .bool b) (hW : Holds W R (wkA name owner v)) :
    (results Tryz.f66 tmps).run Tryz.prog W = .ok (.tuple #[.agg (wkA name owner v), .bool b]) W := by
  obtain ⟨q0, q1, q2⟩ := hW.at3
  simp at h2 h3
  simp [results, Tryz.results66, go_sem, h2, h3, q0, q1, q2]

theorem results_ipr (name : ByteArray) (owner : Int) (v : Value) (b : Bool) (R : Nat) (W : World) (tmps : Array Value) (h2 : tmps.getD 6 undef = .pointer (some ⟨R, 0, none⟩)) (h3 : tmps.getD 7 undef = .bool b) (hW : Holds W R (wkA name owner v)) :
    (results Tryz.f107 tmps).run Tryz.prog W = .ok (.tuple #[.agg (wkA name owner v), .bool b]) W := by
  obtain ⟨q0, q1, q2⟩ := hW.at3
  simp at h2 h3
  simp [results, Tryz.results107, go_sem, h2, h3, q0, q1, q2]


/-- A work that a call answers: its name, owner, and its copies in memory of the call's own; and a flag. -/
def WkRet (B : Nat) (p : M.Wk × Bool) (r : Ending) (w' : World) : Prop :=
  ∃ A c, r = .returned (.tuple #[wkV p.1.name p.1.owner A p.1.copies.length c, .bool p.2]) ∧ CpOwn B w' (.slice A p.1.copies.length c) p.1.copies
theorem WkRet.zero (B : Nat) (w : World) {p : M.Wk × Bool} (hp : p = (M.zeroWk, false)) : WkRet B p (.returned (.tuple #[wkV ⟨#[]⟩ 0 none 0 0, .bool false])) w := by
  subst hp
  exact ⟨none, 0, rfl, CpOwn.nil _ _⟩
theorem WkRet.mk' {B : Nat} {w : World} {p : M.Wk × Bool} {name : ByteArray} {owner : Int} {l : List M.Cp} {b : Bool} {A : Option Addr} {c : Nat} (hp : p = (⟨name, owner, l⟩, b)) (h : CpOwn B w (.slice A l.length c) l) :
    WkRet B p (.returned (.tuple #[wkV name owner A l.length c, .bool b])) w := by
  subst hp
  exact ⟨A, c, rfl, h⟩
theorem WkRet.mk2 {B n : Nat} {w : World} {p : M.Wk × Bool} {name : ByteArray} {owner : Int} {l : List M.Cp} {b : Bool} {A : Option Addr} {c : Nat} (hp : p = (⟨name, owner, l⟩, b)) (hn : l.length = n) (h : CpOwn B w (.slice A n c) l) :
    WkRet B p (.returned (.tuple #[wkV name owner A n c, .bool b])) w := by
  subst hn
  exact WkRet.mk' hp h


theorem own_form {B : Nat} {w : World} {A : Option Addr} {n c : Nat} {l : List M.Cp} (h : CpOwn B w (.slice A n c) l) (hn : 0 < l.length) : ∃ g cc, Value.slice A n c = .slice (some ⟨g, 0, none⟩) l.length cc ∧ B ≤ g ∧ g < w.heap.size := World.ownsRow.form h hn
theorem own_hidden {B : Nat} {w : World} {g c k : Nat} {l : List M.Cp} (h : CpOwn B w (.slice (some ⟨g, 0, none⟩) l.length c) l) (hk : k < l.length) : w.cell? ⟨g, k * 5 + 4, none⟩ = some (.bool l[k].hidden) := by
  rw [World.ownsRow.cellAt h _ (by omega), cellsOf_at cpL_len l k 4 l[k] (List.getElem?_eq_getElem hk) (by omega)]
  rfl
theorem own_veil {B : Nat} {w : World} {g c k : Nat} {l : List M.Cp} (h : CpOwn B w (.slice (some ⟨g, 0, none⟩) l.length c) l) (hk : k < l.length) (hid : Bool) :
    CpOwn B (w.setCell ⟨g, k * 5 + 4, none⟩ (.bool hid)) (.slice (some ⟨g, 0, none⟩) l.length c) (M.veilAt l k hid) := by
  have := (World.ownsRow.stored h (k * 5 + 4) (.bool hid)).1
  rw [veil_cells l k hid hk] at this
  unfold CpOwn
  rw [M.veilAt_len]
  exact this


set_option maxHeartbeats 2000000 in
theorem specVeiled (name : ByteArray) (owner : Int) (A : Option Addr) (l : List M.Cp) (cap : Nat) (e : M.Ed) (hid : Bool) (w : World) (hl : Cps w A l) (hA : A = none → cap = 0) (hn : name.size ≤ maxLen) (hlen : l.length ≤ 1048576) (hp : ∀ c ∈ l, c.page.size ≤ maxLen) :
    Calls Tryz.prog 68 #[wkV name owner A l.length cap, edV e, .bool hid] w fun r w' => WkRet w.heap.size (M.veiled ⟨name, owner, l⟩ e hid) r w' ∧ Below w.heap.size w w' := by
  have HP := Lib.hid hp
  have HA := Lib.hid hA
  clear hp hA
  have b0 := (((Below.refl w.heap.size w).alloc (Nat.le_refl _) (.cells (wkL name owner A l.length cap) 39)).alloc (by simp) (.cells (edL e) 26)).alloc (by simp; omega) (.cells (wkL ⟨#[]⟩ 0 none 0 0) 39)
  have h0 := ((holds_new w (wkL name owner A l.length cap) 39).alloc (.cells (edL e) 26)).alloc (.cells (wkL ⟨#[]⟩ 0 none 0 0) 39)
  have h1 := (holds_new (w.alloc (.cells (wkL name owner A l.length cap) 39)) (edL e) 26).alloc (.cells (wkL ⟨#[]⟩ 0 none 0 0) 39)
  have h2 := holds_new ((w.alloc (.cells (wkL name owner A l.length cap) 39)).alloc (.cells (edL e) 26)) (wkL ⟨#[]⟩ 0 none 0 0) 39
  have f2 := loose_new ((w.alloc (.cells (wkL name owner A l.length cap) 39)).alloc (.cells (edL e) 26)) (wkL ⟨#[]⟩ 0 none 0 0) 39
  have hl3 := ((hl.alloc (.cells (wkL name owner A l.length cap) 39)).alloc (.cells (edL e) 26)).alloc (.cells (wkL ⟨#[]⟩ 0 none 0 0) 39)
  simp only [World.size_alloc] at h1 h2 f2
  rcases hk : M.wkOk ⟨name, owner, l⟩ with _ | _
  · have HE := Lib.hid (M.veiled_bad e hid hk)
    have HK := Lib.hid hk
    clear hk
    go_enter Tryz.func68, Tryz.ntmps68
    go_wp2_with fail
    refine (specWorkOk name owner A l cap _ hl3 hn hlen HP.out).mono ?_
    rintro r w1 ⟨rfl, b1⟩
    rw [HK.out]
    replace h0 := h0.below b1
    replace h1 := h1.below b1
    replace f2 := f2.below h2.1 b1
    replace h2 := h2.below b1
    replace b0 := next b0 b1
    obtain ⟨p0, p1, p2⟩ := h0.at3
    obtain ⟨q0, q1, q2⟩ := h1.at3
    obtain ⟨r0, r1, r2⟩ := h2.at3
    obtain ⟨s0, s1, s2⟩ := f2.fz3
    have z0 := h0.1
    have z1 := h1.1
    have z2 := h2.1
    clear b1
    go_wp2
    exact bodyPost_ret (results_sve ⟨#[]⟩ 0 (.slice none 0 0) false (w.heap.size + 1 + 1) _ _ rfl rfl (h2.wr3 _ _ _)) rfl ⟨WkRet.zero _ _ HE.out, far_3 b0 (by omega) _ _ _⟩
  · have HK := Lib.hid hk
    by_cases hf : M.findEd l e < l.length
    · have HE := Lib.hid (M.veiled_some (w := ⟨name, owner, l⟩) hid hk hf)
      have HI := Lib.hid (M.findInt_pos hf)
      clear hk
      go_enter Tryz.func68, Tryz.ntmps68
      go_wp2_with fail
      refine (specWorkOk name owner A l cap _ hl3 hn hlen HP.out).mono ?_
      rintro r w1 ⟨rfl, b1⟩
      rw [HK.out]
      have hl4 := hl3.below b1
      replace h0 := h0.below b1
      replace h1 := h1.below b1
      replace f2 := f2.below h2.1 b1
      replace h2 := h2.below b1
      replace b0 := next b0 b1
      obtain ⟨p0, p1, p2⟩ := h0.at3
      obtain ⟨q0, q1, q2⟩ := h1.at3
      obtain ⟨r0, r1, r2⟩ := h2.at3
      obtain ⟨s0, s1, s2⟩ := f2.fz3
      have z0 := h0.1
      have z1 := h1.1
      have z2 := h2.1
      clear b1
      go_wp2_with fail
      refine (l4Own_any name owner A l cap _ hl4 HA.out hlen).mono ?_
      rintro r w9 ⟨A', c', rfl, ho, b9⟩
      have zb9 : w.heap.size + 1 + 1 < w1.heap.size := h2.1
      have hl5 := hl4.below b9
      have b9le := b9.size
      clear p0 p1 p2 q0 q1 q2 r0 r1 r2 s0 s1 s2 z0 z1 z2
      replace h0 := h0.below b9
      replace h1 := h1.below b9
      replace f2 := f2.below h2.1 b9
      replace h2 := h2.below b9
      replace b0 := next b0 b9
      obtain ⟨p0, p1, p2⟩ := h0.at3
      obtain ⟨q0, q1, q2⟩ := h1.at3
      obtain ⟨r0, r1, r2⟩ := h2.at3
      obtain ⟨s0, s1, s2⟩ := f2.fz3
      have z0 := h0.1
      have z1 := h1.1
      have z2 := h2.1
      clear b9
      have ba := (Below.refl w9.heap.size w9).alloc (Nat.le_refl _) (.cells (wkL name owner A' l.length c') 39)
      have h8 := holds_new w9 (wkL name owner A' l.length c') 39
      have f8 := loose_new w9 (wkL name owner A' l.length c') 39
      have ho8 := ho.below ba
      have hl8 := hl5.below ba
      have hlt9 := fun k hk => (ho.lt k hk).2
      have HT := Lib.hid hlt9
      have HT9 := Lib.hid b9le
      clear p0 p1 p2 q0 q1 q2 r0 r1 r2 s0 s1 s2 z0 z1 z2 ho hlt9 b9le
      replace h0 := h0.below ba
      replace h1 := h1.below ba
      replace f2 := f2.below h2.1 ba
      replace h2 := h2.below ba
      replace b0 := next b0 ba
      obtain ⟨p0, p1, p2⟩ := h0.at3
      obtain ⟨q0, q1, q2⟩ := h1.at3
      obtain ⟨r0, r1, r2⟩ := h2.at3
      obtain ⟨s0, s1, s2⟩ := f2.fz3
      have z0 := h0.1
      have z1 := h1.1
      have z2 := h2.1
      clear ba
      have z8 := h8.1
      obtain ⟨m0, m1, m2⟩ := h8.at3
      obtain ⟨n0, n1, n2⟩ := f8.fz3
      go_wp2_with fail
      refine (l4Find_any name owner A l cap e _ hl8 hlen).mono ?_
      rintro r w2 ⟨rfl, b2⟩
      rw [HI.out]
      clear m0 m1 m2 n0 n1 n2 z8
      replace f8 := f8.below h8.1 b2
      replace h8 := h8.below b2
      replace ho8 := ho8.below b2
      clear p0 p1 p2 q0 q1 q2 r0 r1 r2 s0 s1 s2 z0 z1 z2
      replace h0 := h0.below b2
      replace h1 := h1.below b2
      replace f2 := f2.below h2.1 b2
      replace h2 := h2.below b2
      replace b0 := next b0 b2
      obtain ⟨p0, p1, p2⟩ := h0.at3
      obtain ⟨q0, q1, q2⟩ := h1.at3
      obtain ⟨r0, r1, r2⟩ := h2.at3
      obtain ⟨s0, s1, s2⟩ := f2.fz3
      have z0 := h0.1
      have z1 := h1.1
      have z2 := h2.1
      clear b2
      have z8 := h8.1
      obtain ⟨m0, m1, m2⟩ := h8.at3
      obtain ⟨n0, n1, n2⟩ := f8.fz3
      have hlpos : 0 < l.length := by omega
      obtain ⟨g, cc, hv, hbg, hgl⟩ := own_form ho8 hlpos
      injection hv with hA' _ hc'
      subst hA' hc'
      have hg9 : g < w9.heap.size := HT.out g rfl
      have e1 : ¬ (w9.heap.size = g) := by omega
      have e2 : ¬ (g = w9.heap.size) := by omega
      have e3 : ¬ (w.heap.size + 1 + 1 = g) := by omega
      have e4 : ¬ (g = w.heap.size + 1 + 1) := by omega
      have e5 : w2.cell? ⟨g, (M.findEd l e) * 5 + 4, none⟩ = some (.bool l[M.findEd l e].hidden) := own_hidden ho8 hf
      have e6 : w2.frozen? ⟨g, (M.findEd l e) * 5 + 4, none⟩ = false := World.ownsRow.frozenAt ho8 _
      have HO : Hid (CpOwn w1.heap.size (w2.setCell ⟨g, (M.findEd l e) * 5 + 4, none⟩ (.bool hid)) (.slice (some ⟨g, 0, none⟩) l.length c') (M.veilAt l (M.findEd l e) hid)) := Lib.hid (own_veil ho8 hf hid)
      have HB := Lib.hid hbg
      clear ho8 hbg
      go_wp2
      refine bodyPost_ret (results_sve name owner (.slice (some ⟨g, 0, none⟩) l.length c') true (w.heap.size + 1 + 1) _ _ rfl rfl ((h2.otherM e3).wr3 _ _ _)) rfl ⟨?_, far_3 (farM b0 (by have := HB.out; omega) _ _) (by omega) _ _ _⟩
      exact WkRet.mk2 HE.out (M.veilAt_len _ _ _) ((((HO.out.off zb9 _).off zb9 _).off zb9 _).mono (by omega))
    · have hf' : M.findEd l e = l.length := by
        have := List.findIdx_le_length (p := M.isEd e) (xs := l)
        unfold M.findEd at hf ⊢; omega
      have HE := Lib.hid (M.veiled_none (w := ⟨name, owner, l⟩) hid hk hf')
      have HI := Lib.hid (M.findInt_neg hf')
      clear hk hf'
      go_enter Tryz.func68, Tryz.ntmps68
      go_wp2_with fail
      refine (specWorkOk name owner A l cap _ hl3 hn hlen HP.out).mono ?_
      rintro r w1 ⟨rfl, b1⟩
      rw [HK.out]
      have hl4 := hl3.below b1
      replace h0 := h0.below b1
      replace h1 := h1.below b1
      replace f2 := f2.below h2.1 b1
      replace h2 := h2.below b1
      replace b0 := next b0 b1
      obtain ⟨p0, p1, p2⟩ := h0.at3
      obtain ⟨q0, q1, q2⟩ := h1.at3
      obtain ⟨r0, r1, r2⟩ := h2.at3
      obtain ⟨s0, s1, s2⟩ := f2.fz3
      have z0 := h0.1
      have z1 := h1.1
      have z2 := h2.1
      clear b1
      go_wp2_with fail
      refine (l4Own_any name owner A l cap _ hl4 HA.out hlen).mono ?_
      rintro r w9 ⟨A', c', rfl, ho, b9⟩
      have zb9 : w.heap.size + 1 + 1 < w1.heap.size := h2.1
      have hl5 := hl4.below b9
      have b9le := b9.size
      clear p0 p1 p2 q0 q1 q2 r0 r1 r2 s0 s1 s2 z0 z1 z2
      replace h0 := h0.below b9
      replace h1 := h1.below b9
      replace f2 := f2.below h2.1 b9
      replace h2 := h2.below b9
      replace b0 := next b0 b9
      obtain ⟨p0, p1, p2⟩ := h0.at3
      obtain ⟨q0, q1, q2⟩ := h1.at3
      obtain ⟨r0, r1, r2⟩ := h2.at3
      obtain ⟨s0, s1, s2⟩ := f2.fz3
      have z0 := h0.1
      have z1 := h1.1
      have z2 := h2.1
      clear b9
      have ba := (Below.refl w9.heap.size w9).alloc (Nat.le_refl _) (.cells (wkL name owner A' l.length c') 39)
      have h8 := holds_new w9 (wkL name owner A' l.length c') 39
      have f8 := loose_new w9 (wkL name owner A' l.length c') 39
      have ho8 := ho.below ba
      have hl8 := hl5.below ba
      have hlt9 := fun k hk => (ho.lt k hk).2
      have HT := Lib.hid hlt9
      have HT9 := Lib.hid b9le
      clear p0 p1 p2 q0 q1 q2 r0 r1 r2 s0 s1 s2 z0 z1 z2 ho hlt9 b9le
      replace h0 := h0.below ba
      replace h1 := h1.below ba
      replace f2 := f2.below h2.1 ba
      replace h2 := h2.below ba
      replace b0 := next b0 ba
      obtain ⟨p0, p1, p2⟩ := h0.at3
      obtain ⟨q0, q1, q2⟩ := h1.at3
      obtain ⟨r0, r1, r2⟩ := h2.at3
      obtain ⟨s0, s1, s2⟩ := f2.fz3
      have z0 := h0.1
      have z1 := h1.1
      have z2 := h2.1
      clear ba
      have z8 := h8.1
      obtain ⟨m0, m1, m2⟩ := h8.at3
      obtain ⟨n0, n1, n2⟩ := f8.fz3
      go_wp2_with fail
      refine (l4Find_any name owner A l cap e _ hl8 hlen).mono ?_
      rintro r w2 ⟨rfl, b2⟩
      rw [HI.out]
      clear m0 m1 m2 n0 n1 n2 z8
      replace f8 := f8.below h8.1 b2
      replace h8 := h8.below b2
      replace ho8 := ho8.below b2
      clear p0 p1 p2 q0 q1 q2 r0 r1 r2 s0 s1 s2 z0 z1 z2
      replace h0 := h0.below b2
      replace h1 := h1.below b2
      replace f2 := f2.below h2.1 b2
      replace h2 := h2.below b2
      replace b0 := next b0 b2
      obtain ⟨p0, p1, p2⟩ := h0.at3
      obtain ⟨q0, q1, q2⟩ := h1.at3
      obtain ⟨r0, r1, r2⟩ := h2.at3
      obtain ⟨s0, s1, s2⟩ := f2.fz3
      have z0 := h0.1
      have z1 := h1.1
      have z2 := h2.1
      clear b2
      have z8 := h8.1
      obtain ⟨m0, m1, m2⟩ := h8.at3
      obtain ⟨n0, n1, n2⟩ := f8.fz3
      have HO := Lib.hid ho8
      clear ho8
      go_wp2
      exact bodyPost_ret (results_sve name owner (.slice A' l.length c') false (w.heap.size + 1 + 1) _ _ rfl rfl (h2.wr3 _ _ _)) rfl ⟨WkRet.mk' HE.out ((((HO.out.off zb9 _).off zb9 _).off zb9 _).mono (by omega)), far_3 b0 (by omega) _ _ _⟩


set_option maxHeartbeats 2000000 in
theorem implVeiled (name : ByteArray) (owner : Int) (A : Option Addr) (l : List M.Cp) (cap : Nat) (e : M.Ed) (hid : Bool) (w : World) (hl : Cps w A l) (hn : name.size ≤ 1048576) (hlen : l.length ≤ 1048576) (hp : ∀ c ∈ l, c.page.size ≤ 1048576) :
    Calls Tryz.prog 108 #[wkV name owner A l.length cap, edV e, .bool hid] w fun r w' => WkRet w.heap.size (M.veiled ⟨name, owner, l⟩ e hid) r w' ∧ Below w.heap.size w w' := by
  have HP := Lib.hid hp
  clear hp
  have b0 := (((Below.refl w.heap.size w).alloc (Nat.le_refl _) (.cells (wkL name owner A l.length cap) 39)).alloc (by simp) (.cells (edL e) 26)).alloc (by simp; omega) (.cells (wkL ⟨#[]⟩ 0 none 0 0) 39)
  have h0 := ((holds_new w (wkL name owner A l.length cap) 39).alloc (.cells (edL e) 26)).alloc (.cells (wkL ⟨#[]⟩ 0 none 0 0) 39)
  have h1 := (holds_new (w.alloc (.cells (wkL name owner A l.length cap) 39)) (edL e) 26).alloc (.cells (wkL ⟨#[]⟩ 0 none 0 0) 39)
  have h2 := holds_new ((w.alloc (.cells (wkL name owner A l.length cap) 39)).alloc (.cells (edL e) 26)) (wkL ⟨#[]⟩ 0 none 0 0) 39
  have f2 := loose_new ((w.alloc (.cells (wkL name owner A l.length cap) 39)).alloc (.cells (edL e) 26)) (wkL ⟨#[]⟩ 0 none 0 0) 39
  have hl3 := ((hl.alloc (.cells (wkL name owner A l.length cap) 39)).alloc (.cells (edL e) 26)).alloc (.cells (wkL ⟨#[]⟩ 0 none 0 0) 39)
  simp only [World.size_alloc] at h1 h2 f2
  rcases hk : M.wkOk ⟨name, owner, l⟩ with _ | _
  · have HE := Lib.hid (M.veiled_bad e hid hk)
    have HK := Lib.hid hk
    clear hk
    go_enter Tryz.func108, Tryz.ntmps108
    go_wp2_with fail
    refine (implWorkOk name owner A l cap _ hl3 (Nat.le_trans hn (by unfold maxLen; omega)) hlen (fun c hc => Nat.le_trans (HP.out c hc) (by unfold maxLen; omega))).mono ?_
    rintro r w1 ⟨rfl, b1⟩
    rw [HK.out]
    replace h0 := h0.below b1
    replace h1 := h1.below b1
    replace f2 := f2.below h2.1 b1
    replace h2 := h2.below b1
    replace b0 := next b0 b1
    obtain ⟨p0, p1, p2⟩ := h0.at3
    obtain ⟨q0, q1, q2⟩ := h1.at3
    obtain ⟨r0, r1, r2⟩ := h2.at3
    obtain ⟨s0, s1, s2⟩ := f2.fz3
    have z0 := h0.1
    have z1 := h1.1
    have z2 := h2.1
    clear b1
    go_wp2
    exact bodyPost_ret (results_ive ⟨#[]⟩ 0 (.slice none 0 0) false (w.heap.size + 1 + 1) _ _ rfl rfl (h2.wr3 _ _ _)) rfl ⟨WkRet.zero _ _ HE.out, far_3 b0 (by omega) _ _ _⟩
  · have HK := Lib.hid hk
    have hr : M.risesB l = true := (M.wkOk_rises hk).1
    rcases M.place_find hr e with ⟨ha, hf, hpl⟩ | ⟨ha, hf⟩
    · have hlt : M.place l e < l.length := by rw [hpl]; exact hf
      have HE : Hid (M.veiled ⟨name, owner, l⟩ e hid = (⟨name, owner, M.veilAt l (M.place l e) hid⟩, true)) := Lib.hid (by rw [M.veiled_some (w := ⟨name, owner, l⟩) hid hk hf, hpl])
      have HI := Lib.hid ha
      clear hk hr ha hpl hf
      go_enter Tryz.func108, Tryz.ntmps108
      go_wp2_with fail
      refine (implWorkOk name owner A l cap _ hl3 (Nat.le_trans hn (by unfold maxLen; omega)) hlen (fun c hc => Nat.le_trans (HP.out c hc) (by unfold maxLen; omega))).mono ?_
      rintro r w1 ⟨rfl, b1⟩
      rw [HK.out]
      have hl4 := hl3.below b1
      replace h0 := h0.below b1
      replace h1 := h1.below b1
      replace f2 := f2.below h2.1 b1
      replace h2 := h2.below b1
      replace b0 := next b0 b1
      obtain ⟨p0, p1, p2⟩ := h0.at3
      obtain ⟨q0, q1, q2⟩ := h1.at3
      obtain ⟨r0, r1, r2⟩ := h2.at3
      obtain ⟨s0, s1, s2⟩ := f2.fz3
      have z0 := h0.1
      have z1 := h1.1
      have z2 := h2.1
      clear b1
      go_wp2_with fail
      refine (newWork_any name owner A l cap _ hl4 hn hlen HP.out).mono ?_
      rintro r w9 ⟨A', c', rfl, ho, b9⟩
      have zb9 : w.heap.size + 1 + 1 < w1.heap.size := h2.1
      have hl5 := hl4.below b9
      have b9le := b9.size
      clear p0 p1 p2 q0 q1 q2 r0 r1 r2 s0 s1 s2 z0 z1 z2
      replace h0 := h0.below b9
      replace h1 := h1.below b9
      replace f2 := f2.below h2.1 b9
      replace h2 := h2.below b9
      replace b0 := next b0 b9
      obtain ⟨p0, p1, p2⟩ := h0.at3
      obtain ⟨q0, q1, q2⟩ := h1.at3
      obtain ⟨r0, r1, r2⟩ := h2.at3
      obtain ⟨s0, s1, s2⟩ := f2.fz3
      have z0 := h0.1
      have z1 := h1.1
      have z2 := h2.1
      clear b9
      have ba := (Below.refl w9.heap.size w9).alloc (Nat.le_refl _) (.cells (wkL name owner A' l.length c') 39)
      have h8 := holds_new w9 (wkL name owner A' l.length c') 39
      have f8 := loose_new w9 (wkL name owner A' l.length c') 39
      have ho8 := ho.below ba
      have hl8 := hl5.below ba
      have hlt9 := fun k hk => (ho.lt k hk).2
      have HT := Lib.hid hlt9
      have HT9 := Lib.hid b9le
      clear p0 p1 p2 q0 q1 q2 r0 r1 r2 s0 s1 s2 z0 z1 z2 ho hlt9 b9le
      replace h0 := h0.below ba
      replace h1 := h1.below ba
      replace f2 := f2.below h2.1 ba
      replace h2 := h2.below ba
      replace b0 := next b0 ba
      obtain ⟨p0, p1, p2⟩ := h0.at3
      obtain ⟨q0, q1, q2⟩ := h1.at3
      obtain ⟨r0, r1, r2⟩ := h2.at3
      obtain ⟨s0, s1, s2⟩ := f2.fz3
      have z0 := h0.1
      have z1 := h1.1
      have z2 := h2.1
      clear ba
      have z8 := h8.1
      obtain ⟨m0, m1, m2⟩ := h8.at3
      obtain ⟨n0, n1, n2⟩ := f8.fz3
      go_wp2_with fail
      refine (placeOf_any A l cap e _ hl8 hlen).mono ?_
      rintro r w2 ⟨rfl, b2⟩
      rw [HI.out]
      clear m0 m1 m2 n0 n1 n2 z8
      replace f8 := f8.below h8.1 b2
      replace h8 := h8.below b2
      replace ho8 := ho8.below b2
      clear p0 p1 p2 q0 q1 q2 r0 r1 r2 s0 s1 s2 z0 z1 z2
      replace h0 := h0.below b2
      replace h1 := h1.below b2
      replace f2 := f2.below h2.1 b2
      replace h2 := h2.below b2
      replace b0 := next b0 b2
      obtain ⟨p0, p1, p2⟩ := h0.at3
      obtain ⟨q0, q1, q2⟩ := h1.at3
      obtain ⟨r0, r1, r2⟩ := h2.at3
      obtain ⟨s0, s1, s2⟩ := f2.fz3
      have z0 := h0.1
      have z1 := h1.1
      have z2 := h2.1
      clear b2
      have z8 := h8.1
      obtain ⟨m0, m1, m2⟩ := h8.at3
      obtain ⟨n0, n1, n2⟩ := f8.fz3
      have hlpos : 0 < l.length := by omega
      obtain ⟨g, cc, hv, hbg, hgl⟩ := own_form ho8 hlpos
      injection hv with hA' _ hc'
      subst hA' hc'
      have hg9 : g < w9.heap.size := HT.out g rfl
      have e1 : ¬ (w9.heap.size = g) := by omega
      have e2 : ¬ (g = w9.heap.size) := by omega
      have e3 : ¬ (w.heap.size + 1 + 1 = g) := by omega
      have e4 : ¬ (g = w.heap.size + 1 + 1) := by omega
      have e5 : w2.cell? ⟨g, (M.place l e) * 5 + 4, none⟩ = some (.bool l[M.place l e].hidden) := own_hidden ho8 hlt
      have e6 : w2.frozen? ⟨g, (M.place l e) * 5 + 4, none⟩ = false := World.ownsRow.frozenAt ho8 _
      have HO : Hid (CpOwn w1.heap.size (w2.setCell ⟨g, (M.place l e) * 5 + 4, none⟩ (.bool hid)) (.slice (some ⟨g, 0, none⟩) l.length c') (M.veilAt l (M.place l e) hid)) := Lib.hid (own_veil ho8 hlt hid)
      have HB := Lib.hid hbg
      clear ho8 hbg
      go_wp2
      refine bodyPost_ret (results_ive name owner (.slice (some ⟨g, 0, none⟩) l.length c') true (w.heap.size + 1 + 1) _ _ rfl rfl ((h2.otherM e3).wr3 _ _ _)) rfl ⟨?_, far_3 (farM b0 (by have := HB.out; omega) _ _) (by omega) _ _ _⟩
      exact WkRet.mk2 HE.out (M.veilAt_len _ _ _) ((((HO.out.off zb9 _).off zb9 _).off zb9 _).mono (by omega))
    · have HE := Lib.hid (M.veiled_none (w := ⟨name, owner, l⟩) hid hk hf)
      have HI := Lib.hid ha
      clear hk hr ha hf
      go_enter Tryz.func108, Tryz.ntmps108
      go_wp2_with fail
      refine (implWorkOk name owner A l cap _ hl3 (Nat.le_trans hn (by unfold maxLen; omega)) hlen (fun c hc => Nat.le_trans (HP.out c hc) (by unfold maxLen; omega))).mono ?_
      rintro r w1 ⟨rfl, b1⟩
      rw [HK.out]
      have hl4 := hl3.below b1
      replace h0 := h0.below b1
      replace h1 := h1.below b1
      replace f2 := f2.below h2.1 b1
      replace h2 := h2.below b1
      replace b0 := next b0 b1
      obtain ⟨p0, p1, p2⟩ := h0.at3
      obtain ⟨q0, q1, q2⟩ := h1.at3
      obtain ⟨r0, r1, r2⟩ := h2.at3
      obtain ⟨s0, s1, s2⟩ := f2.fz3
      have z0 := h0.1
      have z1 := h1.1
      have z2 := h2.1
      clear b1
      go_wp2_with fail
      refine (newWork_any name owner A l cap _ hl4 hn hlen HP.out).mono ?_
      rintro r w9 ⟨A', c', rfl, ho, b9⟩
      have zb9 : w.heap.size + 1 + 1 < w1.heap.size := h2.1
      have hl5 := hl4.below b9
      have b9le := b9.size
      clear p0 p1 p2 q0 q1 q2 r0 r1 r2 s0 s1 s2 z0 z1 z2
      replace h0 := h0.below b9
      replace h1 := h1.below b9
      replace f2 := f2.below h2.1 b9
      replace h2 := h2.below b9
      replace b0 := next b0 b9
      obtain ⟨p0, p1, p2⟩ := h0.at3
      obtain ⟨q0, q1, q2⟩ := h1.at3
      obtain ⟨r0, r1, r2⟩ := h2.at3
      obtain ⟨s0, s1, s2⟩ := f2.fz3
      have z0 := h0.1
      have z1 := h1.1
      have z2 := h2.1
      clear b9
      have ba := (Below.refl w9.heap.size w9).alloc (Nat.le_refl _) (.cells (wkL name owner A' l.length c') 39)
      have h8 := holds_new w9 (wkL name owner A' l.length c') 39
      have f8 := loose_new w9 (wkL name owner A' l.length c') 39
      have ho8 := ho.below ba
      have hl8 := hl5.below ba
      have hlt9 := fun k hk => (ho.lt k hk).2
      have HT := Lib.hid hlt9
      have HT9 := Lib.hid b9le
      clear p0 p1 p2 q0 q1 q2 r0 r1 r2 s0 s1 s2 z0 z1 z2 ho hlt9 b9le
      replace h0 := h0.below ba
      replace h1 := h1.below ba
      replace f2 := f2.below h2.1 ba
      replace h2 := h2.below ba
      replace b0 := next b0 ba
      obtain ⟨p0, p1, p2⟩ := h0.at3
      obtain ⟨q0, q1, q2⟩ := h1.at3
      obtain ⟨r0, r1, r2⟩ := h2.at3
      obtain ⟨s0, s1, s2⟩ := f2.fz3
      have z0 := h0.1
      have z1 := h1.1
      have z2 := h2.1
      clear ba
      have z8 := h8.1
      obtain ⟨m0, m1, m2⟩ := h8.at3
      obtain ⟨n0, n1, n2⟩ := f8.fz3
      go_wp2_with fail
      refine (placeOf_any A l cap e _ hl8 hlen).mono ?_
      rintro r w2 ⟨rfl, b2⟩
      rw [HI.out]
      clear m0 m1 m2 n0 n1 n2 z8
      replace f8 := f8.below h8.1 b2
      replace h8 := h8.below b2
      replace ho8 := ho8.below b2
      clear p0 p1 p2 q0 q1 q2 r0 r1 r2 s0 s1 s2 z0 z1 z2
      replace h0 := h0.below b2
      replace h1 := h1.below b2
      replace f2 := f2.below h2.1 b2
      replace h2 := h2.below b2
      replace b0 := next b0 b2
      obtain ⟨p0, p1, p2⟩ := h0.at3
      obtain ⟨q0, q1, q2⟩ := h1.at3
      obtain ⟨r0, r1, r2⟩ := h2.at3
      obtain ⟨s0, s1, s2⟩ := f2.fz3
      have z0 := h0.1
      have z1 := h1.1
      have z2 := h2.1
      clear b2
      have z8 := h8.1
      obtain ⟨m0, m1, m2⟩ := h8.at3
      obtain ⟨n0, n1, n2⟩ := f8.fz3
      have HO := Lib.hid ho8
      clear ho8
      go_wp2
      exact bodyPost_ret (results_ive name owner (.slice A' l.length c') false (w.heap.size + 1 + 1) _ _ rfl rfl (h2.wr3 _ _ _)) rfl ⟨WkRet.mk' HE.out ((((HO.out.off zb9 _).off zb9 _).off zb9 _).mono (by omega)), far_3 b0 (by omega) _ _ _⟩

end Go.Proofs.YtdcdalbbjfjadaaGreatDoor
