/- Proved, in parts: Proved: the laws' helper that looks whether the marks are there in a list of works finds them; it writes nothing that was there. Condition: at most a million works and copies. Proved: what a call of Does leaves in a list and a box; the contracts of Does at a list that was copied; what lies elsewhere stays. Condition: texts and lists of at most a million. Proved: the laws' helper counts a list of works as the plain Lean function does; it writes nothing that was there. Proved: the laws' own test tells an edition like itself; it writes nothing that was there. No condition. Proved: the laws' own tests tell a copy, a list of copies and a work like themselves; they write nothing that was there. No condition. Proved: the laws' own test tells two lists of works alike that are; it writes nothing that was there. No condition. -/
import Derived.Test.YteomdakohlikeaaGreatPart38
import Derived.Test.YteomdakohlikeaaGreatPart42
import Derived.Test.YteomdakohlikeaaGreatPart43
import Derived.Test.YteomdakohlikeaaGreatPart24
import Derived.Test.YteomdakohlikeaaGreatPart06
import Derived.Test.YteomdakohlikeaaGreatPart04
import Derived.Test.YteomdakohlikeaaGreatPart08
import Derived.StillTailTactics
namespace Go.Proofs.YteomdakohlikeaaGreat
open Go.RowKit
set_option maxRecDepth 20000
set_option maxHeartbeats 4000000 in
theorem heldWorkS_any (A : Option Addr) (l : List Wr) (cap k : Nat) (w : World) (hl : Wks w A (mrows k l)) (hk0 : 0 < k) (hk : k + mlen l ≤ 20000000) (hlen : l.length ≤ 2000000) :
    Calls Tryz.prog 22 #[.slice A l.length cap, .int .i64 k] w fun r w' => r = .returned (.int .i64 (k + mlen l : Nat)) ∧ Below w.heap.size w w' := by
  have HL := Lib.hid hl
  clear hl
  go_enter Tryz.func22, Tryz.ntmps22
  go_wp2
  go_loopw [1, 5] (fun x i wr => ∃ j : Nat, i = .int .i64 j ∧ j ≤ l.length ∧ x = .int .i64 (k + mlen (l.take j) : Nat) ∧ Below w.heap.size w wr) (fun _ i _ => l.length - (intOf i).toNat)
  case atStart => exact ⟨0, rfl, Nat.zero_le _, by simp [mlen], Below.refl _ _⟩
  case round =>
    obtain ⟨j, rfl, hj, rfl, hb⟩ := hrel
    by_cases hlt : j < l.length
    · obtain ⟨b, o, rfl, zb, c0, c1, c2, hc⟩ := Wks_at (HL.out.below hb) (i := j) (by rw [mrows_len]; exact hlt)
      rw [mrows_at k l j hlt] at c0 c1 c2 hc
      obtain ⟨kk, hK⟩ : ∃ kk, k + mlen (l.take j) = kk := ⟨_, rfl⟩
      have hmt := mlen_take l j hlt
      have hml := mlen_take_le l (j + 1)
      rw [hK] at c0 c1 c2 hc ⊢
      have hK1 : 0 < kk := by omega
      have hK2 : kk + 2 + 5 * l[j].cps.length ≤ 20000000 := by omega
      have HMT := Lib.hid (show k + mlen (l.take (j + 1)) = kk + 2 + 5 * l[j].cps.length by omega)
      have HC : Hid (Cps wr l[j].ad (marks (kk + 2) l[j].cps.length)) := Lib.hid hc
      have c0' : wr.cell? ⟨b, o + j * 3, none⟩ = some (.string (markB kk)) := c0
      have c1' : wr.cell? ⟨b, o + j * 3 + 1, none⟩ = some (.int .i64 ((kk : Int) + 1)) := c1
      have c2' : wr.cell? ⟨b, o + j * 3 + 2, none⟩ = some (.slice l[j].ad l[j].cps.length l[j].cap) := by
        rw [c2]; show some (Value.slice l[j].ad (marks (kk + 2) l[j].cps.length).length l[j].cap) = _; rw [marks_len]
      clear hK hmt hml c0 c1 c2 hc
      go_wp2_with fail
      refine wp_region_seq (fun w' => Below wr.heap.size wr w') [(0, true), (1, true), (2, true), (3, true), (4, true), (5, true), (6, false), (7, true)] (by kernel_rfl) (by kernel_rfl) (fun _ _ _ _ _ h => h) (by kernel_rfl) (by decide) (Below.refl _ _).drew ?_
      intro hHeld
      repeat (first
        | (refine seq_skip (by simp only [List.getElem?_toArray, List.getElem?_cons_succ, List.getElem?_cons_zero]; first | done | rfl) (by rfl) ?_; (try simp only [Act.put, List.setIfInBounds_toArray, List.set_cons_zero, List.set_cons_succ]))
        | (refine seq_reads (by simp only [List.getElem?_toArray, List.getElem?_cons_succ, List.getElem?_cons_zero]; first | done | rfl) (by rfl) ?_; apply Exists.intro; apply And.intro; (focus (intro w hSw; obtain ⟨hcS, -⟩ := bcell hSw; go_simp; (try with_reducible rfl); done)); (try simp only [Act.put, List.setIfInBounds_toArray, List.set_cons_zero, List.set_cons_succ]))
        | (refine seq_pass (by simp only [List.getElem?_toArray, List.getElem?_cons_succ, List.getElem?_cons_zero]; first | done | rfl) (by rfl) hHeld ?_; clear hHeld; intro hHeld; (try simp only [Act.put, List.setIfInBounds_toArray, List.set_cons_zero, List.set_cons_succ]))
        | (refine seq_call (by simp only [List.getElem?_toArray, List.getElem?_cons_succ, List.getElem?_cons_zero]; first | done | rfl) (by rfl) (fun K hK => ?_); go_simp; go_at_call 64; refine (markText_at _ kk rfl (by omega) (by omega) _).mono ?_; rintro r w1 ⟨rfl, b1⟩; go_simp; refine hK.out _ _ (next hHeld b1) ?_; clear hK hHeld; intro hHeld; (try simp only [Act.put, List.setIfInBounds_toArray, List.set_cons_zero, List.set_cons_succ])))
      refine seq_end ?_
      have d1 := (hHeld.cell (p := ⟨b, o + j * 3 + 1, none⟩) zb).trans c1'
      have d2 := (hHeld.cell (p := ⟨b, o + j * 3 + 2, none⟩) zb).trans c2'
      have e3 : ((markB kk).toList != (markB kk).toList) = false := by simp
      have e1 : ((kk : Int) + 1 != (kk : Int) + 1) = false := by simp
      have bb := next hb hHeld
      have HC2 := Lib.hid (HC.out.below hHeld)
      clear c0' c1' c2' hHeld
      go_wp2_with fail
      refine (heldCopyS_any l[j].ad l[j].cps.length l[j].cap (kk + 2) _ HC2.out (by omega) (by omega)).mono ?_
      rintro r w5 ⟨rfl, b5⟩
      obtain ⟨qq, hqq⟩ : ∃ qq : Nat, kk + 2 + 5 * l[j].cps.length = qq := ⟨_, rfl⟩
      rw [hqq]
      have HQ := Lib.hid hqq
      have hneg : ¬ ((qq : Int) < 0) := by omega
      clear hqq d1 d2
      go_wp2
      go_roundw
      case rel => exact ⟨j + 1, by go_num, by omega, congrArg (Value.int .i64) (by rw [HMT.out, HQ.out]), next bb b5⟩
      case measure => simp [intOf]; omega
    · have hj' : j = l.length := by omega
      subst hj'
      have hkk : k + mlen (l.take l.length) = k + mlen l := by rw [List.take_length]
      rw [hkk]
      clear hkk
      go_wp2
      go_ret
      exact ⟨rfl, hb⟩
end Go.Proofs.YteomdakohlikeaaGreat
namespace Go.Proofs.YteomdakohlikeaaGreat
open Go.RowKit
set_option maxRecDepth 20000
/-- s is a list, t a pointer to a box with a reply, both new since W0. -/
def DoBox (W0 : World) (q : List M.Wk × M.Rp) (s t : Value) (x : World) : Prop :=
  ∃ (v : Value) (l : List Wr) (G : Nat), s = v ∧ t = .pointer (some ⟨G, 0, none⟩) ∧ W0.heap.size ≤ G ∧ Below W0.heap.size W0 x ∧ Holds x G (rpA q.2.1 q.2.2) ∧ SfOwn W0.heap.size x v l ∧ l.map Wr.wk = q.1 ∧ ¬ blocksS v l G
theorem SfOwn.ne_low {B g : Nat} {w : World} {v : Value} {l : List Wr} (h : SfOwn B w v l) (hg : g < B) : ¬ blocksS v l g := fun e => by have := (h.ge e).1; omega
theorem SfOwn.ne_new {B : Nat} {w : World} {v : Value} {l : List Wr} (h : SfOwn B w v l) : ¬ blocksS v l w.heap.size := fun e => by have := (h.ge e).2; omega
theorem SfOwn.off2 {B g : Nat} {w : World} {v : Value} {l : List Wr} (h : SfOwn B w v l) (hne : ¬ blocksS v l g) (a b : Value) : SfOwn B ((w.setCell ⟨g, 0, none⟩ a).setCell ⟨g, 1, none⟩ b) v l :=
  (h.far (fun e => hne (.inl e)) (fun r hr e => hne (.inr ⟨r, hr, e⟩)) 0 a).far (fun e => hne (.inl e)) (fun r hr e => hne (.inr ⟨r, hr, e⟩)) 1 b
theorem implDoes_at (A : Option Addr) (l rs : List Wr) (n cap : Nat) (d : M.Dd) (w : World) (hm : rs.map Wr.wk = l.map Wr.wk) (hn : rs.length = n) (hl : Wks w A rs) (hlen : n ≤ 1048576) (hp : WrsIn 1048576 l) (hnm : d.name.size ≤ 1048576) (hpg : d.page.size ≤ 1048576) :
    Calls Tryz.prog 10 #[.slice A n cap, ddV d] w (DoRet w (M.does (l.map Wr.wk) d)) := by
  subst hn
  rw [← hm]
  exact implDoes A rs cap d w hl hlen (wrs_same hm hp) hnm hpg
theorem specDoes_at (A : Option Addr) (l rs : List Wr) (n cap : Nat) (d : M.Dd) (w : World) (hm : rs.map Wr.wk = l.map Wr.wk) (hn : rs.length = n) (hl : Wks w A rs) (hA : ∀ r ∈ rs, r.ad ≠ none ∧ r.cap = r.cps.length) (hlen : n ≤ 1048576) (hp : WrsIn 1048576 l) (hnm : d.name.size ≤ 1048576) (hpg : d.page.size ≤ 1048576) :
    Calls Tryz.prog 16 #[.slice A n cap, ddV d] w (DoRet w (M.does (l.map Wr.wk) d)) := by
  subst hn
  rw [← hm]
  exact specDoes_of A rs cap d w (l5Do_any d) hl (fun r hr h => absurd h (hA r hr).1) hlen (wrs_same hm hp) hnm hpg
theorem does_small {l : List M.Wk} {d : M.Dd} {r : List Wr} (h : r.map Wr.wk = (M.does l d).1) : r.length ≤ 5 ∧ WrsIn 12 r := wrs_ok (h ▸ M.keep_does l d)
theorem mlen_small {r : List Wr} (h : r.length ≤ 5 ∧ WrsIn 12 r) : mlen r ≤ 1000 := by
  have : ∀ (r : List Wr), WrsIn 12 r → mlen r ≤ r.length * 62 := by
    intro r
    induction r with
    | nil => intro _; exact Nat.zero_le _
    | cons a r ih =>
      intro h
      have h1 := ih fun x hx => h x (List.mem_cons_of_mem _ hx)
      have h2 := (h a (by simp)).2.1
      have h3 : mlen (a :: r) = 2 + 5 * a.cps.length + mlen r := rfl
      rw [h3, List.length_cons]
      omega
  have := this r h.2
  omega
end Go.Proofs.YteomdakohlikeaaGreat
namespace Go.Proofs.YteomdakohlikeaaGreat
open Go.RowKit

set_option maxHeartbeats 1000000 in
theorem szWorkS_small (A : Option Addr) (l : List Wr) (cap : Nat) (n : Int) (w : World) (h1 : n ≤ 1048576) (hl : Wks w A l) (h : (l.length + szWrs l : Int) ≤ n) :
    Calls Tryz.prog 14 #[.slice A l.length cap, .int .i64 n] w fun r w' => r = .returned (.int .i64 (n - l.length - szWrs l)) ∧ Below w.heap.size w w' := by
  go_enter Tryz.func14, Tryz.ntmps14
  go_wp2
  go_loopw [1, 5] (fun x i wr => ∃ j : Nat, i = .int .i64 j ∧ j ≤ l.length ∧ x = .int .i64 (n - l.length - szWrs (l.take j)) ∧ Wks wr A l ∧ Below w.heap.size w wr) (fun _ i _ => l.length - (intOf i).toNat)
  case atStart => exact ⟨0, rfl, Nat.zero_le _, by simp [szWrs], hl, Below.refl _ _⟩
  case round =>
    obtain ⟨j, rfl, hj, rfl, hl', hb⟩ := hrel
    have hle := szWrs_take_le l j
    by_cases hlt : j < l.length
    · have hs := szWrs_take l j hlt
      have hle' := szWrs_take_le l (j + 1)
      have HS := Lib.hid hs
      have hp : (szWr l[j] : Int) ≤ n - l.length - szWrs (l.take j) := by omega
      have HP := Lib.hid hp
      clear hs hp
      obtain ⟨b, o, rfl, hbl, c0, c1, c2, hc⟩ := Wks_at hl' hlt
      have HC := Lib.hid hc
      clear hc
      go_wp2_with fail
      refine (szWork_small l[j].name l[j].owner l[j].ad l[j].cps l[j].cap _ _ (by omega) HC.out (by have := HP.out; unfold szWr at this; omega)).mono ?_
      rintro r w1 ⟨rfl, b1⟩
      have h0 : 0 ≤ n - (l.length : Int) - (szWrs (l.take j) : Int) - (l[j].name.size : Int) - (l[j].cps.length : Int) - (M.szPages l[j].cps : Int) := by have := HP.out; unfold szWr at this; omega
      go_wp2
      go_roundw
      case rel => exact ⟨j + 1, by go_num, by omega, by rw [HS.out]; unfold szWr; go_num, hl'.below b1, next hb b1⟩
      case measure => simp [intOf]; omega
    · have hj' : j = l.length := by omega
      subst hj'
      go_wp2
      go_ret
      exact ⟨ret_int (by rw [List.take_length]), hb⟩

set_option maxHeartbeats 1000000 in
theorem szWorkS_big (A : Option Addr) (l : List Wr) (cap : Nat) (n : Int) (w : World) (h0 : 0 ≤ n) (h1 : n ≤ 1048576) (hl : Wks w A l) (hlen : l.length ≤ maxLen) (hp : WrsIn maxLen l) (h : n < (l.length + szWrs l : Int)) :
    Calls Tryz.prog 14 #[.slice A l.length cap, .int .i64 n] w fun r w' => r = .returned (.int .i64 (-1)) ∧ Below w.heap.size w w' := by
  unfold maxLen at hlen
  by_cases hshort : n < l.length
  · go_enter Tryz.func14, Tryz.ntmps14
    go_wp2
    go_ret
    exact ⟨rfl, Below.refl _ _⟩
  · go_enter Tryz.func14, Tryz.ntmps14
    go_wp2
    go_loopw [1, 5] (fun x i wr => ∃ j : Nat, i = .int .i64 j ∧ j ≤ l.length ∧ (szWrs (l.take j) : Int) ≤ n - l.length ∧ x = .int .i64 (n - l.length - szWrs (l.take j)) ∧ Wks wr A l ∧ Below w.heap.size w wr) (fun _ i _ => l.length - (intOf i).toNat)
    case atStart => exact ⟨0, rfl, Nat.zero_le _, by simp [szWrs]; omega, by simp [szWrs], hl, Below.refl _ _⟩
    case round =>
      obtain ⟨j, rfl, hj, hle, rfl, hl', hb⟩ := hrel
      by_cases hlt : j < l.length
      · have HS := Lib.hid (szWrs_take l j hlt)
        have HPJ := Lib.hid (hp l[j] (List.getElem_mem hlt))
        obtain ⟨b, o, rfl, hbl, c0, c1, c2, hc⟩ := Wks_at hl' hlt
        have HC := Lib.hid hc
        clear hc
        by_cases hfit : (szWr l[j] : Int) ≤ n - l.length - szWrs (l.take j)
        · have HP := Lib.hid hfit
          clear hfit
          go_wp2_with fail
          refine (szWork_small l[j].name l[j].owner l[j].ad l[j].cps l[j].cap _ _ (by omega) HC.out (by have := HP.out; unfold szWr at this; omega)).mono ?_
          rintro r w1 ⟨rfl, b1⟩
          have h0 : 0 ≤ n - (l.length : Int) - (szWrs (l.take j) : Int) - (l[j].name.size : Int) - (l[j].cps.length : Int) - (M.szPages l[j].cps : Int) := by have := HP.out; unfold szWr at this; omega
          go_wp2
          go_roundw
          case rel => exact ⟨j + 1, by go_num, by omega, by have := HP.out; rw [HS.out]; simp; omega, by rw [HS.out]; unfold szWr; go_num, hl'.below b1, next hb b1⟩
          case measure => simp [intOf]; omega
        · have HP : Hid (n - l.length - szWrs (l.take j) < (szWr l[j] : Int)) := Lib.hid (by omega)
          clear hfit
          go_wp2_with fail
          refine (szWork_big l[j].name l[j].owner l[j].ad l[j].cps l[j].cap _ _ (by omega) (by omega) HC.out HPJ.out.1 HPJ.out.2.1 HPJ.out.2.2 (by have := HP.out; unfold szWr at this; omega)).mono ?_
          rintro r w1 ⟨rfl, b1⟩
          go_wp2
          go_ret
          exact ⟨rfl, next hb b1⟩
      · have hj' : j = l.length := by omega
        subst hj'
        rw [List.take_length] at hle
        omega
end Go.Proofs.YteomdakohlikeaaGreat
namespace Go.Proofs.YteomdakohlikeaaGreat
open Go.RowKit
set_option maxRecDepth 20000

set_option maxHeartbeats 1000000 in
theorem eqEdition_same (a : M.Ed) (w : World) :
    Calls Tryz.prog 152 #[edV a, edV a] w fun r w' => r = .returned (.bool true) ∧ Below w.heap.size w w' := by
  have h0 : (a.ma != a.ma) = false := by simp
  have h1 : (a.mi != a.mi) = false := by simp
  have h2 : (a.pa != a.pa) = false := by simp
  go_enter Tryz.func152, Tryz.ntmps152
  go_wp2
  go_ret
  exact ⟨rfl, ((Below.refl _ _).alloc (Nat.le_refl _) _).alloc (by simp) _⟩
end Go.Proofs.YteomdakohlikeaaGreat
namespace Go.Proofs.YteomdakohlikeaaGreat
open Go.RowKit
set_option maxRecDepth 20000

/-- A row of one's own, read as copies. -/
theorem own_at {w : World} {base e g c : Nat} {l : List M.Cp} (h : w.ownsRow base e 5 (.slice (some ⟨g, 0, none⟩) l.length c) l.length (cellsOf cpL l)) : Cps w (some ⟨g, 0, none⟩) l := by
  obtain ⟨A, c', hv, _, hf⟩ := own_flat cpL_len h
  have hA : some ⟨g, 0, none⟩ = A := by injection hv
  rw [hA]; exact hf

set_option maxHeartbeats 1000000 in
theorem eqCopy_same (c : M.Cp) (w : World) :
    Calls Tryz.prog 143 #[cpV c, cpV c] w fun r w' => r = .returned (.bool true) ∧ Below w.heap.size w w' := by
  have h1 : (c.page.toList != c.page.toList) = false := by simp
  have h2 : (c.hidden != c.hidden) = false := by simp
  have b0 := ((Below.refl w.heap.size w).alloc (Nat.le_refl _) (.cells (cpV c).cells 48)).alloc (by simp) (.cells (cpV c).cells 48)
  go_enter Tryz.func143, Tryz.ntmps143
  go_wp2_with fail
  refine (eqEdition_same c.ed _).mono ?_
  rintro r w1 ⟨rfl, b1⟩
  obtain ⟨c1, f1⟩ := bcell b1
  go_wp2
  go_ret
  exact ⟨rfl, next b0 b1⟩

set_option maxHeartbeats 1000000 in
theorem eqCopyS_same (A B : Option Addr) (l : List M.Cp) (ca cb : Nat) (w : World) (ha : Cps w A l) (hb : Cps w B l) (hlen : l.length ≤ maxLen) :
    Calls Tryz.prog 104 #[.slice A l.length ca, .slice B l.length cb] w fun r w' => r = .returned (.bool true) ∧ Below w.heap.size w w' := by
  unfold maxLen at hlen
  have he : ((l.length : Int) != (l.length : Int)) = false := by simp
  go_enter Tryz.func104, Tryz.ntmps104
  go_wp2
  go_loopw [5] (fun i wr => ∃ j : Nat, i = .int .i64 j ∧ j ≤ l.length ∧ Below w.heap.size w wr) (fun i _ => l.length - (intOf i).toNat)
  case atStart => exact ⟨0, rfl, Nat.zero_le _, Below.refl _ _⟩
  case round =>
    obtain ⟨j, rfl, hj, hbl⟩ := hrel
    by_cases hlt : j < l.length
    · obtain ⟨b, o, rfl, _, c0, c1, c2, c3, c4⟩ := Cps_at (ha.below hbl) hlt
      obtain ⟨b', o', rfl, _, d0, d1, d2, d3, d4⟩ := Cps_at (hb.below hbl) hlt
      have HA := Lib.hid ha
      have HB := Lib.hid hb
      clear ha hb
      go_wp2_with fail
      go_still_tail 8, (by kernel_rfl)
      change wpList _ _ _ _ _ wr.drew
      go_wp2_with fail
      refine (eqCopy_same l[j] _).mono ?_
      rintro r w1 ⟨rfl, b1⟩
      go_wp2
      go_roundw
      case rel => exact ⟨j + 1, by go_num, by omega, next hbl.drew b1⟩
      case measure => simp [intOf]; omega
    · have hj' : j = l.length := by omega
      subst hj'
      go_wp2
      go_ret
      exact ⟨rfl, hbl⟩

set_option maxHeartbeats 1000000 in
theorem eqWork_same (name : ByteArray) (owner : Int) (A B : Option Addr) (l : List M.Cp) (ca cb : Nat) (w : World) (ha : Cps w A l) (hb : Cps w B l) (hlen : l.length ≤ maxLen) :
    Calls Tryz.prog 63 #[wkV name owner A l.length ca, wkV name owner B l.length cb] w fun r w' => r = .returned (.bool true) ∧ Below w.heap.size w w' := by
  have h1 : (name.toList != name.toList) = false := by simp
  have h2 : (owner != owner) = false := by simp
  have b0 := ((Below.refl w.heap.size w).alloc (Nat.le_refl _) (.cells (wkL name owner A l.length ca) 44)).alloc (by simp) (.cells (wkL name owner B l.length cb) 44)
  go_enter Tryz.func63, Tryz.ntmps63
  go_wp2_with fail
  refine (eqCopyS_same A B l ca cb _ ((ha.alloc _).alloc _) ((hb.alloc _).alloc _) hlen).mono ?_
  rintro r w1 ⟨rfl, b1⟩
  go_wp2
  go_ret
  exact ⟨rfl, next b0 b1⟩
end Go.Proofs.YteomdakohlikeaaGreat
namespace Go.Proofs.YteomdakohlikeaaGreat
open Go.RowKit
set_option maxRecDepth 20000

theorem wk_at {l m : List Wr} (h : l.map Wr.wk = m.map Wr.wk) {j : Nat} (hl : j < l.length) (hm : j < m.length) : l[j].name = m[j].name ∧ l[j].owner = m[j].owner ∧ l[j].cps = m[j].cps := by
  have h1 : (l.map Wr.wk)[j]'(by simpa using hl) = (m.map Wr.wk)[j]'(by simpa using hm) := by simp only [h]
  simp only [List.getElem_map, Wr.wk] at h1
  injection h1 with a b c
  exact ⟨a, b, c⟩

set_option maxHeartbeats 1000000 in
theorem eqWorkS_same (A B : Option Addr) (l m : List Wr) (ca cb : Nat) (w : World) (ha : Wks w A l) (hb : Wks w B m) (he : l.map Wr.wk = m.map Wr.wk) (hlen : l.length ≤ maxLen) (hp : WrsIn maxLen l) :
    Calls Tryz.prog 19 #[.slice A l.length ca, .slice B m.length cb] w fun r w' => r = .returned (.bool true) ∧ Below w.heap.size w w' := by
  have hml : m.length = l.length := by have := congrArg List.length he; simpa using this.symm
  rw [hml]
  unfold maxLen at hlen
  have HP := Lib.hid hp
  have HM := Lib.hid hml
  have HE := Lib.hid he
  clear hp hml he
  have he : ((l.length : Int) != (l.length : Int)) = false := by simp
  go_enter Tryz.func19, Tryz.ntmps19
  go_wp2
  go_loopw [5] (fun i wr => ∃ j : Nat, i = .int .i64 j ∧ j ≤ l.length ∧ Below w.heap.size w wr) (fun i _ => l.length - (intOf i).toNat)
  case atStart => exact ⟨0, rfl, Nat.zero_le _, Below.refl _ _⟩
  case round =>
    obtain ⟨j, rfl, hj, hbl⟩ := hrel
    by_cases hlt : j < l.length
    · have hltm : j < m.length := by have := HM.out; omega
      obtain ⟨b, o, rfl, _, c0, c1, c2, hc⟩ := Wks_at (ha.below hbl) hlt
      obtain ⟨b', o', rfl, _, d0, d1, d2, hd⟩ := Wks_at (hb.below hbl) hltm
      obtain ⟨e1, e2, e3⟩ := wk_at HE.out hlt hltm
      rw [← e1] at d0
      rw [← e2] at d1
      rw [← e3] at d2 hd
      have HA := Lib.hid ha
      have HB := Lib.hid hb
      have HC := Lib.hid hc
      have HD := Lib.hid hd
      clear ha hb hc hd e1 e2 e3
      go_wp2_with fail
      go_still_tail 8, (by kernel_rfl)
      change wpList _ _ _ _ _ wr.drew
      go_wp2_with fail
      refine (eqWork_same l[j].name l[j].owner l[j].ad m[j].ad l[j].cps l[j].cap m[j].cap _ (show Cps wr.drew _ _ from HC.out) (show Cps wr.drew _ _ from HD.out) (HP.out _ (List.getElem_mem hlt)).2.1).mono ?_
      rintro r w1 ⟨rfl, b1⟩
      go_wp2
      go_roundw
      case rel => exact ⟨j + 1, by go_num, by omega, next hbl.drew b1⟩
      case measure => simp [intOf]; omega
    · have hj' : j = l.length := by omega
      subst hj'
      go_wp2
      go_ret
      exact ⟨rfl, hbl⟩
end Go.Proofs.YteomdakohlikeaaGreat
