/- Proved, in parts: Proved: the model's l5Claim puts a new work where it belongs, in new memory; it writes nothing that was there. Condition: a right shelf. -/
import Derived.Test.YtdcdalbbjfjadaaGreatDoorPart30
import Derived.Test.YtdcdalbbjfjadaaGreatDoorPart31
import Derived.Deep.CutBlock
namespace Go.Proofs.YtdcdalbbjfjadaaGreatDoor
open Go.RowKit
set_option maxRecDepth 20000

theorem wr_ones (l : List Wr) : ∀ u ∈ cellsOf wrL l, u.oneCell' = true := by
  induction l with
  | nil => intro u hu; cases hu
  | cons r l ih =>
    intro u hu
    have h : cellsOf wrL (r :: l) = wrL r ++ cellsOf wrL l := rfl
    rw [h] at hu
    rcases List.mem_append.1 hu with h | h
    · simp [wrL] at h
      rcases h with rfl | rfl | rfl <;> rfl
    · exact ih u h
theorem new_ne {Y : World} {g : Nat} (h : g < Y.heap.size) : ∀ z, some Y.heap.size = some z → z ≠ g := fun z hz e => by cases hz; omega
theorem old_ne {Y : World} {B t k n : Nat} {v : Value} {xs : List Value} (h : Y.ownsRow B t k v n xs) : ∀ z, v.ownBlock = some z → z ≠ Y.heap.size := fun z hz e => by have := (World.ownsRow.lt h z hz).2; omega
theorem grown_ne {Y : World} {g : Nat} {o o' : Option Nat} (nx : ∀ z, o = some z → z ≠ g) (h : g < Y.heap.size) (hat : o' = o ∨ o' = some Y.heap.size) : ∀ z, o' = some z → z ≠ g := fun z hz e => by
  rcases hat with h' | h'
  · exact nx z (h'.symm.trans hz) e
  · rw [h'] at hz; cases hz; omega
theorem tq_made {P : Program} {ops : Array Oper} {Q : Exit → Act → World → Prop} {S : World → Prop} {t : Tq} {a : Act} {Y : World} {WB : Nat} {ty : TypeId} (hb : WB ≤ Y.heap.size)
    (h : ∀ x, Below Y.heap.size Y x → x.ownsRow WB 39 3 (.slice (some ⟨Y.heap.size, 0, none⟩) 0 0) 0 [] → S x → TqV P ops Q t S a x) (hS : S (Y.alloc (.cells #[] ty))) (hty : ty = 39 := by rfl) : TqV P ops Q t S a (Y.alloc (.cells #[] ty)) := by
  subst hty
  exact h _ ((Below.refl _ _).alloc (Nat.le_refl _) _) (World.ownsRow_made (size := 3) (e := 39) Y #[] 0 hb (Nat.zero_le _) rfl) hS
theorem row_form {w : World} {B t k n : Nat} {v : Value} {xs : List Value} (h : w.ownsRow B t k v n xs) : ∃ A c, v = .slice A n c := by
  obtain ⟨_, ⟨h0, hn⟩ | ⟨g, cap, cur, hv, _⟩⟩ := h
  · exact ⟨none, 0, by rw [h0, hn]⟩
  · exact ⟨_, _, hv⟩
theorem row_nilc {w : World} {B t k n m c : Nat} {A : Option Addr} {xs : List Value} (h : w.ownsRow B t k (.slice A m c) n xs) : A = none → c = 0 := by
  obtain ⟨_, ⟨h0, hn⟩ | ⟨g, cap, cur, hv, _⟩⟩ := h
  · injection h0
    intro _
    assumption
  · injection hv with hA _ _
    intro e
    rw [hA] at e
    cases e
theorem own_flatW {w : World} {B t m c : Nat} {A : Option Addr} {l : List Wr} (h : w.ownsRow B t 3 (.slice A m c) l.length (cellsOf wrL l)) : Flat wrL 3 w A l := by
  obtain ⟨A', c', hv, _, hf⟩ := own_flat wrL_len h
  injection hv with hA _ _
  rw [hA]
  exact hf
theorem hold_flatW {w : World} {g : Nat} {n : ByteArray} {o : Int} (h : Holds w g #[.string n, .int .i64 o, .slice none 0 0]) : Flat wrL 3 w (some ⟨g, 0, none⟩) [(⟨n, o, none, 0, []⟩ : Wr)] := by
  refine .inr ⟨g, 0, rfl, h.1, fun i t x u hi hu => ?_⟩
  rcases i with _ | i
  · simp at hi
    subst hi
    have := h.2 t u (by simpa [wrL] using hu)
    simpa using this
  · simp at hi
theorem SfOwn.cap {B : Nat} {w : World} {A : Option Addr} {n c : Nat} {l : List Wr} (h : SfOwn B w (.slice A n c) l) : l.length ≤ c := by
  obtain ⟨A', c', hv, hc, _⟩ := h.open
  injection hv with _ _ hcc
  rw [hcc]
  exact hc
/-- A work more, in a new row. -/
theorem SfOwn.insert {B : Nat} {x y : World} {v0 v : Value} {l : List Wr} (h : SfOwn B x v0 l) (hB : B ≤ x.heap.size) (hb : Below x.heap.size x y) {k : Nat} (n : ByteArray) (o : Int)
    (hown : y.ownsRow x.heap.size 39 3 v (l.length + 1) (cellsOf wrL (l.take k ++ (⟨n, o, none, 0, []⟩ : Wr) :: l.drop k))) (hk : k ≤ l.length) : SfOwn B y v (l.take k ++ (⟨n, o, none, 0, []⟩ : Wr) :: l.drop k) := by
  have hmem : ∀ r ∈ l.take k ++ (⟨n, o, none, 0, []⟩ : Wr) :: l.drop k, r ∈ l ∨ r = ⟨n, o, none, 0, []⟩ := fun r hr => by
    rcases List.mem_append.1 hr with hr | hr
    · exact .inl (List.mem_of_mem_take hr)
    · rcases List.mem_cons.1 hr with hr | hr
      · exact .inr hr
      · exact .inl (List.mem_of_mem_drop hr)
  have hlen : (l.take k ++ (⟨n, o, none, 0, []⟩ : Wr) :: l.drop k).length = l.length + 1 := by
    rw [List.length_append, List.length_cons, List.length_take, List.length_drop]; omega
  refine ⟨by rw [hlen]; exact World.ownsRow.mono hown hB, fun r hr => ?_, fun r hr => ?_, ?_⟩
  · rcases hmem r hr with h1 | rfl
    · exact (h.2.1 r h1).below hb
    · exact CpOwn.nil _ _
  · rcases hmem r hr with h1 | rfl
    · exact own_differ (fun z hz => ((h.2.1 r h1).lt z hz).2) (fun z hz => (World.ownsRow.lt hown z hz).1)
    · exact .inl rfl
  · have hp := h.2.2.2
    have h2 : (l.take k ++ l.drop k).Pairwise fun a b => Apart a.sl b.sl := by rw [List.take_append_drop]; exact hp
    obtain ⟨p1, p2, p3⟩ := List.pairwise_append.1 h2
    refine List.pairwise_append.2 ⟨p1, List.pairwise_cons.2 ⟨fun b _ => .inl rfl, p2⟩, fun a ha b hb' => ?_⟩
    rcases List.mem_cons.1 hb' with rfl | hb'
    · exact apart_sym (.inl rfl)
    · exact p3 a ha b hb'

def RestW (W0 : World) (l : List Wr) (k : Nat) (s : Value) (wx : World) : Prop :=
  ∃ Ar cr, s = .slice Ar (l.length - k) cr ∧ wx.ownsRow W0.heap.size 39 3 (.slice Ar (l.length - k) cr) (l.drop k).length (cellsOf wrL (l.drop k)) ∧ Below W0.heap.size W0 wx
/-- What a claim leaves. -/
def ClIn (B : Nat) (x : World) (v0 : Value) (l0 : List Wr) (q : List M.Wk × Int) (e : Ending) (x' : World) : Prop :=
  ∃ v l', e = .returned (.tuple #[v, .int .i64 q.2]) ∧ SfOwn B x' v l' ∧ l'.map Wr.wk = q.1 ∧ Below x.heap.size x x' ∧ ∀ z, blocksS v l' z → blocksS v0 l0 z ∨ x.heap.size ≤ z

theorem results_cl (v u : Value) (tmps : Array Value) (W : World) (h4 : tmps.getD 4 undef = v) (h5 : tmps.getD 5 undef = u) :
    (results Tryz.f64 tmps).run Tryz.prog W = .ok (.tuple #[v, u]) W := by
  simp at h4 h5
  simp [results, Tryz.results64, go_sem, h4, h5]

set_option maxHeartbeats 4000000 in
theorem l5Claim_new (B : Nat) (A : Option Addr) (c : Nat) (rs : List Wr) (x : World) (d : M.Dd) (h : SfOwn B x (.slice A rs.length c) rs) (hB : B ≤ x.heap.size) (hp : rs.length < 5) (hr : M.RiseN (rs.map Wr.wk)) (hf : M.sfFind (rs.map Wr.wk) d.name = (rs.map Wr.wk).length) (hne : ∀ y ∈ rs.map Wr.wk, M.nmB y ≠ d.name.data.toList) :
    Calls Tryz.prog 64 #[.slice A rs.length c, ddV d] x (ClIn B x (.slice A rs.length c) rs (M.sClaim (rs.map Wr.wk) d)) := by
  obtain ⟨k, hk⟩ : ∃ k, M.placeN (rs.map Wr.wk) ⟨d.name, d.who, []⟩ = k := ⟨_, rfl⟩
  have hkl : k ≤ rs.length := by rw [← hk]; have := List.findIdx_le_length (xs := rs.map Wr.wk) (p := fun y => bytesBefore (M.nmB (⟨d.name, d.who, []⟩ : M.Wk)) (M.nmB y)); rw [List.length_map] at this; exact this
  have HE : Hid (M.sClaim (rs.map Wr.wk) d = ((rs.take k ++ (⟨d.name, d.who, none, 0, []⟩ : Wr) :: rs.drop k).map Wr.wk, 0)) := Lib.hid (by
    unfold M.sClaim
    rw [if_neg (by rw [hf]; omega), if_neg (by rw [List.length_map]; omega), hk, List.map_append, List.map_cons, List.map_take, List.map_drop]
    rfl)
  have HPL : Hid (∀ j, j ≤ rs.length → (∀ i (hi : i < j) (h' : i < rs.length), M.nameLt rs[i].name d.name = true) → (∀ h : j < rs.length, M.nameLt rs[j].name d.name = false) → k = j) := Lib.hid (fun j hj h1 h2 => by
    rw [← hk]
    refine M.place_count hr hne (by simpa using hj) (fun i hi => ?_) (fun h => ?_)
    · have := h1 i hi (by omega)
      simp only [List.getElem_map]
      exact (before_name _ _).trans this
    · simp only [List.getElem_map]
      exact (before_name _ _).trans (h2 (by simpa using h)))
  have hneg : M.sfFindInt (rs.map Wr.wk) d.name = -1 := M.sfFindInt_neg hf
  have HNEG := Lib.hid hneg
  clear hneg hf hne hr hk
  have hm := holds_new x (ddC d) 28
  have b0 := (Below.refl x.heap.size x).alloc (Nat.le_refl _) (.cells (ddC d) 28)
  obtain ⟨hw, -⟩ := h.wks
  have HW := Lib.hid (hw.below b0)
  have HS := Lib.hid h
  have HB := Lib.hid hB
  have HA := Lib.hid (row_nilc h.1)
  have hcap := h.cap
  have h5 : ((rs.length : Int) == 5) = false := by simp; omega
  have HEND : Hid (∀ (y : World) (v : Value), Below x.heap.size x y → y.ownsRow x.heap.size 39 3 v (k + 1 + (rs.length - k)) (cellsOf wrL (rs.take k ++ (⟨d.name, d.who, none, 0, []⟩ : Wr) :: rs.drop k)) → ClIn B x (.slice A rs.length c) rs (M.sClaim (rs.map Wr.wk) d) (.returned (.tuple #[v, .int .i64 0])) y) := Lib.hid (fun y v hb ho => by
    rw [show k + 1 + (rs.length - k) = rs.length + 1 by omega] at ho
    rw [HE.out]
    exact ⟨v, _, rfl, HS.out.insert HB.out hb d.name d.who ho hkl, rfl, hb, fun z hz => by
      rcases hz with hz | ⟨r, hr, hz⟩
      · exact .inr (World.ownsRow.lt ho z hz).1
      · rcases List.mem_append.1 hr with hr | hr
        · exact .inl (.inr ⟨r, List.mem_of_mem_take hr, hz⟩)
        · rcases List.mem_cons.1 hr with rfl | hr
          · cases hz
          · exact .inl (.inr ⟨r, List.mem_of_mem_drop hr, hz⟩)⟩)
  clear h hw hB
  go_enter Tryz.func64, Tryz.ntmps64
  go_wp2_with fail
  have hcall := l5Find_any A rs c d.name _ HW.out (by omega)
  rw [HNEG.out] at hcall
  refine hcall.mono ?_
  rintro e x1 ⟨rfl, rfl⟩
  clear hcall
  generalize hW0 : x.alloc (.cells (ddC d) 28) = W0 at hm b0 HW ⊢
  clear hW0
  have hm7 := hm.seven
  go_upto_block 0 with (fail)
  go_cut [6] from 18 to 33 (fun s6 wx => s6 = .int .i64 k ∧ Below W0.heap.size W0 wx)
  case first =>
    clear hm7
    go_wp2_with fail
    go_loopw [6] (fun i wr => ∃ j : Nat, i = .int .i64 j ∧ j ≤ rs.length ∧ (∀ i (hi : i < j) (h' : i < rs.length), M.nameLt rs[i].name d.name = true) ∧ Below W0.heap.size W0 wr) (fun i _ => rs.length - (intOf i).toNat)
    case atStart => exact ⟨0, rfl, Nat.zero_le _, fun i hi => absurd hi (by omega), Below.refl _ _⟩
    case round =>
      obtain ⟨j, rfl, hj, hall, hbl⟩ := hrel
      have hh := hm.below hbl
      obtain ⟨q0, q1, q2, q3, q4, q5, q6⟩ := hh.seven
      have zd := hh.1
      have HALL := Lib.hid hall
      clear hall hm hh
      by_cases hlt : j < rs.length
      · obtain ⟨b, o, rfl, zb, c0, c1, c2, -⟩ := Wks_at (HW.out.below hbl) hlt
        rcases hq : Op.bytesLess rs[j].name.toList d.name.toList with _ | _
        · have HK := Lib.hid (HPL.out j hj HALL.out (fun _ => hq))
          go_wp2_with fail
          refine wp_region_seq (fun y => Below wr.heap.size wr y) [(0, true), (1, true), (2, true), (3, true), (4, true), (5, true), (6, true), (7, true), (8, true), (9, true), (10, true), (11, true), (12, true), (13, true)] (by kernel_rfl) (by kernel_rfl) (fun _ _ _ _ _ h => h) (by kernel_rfl) (by decide) (Below.refl _ _).drew ?_
          intro hHeld
          repeat (first
            | (refine seq_skip (by simp only [List.getElem?_toArray, List.getElem?_cons_succ, List.getElem?_cons_zero]; first | done | rfl) (by rfl) ?_; (try simp only [Act.put, List.setIfInBounds_toArray, List.set_cons_zero, List.set_cons_succ]))
            | (refine seq_reads (by simp only [List.getElem?_toArray, List.getElem?_cons_succ, List.getElem?_cons_zero]; first | done | rfl) (by rfl) ?_; apply Exists.intro; apply And.intro; (focus (intro w hSw; obtain ⟨hcS, -⟩ := bcell hSw; go_simp; (try with_reducible rfl); done)); (try simp only [Act.put, List.setIfInBounds_toArray, List.set_cons_zero, List.set_cons_succ]))
            | (refine seq_pass (by simp only [List.getElem?_toArray, List.getElem?_cons_succ, List.getElem?_cons_zero]; first | done | rfl) (by rfl) hHeld ?_; clear hHeld; intro hHeld; (try simp only [Act.put, List.setIfInBounds_toArray, List.set_cons_zero, List.set_cons_succ])))
          refine seq_end ?_
          go_wp2
          go_meet
          exact ⟨by rw [HK.out], next hbl hHeld⟩
        · have HX : Hid (∀ i (hi : i < j + 1) (h' : i < rs.length), M.nameLt rs[i].name d.name = true) := Lib.hid (fun i hi h' => by
            by_cases e : i = j
            · subst e; exact hq
            · exact HALL.out i (by omega) h')
          go_wp2_with fail
          refine wp_region_seq (fun y => Below wr.heap.size wr y) [(0, true), (1, true), (2, true), (3, true), (4, true), (5, true), (6, true), (7, true), (8, true), (9, true), (10, true), (11, true), (12, true), (13, true)] (by kernel_rfl) (by kernel_rfl) (fun _ _ _ _ _ h => h) (by kernel_rfl) (by decide) (Below.refl _ _).drew ?_
          intro hHeld
          repeat (first
            | (refine seq_skip (by simp only [List.getElem?_toArray, List.getElem?_cons_succ, List.getElem?_cons_zero]; first | done | rfl) (by rfl) ?_; (try simp only [Act.put, List.setIfInBounds_toArray, List.set_cons_zero, List.set_cons_succ]))
            | (refine seq_reads (by simp only [List.getElem?_toArray, List.getElem?_cons_succ, List.getElem?_cons_zero]; first | done | rfl) (by rfl) ?_; apply Exists.intro; apply And.intro; (focus (intro w hSw; obtain ⟨hcS, -⟩ := bcell hSw; go_simp; (try with_reducible rfl); done)); (try simp only [Act.put, List.setIfInBounds_toArray, List.set_cons_zero, List.set_cons_succ]))
            | (refine seq_pass (by simp only [List.getElem?_toArray, List.getElem?_cons_succ, List.getElem?_cons_zero]; first | done | rfl) (by rfl) hHeld ?_; clear hHeld; intro hHeld; (try simp only [Act.put, List.setIfInBounds_toArray, List.set_cons_zero, List.set_cons_succ])))
          refine seq_end ?_
          go_wp2
          go_roundw
          case rel => exact ⟨j + 1, by go_num, by omega, HX.out, next hbl hHeld⟩
          case measure => simp [intOf]; omega
      · have hj' : j = rs.length := by omega
        have HK := Lib.hid (HPL.out j hj HALL.out (fun h => absurd h hlt))
        go_wp2_with fail
        refine wp_region_seq (fun y => Below wr.heap.size wr y) [(0, true), (1, true), (2, true), (3, true), (4, true), (5, true), (6, true), (7, true), (8, true), (9, true), (10, true), (11, true), (12, true), (13, true)] (by kernel_rfl) (by kernel_rfl) (fun _ _ _ _ _ h => h) (by kernel_rfl) (by decide) (Below.refl _ _).drew ?_
        intro hHeld
        repeat (first
          | (refine seq_skip (by simp only [List.getElem?_toArray, List.getElem?_cons_succ, List.getElem?_cons_zero]; first | done | rfl) (by rfl) ?_; (try simp only [Act.put, List.setIfInBounds_toArray, List.set_cons_zero, List.set_cons_succ]))
          | (refine seq_reads (by simp only [List.getElem?_toArray, List.getElem?_cons_succ, List.getElem?_cons_zero]; first | done | rfl) (by rfl) ?_; apply Exists.intro; apply And.intro; (focus (intro w hSw; obtain ⟨hcS, -⟩ := bcell hSw; go_simp; (try with_reducible rfl); done)); (try simp only [Act.put, List.setIfInBounds_toArray, List.set_cons_zero, List.set_cons_succ]))
          | (refine seq_pass (by simp only [List.getElem?_toArray, List.getElem?_cons_succ, List.getElem?_cons_zero]; first | done | rfl) (by rfl) hHeld ?_; clear hHeld; intro hHeld; (try simp only [Act.put, List.setIfInBounds_toArray, List.set_cons_zero, List.set_cons_succ])))
        refine seq_end ?_
        go_wp2
        go_meet
        exact ⟨by rw [HK.out], next hbl hHeld⟩
  case rest =>
  obtain ⟨rfl, bq⟩ := hcut
  replace hm := hm.below bq
  replace b0 := next b0 bq
  have HWC := Lib.hid (HW.out.below bq)
  clear hm7 bq HW
  obtain ⟨i0, hi, hz0, hz1, hz2⟩ := info_parts infoWk
  go_upto_region 8 with (fail)
  go_cut [7] (fun s7 wx => RestW wc rs k s7 wx)
  case first =>
    by_cases hck : c = k
    · subst hck
      go_wp2_with (at_builtin; refine stop_mk ?_)
      refine stop_un ?_
      refine wpList_append_flat (k := 3) (enc := wrL) (l := rs.drop c) rfl _ _ 24 rfl wc.heap.size 39 i0 _ 48 Tryz.underlying24 hi hz0 hz1 hz2 rfl (by decide) (.slice (some ⟨wc.heap.size, 0, none⟩) 0 0) 0 [] rfl (World.ownsRow_made (size := 3) (e := 39) wc #[] 0 (Nat.le_refl _) (Nat.zero_le _) rfl) (A) (0) (by rw [List.length_drop, show rs.length - c = 0 by omega]; rfl) (fun _ => rfl) (.inl (List.drop_eq_nil_of_le (by omega))) wrL_len (wr_ones _) (by rw [List.length_drop]; unfold maxLen; omega) (by rw [List.length_drop]; omega) (by simp) ?_
      intro v5 w5 hown hgrow
      rw [Nat.zero_add, List.nil_append] at hown
      have b5 := ((Below.refl wc.heap.size wc).alloc (Nat.le_refl _) (.cells #[] 39)).grown hgrow (by simp) (fun g hg => by simp [Value.ownBlock] at hg; omega)
      clear hgrow
      obtain ⟨Ar, cr, rfl⟩ := row_form hown
      have HO5 := Lib.hid hown
      clear hown
      rw [List.length_drop]
      go_wp2
      go_meet
      exact ⟨Ar, cr, by rw [show rs.length - c = 0 by omega], by have := HO5.out; rw [List.length_drop] at this ⊢; exact this, b5⟩
    · have hcd := Flat.cutDrop (cap := c) ((HWC.out.alloc (.cells #[] 39)).1) k hcap
      unfold cutAt at hcd
      rw [if_neg hck] at hcd
      have HQ := Lib.hid hcd
      clear hcd
      go_wp2_with (at_builtin; refine stop_mk ?_)
      refine stop_un ?_
      refine wpList_append_flat (k := 3) (enc := wrL) (l := rs.drop k) rfl _ _ 24 rfl wc.heap.size 39 i0 _ 48 Tryz.underlying24 hi hz0 hz1 hz2 rfl (by decide) (.slice (some ⟨wc.heap.size, 0, none⟩) 0 0) 0 [] rfl (World.ownsRow_made (size := 3) (e := 39) wc #[] 0 (Nat.le_refl _) (Nat.zero_le _) rfl) (A.map (·.add (k * 3))) (c - k) (by rw [List.length_drop]; rfl) (fun h => by have := HA.out (by simpa using h); omega) HQ.out wrL_len (wr_ones _) (by rw [List.length_drop]; unfold maxLen; omega) (by rw [List.length_drop]; omega) (by simp) ?_
      intro v5 w5 hown hgrow
      rw [Nat.zero_add, List.nil_append] at hown
      have b5 := ((Below.refl wc.heap.size wc).alloc (Nat.le_refl _) (.cells #[] 39)).grown hgrow (by simp) (fun g hg => by simp [Value.ownBlock] at hg; omega)
      clear hgrow
      obtain ⟨Ar, cr, rfl⟩ := row_form hown
      have HO5 := Lib.hid hown
      clear hown
      rw [List.length_drop]
      go_wp2
      go_meet
      exact ⟨Ar, cr, rfl, by have := HO5.out; rw [List.length_drop] at this ⊢; exact this, b5⟩
  case rest =>
  obtain ⟨Ar, cr, rfl, hrest, b5⟩ := hcut
  replace hm := hm.below b5
  replace b0 := next b0 b5
  have HWQ := Lib.hid (HWC.out.below b5)
  replace hrest := World.ownsRow.mono hrest (Nat.zero_le _)
  have HRL := Lib.hid (fun z (hz : (Value.slice Ar (rs.length - k) cr).ownBlock = some z) => (World.ownsRow.lt hrest z hz).2)
  have HB0 := Lib.hid b0
  have HKL := Lib.hid (show (rs.take k).length = k by rw [List.length_take, Nat.min_eq_left hkl])
  obtain ⟨q0, q1, q2, q3, q4, q5, q6⟩ := hm.seven
  have zd := hm.1
  have hkc : k ≤ c := by omega
  clear b5 HWC hm b0
  go_upto_region 9 with (fail)
  refine wp_region_tq (fun y => Below wc.heap.size wc y) (.read 1 (.read 2 (.read 3 (.read 5 (.read 6 (.read 7 (.read 8 (.read 9 (.read 12 (.two 0 10 (.two 4 10 (.one 10 (.one 11 (.one 13 (.read 14 (.read 15 .done))))) (.one 4 (.one 11 (.one 13 (.read 14 (.read 15 .done)))))) (.one 0 (.one 4 (.one 11 (.one 13 (.read 14 (.read 15 .done)))))))))))))))) (by kernel_rfl) (by kernel_rfl) (fun _ _ _ _ _ h => h) (by kernel_rfl) (by decide) (Below.refl _ _).drew ?_
  intro hHeld
  generalize hwdd : wc.drew = wd at hHeld ⊢
  replace hrest : World.ownsRow wc.drew _ _ _ _ _ _ := hrest
  rw [hwdd] at hrest
  clear hwdd
  repeat (first
    | (refine tq_reads (by simp only [List.getElem?_toArray, List.getElem?_cons_succ, List.getElem?_cons_zero]; first | done | rfl) (by rfl) ?_; apply Exists.intro; apply And.intro; (focus (intro w hSw; obtain ⟨hcS, -⟩ := bcell hSw; go_simp; (try with_reducible rfl); done)); (try simp only [Act.put, List.setIfInBounds_toArray, List.set_cons_zero, List.set_cons_succ]))
    | (refine tq_two ?_ ?_)
    | (refine tq_three ?_ ?_ ?_)
    | (refine tq_one (by simp only [List.getElem?_toArray, List.getElem?_cons_succ, List.getElem?_cons_zero]; first | done | rfl) (by rfl) (fun K hK => ?_); go_simp; refine hK.out _ _ _ (fun _ h => h) (hHeld.alloc hHeld.size _) ?_; clear hK; intro hS; refine tq_made hHeld.size ?_ hS; clear hS; intro wA bA e0 hS; (try (have nx := new_ne hx.1; replace hx := hx.below bA)); clear hHeld; have hHeld := hS; replace hrest := Own.below hrest bA; clear hS bA; (try simp only [Act.put, List.setIfInBounds_toArray, List.set_cons_zero, List.set_cons_succ]))
    | (refine tq_one (by simp only [List.getElem?_toArray, List.getElem?_cons_succ, List.getElem?_cons_zero]; first | done | rfl) (by rfl) (fun K hK => ?_); go_simp; refine hK.out _ _ _ (fun _ h => h) (hHeld.alloc hHeld.size _) ?_; clear hK; intro hS; refine tq_alloc ?_ hS; clear hS; intro wA bA hx fx hS; (try (have nx := old_ne e0; replace e0 := Own.below e0 bA)); (try (have nx := old_ne e4; replace e4 := Own.below e4 bA)); clear hHeld fx; have hHeld := hS; replace hrest := Own.below hrest bA; clear hS bA; (try simp only [Act.put, List.setIfInBounds_toArray, List.set_cons_zero, List.set_cons_succ]))
    | (refine tq_one (by simp only [List.getElem?_toArray, List.getElem?_cons_succ, List.getElem?_cons_zero]; first | done | rfl) (by rfl) (fun K hK => ?_); refine wp_append_flat_at (k := 3) (enc := wrL) (l := rs.take k) _ _ 24 rfl wc.heap.size 39 i0 _ 48 Tryz.underlying24 hi hz0 hz1 hz2 rfl (by decide) _ _ _ rfl e0 A c (by rw [HKL.out]; rfl) HA.out (Flat.cutTake (HWQ.out.below hHeld).1 k) wrL_len (wr_ones _) (by simp only [List.length_take]; unfold maxLen; omega) (by simp only [List.length_take]; omega) hHeld.size ?_; intro v9 w9 own9 grow9 at9; (have bg := hHeld.grown grow9 hHeld.size (fun z hz => (World.ownsRow.lt e0 z hz).1)); (try (have nx9 := grown_ne nx hx.1 at9; replace hx := grown_holds hx grow9 (fun h => nx _ h.symm rfl); clear nx; have nx := nx9; clear nx9)); (replace hrest := World.ownsRow.kept hrest grow9 (own_two (fun z hz h => by have := (World.ownsRow.lt e0 z h).1; have := HRL.out z hz; omega))); rw [HKL.out, Nat.zero_add, List.nil_append] at own9; (have e4 := own9); clear own9 e0 grow9 at9; obtain ⟨A4, c4, rfl⟩ := row_form e4; refine hK.out _ _ _ (fun _ h => h) bg ?_; clear hK hHeld bg; intro hHeld; (try simp only [Act.put, List.setIfInBounds_toArray, List.set_cons_zero, List.set_cons_succ]))
    | (refine tq_one (by simp only [List.getElem?_toArray, List.getElem?_cons_succ, List.getElem?_cons_zero]; first | done | rfl) (by rfl) (fun K hK => ?_); refine wp_append_flat_at (k := 3) (enc := wrL) (l := [(⟨d.name, d.who, none, 0, []⟩ : Wr)]) _ _ 24 rfl wc.heap.size 39 i0 _ 48 Tryz.underlying24 hi hz0 hz1 hz2 rfl (by decide) (.slice A4 k c4) k (cellsOf wrL (rs.take k)) rfl e4 (some ⟨_, 0, none⟩) 1 rfl (fun h => by cases h) (hold_flatW hx) wrL_len (wr_ones _) (by simp only [List.length_singleton]; unfold maxLen; omega) (by simp only [List.length_singleton]; omega) hHeld.size ?_; intro v9 w9 own9 grow9 at9; (have bg := hHeld.grown grow9 hHeld.size (fun z hz => (World.ownsRow.lt e4 z hz).1)); (replace hrest := World.ownsRow.kept hrest grow9 (own_two (fun z hz h => by have := (World.ownsRow.lt e4 z h).1; have := HRL.out z hz; omega))); rw [← cellsOf_append] at own9; (have e11 := own9); clear own9 e4 grow9 at9 hx nx; obtain ⟨A11, c11, rfl⟩ := row_form e11; refine hK.out _ _ _ (fun _ h => h) bg ?_; clear hK hHeld bg; intro hHeld; (try simp only [Act.put, List.setIfInBounds_toArray, List.set_cons_zero, List.set_cons_succ]))
    | (refine tq_one (by simp only [List.getElem?_toArray, List.getElem?_cons_succ, List.getElem?_cons_zero]; first | done | rfl) (by rfl) (fun K hK => ?_); refine wp_append_flat_at (k := 3) (enc := wrL) (l := rs.drop k) _ _ 24 rfl wc.heap.size 39 i0 _ 48 Tryz.underlying24 hi hz0 hz1 hz2 rfl (by decide) (.slice A11 (k + 1) c11) (k + 1) (cellsOf wrL (rs.take k ++ [(⟨d.name, d.who, none, 0, []⟩ : Wr)])) rfl e11 Ar cr (by rw [List.length_drop]; rfl) (row_nilc hrest) (own_flatW hrest) wrL_len (wr_ones _) (by simp only [List.length_drop]; unfold maxLen; omega) (by simp only [List.length_drop]; omega) hHeld.size ?_; intro v9 w9 own9 grow9 at9; (have bg := hHeld.grown grow9 hHeld.size (fun z hz => (World.ownsRow.lt e11 z hz).1)); rw [← cellsOf_append, List.append_assoc, List.singleton_append, List.length_drop] at own9; (have e13 := own9); clear own9 e11 grow9 at9 hrest; refine hK.out _ _ _ (fun _ h => h) bg ?_; clear hK hHeld bg; intro hHeld; (try simp only [Act.put, List.setIfInBounds_toArray, List.set_cons_zero, List.set_cons_succ]))
    | (refine tq_end ?_; have HF := Lib.hid (show _ ∧ _ from ⟨hHeld, e13⟩); clear hHeld e13; go_wp2; exact bodyPost_ret (results_cl _ _ _ _ rfl rfl) rfl (HEND.out _ _ (next HB0.out HF.out.1) (World.ownsRow.mono HF.out.2 HB0.out.size))))

set_option maxHeartbeats 4000000 in
theorem l5Claim_there (B : Nat) (A : Option Addr) (c : Nat) (rs : List Wr) (x : World) (d : M.Dd) (h : SfOwn B x (.slice A rs.length c) rs) (hp : rs.length ≤ 1048576) (hf : M.sfFind (rs.map Wr.wk) d.name < (rs.map Wr.wk).length) :
    Calls Tryz.prog 64 #[.slice A rs.length c, ddV d] x (ClIn B x (.slice A rs.length c) rs (M.sClaim (rs.map Wr.wk) d)) := by
  have HE : Hid (M.sClaim (rs.map Wr.wk) d = (rs.map Wr.wk, 2)) := Lib.hid (by unfold M.sClaim; rw [if_pos hf])
  obtain ⟨k, hk⟩ : ∃ k : Nat, M.sfFindInt (rs.map Wr.wk) d.name = k := ⟨_, M.sfFindInt_pos hf⟩
  have HK := Lib.hid hk
  clear hk hf
  have b0 := (Below.refl x.heap.size x).alloc (Nat.le_refl _) (.cells (ddC d) 28)
  obtain ⟨hw, -⟩ := h.wks
  have HW := Lib.hid (hw.below b0)
  have HQ : Hid (ClIn B x (.slice A rs.length c) rs (M.sClaim (rs.map Wr.wk) d) (.returned (.tuple #[.slice A rs.length c, .int .i64 2])) (x.alloc (.cells (ddC d) 28))) := Lib.hid (by
    rw [HE.out]
    exact ⟨_, rs, rfl, h.below b0, rfl, b0, fun z hz => .inl hz⟩)
  clear h hw
  go_enter Tryz.func64, Tryz.ntmps64
  go_wp2_with fail
  have hcall := l5Find_any A rs c d.name _ HW.out hp
  rw [HK.out] at hcall
  refine hcall.mono ?_
  rintro e x1 ⟨rfl, rfl⟩
  clear hcall
  go_wp2
  exact bodyPost_ret (results_cl _ _ _ _ rfl rfl) rfl HQ.out

set_option maxHeartbeats 4000000 in
theorem l5Claim_full (B : Nat) (A : Option Addr) (c : Nat) (rs : List Wr) (x : World) (d : M.Dd) (h : SfOwn B x (.slice A rs.length c) rs) (hp : rs.length = 5) (hf : M.sfFind (rs.map Wr.wk) d.name = (rs.map Wr.wk).length) :
    Calls Tryz.prog 64 #[.slice A rs.length c, ddV d] x (ClIn B x (.slice A rs.length c) rs (M.sClaim (rs.map Wr.wk) d)) := by
  have HE : Hid (M.sClaim (rs.map Wr.wk) d = (rs.map Wr.wk, 4)) := Lib.hid (by unfold M.sClaim; rw [if_neg (by rw [hf]; omega), if_pos (by rw [List.length_map]; exact hp)])
  have HNEG := Lib.hid (M.sfFindInt_neg hf)
  clear hf
  have b0 := (Below.refl x.heap.size x).alloc (Nat.le_refl _) (.cells (ddC d) 28)
  obtain ⟨hw, -⟩ := h.wks
  have HW := Lib.hid (hw.below b0)
  have HQ : Hid (ClIn B x (.slice A rs.length c) rs (M.sClaim (rs.map Wr.wk) d) (.returned (.tuple #[.slice A rs.length c, .int .i64 4])) (x.alloc (.cells (ddC d) 28))) := Lib.hid (by
    rw [HE.out]
    exact ⟨_, rs, rfl, h.below b0, rfl, b0, fun z hz => .inl hz⟩)
  have h5 : ((rs.length : Int) == 5) = true := by simp; omega
  have HP := Lib.hid hp
  clear h hw hp
  go_enter Tryz.func64, Tryz.ntmps64
  go_wp2_with fail
  have hcall := l5Find_any A rs c d.name _ HW.out (by have := HP.out; omega)
  rw [HNEG.out] at hcall
  refine hcall.mono ?_
  rintro e x1 ⟨rfl, rfl⟩
  clear hcall
  go_wp2
  exact bodyPost_ret (results_cl _ _ _ _ rfl rfl) rfl HQ.out

theorem l5Claim_any (B : Nat) (A : Option Addr) (c : Nat) (rs : List Wr) (x : World) (d : M.Dd) (h : SfOwn B x (.slice A rs.length c) rs) (hB : B ≤ x.heap.size) (hok : M.sfOk (rs.map Wr.wk) = true) :
    Calls Tryz.prog 64 #[.slice A rs.length c, ddV d] x (ClIn B x (.slice A rs.length c) rs (M.sClaim (rs.map Wr.wk) d)) := by
  have hl5 : rs.length ≤ 5 := by
    have h1 := hok
    unfold M.sfOk at h1
    simp only [Bool.and_eq_true, decide_eq_true_eq, List.length_map] at h1
    exact h1.1
  by_cases hf : M.sfFind (rs.map Wr.wk) d.name < (rs.map Wr.wk).length
  · exact l5Claim_there B A c rs x d h (by omega) hf
  · have hf' : M.sfFind (rs.map Wr.wk) d.name = (rs.map Wr.wk).length := by
      have : M.sfFind (rs.map Wr.wk) d.name ≤ (rs.map Wr.wk).length := List.findIdx_le_length
      omega
    by_cases h5 : rs.length = 5
    · exact l5Claim_full B A c rs x d h h5 hf'
    · refine l5Claim_new B A c rs x d h hB (by omega) (M.sfOk_riseN hok) hf' (M.getN_none_ne ?_)
      rw [M.getN_sf, hf']
      exact List.getElem?_eq_none (Nat.le_refl _)

end Go.Proofs.YtdcdalbbjfjadaaGreatDoor
