/- Proved, in parts: Proved: the program's DeedOk, which goes over shapes, answers the same plain Lean function as the model's, at every deed; it writes nothing that was there. Condition: texts of at most maxLen bytes. -/
import Derived.Test.YtdoeiphnalbinaaGreatPart10
namespace Go.Proofs.YtdoeiphnalbinaaGreat
open Go.RowKit
set_option maxRecDepth 20000

theorem meth_claim (v : Value) (w : World) : (method 290 159 v "loop.example/g00572/impl.deed").run Tryz.prog w = .ok (146, v) w := by kernel_rfl
theorem meth_put (v : Value) (w : World) : (method 290 161 v "loop.example/g00572/impl.deed").run Tryz.prog w = .ok (147, v) w := by kernel_rfl
theorem meth_veil (v : Value) (w : World) : (method 290 163 v "loop.example/g00572/impl.deed").run Tryz.prog w = .ok (148, v) w := by kernel_rfl
theorem meth_fetch (v : Value) (w : World) : (method 290 165 v "loop.example/g00572/impl.deed").run Tryz.prog w = .ok (149, v) w := by kernel_rfl
theorem meth_give (v : Value) (w : World) : (method 290 167 v "loop.example/g00572/impl.deed").run Tryz.prog w = .ok (150, v) w := by kernel_rfl

set_option maxHeartbeats 2000000 in
theorem deedOk_claim (d : M.Dd) (w : World) (hn : d.name.size ≤ maxLen) (hk : shV d = .iface 159 (clV d)) :
    Calls Tryz.prog 89 #[ddV d] w fun r w' => r = .returned (.bool ((M.nameOk d.name.data.toList && M.inI d.who 0 3) && decide ((⟨1, d.name, ⟨0, 0, 0⟩, ⟨#[]⟩, d.who⟩ : M.Dd) = d))) ∧ Below w.heap.size w w' := by
  have b0 := (Below.refl w.heap.size w).alloc (Nat.le_refl _) (.cells (ddC d) 49)
  have h0 := holds_new w (ddC d) 49
  rcases h1 : (M.nameOk d.name.data.toList && M.inI d.who 0 3) with _ | _
  ·
    go_enter Tryz.func89, Tryz.ntmps89
    go_wp2_with fail
    refine (shapeOf_any d _).mono ?_
    rintro r w1 ⟨rfl, b1⟩
    rw [hk]
    replace h0 := h0.below b1
    replace b0 := next b0 b1
    obtain ⟨p0, p1, p2, p3, p4, p5, p6⟩ := h0.seven
    clear b1 h0
    go_wp2_with fail
    refine wp_region_seq (fun w' => Below w.heap.size w w' ∧ w'.cell? ⟨w.heap.size, 0, none⟩ = some (.int .i64 d.kind) ∧ w'.cell? ⟨w.heap.size, 1, none⟩ = some (.string d.name) ∧ w'.cell? ⟨w.heap.size, 2, none⟩ = some (.int .i64 d.ed.ma) ∧ w'.cell? ⟨w.heap.size, 3, none⟩ = some (.int .i64 d.ed.mi) ∧ w'.cell? ⟨w.heap.size, 4, none⟩ = some (.int .i64 d.ed.pa) ∧ w'.cell? ⟨w.heap.size, 5, none⟩ = some (.string d.page) ∧ w'.cell? ⟨w.heap.size, 6, none⟩ = some (.int .i64 d.who)) [(0, true), (1, false), (2, true), (3, true), (5, true), (4, false), (6, true), (7, true), (8, true)] (by kernel_rfl) (by kernel_rfl) (fun _ _ _ _ _ h => h) (by kernel_rfl) (by decide) ?_ ?_
    · ((try dsimp only); (repeat' apply And.intro) <;> first | assumption | (exact Below.drew (by assumption)) | (simp [go_sem]; done))
    clear p0 p1 p2 p3 p4 p5 p6
    intro hHeld
    repeat (first
      | (refine seq_reads (by simp only [List.getElem?_toArray, List.getElem?_cons_succ, List.getElem?_cons_zero]; first | done | rfl) (by rfl) ⟨_, fun w _ => deql_read (a := ⟨1, d.name, ⟨0, 0, 0⟩, ⟨#[]⟩, d.who⟩) (b := d) rfl rfl rfl w, ?_⟩; (try simp only [Act.put, List.setIfInBounds_toArray, List.set_cons_zero, List.set_cons_succ]))
      | (refine seq_skip (by simp only [List.getElem?_toArray, List.getElem?_cons_succ, List.getElem?_cons_zero]; first | done | rfl) (by rfl) ?_; (try simp only [Act.put, List.setIfInBounds_toArray, List.set_cons_zero, List.set_cons_succ]))
      | (refine seq_reads (by simp only [List.getElem?_toArray, List.getElem?_cons_succ, List.getElem?_cons_zero]; first | done | rfl) (by rfl) ?_; apply Exists.intro; apply And.intro; (focus (intro w hSw; (try dsimp only at hSw); go_split_ands; go_simp; (try with_reducible rfl); done)); (try simp only [Act.put, List.setIfInBounds_toArray, List.set_cons_zero, List.set_cons_succ]))
      | (refine seq_pass (by simp only [List.getElem?_toArray, List.getElem?_cons_succ, List.getElem?_cons_zero]; first | done | rfl) (by rfl) hHeld ?_; clear hHeld; intro hHeld; (try simp only [Act.put, List.setIfInBounds_toArray, List.set_cons_zero, List.set_cons_succ]))
      | (refine seq_call (by simp only [List.getElem?_toArray, List.getElem?_cons_succ, List.getElem?_cons_zero]; first | done | rfl) (by rfl) (fun K hK => ?_); go_simp; go_at_call 109; refine (keeps (shapeOk_claim d _ hn) (W0 := w) hHeld.1).mono ?_; rintro r w1 ⟨he, b1, kp⟩; rw [h1] at he; obtain rfl := he; go_simp; refine hK.out _ _ ⟨b1, kp _ _ _ hHeld.2.1, kp _ _ _ hHeld.2.2.1, kp _ _ _ hHeld.2.2.2.1, kp _ _ _ hHeld.2.2.2.2.1, kp _ _ _ hHeld.2.2.2.2.2.1, kp _ _ _ hHeld.2.2.2.2.2.2.1, kp _ _ _ hHeld.2.2.2.2.2.2.2⟩ ?_; clear hHeld kp b1 hK; intro hHeld; (try simp only [Act.put, List.setIfInBounds_toArray, List.set_cons_zero, List.set_cons_succ])))
    refine seq_end ?_
    go_split_ands
    go_wp2
    all_goals
      go_ret
      exact ⟨rfl, by assumption⟩
  ·
    go_enter Tryz.func89, Tryz.ntmps89
    go_wp2_with fail
    refine (shapeOf_any d _).mono ?_
    rintro r w1 ⟨rfl, b1⟩
    rw [hk]
    replace h0 := h0.below b1
    replace b0 := next b0 b1
    obtain ⟨p0, p1, p2, p3, p4, p5, p6⟩ := h0.seven
    clear b1 h0
    go_wp2_with fail
    refine wp_region_seq (fun w' => Below w.heap.size w w' ∧ w'.cell? ⟨w.heap.size, 0, none⟩ = some (.int .i64 d.kind) ∧ w'.cell? ⟨w.heap.size, 1, none⟩ = some (.string d.name) ∧ w'.cell? ⟨w.heap.size, 2, none⟩ = some (.int .i64 d.ed.ma) ∧ w'.cell? ⟨w.heap.size, 3, none⟩ = some (.int .i64 d.ed.mi) ∧ w'.cell? ⟨w.heap.size, 4, none⟩ = some (.int .i64 d.ed.pa) ∧ w'.cell? ⟨w.heap.size, 5, none⟩ = some (.string d.page) ∧ w'.cell? ⟨w.heap.size, 6, none⟩ = some (.int .i64 d.who)) [(0, true), (1, false), (2, true), (3, true), (5, true), (4, false), (6, true), (7, true), (8, true)] (by kernel_rfl) (by kernel_rfl) (fun _ _ _ _ _ h => h) (by kernel_rfl) (by decide) ?_ ?_
    · ((try dsimp only); (repeat' apply And.intro) <;> first | assumption | (exact Below.drew (by assumption)) | (simp [go_sem]; done))
    clear p0 p1 p2 p3 p4 p5 p6
    intro hHeld
    repeat (first
      | (refine seq_reads (by simp only [List.getElem?_toArray, List.getElem?_cons_succ, List.getElem?_cons_zero]; first | done | rfl) (by rfl) ⟨_, fun w _ => deql_read (a := ⟨1, d.name, ⟨0, 0, 0⟩, ⟨#[]⟩, d.who⟩) (b := d) rfl rfl rfl w, ?_⟩; (try simp only [Act.put, List.setIfInBounds_toArray, List.set_cons_zero, List.set_cons_succ]))
      | (refine seq_skip (by simp only [List.getElem?_toArray, List.getElem?_cons_succ, List.getElem?_cons_zero]; first | done | rfl) (by rfl) ?_; (try simp only [Act.put, List.setIfInBounds_toArray, List.set_cons_zero, List.set_cons_succ]))
      | (refine seq_reads (by simp only [List.getElem?_toArray, List.getElem?_cons_succ, List.getElem?_cons_zero]; first | done | rfl) (by rfl) ?_; apply Exists.intro; apply And.intro; (focus (intro w hSw; (try dsimp only at hSw); go_split_ands; go_simp; (try with_reducible rfl); done)); (try simp only [Act.put, List.setIfInBounds_toArray, List.set_cons_zero, List.set_cons_succ]))
      | (refine seq_pass (by simp only [List.getElem?_toArray, List.getElem?_cons_succ, List.getElem?_cons_zero]; first | done | rfl) (by rfl) hHeld ?_; clear hHeld; intro hHeld; (try simp only [Act.put, List.setIfInBounds_toArray, List.set_cons_zero, List.set_cons_succ]))
      | (refine seq_call (by simp only [List.getElem?_toArray, List.getElem?_cons_succ, List.getElem?_cons_zero]; first | done | rfl) (by rfl) (fun K hK => ?_); go_simp; go_at_call 109; refine (keeps (shapeOk_claim d _ hn) (W0 := w) hHeld.1).mono ?_; rintro r w1 ⟨he, b1, kp⟩; rw [h1] at he; obtain rfl := he; go_simp; refine hK.out _ _ ⟨b1, kp _ _ _ hHeld.2.1, kp _ _ _ hHeld.2.2.1, kp _ _ _ hHeld.2.2.2.1, kp _ _ _ hHeld.2.2.2.2.1, kp _ _ _ hHeld.2.2.2.2.2.1, kp _ _ _ hHeld.2.2.2.2.2.2.1, kp _ _ _ hHeld.2.2.2.2.2.2.2⟩ ?_; clear hHeld kp b1 hK; intro hHeld; (try simp only [Act.put, List.setIfInBounds_toArray, List.set_cons_zero, List.set_cons_succ]))
      | (refine seq_call (by simp only [List.getElem?_toArray, List.getElem?_cons_succ, List.getElem?_cons_zero]; first | done | rfl) (by rfl) (fun K hK => ?_); have hi2 := meth_claim; go_simp; go_at_call 146; refine (keeps (deed_claim d _) (W0 := w) hHeld.1).mono ?_; rintro r w1 ⟨rfl, b1, kp⟩; go_simp; refine hK.out _ _ ⟨b1, kp _ _ _ hHeld.2.1, kp _ _ _ hHeld.2.2.1, kp _ _ _ hHeld.2.2.2.1, kp _ _ _ hHeld.2.2.2.2.1, kp _ _ _ hHeld.2.2.2.2.2.1, kp _ _ _ hHeld.2.2.2.2.2.2.1, kp _ _ _ hHeld.2.2.2.2.2.2.2⟩ ?_; clear hHeld kp b1 hK; intro hHeld; (try simp only [Act.put, List.setIfInBounds_toArray, List.set_cons_zero, List.set_cons_succ])))
    refine seq_end ?_
    go_split_ands
    go_wp2
    all_goals
      go_ret
      exact ⟨rfl, by assumption⟩
set_option maxHeartbeats 2000000 in
theorem deedOk_put (d : M.Dd) (w : World) (hn : d.name.size ≤ maxLen) (hp : d.page.size ≤ maxLen) (hk : shV d = .iface 161 (puV d)) :
    Calls Tryz.prog 89 #[ddV d] w fun r w' => r = .returned (.bool ((M.nameOk d.name.data.toList && (M.edOk d.ed && (M.pageOk d.page.data.toList && M.inI d.who 0 3))) && decide ((⟨2, d.name, d.ed, d.page, d.who⟩ : M.Dd) = d))) ∧ Below w.heap.size w w' := by
  have b0 := (Below.refl w.heap.size w).alloc (Nat.le_refl _) (.cells (ddC d) 49)
  have h0 := holds_new w (ddC d) 49
  rcases h1 : (M.nameOk d.name.data.toList && (M.edOk d.ed && (M.pageOk d.page.data.toList && M.inI d.who 0 3))) with _ | _
  ·
    go_enter Tryz.func89, Tryz.ntmps89
    go_wp2_with fail
    refine (shapeOf_any d _).mono ?_
    rintro r w1 ⟨rfl, b1⟩
    rw [hk]
    replace h0 := h0.below b1
    replace b0 := next b0 b1
    obtain ⟨p0, p1, p2, p3, p4, p5, p6⟩ := h0.seven
    clear b1 h0
    go_wp2_with fail
    refine wp_region_seq (fun w' => Below w.heap.size w w' ∧ w'.cell? ⟨w.heap.size, 0, none⟩ = some (.int .i64 d.kind) ∧ w'.cell? ⟨w.heap.size, 1, none⟩ = some (.string d.name) ∧ w'.cell? ⟨w.heap.size, 2, none⟩ = some (.int .i64 d.ed.ma) ∧ w'.cell? ⟨w.heap.size, 3, none⟩ = some (.int .i64 d.ed.mi) ∧ w'.cell? ⟨w.heap.size, 4, none⟩ = some (.int .i64 d.ed.pa) ∧ w'.cell? ⟨w.heap.size, 5, none⟩ = some (.string d.page) ∧ w'.cell? ⟨w.heap.size, 6, none⟩ = some (.int .i64 d.who)) [(0, true), (1, false), (2, true), (3, true), (5, true), (4, false), (6, true), (7, true), (8, true)] (by kernel_rfl) (by kernel_rfl) (fun _ _ _ _ _ h => h) (by kernel_rfl) (by decide) ?_ ?_
    · ((try dsimp only); (repeat' apply And.intro) <;> first | assumption | (exact Below.drew (by assumption)) | (simp [go_sem]; done))
    clear p0 p1 p2 p3 p4 p5 p6
    intro hHeld
    repeat (first
      | (refine seq_reads (by simp only [List.getElem?_toArray, List.getElem?_cons_succ, List.getElem?_cons_zero]; first | done | rfl) (by rfl) ⟨_, fun w _ => deql_read (a := ⟨2, d.name, d.ed, d.page, d.who⟩) (b := d) rfl rfl rfl w, ?_⟩; (try simp only [Act.put, List.setIfInBounds_toArray, List.set_cons_zero, List.set_cons_succ]))
      | (refine seq_skip (by simp only [List.getElem?_toArray, List.getElem?_cons_succ, List.getElem?_cons_zero]; first | done | rfl) (by rfl) ?_; (try simp only [Act.put, List.setIfInBounds_toArray, List.set_cons_zero, List.set_cons_succ]))
      | (refine seq_reads (by simp only [List.getElem?_toArray, List.getElem?_cons_succ, List.getElem?_cons_zero]; first | done | rfl) (by rfl) ?_; apply Exists.intro; apply And.intro; (focus (intro w hSw; (try dsimp only at hSw); go_split_ands; go_simp; (try with_reducible rfl); done)); (try simp only [Act.put, List.setIfInBounds_toArray, List.set_cons_zero, List.set_cons_succ]))
      | (refine seq_pass (by simp only [List.getElem?_toArray, List.getElem?_cons_succ, List.getElem?_cons_zero]; first | done | rfl) (by rfl) hHeld ?_; clear hHeld; intro hHeld; (try simp only [Act.put, List.setIfInBounds_toArray, List.set_cons_zero, List.set_cons_succ]))
      | (refine seq_call (by simp only [List.getElem?_toArray, List.getElem?_cons_succ, List.getElem?_cons_zero]; first | done | rfl) (by rfl) (fun K hK => ?_); go_simp; go_at_call 109; refine (keeps (shapeOk_put d _ hn hp) (W0 := w) hHeld.1).mono ?_; rintro r w1 ⟨he, b1, kp⟩; rw [h1] at he; obtain rfl := he; go_simp; refine hK.out _ _ ⟨b1, kp _ _ _ hHeld.2.1, kp _ _ _ hHeld.2.2.1, kp _ _ _ hHeld.2.2.2.1, kp _ _ _ hHeld.2.2.2.2.1, kp _ _ _ hHeld.2.2.2.2.2.1, kp _ _ _ hHeld.2.2.2.2.2.2.1, kp _ _ _ hHeld.2.2.2.2.2.2.2⟩ ?_; clear hHeld kp b1 hK; intro hHeld; (try simp only [Act.put, List.setIfInBounds_toArray, List.set_cons_zero, List.set_cons_succ])))
    refine seq_end ?_
    go_split_ands
    go_wp2
    all_goals
      go_ret
      exact ⟨rfl, by assumption⟩
  ·
    go_enter Tryz.func89, Tryz.ntmps89
    go_wp2_with fail
    refine (shapeOf_any d _).mono ?_
    rintro r w1 ⟨rfl, b1⟩
    rw [hk]
    replace h0 := h0.below b1
    replace b0 := next b0 b1
    obtain ⟨p0, p1, p2, p3, p4, p5, p6⟩ := h0.seven
    clear b1 h0
    go_wp2_with fail
    refine wp_region_seq (fun w' => Below w.heap.size w w' ∧ w'.cell? ⟨w.heap.size, 0, none⟩ = some (.int .i64 d.kind) ∧ w'.cell? ⟨w.heap.size, 1, none⟩ = some (.string d.name) ∧ w'.cell? ⟨w.heap.size, 2, none⟩ = some (.int .i64 d.ed.ma) ∧ w'.cell? ⟨w.heap.size, 3, none⟩ = some (.int .i64 d.ed.mi) ∧ w'.cell? ⟨w.heap.size, 4, none⟩ = some (.int .i64 d.ed.pa) ∧ w'.cell? ⟨w.heap.size, 5, none⟩ = some (.string d.page) ∧ w'.cell? ⟨w.heap.size, 6, none⟩ = some (.int .i64 d.who)) [(0, true), (1, false), (2, true), (3, true), (5, true), (4, false), (6, true), (7, true), (8, true)] (by kernel_rfl) (by kernel_rfl) (fun _ _ _ _ _ h => h) (by kernel_rfl) (by decide) ?_ ?_
    · ((try dsimp only); (repeat' apply And.intro) <;> first | assumption | (exact Below.drew (by assumption)) | (simp [go_sem]; done))
    clear p0 p1 p2 p3 p4 p5 p6
    intro hHeld
    repeat (first
      | (refine seq_reads (by simp only [List.getElem?_toArray, List.getElem?_cons_succ, List.getElem?_cons_zero]; first | done | rfl) (by rfl) ⟨_, fun w _ => deql_read (a := ⟨2, d.name, d.ed, d.page, d.who⟩) (b := d) rfl rfl rfl w, ?_⟩; (try simp only [Act.put, List.setIfInBounds_toArray, List.set_cons_zero, List.set_cons_succ]))
      | (refine seq_skip (by simp only [List.getElem?_toArray, List.getElem?_cons_succ, List.getElem?_cons_zero]; first | done | rfl) (by rfl) ?_; (try simp only [Act.put, List.setIfInBounds_toArray, List.set_cons_zero, List.set_cons_succ]))
      | (refine seq_reads (by simp only [List.getElem?_toArray, List.getElem?_cons_succ, List.getElem?_cons_zero]; first | done | rfl) (by rfl) ?_; apply Exists.intro; apply And.intro; (focus (intro w hSw; (try dsimp only at hSw); go_split_ands; go_simp; (try with_reducible rfl); done)); (try simp only [Act.put, List.setIfInBounds_toArray, List.set_cons_zero, List.set_cons_succ]))
      | (refine seq_pass (by simp only [List.getElem?_toArray, List.getElem?_cons_succ, List.getElem?_cons_zero]; first | done | rfl) (by rfl) hHeld ?_; clear hHeld; intro hHeld; (try simp only [Act.put, List.setIfInBounds_toArray, List.set_cons_zero, List.set_cons_succ]))
      | (refine seq_call (by simp only [List.getElem?_toArray, List.getElem?_cons_succ, List.getElem?_cons_zero]; first | done | rfl) (by rfl) (fun K hK => ?_); go_simp; go_at_call 109; refine (keeps (shapeOk_put d _ hn hp) (W0 := w) hHeld.1).mono ?_; rintro r w1 ⟨he, b1, kp⟩; rw [h1] at he; obtain rfl := he; go_simp; refine hK.out _ _ ⟨b1, kp _ _ _ hHeld.2.1, kp _ _ _ hHeld.2.2.1, kp _ _ _ hHeld.2.2.2.1, kp _ _ _ hHeld.2.2.2.2.1, kp _ _ _ hHeld.2.2.2.2.2.1, kp _ _ _ hHeld.2.2.2.2.2.2.1, kp _ _ _ hHeld.2.2.2.2.2.2.2⟩ ?_; clear hHeld kp b1 hK; intro hHeld; (try simp only [Act.put, List.setIfInBounds_toArray, List.set_cons_zero, List.set_cons_succ]))
      | (refine seq_call (by simp only [List.getElem?_toArray, List.getElem?_cons_succ, List.getElem?_cons_zero]; first | done | rfl) (by rfl) (fun K hK => ?_); have hi2 := meth_put; go_simp; go_at_call 147; refine (keeps (deed_put d _) (W0 := w) hHeld.1).mono ?_; rintro r w1 ⟨rfl, b1, kp⟩; go_simp; refine hK.out _ _ ⟨b1, kp _ _ _ hHeld.2.1, kp _ _ _ hHeld.2.2.1, kp _ _ _ hHeld.2.2.2.1, kp _ _ _ hHeld.2.2.2.2.1, kp _ _ _ hHeld.2.2.2.2.2.1, kp _ _ _ hHeld.2.2.2.2.2.2.1, kp _ _ _ hHeld.2.2.2.2.2.2.2⟩ ?_; clear hHeld kp b1 hK; intro hHeld; (try simp only [Act.put, List.setIfInBounds_toArray, List.set_cons_zero, List.set_cons_succ])))
    refine seq_end ?_
    go_split_ands
    go_wp2
    all_goals
      go_ret
      exact ⟨rfl, by assumption⟩
set_option maxHeartbeats 2000000 in
theorem deedOk_veil (d : M.Dd) (w : World) (hn : d.name.size ≤ maxLen) (b : Bool) (hk : shV d = .iface 163 (veV b d)) :
    Calls Tryz.prog 89 #[ddV d] w fun r w' => r = .returned (.bool ((M.nameOk d.name.data.toList && (M.edOk d.ed && M.inI d.who 0 3)) && decide ((⟨if b then 3 else 4, d.name, d.ed, ⟨#[]⟩, d.who⟩ : M.Dd) = d))) ∧ Below w.heap.size w w' := by
  have b0 := (Below.refl w.heap.size w).alloc (Nat.le_refl _) (.cells (ddC d) 49)
  have h0 := holds_new w (ddC d) 49
  rcases h1 : (M.nameOk d.name.data.toList && (M.edOk d.ed && M.inI d.who 0 3)) with _ | _
  ·
    go_enter Tryz.func89, Tryz.ntmps89
    go_wp2_with fail
    refine (shapeOf_any d _).mono ?_
    rintro r w1 ⟨rfl, b1⟩
    rw [hk]
    replace h0 := h0.below b1
    replace b0 := next b0 b1
    obtain ⟨p0, p1, p2, p3, p4, p5, p6⟩ := h0.seven
    clear b1 h0
    go_wp2_with fail
    refine wp_region_seq (fun w' => Below w.heap.size w w' ∧ w'.cell? ⟨w.heap.size, 0, none⟩ = some (.int .i64 d.kind) ∧ w'.cell? ⟨w.heap.size, 1, none⟩ = some (.string d.name) ∧ w'.cell? ⟨w.heap.size, 2, none⟩ = some (.int .i64 d.ed.ma) ∧ w'.cell? ⟨w.heap.size, 3, none⟩ = some (.int .i64 d.ed.mi) ∧ w'.cell? ⟨w.heap.size, 4, none⟩ = some (.int .i64 d.ed.pa) ∧ w'.cell? ⟨w.heap.size, 5, none⟩ = some (.string d.page) ∧ w'.cell? ⟨w.heap.size, 6, none⟩ = some (.int .i64 d.who)) [(0, true), (1, false), (2, true), (3, true), (5, true), (4, false), (6, true), (7, true), (8, true)] (by kernel_rfl) (by kernel_rfl) (fun _ _ _ _ _ h => h) (by kernel_rfl) (by decide) ?_ ?_
    · ((try dsimp only); (repeat' apply And.intro) <;> first | assumption | (exact Below.drew (by assumption)) | (simp [go_sem]; done))
    clear p0 p1 p2 p3 p4 p5 p6
    intro hHeld
    repeat (first
      | (refine seq_reads (by simp only [List.getElem?_toArray, List.getElem?_cons_succ, List.getElem?_cons_zero]; first | done | rfl) (by rfl) ⟨_, fun w _ => deql_read (a := ⟨if b then 3 else 4, d.name, d.ed, ⟨#[]⟩, d.who⟩) (b := d) rfl rfl rfl w, ?_⟩; (try simp only [Act.put, List.setIfInBounds_toArray, List.set_cons_zero, List.set_cons_succ]))
      | (refine seq_skip (by simp only [List.getElem?_toArray, List.getElem?_cons_succ, List.getElem?_cons_zero]; first | done | rfl) (by rfl) ?_; (try simp only [Act.put, List.setIfInBounds_toArray, List.set_cons_zero, List.set_cons_succ]))
      | (refine seq_reads (by simp only [List.getElem?_toArray, List.getElem?_cons_succ, List.getElem?_cons_zero]; first | done | rfl) (by rfl) ?_; apply Exists.intro; apply And.intro; (focus (intro w hSw; (try dsimp only at hSw); go_split_ands; go_simp; (try with_reducible rfl); done)); (try simp only [Act.put, List.setIfInBounds_toArray, List.set_cons_zero, List.set_cons_succ]))
      | (refine seq_pass (by simp only [List.getElem?_toArray, List.getElem?_cons_succ, List.getElem?_cons_zero]; first | done | rfl) (by rfl) hHeld ?_; clear hHeld; intro hHeld; (try simp only [Act.put, List.setIfInBounds_toArray, List.set_cons_zero, List.set_cons_succ]))
      | (refine seq_call (by simp only [List.getElem?_toArray, List.getElem?_cons_succ, List.getElem?_cons_zero]; first | done | rfl) (by rfl) (fun K hK => ?_); go_simp; go_at_call 109; refine (keeps (shapeOk_veil b d _ hn) (W0 := w) hHeld.1).mono ?_; rintro r w1 ⟨he, b1, kp⟩; rw [h1] at he; obtain rfl := he; go_simp; refine hK.out _ _ ⟨b1, kp _ _ _ hHeld.2.1, kp _ _ _ hHeld.2.2.1, kp _ _ _ hHeld.2.2.2.1, kp _ _ _ hHeld.2.2.2.2.1, kp _ _ _ hHeld.2.2.2.2.2.1, kp _ _ _ hHeld.2.2.2.2.2.2.1, kp _ _ _ hHeld.2.2.2.2.2.2.2⟩ ?_; clear hHeld kp b1 hK; intro hHeld; (try simp only [Act.put, List.setIfInBounds_toArray, List.set_cons_zero, List.set_cons_succ])))
    refine seq_end ?_
    go_split_ands
    go_wp2
    all_goals
      go_ret
      exact ⟨rfl, by assumption⟩
  ·
    go_enter Tryz.func89, Tryz.ntmps89
    go_wp2_with fail
    refine (shapeOf_any d _).mono ?_
    rintro r w1 ⟨rfl, b1⟩
    rw [hk]
    replace h0 := h0.below b1
    replace b0 := next b0 b1
    obtain ⟨p0, p1, p2, p3, p4, p5, p6⟩ := h0.seven
    clear b1 h0
    go_wp2_with fail
    refine wp_region_seq (fun w' => Below w.heap.size w w' ∧ w'.cell? ⟨w.heap.size, 0, none⟩ = some (.int .i64 d.kind) ∧ w'.cell? ⟨w.heap.size, 1, none⟩ = some (.string d.name) ∧ w'.cell? ⟨w.heap.size, 2, none⟩ = some (.int .i64 d.ed.ma) ∧ w'.cell? ⟨w.heap.size, 3, none⟩ = some (.int .i64 d.ed.mi) ∧ w'.cell? ⟨w.heap.size, 4, none⟩ = some (.int .i64 d.ed.pa) ∧ w'.cell? ⟨w.heap.size, 5, none⟩ = some (.string d.page) ∧ w'.cell? ⟨w.heap.size, 6, none⟩ = some (.int .i64 d.who)) [(0, true), (1, false), (2, true), (3, true), (5, true), (4, false), (6, true), (7, true), (8, true)] (by kernel_rfl) (by kernel_rfl) (fun _ _ _ _ _ h => h) (by kernel_rfl) (by decide) ?_ ?_
    · ((try dsimp only); (repeat' apply And.intro) <;> first | assumption | (exact Below.drew (by assumption)) | (simp [go_sem]; done))
    clear p0 p1 p2 p3 p4 p5 p6
    intro hHeld
    repeat (first
      | (refine seq_reads (by simp only [List.getElem?_toArray, List.getElem?_cons_succ, List.getElem?_cons_zero]; first | done | rfl) (by rfl) ⟨_, fun w _ => deql_read (a := ⟨if b then 3 else 4, d.name, d.ed, ⟨#[]⟩, d.who⟩) (b := d) rfl rfl rfl w, ?_⟩; (try simp only [Act.put, List.setIfInBounds_toArray, List.set_cons_zero, List.set_cons_succ]))
      | (refine seq_skip (by simp only [List.getElem?_toArray, List.getElem?_cons_succ, List.getElem?_cons_zero]; first | done | rfl) (by rfl) ?_; (try simp only [Act.put, List.setIfInBounds_toArray, List.set_cons_zero, List.set_cons_succ]))
      | (refine seq_reads (by simp only [List.getElem?_toArray, List.getElem?_cons_succ, List.getElem?_cons_zero]; first | done | rfl) (by rfl) ?_; apply Exists.intro; apply And.intro; (focus (intro w hSw; (try dsimp only at hSw); go_split_ands; go_simp; (try with_reducible rfl); done)); (try simp only [Act.put, List.setIfInBounds_toArray, List.set_cons_zero, List.set_cons_succ]))
      | (refine seq_pass (by simp only [List.getElem?_toArray, List.getElem?_cons_succ, List.getElem?_cons_zero]; first | done | rfl) (by rfl) hHeld ?_; clear hHeld; intro hHeld; (try simp only [Act.put, List.setIfInBounds_toArray, List.set_cons_zero, List.set_cons_succ]))
      | (refine seq_call (by simp only [List.getElem?_toArray, List.getElem?_cons_succ, List.getElem?_cons_zero]; first | done | rfl) (by rfl) (fun K hK => ?_); go_simp; go_at_call 109; refine (keeps (shapeOk_veil b d _ hn) (W0 := w) hHeld.1).mono ?_; rintro r w1 ⟨he, b1, kp⟩; rw [h1] at he; obtain rfl := he; go_simp; refine hK.out _ _ ⟨b1, kp _ _ _ hHeld.2.1, kp _ _ _ hHeld.2.2.1, kp _ _ _ hHeld.2.2.2.1, kp _ _ _ hHeld.2.2.2.2.1, kp _ _ _ hHeld.2.2.2.2.2.1, kp _ _ _ hHeld.2.2.2.2.2.2.1, kp _ _ _ hHeld.2.2.2.2.2.2.2⟩ ?_; clear hHeld kp b1 hK; intro hHeld; (try simp only [Act.put, List.setIfInBounds_toArray, List.set_cons_zero, List.set_cons_succ]))
      | (refine seq_call (by simp only [List.getElem?_toArray, List.getElem?_cons_succ, List.getElem?_cons_zero]; first | done | rfl) (by rfl) (fun K hK => ?_); have hi2 := meth_veil; go_simp; go_at_call 148; refine (keeps (deed_veil b d _) (W0 := w) hHeld.1).mono ?_; rintro r w1 ⟨rfl, b1, kp⟩; go_simp; refine hK.out _ _ ⟨b1, kp _ _ _ hHeld.2.1, kp _ _ _ hHeld.2.2.1, kp _ _ _ hHeld.2.2.2.1, kp _ _ _ hHeld.2.2.2.2.1, kp _ _ _ hHeld.2.2.2.2.2.1, kp _ _ _ hHeld.2.2.2.2.2.2.1, kp _ _ _ hHeld.2.2.2.2.2.2.2⟩ ?_; clear hHeld kp b1 hK; intro hHeld; (try simp only [Act.put, List.setIfInBounds_toArray, List.set_cons_zero, List.set_cons_succ])))
    refine seq_end ?_
    go_split_ands
    go_wp2
    all_goals
      go_ret
      exact ⟨rfl, by assumption⟩
set_option maxHeartbeats 2000000 in
theorem deedOk_fetch (d : M.Dd) (w : World) (hn : d.name.size ≤ maxLen) (hk : shV d = .iface 165 (feV d)) :
    Calls Tryz.prog 89 #[ddV d] w fun r w' => r = .returned (.bool ((M.nameOk d.name.data.toList && M.edOk d.ed) && decide ((⟨5, d.name, d.ed, ⟨#[]⟩, 0⟩ : M.Dd) = d))) ∧ Below w.heap.size w w' := by
  have b0 := (Below.refl w.heap.size w).alloc (Nat.le_refl _) (.cells (ddC d) 49)
  have h0 := holds_new w (ddC d) 49
  rcases h1 : (M.nameOk d.name.data.toList && M.edOk d.ed) with _ | _
  ·
    go_enter Tryz.func89, Tryz.ntmps89
    go_wp2_with fail
    refine (shapeOf_any d _).mono ?_
    rintro r w1 ⟨rfl, b1⟩
    rw [hk]
    replace h0 := h0.below b1
    replace b0 := next b0 b1
    obtain ⟨p0, p1, p2, p3, p4, p5, p6⟩ := h0.seven
    clear b1 h0
    go_wp2_with fail
    refine wp_region_seq (fun w' => Below w.heap.size w w' ∧ w'.cell? ⟨w.heap.size, 0, none⟩ = some (.int .i64 d.kind) ∧ w'.cell? ⟨w.heap.size, 1, none⟩ = some (.string d.name) ∧ w'.cell? ⟨w.heap.size, 2, none⟩ = some (.int .i64 d.ed.ma) ∧ w'.cell? ⟨w.heap.size, 3, none⟩ = some (.int .i64 d.ed.mi) ∧ w'.cell? ⟨w.heap.size, 4, none⟩ = some (.int .i64 d.ed.pa) ∧ w'.cell? ⟨w.heap.size, 5, none⟩ = some (.string d.page) ∧ w'.cell? ⟨w.heap.size, 6, none⟩ = some (.int .i64 d.who)) [(0, true), (1, false), (2, true), (3, true), (5, true), (4, false), (6, true), (7, true), (8, true)] (by kernel_rfl) (by kernel_rfl) (fun _ _ _ _ _ h => h) (by kernel_rfl) (by decide) ?_ ?_
    · ((try dsimp only); (repeat' apply And.intro) <;> first | assumption | (exact Below.drew (by assumption)) | (simp [go_sem]; done))
    clear p0 p1 p2 p3 p4 p5 p6
    intro hHeld
    repeat (first
      | (refine seq_reads (by simp only [List.getElem?_toArray, List.getElem?_cons_succ, List.getElem?_cons_zero]; first | done | rfl) (by rfl) ⟨_, fun w _ => deql_read (a := ⟨5, d.name, d.ed, ⟨#[]⟩, 0⟩) (b := d) rfl rfl rfl w, ?_⟩; (try simp only [Act.put, List.setIfInBounds_toArray, List.set_cons_zero, List.set_cons_succ]))
      | (refine seq_skip (by simp only [List.getElem?_toArray, List.getElem?_cons_succ, List.getElem?_cons_zero]; first | done | rfl) (by rfl) ?_; (try simp only [Act.put, List.setIfInBounds_toArray, List.set_cons_zero, List.set_cons_succ]))
      | (refine seq_reads (by simp only [List.getElem?_toArray, List.getElem?_cons_succ, List.getElem?_cons_zero]; first | done | rfl) (by rfl) ?_; apply Exists.intro; apply And.intro; (focus (intro w hSw; (try dsimp only at hSw); go_split_ands; go_simp; (try with_reducible rfl); done)); (try simp only [Act.put, List.setIfInBounds_toArray, List.set_cons_zero, List.set_cons_succ]))
      | (refine seq_pass (by simp only [List.getElem?_toArray, List.getElem?_cons_succ, List.getElem?_cons_zero]; first | done | rfl) (by rfl) hHeld ?_; clear hHeld; intro hHeld; (try simp only [Act.put, List.setIfInBounds_toArray, List.set_cons_zero, List.set_cons_succ]))
      | (refine seq_call (by simp only [List.getElem?_toArray, List.getElem?_cons_succ, List.getElem?_cons_zero]; first | done | rfl) (by rfl) (fun K hK => ?_); go_simp; go_at_call 109; refine (keeps (shapeOk_fetch d _ hn) (W0 := w) hHeld.1).mono ?_; rintro r w1 ⟨he, b1, kp⟩; rw [h1] at he; obtain rfl := he; go_simp; refine hK.out _ _ ⟨b1, kp _ _ _ hHeld.2.1, kp _ _ _ hHeld.2.2.1, kp _ _ _ hHeld.2.2.2.1, kp _ _ _ hHeld.2.2.2.2.1, kp _ _ _ hHeld.2.2.2.2.2.1, kp _ _ _ hHeld.2.2.2.2.2.2.1, kp _ _ _ hHeld.2.2.2.2.2.2.2⟩ ?_; clear hHeld kp b1 hK; intro hHeld; (try simp only [Act.put, List.setIfInBounds_toArray, List.set_cons_zero, List.set_cons_succ])))
    refine seq_end ?_
    go_split_ands
    go_wp2
    all_goals
      go_ret
      exact ⟨rfl, by assumption⟩
  ·
    go_enter Tryz.func89, Tryz.ntmps89
    go_wp2_with fail
    refine (shapeOf_any d _).mono ?_
    rintro r w1 ⟨rfl, b1⟩
    rw [hk]
    replace h0 := h0.below b1
    replace b0 := next b0 b1
    obtain ⟨p0, p1, p2, p3, p4, p5, p6⟩ := h0.seven
    clear b1 h0
    go_wp2_with fail
    refine wp_region_seq (fun w' => Below w.heap.size w w' ∧ w'.cell? ⟨w.heap.size, 0, none⟩ = some (.int .i64 d.kind) ∧ w'.cell? ⟨w.heap.size, 1, none⟩ = some (.string d.name) ∧ w'.cell? ⟨w.heap.size, 2, none⟩ = some (.int .i64 d.ed.ma) ∧ w'.cell? ⟨w.heap.size, 3, none⟩ = some (.int .i64 d.ed.mi) ∧ w'.cell? ⟨w.heap.size, 4, none⟩ = some (.int .i64 d.ed.pa) ∧ w'.cell? ⟨w.heap.size, 5, none⟩ = some (.string d.page) ∧ w'.cell? ⟨w.heap.size, 6, none⟩ = some (.int .i64 d.who)) [(0, true), (1, false), (2, true), (3, true), (5, true), (4, false), (6, true), (7, true), (8, true)] (by kernel_rfl) (by kernel_rfl) (fun _ _ _ _ _ h => h) (by kernel_rfl) (by decide) ?_ ?_
    · ((try dsimp only); (repeat' apply And.intro) <;> first | assumption | (exact Below.drew (by assumption)) | (simp [go_sem]; done))
    clear p0 p1 p2 p3 p4 p5 p6
    intro hHeld
    repeat (first
      | (refine seq_reads (by simp only [List.getElem?_toArray, List.getElem?_cons_succ, List.getElem?_cons_zero]; first | done | rfl) (by rfl) ⟨_, fun w _ => deql_read (a := ⟨5, d.name, d.ed, ⟨#[]⟩, 0⟩) (b := d) rfl rfl rfl w, ?_⟩; (try simp only [Act.put, List.setIfInBounds_toArray, List.set_cons_zero, List.set_cons_succ]))
      | (refine seq_skip (by simp only [List.getElem?_toArray, List.getElem?_cons_succ, List.getElem?_cons_zero]; first | done | rfl) (by rfl) ?_; (try simp only [Act.put, List.setIfInBounds_toArray, List.set_cons_zero, List.set_cons_succ]))
      | (refine seq_reads (by simp only [List.getElem?_toArray, List.getElem?_cons_succ, List.getElem?_cons_zero]; first | done | rfl) (by rfl) ?_; apply Exists.intro; apply And.intro; (focus (intro w hSw; (try dsimp only at hSw); go_split_ands; go_simp; (try with_reducible rfl); done)); (try simp only [Act.put, List.setIfInBounds_toArray, List.set_cons_zero, List.set_cons_succ]))
      | (refine seq_pass (by simp only [List.getElem?_toArray, List.getElem?_cons_succ, List.getElem?_cons_zero]; first | done | rfl) (by rfl) hHeld ?_; clear hHeld; intro hHeld; (try simp only [Act.put, List.setIfInBounds_toArray, List.set_cons_zero, List.set_cons_succ]))
      | (refine seq_call (by simp only [List.getElem?_toArray, List.getElem?_cons_succ, List.getElem?_cons_zero]; first | done | rfl) (by rfl) (fun K hK => ?_); go_simp; go_at_call 109; refine (keeps (shapeOk_fetch d _ hn) (W0 := w) hHeld.1).mono ?_; rintro r w1 ⟨he, b1, kp⟩; rw [h1] at he; obtain rfl := he; go_simp; refine hK.out _ _ ⟨b1, kp _ _ _ hHeld.2.1, kp _ _ _ hHeld.2.2.1, kp _ _ _ hHeld.2.2.2.1, kp _ _ _ hHeld.2.2.2.2.1, kp _ _ _ hHeld.2.2.2.2.2.1, kp _ _ _ hHeld.2.2.2.2.2.2.1, kp _ _ _ hHeld.2.2.2.2.2.2.2⟩ ?_; clear hHeld kp b1 hK; intro hHeld; (try simp only [Act.put, List.setIfInBounds_toArray, List.set_cons_zero, List.set_cons_succ]))
      | (refine seq_call (by simp only [List.getElem?_toArray, List.getElem?_cons_succ, List.getElem?_cons_zero]; first | done | rfl) (by rfl) (fun K hK => ?_); have hi2 := meth_fetch; go_simp; go_at_call 149; refine (keeps (deed_fetch d _) (W0 := w) hHeld.1).mono ?_; rintro r w1 ⟨rfl, b1, kp⟩; go_simp; refine hK.out _ _ ⟨b1, kp _ _ _ hHeld.2.1, kp _ _ _ hHeld.2.2.1, kp _ _ _ hHeld.2.2.2.1, kp _ _ _ hHeld.2.2.2.2.1, kp _ _ _ hHeld.2.2.2.2.2.1, kp _ _ _ hHeld.2.2.2.2.2.2.1, kp _ _ _ hHeld.2.2.2.2.2.2.2⟩ ?_; clear hHeld kp b1 hK; intro hHeld; (try simp only [Act.put, List.setIfInBounds_toArray, List.set_cons_zero, List.set_cons_succ])))
    refine seq_end ?_
    go_split_ands
    go_wp2
    all_goals
      go_ret
      exact ⟨rfl, by assumption⟩
set_option maxHeartbeats 2000000 in
theorem deedOk_give (d : M.Dd) (w : World) (hn : d.name.size ≤ maxLen) (hk : shV d = .iface 167 (giV d)) :
    Calls Tryz.prog 89 #[ddV d] w fun r w' => r = .returned (.bool ((M.nameOk d.name.data.toList && (M.inI d.who 0 3 && M.edOk ⟨d.ed.ma, 0, 0⟩)) && decide ((⟨6, d.name, ⟨d.ed.ma, 0, 0⟩, ⟨#[]⟩, d.who⟩ : M.Dd) = d))) ∧ Below w.heap.size w w' := by
  have b0 := (Below.refl w.heap.size w).alloc (Nat.le_refl _) (.cells (ddC d) 49)
  have h0 := holds_new w (ddC d) 49
  rcases h1 : (M.nameOk d.name.data.toList && (M.inI d.who 0 3 && M.edOk ⟨d.ed.ma, 0, 0⟩)) with _ | _
  ·
    go_enter Tryz.func89, Tryz.ntmps89
    go_wp2_with fail
    refine (shapeOf_any d _).mono ?_
    rintro r w1 ⟨rfl, b1⟩
    rw [hk]
    replace h0 := h0.below b1
    replace b0 := next b0 b1
    obtain ⟨p0, p1, p2, p3, p4, p5, p6⟩ := h0.seven
    clear b1 h0
    go_wp2_with fail
    refine wp_region_seq (fun w' => Below w.heap.size w w' ∧ w'.cell? ⟨w.heap.size, 0, none⟩ = some (.int .i64 d.kind) ∧ w'.cell? ⟨w.heap.size, 1, none⟩ = some (.string d.name) ∧ w'.cell? ⟨w.heap.size, 2, none⟩ = some (.int .i64 d.ed.ma) ∧ w'.cell? ⟨w.heap.size, 3, none⟩ = some (.int .i64 d.ed.mi) ∧ w'.cell? ⟨w.heap.size, 4, none⟩ = some (.int .i64 d.ed.pa) ∧ w'.cell? ⟨w.heap.size, 5, none⟩ = some (.string d.page) ∧ w'.cell? ⟨w.heap.size, 6, none⟩ = some (.int .i64 d.who)) [(0, true), (1, false), (2, true), (3, true), (5, true), (4, false), (6, true), (7, true), (8, true)] (by kernel_rfl) (by kernel_rfl) (fun _ _ _ _ _ h => h) (by kernel_rfl) (by decide) ?_ ?_
    · ((try dsimp only); (repeat' apply And.intro) <;> first | assumption | (exact Below.drew (by assumption)) | (simp [go_sem]; done))
    clear p0 p1 p2 p3 p4 p5 p6
    intro hHeld
    repeat (first
      | (refine seq_reads (by simp only [List.getElem?_toArray, List.getElem?_cons_succ, List.getElem?_cons_zero]; first | done | rfl) (by rfl) ⟨_, fun w _ => deql_read (a := ⟨6, d.name, ⟨d.ed.ma, 0, 0⟩, ⟨#[]⟩, d.who⟩) (b := d) rfl rfl rfl w, ?_⟩; (try simp only [Act.put, List.setIfInBounds_toArray, List.set_cons_zero, List.set_cons_succ]))
      | (refine seq_skip (by simp only [List.getElem?_toArray, List.getElem?_cons_succ, List.getElem?_cons_zero]; first | done | rfl) (by rfl) ?_; (try simp only [Act.put, List.setIfInBounds_toArray, List.set_cons_zero, List.set_cons_succ]))
      | (refine seq_reads (by simp only [List.getElem?_toArray, List.getElem?_cons_succ, List.getElem?_cons_zero]; first | done | rfl) (by rfl) ?_; apply Exists.intro; apply And.intro; (focus (intro w hSw; (try dsimp only at hSw); go_split_ands; go_simp; (try with_reducible rfl); done)); (try simp only [Act.put, List.setIfInBounds_toArray, List.set_cons_zero, List.set_cons_succ]))
      | (refine seq_pass (by simp only [List.getElem?_toArray, List.getElem?_cons_succ, List.getElem?_cons_zero]; first | done | rfl) (by rfl) hHeld ?_; clear hHeld; intro hHeld; (try simp only [Act.put, List.setIfInBounds_toArray, List.set_cons_zero, List.set_cons_succ]))
      | (refine seq_call (by simp only [List.getElem?_toArray, List.getElem?_cons_succ, List.getElem?_cons_zero]; first | done | rfl) (by rfl) (fun K hK => ?_); go_simp; go_at_call 109; refine (keeps (shapeOk_give d _ hn) (W0 := w) hHeld.1).mono ?_; rintro r w1 ⟨he, b1, kp⟩; rw [h1] at he; obtain rfl := he; go_simp; refine hK.out _ _ ⟨b1, kp _ _ _ hHeld.2.1, kp _ _ _ hHeld.2.2.1, kp _ _ _ hHeld.2.2.2.1, kp _ _ _ hHeld.2.2.2.2.1, kp _ _ _ hHeld.2.2.2.2.2.1, kp _ _ _ hHeld.2.2.2.2.2.2.1, kp _ _ _ hHeld.2.2.2.2.2.2.2⟩ ?_; clear hHeld kp b1 hK; intro hHeld; (try simp only [Act.put, List.setIfInBounds_toArray, List.set_cons_zero, List.set_cons_succ])))
    refine seq_end ?_
    go_split_ands
    go_wp2
    all_goals
      go_ret
      exact ⟨rfl, by assumption⟩
  ·
    go_enter Tryz.func89, Tryz.ntmps89
    go_wp2_with fail
    refine (shapeOf_any d _).mono ?_
    rintro r w1 ⟨rfl, b1⟩
    rw [hk]
    replace h0 := h0.below b1
    replace b0 := next b0 b1
    obtain ⟨p0, p1, p2, p3, p4, p5, p6⟩ := h0.seven
    clear b1 h0
    go_wp2_with fail
    refine wp_region_seq (fun w' => Below w.heap.size w w' ∧ w'.cell? ⟨w.heap.size, 0, none⟩ = some (.int .i64 d.kind) ∧ w'.cell? ⟨w.heap.size, 1, none⟩ = some (.string d.name) ∧ w'.cell? ⟨w.heap.size, 2, none⟩ = some (.int .i64 d.ed.ma) ∧ w'.cell? ⟨w.heap.size, 3, none⟩ = some (.int .i64 d.ed.mi) ∧ w'.cell? ⟨w.heap.size, 4, none⟩ = some (.int .i64 d.ed.pa) ∧ w'.cell? ⟨w.heap.size, 5, none⟩ = some (.string d.page) ∧ w'.cell? ⟨w.heap.size, 6, none⟩ = some (.int .i64 d.who)) [(0, true), (1, false), (2, true), (3, true), (5, true), (4, false), (6, true), (7, true), (8, true)] (by kernel_rfl) (by kernel_rfl) (fun _ _ _ _ _ h => h) (by kernel_rfl) (by decide) ?_ ?_
    · ((try dsimp only); (repeat' apply And.intro) <;> first | assumption | (exact Below.drew (by assumption)) | (simp [go_sem]; done))
    clear p0 p1 p2 p3 p4 p5 p6
    intro hHeld
    repeat (first
      | (refine seq_reads (by simp only [List.getElem?_toArray, List.getElem?_cons_succ, List.getElem?_cons_zero]; first | done | rfl) (by rfl) ⟨_, fun w _ => deql_read (a := ⟨6, d.name, ⟨d.ed.ma, 0, 0⟩, ⟨#[]⟩, d.who⟩) (b := d) rfl rfl rfl w, ?_⟩; (try simp only [Act.put, List.setIfInBounds_toArray, List.set_cons_zero, List.set_cons_succ]))
      | (refine seq_skip (by simp only [List.getElem?_toArray, List.getElem?_cons_succ, List.getElem?_cons_zero]; first | done | rfl) (by rfl) ?_; (try simp only [Act.put, List.setIfInBounds_toArray, List.set_cons_zero, List.set_cons_succ]))
      | (refine seq_reads (by simp only [List.getElem?_toArray, List.getElem?_cons_succ, List.getElem?_cons_zero]; first | done | rfl) (by rfl) ?_; apply Exists.intro; apply And.intro; (focus (intro w hSw; (try dsimp only at hSw); go_split_ands; go_simp; (try with_reducible rfl); done)); (try simp only [Act.put, List.setIfInBounds_toArray, List.set_cons_zero, List.set_cons_succ]))
      | (refine seq_pass (by simp only [List.getElem?_toArray, List.getElem?_cons_succ, List.getElem?_cons_zero]; first | done | rfl) (by rfl) hHeld ?_; clear hHeld; intro hHeld; (try simp only [Act.put, List.setIfInBounds_toArray, List.set_cons_zero, List.set_cons_succ]))
      | (refine seq_call (by simp only [List.getElem?_toArray, List.getElem?_cons_succ, List.getElem?_cons_zero]; first | done | rfl) (by rfl) (fun K hK => ?_); go_simp; go_at_call 109; refine (keeps (shapeOk_give d _ hn) (W0 := w) hHeld.1).mono ?_; rintro r w1 ⟨he, b1, kp⟩; rw [h1] at he; obtain rfl := he; go_simp; refine hK.out _ _ ⟨b1, kp _ _ _ hHeld.2.1, kp _ _ _ hHeld.2.2.1, kp _ _ _ hHeld.2.2.2.1, kp _ _ _ hHeld.2.2.2.2.1, kp _ _ _ hHeld.2.2.2.2.2.1, kp _ _ _ hHeld.2.2.2.2.2.2.1, kp _ _ _ hHeld.2.2.2.2.2.2.2⟩ ?_; clear hHeld kp b1 hK; intro hHeld; (try simp only [Act.put, List.setIfInBounds_toArray, List.set_cons_zero, List.set_cons_succ]))
      | (refine seq_call (by simp only [List.getElem?_toArray, List.getElem?_cons_succ, List.getElem?_cons_zero]; first | done | rfl) (by rfl) (fun K hK => ?_); have hi2 := meth_give; go_simp; go_at_call 150; refine (keeps (deed_give d _) (W0 := w) hHeld.1).mono ?_; rintro r w1 ⟨rfl, b1, kp⟩; go_simp; refine hK.out _ _ ⟨b1, kp _ _ _ hHeld.2.1, kp _ _ _ hHeld.2.2.1, kp _ _ _ hHeld.2.2.2.1, kp _ _ _ hHeld.2.2.2.2.1, kp _ _ _ hHeld.2.2.2.2.2.1, kp _ _ _ hHeld.2.2.2.2.2.2.1, kp _ _ _ hHeld.2.2.2.2.2.2.2⟩ ?_; clear hHeld kp b1 hK; intro hHeld; (try simp only [Act.put, List.setIfInBounds_toArray, List.set_cons_zero, List.set_cons_succ])))
    refine seq_end ?_
    go_split_ands
    go_wp2
    all_goals
      go_ret
      exact ⟨rfl, by assumption⟩

theorem inI3 (n : Int) : M.inI n 0 3 = true ↔ 0 ≤ n ∧ n ≤ 3 := by simp [M.inI]
theorem no_page {p : ByteArray} : p.size = 0 ↔ ⟨#[]⟩ = p := ⟨fun h => (M.size0 h).symm, fun h => by rw [← h]; rfl⟩
theorem ok_claim (d : M.Dd) (hk : d.kind = 1) : ((M.nameOk d.name.data.toList && M.inI d.who 0 3) && decide ((⟨1, d.name, ⟨0, 0, 0⟩, ⟨#[]⟩, d.who⟩ : M.Dd) = d)) = M.deedOk d := by
  rw [Bool.eq_iff_iff, M.deedOk_iff]
  simp only [Bool.and_eq_true, decide_eq_true_eq, dd_iff, inI3]
  constructor
  · rintro ⟨⟨h1, h2⟩, -, -, ⟨e1, e2, e3⟩, e4, -⟩
    have he : d.ed = M.zeroEd := by rw [M.ed_ext]; exact ⟨e1.symm, e2.symm, e3.symm⟩
    exact ⟨h1, by rw [he]; rfl, by rw [← e4]; rfl, h2, .inr (no_page.2 e4), .inl ⟨hk, he⟩⟩
  · rintro ⟨h1, -, -, h2, h3, h4⟩
    rcases h4 with ⟨-, h4⟩ | h4 | h4 | h4 | ⟨h4, -⟩ | ⟨h4, -⟩
    · rw [h4]
      exact ⟨⟨h1, h2⟩, hk.symm, trivial, ⟨rfl, rfl, rfl⟩, no_page.1 (h3.resolve_left (by omega)), trivial⟩
    all_goals omega
theorem ok_put (d : M.Dd) (hk : d.kind = 2) : ((M.nameOk d.name.data.toList && (M.edOk d.ed && (M.pageOk d.page.data.toList && M.inI d.who 0 3))) && decide ((⟨2, d.name, d.ed, d.page, d.who⟩ : M.Dd) = d)) = M.deedOk d := by
  rw [Bool.eq_iff_iff, M.deedOk_iff]
  simp only [Bool.and_eq_true, decide_eq_true_eq, dd_iff, inI3]
  constructor
  · rintro ⟨⟨h1, h2, h3, h4⟩, -⟩
    exact ⟨h1, h2, h3, h4, .inl hk, .inr (.inl hk)⟩
  · rintro ⟨h1, h2, h3, h4, -⟩
    exact ⟨⟨h1, h2, h3, h4⟩, hk.symm, trivial, ⟨trivial, trivial, trivial⟩, trivial, trivial⟩
theorem ok_veil (d : M.Dd) (b : Bool) (hk : d.kind = if b then 3 else 4) : ((M.nameOk d.name.data.toList && (M.edOk d.ed && M.inI d.who 0 3)) && decide ((⟨if b then 3 else 4, d.name, d.ed, ⟨#[]⟩, d.who⟩ : M.Dd) = d)) = M.deedOk d := by
  have hk' : d.kind = 3 ∨ d.kind = 4 := by cases b <;> simp [hk]
  rw [Bool.eq_iff_iff, M.deedOk_iff]
  simp only [Bool.and_eq_true, decide_eq_true_eq, dd_iff, inI3]
  constructor
  · rintro ⟨⟨h1, h2, h4⟩, -, -, -, e4, -⟩
    exact ⟨h1, h2, by rw [← e4]; rfl, h4, .inr (no_page.2 e4), by omega⟩
  · rintro ⟨h1, h2, h3, h4, h5, -⟩
    exact ⟨⟨h1, h2, h4⟩, hk.symm, trivial, ⟨trivial, trivial, trivial⟩, no_page.1 (h5.resolve_left (by omega)), trivial⟩
theorem ok_fetch (d : M.Dd) (hk : d.kind = 5) : ((M.nameOk d.name.data.toList && M.edOk d.ed) && decide ((⟨5, d.name, d.ed, ⟨#[]⟩, 0⟩ : M.Dd) = d)) = M.deedOk d := by
  rw [Bool.eq_iff_iff, M.deedOk_iff]
  simp only [Bool.and_eq_true, decide_eq_true_eq, dd_iff]
  constructor
  · rintro ⟨⟨h1, h2⟩, -, -, -, e4, e5⟩
    exact ⟨h1, h2, by rw [← e4]; rfl, by omega, .inr (no_page.2 e4), by omega⟩
  · rintro ⟨h1, h2, h3, h4, h5, h6⟩
    exact ⟨⟨h1, h2⟩, hk.symm, trivial, ⟨trivial, trivial, trivial⟩, no_page.1 (h5.resolve_left (by omega)), by omega⟩
theorem ok_give (d : M.Dd) (hk : d.kind = 6) : ((M.nameOk d.name.data.toList && (M.inI d.who 0 3 && M.edOk ⟨d.ed.ma, 0, 0⟩)) && decide ((⟨6, d.name, ⟨d.ed.ma, 0, 0⟩, ⟨#[]⟩, d.who⟩ : M.Dd) = d)) = M.deedOk d := by
  rw [Bool.eq_iff_iff, M.deedOk_iff]
  simp only [Bool.and_eq_true, decide_eq_true_eq, dd_iff, inI3]
  constructor
  · rintro ⟨⟨h1, h2, h3⟩, -, -, ⟨-, e2, e3⟩, e4, -⟩
    have he : d.ed = ⟨d.ed.ma, 0, 0⟩ := by rw [M.ed_ext]; exact ⟨rfl, e2.symm, e3.symm⟩
    exact ⟨h1, by rw [he]; exact h3, by rw [← e4]; rfl, h2, .inr (no_page.2 e4), by omega⟩
  · rintro ⟨h1, h2, h3, h4, h5, h6⟩
    have e : d.ed.mi = 0 ∧ d.ed.pa = 0 := by
      rcases h6 with ⟨h6, -⟩ | h6 | h6 | h6 | ⟨h6, -⟩ | ⟨-, h6⟩
      · omega
      · omega
      · omega
      · omega
      · omega
      · exact h6
    have he : d.ed = ⟨d.ed.ma, 0, 0⟩ := by rw [M.ed_ext]; exact ⟨rfl, e.1, e.2⟩
    exact ⟨⟨h1, h4, by rw [← he]; exact h2⟩, hk.symm, trivial, ⟨trivial, e.1.symm, e.2.symm⟩, no_page.1 (h5.resolve_left (by omega)), trivial⟩
theorem ok_none (d : M.Dd) (h : ¬ (1 ≤ d.kind ∧ d.kind ≤ 6)) : M.deedOk d = false := by
  rcases e : M.deedOk d with _ | _
  · rfl
  · obtain ⟨-, -, -, -, -, h6⟩ := (M.deedOk_iff d).1 e
    omega

theorem shapeOk_nil (w : World) : Calls Tryz.prog 109 #[.nilIface] w fun r w' => r = .returned (.bool false) ∧ Below w.heap.size w w' := by
  have as_cl := as_nil_cl
  have as_pu := as_nil_pu
  have as_ve := as_nil_ve
  have as_fe := as_nil_fe
  have as_gi := as_nil_gi
  go_enter Tryz.func109, Tryz.ntmps109
  go_wp2
  go_ret
  exact ⟨rfl, Below.refl _ _⟩
set_option maxHeartbeats 2000000 in
theorem deedOk_nil (d : M.Dd) (w : World) (hk : shV d = .nilIface) :
    Calls Tryz.prog 89 #[ddV d] w fun r w' => r = .returned (.bool false) ∧ Below w.heap.size w w' := by
  have b0 := (Below.refl w.heap.size w).alloc (Nat.le_refl _) (.cells (ddC d) 49)
  have h0 := holds_new w (ddC d) 49
  go_enter Tryz.func89, Tryz.ntmps89
  go_wp2_with fail
  refine (shapeOf_any d _).mono ?_
  rintro r w1 ⟨rfl, b1⟩
  rw [hk]
  replace h0 := h0.below b1
  replace b0 := next b0 b1
  obtain ⟨p0, p1, p2, p3, p4, p5, p6⟩ := h0.seven
  clear b1 h0
  go_wp2_with fail
  refine wp_region_seq (fun w' => Below w.heap.size w w' ∧ w'.cell? ⟨w.heap.size, 0, none⟩ = some (.int .i64 d.kind) ∧ w'.cell? ⟨w.heap.size, 1, none⟩ = some (.string d.name) ∧ w'.cell? ⟨w.heap.size, 2, none⟩ = some (.int .i64 d.ed.ma) ∧ w'.cell? ⟨w.heap.size, 3, none⟩ = some (.int .i64 d.ed.mi) ∧ w'.cell? ⟨w.heap.size, 4, none⟩ = some (.int .i64 d.ed.pa) ∧ w'.cell? ⟨w.heap.size, 5, none⟩ = some (.string d.page) ∧ w'.cell? ⟨w.heap.size, 6, none⟩ = some (.int .i64 d.who)) [(0, true), (1, false), (2, true), (3, true), (5, true), (4, false), (6, true), (7, true), (8, true)] (by kernel_rfl) (by kernel_rfl) (fun _ _ _ _ _ h => h) (by kernel_rfl) (by decide) ?_ ?_
  · ((try dsimp only); (repeat' apply And.intro) <;> first | assumption | (exact Below.drew (by assumption)) | (simp [go_sem]; done))
  clear p0 p1 p2 p3 p4 p5 p6
  intro hHeld
  repeat (first
    | (refine seq_skip (by simp only [List.getElem?_toArray, List.getElem?_cons_succ, List.getElem?_cons_zero]; first | done | rfl) (by rfl) ?_; (try simp only [Act.put, List.setIfInBounds_toArray, List.set_cons_zero, List.set_cons_succ]))
    | (refine seq_reads (by simp only [List.getElem?_toArray, List.getElem?_cons_succ, List.getElem?_cons_zero]; first | done | rfl) (by rfl) ?_; apply Exists.intro; apply And.intro; (focus (intro w hSw; (try dsimp only at hSw); go_split_ands; go_simp; (try with_reducible rfl); done)); (try simp only [Act.put, List.setIfInBounds_toArray, List.set_cons_zero, List.set_cons_succ]))
    | (refine seq_pass (by simp only [List.getElem?_toArray, List.getElem?_cons_succ, List.getElem?_cons_zero]; first | done | rfl) (by rfl) hHeld ?_; clear hHeld; intro hHeld; (try simp only [Act.put, List.setIfInBounds_toArray, List.set_cons_zero, List.set_cons_succ]))
    | (refine seq_call (by simp only [List.getElem?_toArray, List.getElem?_cons_succ, List.getElem?_cons_zero]; first | done | rfl) (by rfl) (fun K hK => ?_); go_simp; go_at_call 109; refine (keeps (shapeOk_nil _) (W0 := w) hHeld.1).mono ?_; rintro r w1 ⟨rfl, b1, kp⟩; go_simp; refine hK.out _ _ ⟨b1, kp _ _ _ hHeld.2.1, kp _ _ _ hHeld.2.2.1, kp _ _ _ hHeld.2.2.2.1, kp _ _ _ hHeld.2.2.2.2.1, kp _ _ _ hHeld.2.2.2.2.2.1, kp _ _ _ hHeld.2.2.2.2.2.2.1, kp _ _ _ hHeld.2.2.2.2.2.2.2⟩ ?_; clear hHeld kp b1 hK; intro hHeld; (try simp only [Act.put, List.setIfInBounds_toArray, List.set_cons_zero, List.set_cons_succ])))
  refine seq_end ?_
  go_split_ands
  go_wp2
  go_ret
  exact ⟨rfl, by assumption⟩

theorem implDeedOk (d : M.Dd) (w : World) (hn : d.name.size ≤ maxLen) (hp : d.page.size ≤ maxLen) :
    Calls Tryz.prog 89 #[ddV d] w fun r w' => r = .returned (.bool (M.deedOk d)) ∧ Below w.heap.size w w' := by
  by_cases h : 1 ≤ d.kind ∧ d.kind ≤ 6
  · have hk : d.kind = 1 ∨ d.kind = 2 ∨ d.kind = 3 ∨ d.kind = 4 ∨ d.kind = 5 ∨ d.kind = 6 := by omega
    rcases hk with hk | hk | hk | hk | hk | hk
    · rw [← ok_claim d hk]; exact deedOk_claim d w hn (by simp [shV, hk])
    · rw [← ok_put d hk]; exact deedOk_put d w hn hp (by simp [shV, hk])
    · rw [← ok_veil d true hk]; exact deedOk_veil d w hn true (by simp [shV, hk])
    · rw [← ok_veil d false hk]; exact deedOk_veil d w hn false (by simp [shV, hk])
    · rw [← ok_fetch d hk]; exact deedOk_fetch d w hn (by simp [shV, hk])
    · rw [← ok_give d hk]; exact deedOk_give d w hn (by simp [shV, hk])
  · rw [ok_none d h]
    refine deedOk_nil d w ?_
    unfold shV
    simp only [beq_iff_eq]
    rw [if_neg (by omega), if_neg (by omega), if_neg (by omega), if_neg (by omega), if_neg (by omega), if_neg (by omega)]
end Go.Proofs.YtdoeiphnalbinaaGreat
