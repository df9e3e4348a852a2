/- Proved: the model's ReadDeed at some of the texts answers a plain Lean function; it writes nothing that was there. -/
import Derived.Test.YtiibklhalgookaaGreatDoorSpecReadB
import Derived.Test.YtiibklhalgookaaGreatDoorSpecReadC
namespace Go.Proofs.YtiibklhalgookaaGreatDoor
open Go.RowKit
set_option maxRecDepth 20000
set_option linter.unusedVariables false


theorem shape_none {x : List UInt8} {r : List (List UInt8)} (h3 : r.length = 2 → x ≠ M.wClaim ∧ x ≠ M.wFetch) (h4 : r.length = 3 → x ≠ M.wHide ∧ x ≠ M.wShow ∧ x ≠ M.wGive) (h5 : r.length = 4 → x ≠ M.wPut) : M.deedShape (x :: r) = none := by
  match r with
  | [] => rfl
  | [_] => rfl
  | [a, b] => simp [M.deedShape, h3 rfl]
  | [a, b, c] => simp [M.deedShape, h4 rfl]
  | [a, b, c, d] => simp [M.deedShape, h5 rfl]
  | _ :: _ :: _ :: _ :: _ :: _ => rfl
theorem read_none {l : List UInt8} {x : List UInt8} {r : List (List UInt8)} (hL : M.split 32 l = x :: r) (h : M.deedShape (x :: r) = none) : M.deedRead l = (M.zeroDd, false) := by
  unfold M.deedRead; rw [hL, h]
theorem read_some {l : List UInt8} {ws : List (List UInt8)} {d : M.Dd} {g : Bool} (hL : M.split 32 l = ws) (h : M.deedShape ws = some (d, g)) : M.deedRead l = if g && M.deedOk d then (d, true) else (M.zeroDd, false) := by
  unfold M.deedRead; rw [hL, h]

theorem specReadDeed (s : ByteArray) (w : World) (hs : s.size ≤ 1048576) :
    Calls Tryz.prog 9 #[.string s] w fun r w' => r = .returned (.tuple #[ddV (M.deedRead s.data.toList).1, .bool (M.deedRead s.data.toList).2]) ∧ Below w.heap.size w w' := by
  obtain ⟨xs, hL⟩ : ∃ xs : List ByteArray, M.split 32 s.data.toList = xs.map (·.data.toList) := ⟨(M.split 32 s.data.toList).map M.mkB, by rw [List.map_map]; exact (List.map_id _).symm⟩
  have hsz : ∀ x ∈ xs, x.size ≤ 1048576 := by
    intro x hx
    have := M.split_le 32 s.data.toList x.data.toList (by rw [hL]; exact List.mem_map_of_mem hx)
    rw [M.len0, M.len0] at this; omega
  match xs, hL, hsz with
  | [], hL, _ => exact absurd hL (M.split_ne 32 _)
  | X :: rs, hL, hsz =>
    by_cases e0 : X.data.toList = M.wClaim
    · have hk : kd X = 1 := by unfold kd; rw [if_pos e0]
      match rs, hL, hsz with
      | [A, B], hL, hsz =>
        exact specRead_claim s X A B w hs hL hk (hsz A (by simp)) (hsz B (by simp)) (read_some hL (by simp only [List.map_cons, List.map_nil, M.deedShape, e0, if_true]; rfl))
      | [], hL, _ =>
        exact specRead_wrong1 s X ([]) _ w hs hL hk rfl (by simp) (read_none hL (shape_none (fun h => by simp at h) (fun h => by simp at h) (fun h => by simp at h)))
      | [y0], hL, _ =>
        exact specRead_wrong1 s X ([y0]) _ w hs hL hk rfl (by simp) (read_none hL (shape_none (fun h => by simp at h) (fun h => by simp at h) (fun h => by simp at h)))
      | [y0, y1, y2], hL, _ =>
        exact specRead_wrong1 s X ([y0, y1, y2]) _ w hs hL hk rfl (by simp) (read_none hL (shape_none (fun h => by simp at h) (fun h => by simp only [e0]; decide) (fun h => by simp at h)))
      | [y0, y1, y2, y3], hL, _ =>
        exact specRead_wrong1 s X ([y0, y1, y2, y3]) _ w hs hL hk rfl (by simp) (read_none hL (shape_none (fun h => by simp at h) (fun h => by simp at h) (fun h => by simp only [e0]; decide)))
      | y0 :: y1 :: y2 :: y3 :: y4 :: ys, hL, _ =>
        exact specRead_wrong1 s X (y0 :: y1 :: y2 :: y3 :: y4 :: ys) _ w hs hL hk rfl (by simp) (read_none hL (shape_none (fun h => by simp at h) (fun h => by simp at h) (fun h => by simp at h)))
    by_cases e1 : X.data.toList = M.wPut
    · have hk : kd X = 2 := by unfold kd; rw [if_neg e0, if_pos e1]
      match rs, hL, hsz with
      | [A, B, C, E], hL, hsz =>
        exact specRead_put s X A B C E w hs hL hk (hsz A (by simp)) (hsz B (by simp)) (hsz C (by simp)) (hsz E (by simp)) (read_some hL (by simp only [List.map_cons, List.map_nil, M.deedShape, e1, if_true]; rfl))
      | [], hL, _ =>
        exact specRead_wrong2 s X ([]) _ w hs hL hk rfl (by simp) (read_none hL (shape_none (fun h => by simp at h) (fun h => by simp at h) (fun h => by simp at h)))
      | [y0], hL, _ =>
        exact specRead_wrong2 s X ([y0]) _ w hs hL hk rfl (by simp) (read_none hL (shape_none (fun h => by simp at h) (fun h => by simp at h) (fun h => by simp at h)))
      | [y0, y1], hL, _ =>
        exact specRead_wrong2 s X ([y0, y1]) _ w hs hL hk rfl (by simp) (read_none hL (shape_none (fun h => by simp only [e1]; decide) (fun h => by simp at h) (fun h => by simp at h)))
      | [y0, y1, y2], hL, _ =>
        exact specRead_wrong2 s X ([y0, y1, y2]) _ w hs hL hk rfl (by simp) (read_none hL (shape_none (fun h => by simp at h) (fun h => by simp only [e1]; decide) (fun h => by simp at h)))
      | y0 :: y1 :: y2 :: y3 :: y4 :: ys, hL, _ =>
        exact specRead_wrong2 s X (y0 :: y1 :: y2 :: y3 :: y4 :: ys) _ w hs hL hk rfl (by simp) (read_none hL (shape_none (fun h => by simp at h) (fun h => by simp at h) (fun h => by simp at h)))
    by_cases e2 : X.data.toList = M.wHide
    · have hk : kd X = 3 := by unfold kd; rw [if_neg e0, if_neg e1, if_pos e2]
      match rs, hL, hsz with
      | [A, B, C], hL, hsz =>
        exact specRead_hide s X A B C w hs hL hk (hsz A (by simp)) (hsz B (by simp)) (hsz C (by simp)) (read_some hL (by simp only [List.map_cons, List.map_nil, M.deedShape, e2, if_true]; rfl))
      | [], hL, _ =>
        exact specRead_wrong3 s X ([]) _ w hs hL hk rfl (by simp) (read_none hL (shape_none (fun h => by simp at h) (fun h => by simp at h) (fun h => by simp at h)))
      | [y0], hL, _ =>
        exact specRead_wrong3 s X ([y0]) _ w hs hL hk rfl (by simp) (read_none hL (shape_none (fun h => by simp at h) (fun h => by simp at h) (fun h => by simp at h)))
      | [y0, y1], hL, _ =>
        exact specRead_wrong3 s X ([y0, y1]) _ w hs hL hk rfl (by simp) (read_none hL (shape_none (fun h => by simp only [e2]; decide) (fun h => by simp at h) (fun h => by simp at h)))
      | [y0, y1, y2, y3], hL, _ =>
        exact specRead_wrong3 s X ([y0, y1, y2, y3]) _ w hs hL hk rfl (by simp) (read_none hL (shape_none (fun h => by simp at h) (fun h => by simp at h) (fun h => by simp only [e2]; decide)))
      | y0 :: y1 :: y2 :: y3 :: y4 :: ys, hL, _ =>
        exact specRead_wrong3 s X (y0 :: y1 :: y2 :: y3 :: y4 :: ys) _ w hs hL hk rfl (by simp) (read_none hL (shape_none (fun h => by simp at h) (fun h => by simp at h) (fun h => by simp at h)))
    by_cases e3 : X.data.toList = M.wShow
    · have hk : kd X = 4 := by unfold kd; rw [if_neg e0, if_neg e1, if_neg e2, if_pos e3]
      match rs, hL, hsz with
      | [A, B, C], hL, hsz =>
        exact specRead_show s X A B C w hs hL hk (hsz A (by simp)) (hsz B (by simp)) (hsz C (by simp)) (read_some hL (by simp only [List.map_cons, List.map_nil, M.deedShape, e3, if_true, if_neg (show M.wShow ≠ M.wHide by decide)]; rfl))
      | [], hL, _ =>
        exact specRead_wrong4 s X ([]) _ w hs hL hk rfl (by simp) (read_none hL (shape_none (fun h => by simp at h) (fun h => by simp at h) (fun h => by simp at h)))
      | [y0], hL, _ =>
        exact specRead_wrong4 s X ([y0]) _ w hs hL hk rfl (by simp) (read_none hL (shape_none (fun h => by simp at h) (fun h => by simp at h) (fun h => by simp at h)))
      | [y0, y1], hL, _ =>
        exact specRead_wrong4 s X ([y0, y1]) _ w hs hL hk rfl (by simp) (read_none hL (shape_none (fun h => by simp only [e3]; decide) (fun h => by simp at h) (fun h => by simp at h)))
      | [y0, y1, y2, y3], hL, _ =>
        exact specRead_wrong4 s X ([y0, y1, y2, y3]) _ w hs hL hk rfl (by simp) (read_none hL (shape_none (fun h => by simp at h) (fun h => by simp at h) (fun h => by simp only [e3]; decide)))
      | y0 :: y1 :: y2 :: y3 :: y4 :: ys, hL, _ =>
        exact specRead_wrong4 s X (y0 :: y1 :: y2 :: y3 :: y4 :: ys) _ w hs hL hk rfl (by simp) (read_none hL (shape_none (fun h => by simp at h) (fun h => by simp at h) (fun h => by simp at h)))
    by_cases e4 : X.data.toList = M.wFetch
    · have hk : kd X = 5 := by unfold kd; rw [if_neg e0, if_neg e1, if_neg e2, if_neg e3, if_pos e4]
      match rs, hL, hsz with
      | [A, B], hL, hsz =>
        exact specRead_fetch s X A B w hs hL hk (hsz A (by simp)) (hsz B (by simp)) (read_some hL (by simp only [List.map_cons, List.map_nil, M.deedShape, e4, if_true, if_neg (show M.wFetch ≠ M.wClaim by decide)]; rfl))
      | [], hL, _ =>
        exact specRead_wrong5 s X ([]) _ w hs hL hk rfl (by simp) (read_none hL (shape_none (fun h => by simp at h) (fun h => by simp at h) (fun h => by simp at h)))
      | [y0], hL, _ =>
        exact specRead_wrong5 s X ([y0]) _ w hs hL hk rfl (by simp) (read_none hL (shape_none (fun h => by simp at h) (fun h => by simp at h) (fun h => by simp at h)))
      | [y0, y1, y2], hL, _ =>
        exact specRead_wrong5 s X ([y0, y1, y2]) _ w hs hL hk rfl (by simp) (read_none hL (shape_none (fun h => by simp at h) (fun h => by simp only [e4]; decide) (fun h => by simp at h)))
      | [y0, y1, y2, y3], hL, _ =>
        exact specRead_wrong5 s X ([y0, y1, y2, y3]) _ w hs hL hk rfl (by simp) (read_none hL (shape_none (fun h => by simp at h) (fun h => by simp at h) (fun h => by simp only [e4]; decide)))
      | y0 :: y1 :: y2 :: y3 :: y4 :: ys, hL, _ =>
        exact specRead_wrong5 s X (y0 :: y1 :: y2 :: y3 :: y4 :: ys) _ w hs hL hk rfl (by simp) (read_none hL (shape_none (fun h => by simp at h) (fun h => by simp at h) (fun h => by simp at h)))
    by_cases e5 : X.data.toList = M.wGive
    · have hk : kd X = 6 := by unfold kd; rw [if_neg e0, if_neg e1, if_neg e2, if_neg e3, if_neg e4, if_pos e5]
      match rs, hL, hsz with
      | [A, B, C], hL, hsz =>
        exact specRead_give s X A B C w hs hL hk (hsz A (by simp)) (hsz B (by simp)) (hsz C (by simp)) (read_some hL (by simp only [List.map_cons, List.map_nil, M.deedShape, e5, if_true, if_neg (show M.wGive ≠ M.wHide by decide), if_neg (show M.wGive ≠ M.wShow by decide)]; rfl))
      | [], hL, _ =>
        exact specRead_wrong6 s X ([]) _ w hs hL hk rfl (by simp) (read_none hL (shape_none (fun h => by simp at h) (fun h => by simp at h) (fun h => by simp at h)))
      | [y0], hL, _ =>
        exact specRead_wrong6 s X ([y0]) _ w hs hL hk rfl (by simp) (read_none hL (shape_none (fun h => by simp at h) (fun h => by simp at h) (fun h => by simp at h)))
      | [y0, y1], hL, _ =>
        exact specRead_wrong6 s X ([y0, y1]) _ w hs hL hk rfl (by simp) (read_none hL (shape_none (fun h => by simp only [e5]; decide) (fun h => by simp at h) (fun h => by simp at h)))
      | [y0, y1, y2, y3], hL, _ =>
        exact specRead_wrong6 s X ([y0, y1, y2, y3]) _ w hs hL hk rfl (by simp) (read_none hL (shape_none (fun h => by simp at h) (fun h => by simp at h) (fun h => by simp only [e5]; decide)))
      | y0 :: y1 :: y2 :: y3 :: y4 :: ys, hL, _ =>
        exact specRead_wrong6 s X (y0 :: y1 :: y2 :: y3 :: y4 :: ys) _ w hs hL hk rfl (by simp) (read_none hL (shape_none (fun h => by simp at h) (fun h => by simp at h) (fun h => by simp at h)))
    have hk : kd X = 0 := by unfold kd; rw [if_neg e0, if_neg e1, if_neg e2, if_neg e3, if_neg e4, if_neg e5]
    exact specRead_wrong0 s X rs _ w hs hL hk rfl (by simp) (read_none hL (shape_none (fun _ => ⟨e0, e4⟩) (fun _ => ⟨e2, e3, e5⟩) (fun _ => e1)))
end Go.Proofs.YtiibklhalgookaaGreatDoor
