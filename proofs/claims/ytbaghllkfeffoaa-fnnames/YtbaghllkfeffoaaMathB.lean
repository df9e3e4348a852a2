/- Proved: a text made plain once more is the same, and a name is plain already; no program is named here; no condition. -/
import Derived.Test.YtbaghllkfeffoaaMath
namespace Go.Proofs.Ytbaghllkfeffoaa
namespace M
theorem plainI_idem (n : Int) : plainI (plainI n) = plainI n := by
  unfold plainI; split
  · rw [if_neg (by omega), if_neg (by omega)]
  · split
    · rw [if_neg (by omega), if_neg (by omega)]
    · rfl
theorem plainB_idem (c : UInt8) : plainB (plainB c) = plainB c := by
  apply UInt8.toNat_inj.1
  have h1 := plainB_toNat (plainB c)
  have h2 := plainB_toNat c
  rw [h2, plainI_idem] at h1
  omega
theorem plain_idem (l : List UInt8) : plain (plain l) = plain l := by
  unfold plain; rw [List.map_map]; apply List.map_congr_left; intro c _; exact plainB_idem c
theorem plainB_small {c : UInt8} (h : small c = true) : plainB c = c := by
  apply UInt8.toNat_inj.1
  have h2 := plainB_toNat c
  unfold small smallI at h
  simp at h
  unfold plainI at h2
  rw [if_neg (by omega), if_neg (by omega)] at h2
  omega
theorem plainB_dash {c : UInt8} (h : c.toNat = 45) : plainB c = c := by
  apply UInt8.toNat_inj.1
  have h2 := plainB_toNat c
  unfold plainI at h2
  rw [if_neg (by omega), if_neg (by omega)] at h2
  omega
theorem nm_plain : ∀ (l : List UInt8) (b : Bool), nm b l = true → plain l = l
  | [], _, _ => rfl
  | c :: r, false, h => by
    simp [nm] at h
    have := nm_plain r true h.2
    simp only [plain, List.map_cons] at this ⊢
    rw [plainB_small h.1, this]
  | c :: r, true, h => by
    by_cases e : c.toNat = 45
    · simp [nm, e] at h
      have := nm_plain r false h
      simp only [plain, List.map_cons] at this ⊢
      rw [plainB_dash e, this]
    · simp [nm, e] at h
      have := nm_plain r true h.2
      simp only [plain, List.map_cons] at this ⊢
      rw [plainB_small h.1, this]
theorem name_plain (l : List UInt8) (h : nameOk l = true) : plain l = l := by
  unfold nameOk at h; simp at h; exact nm_plain l false h.2
end M
end Go.Proofs.Ytbaghllkfeffoaa
