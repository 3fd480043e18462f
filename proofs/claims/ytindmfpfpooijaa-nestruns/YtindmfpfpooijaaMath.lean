/-
  Places and indices go back and forth.
-/
import Derived.Test.YtindmfpfpooijaaIndex
namespace Go.Proofs.Ytindmfpfpooijaa.V

/-- The product from dimension k on. -/
def P (xs : List Int) (k : Nat) : Int := prod (xs.drop k)
theorem P_succ (xs : List Int) (k : Nat) (h : k < xs.length) : P xs k = xs[k]?.getD 0 * P xs (k + 1) := prod_drop xs k h
theorem P_pos {xs : List Int} (h : ∀ x ∈ xs, 1 ≤ x) (k : Nat) : 1 ≤ P xs k := (prod_drop_le xs h k).1
theorem P_end (xs : List Int) : P xs xs.length = 1 := by simp [P, prod]
theorem P_zero (xs : List Int) : P xs 0 = prod xs := by simp [P]
theorem beh_P (xs : List Int) (k : Nat) : beh xs k = P xs (k + 1) := rfl

theorem indexV_getD (xs : List Int) (p : Int) (k : Nat) (h : k < xs.length) : (indexV xs p)[k]?.getD 0 = idxV xs p k := by simp [indexV, h]
theorem indexV_length (xs : List Int) (p : Int) : (indexV xs p).length = xs.length := by simp [indexV]

theorem place_index_step {xs : List Int} {p : Int} (hg : ∀ x ∈ xs, 1 ≤ x) : ∀ k, k ≤ xs.length → placeS xs (indexV xs p) k = p / P xs k * P xs k - p / P xs 0 * P xs 0
  | 0, _ => by simp [placeS]
  | k + 1, h => by
    have hk : k < xs.length := by omega
    have h1 := P_pos hg k
    have h2 := P_pos hg (k + 1)
    have hx := hg _ (mem_getD xs k hk)
    have e := P_succ xs k hk
    rw [placeS, place_index_step hg k (by omega), indexV_getD xs p k hk, beh_P]
    unfold idxV
    rw [beh_P]
    have hdm := Int.emod_add_mul_ediv (p / P xs (k + 1)) (xs[k]?.getD 0)
    have hdd : p / P xs (k + 1) / xs[k]?.getD 0 = p / P xs k := by
      rw [Int.ediv_ediv_of_nonneg (by omega), e, Int.mul_comm]
    rw [hdd] at hdm
    have key : (p / P xs (k + 1) % xs[k]?.getD 0) * P xs (k + 1) = p / P xs (k + 1) * P xs (k + 1) - p / P xs k * P xs k := by
      have e2 : p / P xs (k + 1) % xs[k]?.getD 0 = p / P xs (k + 1) - xs[k]?.getD 0 * (p / P xs k) := by omega
      rw [e2, Int.sub_mul, e]
      congr 1
      rw [Int.mul_comm (xs[k]?.getD 0) (p / _), Int.mul_assoc]
    rw [key]; omega

theorem place_index {xs : List Int} {p : Int} (hg : ∀ x ∈ xs, 1 ≤ x) (h0 : 0 ≤ p) (h1 : p < prod xs) : placeS xs (indexV xs p) xs.length = p := by
  rw [place_index_step hg _ (Nat.le_refl _), P_end, P_zero, Int.ediv_eq_zero_of_lt h0 h1]; simp

theorem index_idxOk {xs : List Int} (p : Int) (hg : ∀ x ∈ xs, 1 ≤ x) : IdxOk xs (indexV xs p) := by
  intro k hk
  rw [indexV_getD xs p k hk]
  exact idxV_bd hg hk

theorem rest_bd {xs ys : List Int} (h : IdxOk xs ys) : ∀ d k, k + d = xs.length → 0 ≤ placeS xs ys xs.length - placeS xs ys k ∧ placeS xs ys xs.length - placeS xs ys k < P xs k := by
  intro d
  induction d with
  | zero =>
    intro k hk
    obtain rfl : k = xs.length := by omega
    rw [P_end]; omega
  | succ d ih =>
    intro k hk
    obtain ⟨i1, i2⟩ := ih (k + 1) (by omega)
    have hkl : k < xs.length := by omega
    have hg := idxOk_pos h
    have h2 := P_pos hg (k + 1)
    obtain ⟨j1, j2⟩ := h k hkl
    have e := P_succ xs k hkl
    rw [placeS, beh_P] at i1 i2
    have m1 : 0 ≤ ys[k]?.getD 0 * P xs (k + 1) := Int.mul_nonneg j1 (by omega)
    have m2 : ys[k]?.getD 0 * P xs (k + 1) ≤ (xs[k]?.getD 0 - 1) * P xs (k + 1) := Int.mul_le_mul_of_nonneg_right (by omega) (by omega)
    rw [Int.sub_mul, Int.one_mul] at m2
    rw [e]; omega

theorem head_div {xs ys : List Int} : ∀ k, k ≤ xs.length → ∃ c, placeS xs ys k = c * P xs k
  | 0, _ => ⟨0, by simp [placeS]⟩
  | k + 1, h => by
    obtain ⟨c, hc⟩ := head_div (xs := xs) (ys := ys) k (by omega)
    refine ⟨c * xs[k]?.getD 0 + ys[k]?.getD 0, ?_⟩
    rw [placeS, hc, beh_P, P_succ xs k (by omega), Int.add_mul, Int.mul_assoc]

theorem place_bd {xs ys : List Int} (h : IdxOk xs ys) : 0 ≤ placeS xs ys xs.length ∧ placeS xs ys xs.length < prod xs := by
  have := rest_bd h xs.length 0 (by omega)
  simpa [placeS, P_zero] using this

theorem index_place {xs ys : List Int} (h : IdxOk xs ys) (hl : ys.length = xs.length) : indexV xs (placeS xs ys xs.length) = ys := by
  apply List.ext_getElem
  · rw [indexV_length, hl]
  intro k h1 h2
  have hk : k < xs.length := by rw [indexV_length] at h1; exact h1
  have e1 : (indexV xs (placeS xs ys xs.length))[k] = idxV xs (placeS xs ys xs.length) k := by simp [indexV]
  rw [e1]
  have e2 : ys[k] = ys[k]?.getD 0 := by simp [h2]
  rw [e2]
  obtain ⟨c, hc⟩ := head_div (xs := xs) (ys := ys) k (by omega)
  obtain ⟨i1, i2⟩ := rest_bd h (xs.length - (k + 1)) (k + 1) (by omega)
  obtain ⟨j1, j2⟩ := h k hk
  have hp := P_pos (idxOk_pos h) (k + 1)
  have e := P_succ xs k hk
  have hs : placeS xs ys (k + 1) = (c * xs[k]?.getD 0 + ys[k]?.getD 0) * P xs (k + 1) := by
    rw [placeS, hc, beh_P, e, Int.add_mul, Int.mul_assoc]
  unfold idxV
  rw [beh_P]
  have hq : placeS xs ys xs.length / P xs (k + 1) = c * xs[k]?.getD 0 + ys[k]?.getD 0 := by
    have : placeS xs ys xs.length = (placeS xs ys xs.length - placeS xs ys (k + 1)) + (c * xs[k]?.getD 0 + ys[k]?.getD 0) * P xs (k + 1) := by rw [← hs]; omega
    rw [this, Int.add_mul_ediv_right _ _ (by omega), Int.ediv_eq_zero_of_lt i1 i2]; simp
  rw [hq, Int.add_comm, Int.add_mul_emod_self_right]
  exact Int.emod_eq_of_lt j1 j2
end Go.Proofs.Ytindmfpfpooijaa.V
