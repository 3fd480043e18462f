/-
  Griewank's binomials: the mathematics.
-/
import Derived.Test.YtdfpgpekilhelaaRpMath
namespace Go.Proofs.Ytdfpgpekilhelaa.V
set_option linter.unusedVariables false

/-- In how many ways k of n can be taken. -/
def bin : Nat → Nat → Nat
  | _, 0 => 1
  | 0, _ + 1 => 0
  | n + 1, k + 1 => bin n k + bin n (k + 1)
theorem bin_zero (n : Nat) : bin n 0 = 1 := by cases n <;> rfl
theorem bin_succ (n k : Nat) : bin (n + 1) (k + 1) = bin n k + bin n (k + 1) := rfl
theorem bin_big : ∀ n k, n < k → bin n k = 0
  | n, 0, h => by omega
  | 0, k + 1, h => rfl
  | n + 1, k + 1, h => by rw [bin_succ, bin_big n k (by omega), bin_big n (k + 1) (by omega)]
theorem bin_self : ∀ n, bin n n = 1
  | 0 => rfl
  | n + 1 => by rw [bin_succ, bin_self n, bin_big n (n + 1) (by omega)]
theorem bin_one : ∀ n, bin n 1 = n
  | 0 => rfl
  | n + 1 => by rw [bin_succ, bin_zero, bin_one n]; omega
theorem bin_pos : ∀ n k, k ≤ n → 1 ≤ bin n k
  | n, 0, _ => by rw [bin_zero]; omega
  | 0, k + 1, h => by omega
  | n + 1, k + 1, h => by rw [bin_succ]; have := bin_pos n k (by omega); omega
/-- C(s + r, s) ≥ r + 1 for s ≥ 1. -/
theorem bin_ge : ∀ (r s : Nat), 1 ≤ s → r + 1 ≤ bin (s + r) s
  | 0, s, h => by
    show 0 + 1 ≤ bin s s
    rw [bin_self]; omega
  | r + 1, s, h => by
    obtain ⟨t, rfl⟩ : ∃ t, s = t + 1 := ⟨s - 1, by omega⟩
    rw [show t + 1 + (r + 1) = (t + 1 + r) + 1 by omega, bin_succ]
    have h1 := bin_ge r (t + 1) h
    have h2 := bin_pos (t + 1 + r) t (by omega)
    omega
/-- C(s + r, s + 1) ≥ r. -/
theorem bin_up : ∀ (r s : Nat), r ≤ bin (s + r) (s + 1)
  | 0, s => by omega
  | r + 1, s => by
    rw [show s + (r + 1) = (s + r) + 1 by omega, bin_succ]
    have h1 := bin_up r s
    have h2 := bin_pos (s + r) s (by omega)
    omega
/-- C(a, b) ≤ (b + 1) C(a, b + 1) for b < a. -/
theorem bin_step : ∀ (a b : Nat), b < a → bin a b ≤ (b + 1) * bin a (b + 1)
  | 0, b, h => by omega
  | a + 1, 0, h => by rw [bin_zero, bin_one]; omega
  | a + 1, b + 1, h => by
    rw [bin_succ, bin_succ a (b + 1)]
    have h1 := bin_step a b (by omega)
    by_cases e : b + 1 = a
    · subst e
      rw [bin_self, bin_big (b + 1) (b + 1 + 1) (by omega)]
      have : bin (b + 1) b ≤ (b + 1) * 1 := by rw [bin_self] at h1; exact h1
      omega
    · have h2 := bin_step a (b + 1) (by omega)
      have e1 : (b + 1 + 1) * (bin a (b + 1) + bin a (b + 1 + 1)) = (b + 1) * bin a (b + 1) + bin a (b + 1) + (b + 1 + 1) * bin a (b + 1 + 1) := by
        rw [Nat.mul_add, Nat.add_mul (b + 1) 1, Nat.one_mul]
      omega

/-- The value, as far as r tells: r n - C(s + r, s + 1). -/
def gw (s r n : Nat) : Int := (r : Int) * n - (bin (s + r) (s + 1) : Nat)
theorem gw_split {s r n k : Nat} (h : k ≤ n) : gw (s + 1) (r + 1) n = k + gw (s + 1) r k + gw s (r + 1) (n - k) := by
  unfold gw
  have e : bin (s + 1 + (r + 1)) (s + 1 + 1) = bin (s + 1 + r) (s + 1) + bin (s + 1 + r) (s + 1 + 1) := by
    rw [show s + 1 + (r + 1) = (s + 1 + r) + 1 by omega, bin_succ]
  rw [e, show s + (r + 1) = s + 1 + r by omega]
  obtain ⟨m, rfl⟩ : ∃ m, n = k + m := ⟨n - k, by omega⟩
  rw [show k + m - k = m by omega]
  simp only [Int.natCast_add, Int.cast_ofNat_Int, Int.add_mul, Int.mul_add, Int.one_mul]
  omega
/-- Never less. -/
theorem gw_le : ∀ (d s n r : Nat), s + n ≤ d → (1 ≤ s ∨ n ≤ 1) → gw s r n ≤ (T s n : Nat)
  | d, s, 0, r, hd, h => by unfold gw; rw [T_zero (.inr (by omega))]; simp
  | d, s, 1, r, hd, h => by
    unfold gw
    rw [T_zero (.inr (by omega))]
    have := bin_up r s
    simp
    omega
  | 0, s, n + 2, r, hd, h => by omega
  | d + 1, s, n + 2, 0, hd, h => by
    unfold gw
    rw [show s + 0 = s from rfl, bin_big s (s + 1) (by omega)]
    simp
  | d + 1, s, n + 2, r + 1, hd, h => by
    obtain ⟨t, rfl⟩ : ∃ t, s = t + 1 := ⟨s - 1, by omega⟩
    by_cases e : t = 0
    · subst e
      rw [gw_split (k := n + 1) (by omega), show n + 2 - (n + 1) = 1 by omega]
      have h1 := gw_le d 1 (n + 1) r (by omega) (.inl (by omega))
      have h2 := gw_le d 0 1 (r + 1) (by omega) (.inr (by omega))
      rw [T_zero (s := 0) (.inl rfl)] at h2
      have h3 := T_one (n := n + 2) (by omega)
      rw [show n + 2 - 1 = n + 1 by omega] at h3
      simp only [Nat.zero_add] at *
      omega
    · obtain ⟨k, k1, k2, k3⟩ := T_min (s := t + 1) (n := n + 2) (by omega) (by omega)
      rw [gw_split (k := k) (by omega)]
      have h1 := gw_le d (t + 1) k r (by omega) (.inl (by omega))
      have h2 := gw_le d t (n + 2 - k) (r + 1) (by omega) (by omega)
      rw [show t + 1 - 1 = t by omega] at k3
      omega
/-- And reached, where r is as it should be. -/
theorem gw_ge : ∀ (d s n r : Nat), s + n ≤ d → 1 ≤ n → (1 ≤ r → bin (s + r - 1) s ≤ n) → n ≤ bin (s + r) s → ((T s n : Nat) : Int) ≤ gw s r n
  | d, s, 0, r, hd, h, h1, h2 => by omega
  | d, s, 1, r, hd, h, h1, h2 => by
    rw [T_zero (.inr (by omega))]
    unfold gw
    have hr : s = 0 ∨ r ≤ 1 := by
      by_cases e : s = 0
      · exact .inl e
      · right
        by_cases c : r ≤ 1
        · exact c
        · have a1 := h1 (by omega)
          have a2 := bin_ge (r - 1) s (by omega)
          rw [show s + (r - 1) = s + r - 1 by omega] at a2
          omega
    rcases hr with e | e
    · subst e
      rw [Nat.zero_add, Nat.zero_add, bin_one]
      simp
    · have hr : r = 0 ∨ r = 1 := by omega
      rcases hr with rfl | rfl
      · rw [Nat.add_zero, bin_big s (s + 1) (by omega)]; simp
      · rw [bin_self]; simp
  | 0, s, n + 2, r, hd, h, h1, h2 => by omega
  | d + 1, s, n + 2, 0, hd, h, h1, h2 => by rw [show s + 0 = s from rfl, bin_self] at h2; omega
  | d + 1, 0, n + 2, r + 1, hd, h, h1, h2 => by rw [bin_zero] at h2; omega
  | d + 1, t + 1, n + 2, r + 1, hd, h, h1, h2 => by
    have a1 := h1 (by omega)
    rw [show t + 1 + (r + 1) - 1 = t + 1 + r by omega] at a1
    rw [show t + 1 + (r + 1) = (t + 1 + r) + 1 by omega, bin_succ] at h2
    -- k steps first
    obtain ⟨k, k1, k2, k3, k4, k5, k6⟩ : ∃ k, 1 ≤ k ∧ k < n + 2 ∧ k ≤ bin (t + 1 + r) (t + 1) ∧ n + 2 - k ≤ bin (t + 1 + r) t ∧ (1 ≤ r → bin (t + 1 + r - 1) (t + 1) ≤ k) ∧ bin (t + r) t ≤ n + 2 - k := by
      have b1 := bin_pos (t + 1 + r) (t + 1) (by omega)
      have b2 := bin_pos (t + r) t (by omega)
      have b4 := bin_pos (t + 1 + r) t (by omega)
      by_cases hr : r = 0
      · subst hr
        rw [Nat.add_zero, bin_self] at *
        exact ⟨1, by omega, by omega, by omega, by omega, fun h => by omega, by rw [Nat.add_zero, bin_self]; omega⟩
      · obtain ⟨q, rfl⟩ : ∃ q, r = q + 1 := ⟨r - 1, by omega⟩
        have e1 : bin (t + 1 + (q + 1)) (t + 1) = bin (t + (q + 1)) t + bin (t + (q + 1)) (t + 1) := by rw [show t + 1 + (q + 1) = (t + (q + 1)) + 1 by omega, bin_succ]
        have b3 := bin_pos (t + (q + 1)) (t + 1) (by omega)
        have e2 : bin (t + 1 + (q + 1)) t = bin (t + 1 + (q + 1)) t := rfl
        by_cases c : n + 2 - bin (t + 1 + (q + 1)) t ≤ bin (t + (q + 1)) (t + 1)
        · refine ⟨bin (t + (q + 1)) (t + 1), b3, by omega, by omega, by omega, fun _ => ?_, by omega⟩
          rw [show t + 1 + (q + 1) - 1 = t + (q + 1) by omega]
          exact Nat.le_refl _
        · have b5 : bin (t + (q + 1)) t ≤ bin (t + 1 + (q + 1)) t := by
            rw [show t + 1 + (q + 1) = (t + (q + 1)) + 1 by omega]
            cases t with
            | zero => rw [bin_zero, bin_zero]; omega
            | succ u => rw [bin_succ]; omega
          refine ⟨n + 2 - bin (t + 1 + (q + 1)) t, by omega, by omega, by omega, by omega, fun _ => ?_, by omega⟩
          rw [show t + 1 + (q + 1) - 1 = t + (q + 1) by omega]
          omega
    rw [gw_split (k := k) (by omega)]
    have g1 := gw_ge d (t + 1) k r (by omega) k1 k5 k3
    have g2 := gw_ge d t (n + 2 - k) (r + 1) (by omega) (by omega) (fun _ => by rw [show t + (r + 1) - 1 = t + r by omega]; exact k6) (by rw [show t + (r + 1) = t + 1 + r by omega]; exact k4)
    by_cases e : t = 0
    · subst e
      rw [bin_zero] at k4
      have ek : k = n + 1 := by omega
      have h3 := T_one (n := n + 2) (by omega)
      rw [show n + 2 - 1 = n + 1 by omega] at h3
      subst ek
      simp only [Nat.zero_add] at *
      rw [T_zero (s := 0) (.inl rfl)] at g2
      omega
    · have h3 := T_le (s := t + 1) (n := n + 2) (k := k) (by omega) k1 k2
      rw [show t + 1 - 1 = t by omega] at h3
      omega
/-- GRIEWANK. -/
theorem T_bin {s n r : Nat} (hs : 1 ≤ s) (hn : 1 ≤ n) (h1 : 1 ≤ r → bin (s + r - 1) s < n) (h2 : n ≤ bin (s + r) s) : ((T s n : Nat) : Int) = (r : Int) * n - (bin (s + r) (s + 1) : Nat) := by
  have a := gw_le (s + n) s n r (Nat.le_refl _) (.inl hs)
  have b := gw_ge (s + n) s n r (Nat.le_refl _) hn (fun h => by have := h1 h; omega) h2
  unfold gw at a b
  omega
end Go.Proofs.Ytdfpgpekilhelaa.V
