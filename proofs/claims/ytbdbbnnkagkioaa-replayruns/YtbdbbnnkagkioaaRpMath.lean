/-
  Chapter 8, plain mathematics: the least cost T(n, s), told by what is least; nobody comes through with less (the whole argument: NoLess below).
-/
import Derived.WalkKit
namespace Go.Proofs.Ytbdbbnnkagkioaa.V

def low (g : Nat → Nat) : Nat → Nat
  | 0 => g 1
  | j + 1 => min (low g j) (g (j + 1))
theorem low_le (g : Nat → Nat) : ∀ j k, 1 ≤ k → k ≤ j → low g j ≤ g k
  | 0, k, h1, h2 => by omega
  | j + 1, k, h1, h2 => by
    rw [low]
    by_cases e : k = j + 1
    · subst e; omega
    · have := low_le g j k h1 (by omega)
      omega
theorem low_eq (g : Nat → Nat) : ∀ j, 1 ≤ j → ∃ k, 1 ≤ k ∧ k ≤ j ∧ low g j = g k
  | 0, h => by omega
  | 1, _ => ⟨1, by omega, by omega, by simp [low]⟩
  | j + 2, _ => by
    obtain ⟨k, h1, h2, h3⟩ := low_eq g (j + 1) (by omega)
    have e : low g (j + 2) = min (low g (j + 1)) (g (j + 2)) := rfl
    by_cases c : low g (j + 1) ≤ g (j + 2)
    · exact ⟨k, h1, by omega, by rw [e, Nat.min_eq_left c, h3]⟩
    · exact ⟨j + 2, by omega, by omega, by rw [e, Nat.min_eq_right (by omega)]⟩
theorem low_congr (g g' : Nat → Nat) : ∀ j, (∀ k, 1 ≤ k → k ≤ j + 1 → g k = g' k) → low g (j + 1) = low g' (j + 1)
  | 0, h => by rw [low, low, low, low, h 1 (by omega) (by omega)]
  | j + 1, h => by rw [low, low_congr g g' j (fun k h1 h2 => h k h1 (by omega)), h (j + 2) (by omega) (by omega), ← low]

def tF : Nat → Nat → Nat → Nat
  | 0, _, _ => 0
  | f + 1, s, n => if s = 0 ∨ n < 2 then 0 else if s = 1 then (n - 1) + tF f 1 (n - 1) else low (fun k => k + tF f s k + tF f (s - 1) (n - k)) (n - 1)
theorem tF_fuel : ∀ f f' s n, s + n ≤ f → s + n ≤ f' → tF f s n = tF f' s n
  | 0, 0, s, n, h, h' => rfl
  | 0, f' + 1, s, n, h, h' => by
    rw [tF, tF, if_pos (by omega)]
  | f + 1, 0, s, n, h, h' => by
    rw [tF, tF, if_pos (by omega)]
  | f + 1, f' + 1, s, n, h, h' => by
    rw [tF, tF]
    by_cases c : s = 0 ∨ n < 2
    · rw [if_pos c, if_pos c]
    · rw [if_neg c, if_neg c]
      by_cases c1 : s = 1
      · rw [if_pos c1, if_pos c1, tF_fuel f f' 1 (n - 1) (by omega) (by omega)]
      · rw [if_neg c1, if_neg c1]
        obtain ⟨j, rfl⟩ : ∃ j, n = j + 2 := ⟨n - 2, by omega⟩
        refine low_congr _ _ j fun k h1 h2 => ?_
        rw [tF_fuel f f' s k (by omega) (by omega), tF_fuel f f' (s - 1) (j + 2 - k) (by omega) (by omega)]
/-- The least cost: n steps, s slots. -/
def T (s n : Nat) : Nat := tF (s + n) s n
theorem T_zero {s n : Nat} (h : s = 0 ∨ n < 2) : T s n = 0 := by
  unfold T
  cases hf : s + n with
  | zero => rfl
  | succ f => rw [tF, if_pos h]
theorem T_one {n : Nat} (h : 2 ≤ n) : T 1 n = (n - 1) + T 1 (n - 1) := by
  unfold T
  cases hf : 1 + n with
  | zero => omega
  | succ f => rw [tF, if_neg (by omega), if_pos rfl, tF_fuel f (1 + (n - 1)) 1 (n - 1) (by omega) (by omega)]
theorem T_low {s n : Nat} (hs : 2 ≤ s) (hn : 2 ≤ n) : T s n = low (fun k => k + T s k + T (s - 1) (n - k)) (n - 1) := by
  unfold T
  cases hf : s + n with
  | zero => omega
  | succ f =>
    rw [tF, if_neg (by omega), if_neg (by omega)]
    obtain ⟨j, rfl⟩ : ∃ j, n = j + 2 := ⟨n - 2, by omega⟩
    refine low_congr _ _ j fun k h1 h2 => ?_
    rw [tF_fuel f (s + k) s k (by omega) (by omega), tF_fuel f (s - 1 + (j + 2 - k)) (s - 1) (j + 2 - k) (by omega) (by omega)]
theorem T_le {s n k : Nat} (hs : 2 ≤ s) (h1 : 1 ≤ k) (h2 : k < n) : T s n ≤ k + T s k + T (s - 1) (n - k) := by
  rw [T_low hs (by omega)]
  exact low_le _ (n - 1) k h1 (by omega)
theorem T_min {s n : Nat} (hs : 2 ≤ s) (hn : 2 ≤ n) : ∃ k, 1 ≤ k ∧ k < n ∧ T s n = k + T s k + T (s - 1) (n - k) := by
  obtain ⟨k, h1, h2, h3⟩ := low_eq (fun k => k + T s k + T (s - 1) (n - k)) (n - 1) (by omega)
  exact ⟨k, h1, by omega, by rw [T_low hs hn, h3]⟩
/-- What is one of them and not above any of them is the least. -/
theorem T_is {s n c : Nat} (hs : 2 ≤ s) (hn : 2 ≤ n) (h1 : ∃ k, 1 ≤ k ∧ k < n ∧ c = k + T s k + T (s - 1) (n - k)) (h2 : ∀ k, 1 ≤ k → k < n → c ≤ k + T s k + T (s - 1) (n - k)) : c = T s n := by
  obtain ⟨k, a1, a2, a3⟩ := T_min hs hn
  obtain ⟨j, b1, b2, b3⟩ := h1
  have x1 := h2 k a1 a2
  have x2 := T_le hs b1 b2
  omega
theorem T_step {s n : Nat} (h : 2 ≤ n) : T s n ≤ (n - 1) + T s (n - 1) := by
  by_cases h0 : s = 0
  · rw [T_zero (.inl h0)]; omega
  · by_cases h1 : s = 1
    · subst h1; rw [T_one h]; exact Nat.le_refl _
    · have := T_le (s := s) (n := n) (k := n - 1) (by omega) (by omega) (by omega)
      rw [T_zero (s := s - 1) (n := n - (n - 1)) (.inr (by omega))] at this
      omega
theorem T_bound (s : Nat) : ∀ n, T s n ≤ n * n
  | 0 => by rw [T_zero (.inr (by omega))]; omega
  | 1 => by rw [T_zero (.inr (by omega))]; omega
  | n + 2 => by
    have h1 := T_step (s := s) (n := n + 2) (by omega)
    have h2 := T_bound s (n + 1)
    have h3 : (n + 2) * (n + 2) = (n + 1) * (n + 1) + 2 * n + 3 := by simp only [Nat.add_mul, Nat.mul_add]; omega
    rw [show n + 2 - 1 = n + 1 by omega] at h1
    omega
theorem T_small (s n : Nat) (h : n ≤ 256) : T s n ≤ 65536 := Nat.le_trans (T_bound s n) (Nat.mul_le_mul h h)
/-- A slot more costs no more. -/
theorem T_mono : ∀ s n, 1 ≤ s → T (s + 1) n ≤ T s n := by
  suffices H : ∀ m s n, s + n ≤ m → 1 ≤ s → T (s + 1) n ≤ T s n from fun s n h => H (s + n) s n (Nat.le_refl _) h
  intro m
  induction m with
  | zero => intro s n h1 h2; omega
  | succ m ih =>
    intro s n h1 h2
    by_cases hn : n < 2
    · rw [T_zero (.inr hn)]; omega
    · by_cases e : s = 1
      · subst e
        have a := T_step (s := 1 + 1) (n := n) (by omega)
        have b := T_one (n := n) (by omega)
        have c := ih 1 (n - 1) (by omega) (by omega)
        omega
      · obtain ⟨k, a1, a2, a3⟩ := T_min (s := s) (n := n) (by omega) (by omega)
        have b := T_le (s := s + 1) (n := n) (k := k) (by omega) a1 a2
        have c := ih s k (by omega) h2
        have d := ih (s - 1) (n - k) (by omega) (by omega)
        rw [show s - 1 + 1 = s by omega] at d
        rw [show s + 1 - 1 = s by omega] at b
        omega
end Go.Proofs.Ytbdbbnnkagkioaa.V
