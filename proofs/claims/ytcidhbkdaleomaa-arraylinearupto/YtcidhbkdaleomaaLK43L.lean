/-
  Products of matrices of numbers that wrap round.
-/
import Derived.Test.YtcidhbkdaleomaaLK35L
import Derived.Test.YtcidhbkdaleomaaK14
namespace Go.Proofs.Ytcidhbkdaleomaa.V
set_option maxRecDepth 20000
open Go.RowKit

def sumN (f : Nat → Int) : Nat → Int
  | 0 => 0
  | k + 1 => sumN f k + f k
theorem sumN_ext {f g : Nat → Int} : ∀ k, (∀ j, j < k → f j = g j) → sumN f k = sumN g k
  | 0, _ => rfl
  | k + 1, h => by rw [sumN, sumN, sumN_ext k (fun j hj => h j (by omega)), h k (by omega)]
theorem sumN_add (f g : Nat → Int) : ∀ k, sumN (fun j => f j + g j) k = sumN f k + sumN g k
  | 0 => rfl
  | k + 1 => by rw [sumN, sumN, sumN, sumN_add f g k]; omega
theorem sumN_zero : ∀ k, sumN (fun _ => 0) k = 0
  | 0 => rfl
  | k + 1 => by rw [sumN, sumN_zero k]; rfl
theorem sumN_mulr (f : Nat → Int) (c : Int) : ∀ k, sumN f k * c = sumN (fun j => f j * c) k
  | 0 => by simp [sumN]
  | k + 1 => by rw [sumN, sumN, Int.add_mul, sumN_mulr f c k]
theorem sumN_mull (f : Nat → Int) (c : Int) : ∀ k, c * sumN f k = sumN (fun j => c * f j) k
  | 0 => by simp [sumN]
  | k + 1 => by rw [sumN, sumN, Int.mul_add, sumN_mull f c k]
/-- Sums in either order. -/
theorem sumN_swap (f : Nat → Nat → Int) (m : Nat) : ∀ k, sumN (fun j => sumN (fun i => f i j) m) k = sumN (fun i => sumN (fun j => f i j) k) m
  | 0 => by simp only [sumN]; rw [sumN_zero]
  | k + 1 => by
    rw [sumN, sumN_swap f m k, ← sumN_add]
    exact sumN_ext m (fun j _ => by rw [sumN])
theorem wrap_sum {f g : Nat → Int} : ∀ k, (∀ j, j < k → IntKind.i64.wrap (f j) = IntKind.i64.wrap (g j)) → IntKind.i64.wrap (sumN f k) = IntKind.i64.wrap (sumN g k)
  | 0, _ => rfl
  | k + 1, h => by
    rw [sumN, sumN, ← wrap_addl, wrap_sum k (fun j hj => h j (by omega)), wrap_addl, ← wrap_addr, h k (by omega), wrap_addr]
theorem innS_sum (xs ys : List Int) : ∀ k, innS xs ys k = IntKind.i64.wrap (sumN (fun j => xs[j]?.getD 0 * ys[j]?.getD 0) k)
  | 0 => by simp [innS, sumN, wrap_in]
  | k + 1 => by rw [innS, innS_sum xs ys k, w64, w64, wrap_addl, wrap_addr, sumN]

theorem pos_of_lt_mul {i a b : Nat} (h : i < a * b) : 0 < a ∧ 0 < b := by
  refine ⟨Nat.pos_of_ne_zero (fun e => ?_), Nat.pos_of_ne_zero (fun e => ?_)⟩
  · rw [e, Nat.zero_mul] at h; omega
  · rw [e, Nat.mul_zero] at h; omega
theorem row_div (i j r : Nat) (h : j < r) : (i * r + j) / r = i := by
  rw [Nat.mul_comm, Nat.mul_add_div (by omega), Nat.div_eq_of_lt h]; omega
theorem row_mod (i j r : Nat) (h : j < r) : (i * r + j) % r = j := by
  rw [Nat.mul_comm, Nat.mul_add_mod, Nat.mod_eq_of_lt h]
theorem row_lt {i j r p : Nat} (hi : i < p) (h : j < r) : i * r + j < p * r := by
  have : (i + 1) * r ≤ p * r := Nat.mul_le_mul_right _ hi
  rw [Nat.add_mul, Nat.one_mul] at this
  omega
theorem div_row {i p r : Nat} (h : i < p * r) : i / r < p := (Nat.div_lt_iff_lt_mul (pos_of_lt_mul h).2).2 h

end Go.Proofs.Ytcidhbkdaleomaa.V
