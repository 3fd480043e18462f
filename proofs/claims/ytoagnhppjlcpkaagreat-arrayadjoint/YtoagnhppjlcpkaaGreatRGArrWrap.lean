/-
  Sums and products that wrap round; array.count of anything.
-/
import Derived.Test.YtoagnhppjlcpkaaGreatRGArrSeen
import Derived.Test.YtoagnhppjlcpkaaGreatRGRReads
import Derived.Test.YtoagnhppjlcpkaaGreatRGArrWork
namespace Go.Proofs.YtoagnhppjlcpkaaGreat.V
set_option maxRecDepth 20000
open Go.RowKit

theorem w64 (n : Int) : wrap64 n = IntKind.i64.wrap n := by
  simp only [wrap64, IntKind.wrap, IntKind.bits, IntKind.signed]
  simp
  split <;> omega
theorem wrap_off (n : Int) : ∃ q : Int, IntKind.i64.wrap n = n + q * 18446744073709551616 := by
  simp only [IntKind.wrap, IntKind.bits, IntKind.signed]
  simp
  split
  · exact ⟨-(n / 18446744073709551616) - 1, by omega⟩
  · exact ⟨-(n / 18446744073709551616), by omega⟩
theorem wrap_plus (n q : Int) : IntKind.i64.wrap (n + q * 18446744073709551616) = IntKind.i64.wrap n := by
  simp only [IntKind.wrap, IntKind.bits, IntKind.signed]
  simp only [show ((2 : Int) ^ (64 : Nat)) = 18446744073709551616 from rfl, Int.add_mul_emod_self_right]
theorem wrap_addl (a b : Int) : IntKind.i64.wrap (IntKind.i64.wrap a + b) = IntKind.i64.wrap (a + b) := by
  obtain ⟨q, hq⟩ := wrap_off a
  rw [hq, show a + q * 18446744073709551616 + b = a + b + q * 18446744073709551616 by omega, wrap_plus]
theorem wrap_addr (a b : Int) : IntKind.i64.wrap (a + IntKind.i64.wrap b) = IntKind.i64.wrap (a + b) := by
  rw [Int.add_comm, wrap_addl, Int.add_comm]
theorem wrap_mull (a b : Int) : IntKind.i64.wrap (IntKind.i64.wrap a * b) = IntKind.i64.wrap (a * b) := by
  obtain ⟨q, hq⟩ := wrap_off a
  rw [hq, Int.add_mul, show q * 18446744073709551616 * b = (q * b) * 18446744073709551616 by rw [Int.mul_assoc, Int.mul_comm _ b, ← Int.mul_assoc], wrap_plus]
theorem wrap_mulr (a b : Int) : IntKind.i64.wrap (a * IntKind.i64.wrap b) = IntKind.i64.wrap (a * b) := by
  rw [Int.mul_comm, wrap_mull, Int.mul_comm]
end Go.Proofs.YtoagnhppjlcpkaaGreat.V

/-
  Products of matrices of numbers that wrap round.
-/
namespace Go.Proofs.YtoagnhppjlcpkaaGreat.V
set_option maxRecDepth 20000
open Go.RowKit

def sumN (f : Nat → Int) : Nat → Int
  | 0 => 0
  | k + 1 => sumN f k + f k
theorem sumN_ext {f g : Nat → Int} : ∀ k, (∀ j, j < k → f j = g j) → sumN f k = sumN g k
  | 0, _ => rfl
  | k + 1, h => by rw [sumN, sumN, sumN_ext k (fun j hj => h j (by omega)), h k (by omega)]
theorem sumN_add (f g : Nat → Int) : ∀ k, sumN (fun j => f j + g j) k = sumN f k + sumN g k
  | 0 => rfl
  | k + 1 => by rw [sumN, sumN, sumN, sumN_add f g k]; omega
theorem sumN_zero : ∀ k, sumN (fun _ => 0) k = 0
  | 0 => rfl
  | k + 1 => by rw [sumN, sumN_zero k]; rfl
theorem sumN_mull (f : Nat → Int) (c : Int) : ∀ k, c * sumN f k = sumN (fun j => c * f j) k
  | 0 => by simp [sumN]
  | k + 1 => by rw [sumN, sumN, Int.mul_add, sumN_mull f c k]
/-- Sums in either order. -/
theorem sumN_swap (f : Nat → Nat → Int) (m : Nat) : ∀ k, sumN (fun j => sumN (fun i => f i j) m) k = sumN (fun i => sumN (fun j => f i j) k) m
  | 0 => by simp only [sumN]; rw [sumN_zero]
  | k + 1 => by
    rw [sumN, sumN_swap f m k, ← sumN_add]
    exact sumN_ext m (fun j _ => by rw [sumN])
theorem wrap_sum {f g : Nat → Int} : ∀ k, (∀ j, j < k → IntKind.i64.wrap (f j) = IntKind.i64.wrap (g j)) → IntKind.i64.wrap (sumN f k) = IntKind.i64.wrap (sumN g k)
  | 0, _ => rfl
  | k + 1, h => by
    rw [sumN, sumN, ← wrap_addl, wrap_sum k (fun j hj => h j (by omega)), wrap_addl, ← wrap_addr, h k (by omega), wrap_addr]
theorem innS_sum (xs ys : List Int) : ∀ k, innS xs ys k = IntKind.i64.wrap (sumN (fun j => xs[j]?.getD 0 * ys[j]?.getD 0) k)
  | 0 => by simp [innS, sumN, wrap_in]
  | k + 1 => by rw [innS, innS_sum xs ys k, w64, w64, wrap_addl, wrap_addr, sumN]

end Go.Proofs.YtoagnhppjlcpkaaGreat.V

/-
  Arrays of numbers that wrap round are a ring.
-/
namespace Go.Proofs.YtoagnhppjlcpkaaGreat.V
set_option maxRecDepth 20000
open Go.RowKit

end Go.Proofs.YtoagnhppjlcpkaaGreat.V
