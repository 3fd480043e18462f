/-
  Sums and products that wrap round; array.count of anything.
-/
import Derived.Test.YtoagnhppjlcpkaaGreatQGArrSeen
import Derived.Test.YtoagnhppjlcpkaaGreatQGRReads
import Derived.Test.YtoagnhppjlcpkaaGreatQGArrWork
namespace Go.Proofs.YtoagnhppjlcpkaaGreat.V
set_option maxRecDepth 20000
open Go.RowKit

theorem w64 (n : Int) : wrap64 n = IntKind.i64.wrap n := by
  simp only [wrap64, IntKind.wrap, IntKind.bits, IntKind.signed]
  simp
  split <;> omega
end Go.Proofs.YtoagnhppjlcpkaaGreat.V

/-
  Products of matrices of numbers that wrap round.
-/
namespace Go.Proofs.YtoagnhppjlcpkaaGreat.V
set_option maxRecDepth 20000
open Go.RowKit

theorem row_div (i j r : Nat) (h : j < r) : (i * r + j) / r = i := by
  rw [Nat.mul_comm, Nat.mul_add_div (by omega), Nat.div_eq_of_lt h]; omega
theorem row_mod (i j r : Nat) (h : j < r) : (i * r + j) % r = j := by
  rw [Nat.mul_comm, Nat.mul_add_mod, Nat.mod_eq_of_lt h]
theorem row_lt {i j r p : Nat} (hi : i < p) (h : j < r) : i * r + j < p * r := by
  have : (i + 1) * r ≤ p * r := Nat.mul_le_mul_right _ hi
  rw [Nat.add_mul, Nat.one_mul] at this
  omega
end Go.Proofs.YtoagnhppjlcpkaaGreat.V

/-
  Arrays of numbers that wrap round are a ring.
-/
namespace Go.Proofs.YtoagnhppjlcpkaaGreat.V
set_option maxRecDepth 20000
open Go.RowKit

end Go.Proofs.YtoagnhppjlcpkaaGreat.V
