/-
  The cells of rows.
-/
import Derived.Test.YtoidgdbgpbcebaaK10
namespace Go.Proofs.Ytoidgdbgpbcebaa.V
open Go.RowKit
set_option linter.unusedVariables false

/-- The cells of rows. -/
def rowCs (us : Nat → RW) (l : Nat) : List Value := (List.range (l * 2)).map fun i => if i % 2 = 0 then .slice (us (i / 2)).ca (us (i / 2)).cl (us (i / 2)).cc else .int .i64 (us (i / 2)).con
theorem rowCs_len (us : Nat → RW) (l : Nat) : (rowCs us l).length = l * 2 := by simp [rowCs]
theorem rowCs_at (us : Nat → RW) (l j : Nat) (hj : j < l) : (rowCs us l)[j * 2]? = some (.slice (us j).ca (us j).cl (us j).cc) ∧ (rowCs us l)[j * 2 + 1]? = some (.int .i64 (us j).con) := by
  have e1 : j * 2 / 2 = j := by omega
  have e2 : (j * 2 + 1) / 2 = j := by omega
  have e3 : (j * 2 + 1) % 2 = 1 := by omega
  have h1 : j * 2 < l * 2 := by omega
  have h2 : j * 2 + 1 < l * 2 := by omega
  constructor
  · simp [rowCs, h1, e1]
  · simp [rowCs, h2, e2, e3]
end Go.Proofs.Ytoidgdbgpbcebaa.V
