/-
  Contract: adjointref1.Kept.
-/
import Derived.Test.YtdhkglafpjcdhaaGCut
namespace Go.Proofs.Ytdhkglafpjcdhaa.V
open Go.RowKit

theorem kept_eq {l h t : Int} {k : Nat} (h1 : h ≤ l + k * t) (h2 : (k = 0 ∧ l ≤ h) ∨ l + k * t - t < h) (ht : 1 ≤ t) : keptN l h t = (k : Int) := by
  unfold keptN
  have e : h - l + t - 1 = (h - l + t - 1 - k * t) + t * k := by rw [Int.mul_comm t]; omega
  have hr : 0 ≤ h - l + t - 1 - k * t ∧ h - l + t - 1 - k * t < t := by
    refine ⟨?_, by omega⟩
    rcases h2 with ⟨rfl, h2⟩ | h2
    · simp; omega
    · omega
  rw [e, Int.add_mul_ediv_left _ _ (by omega), Int.ediv_eq_zero_of_lt hr.1 hr.2]
  omega

end Go.Proofs.Ytdhkglafpjcdhaa.V
