/-
  Contract: adjointref1.Steps.
-/
import Derived.Test.YticcoacoepajpaaPK17
import Derived.Test.YticcoacoepajpaaPK2
import Derived.Maps.AppendAt
import Derived.Deep.LoopGhost
namespace Go.Proofs.Yticcoacoepajpaa.V
open Go.RowKit

theorem ints_of_own {w : World} {B : Nat} {t : TypeId} {g k c : Nat} {xs : List Int} (h : w.ownsRow B t 1 (.slice (some ⟨g, 0, none⟩) k c) k (xs.map (Value.int .i64))) (hl : xs.length = k) (hm : k ≤ 9223372036854775807)
    (hb : ∀ x ∈ xs, -9223372036854775808 ≤ x ∧ x ≤ 9223372036854775807) : Ints w (some ⟨g, 0, none⟩) k xs := by
  refine ⟨hl, hm, hb, .inr ⟨g, 0, rfl, fun j hj => ?_⟩⟩
  have := h.cellAt j (by omega)
  rw [Nat.zero_add, this]
  simp [hl, hj]
end Go.Proofs.Yticcoacoepajpaa.V
