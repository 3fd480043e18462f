/-
  A team's play to its end. What a team's members have in the end.
-/
import Derived.Test.YticcoacoepajpaaPK22
namespace Go.Proofs.Yticcoacoepajpaa.V
open Go Go.RowKit
set_option linter.unusedVariables false
set_option linter.unusedSimpArgs false

theorem play_len (d n : Nat) : ∀ (a : List Stp) (P : Pl), (playM d n P a).2.length = a.length
  | [], P => rfl
  | q :: a, P => by unfold playM; simp [play_len d n a]
end Go.Proofs.Yticcoacoepajpaa.V
namespace Go.Proofs.Yticcoacoepajpaa.V
open Go Go.RowKit
set_option linter.unusedVariables false
set_option linter.unusedSimpArgs false
set_option synthInstance.maxHeartbeats 400000
set_option synthInstance.maxSize 2000

end Go.Proofs.Yticcoacoepajpaa.V
