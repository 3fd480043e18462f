/-
  Contract: adjointref2.entry, of Take.
-/
import Derived.Test.YteoobeldmicjhaaGreatPCKArrayCuts28
import Derived.Test.YteoobeldmicjhaaGreatPCKArrayCuts36
import Derived.Test.YteoobeldmicjhaaGreatPCKArrayCuts20
import Derived.Test.YteoobeldmicjhaaGreatPCKArrayCuts2
namespace Go.Proofs.YteoobeldmicjhaaGreat.V
set_option maxRecDepth 20000
open Go.RowKit

/-- A list. -/
def fLst (xs : List Int) : Fact := ⟨fun v w => ∃ X n c, v = .slice X n c ∧ Lst w X n c xs, false⟩
theorem fLst_good (xs : List Int) : (fLst xs).Good := ⟨fun _ _ _ ⟨X, n, c, h1, h2⟩ hb => ⟨X, n, c, h1, h2.below hb⟩, fun h => by cases h⟩

end Go.Proofs.YteoobeldmicjhaaGreat.V
