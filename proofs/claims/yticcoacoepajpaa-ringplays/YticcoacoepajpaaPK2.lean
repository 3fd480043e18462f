/-
  Contracts: slices.Index, IndexFunc, Contains, ContainsFunc as view.Size uses them; view.Size. Contracts: adjointlaw1.same, adjointref1.has.
-/
import Derived.Test.YticcoacoepajpaaRows
import Derived.Test.YticcoacoepajpaaPK1
import Derived.WalkKit
import Derived.BigQuiet
import Derived.Deep.QuietTactic
namespace Go.Proofs.Yticcoacoepajpaa.V
open Go.RowKit

end Go.Proofs.Yticcoacoepajpaa.V
namespace Go.Proofs.Yticcoacoepajpaa.V
open Go.RowKit

/-- What is below holds on. -/
theorem Below.on {w w1 w2 : World} (h : Below w.heap.size w w1) (k : Below w1.heap.size w1 w2) : Below w.heap.size w w2 := h.trans (k.mono h.size)

end Go.Proofs.Yticcoacoepajpaa.V
