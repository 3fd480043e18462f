/-
  Contract: adjointref1.Spread.
-/
import Derived.Test.YtdhkglafpjcdhaaGSpread
namespace Go.Proofs.Ytdhkglafpjcdhaa.V
open Go.RowKit

end Go.Proofs.Ytdhkglafpjcdhaa.V

/-
  Contract: Spread of anything.
-/
namespace Go.Proofs.Ytdhkglafpjcdhaa.V
open Go.RowKit

end Go.Proofs.Ytdhkglafpjcdhaa.V
