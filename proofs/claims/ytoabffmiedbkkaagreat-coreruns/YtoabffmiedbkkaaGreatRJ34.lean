/-
  Contracts: view.rises, adjointref1.Rising; sums over rising lists.
-/
import Derived.Test.YtoabffmiedbkkaaGreatRJ31
namespace Go.Proofs.YtoabffmiedbkkaaGreat.V
set_option maxRecDepth 20000
open Go.RowKit

end Go.Proofs.YtoabffmiedbkkaaGreat.V
