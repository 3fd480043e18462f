/-
  Contract: adjointref1.Steps. Contract: adjointref1.Next.
-/
import Derived.Test.YtoabffmiedbkkaaGreatRJ31
import Derived.Test.YtoabffmiedbkkaaGreatRJ2
import Derived.Maps.AppendAt
import Derived.Deep.LoopGhost
import Derived.Test.YtoabffmiedbkkaaGreatRJ30
namespace Go.Proofs.YtoabffmiedbkkaaGreat.V
set_option maxRecDepth 20000
open Go.RowKit

end Go.Proofs.YtoabffmiedbkkaaGreat.V
namespace Go.Proofs.YtoabffmiedbkkaaGreat.V
set_option maxRecDepth 20000
open Go.RowKit

end Go.Proofs.YtoabffmiedbkkaaGreat.V
