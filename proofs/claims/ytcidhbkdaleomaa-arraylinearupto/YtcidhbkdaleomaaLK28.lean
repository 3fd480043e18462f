/-
  Contract: adjointref1.Cut. Contract: adjointref1.Cut of anything.
-/
import Derived.Test.YtcidhbkdaleomaaK11
import Derived.Deep.RegionHeldLaw
namespace Go.Proofs.Ytcidhbkdaleomaa.V
set_option maxRecDepth 20000
open Go.RowKit

end Go.Proofs.Ytcidhbkdaleomaa.V
namespace Go.Proofs.Ytcidhbkdaleomaa.V
set_option maxRecDepth 20000
open Go.RowKit

end Go.Proofs.Ytcidhbkdaleomaa.V
