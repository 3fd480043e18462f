/-
  Contract: adjointref2.dotDims.
-/
import Derived.Test.YtcidhbkdaleomaaK26
namespace Go.Proofs.Ytcidhbkdaleomaa.V
set_option maxRecDepth 20000
open Go.RowKit

end Go.Proofs.Ytcidhbkdaleomaa.V
