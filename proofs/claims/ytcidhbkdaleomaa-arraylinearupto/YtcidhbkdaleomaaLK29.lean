/-
  Contract: adjointref2.viewDims.
-/
import Derived.Test.YtcidhbkdaleomaaK23
import Derived.Test.YtcidhbkdaleomaaK11
import Derived.Test.YtcidhbkdaleomaaK14
import Derived.Test.YtcidhbkdaleomaaLK28
import Derived.Test.YtcidhbkdaleomaaK9
namespace Go.Proofs.Ytcidhbkdaleomaa.V
set_option maxRecDepth 20000
open Go.RowKit

end Go.Proofs.Ytcidhbkdaleomaa.V
