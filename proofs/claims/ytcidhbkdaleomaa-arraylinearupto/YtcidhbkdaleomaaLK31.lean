/-
  Contract: adjointref2.ruled, by kind. Contract: adjointref2.ruled, by kind. Contract: adjointref2.ruled, by kind. Contract: adjointref2.ruled, by kind. Contract: adjointref2.ruled, by kind. Contract: adjointref2.ruled, by kind. Contract: adjointref2.ruled, by kind.
-/
import Derived.Test.YtcidhbkdaleomaaLK29
import Derived.Test.YtcidhbkdaleomaaK24
import Derived.Test.YtcidhbkdaleomaaLK27
import Derived.Test.YtcidhbkdaleomaaLK30
namespace Go.Proofs.Ytcidhbkdaleomaa.V
set_option maxRecDepth 20000
open Go.RowKit

end Go.Proofs.Ytcidhbkdaleomaa.V
namespace Go.Proofs.Ytcidhbkdaleomaa.V
set_option maxRecDepth 20000
open Go.RowKit

end Go.Proofs.Ytcidhbkdaleomaa.V
namespace Go.Proofs.Ytcidhbkdaleomaa.V
set_option maxRecDepth 20000
open Go.RowKit

end Go.Proofs.Ytcidhbkdaleomaa.V
namespace Go.Proofs.Ytcidhbkdaleomaa.V
set_option maxRecDepth 20000
open Go.RowKit

end Go.Proofs.Ytcidhbkdaleomaa.V
namespace Go.Proofs.Ytcidhbkdaleomaa.V
set_option maxRecDepth 20000
open Go.RowKit

end Go.Proofs.Ytcidhbkdaleomaa.V
namespace Go.Proofs.Ytcidhbkdaleomaa.V
set_option maxRecDepth 20000
open Go.RowKit

end Go.Proofs.Ytcidhbkdaleomaa.V
namespace Go.Proofs.Ytcidhbkdaleomaa.V
set_option maxRecDepth 20000
open Go.RowKit

end Go.Proofs.Ytcidhbkdaleomaa.V
