/-
  Contracts: adjointref1.Wrong, adjointlaw1.sameView.
-/
import Derived.Test.YtkahnodophgejaaWrong
namespace Go.Proofs.Ytkahnodophgejaa.V
open Go.RowKit

end Go.Proofs.Ytkahnodophgejaa.V
