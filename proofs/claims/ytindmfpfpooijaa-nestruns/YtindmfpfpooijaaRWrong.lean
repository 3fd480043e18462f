/-
  Contracts: adjointref1.Wrong, adjointlaw1.sameView.
-/
import Derived.Test.YtindmfpfpooijaaWrong
namespace Go.Proofs.Ytindmfpfpooijaa.V
open Go.RowKit

end Go.Proofs.Ytindmfpfpooijaa.V
