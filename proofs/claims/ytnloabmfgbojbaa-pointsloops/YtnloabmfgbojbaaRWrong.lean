/-
  Contracts: adjointref1.Wrong, adjointlaw1.sameView.
-/
import Derived.Test.YtnloabmfgbojbaaWrong
namespace Go.Proofs.Ytnloabmfgbojbaa.V
open Go.RowKit

end Go.Proofs.Ytnloabmfgbojbaa.V
