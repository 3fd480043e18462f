/-
  Contracts: adjointref1.Wrong, adjointlaw1.sameView.
-/
import Derived.Test.YtmefgejggpimeaaWrong
namespace Go.Proofs.Ytmefgejggpimeaa.V
open Go.RowKit

end Go.Proofs.Ytmefgejggpimeaa.V
