/-
  Contracts: view.beyond, view.Wrong, adjointref1.far, adjointref1.Wrong, adjointlaw1.sameView.
-/
import Derived.Test.YtindmfpfpooijaaRSize
import Derived.Test.YtindmfpfpooijaaSame
namespace Go.Proofs.Ytindmfpfpooijaa.V
open Go.RowKit

def farB (x : Int) : Bool := decide (x < -1099511627776) || decide (1099511627776 < x)
def beyondB (s : Int) (ss : List Int) : Bool := farB s || ss.any farB
def wrongE (s : Int) (ds ss : List Int) : Int := if sizeE ds ≠ 0 then sizeE ds else if ss.length ≠ ds.length then 6 else if beyondB s ss = true then 4 else 0

end Go.Proofs.Ytindmfpfpooijaa.V
