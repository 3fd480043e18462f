/-
  Contract: adjointlaw3.sameTokens, of the same tokens.
-/
import Derived.Test.YtdpgbhenhealpaaDoorTxRef
namespace Go.Proofs.YtdpgbhenhealpaaDoor.V
set_option maxRecDepth 20000
open Go.RowKit

theorem below_drewN {B : Nat} {a w : World} (h : Below B a w) (n : Nat) : Below B a (w.drewN n) := ⟨h.os, h.tape, h.output, h.size, h.block⟩

end Go.Proofs.YtdpgbhenhealpaaDoor.V
