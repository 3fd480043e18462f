/-
  Contract: array.landing: where the entries of what is summed or padded go. Contract: array.dot.
-/
import Derived.Test.YteoobeldmicjhaaGreatPRKArrayRows34
import Derived.Test.YteoobeldmicjhaaGreatPRKArrayRows36
import Derived.Deep.Cut
namespace Go.Proofs.YteoobeldmicjhaaGreat.V
set_option maxRecDepth 20000
open Go.RowKit
set_option linter.unusedVariables false

end Go.Proofs.YteoobeldmicjhaaGreat.V
namespace Go.Proofs.YteoobeldmicjhaaGreat.V
set_option maxRecDepth 20000
open Go.RowKit

end Go.Proofs.YteoobeldmicjhaaGreat.V
