/-
  Contract: array.dot.
-/
import Derived.Test.YtoagnhppjlcpkaaGreatQGArrLook
import Derived.Test.YtoagnhppjlcpkaaGreatQGLapse
import Derived.Test.YtoagnhppjlcpkaaGreatQGArrDoBad
namespace Go.Proofs.YtoagnhppjlcpkaaGreat.V
set_option maxRecDepth 20000
open Go.RowKit

end Go.Proofs.YtoagnhppjlcpkaaGreat.V

/-
  Contract: array.work of Dot, over what dot does.
-/
namespace Go.Proofs.YtoagnhppjlcpkaaGreat.V
set_option maxRecDepth 20000
open Go.RowKit

end Go.Proofs.YtoagnhppjlcpkaaGreat.V

/-
  Contract: array.landing: where the entries of what is summed or padded go.
-/
namespace Go.Proofs.YtoagnhppjlcpkaaGreat.V
set_option maxRecDepth 20000
open Go.RowKit

end Go.Proofs.YtoagnhppjlcpkaaGreat.V

/-
  Contract: array.work of Sum and Pad, over where entries land.
-/
namespace Go.Proofs.YtoagnhppjlcpkaaGreat.V
set_option maxRecDepth 20000
open Go.RowKit

theorem replicate_zero_at (n j : Nat) : (List.replicate n (0 : Int))[j]?.getD 0 = 0 := by
  by_cases h : j < n <;> simp [h]

end Go.Proofs.YtoagnhppjlcpkaaGreat.V
