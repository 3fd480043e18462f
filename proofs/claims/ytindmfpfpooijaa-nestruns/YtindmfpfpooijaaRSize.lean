/-
  Contract: adjointref1.Size.
-/
import Derived.Test.YtindmfpfpooijaaSize
namespace Go.Proofs.Ytindmfpfpooijaa.V
open Go.RowKit

theorem any_take_succ {p : Int → Bool} (xs : List Int) (k : Nat) (h : k < xs.length) : (xs.take (k + 1)).any p = ((xs.take k).any p || p (xs[k]?.getD 0)) := by
  rw [take_succ_getD xs k h, List.any_append]; simp

end Go.Proofs.Ytindmfpfpooijaa.V
