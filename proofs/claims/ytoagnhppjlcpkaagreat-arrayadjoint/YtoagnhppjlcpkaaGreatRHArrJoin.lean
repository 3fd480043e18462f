/-
  Contract: array.joinDims.
-/
import Derived.Test.YtoagnhppjlcpkaaGreatRGArrTake
import Derived.Test.YtoagnhppjlcpkaaGreatRGRTurn
namespace Go.Proofs.YtoagnhppjlcpkaaGreat.V
set_option maxRecDepth 20000
open Go.RowKit

theorem mem_getDL (xss : List (List Int)) (j : Nat) (h : j < xss.length) : xss[j]?.getD [] ∈ xss := by simp [h]
theorem set_getD (ds : List Int) (p j : Nat) (V : Int) (h : p < ds.length) : (ds.set p V)[j]?.getD 0 = if j = p then V else ds[j]?.getD 0 := by
  rw [List.getElem?_set]
  by_cases e : j = p
  · subst e; simp [h]
  · have : ¬ p = j := fun hh => e hh.symm
    simp [e, this]
end Go.Proofs.YtoagnhppjlcpkaaGreat.V
