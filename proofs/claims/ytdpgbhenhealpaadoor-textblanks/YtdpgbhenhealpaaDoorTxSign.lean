/-
  Contract: adjointref3.sign.
-/
import Derived.Test.YtdpgbhenhealpaaDoorTxNum
namespace Go.Proofs.YtdpgbhenhealpaaDoor.V
set_option maxRecDepth 20000
open Go.RowKit

/-- The tokens that are no words. -/
def marksL : List Int := [40, 41, 91, 93, 123, 125, 44, 58, 61, 43, 45, 42, 59]
def markI (c : Int) : Bool := marksL.any fun m => m == c
theorem mark_succ {c : Int} {k : Nat} (hk : k < 13) (h : (marksL.take k).any (fun m => m == c) = false) (hm : (marksL[k]?.getD 0 == c) = false) : (marksL.take (k + 1)).any (fun m => m == c) = false := by
  rw [take_succ_at marksL k hk, List.any_append, h]; simp [hm]
theorem mark_yes {c : Int} {k : Nat} (hk : k < 13) (hm : (marksL[k]?.getD 0 == c) = true) : markI c = true := by
  unfold markI
  rw [List.any_eq_true]
  exact ⟨marksL[k]'hk, List.getElem_mem hk, by rw [List.getElem?_eq_getElem hk] at hm; exact hm⟩

end Go.Proofs.YtdpgbhenhealpaaDoor.V
