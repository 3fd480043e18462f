/-
  Contracts: slices.Index, IndexFunc, Contains, ContainsFunc as view.Size uses them; view.Size.
-/
import Derived.Test.YtjmeghicfiiclaaRows
import Derived.Test.YtjmeghicfiiclaaInts
import Derived.WalkKit
import Derived.BigQuiet
import Derived.Deep.QuietTactic
namespace Go.Proofs.Ytjmeghicfiiclaa.V
open Go.RowKit

theorem not_mem_take_succ {p : Int → Bool} (xs : List Int) (k : Nat) (h : k < xs.length) (hn : (xs.take k).any p = false) (hk : p (xs[k]?.getD 0) = false) : (xs.take (k + 1)).any p = false := by
  rw [take_succ_getD xs k h, List.any_append, hn]; simp [hk]
theorem any_of_getD {p : Int → Bool} (xs : List Int) (k : Nat) (h : k < xs.length) (hk : p (xs[k]?.getD 0) = true) : xs.any p = true := by
  rw [List.any_eq_true]; exact ⟨_, mem_getD xs k h, hk⟩
theorem take_all {xs : List Int} {k len : Nat} (hl : xs.length = len) (h : ¬ k < len) : xs.take k = xs := List.take_of_length_le (by omega)

theorem any_zero (xs : List Int) : xs.any (fun x => (0 : Int) == x) = decide ((0 : Int) ∈ xs) := by
  induction xs with
  | nil => simp
  | cons x r ih => simp only [List.any_cons, ih, List.mem_cons, Bool.decide_or]; rfl

end Go.Proofs.Ytjmeghicfiiclaa.V
