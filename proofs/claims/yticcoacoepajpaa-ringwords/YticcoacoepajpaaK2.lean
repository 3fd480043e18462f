/-
  Contracts: slices.Index, IndexFunc, Contains, ContainsFunc as view.Size uses them; view.Size. Contracts: adjointlaw1.same, adjointref1.has.
-/
import Derived.Test.YticcoacoepajpaaRows
import Derived.Test.YticcoacoepajpaaK1
import Derived.WalkKit
import Derived.BigQuiet
import Derived.Deep.QuietTactic
namespace Go.Proofs.Yticcoacoepajpaa.V
open Go.RowKit

theorem not_mem_take_succ {p : Int → Bool} (xs : List Int) (k : Nat) (h : k < xs.length) (hn : (xs.take k).any p = false) (hk : p (xs[k]?.getD 0) = false) : (xs.take (k + 1)).any p = false := by
  rw [take_succ_getD xs k h, List.any_append, hn]; simp [hk]
theorem any_of_getD {p : Int → Bool} (xs : List Int) (k : Nat) (h : k < xs.length) (hk : p (xs[k]?.getD 0) = true) : xs.any p = true := by
  rw [List.any_eq_true]; exact ⟨_, mem_getD xs k h, hk⟩
theorem take_all {xs : List Int} {k len : Nat} (hl : xs.length = len) (h : ¬ k < len) : xs.take k = xs := List.take_of_length_le (by omega)

theorem any_zero (xs : List Int) : xs.any (fun x => (0 : Int) == x) = decide ((0 : Int) ∈ xs) := by
  induction xs with
  | nil => simp
  | cons x r ih => simp only [List.any_cons, ih, List.mem_cons, Bool.decide_or]; rfl

end Go.Proofs.Yticcoacoepajpaa.V
namespace Go.Proofs.Yticcoacoepajpaa.V
open Go.RowKit

theorem below_drewN {w : World} (B : Nat) (n : Nat) : Below B w (w.drewN n) := ⟨rfl, rfl, rfl, Nat.le_refl _, fun _ _ => rfl⟩
/-- What is below holds on. -/
theorem Below.on {w w1 w2 : World} (h : Below w.heap.size w w1) (k : Below w1.heap.size w1 w2) : Below w.heap.size w w2 := h.trans (k.mono h.size)

theorem take_eq_succ {xs ys : List Int} {k : Nat} (h1 : k < xs.length) (h2 : k < ys.length) (h : xs.take k = ys.take k) (hk : xs[k]?.getD 0 = ys[k]?.getD 0) : xs.take (k + 1) = ys.take (k + 1) := by
  rw [take_succ_getD xs k h1, take_succ_getD ys k h2, h, hk]
theorem ne_of_getD {xs ys : List Int} {k : Nat} (hk : xs[k]?.getD 0 ≠ ys[k]?.getD 0) : xs ≠ ys := fun e => hk (by rw [e])

end Go.Proofs.Yticcoacoepajpaa.V
