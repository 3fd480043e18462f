/-
  Contracts: adjointlaw1.same, adjointref1.has.
-/
import Derived.Test.YtdiecplophahmaaSize
namespace Go.Proofs.Ytdiecplophahmaa.V
open Go.RowKit

theorem below_drewN {w : World} (B : Nat) (n : Nat) : Below B w (w.drewN n) := ⟨rfl, rfl, rfl, Nat.le_refl _, fun _ _ => rfl⟩
/-- What is below holds on. -/
theorem Below.on {w w1 w2 : World} (h : Below w.heap.size w w1) (k : Below w1.heap.size w1 w2) : Below w.heap.size w w2 := h.trans (k.mono h.size)

theorem take_eq_succ {xs ys : List Int} {k : Nat} (h1 : k < xs.length) (h2 : k < ys.length) (h : xs.take k = ys.take k) (hk : xs[k]?.getD 0 = ys[k]?.getD 0) : xs.take (k + 1) = ys.take (k + 1) := by
  rw [take_succ_getD xs k h1, take_succ_getD ys k h2, h, hk]
theorem ne_of_getD {xs ys : List Int} {k : Nat} (hk : xs[k]?.getD 0 ≠ ys[k]?.getD 0) : xs ≠ ys := fun e => hk (by rw [e])

end Go.Proofs.Ytdiecplophahmaa.V
