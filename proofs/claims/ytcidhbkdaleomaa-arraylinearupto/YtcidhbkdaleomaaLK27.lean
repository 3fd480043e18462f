/-
  Contract: adjointref2.padDims. Contract: adjointref2.joinDims.
-/
import Derived.Test.YtcidhbkdaleomaaK24
import Derived.Test.YtcidhbkdaleomaaK8
import Derived.Test.YtcidhbkdaleomaaK7
namespace Go.Proofs.Ytcidhbkdaleomaa.V
set_option maxRecDepth 20000
open Go.RowKit

end Go.Proofs.Ytcidhbkdaleomaa.V
namespace Go.Proofs.Ytcidhbkdaleomaa.V
set_option maxRecDepth 20000
open Go.RowKit

/-- A row with room behind it. -/
def RowC (w : World) (g c n : Nat) (xs : List Int) : Prop := ∃ f, w.rowIs g 3 c f ∧ ∀ j, j < n → f j = .int .i64 (xs[j]?.getD 0)
theorem RowC.below {w w' : World} {g c n : Nat} {xs : List Int} (h : RowC w g c n xs) (hb : Below w.heap.size w w') : RowC w' g c n xs := by
  obtain ⟨f, h1, h2⟩ := h
  exact ⟨f, h1.of_block (hb.block g h1.lt), h2⟩
theorem RowC.cell {w : World} {g c n : Nat} {xs : List Int} (h : RowC w g c n xs) (hn : n ≤ c) {j : Nat} (hj : j < n) : w.cell? ⟨g, j, none⟩ = some (.int .i64 (xs[j]?.getD 0)) := by
  obtain ⟨f, h1, h2⟩ := h
  have := h1.cell (show j < c by omega)
  rwa [h2 j hj] at this
theorem RowC.frozen {w : World} {g c n : Nat} {xs : List Int} (h : RowC w g c n xs) (j : Nat) : w.frozen? ⟨g, j, none⟩ = false := by
  obtain ⟨f, h1, h2⟩ := h
  exact h1.frozen j
theorem RowC.set {w : World} {g c n : Nat} {xs : List Int} (h : RowC w g c n xs) (p : Nat) (V' : Int) (hp : p < xs.length) : RowC (w.setCell ⟨g, p, none⟩ (.int .i64 V')) g c n (xs.set p V') := by
  obtain ⟨f, h1, h2⟩ := h
  refine ⟨_, h1.set p (.int .i64 V'), fun j hj => ?_⟩
  rw [set_getD xs p j V' hp]
  by_cases e : j = p
  · simp [e]
  · simp [e, h2 j hj]
theorem RowC.ints {w : World} {g c n : Nat} {xs : List Int} (h : RowC w g c n xs) (hn : n ≤ c) (hl : xs.length = n) (hm : n ≤ 9223372036854775807) (hb : ∀ x ∈ xs, -9223372036854775808 ≤ x ∧ x ≤ 9223372036854775807) : Ints w (some ⟨g, 0, none⟩) n xs :=
  ⟨hl, hm, hb, .inr ⟨g, 0, rfl, fun j hj => by rw [Nat.zero_add]; exact h.cell hn hj⟩⟩
end Go.Proofs.Ytcidhbkdaleomaa.V
