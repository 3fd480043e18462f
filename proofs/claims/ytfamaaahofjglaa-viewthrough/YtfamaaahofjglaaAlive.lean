/-
  Contract: adjointlaw1.alive.
-/
import Derived.Test.YtfamaaahofjglaaSize
namespace Go.Proofs.Ytfamaaahofjglaa.V
open Go.RowKit

set_option maxHeartbeats 400000 in
theorem alive_any (w : World) : Calls Try.prog 27 #[] w fun e w' => e = .returned (.bool true) ∧ Below w.heap.size w w' := by
  have hi : Ints (w.alloc (.cells #[.int .i64 2, .int .i64 3] 3)) (some ⟨w.heap.size, 0, none⟩) 2 [2, 3] := by
    refine ⟨rfl, by omega, by simp, .inr ⟨_, _, rfl, fun j hj => ?_⟩⟩
    match j, hj with
    | 0, _ => simp
    | 1, _ => simp
  have e1 : sizeN [2, 3] = 6 := by decide
  have e2 : sizeE [2, 3] = 0 := by decide
  have H := hide hi
  have E1 := hide e1
  have E2 := hide e2
  clear hi e1 e2
  go_enter Try.func27, Try.ntmps27
  go_wp2_with (go_at_call 29; refine (size_any _ _ _ [2, 3] _ H.out).mono ?_; rintro e w' ⟨rfl, rfl⟩; rw [E1.out, E2.out])
  go_ret
  exact ⟨rfl, (Below.refl _ _).alloc (Nat.le_refl _) _⟩
end Go.Proofs.Ytfamaaahofjglaa.V
