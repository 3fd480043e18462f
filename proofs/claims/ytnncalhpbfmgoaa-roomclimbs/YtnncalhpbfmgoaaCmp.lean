/-
  Contracts: cmp.Compare, cmp.Or at ints.
-/
import Derived.Test.YtnncalhpbfmgoaaOwn
namespace Go.Proofs.Ytnncalhpbfmgoaa.V
open Go.RowKit
set_option linter.unusedVariables false

set_option maxRecDepth 100000 in
theorem nan_any (x : Int) (w : World) : Calls Try.prog 53 #[.int .i64 x] w fun e w' => e = .returned (.bool false) ∧ w' = w := by
  have q : (x != x) = false := by simp
  go_enter Try.func53, Try.ntmps53
  go_wp2
  go_ret
  exact ⟨rfl, rfl⟩
def cmpI (x y : Int) : Int := if x < y then -1 else if y < x then 1 else 0
set_option maxRecDepth 100000 in
theorem cmp_any (x y : Int) (w : World) : Calls Try.prog 39 #[.int .i64 x, .int .i64 y] w fun e w' => e = .returned (.int .i64 (cmpI x y)) ∧ w' = w := by
  have H1 := hide (nan_any x w)
  have H2 := hide (nan_any y w)
  unfold cmpI
  by_cases c1 : x < y
  · rw [if_pos c1]
    go_enter Try.func39, Try.ntmps39
    go_wp2_with (first | (go_at_call 53; first | (refine H1.out.mono ?_; rintro e w1 ⟨rfl, hw⟩; obtain rfl := hw.symm) | (refine H2.out.mono ?_; rintro e w1 ⟨rfl, hw⟩; obtain rfl := hw.symm)))
    go_ret
    exact ⟨rfl, rfl⟩
  · rw [if_neg c1]
    by_cases c2 : y < x
    · rw [if_pos c2]
      go_enter Try.func39, Try.ntmps39
      go_wp2_with (first | (go_at_call 53; first | (refine H1.out.mono ?_; rintro e w1 ⟨rfl, hw⟩; obtain rfl := hw.symm) | (refine H2.out.mono ?_; rintro e w1 ⟨rfl, hw⟩; obtain rfl := hw.symm)))
      go_ret
      exact ⟨rfl, rfl⟩
    · rw [if_neg c2]
      go_enter Try.func39, Try.ntmps39
      go_wp2_with (first | (go_at_call 53; first | (refine H1.out.mono ?_; rintro e w1 ⟨rfl, hw⟩; obtain rfl := hw.symm) | (refine H2.out.mono ?_; rintro e w1 ⟨rfl, hw⟩; obtain rfl := hw.symm)))
      go_ret
      exact ⟨rfl, rfl⟩
end Go.Proofs.Ytnncalhpbfmgoaa.V
