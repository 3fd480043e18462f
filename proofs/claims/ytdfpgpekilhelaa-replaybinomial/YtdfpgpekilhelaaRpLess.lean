/-
  Contract: adjointlaw8.alive; the law ReplayNoLess.
-/
import Derived.Test.YtdfpgpekilhelaaRpMoves
import Derived.Test.YtdfpgpekilhelaaRpNoLess
namespace Go.Proofs.Ytdfpgpekilhelaa.V
open Go.RowKit
set_option linter.unusedVariables false

theorem T_three : T 1 3 = 3 := by
  rw [T_one (by omega), show 3 - 1 = 2 by rfl, T_one (by omega), T_zero (.inr (by omega))]
set_option maxHeartbeats 1000000 in
theorem alive_any (w : World) :
    Calls Try.prog 13 #[] w fun e w' => e = .returned (.bool true) ∧ Below w.heap.size w w' := by
  have e1 : leastN 3 1 = 3 := by
    have : wrongN 3 1 = 0 := by decide
    simp [leastN, this, T_three]
  have e2 : wrongN 3 1 = 0 := by decide
  go_enter Try.func13, Try.ntmps13
  go_wp2_with (go_at_call 8; refine (Least_any 3 1 _).mono ?_; rintro e w1 ⟨rfl, hb⟩; rw [e1, e2]; have HB1 := hide hb; clear hb)
  go_ret
  exact ⟨rfl, HB1.out⟩

/-- What is played to its end costs at least what Least says. -/
theorem playN_less {n s : Int} {ms : List (Int × Int)} (h : (playN n s ms).2 = 0) : wrongN n s = 0 ∧ leastN n s ≤ (playN n s ms).1 := by
  unfold playN at h ⊢
  by_cases c : 0 ≤ n ∧ n ≤ 256 ∧ 0 ≤ s ∧ s ≤ 16
  · rw [if_pos c] at h ⊢
    obtain ⟨h1, h2⟩ := no_less n.toNat s.toNat ms _ (Prod.ext rfl h)
    have e : wrongN n s = 0 := by
      have q : okB n s = true := (okB_of n s).2 c
      unfold wrongN
      rw [if_neg (by simp [q]), if_neg (by omega)]
    refine ⟨e, ?_⟩
    rw [leastN, if_pos e]
    exact h2
  · rw [if_neg c] at h
    simp at h

set_option maxHeartbeats 1000000 in
theorem replayNoLess_walk (n s : Int) (a : Option Addr) (len cap : Nat) (ms : List (Int × Int)) (w : World) (h : Moves w a len ms) :
    Calls Try.prog 6 #[.int .i64 n, .int .i64 s, .slice a len cap] w fun e w' => e = .returned (.bool true) ∧ Below w.heap.size w w' := by
  have H := hide h
  clear h
  obtain ⟨p, hp⟩ : ∃ p, p = playN n s ms := ⟨_, rfl⟩
  have HP := hide hp
  by_cases c : p.2 = 0
  · rw [hp] at c
    obtain ⟨l1, l2⟩ := playN_less c
    rw [← hp] at c l2
    have L2 := hide l2
    clear hp
    go_enter Try.func6, Try.ntmps6
    go_wp2_with (first
      | (go_at_call 13; refine (alive_any _).mono ?_; rintro e w1 ⟨rfl, hb⟩; have HB1 := hide hb; clear hb)
      | (go_at_call 10; refine (Play_any n s _ _ _ ms _ (H.out.below HB1.out)).mono ?_; rintro e w2 ⟨rfl, hb⟩; rw [← HP.out, c]; have HB2 := hide hb; clear hb)
      | (go_at_call 8; refine (Least_any n s _).mono ?_; rintro e w3 ⟨rfl, hb⟩; rw [l1]; have HB3 := hide hb; clear hb))
    all_goals go_ret
    all_goals exact ⟨by have := L2.out; simp, below_on (below_on HB1.out HB2.out) HB3.out⟩
  · have c' : (p.2 != 0) = true := by simpa using c
    clear c hp
    go_enter Try.func6, Try.ntmps6
    go_wp2_with (first
      | (go_at_call 13; refine (alive_any _).mono ?_; rintro e w1 ⟨rfl, hb⟩; have HB1 := hide hb; clear hb)
      | (go_at_call 10; refine (Play_any n s _ _ _ ms _ (H.out.below HB1.out)).mono ?_; rintro e w2 ⟨rfl, hb⟩; rw [← HP.out]; have HB2 := hide hb; clear hb))
    go_ret
    exact ⟨rfl, below_on HB1.out HB2.out⟩
end Go.Proofs.Ytdfpgpekilhelaa.V
