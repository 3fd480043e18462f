/-
  Contract: replay.Plan; the law ReplayPlans.
-/
import Derived.Test.YtdfpgpekilhelaaRpWalk
namespace Go.Proofs.Ytdfpgpekilhelaa.V
open Go.RowKit
set_option linter.unusedVariables false

theorem acc_moves {w : World} {tb B : Nat} {ms : List (Int × Int)} (h : Acc w tb B ms) (hl : ms.length ≤ 1000000) : ∃ a len cap, w.cell? ⟨tb, 0, none⟩ = some (.slice a len cap) ∧ Moves w a len ms := by
  obtain ⟨v, h1, h2, h3, h4⟩ := h
  have k1 : w.cell? ⟨tb, 0, none⟩ = some v := by simp [World.cell?, h1]
  have h2' := h2
  rcases h2.2 with ⟨rfl, e⟩ | ⟨g, cap, cur, rfl, _⟩
  · exact ⟨none, 0, 0, k1, e, by omega, .inl rfl⟩
  · refine ⟨_, _, _, k1, rfl, by omega, .inr ⟨g, 0, rfl, fun j hj => ?_⟩⟩
    obtain ⟨f1, f2⟩ := flat_get ms j hj
    rw [Nat.zero_add]
    exact ⟨(h2'.cellAt (j * 2) (by omega)).trans f1, (h2'.cellAt (j * 2 + 1) (by omega)).trans f2⟩

set_option maxHeartbeats 1000000 in
theorem Plan_ok (n S : Nat) (w : World) (hn : n ≤ 256) (hS : S ≤ 16) (h : ¬ (2 ≤ n ∧ S = 0)) :
    Calls Try.prog 12 #[.int .i64 n, .int .i64 S] w fun e w' => (∃ a len cap us, e = .returned (.tuple #[.slice a len cap, .int .i64 0]) ∧ Moves w' a len us ∧ Walks n S us) ∧ Below w.heap.size w w' := by
  have W : ∀ (w1 : World) (cb : Nat) (g : Nat → Nat), ChartW w1 cb n S (S + 1) g →
      Calls Try.prog 20 #[.slice (some ⟨cb, 0, none⟩) (S + 1) (S + 1), .int .i64 n, .int .i64 S, .func (.func 21) #[] #[.pointer (some ⟨w1.heap.size, 0, none⟩)]] (w1.alloc (.cells #[.slice none 0 0] 26)) fun e w' => e = .returned (.tuple #[]) ∧ (∃ us a len cap, w'.cell? ⟨w1.heap.size, 0, none⟩ = some (.slice a len cap) ∧ Moves w' a len us ∧ Walks n S us) ∧ Below w1.heap.size w1 w' := by
    intro w1 cb g hc
    have hA : Acc (w1.alloc (.cells #[.slice none 0 0] 26)) w1.heap.size (w1.heap.size + 1) [] := ⟨.slice none 0 0, World.alloc_heap_new _ _, World.ownsRow_nil _ _ _ _, by omega, by simp⟩
    have hb : Below w1.heap.size w1 (w1.alloc (.cells #[.slice none 0 0] 26)) := (Below.refl _ _).alloc (Nat.le_refl _) _
    have hC : ChartB (w1.alloc (.cells #[.slice none 0 0] 26)) w1.heap.size cb n S g := ⟨hc.below hb, hc.1.lt, fun i hi => (hc.2 i hi).1.lt⟩
    have hT := T_small S n hn
    refine (walk_any w1.heap.size (w1.heap.size + 1) cb n S g hn hS S n [] _ (Nat.le_refl _) (Nat.le_refl _) (by omega) hA hC (by simp; omega)).mono ?_
    rintro e w' ⟨rfl, ⟨us, q1, q2⟩, q3⟩
    rw [List.nil_append] at q1
    have hlen : us.length ≤ 1000000 := by
      by_cases h0 : n = 0
      · subst h0; rw [q2.1 rfl]; simp
      · have := (q2.2 (by omega)).1; omega
    obtain ⟨a, len, cap, k1, k2⟩ := acc_moves q1 hlen
    exact ⟨rfl, ⟨us, a, len, cap, k1, k2, q2⟩, hb.trans q3⟩
  have HW := hide W
  clear W
  go_enter Try.func12, Try.ntmps12
  go_wp2_with (go_at_call 15; refine (charted_any n S _ hn hS h).mono ?_; rintro e w1 ⟨⟨cb, g, rfl, hc⟩, hb⟩; have HC := hide hc; have HB := hide hb; clear hc hb)
  refine (HW.out w1 cb g HC.out).mono ?_
  rintro e w2 ⟨rfl, ⟨us, a, len, cap, k1, k2, k3⟩, k4⟩
  have K2 := hide k2
  have K3 := hide k3
  have K4 := hide k4
  clear k2 k3 k4 HW
  go_wp2_with fail
  exact bodyPost_ret (v := .tuple #[.slice a len cap, .int .i64 0]) (by simp [results, Try.results12, go_sem]) rfl ⟨⟨a, len, cap, us, rfl, K2.out, K3.out⟩, below_on HB.out K4.out⟩

set_option maxHeartbeats 1000000 in
theorem Plan_bad (n s : Int) (w : World) (c : wrongN n s ≠ 0) :
    Calls Try.prog 12 #[.int .i64 n, .int .i64 s] w fun e w' => e = .returned (.tuple #[.slice none 0 0, .int .i64 (wrongN n s)]) ∧ w' = w := by
  have c1 : (wrongN n s != 0) = true := by simpa using c
  go_enter Try.func12, Try.ntmps12
  go_wp2_with (go_at_call 15; refine (charted_bad n s _ c).mono ?_; rintro e w' ⟨rfl, rfl⟩)
  exact bodyPost_ret (v := .tuple #[.slice none 0 0, .int .i64 (wrongN n s)]) (by simp [results, Try.results12, go_sem]) rfl ⟨rfl, rfl⟩

set_option maxHeartbeats 1000000 in
theorem replayPlans_walk (n s : Int) (w : World) :
    Calls Try.prog 5 #[.int .i64 n, .int .i64 s] w fun e w' => e = .returned (.bool true) ∧ Below w.heap.size w w' := by
  by_cases c : wrongN n s = 0
  · obtain ⟨N, S, rfl, rfl, h1, h2, h3⟩ := wrongN_ok c
    have e1 : leastN (N : Int) (S : Int) = (T S N : Nat) := by simp [leastN, c]
    have P : ∀ us, Walks N S us → playN (N : Int) (S : Int) us = (((T S N : Nat) : Int), 0) := by
      intro us hw
      rw [playN, if_pos (by omega), Int.toNat_natCast, Int.toNat_natCast]
      exact walks_play hw
    have HP := hide P
    clear P
    go_enter Try.func5, Try.ntmps5
    go_wp2_with (go_at_call 12; refine (Plan_ok N S _ h1 h2 h3).mono ?_; rintro e w1 ⟨⟨a, len, cap, us, rfl, m1, m2⟩, hb⟩; have M1 := hide m1; have M2 := hide m2; have HB1 := hide hb; clear m1 m2 hb)
    refine (rLeast_any N S _).mono ?_
    rintro e w2 ⟨rfl, hb⟩
    rw [e1, c]
    have HB2 := hide hb
    clear hb
    go_wp2_with fail
    refine (Play_any N S _ _ _ us _ (M1.out.below HB2.out)).mono ?_
    rintro e w3 ⟨rfl, hb⟩
    rw [HP.out us M2.out]
    have HB3 := hide hb
    clear hb
    go_wp2_with fail
    go_ret
    exact ⟨by simp, below_on (below_on HB1.out HB2.out) HB3.out⟩
  · have c1 : (wrongN n s != 0) = true := by simpa using c
    go_enter Try.func5, Try.ntmps5
    go_wp2_with (go_at_call 12; refine (Plan_bad n s _ c).mono ?_; rintro e w1 ⟨rfl, rfl⟩)
    refine (rLeast_any n s _).mono ?_
    rintro e w2 ⟨rfl, hb⟩
    have HB2 := hide hb
    clear hb
    go_wp2_with fail
    go_ret
    exact ⟨by simp, HB2.out⟩
end Go.Proofs.Ytdfpgpekilhelaa.V
