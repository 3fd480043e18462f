/-
  The law ReplayRuns.
-/
import Derived.Test.YtbdbbnnkagkioaaRpRunRun
import Derived.Test.YtbdbbnnkagkioaaRpLeast
namespace Go.Proofs.Ytbdbbnnkagkioaa.V
open Go.RowKit
set_option linter.unusedVariables false

theorem told_get (n k j : Nat) (h : j < k) : (told n k)[j]? = some (.int .i64 ((n : Int) - 1 - (j : Int))) := by simp [told, h]

set_option maxRecDepth 100000 in
set_option maxHeartbeats 2000000 in
theorem replayRuns_ok (n S : Nat) (start : Int) (w : World) (hn : n ≤ 256) (hS : S ≤ 16) (h : ¬ (2 ≤ n ∧ S = 0)) (hw : wrongN (n : Int) (S : Int) = 0) (hs : -1099511627776 ≤ start ∧ start ≤ 1099511627776) :
    Calls Try.prog 3 #[.int .i64 n, .int .i64 S, .int .i64 start] w fun e w' => e = .returned (.bool true) ∧ Below w.heap.size w w' := by
  have s1 : ¬ start < -1099511627776 := by omega
  have s2 : ¬ 1099511627776 < start := by omega
  have e1 : leastN (n : Int) (S : Int) = (T S n : Nat) := by simp [leastN, hw]
  go_enter Try.func3, Try.ntmps3
  go_wp2_with fail
  refine (Replay_ok n S start w hn hS h hs).mono ?_
  rintro e w1 ⟨⟨v', B, rfl, q1⟩, q2⟩
  obtain ⟨X, c, rfl⟩ : ∃ X c, v' = .slice X n c := by
    rcases q1.2 with ⟨e1, e2⟩ | ⟨g, cap, cur, e1, _⟩
    · exact ⟨none, 0, by rw [e1, e2]⟩
    · exact ⟨_, cap, e1⟩
  have hcell : 0 < n → ∃ g, X = some ⟨g, 0, none⟩ ∧ ∀ j, j < n → w1.cell? ⟨g, j, none⟩ = some (.int .i64 ((n : Int) - 1 - (j : Int))) := by
    intro h0
    obtain ⟨g, cap, ev, hc⟩ := own_at q1 h0
    cases ev
    exact ⟨g, rfl, fun j hj => by rw [hc j hj, told_get _ _ _ hj]⟩
  have HCELL := hide hcell
  have HB1 := hide q2
  clear q1 q2 hcell
  go_wp2_with fail
  refine (rLeast_any n S _).mono ?_
  rintro e w2 ⟨rfl, q3⟩
  rw [e1, hw]
  have a1 : w2.heap[w1.heap.size]? = some (.cells #[.int .i64 (T S n : Nat), .slice X n c, .bool false] 24 (0, 0)) := (q3.block _ (by simp)).trans (World.alloc_heap_new _ _)
  obtain ⟨⟨k0, k1, k2⟩, _⟩ := rec_cells a1
  have HB2 := hide (below_on (HB1.out.alloc HB1.out.size _) q3)
  have HC2 : Hid (0 < n → ∃ g, X = some ⟨g, 0, none⟩ ∧ ∀ j, j < n → w2.cell? ⟨g, j, none⟩ = some (.int .i64 ((n : Int) - 1 - (j : Int)))) := by
    intro h0
    obtain ⟨g, e, hc⟩ := HCELL.out h0
    refine ⟨g, e, fun j hj => ?_⟩
    have hx := (Below.refl w1.heap.size w1).alloc (Nat.le_refl _) (.cells #[.int .i64 (T S n : Nat), .slice X n c, .bool false] 24)
    exact ((q3.cell (p := ⟨g, j, none⟩) (by have := lt_of_cell (hc j hj); simp only at this; rw [World.size_alloc]; simp only; omega)).trans (hx.cell (p := ⟨g, j, none⟩) (lt_of_cell (hc j hj)))).trans (hc j hj)
  clear q3 HCELL HB1 a1
  go_wp2_with fail
  go_loopw [64] (fun i wr => ∃ j : Nat, j ≤ n ∧ i = .int .i64 j ∧ wr = w2) (fun i _ => n - (intOf i).toNat)
  case atStart => exact ⟨0, by omega, rfl, rfl⟩
  case round =>
    obtain ⟨j, j1, rfl, rfl⟩ := hrel
    by_cases hj : j < n
    · obtain ⟨g, rfl, hc⟩ := HC2.out (by omega)
      have cj := hc j hj
      clear hc HC2
      go_wp2_with fail
      go_round
      case rel => exact ⟨j + 1, by omega, by go_num, trivial⟩
      case measure => simp [intOf]; omega
    · go_wp2_with fail
      go_ret
      exact ⟨rfl, HB2.out⟩

set_option maxRecDepth 100000 in
set_option maxHeartbeats 2000000 in
theorem replayRuns_walk (n s start : Int) (w : World) :
    Calls Try.prog 3 #[.int .i64 n, .int .i64 s, .int .i64 start] w fun e w' => e = .returned (.bool true) ∧ Below w.heap.size w w' := by
  by_cases s1 : start < -1099511627776
  · go_enter Try.func3, Try.ntmps3
    go_wp2_with fail
    go_ret
    exact ⟨rfl, Below.refl _ _⟩
  · by_cases s2 : 1099511627776 < start
    · go_enter Try.func3, Try.ntmps3
      go_wp2_with fail
      go_ret
      exact ⟨rfl, Below.refl _ _⟩
    · by_cases c : wrongN n s = 0
      · obtain ⟨N, S, rfl, rfl, h1, h2, h3⟩ := wrongN_ok c
        exact replayRuns_ok N S start w h1 h2 h3 c (by omega)
      · have c1 : (wrongN n s != 0) = true := by simpa using c
        have e1 : leastN n s = 0 := by simp [leastN, c]
        go_enter Try.func3, Try.ntmps3
        go_wp2_with fail
        refine (Replay_bad n s start w c).mono ?_
        rintro e w1 ⟨rfl, q2⟩
        have HB1 := hide q2
        clear q2
        go_wp2_with fail
        refine (rLeast_any n s _).mono ?_
        rintro e w2 ⟨rfl, q3⟩
        have a1 : w2.heap[w1.heap.size]? = some (.cells #[.int .i64 0, .slice none 0 0, .bool false] 24 (0, 0)) := (q3.block _ (by simp)).trans (World.alloc_heap_new _ _)
        obtain ⟨⟨k0, k1, k2⟩, _⟩ := rec_cells a1
        have HB2 := hide (below_on (HB1.out.alloc HB1.out.size _) q3)
        clear q3 HB1 a1
        go_wp2_with fail
        go_ret
        exact ⟨by simp, HB2.out⟩
end Go.Proofs.Ytbdbbnnkagkioaa.V
