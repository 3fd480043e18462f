/-
  The law ReplayBinomial.
-/
import Derived.Test.YtdfpgpekilhelaaRpChoose
namespace Go.Proofs.Ytdfpgpekilhelaa.V
open Go.RowKit
set_option linter.unusedVariables false

theorem bin_small {s r n : Nat} (hs1 : 1 ≤ s) (hs : s ≤ 16) (hn : n ≤ 256) (h : 1 ≤ r → bin (s + r - 1) s < n) : bin (s + r) s ≤ 10000 := by
  by_cases h0 : r = 0
  · subst h0
    show bin s s ≤ 10000
    rw [bin_self]; omega
  · have h1 := h (by omega)
    obtain ⟨t, rfl⟩ : ∃ t, s = t + 1 := ⟨s - 1, by omega⟩
    obtain ⟨q, rfl⟩ : ∃ q, r = q + 1 := ⟨r - 1, by omega⟩
    rw [show t + 1 + (q + 1) - 1 = t + 1 + q by omega] at h1
    rw [show t + 1 + (q + 1) = (t + 1 + q) + 1 by omega, bin_succ]
    have h2 := bin_step (t + 1 + q) t (by omega)
    have h3 : (t + 1) * bin (t + 1 + q) (t + 1) ≤ 16 * 256 := Nat.mul_le_mul (by omega) (by omega)
    omega
theorem wrp_sub (M : Int) (b : Nat) (h : 0 ≤ M - b) (h2 : M ≤ 1000000) (h3 : 0 ≤ M) : IntKind.i64.wrap (M - wrp b) = M - b := by
  unfold wrp
  rw [IntKind.wrap_i64, IntKind.wrap_i64]
  omega

set_option maxHeartbeats 2000000 in
theorem replayBinomial_ok (n s : Nat) (w : World) (hn1 : 1 ≤ n) (hn : n ≤ 256) (hs1 : 1 ≤ s) (hs : s ≤ 16) :
    Calls Try.prog 7 #[.int .i64 n, .int .i64 s] w fun e w' => e = .returned (.bool true) ∧ Below w.heap.size w w' := by
  have c : wrongN (n : Int) (s : Int) = 0 := by
    have q : okB (n : Int) (s : Int) = true := (okB_of _ _).2 (by omega)
    unfold wrongN
    rw [if_neg (by simp [q]), if_neg (by omega)]
  have e1 : leastN (n : Int) (s : Int) = (T s n : Nat) := by simp [leastN, c]
  have c1 : ¬ (n : Int) < 1 := by omega
  have c2 : ¬ (256 : Int) < n := by omega
  have c3 : ¬ (s : Int) < 1 := by omega
  have c4 : ¬ (16 : Int) < s := by omega
  go_enter Try.func7, Try.ntmps7
  go_wp2_with (first
    | (go_at_call 13; refine (alive_any _).mono ?_; rintro e w1 ⟨rfl, hb⟩; have HB1 := hide hb; clear hb)
    | (go_at_call 8; refine (Least_any n s _).mono ?_; rintro e w2 ⟨rfl, hb⟩; rw [e1, c]; have HB2 := hide (below_on HB1.out hb); clear hb))
  go_loopw [7] (fun v wr => ∃ r : Nat, v = .int .i64 r ∧ r < n ∧ (1 ≤ r → bin (s + r - 1) s < n) ∧ Below w.heap.size w wr) (fun v _ => n - (intOf v).toNat)
  case atStart => exact ⟨0, rfl, by omega, fun h => by omega, HB2.out⟩
  case round =>
    obtain ⟨r, rfl, r1, r2, r3⟩ := hrel
    have R2 := hide r2
    have R3 := hide r3
    have hsm := bin_small hs1 hs hn r2
    obtain ⟨N2, hN2⟩ : ∃ N2, N2 = s + r := ⟨_, rfl⟩
    obtain ⟨K1, hK1⟩ : ∃ K1, K1 = s + 1 := ⟨_, rfl⟩
    have ch := choose_any N2 s wr (by omega) (by omega)
    obtain ⟨b, hb⟩ : ∃ b, b = bin (s + r) s := ⟨_, rfl⟩
    rw [← hb] at hsm
    rw [show bin N2 s = b by rw [hb, hN2], wrp_small (x := b) (by omega)] at ch
    have esr : (s : Int) + (r : Int) = (N2 : Int) := by omega
    have esk : (s : Int) + 1 = (K1 : Int) := by omega
    have HN2 := hide hN2
    have HK1 := hide hK1
    have CH := hide ch
    have HBb := hide hb
    clear r2 r3 ch hb hN2 hK1
    by_cases hlt : b < n
    · go_wp2_with fail
      refine CH.out.mono ?_
      rintro e w3 ⟨rfl, hb⟩
      have HB3 := hide (below_on R3.out hb)
      clear hb CH
      go_wp2_with fail
      have hge := bin_ge r s hs1
      rw [← HBb.out] at hge
      go_round
      case rel => exact ⟨r + 1, by go_num, by omega, fun _ => by rw [show s + (r + 1) - 1 = s + r by omega, ← HBb.out]; exact hlt, HB3.out⟩
      case measure => simp [intOf]; omega
    · have hT := T_bin hs1 hn1 R2.out (by rw [← HBb.out]; omega)
      obtain ⟨M, hM⟩ : ∃ M : Int, M = (r : Int) * (n : Int) := ⟨_, rfl⟩
      have hM0 : 0 ≤ M ∧ M ≤ 65536 := by
        rw [hM]
        refine ⟨Int.mul_nonneg (by omega) (by omega), ?_⟩
        have := Int.mul_le_mul (show (r : Int) ≤ 256 by omega) (show (n : Int) ≤ 256 by omega) (by omega) (by omega)
        omega
      have hMw : IntKind.i64.wrap ((r : Int) * (n : Int)) = M := by rw [← hM, IntKind.wrap_i64]; omega
      rw [← hM] at hT
      have q2 : N2 ≤ 300 ∧ K1 ≤ 300 := by have := HN2.out; have := HK1.out; omega
      have ch2 := fun w3 => choose_any N2 K1 w3 q2.1 q2.2
      have CH2 := hide ch2
      have HT := hide hT
      have hnl : ¬ ((b : Int) < (n : Int)) := by omega
      clear hT ch2 hlt
      go_wp2_with fail
      refine CH.out.mono ?_
      rintro e w3 ⟨rfl, hb⟩
      have HB3 := hide (below_on R3.out hb)
      clear hb CH
      go_wp2_with fail
      refine (CH2.out w3).mono ?_
      rintro e w4 ⟨rfl, hb⟩
      have HB4 := hide (below_on HB3.out hb)
      clear hb CH2
      go_wp2_with fail
      go_ret
      refine ⟨?_, HB4.out⟩
      rw [HN2.out, HK1.out, ← hM]
      have hx : IntKind.i64.wrap (M - wrp (bin (s + r) (s + 1))) = M - (bin (s + r) (s + 1) : Nat) := wrp_sub M _ (by rw [← HT.out]; omega) (by omega) hM0.1
      have hx' : wrap64 (M - wrp (bin (s + r) (s + 1))) = M - (bin (s + r) (s + 1) : Nat) := by rw [← hx, IntKind.wrap_i64, wrap64]
      rw [hx', ← HT.out]
      simp

set_option maxHeartbeats 1000000 in
theorem replayBinomial_walk (n s : Int) (w : World) :
    Calls Try.prog 7 #[.int .i64 n, .int .i64 s] w fun e w' => e = .returned (.bool true) ∧ Below w.heap.size w w' := by
  by_cases c : 1 ≤ n ∧ n ≤ 256 ∧ 1 ≤ s ∧ s ≤ 16
  · obtain ⟨N, S, rfl, rfl⟩ : ∃ N S : Nat, n = N ∧ s = S := ⟨n.toNat, s.toNat, by omega, by omega⟩
    exact replayBinomial_ok N S w (by omega) (by omega) (by omega) (by omega)
  · by_cases c1 : n < 1
    · clear c
      go_enter Try.func7, Try.ntmps7
      go_wp2_with (first
        | (go_at_call 13; refine (alive_any _).mono ?_; rintro e w1 ⟨rfl, hb⟩; have HB1 := hide hb; clear hb)
        | (go_at_call 8; refine (Least_any n s _).mono ?_; rintro e w2 ⟨rfl, hb⟩; have HB2 := hide (below_on HB1.out hb); clear hb))
      go_ret
      exact ⟨rfl, HB2.out⟩
    · by_cases c2 : 256 < n
      · clear c
        go_enter Try.func7, Try.ntmps7
        go_wp2_with (first
          | (go_at_call 13; refine (alive_any _).mono ?_; rintro e w1 ⟨rfl, hb⟩; have HB1 := hide hb; clear hb)
          | (go_at_call 8; refine (Least_any n s _).mono ?_; rintro e w2 ⟨rfl, hb⟩; have HB2 := hide (below_on HB1.out hb); clear hb))
        go_ret
        exact ⟨rfl, HB2.out⟩
      · by_cases c3 : s < 1
        · clear c
          go_enter Try.func7, Try.ntmps7
          go_wp2_with (first
            | (go_at_call 13; refine (alive_any _).mono ?_; rintro e w1 ⟨rfl, hb⟩; have HB1 := hide hb; clear hb)
            | (go_at_call 8; refine (Least_any n s _).mono ?_; rintro e w2 ⟨rfl, hb⟩; have HB2 := hide (below_on HB1.out hb); clear hb))
          go_ret
          exact ⟨rfl, HB2.out⟩
        · have c4 : 16 < s := by omega
          clear c
          go_enter Try.func7, Try.ntmps7
          go_wp2_with (first
            | (go_at_call 13; refine (alive_any _).mono ?_; rintro e w1 ⟨rfl, hb⟩; have HB1 := hide hb; clear hb)
            | (go_at_call 8; refine (Least_any n s _).mono ?_; rintro e w2 ⟨rfl, hb⟩; have HB2 := hide (below_on HB1.out hb); clear hb))
          go_ret
          exact ⟨rfl, HB2.out⟩
end Go.Proofs.Ytdfpgpekilhelaa.V
