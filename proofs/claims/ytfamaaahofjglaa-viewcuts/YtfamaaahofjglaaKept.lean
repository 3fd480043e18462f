/-
  Contract: adjointref1.Kept.
-/
import Derived.Test.YtfamaaahofjglaaCutAny
namespace Go.Proofs.Ytfamaaahofjglaa.V
open Go.RowKit

theorem kept_eq {l h t : Int} {k : Nat} (h1 : h ≤ l + k * t) (h2 : (k = 0 ∧ l ≤ h) ∨ l + k * t - t < h) (ht : 1 ≤ t) : keptN l h t = (k : Int) := by
  unfold keptN
  have e : h - l + t - 1 = (h - l + t - 1 - k * t) + t * k := by rw [Int.mul_comm t]; omega
  have hr : 0 ≤ h - l + t - 1 - k * t ∧ h - l + t - 1 - k * t < t := by
    refine ⟨?_, by omega⟩
    rcases h2 with ⟨rfl, h2⟩ | h2
    · simp; omega
    · omega
  rw [e, Int.add_mul_ediv_left _ _ (by omega), Int.ediv_eq_zero_of_lt hr.1 hr.2]
  omega

set_option maxHeartbeats 1000000 in
theorem kept_any (l h t : Int) (w : World) (h1 : 0 ≤ l) (h2 : l ≤ h) (h3 : h ≤ 4096) (h4 : 1 ≤ t) (h5 : t ≤ 4096) :
    Calls Try.prog 45 #[.int .i64 l, .int .i64 h, .int .i64 t] w fun e w' => e = .returned (.int .i64 (keptN l h t)) ∧ w' = w := by
  go_enter Try.func45, Try.ntmps45
  go_wp2
  go_loop [7, 8] (fun n i => ∃ (k : Nat) (I : Int), n = .int .i64 k ∧ i = .int .i64 I ∧ I = l + k * t ∧ ((k = 0 ∧ I = l) ∨ I - t < h) ∧ ((k : Int) ≤ I ∧ l ≤ I)) (fun _ i => (h - intOf i).toNat)
  case atStart => exact ⟨0, l, rfl, rfl, by simp, .inl ⟨rfl, rfl⟩, by simp; exact h1, by omega⟩
  case round =>
    obtain ⟨k, I, rfl, rfl, hI, hor, hkI, hlI⟩ := hrel
    have HI := hide hI
    have HOR := hide hor
    clear hI hor
    have hI2 : I ≤ 8192 := by have := HOR.out; omega
    by_cases hlt : I < h
    · have w1' : IntKind.i64.wrap (I + t) = I + t := wrap_in _ (by omega) (by omega)
      have w2' : IntKind.i64.wrap ((k : Int) + 1) = (k : Int) + 1 := wrap_in _ (by omega) (by omega)
      go_wp2
      go_round
      case rel =>
        refine ⟨k + 1, I + t, by simp, rfl, ?_, .inr (by omega), by omega, by omega⟩
        rw [HI.out]; simp [Int.add_mul]; omega
      case measure => simp [intOf]; omega
    · go_wp2
      go_ret
      have e := kept_eq (l := l) (h := h) (t := t) (k := k) (by rw [← HI.out]; omega) (by rw [← HI.out]; have := HOR.out; omega) h4
      rw [e]; exact ⟨rfl, rfl⟩
end Go.Proofs.Ytfamaaahofjglaa.V
