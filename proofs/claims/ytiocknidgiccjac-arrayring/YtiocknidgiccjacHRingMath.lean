/-
  Arrays of numbers that wrap round are a ring.
-/
import Derived.Test.YtiocknidgiccjacHArrAlikeL
import Derived.Test.YtiocknidgiccjacHArrWrap
namespace Go.Proofs.Ytiocknidgiccjac.V
open Go.RowKit

theorem twoL_ext {n : Nat} {f g : Nat → Int} (h : ∀ i, i < n → f i = g i) : (List.range n).map f = (List.range n).map g := List.map_congr_left (fun i hi => h i (by simpa using hi))
theorem twoV_comm {k : Int} (hk : k = 3 ∨ k = 5) (a b : Int) : twoV k a b = twoV k b a := by
  rcases hk with rfl | rfl
  · simp [twoV, Int.add_comm]
  · simp [twoV, Int.mul_comm]
theorem twoL_comm {k : Int} (hk : k = 3 ∨ k = 5) (xs ys : List Int) (n : Nat) : twoL k xs ys n = twoL k ys xs n := twoL_ext (fun _ _ => twoV_comm hk _ _)
theorem twoV_assoc {k : Int} (hk : k = 3 ∨ k = 5) (a b c : Int) : twoV k (twoV k a b) c = twoV k a (twoV k b c) := by
  rcases hk with rfl | rfl
  · simp only [twoV, if_true, w64, wrap_addl, wrap_addr, Int.add_assoc]
  · simp [twoV, w64, wrap_mull, wrap_mulr, Int.mul_assoc]
theorem twoL_assoc {k : Int} (hk : k = 3 ∨ k = 5) (xs ys zs : List Int) (n : Nat) : twoL k (twoL k xs ys n) zs n = twoL k xs (twoL k ys zs n) n := twoL_ext (fun i hi => by
  rw [twoL_at _ _ _ _ _ hi, twoL_at _ _ _ _ _ hi]; exact twoV_assoc hk _ _ _)
theorem twoV_dist (a b c : Int) : twoV 5 a (twoV 3 b c) = twoV 3 (twoV 5 a b) (twoV 5 a c) := by
  simp [twoV, w64, wrap_mulr, wrap_addl, wrap_addr, Int.mul_add]
theorem twoL_dist (xs ys zs : List Int) (n : Nat) : twoL 5 xs (twoL 3 ys zs n) n = twoL 3 (twoL 5 xs ys n) (twoL 5 xs zs n) n := twoL_ext (fun i hi => by
  rw [twoL_at _ _ _ _ _ hi, twoL_at _ _ _ _ _ hi, twoL_at _ _ _ _ _ hi]; exact twoV_dist _ _ _)
theorem twoL_back (xs ys : List Int) (n : Nat) (hl : xs.length = n) (hb : ∀ x ∈ xs, -9223372036854775808 ≤ x ∧ x ≤ 9223372036854775807) : twoL 3 (twoL 4 xs ys n) ys n = xs := by
  apply List.ext_getElem?
  intro i
  by_cases hi : i < n
  · have h1 : (twoL 3 (twoL 4 xs ys n) ys n)[i]?.getD 0 = xs[i]?.getD 0 := by
      rw [twoL_at _ _ _ _ _ hi, twoL_at _ _ _ _ _ hi]
      have hx := hb _ (mem_getD xs i (by omega))
      simp only [twoV, if_true, if_neg (show ¬ ((4 : Int) = 3) by decide), w64, wrap_addl]
      rw [show xs[i]?.getD 0 - ys[i]?.getD 0 + ys[i]?.getD 0 = xs[i]?.getD 0 by omega, wrap_in _ hx.1 hx.2]
    have l1 : i < (twoL 3 (twoL 4 xs ys n) ys n).length := by rw [twoL_length]; exact hi
    have l2 : i < xs.length := by omega
    rw [List.getElem?_eq_getElem l1, List.getElem?_eq_getElem l2] at h1 ⊢
    simpa using h1
  · rw [List.getElem?_eq_none (by rw [twoL_length]; omega), List.getElem?_eq_none (by omega)]
end Go.Proofs.Ytiocknidgiccjac.V
