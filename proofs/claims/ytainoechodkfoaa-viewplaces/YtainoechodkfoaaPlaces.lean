/-
  The walk of ViewPlaces.
-/
import Derived.Test.YtainoechodkfoaaRIndex
import Derived.Test.YtainoechodkfoaaPlaceAny
namespace Go.Proofs.Ytainoechodkfoaa.V
open Go.RowKit

set_option maxRecDepth 100000 in
set_option maxHeartbeats 2000000 in
theorem viewPlaces_walk (a : Option Addr) (len cap : Nat) (xs : List Int) (a' : Option Addr) (len' cap' : Nat) (ys : List Int) (p : Int) (w : World) (h : Ints w a len xs) (hcap : len ≤ cap) (h' : Ints w a' len' ys) :
    Calls Try.prog 3 #[.slice a len cap, .slice a' len' cap', .int .i64 p] w fun e w' => e = .returned (.bool true) ∧ Below w.heap.size w w' := by
  have H := hide h
  have H' := hide h'
  clear h h'
  go_enter Try.func3, Try.ntmps3
  go_wp2_with fail
  refine (size_any _ _ _ xs _ H.out).mono ?_
  rintro e w' ⟨rfl, hw⟩
  obtain rfl := hw.symm
  go_wp2_with fail
  refine (rsize_any _ _ _ xs _ H.out).mono ?_
  rintro e w' ⟨rfl, hw2⟩
  obtain rfl := hw2.symm
  clear hw hw2
  have q1 : (sizeN xs != sizeN xs) = false := by simp
  have q2 : (sizeE xs != sizeE xs) = false := by simp
  go_wp2_with fail
  refine (place_any _ _ _ xs _ _ _ ys _ H.out H'.out).mono ?_
  rintro e w1 ⟨rfl, hb1⟩
  have B1 := hide hb1
  clear hb1 q1 q2
  go_wp2_with fail
  refine (rplace_any _ _ _ xs _ _ _ ys _ (H.out.below B1.out) (H'.out.below B1.out) hcap).mono ?_
  rintro e w2 ⟨rfl, hb2⟩
  have B2 := hide (Below.on B1.out hb2)
  clear hb2
  have q1 : (placeN xs ys != placeN xs ys) = false := by simp
  have q2 : (placeE xs ys != placeE xs ys) = false := by simp
  go_wp2_with fail
  refine (index_call _ _ _ xs p _ (H.out.below B2.out)).mono ?_
  rintro e w3 ⟨⟨b3, n3, c3, rfl, hi3⟩, hb3⟩
  have HI3 := hide hi3
  have B3 := hide (Below.on B2.out hb3)
  clear hi3 hb3 q1 q2
  go_wp2_with fail
  refine (rindex_call _ _ _ xs p _ (H.out.below B3.out) hcap).mono ?_
  rintro e w4 ⟨⟨b4, n4, c4, rfl, hi4⟩, hb4⟩
  have HI4 := hide hi4
  have HB4 := hide hb4
  have B4 := hide (Below.on B3.out hb4)
  clear hi4 hb4
  go_wp2_with fail
  refine (same_any _ _ _ (indexL xs p) _ _ _ (indexL xs p) _ (HI3.out.below HB4.out) HI4.out).mono ?_
  rintro e w5 ⟨rfl, nn, rfl⟩
  have d : decide (indexL xs p = indexL xs p) = true := by simp
  rw [d]
  have q2 : (indexE xs p == indexE xs p) = true := by simp
  go_wp2
  go_ret
  exact ⟨rfl, Below.on B4.out (below_drewN _ _)⟩
end Go.Proofs.Ytainoechodkfoaa.V
