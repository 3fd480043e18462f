/-
  The walk of ViewBack.
-/
import Derived.Test.YtainoechodkfoaaPlaceAny
import Derived.Test.YtainoechodkfoaaIndexAny
import Derived.Test.YtainoechodkfoaaMath
import Derived.Test.YtainoechodkfoaaSame
import Derived.Test.YtainoechodkfoaaAlive
namespace Go.Proofs.Ytainoechodkfoaa.V
open Go.RowKit

theorem indexE_ok {xs : List Int} {p : Int} (hE : sizeE xs = 0) (h0 : 0 ≤ p) (h1 : p < sizeN xs) : indexE xs p = 0 ∧ indexL xs p = indexV xs p := by
  have : ¬ (p < 0 ∨ sizeN xs ≤ p) := by omega
  exact ⟨by simp only [indexE, hE]; simp [this], by simp only [indexL, hE]; simp [this]⟩
theorem indexE_bad {xs : List Int} {p : Int} (hE : sizeE xs = 0) (h : p < 0 ∨ sizeN xs ≤ p) : indexE xs p = 4 := by
  simp only [indexE, hE]; simp [h]

theorem back_place {xs : List Int} {p : Int} (hE : sizeE xs = 0) (h0 : 0 ≤ p) (h1 : p < sizeN xs) : placeE xs (indexV xs p) = 0 ∧ placeN xs (indexV xs p) = p := by
  obtain ⟨hg, hp, hn, _⟩ := index_good hE h0 h1
  have hpos : ∀ x ∈ xs, 1 ≤ x := fun x hx => (hg x hx).1
  have hI := index_idxOk p hpos
  have hB := (idxB_iff _ _).2 hI
  constructor
  · simp [placeE, hE, hB, indexV_length]
  · simp only [placeN, hE, indexV_length, if_pos hB]
    simp
    exact place_index hpos h0 (by omega)
theorem back_index {xs ys : List Int} (h : placeE xs ys = 0) : sizeE xs = 0 ∧ 0 ≤ placeN xs ys ∧ placeN xs ys < sizeN xs ∧ indexV xs (placeN xs ys) = ys := by
  unfold placeE at h
  by_cases hE : sizeE xs = 0
  · by_cases hl : ys.length = xs.length
    · by_cases hI : IdxOk xs ys
      · have hN : placeN xs ys = placeS xs ys xs.length := by simp [placeN, hE, hl, (idxB_iff xs ys).2 hI]
        obtain ⟨b1, b2⟩ := place_bd hI
        have hs := ((sizeE_ok hE).2.2.1 (idxOk_pos hI)).2
        rw [hN, hs]
        exact ⟨hE, b1, b2, index_place hI hl⟩
      · simp [hE, hl, idxB_no hI] at h
    · simp [hE, hl] at h
  · simp [hE] at h

set_option maxRecDepth 100000 in
set_option maxHeartbeats 2000000 in
theorem viewBack_walk (a : Option Addr) (len cap : Nat) (xs : List Int) (p : Int) (a' : Option Addr) (len' cap' : Nat) (ys : List Int) (w : World) (h : Ints w a len xs) (h' : Ints w a' len' ys) :
    Calls Try.prog 8 #[.slice a len cap, .int .i64 p, .slice a' len' cap'] w fun e w' => e = .returned (.bool true) ∧ Below w.heap.size w w' := by
  have H := hide h
  have H' := hide h'
  clear h h'
  go_enter Try.func8, Try.ntmps8
  go_wp2_with fail
  refine (alive_any _).mono ?_
  rintro e w1 ⟨rfl, hb1⟩
  have B1 := hide hb1
  clear hb1
  go_wp2_with fail
  refine (size_any _ _ _ xs _ (H.out.below B1.out)).mono ?_
  rintro e w' ⟨rfl, hw⟩
  subst hw
  by_cases hE : sizeE xs ≠ 0
  · have hE1 : (sizeE xs != 0) = true := by simp [hE]
    clear hE
    go_wp2
    go_ret
    exact ⟨rfl, B1.out⟩
  replace hE : sizeE xs = 0 := by simpa using hE
  rw [hE]
  have HE := hide hE
  clear hE
  go_wp2_with fail
  refine (index_call _ _ _ xs p _ (H.out.below B1.out)).mono ?_
  rintro e w2 ⟨⟨b, n, c, rfl, hi⟩, hb2⟩
  have HI := hide hi
  have B2 := hide (Below.on B1.out hb2)
  have HB2 := hide hb2
  clear hi hb2
  -- the second half, from whatever world on
  by_cases hr : 0 ≤ p ∧ p < sizeN xs
  · obtain ⟨hr0, hr1⟩ := hr
    obtain ⟨i1, i2⟩ := indexE_ok HE.out hr0 hr1
    obtain ⟨q1, q2⟩ := back_place HE.out hr0 hr1
    rw [i1]
    have HI2 : Hid (Ints w2 b n (indexV xs p)) := by rw [← i2]; exact HI.out
    have Q1 := hide q1
    have Q2 := hide q2
    clear i1 i2 q1 q2 HI
    go_wp2_with fail
    refine (place_any _ _ _ xs _ _ _ (indexV xs p) _ (H.out.below B2.out) HI2.out).mono ?_
    rintro e w3 ⟨rfl, hb3⟩
    rw [Q1.out, Q2.out]
    have B3 := hide (Below.on B2.out hb3)
    clear hb3
    go_wp2_with fail
    refine (place_any _ _ _ xs _ _ _ ys _ (H.out.below B3.out) (H'.out.below B3.out)).mono ?_
    rintro e w4 ⟨rfl, hb4⟩
    have B4 := hide (Below.on B3.out hb4)
    clear hb4
    by_cases hF : placeE xs ys ≠ 0
    · have hF1 : (placeE xs ys != 0) = true := by simp [hF]
      clear hF
      go_wp2
      go_ret
      exact ⟨rfl, B4.out⟩
    replace hF : placeE xs ys = 0 := by simpa using hF
    obtain ⟨_, f1, f2, f3⟩ := back_index hF
    rw [hF]
    obtain ⟨g1, g2⟩ := indexE_ok HE.out f1 f2
    have G1 := hide g1
    have G2 : Hid (indexL xs (placeN xs ys) = ys) := by rw [Hid, g2, f3]
    clear hF f3 g1 g2
    go_wp2_with fail
    refine (index_call _ _ _ xs _ _ (H.out.below B4.out)).mono ?_
    rintro e w5 ⟨⟨b5, n5, c5, rfl, hi5⟩, hb5⟩
    rw [G2.out] at hi5
    rw [G1.out]
    have HI5 := hide hi5
    have B5 := hide (Below.on B4.out hb5)
    clear hi5 hb5
    go_wp2_with fail
    refine (same_any _ _ _ ys _ _ _ ys _ HI5.out (H'.out.below B5.out)).mono ?_
    rintro e w6 ⟨rfl, nn, rfl⟩
    have d : decide (ys = ys) = true := by simp
    rw [d]
    go_wp2
    go_ret
    exact ⟨rfl, Below.on B5.out (below_drewN _ _)⟩
  · have i1 := indexE_bad (xs := xs) (p := p) HE.out (by omega)
    rw [i1]
    have B3 : Hid (Below w.heap.size w w2) := B2.out
    clear i1 HI
    by_cases hp0 : p < 0
    · clear hr
      go_wp2_with fail
      refine (place_any _ _ _ xs _ _ _ ys _ (H.out.below B3.out) (H'.out.below B3.out)).mono ?_
      rintro e w4 ⟨rfl, hb4⟩
      have B4 := hide (Below.on B3.out hb4)
      clear hb4
      by_cases hF : placeE xs ys ≠ 0
      · have hF1 : (placeE xs ys != 0) = true := by simp [hF]
        clear hF
        go_wp2
        go_ret
        exact ⟨rfl, B4.out⟩
      replace hF : placeE xs ys = 0 := by simpa using hF
      obtain ⟨_, f1, f2, f3⟩ := back_index hF
      rw [hF]
      obtain ⟨g1, g2⟩ := indexE_ok HE.out f1 f2
      have G1 := hide g1
      have G2 : Hid (indexL xs (placeN xs ys) = ys) := by rw [Hid, g2, f3]
      clear hF f3 g1 g2
      go_wp2_with fail
      refine (index_call _ _ _ xs _ _ (H.out.below B4.out)).mono ?_
      rintro e w5 ⟨⟨b5, n5, c5, rfl, hi5⟩, hb5⟩
      rw [G2.out] at hi5
      rw [G1.out]
      have HI5 := hide hi5
      have B5 := hide (Below.on B4.out hb5)
      clear hi5 hb5
      go_wp2_with fail
      refine (same_any _ _ _ ys _ _ _ ys _ HI5.out (H'.out.below B5.out)).mono ?_
      rintro e w6 ⟨rfl, nn, rfl⟩
      have d : decide (ys = ys) = true := by simp
      rw [d]
      go_wp2
      go_ret
      exact ⟨rfl, Below.on B5.out (below_drewN _ _)⟩
    · have hp1 : sizeN xs ≤ p := by omega
      clear hr
      go_wp2_with fail
      refine (place_any _ _ _ xs _ _ _ ys _ (H.out.below B3.out) (H'.out.below B3.out)).mono ?_
      rintro e w4 ⟨rfl, hb4⟩
      have B4 := hide (Below.on B3.out hb4)
      clear hb4
      by_cases hF : placeE xs ys ≠ 0
      · have hF1 : (placeE xs ys != 0) = true := by simp [hF]
        clear hF
        go_wp2
        go_ret
        exact ⟨rfl, B4.out⟩
      replace hF : placeE xs ys = 0 := by simpa using hF
      obtain ⟨_, f1, f2, f3⟩ := back_index hF
      rw [hF]
      obtain ⟨g1, g2⟩ := indexE_ok HE.out f1 f2
      have G1 := hide g1
      have G2 : Hid (indexL xs (placeN xs ys) = ys) := by rw [Hid, g2, f3]
      clear hF f3 g1 g2
      go_wp2_with fail
      refine (index_call _ _ _ xs _ _ (H.out.below B4.out)).mono ?_
      rintro e w5 ⟨⟨b5, n5, c5, rfl, hi5⟩, hb5⟩
      rw [G2.out] at hi5
      rw [G1.out]
      have HI5 := hide hi5
      have B5 := hide (Below.on B4.out hb5)
      clear hi5 hb5
      go_wp2_with fail
      refine (same_any _ _ _ ys _ _ _ ys _ HI5.out (H'.out.below B5.out)).mono ?_
      rintro e w6 ⟨rfl, nn, rfl⟩
      have d : decide (ys = ys) = true := by simp
      rw [d]
      go_wp2
      go_ret
      exact ⟨rfl, Below.on B5.out (below_drewN _ _)⟩
end Go.Proofs.Ytainoechodkfoaa.V
