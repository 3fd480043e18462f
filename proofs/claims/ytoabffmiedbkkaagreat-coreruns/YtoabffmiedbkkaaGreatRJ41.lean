/-
  Contract: view.Cut. Contracts: array.Inner, adjointref2.Inner; the walk of ArrayInner.
-/
import Derived.Test.YtoabffmiedbkkaaGreatRJ35
import Derived.BigRegion
import Derived.Deep.QuietTactic
import Derived.BigQuiet
import Derived.Test.YtoabffmiedbkkaaGreatRJ31
namespace Go.Proofs.YtoabffmiedbkkaaGreat.V
set_option maxRecDepth 20000
open Go.RowKit

theorem below_drewN' {w w' : World} (h : Below w.heap.size w w') (n : Nat) : Below w.heap.size w (w'.drewN n) := Below.on h (below_drewN _ n)

end Go.Proofs.YtoabffmiedbkkaaGreat.V
namespace Go.Proofs.YtoabffmiedbkkaaGreat.V
set_option maxRecDepth 20000
open Go.RowKit

def innerN (ds xs es ys : List Int) : Int := if arrE ds xs.length ≠ 0 then 0 else if arrE es ys.length ≠ 0 then 0 else if ds = es then innS xs ys xs.length else 0
def innerE (ds xs es ys : List Int) : Int := if arrE ds xs.length ≠ 0 then arrE ds xs.length else if arrE es ys.length ≠ 0 then arrE es ys.length else if ds = es then 0 else 6

set_option maxRecDepth 100000 in
set_option maxHeartbeats 4000000 in
theorem Inner_any (da : Option Addr) (dl dc : Nat) (ds : List Int) (xa : Option Addr) (xl xc : Nat) (xs : List Int) (ea : Option Addr) (el ec : Nat) (es : List Int) (ya : Option Addr) (yl yc : Nat) (ys : List Int) (w : World) (hd : Ints w da dl ds) (hx : Ints w xa xl xs) (he : Ints w ea el es) (hy : Ints w ya yl ys) :
    Calls Tryz.prog 56 #[.agg #[.slice da dl dc, .slice xa xl xc], .agg #[.slice ea el ec, .slice ya yl yc]] w fun e w' => e = .returned (.tuple #[.int .i64 (innerN ds xs es ys), .int .i64 (innerE ds xs es ys)]) ∧ Below w.heap.size w w' := by
  have HD := hide hd
  have HX := hide hx
  have HE := hide he
  have HY := hide hy
  have hb2 : Below w.heap.size w ((w.alloc (.cells #[.slice da dl dc, .slice xa xl xc] 101)).alloc (.cells #[.slice ea el ec, .slice ya yl yc] 101)) := bl_alloc (bl_alloc (Below.refl _ _))
  have HB2 := hide hb2
  have HA2 := hide ((ArrAt.new w (.slice da dl dc) (.slice xa xl xc)).alloc (.cells #[.slice ea el ec, .slice ya yl yc] 101))
  have hC := ArrAt.new (w.alloc (.cells #[.slice da dl dc, .slice xa xl xc] 101)) (.slice ea el ec) (.slice ya yl yc)
  simp only [World.size_alloc] at hC
  have HC2 := hide hC
  have lx := hx.1
  have ly := hy.1
  obtain ⟨E1, hE1⟩ : ∃ E1, arrE ds xl = E1 := ⟨_, rfl⟩
  obtain ⟨E2, hE2⟩ : ∃ E2, arrE es yl = E2 := ⟨_, rfl⟩
  have HE1 := hide hE1
  have HE2 := hide hE2
  clear hb2 hC hd hx he hy
  by_cases c1 : E1 ≠ 0
  · have e1 : innerN ds xs es ys = 0 := by unfold innerN; rw [lx, hE1, if_pos c1]
    have e2 : innerE ds xs es ys = E1 := by unfold innerE; rw [lx, hE1, if_pos c1]
    rw [e1, e2]
    have q : (E1 != 0) = true := by simp [c1]
    clear c1 e1 e2 hE1 hE2
    go_enter Tryz.func56, Tryz.ntmps56
    go_wp2_with (go_at_call_of 59 (Value.agg #[.slice da dl dc, .slice xa xl xc]); refine (awrong_any _ _ _ ds _ _ _ _ (HD.out.below HB2.out)).mono ?_; rintro e w1 ⟨rfl, hb⟩; rw [HE1.out]; have HB3 := hide (Below.on HB2.out hb); have HA3 := hide (HA2.out.below hb); have HC3 := hide (HC2.out.below hb); obtain ⟨⟨a0, a1⟩, _⟩ := HA3.out.cells; obtain ⟨⟨b0, b1⟩, _⟩ := HC3.out.cells; clear hb)
    go_ret2
    exact ⟨rfl, HB3.out⟩
  replace c1 : E1 = 0 := by simpa using c1
  subst c1
  by_cases c2 : E2 ≠ 0
  · have e1 : innerN ds xs es ys = 0 := by unfold innerN; rw [lx, hE1, if_neg (by simp), ly, hE2, if_pos c2]
    have e2 : innerE ds xs es ys = E2 := by unfold innerE; rw [lx, hE1, if_neg (by simp), ly, hE2, if_pos c2]
    rw [e1, e2]
    have q : (E2 != 0) = true := by simp [c2]
    clear c2 e1 e2 hE1 hE2
    go_enter Tryz.func56, Tryz.ntmps56
    go_wp2_with (first | (go_at_call_of 59 (Value.agg #[.slice da dl dc, .slice xa xl xc]); refine (awrong_any _ _ _ ds _ _ _ _ (HD.out.below HB2.out)).mono ?_; rintro e w1 ⟨rfl, hb⟩; rw [HE1.out]; have HB3 := hide (Below.on HB2.out hb); have HA3 := hide (HA2.out.below hb); have HC3 := hide (HC2.out.below hb); obtain ⟨⟨a0, a1⟩, _⟩ := HA3.out.cells; obtain ⟨⟨b0, b1⟩, _⟩ := HC3.out.cells; clear hb) | (go_at_call_of 59 (Value.agg #[.slice ea el ec, .slice ya yl yc]); refine (awrong_any _ _ _ es _ _ _ _ (HE.out.below HB3.out)).mono ?_; rintro e w2 ⟨rfl, hb⟩; rw [HE2.out]; have HB4 := hide (Below.on HB3.out hb); have HA4 := hide (HA3.out.below hb); have HC4 := hide (HC3.out.below hb); obtain ⟨⟨d0, d1⟩, _⟩ := HA4.out.cells; obtain ⟨⟨f0, f1⟩, _⟩ := HC4.out.cells; clear hb))
    go_ret2
    exact ⟨rfl, HB4.out⟩
  replace c2 : E2 = 0 := by simpa using c2
  subst c2
  by_cases c3 : ds = es
  · have hNx : (xl : Int) = sizeN ds := by
      unfold arrE at hE1
      by_cases c : sizeE ds = 0
      · rw [if_neg (by simp [c])] at hE1
        by_cases c' : (xl : Int) = sizeN ds
        · exact c'
        · rw [if_pos c'] at hE1; omega
      · rw [if_pos c] at hE1; exact absurd hE1 c
    have hNy : (yl : Int) = sizeN es := by
      unfold arrE at hE2
      by_cases c : sizeE es = 0
      · rw [if_neg (by simp [c])] at hE2
        by_cases c' : (yl : Int) = sizeN es
        · exact c'
        · rw [if_pos c'] at hE2; omega
      · rw [if_pos c] at hE2; exact absurd hE2 c
    have hxy : xl = yl := by rw [c3] at hNx; omega
    have e1 : innerN ds xs es ys = innS xs ys xl := by unfold innerN; rw [lx, hE1, if_neg (by simp), ly, hE2, if_neg (by simp), if_pos c3]
    have e2 : innerE ds xs es ys = 0 := by unfold innerE; rw [lx, hE1, if_neg (by simp), ly, hE2, if_neg (by simp), if_pos c3]
    rw [e1, e2]
    have HQ : Hid (decide (ds = es) = true) := by rw [Hid]; simp [c3]
    have hxm := HX.out.2.1
    have HXY := hide hxy
    clear hxy
    clear c3 e1 e2 hE1 hE2 hNx hNy
    go_enter Tryz.func56, Tryz.ntmps56
    go_wp2_with (first | (go_at_call_of 59 (Value.agg #[.slice da dl dc, .slice xa xl xc]); refine (awrong_any _ _ _ ds _ _ _ _ (HD.out.below HB2.out)).mono ?_; rintro e w1 ⟨rfl, hb⟩; rw [HE1.out]; have HB3 := hide (Below.on HB2.out hb); have HA3 := hide (HA2.out.below hb); have HC3 := hide (HC2.out.below hb); obtain ⟨⟨a0, a1⟩, _⟩ := HA3.out.cells; obtain ⟨⟨b0, b1⟩, _⟩ := HC3.out.cells; clear hb) | (go_at_call_of 59 (Value.agg #[.slice ea el ec, .slice ya yl yc]); refine (awrong_any _ _ _ es _ _ _ _ (HE.out.below HB3.out)).mono ?_; rintro e w2 ⟨rfl, hb⟩; rw [HE2.out]; have HB4 := hide (Below.on HB3.out hb); have HA4 := hide (HA3.out.below hb); have HC4 := hide (HC3.out.below hb); obtain ⟨⟨d0, d1⟩, _⟩ := HA4.out.cells; obtain ⟨⟨f0, f1⟩, _⟩ := HC4.out.cells; clear hb) | (go_at_call 63; refine (equal_any _ _ _ ds _ _ _ es _ (HD.out.below HB4.out) (HE.out.below HB4.out)).mono ?_; rintro e w3 ⟨rfl, m, rfl⟩; rw [HQ.out]; have HB5 := hide (below_drewN' HB4.out m)) | (go_at_call 64; refine (inner_any _ _ _ xs _ _ _ ys _ (HX.out.below HB5.out) (HY.out.below HB5.out) (Nat.le_of_eq HXY.out)).mono ?_; rintro e w4 ⟨rfl, rfl⟩))
    go_ret2
    exact ⟨rfl, HB5.out⟩
  · have e1 : innerN ds xs es ys = 0 := by unfold innerN; rw [lx, hE1, if_neg (by simp), ly, hE2, if_neg (by simp), if_neg c3]
    have e2 : innerE ds xs es ys = 6 := by unfold innerE; rw [lx, hE1, if_neg (by simp), ly, hE2, if_neg (by simp), if_neg c3]
    rw [e1, e2]
    have HQ : Hid (decide (ds = es) = false) := by rw [Hid]; simp [c3]
    clear c3 e1 e2 hE1 hE2
    go_enter Tryz.func56, Tryz.ntmps56
    go_wp2_with (first | (go_at_call_of 59 (Value.agg #[.slice da dl dc, .slice xa xl xc]); refine (awrong_any _ _ _ ds _ _ _ _ (HD.out.below HB2.out)).mono ?_; rintro e w1 ⟨rfl, hb⟩; rw [HE1.out]; have HB3 := hide (Below.on HB2.out hb); have HA3 := hide (HA2.out.below hb); have HC3 := hide (HC2.out.below hb); obtain ⟨⟨a0, a1⟩, _⟩ := HA3.out.cells; obtain ⟨⟨b0, b1⟩, _⟩ := HC3.out.cells; clear hb) | (go_at_call_of 59 (Value.agg #[.slice ea el ec, .slice ya yl yc]); refine (awrong_any _ _ _ es _ _ _ _ (HE.out.below HB3.out)).mono ?_; rintro e w2 ⟨rfl, hb⟩; rw [HE2.out]; have HB4 := hide (Below.on HB3.out hb); have HA4 := hide (HA3.out.below hb); have HC4 := hide (HC3.out.below hb); obtain ⟨⟨d0, d1⟩, _⟩ := HA4.out.cells; obtain ⟨⟨f0, f1⟩, _⟩ := HC4.out.cells; clear hb) | (go_at_call 63; refine (equal_any _ _ _ ds _ _ _ es _ (HD.out.below HB4.out) (HE.out.below HB4.out)).mono ?_; rintro e w3 ⟨rfl, m, rfl⟩; rw [HQ.out]; have HB5 := hide (below_drewN' HB4.out m)))
    go_ret2
    exact ⟨rfl, HB5.out⟩

end Go.Proofs.YtoabffmiedbkkaaGreat.V
