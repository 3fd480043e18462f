/-
  ArrayRows: where the document's Do tells an error.
-/
import Derived.Test.YtoagnhppjlcpkaaGreatRGRAllC
import Derived.Test.YtoagnhppjlcpkaaGreatRGLinMath
import Derived.ArgAppend
import Derived.Laws.AppendOwnNone
import Derived.Test.YtoagnhppjlcpkaaGreatRHArrWrong
import Derived.Test.YtoagnhppjlcpkaaGreatRGCut
namespace Go.Proofs.YtoagnhppjlcpkaaGreat.V
set_option maxRecDepth 20000
open Go.RowKit

end Go.Proofs.YtoagnhppjlcpkaaGreat.V

/-
  What the law ArrayLinear needs besides: append onto one array, one0, linear.
-/
namespace Go.Proofs.YtoagnhppjlcpkaaGreat.V
set_option maxRecDepth 20000
open Go Go.RowKit

/-- More arrays lie behind the first one. -/
def MoreAt (W : World) (B q : Nat) (vm : Nat → ArrV) : Prop := ∀ j, j < q → W.cell? ⟨B, 2 + j * 2, none⟩ = some (vm j).d ∧ W.cell? ⟨B, 2 + j * 2 + 1, none⟩ = some (vm j).x
theorem MoreAt.below {W W' : World} {B q : Nat} {vm : Nat → ArrV} (h : MoreAt W B q vm) (hb : Below W.heap.size W W') : MoreAt W' B q vm := fun j hj => ⟨(hb.cell (p := ⟨B, 2 + j * 2, none⟩) (lt_of_cell (h j hj).1)).trans (h j hj).1, (hb.cell (p := ⟨B, 2 + j * 2 + 1, none⟩) (lt_of_cell (h j hj).2)).trans (h j hj).2⟩
def fAgg (L f : List Int) (n : Nat) : Fact := ⟨fun v W => ∃ Z nz cz G, v = .agg #[.slice Z nz cz, .slice (some ⟨G, 0, none⟩) n n] ∧ (Ints W Z nz L ∧ nz ≤ cz) ∧ Ints W (some ⟨G, 0, none⟩) n f, false⟩
theorem fAgg_good (L f : List Int) (n : Nat) : (fAgg L f n).Good := ⟨fun _ _ _ ⟨Z, nz, cz, G, h1, ⟨h2, h3⟩, h4⟩ hb => ⟨Z, nz, cz, G, h1, ⟨h2.below hb, h3⟩, h4.below hb⟩, fun h => by cases h⟩
def fArr (N : Nat) : Fact := ⟨fun v W => ∃ C, v = .pointer (some ⟨C, 0, none⟩) ∧ ArrAt W C (.slice none 0 0) (.slice none 0 0) ∧ N ≤ C, true⟩
theorem fArr_good (N : Nat) : (fArr N).Good := ⟨fun _ _ _ ⟨C, h1, h2, h3⟩ hb => ⟨C, h1, h2.below hb, h3⟩, fun _ v w b ⟨C, h1, h2, h3⟩ hb => by
  rw [h1] at hb
  simp only [blk, Option.some.injEq] at hb
  rw [← hb]
  exact h2.lt⟩

end Go.Proofs.YtoagnhppjlcpkaaGreat.V

/-
  Contracts: array.Inner, adjointref2.Inner; the walk of ArrayInner.
-/
namespace Go.Proofs.YtoagnhppjlcpkaaGreat.V
set_option maxRecDepth 20000
open Go.RowKit

def innerN (ds xs es ys : List Int) : Int := if arrE ds xs.length ≠ 0 then 0 else if arrE es ys.length ≠ 0 then 0 else if ds = es then innS xs ys xs.length else 0
def innerE (ds xs es ys : List Int) : Int := if arrE ds xs.length ≠ 0 then arrE ds xs.length else if arrE es ys.length ≠ 0 then arrE es ys.length else if ds = es then 0 else 6

set_option maxRecDepth 100000 in
set_option maxHeartbeats 4000000 in
theorem Inner_any (da : Option Addr) (dl dc : Nat) (ds : List Int) (xa : Option Addr) (xl xc : Nat) (xs : List Int) (ea : Option Addr) (el ec : Nat) (es : List Int) (ya : Option Addr) (yl yc : Nat) (ys : List Int) (w : World) (hd : Ints w da dl ds) (hx : Ints w xa xl xs) (he : Ints w ea el es) (hy : Ints w ya yl ys) :
    Calls Tryz.prog 14 #[.agg #[.slice da dl dc, .slice xa xl xc], .agg #[.slice ea el ec, .slice ya yl yc]] w fun e w' => e = .returned (.tuple #[.int .i64 (innerN ds xs es ys), .int .i64 (innerE ds xs es ys)]) ∧ Below w.heap.size w w' := by
  have HD := hide hd
  have HX := hide hx
  have HE := hide he
  have HY := hide hy
  have hb2 : Below w.heap.size w ((w.alloc (.cells #[.slice da dl dc, .slice xa xl xc] 28)).alloc (.cells #[.slice ea el ec, .slice ya yl yc] 28)) := bl_alloc (bl_alloc (Below.refl _ _))
  have HB2 := hide hb2
  have HA2 := hide ((ArrAt.new w (.slice da dl dc) (.slice xa xl xc)).alloc (.cells #[.slice ea el ec, .slice ya yl yc] 28))
  have hC := ArrAt.new (w.alloc (.cells #[.slice da dl dc, .slice xa xl xc] 28)) (.slice ea el ec) (.slice ya yl yc)
  simp only [World.size_alloc] at hC
  have HC2 := hide hC
  have lx := hx.1
  have ly := hy.1
  obtain ⟨E1, hE1⟩ : ∃ E1, arrE ds xl = E1 := ⟨_, rfl⟩
  obtain ⟨E2, hE2⟩ : ∃ E2, arrE es yl = E2 := ⟨_, rfl⟩
  have HE1 := hide hE1
  have HE2 := hide hE2
  clear hb2 hC hd hx he hy
  by_cases c1 : E1 ≠ 0
  · have e1 : innerN ds xs es ys = 0 := by unfold innerN; rw [lx, hE1, if_pos c1]
    have e2 : innerE ds xs es ys = E1 := by unfold innerE; rw [lx, hE1, if_pos c1]
    rw [e1, e2]
    have q : (E1 != 0) = true := by simp [c1]
    clear c1 e1 e2 hE1 hE2
    go_enter Tryz.func14, Tryz.ntmps14
    go_wp2_with (go_at_call_of 16 (Value.agg #[.slice da dl dc, .slice xa xl xc]); refine (awrong_any _ _ _ ds _ _ _ _ (HD.out.below HB2.out)).mono ?_; rintro e w1 ⟨rfl, hb⟩; rw [HE1.out]; have HB3 := hide (Below.on HB2.out hb); have HA3 := hide (HA2.out.below hb); have HC3 := hide (HC2.out.below hb); obtain ⟨⟨a0, a1⟩, _⟩ := HA3.out.cells; obtain ⟨⟨b0, b1⟩, _⟩ := HC3.out.cells; clear hb)
    go_ret2
    exact ⟨rfl, HB3.out⟩
  replace c1 : E1 = 0 := by simpa using c1
  subst c1
  by_cases c2 : E2 ≠ 0
  · have e1 : innerN ds xs es ys = 0 := by unfold innerN; rw [lx, hE1, if_neg (by simp), ly, hE2, if_pos c2]
    have e2 : innerE ds xs es ys = E2 := by unfold innerE; rw [lx, hE1, if_neg (by simp), ly, hE2, if_pos c2]
    rw [e1, e2]
    have q : (E2 != 0) = true := by simp [c2]
    clear c2 e1 e2 hE1 hE2
    go_enter Tryz.func14, Tryz.ntmps14
    go_wp2_with (first | (go_at_call_of 16 (Value.agg #[.slice da dl dc, .slice xa xl xc]); refine (awrong_any _ _ _ ds _ _ _ _ (HD.out.below HB2.out)).mono ?_; rintro e w1 ⟨rfl, hb⟩; rw [HE1.out]; have HB3 := hide (Below.on HB2.out hb); have HA3 := hide (HA2.out.below hb); have HC3 := hide (HC2.out.below hb); obtain ⟨⟨a0, a1⟩, _⟩ := HA3.out.cells; obtain ⟨⟨b0, b1⟩, _⟩ := HC3.out.cells; clear hb) | (go_at_call_of 16 (Value.agg #[.slice ea el ec, .slice ya yl yc]); refine (awrong_any _ _ _ es _ _ _ _ (HE.out.below HB3.out)).mono ?_; rintro e w2 ⟨rfl, hb⟩; rw [HE2.out]; have HB4 := hide (Below.on HB3.out hb); have HA4 := hide (HA3.out.below hb); have HC4 := hide (HC3.out.below hb); obtain ⟨⟨d0, d1⟩, _⟩ := HA4.out.cells; obtain ⟨⟨f0, f1⟩, _⟩ := HC4.out.cells; clear hb))
    go_ret2
    exact ⟨rfl, HB4.out⟩
  replace c2 : E2 = 0 := by simpa using c2
  subst c2
  by_cases c3 : ds = es
  · have hNx : (xl : Int) = sizeN ds := by
      unfold arrE at hE1
      by_cases c : sizeE ds = 0
      · rw [if_neg (by simp [c])] at hE1
        by_cases c' : (xl : Int) = sizeN ds
        · exact c'
        · rw [if_pos c'] at hE1; omega
      · rw [if_pos c] at hE1; exact absurd hE1 c
    have hNy : (yl : Int) = sizeN es := by
      unfold arrE at hE2
      by_cases c : sizeE es = 0
      · rw [if_neg (by simp [c])] at hE2
        by_cases c' : (yl : Int) = sizeN es
        · exact c'
        · rw [if_pos c'] at hE2; omega
      · rw [if_pos c] at hE2; exact absurd hE2 c
    have hxy : xl = yl := by rw [c3] at hNx; omega
    have e1 : innerN ds xs es ys = innS xs ys xl := by unfold innerN; rw [lx, hE1, if_neg (by simp), ly, hE2, if_neg (by simp), if_pos c3]
    have e2 : innerE ds xs es ys = 0 := by unfold innerE; rw [lx, hE1, if_neg (by simp), ly, hE2, if_neg (by simp), if_pos c3]
    rw [e1, e2]
    have HQ : Hid (decide (ds = es) = true) := by rw [Hid]; simp [c3]
    have hxm := HX.out.2.1
    have HXY := hide hxy
    clear hxy
    clear c3 e1 e2 hE1 hE2 hNx hNy
    go_enter Tryz.func14, Tryz.ntmps14
    go_wp2_with (first | (go_at_call_of 16 (Value.agg #[.slice da dl dc, .slice xa xl xc]); refine (awrong_any _ _ _ ds _ _ _ _ (HD.out.below HB2.out)).mono ?_; rintro e w1 ⟨rfl, hb⟩; rw [HE1.out]; have HB3 := hide (Below.on HB2.out hb); have HA3 := hide (HA2.out.below hb); have HC3 := hide (HC2.out.below hb); obtain ⟨⟨a0, a1⟩, _⟩ := HA3.out.cells; obtain ⟨⟨b0, b1⟩, _⟩ := HC3.out.cells; clear hb) | (go_at_call_of 16 (Value.agg #[.slice ea el ec, .slice ya yl yc]); refine (awrong_any _ _ _ es _ _ _ _ (HE.out.below HB3.out)).mono ?_; rintro e w2 ⟨rfl, hb⟩; rw [HE2.out]; have HB4 := hide (Below.on HB3.out hb); have HA4 := hide (HA3.out.below hb); have HC4 := hide (HC3.out.below hb); obtain ⟨⟨d0, d1⟩, _⟩ := HA4.out.cells; obtain ⟨⟨f0, f1⟩, _⟩ := HC4.out.cells; clear hb) | (go_at_call 25; refine (equal_any _ _ _ ds _ _ _ es _ (HD.out.below HB4.out) (HE.out.below HB4.out)).mono ?_; rintro e w3 ⟨rfl, m, rfl⟩; rw [HQ.out]; have HB5 := hide (below_drewN' HB4.out m)) | (go_at_call 26; refine (inner_any _ _ _ xs _ _ _ ys _ (HX.out.below HB5.out) (HY.out.below HB5.out) (Nat.le_of_eq HXY.out)).mono ?_; rintro e w4 ⟨rfl, rfl⟩))
    go_ret2
    exact ⟨rfl, HB5.out⟩
  · have e1 : innerN ds xs es ys = 0 := by unfold innerN; rw [lx, hE1, if_neg (by simp), ly, hE2, if_neg (by simp), if_neg c3]
    have e2 : innerE ds xs es ys = 6 := by unfold innerE; rw [lx, hE1, if_neg (by simp), ly, hE2, if_neg (by simp), if_neg c3]
    rw [e1, e2]
    have HQ : Hid (decide (ds = es) = false) := by rw [Hid]; simp [c3]
    clear c3 e1 e2 hE1 hE2
    go_enter Tryz.func14, Tryz.ntmps14
    go_wp2_with (first | (go_at_call_of 16 (Value.agg #[.slice da dl dc, .slice xa xl xc]); refine (awrong_any _ _ _ ds _ _ _ _ (HD.out.below HB2.out)).mono ?_; rintro e w1 ⟨rfl, hb⟩; rw [HE1.out]; have HB3 := hide (Below.on HB2.out hb); have HA3 := hide (HA2.out.below hb); have HC3 := hide (HC2.out.below hb); obtain ⟨⟨a0, a1⟩, _⟩ := HA3.out.cells; obtain ⟨⟨b0, b1⟩, _⟩ := HC3.out.cells; clear hb) | (go_at_call_of 16 (Value.agg #[.slice ea el ec, .slice ya yl yc]); refine (awrong_any _ _ _ es _ _ _ _ (HE.out.below HB3.out)).mono ?_; rintro e w2 ⟨rfl, hb⟩; rw [HE2.out]; have HB4 := hide (Below.on HB3.out hb); have HA4 := hide (HA3.out.below hb); have HC4 := hide (HC3.out.below hb); obtain ⟨⟨d0, d1⟩, _⟩ := HA4.out.cells; obtain ⟨⟨f0, f1⟩, _⟩ := HC4.out.cells; clear hb) | (go_at_call 25; refine (equal_any _ _ _ ds _ _ _ es _ (HD.out.below HB4.out) (HE.out.below HB4.out)).mono ?_; rintro e w3 ⟨rfl, m, rfl⟩; rw [HQ.out]; have HB5 := hide (below_drewN' HB4.out m)))
    go_ret2
    exact ⟨rfl, HB5.out⟩

end Go.Proofs.YtoagnhppjlcpkaaGreat.V

/-
  Where rows can be taken they can be put back: the dimensions.
-/
namespace Go.Proofs.YtoagnhppjlcpkaaGreat.V
set_option maxRecDepth 20000
open Go.RowKit

end Go.Proofs.YtoagnhppjlcpkaaGreat.V

/-
  Contracts: array.Do, with a list of dimensions that can be handed on (a list that is nil has no room).
-/
namespace Go.Proofs.YtoagnhppjlcpkaaGreat.V
set_option maxRecDepth 20000
open Go.RowKit

end Go.Proofs.YtoagnhppjlcpkaaGreat.V

/-
  ArrayRows: where the document's Do tells no error.
-/
namespace Go.Proofs.YtoagnhppjlcpkaaGreat.V
set_option maxRecDepth 20000
open Go.RowKit

theorem rowIs_ne_arr {w : World} {G B n : Nat} {f : Nat → Value} {c0 c1 : Value} (h : w.rowIs G 2 n f) (ha : ArrAt w B c0 c1) : G ≠ B := fun e => by
  subst e
  unfold ArrAt at ha
  unfold World.rowIs at h
  obtain ⟨cs, h1, _⟩ := h
  rw [h1] at ha
  cases ha
/-- A new row of noughts. -/
def fRowZ (N n : Nat) : Fact := ⟨fun v w => ∃ G, v = .slice (some ⟨G, 0, none⟩) n n ∧ w.rowIs G 2 n (fun _ => .int .i64 0) ∧ N ≤ G, false⟩
theorem fRowZ_good (N n : Nat) : (fRowZ N n).Good := ⟨fun _ _ _ ⟨G, h1, h2, h3⟩ hb => ⟨G, h1, h2.of_block (hb.block _ h2.lt), h3⟩, fun h => by cases h⟩
def fAggZ (N : Nat) (Z : Option Addr) (nz cz n : Nat) : Fact := ⟨fun v w => ∃ G, v = .agg #[.slice Z nz cz, .slice (some ⟨G, 0, none⟩) n n] ∧ w.rowIs G 2 n (fun _ => .int .i64 0) ∧ N ≤ G, false⟩
theorem fAggZ_good (N : Nat) (Z : Option Addr) (nz cz n : Nat) : (fAggZ N Z nz cz n).Good := ⟨fun _ _ _ ⟨G, h1, h2, h3⟩ hb => ⟨G, h1, h2.of_block (hb.block _ h2.lt), h3⟩, fun h => by cases h⟩

theorem FourAt.below {w w' : World} {b : Nat} {c0 c1 c2 c3 : Value} (h : FourAt w b c0 c1 c2 c3) (hb : Below w.heap.size w w') : FourAt w' b c0 c1 c2 c3 := (hb.block b (Array.getElem?_eq_some_iff.1 h).1).trans h
end Go.Proofs.YtoagnhppjlcpkaaGreat.V
