/-
  Contract: adjointlaw2.two, of right arrays with the same dimensions.
-/
import Derived.Test.YtiocknidgiccjacHArrDo
import Derived.Test.YtiocknidgiccjacGEven
namespace Go.Proofs.Ytiocknidgiccjac.V
open Go.RowKit

/-- A block of four values. -/
def FourAt (w : World) (b : Nat) (c0 c1 c2 c3 : Value) : Prop := w.heap[b]? = some (.cells #[c0, c1, c2, c3] 25 (0, 0))
theorem FourAt.new {w : World} {B : Nat} (c0 c1 c2 c3 : Value) (h : w.heap.size = B) : FourAt (w.alloc (.cells #[c0, c1, c2, c3] 25)) B c0 c1 c2 c3 := h ▸ World.alloc_heap_new w _
theorem FourAt.cells {w : World} {b : Nat} {c0 c1 c2 c3 : Value} (h : FourAt w b c0 c1 c2 c3) : w.cell? ⟨b, 0, none⟩ = some c0 ∧ w.cell? ⟨b, 1, none⟩ = some c1 ∧ w.cell? ⟨b, 2, none⟩ = some c2 ∧ w.cell? ⟨b, 3, none⟩ = some c3 := by
  unfold FourAt at h
  refine ⟨?_, ?_, ?_, ?_⟩ <;> simp [World.cell?, h]

set_option maxRecDepth 100000 in
set_option maxHeartbeats 2000000 in
theorem law_two (k : Int) (hk : k = 3 ∨ k = 4 ∨ k = 5) (da : Option Addr) (dl dc : Nat) (ea : Option Addr) (el ec : Nat) (ds : List Int) (n : Nat) (xa : Option Addr) (xc : Nat) (xs : List Int) (ya : Option Addr) (yc : Nat) (ys : List Int) (w : World)
    (hd : Ints w da dl ds) (he : Ints w ea el ds) (ix : Ints w xa n xs) (iy : Ints w ya n ys) (hE : arrE ds n = 0) :
    Calls Try.prog 7 #[.int .i64 k, .agg #[.slice da dl dc, .slice xa n xc], .agg #[.slice ea el ec, .slice ya n yc]] w fun e w' =>
      (∃ g G : Nat, e = .returned (.tuple #[.agg #[.slice (some ⟨g, 0, none⟩) dl dl, .slice (some ⟨G, 0, none⟩) n n], .bool true]) ∧ Ints w' (some ⟨g, 0, none⟩) dl ds ∧ Ints w' (some ⟨G, 0, none⟩) n (twoL k xs ys n)) ∧ Below w.heap.size w w' := by
  have HB1 := (Below.refl w.heap.size w).alloc (Nat.le_refl _) (.cells #[.slice da dl dc, .slice xa n xc] 25)
  have HB2 := HB1.alloc HB1.size (.cells #[.slice ea el ec, .slice ya n yc] 25)
  have HB3 := HB2.alloc HB2.size (.cells #[.slice none 0 0, .slice none 0 0] 25)
  have HB4 := hide (HB3.alloc HB3.size (.cells #[.slice da dl dc, .slice xa n xc, .slice ea el ec, .slice ya n yc] 25))
  have a1 := ((ArrAt.new w (.slice da dl dc) (.slice xa n xc)).alloc (.cells #[.slice ea el ec, .slice ya n yc] 25)).alloc (.cells #[.slice none 0 0, .slice none 0 0] 25)
  have a2 := (ArrAt.new (w.alloc (.cells #[.slice da dl dc, .slice xa n xc] 25)) (.slice ea el ec) (.slice ya n yc)).alloc (.cells #[.slice none 0 0, .slice none 0 0] 25)
  have a3 := (ArrAt.new ((w.alloc (.cells #[.slice da dl dc, .slice xa n xc] 25)).alloc (.cells #[.slice ea el ec, .slice ya n yc] 25)) (.slice none 0 0) (.slice none 0 0)).alloc (.cells #[.slice da dl dc, .slice xa n xc, .slice ea el ec, .slice ya n yc] 25)
  simp only [World.size_alloc] at a2 a3
  obtain ⟨⟨p0, p1⟩, _⟩ := a1.cells
  obtain ⟨⟨q0, q1⟩, _⟩ := a2.cells
  have HA3 := hide a3
  have f4 := FourAt.new (w := ((w.alloc (.cells #[.slice da dl dc, .slice xa n xc] 25)).alloc (.cells #[.slice ea el ec, .slice ya n yc] 25)).alloc (.cells #[.slice none 0 0, .slice none 0 0] 25)) (B := w.heap.size + 1 + 1 + 1) (.slice da dl dc) (.slice xa n xc) (.slice ea el ec) (.slice ya n yc) (by simp)
  obtain ⟨c0, c1, c2, c3⟩ := f4.cells
  have HS := hide (Do_two k hk (w.heap.size + 1 + 1 + 1) 0 2 da dl dc ea el ec ds n xa xc xs ya yc ys _ c0 c1 c2 c3 (hd.below HB4.out) (he.below HB4.out) (ix.below HB4.out) (iy.below HB4.out) hE)
  clear a1 a2 a3 f4 HB1 HB2 HB3 c0 c1 c2 c3 hd he ix iy
  go_enter Try.func7, Try.ntmps7
  go_wp2_with (go_at_call 11; refine HS.out.mono ?_; rintro e w1 ⟨⟨g, G, rfl, hi1, hi2, hg1, hg2⟩, hb⟩; simp only [World.size_alloc] at hg1 hg2; have HG := hide (And.intro hg1 hg2); clear hg1 hg2; have HI1 := hide hi1; have HI2 := hide hi2; have HB5 := hide (Below.on HB4.out hb); have HA5 := hide (HA3.out.below hb); have HA6 := hide (HA5.out.alloc (.cells #[.slice (some ⟨g, 0, none⟩) dl dl, .slice (some ⟨G, 0, none⟩) n n] 25)); have HB6 := hide (HB5.out.alloc HB5.out.size (.cells #[.slice (some ⟨g, 0, none⟩) dl dl, .slice (some ⟨G, 0, none⟩) n n] 25)); obtain ⟨⟨a0, a1⟩, fa0, fa1⟩ := HA6.out.cells; clear hi1 hi2 hb p0 p1 q0 q1)
  obtain ⟨⟨u0, u1⟩, _⟩ := (HA6.out.put (.slice (some ⟨g, 0, none⟩) dl dl) (.slice (some ⟨G, 0, none⟩) n n)).cells
  have hl := HA5.out.lt
  have HBF := hide ((HB6.out.setCell (p := ⟨w.heap.size + 1 + 1, 0, none⟩) (by simp; omega) (.slice (some ⟨g, 0, none⟩) dl dl)).setCell (p := ⟨w.heap.size + 1 + 1, 1, none⟩) (by simp; omega) (.slice (some ⟨G, 0, none⟩) n n))
  have hg := HG.out
  refine bodyPost_ret (v := .tuple #[.agg #[.slice (some ⟨g, 0, none⟩) dl dl, .slice (some ⟨G, 0, none⟩) n n], .bool true]) (by simp [results, Try.results7, go_sem, u0, u1]) rfl ⟨⟨g, G, rfl, ?_, ?_⟩, HBF.out⟩
  · exact ints_set1 (ints_set1 (HI1.out.below ((Below.refl _ _).alloc (Nat.le_refl _) _)) (by omega)) (by omega)
  · exact ints_set1 (ints_set1 (HI2.out.below ((Below.refl _ _).alloc (Nat.le_refl _) _)) (by omega)) (by omega)
end Go.Proofs.Ytiocknidgiccjac.V
