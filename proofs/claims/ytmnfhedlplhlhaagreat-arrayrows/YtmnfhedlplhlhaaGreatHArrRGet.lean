/-
  Contract: adjointref2.Get.
-/
import Derived.Test.YtmnfhedlplhlhaaGreatGSteps
import Derived.Test.YtmnfhedlplhlhaaGreatHArrWrong
import Derived.Test.YtmnfhedlplhlhaaGreatGArrWork
namespace Go.Proofs.YtmnfhedlplhlhaaGreat.V
set_option maxRecDepth 20000
open Go.RowKit

set_option maxHeartbeats 1000000 in
theorem rget_any (da : Option Addr) (dl dc : Nat) (ds : List Int) (xa : Option Addr) (n xc : Nat) (xs : List Int) (a' : Option Addr) (len' cap' : Nat) (ys : List Int) (w : World) (p : Nat)
    (hd : Ints w da dl ds) (hdc : dl ≤ dc) (hx : Ints w xa n xs) (hy : Ints w a' len' ys) (hp : placeN ds ys = p) (hpn : p < n) :
    Calls Tryz.prog 42 #[.agg #[.slice da dl dc, .slice xa n xc], .slice a' len' cap'] w fun e w' => e = .returned (.int .i64 (xs[p]?.getD 0)) ∧ Below w.heap.size w w' := by
  have HD := hide hd
  have HY := hide hy
  have HX := hide hx
  have HP := hide hp
  have hm := hx.2.1
  obtain ⟨b, off, rfl, hc⟩ := hx.2.2.2.resolve_left (by omega)
  have hcp := hc p hpn
  have hbl : b < w.heap.size := lt_of_cell hcp
  have HC := hide hcp
  have HB1 := hide ((Below.refl w.heap.size w).alloc (Nat.le_refl _) (.cells #[.slice da dl dc, .slice (some ⟨b, off, none⟩) n xc] 28))
  have HAR := hide (ArrAt.new w (.slice da dl dc) (.slice (some ⟨b, off, none⟩) n xc))
  obtain ⟨⟨r0, r1⟩, _⟩ := HAR.out.cells
  clear hd hy hx hp hc hcp
  go_enter Tryz.func42, Tryz.ntmps42
  go_wp2_with (go_at_call 83; refine (rplace_any _ _ _ ds _ _ _ ys _ (HD.out.below HB1.out) (HY.out.below HB1.out) hdc).mono ?_; rintro e w1 ⟨rfl, hb⟩; rw [HP.out]; have HB2 := hide (Below.on HB1.out hb); have HAR2 := hide (HAR.out.below hb); clear r0 r1; obtain ⟨⟨r0, r1⟩, _⟩ := HAR2.out.cells; have g0 := (HB2.out.cell (p := ⟨b, off + p, none⟩) hbl).trans HC.out; clear hb)
  go_ret
  exact ⟨rfl, HB2.out⟩
end Go.Proofs.YtmnfhedlplhlhaaGreat.V
