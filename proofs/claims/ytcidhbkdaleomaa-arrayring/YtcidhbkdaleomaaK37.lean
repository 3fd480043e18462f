/-
  ArrayRing: the walk of the law, of whatever arrays.
-/
import Derived.Test.YtcidhbkdaleomaaK36
namespace Go.Proofs.Ytcidhbkdaleomaa.V
set_option maxRecDepth 20000
open Go.RowKit

set_option maxRecDepth 100000 in
set_option maxHeartbeats 4000000 in
theorem arrayRing_walk (da : Option Addr) (dl dc : Nat) (ds : List Int) (xa : Option Addr) (n xc : Nat) (xs : List Int) (ea : Option Addr) (el ec : Nat) (es : List Int) (ya : Option Addr) (m yc : Nat) (ys : List Int) (fa : Option Addr) (fl fc : Nat) (fs : List Int) (za : Option Addr) (p zc : Nat) (zs : List Int) (w : World)
    (hda : Ints w da dl ds) (hxa : Ints w xa n xs) (hdb : Ints w ea el es) (hxb : Ints w ya m ys) (hdc : Ints w fa fl fs) (hxc : Ints w za p zs) :
    Calls Try.prog 5 #[.agg #[.slice da dl dc, .slice xa n xc], .agg #[.slice ea el ec, .slice ya m yc], .agg #[.slice fa fl fc, .slice za p zc]] w fun e w' => e = .returned (.bool true) ∧ Below w.heap.size w w' := by
  by_cases hg : Alikes 3 (fun j => if j = 0 then ⟨da, dl, dc, ds, xa, n, xc⟩ else if j = 1 then ⟨ea, el, ec, es, ya, m, yc⟩ else ⟨fa, fl, fc, fs, za, p, zc⟩)
  · obtain ⟨g0, _⟩ := hg 0 (by omega)
    obtain ⟨g1, e1⟩ := hg 1 (by omega)
    obtain ⟨g2, e2⟩ := hg 2 (by omega)
    have g0' : arrE ds n = 0 := g0
    have g1' : arrE es m = 0 := g1
    have g2' : arrE fs p = 0 := g2
    have e1' : es = ds := e1
    have e2' : fs = ds := e2
    subst e1' e2'
    have n0 := (arrE_ok g0').2.1
    have n1 := (arrE_ok g1').2.1
    have n2 := (arrE_ok g2').2.1
    obtain rfl : m = n := by omega
    obtain rfl : p = m := by omega
    exact ring_same da dl dc _ xa _ xc xs ea el ec ya yc ys fa fl fc za zc zs w hda hdb hdc hxa hxb hxc g0'
  have HDA := hide hda
  have HDB := hide hdb
  have HDC := hide hdc
  have HB1 := (Below.refl w.heap.size w).alloc (Nat.le_refl _) (.cells #[.slice da dl dc, .slice xa n xc] 28)
  have HB2 := HB1.alloc HB1.size (.cells #[.slice ea el ec, .slice ya m yc] 28)
  have HBW := hide (HB2.alloc HB2.size (.cells #[.slice fa fl fc, .slice za p zc] 28))
  have r1 := ((ArrAt.new w (.slice da dl dc) (.slice xa n xc)).alloc (.cells #[.slice ea el ec, .slice ya m yc] 28)).alloc (.cells #[.slice fa fl fc, .slice za p zc] 28)
  have r2 := (ArrAt.new (w.alloc (.cells #[.slice da dl dc, .slice xa n xc] 28)) (.slice ea el ec) (.slice ya m yc)).alloc (.cells #[.slice fa fl fc, .slice za p zc] 28)
  have r3 := ArrAt.new ((w.alloc (.cells #[.slice da dl dc, .slice xa n xc] 28)).alloc (.cells #[.slice ea el ec, .slice ya m yc] 28)) (.slice fa fl fc) (.slice za p zc)
  simp only [World.size_alloc] at r2 r3
  obtain ⟨⟨p0, p1⟩, _⟩ := r1.cells
  obtain ⟨⟨p2, p3⟩, _⟩ := r2.cells
  obtain ⟨⟨p4, p5⟩, _⟩ := r3.cells
  have f6 := SixAt.new (w := ((w.alloc (.cells #[.slice da dl dc, .slice xa n xc] 28)).alloc (.cells #[.slice ea el ec, .slice ya m yc] 28)).alloc (.cells #[.slice fa fl fc, .slice za p zc] 28)) (B := w.heap.size + 1 + 1 + 1) (.slice da dl dc) (.slice xa n xc) (.slice ea el ec) (.slice ya m yc) (.slice fa fl fc) (.slice za p zc) (by simp)
  obtain ⟨⟨k0, k1⟩, ⟨k2, k3⟩, k4, k5⟩ := f6.cells
  have HB4 := hide (HBW.out.alloc HBW.out.size (.cells #[.slice da dl dc, .slice xa n xc, .slice ea el ec, .slice ya m yc, .slice fa fl fc, .slice za p zc] 28))
  have HAL := hide (alike_any (w.heap.size + 1 + 1 + 1) 3 3 (fun j => if j = 0 then ⟨da, dl, dc, ds, xa, n, xc⟩ else if j = 1 then ⟨ea, el, ec, es, ya, m, yc⟩ else ⟨fa, fl, fc, fs, za, p, zc⟩) ((((w.alloc (.cells #[.slice da dl dc, .slice xa n xc] 28)).alloc (.cells #[.slice ea el ec, .slice ya m yc] 28)).alloc (.cells #[.slice fa fl fc, .slice za p zc] 28)).alloc (.cells #[.slice da dl dc, .slice xa n xc, .slice ea el ec, .slice ya m yc, .slice fa fl fc, .slice za p zc] 28)) (by omega) (by omega) (fun j hj => by
    have : j = 0 ∨ j = 1 ∨ j = 2 := by omega
    rcases this with rfl | rfl | rfl
    · exact ⟨k0, k1, HDA.out.below HB4.out⟩
    · exact ⟨k2, k3, HDB.out.below HB4.out⟩
    · exact ⟨k4, k5, HDC.out.below HB4.out⟩))
  have HNG := hide hg
  clear hda hdb hdc hxa hxb hxc r1 r2 r3 f6 k0 k1 k2 k3 k4 k5 HB1 HB2 hg
  go_enter Try.func5, Try.ntmps5
  go_wp2_with (go_at_call 19; refine HAL.out.mono ?_; rintro e wA ⟨hp, hb⟩; obtain ⟨rfl, _⟩ := hp.resolve_left (fun h => HNG.out h.2); have HBA := hide (Below.on HB4.out hb); clear hb p0 p1 p2 p3 p4 p5)
  go_ret
  exact ⟨rfl, HBA.out⟩
end Go.Proofs.Ytcidhbkdaleomaa.V
