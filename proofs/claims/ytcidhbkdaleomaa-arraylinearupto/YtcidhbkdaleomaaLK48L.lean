/-
  ArrayLinear: the walk of the law, of whatever it is asked.
-/
import Derived.Test.YtcidhbkdaleomaaLK47L
namespace Go.Proofs.Ytcidhbkdaleomaa.V
set_option maxRecDepth 20000
open Go.RowKit

theorem arrayLinear_walk (k by' : Int) (x : Int) (ea : Option Addr) (el ec : Nat) (es : List Int) (pa : Option Addr) (pl pc : Nat) (ps : List Int) (la : Option Addr) (ll lc : Nat) (lo : List Int) (ha : Option Addr) (hl hc : Nat) (hi : List Int) (ta : Option Addr) (tl tc : Nat) (st : List Int) (da : Option Addr) (dl dc : Nat) (ds : List Int) (xa : Option Addr) (n xc : Nat) (xs : List Int) (fa : Option Addr) (fl fc : Nat) (gs : List Int) (ya : Option Addr) (m yc : Nat) (ys : List Int) (ma : Option Addr) (q mc : Nat) (vm : Nat → ArrV) (w : World) (zs : List Int)
    (he : Lst w ea el ec es) (hp : Lst w pa pl pc ps) (hlo : Lst w la ll lc lo) (hhi : Lst w ha hl hc hi) (hst : Lst w ta tl tc st) (b0 : el ≤ 1048576) (b1 : pl ≤ 1048576) (b2 : ll ≤ 1048576) (b3 : hl ≤ 1048576) (b4 : tl ≤ 1048576) (hda : Lst w da dl dc ds) (hxa : Ints w xa n xs) (hxc : n ≤ xc) (hdb : Lst w fa fl fc gs) (hxb : Ints w ya m ys) (hyc : m ≤ yc) (hma : q = 0 ∨ ∃ b off, ma = some ⟨b, off, none⟩ ∧ ∀ j, j < q → (w.cell? ⟨b, off + j * 2, none⟩ = some (vm j).d ∧ w.cell? ⟨b, off + j * 2 + 1, none⟩ = some (vm j).x) ∧ Lst w (vm j).da (vm j).dl (vm j).dc (vm j).ds) (hmn : ma = none → q = 0 ∧ mc = 0) (hq : q ≤ 1048575) (hz : 1 ≤ q → Ints w (vm 0).xa (vm 0).xl zs) (hby : -9223372036854775808 ≤ by' ∧ by' ≤ 9223372036854775807) :
    Calls Try.prog 6 #[.agg #[.int .i64 k, .slice ea el ec, .slice pa pl pc, .slice la ll lc, .slice ha hl hc, .slice ta tl tc, .int .i64 x], .agg #[.slice da dl dc, .slice xa n xc], .agg #[.slice fa fl fc, .slice ya m yc], .slice ma q mc, .int .i64 by'] w fun e w' => e = .returned (.bool true) ∧ Below w.heap.size w w' := by
  by_cases hk : linK k
  case neg => exact linear_not k by' (.slice ea el ec) (.slice pa pl pc) (.slice la ll lc) (.slice ha hl hc) (.slice ta tl tc) x da dl dc xa n xc fa fl fc ya m yc (.slice ma q mc) w hk
  by_cases hg : Alikes 2 (twoV2 da dl dc ds xa n xc fa fl fc gs ya m yc)
  case neg => exact linear_unlike k by' (.slice ea el ec) (.slice pa pl pc) (.slice la ll lc) (.slice ha hl hc) (.slice ta tl tc) x da dl dc ds xa n xc fa fl fc gs ya m yc (.slice ma q mc) w hk hda hdb hg
  by_cases hE : doE k es ps lo hi st (1 + q) (argsV ds n vm) = 0
  case neg => exact linear_err k by' x ea el ec es pa pl pc ps la ll lc lo ha hl hc hi ta tl tc st da dl dc ds xa n xc fa fl fc gs ya m yc ma q mc vm w he hp hlo hhi hst b0 b1 b2 b3 b4 hda hdb hma hmn hq hk hg hE
  have h0 : arrE ds n = 0 := (hg 0 (by omega)).1
  have h1 : arrE gs m = 0 := (hg 1 (by omega)).1
  have h2 : gs = ds := (hg 1 (by omega)).2
  subst h2
  have n0 := (arrE_ok h0).2.1
  have n1 := (arrE_ok h1).2.1
  obtain rfl : m = n := by omega
  obtain ⟨L, N, f, l1, l2, l3⟩ := linQ_any k hk x ea el ec es pa pl pc ps la ll lc lo ha hl hc hi ta tl tc st gs m q vm zs w he hp hlo hhi hst b0 b1 b2 b3 b4 (fun h => ⟨by
    rcases hma with h' | ⟨b, off, e, h'⟩
    · omega
    · exact (h' 0 (by omega)).2, hz h⟩) hE
  exact linear_all k by' x ea el ec pa pl pc la ll lc ha hl hc ta tl tc da dl dc gs xa m xc xs fa fl fc ya yc ys ma q mc vm w L N f hda hxa hxc hdb hxb hyc hma hmn hq hk hby h0 l1 l2 l3
end Go.Proofs.Ytcidhbkdaleomaa.V
