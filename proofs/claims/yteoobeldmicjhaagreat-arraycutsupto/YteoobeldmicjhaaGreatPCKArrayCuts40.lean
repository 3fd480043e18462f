/-
  Contract: adjointref2.padEntry. Contracts: adjointref2.entry, kind by kind.
-/
import Derived.Test.YteoobeldmicjhaaGreatPCKArrayCuts39
import Derived.BigQuiet
namespace Go.Proofs.YteoobeldmicjhaaGreat.V
set_option maxRecDepth 20000
open Go.RowKit

end Go.Proofs.YteoobeldmicjhaaGreat.V
namespace Go.Proofs.YteoobeldmicjhaaGreat.V
set_option maxRecDepth 20000
open Go.RowKit

set_option maxRecDepth 100000 in
set_option maxHeartbeats 1000000 in
theorem rentry_join (x : Int) (vd va vl vh vs : Value) (A : Value) (aa : Option Addr) (al ac : Nat) (nn v : Int) (w : World)
    (hC : ∀ W, Below w.heap.size w W → Calls Tryz.prog 36 #[.agg #[.int .i64 17, vd, va, vl, vh, vs, .int .i64 x], A, .slice aa al ac] W fun e w' => e = .returned (.int .i64 v) ∧ Below W.heap.size W w') :
    Calls Tryz.prog 19 #[.agg #[.int .i64 17, vd, va, vl, vh, vs, .int .i64 x], A, .slice aa al ac, .int .i64 nn] w fun e w' => e = .returned (.int .i64 v) ∧ Below w.heap.size w w' := by
  have HB1 := hide ((Below.refl w.heap.size w).alloc (Nat.le_refl _) (.cells #[.int .i64 17, vd, va, vl, vh, vs, .int .i64 x] 31))
  have HOP := hide (OpAt.new w 17 vd va vl vh vs x)
  obtain ⟨o0, o1, o2, o3, o4, o5, o6⟩ := HOP.out.cells
  have HC := hide hC
  clear hC
  go_enter Tryz.func19, Tryz.ntmps19
  go_wp2_with (go_at_call 36; refine (HC.out _ HB1.out).mono ?_; rintro e w2 ⟨rfl, hb2⟩; have HB2 := hide (Below.on HB1.out hb2); clear hb2)
  go_ret
  exact ⟨rfl, HB2.out⟩

end Go.Proofs.YteoobeldmicjhaaGreat.V
