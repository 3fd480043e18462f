/-
  Plain mathematics: when places can be read in other dimensions.
-/
import Derived.Test.YtoagnhppjlcpkaaGreatRGReadsV
import Derived.BigRegion
import Derived.Test.YtoagnhppjlcpkaaGreatRGReads
namespace Go.Proofs.YtoagnhppjlcpkaaGreat.V
set_option maxRecDepth 20000

theorem beh_cons (d : Int) (ds : List Int) (k : Nat) : beh (d :: ds) (k + 1) = beh ds k := by simp [beh]
theorem beh_zero (d : Int) (ds : List Int) : beh (d :: ds) 0 = prod ds := by simp [beh]
end Go.Proofs.YtoagnhppjlcpkaaGreat.V

/-
  Contract: view.evenStep.
-/
namespace Go.Proofs.YtoagnhppjlcpkaaGreat.V
set_option maxRecDepth 20000
open Go.RowKit

end Go.Proofs.YtoagnhppjlcpkaaGreat.V

/-
  Contract: view.Reform, where the numbers fit.
-/
namespace Go.Proofs.YtoagnhppjlcpkaaGreat.V
set_option maxRecDepth 20000
open Go.RowKit Go.Shelf
attribute [local go_sem] Oper.semAt_some

theorem Below.ints {n : Nat} {w w' : World} {a : Option Addr} {len : Nat} {xs : List Int} (hB : Below n w w') (h : Ints w a len xs) (ha : ∀ b o, a = some ⟨b, o, none⟩ → 0 < len → b < n) : Ints w' a len xs := by
  obtain ⟨h1, h2, h3, h4⟩ := h
  refine ⟨h1, h2, h3, ?_⟩
  by_cases h0 : len = 0
  · exact .inl h0
  rcases h4 with h4 | ⟨b, off, e, hc⟩
  · exact .inl h4
  · exact .inr ⟨b, off, e, fun j hj => (hB.cell (p := ⟨b, off + j, none⟩) (ha b off e (by omega))).trans (hc j hj)⟩

theorem Keep.below {n₀ Bs : Nat} {W W' : World} (h : Below W.heap.size W W') (h1 : n₀ ≤ W.heap.size) (h2 : Bs < W.heap.size) : Keep n₀ Bs W W' := ⟨h.mono h1, h.block Bs h2⟩
end Go.Proofs.YtoagnhppjlcpkaaGreat.V

/-
  Contract: view.Reform, whatever it is asked.
-/
namespace Go.Proofs.YtoagnhppjlcpkaaGreat.V
set_option maxRecDepth 20000
open Go.RowKit Go.Shelf
attribute [local go_sem] Oper.semAt_some

/-- How the call begins. -/
structure Four (w : World) (s : Int) (da : Option Addr) (dl dc : Nat) (sa : Option Addr) (sl sc : Nat) (ea : Option Addr) (el ec : Nat) (W : World) : Prop where
  below : Below w.heap.size w W
  view : ViewAt W w.heap.size (.int .i64 s) (.slice da dl dc) (.slice sa sl sc)
  dims : Boxed W (w.heap.size + 1) 22 (.slice ea el ec)
  out : ViewAt W (w.heap.size + 1 + 1) (.int .i64 0) (.slice none 0 0) (.slice none 0 0)
  err : Boxed W (w.heap.size + 1 + 1 + 1) 29 (.int .i64 0)
theorem Four.on {w W W' : World} {s : Int} {da : Option Addr} {dl dc : Nat} {sa : Option Addr} {sl sc : Nat} {ea : Option Addr} {el ec : Nat} (h : Four w s da dl dc sa sl sc ea el ec W) (hb : Below W.heap.size W W') : Four w s da dl dc sa sl sc ea el ec W' :=
  ⟨Below.on h.below hb, h.view.below hb, (hb.block _ h.dims.lt).trans h.dims, h.out.below hb, (hb.block _ h.err.lt).trans h.err⟩
end Go.Proofs.YtoagnhppjlcpkaaGreat.V
