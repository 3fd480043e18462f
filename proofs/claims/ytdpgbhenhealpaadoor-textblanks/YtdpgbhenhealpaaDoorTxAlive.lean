/-
  Contract: adjointlaw3.alive.
-/
import Derived.Test.YtdpgbhenhealpaaDoorTxRef
import Derived.Test.YtdpgbhenhealpaaDoorTxLex
namespace Go.Proofs.YtdpgbhenhealpaaDoor.V
set_option maxRecDepth 20000
open Go.RowKit
set_option linter.unusedVariables false

theorem tokO_alive : (tokO ⟨#[97, 32, 98]⟩).1 = (0, 0) ∧ (tokO ⟨#[97, 32, 98]⟩).2.length = 2 := by
  have hx : xsOf ⟨#[97, 32, 98]⟩ = [97, 32, 98] := by decide
  have e : scanN [97, 32, 98] 0 [] = ((0, 0), [([97], 0), ([98], 2)]) := by
    have t1 : Tok [97] := ⟨by decide, by decide, by decide, .inl ⟨by decide, by decide⟩⟩
    have t2 : Tok [98] := ⟨by decide, by decide, by decide, .inl ⟨by decide, by decide⟩⟩
    have e1 := scan_tok [] [97] [32, 98] [] t1 (.inr (by decide))
    have e2 := scan_blank [97] 32 [98] [([97], 0)] (by decide)
    have e3 := scan_tok [97, 32] [98] [] [([97], 0)] t2 (.inl rfl)
    have e4 := scanN_end (xs := [97, 32, 98]) (k := 3) (by decide) [([97], 0), ([98], 2)]
    exact e1.trans (e2.trans (e3.trans e4))
  unfold tokO
  rw [if_neg (by decide), hx, e]
  exact ⟨rfl, rfl⟩

set_option maxRecDepth 100000 in
set_option maxHeartbeats 4000000 in
theorem alive_any (w : World) (hE : ErrAt w) (h2 : 2 < w.heap.size) :
    Calls Tryd.prog 4 #[] w fun e w' => e = .returned (.bool true) ∧ Below w.heap.size w w' := by
  have HT := hide (Tokens_any ⟨#[97, 32, 98]⟩ w (by decide) hE h2)
  unfold TokP at HT
  obtain ⟨q1, q2⟩ := tokO_alive
  rw [q1, q2] at HT
  clear q1 q2 hE h2
  go_enter Tryd.func4, Tryd.ntmps4
  go_wp2_with (first
    | (go_at_call 5; refine HT.out.mono ?_; rintro e w1 ⟨A, c, rfl, hA, hB⟩; have HB := hide hB; clear hA hB HT))
  go_ret
  exact ⟨rfl, HB.out.alloc HB.out.size _⟩
end Go.Proofs.YtdpgbhenhealpaaDoor.V
