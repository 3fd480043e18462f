/-
  A text has no more tokens than bytes.
-/
import Derived.Test.YtadhlnlcdljamaaGreatDoorTxScan
namespace Go.Proofs.YtadhlnlcdljamaaGreatDoor.V
set_option maxRecDepth 20000
open Go.RowKit
theorem scanN_len (xs : List Int) : ∀ (n k : Nat) (ts : List (List Int × Nat)), xs.length - k ≤ n → ts.length ≤ k → k ≤ xs.length → (scanN xs k ts).2.length ≤ xs.length := by
  intro n
  induction n with
  | zero =>
    intro k ts h1 h2 h3
    rw [scanN_end (by omega)]
    exact Nat.le_trans h2 h3
  | succ n ih =>
    intro k ts h1 h2 h3
    by_cases hk : k < xs.length
    · have he := pieceR_end hk
      by_cases h0 : (pieceR xs k).1 = 0
      · cases hb : (pieceR xs k).2.2 with
        | true =>
          rw [scanN_tok hk h0 hb]
          exact ih _ _ (by omega) (by rw [List.length_append]; show ts.length + 1 ≤ _; omega) he.2
        | false =>
          rw [scanN_none hk h0 hb]
          exact ih _ _ (by omega) (by omega) he.2
      · rw [scanN_bad hk h0]
        exact Nat.le_trans h2 h3
    · rw [scanN_end hk]
      exact Nat.le_trans h2 h3
end Go.Proofs.YtadhlnlcdljamaaGreatDoor.V
