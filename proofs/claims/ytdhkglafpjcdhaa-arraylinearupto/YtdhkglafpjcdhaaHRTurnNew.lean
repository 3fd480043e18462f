/-
  Contract: adjointref1.Turn, and where its lists lie.
-/
import Derived.Test.YtdhkglafpjcdhaaGRTurn
import Derived.Test.YtdhkglafpjcdhaaGFlip
namespace Go.Proofs.Ytdhkglafpjcdhaa.V
open Go.RowKit

theorem own_farT {w : World} {B n c : Nat} {X : Option Addr} {xs : List Value} (h : w.ownsRow B 3 1 (.slice X n c) n xs) : Far B X := by
  rcases h.2 with ⟨h1, _⟩ | ⟨g, cap, cur, h1, h2, _⟩
  · cases h1; exact far_none _
  · cases h1; exact far_some h2

end Go.Proofs.Ytdhkglafpjcdhaa.V
