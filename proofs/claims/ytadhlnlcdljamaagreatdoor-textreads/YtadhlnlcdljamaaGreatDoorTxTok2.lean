/-
  Contract: text.Tokens.
-/
import Derived.Test.YtadhlnlcdljamaaGreatDoorTxTok
namespace Go.Proofs.YtadhlnlcdljamaaGreatDoor.V
set_option maxRecDepth 20000
open Go.RowKit

theorem _root_.Go.World.grownBy.under {a b : World} {g B : Nat} (h : a.grownBy b (some g)) (hB : B ≤ g) (hs : B ≤ a.heap.size) : Below B a b :=
  ⟨h.os, h.tape, h.output, h.size, fun k hk => h.block k (by omega) (by intro e; cases e; omega)⟩

end Go.Proofs.YtadhlnlcdljamaaGreatDoor.V
