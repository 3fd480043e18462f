/-
  Lists as values; append of a list to one of the call's own.
-/
import Derived.Test.YtoabffmiedbkkaaGreatRJ32
import Derived.Laws.AppendOwnNone
namespace Go.Proofs.YtoabffmiedbkkaaGreat.V
set_option maxRecDepth 20000
open Go.RowKit

/-- A list as a value. -/
def Lst (w : World) (X : Option Addr) (n c : Nat) (xs : List Int) : Prop := Ints w X n xs ∧ n ≤ c ∧ (X = none → n = 0)
theorem Ints.none {w : World} {n : Nat} {xs : List Int} (h : Ints w none n xs) : n = 0 := by
  rcases h.2.2.2 with e | ⟨b, off, e, _⟩
  · exact e
  · cases e
theorem Lst.below {w w' : World} {X : Option Addr} {n c : Nat} {xs : List Int} (h : Lst w X n c xs) (hb : Below w.heap.size w w') : Lst w' X n c xs := ⟨h.1.below hb, h.2⟩
end Go.Proofs.YtoabffmiedbkkaaGreat.V
