/-
  Contract: array.dot. Contract: array.work of Dot, over what dot does. Two dimensions: what may be asked, and what is read. Contracts: array.Do of a Dot of two matrices, and of a Turn of one.
-/
import Derived.Test.YteoobeldmicjhaaGreatPCKArrayCuts34
import Derived.Test.YteoobeldmicjhaaGreatPCKArrayCuts36
import Derived.Test.YteoobeldmicjhaaGreatPCKArrayCuts23
namespace Go.Proofs.YteoobeldmicjhaaGreat.V
set_option maxRecDepth 20000
open Go.RowKit

end Go.Proofs.YteoobeldmicjhaaGreat.V
namespace Go.Proofs.YteoobeldmicjhaaGreat.V
set_option maxRecDepth 20000
open Go.RowKit

end Go.Proofs.YteoobeldmicjhaaGreat.V
namespace Go.Proofs.YteoobeldmicjhaaGreat.V
set_option maxRecDepth 20000
open Go.RowKit

theorem sub_at (xs : List Int) (f l k : Nat) (h : k < l) : (sub xs f l)[k]?.getD 0 = xs[f + k]?.getD 0 := by
  simp [sub, List.getElem?_take_of_lt h]
end Go.Proofs.YteoobeldmicjhaaGreat.V
namespace Go.Proofs.YteoobeldmicjhaaGreat.V
set_option maxRecDepth 20000
open Go.RowKit

theorem lst_none (w : World) : Lst w none 0 0 [] := ⟨ints_nil w, Nat.le_refl _, fun _ => rfl⟩
end Go.Proofs.YteoobeldmicjhaaGreat.V
