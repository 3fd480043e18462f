/-
  What the law ArrayLinear needs besides: append onto one array, one0, linear. Contracts: array.Do, with a list of dimensions that can be handed on (a list that is nil has no room).
-/
import Derived.Test.YteoobeldmicjhaaGreatPAKArrayAdjoint42
import Derived.ArgAppend
import Derived.Laws.AppendOwnNone
import Derived.Test.YteoobeldmicjhaaGreatPAKArrayAdjoint41
namespace Go.Proofs.YteoobeldmicjhaaGreat.V
set_option maxRecDepth 20000
open Go Go.RowKit

/-- More arrays lie behind the first one. -/
def MoreAt (W : World) (B q : Nat) (vm : Nat → ArrV) : Prop := ∀ j, j < q → W.cell? ⟨B, 2 + j * 2, none⟩ = some (vm j).d ∧ W.cell? ⟨B, 2 + j * 2 + 1, none⟩ = some (vm j).x
theorem MoreAt.below {W W' : World} {B q : Nat} {vm : Nat → ArrV} (h : MoreAt W B q vm) (hb : Below W.heap.size W W') : MoreAt W' B q vm := fun j hj => ⟨(hb.cell (p := ⟨B, 2 + j * 2, none⟩) (lt_of_cell (h j hj).1)).trans (h j hj).1, (hb.cell (p := ⟨B, 2 + j * 2 + 1, none⟩) (lt_of_cell (h j hj).2)).trans (h j hj).2⟩
def fAgg (L f : List Int) (n : Nat) : Fact := ⟨fun v W => ∃ Z nz cz G, v = .agg #[.slice Z nz cz, .slice (some ⟨G, 0, none⟩) n n] ∧ (Ints W Z nz L ∧ nz ≤ cz) ∧ Ints W (some ⟨G, 0, none⟩) n f, false⟩
theorem fAgg_good (L f : List Int) (n : Nat) : (fAgg L f n).Good := ⟨fun _ _ _ ⟨Z, nz, cz, G, h1, ⟨h2, h3⟩, h4⟩ hb => ⟨Z, nz, cz, G, h1, ⟨h2.below hb, h3⟩, h4.below hb⟩, fun h => by cases h⟩
def fArr (N : Nat) : Fact := ⟨fun v W => ∃ C, v = .pointer (some ⟨C, 0, none⟩) ∧ ArrAt W C (.slice none 0 0) (.slice none 0 0) ∧ N ≤ C, true⟩
theorem fArr_good (N : Nat) : (fArr N).Good := ⟨fun _ _ _ ⟨C, h1, h2, h3⟩ hb => ⟨C, h1, h2.below hb, h3⟩, fun _ v w b ⟨C, h1, h2, h3⟩ hb => by
  rw [h1] at hb
  simp only [blk, Option.some.injEq] at hb
  rw [← hb]
  exact h2.lt⟩

end Go.Proofs.YteoobeldmicjhaaGreat.V
namespace Go.Proofs.YteoobeldmicjhaaGreat.V
set_option maxRecDepth 20000
open Go.RowKit

end Go.Proofs.YteoobeldmicjhaaGreat.V
