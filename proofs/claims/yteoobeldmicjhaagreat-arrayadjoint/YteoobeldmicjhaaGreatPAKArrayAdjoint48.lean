/-
  ArrayRows: where the document's Do tells no error.
-/
import Derived.Test.YteoobeldmicjhaaGreatPAKArrayAdjoint47
import Derived.Test.YteoobeldmicjhaaGreatPAKArrayAdjoint43
import Derived.Test.YteoobeldmicjhaaGreatPAKArrayAdjoint12
import Derived.Test.YteoobeldmicjhaaGreatPAKArrayAdjoint41
namespace Go.Proofs.YteoobeldmicjhaaGreat.V
set_option maxRecDepth 20000
open Go.RowKit

theorem rowIs_ne_arr {w : World} {G B n : Nat} {f : Nat → Value} {c0 c1 : Value} (h : w.rowIs G 2 n f) (ha : ArrAt w B c0 c1) : G ≠ B := fun e => by
  subst e
  unfold ArrAt at ha
  unfold World.rowIs at h
  obtain ⟨cs, h1, _⟩ := h
  rw [h1] at ha
  cases ha
/-- A new row of noughts. -/
def fRowZ (N n : Nat) : Fact := ⟨fun v w => ∃ G, v = .slice (some ⟨G, 0, none⟩) n n ∧ w.rowIs G 2 n (fun _ => .int .i64 0) ∧ N ≤ G, false⟩
theorem fRowZ_good (N n : Nat) : (fRowZ N n).Good := ⟨fun _ _ _ ⟨G, h1, h2, h3⟩ hb => ⟨G, h1, h2.of_block (hb.block _ h2.lt), h3⟩, fun h => by cases h⟩
def fAggZ (N : Nat) (Z : Option Addr) (nz cz n : Nat) : Fact := ⟨fun v w => ∃ G, v = .agg #[.slice Z nz cz, .slice (some ⟨G, 0, none⟩) n n] ∧ w.rowIs G 2 n (fun _ => .int .i64 0) ∧ N ≤ G, false⟩
theorem fAggZ_good (N : Nat) (Z : Option Addr) (nz cz n : Nat) : (fAggZ N Z nz cz n).Good := ⟨fun _ _ _ ⟨G, h1, h2, h3⟩ hb => ⟨G, h1, h2.of_block (hb.block _ h2.lt), h3⟩, fun h => by cases h⟩

theorem FourAt.below {w w' : World} {b : Nat} {c0 c1 c2 c3 : Value} (h : FourAt w b c0 c1 c2 c3) (hb : Below w.heap.size w w') : FourAt w' b c0 c1 c2 c3 := (hb.block b (Array.getElem?_eq_some_iff.1 h).1).trans h
end Go.Proofs.YteoobeldmicjhaaGreat.V
