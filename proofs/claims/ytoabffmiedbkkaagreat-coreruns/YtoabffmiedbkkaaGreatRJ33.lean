/-
  Contract: adjointref1.Turn. Contract: adjointref1.Turn, whatever it is asked.
-/
import Derived.Test.YtoabffmiedbkkaaGreatRJ31
import Derived.Test.YtoabffmiedbkkaaGreatRJ32
import Derived.Deep.RegionLaw
import Derived.Deep.DeepCutAuto
import Derived.Deep.AppendLies
namespace Go.Proofs.YtoabffmiedbkkaaGreat.V
set_option maxRecDepth 20000
open Go.RowKit

theorem view_ne_row {w : World} {C : Nat} {c0 c1 c2 : Value} (h : ViewAt w C c0 c1 c2) {B n : Nat} {v : Value} {xs : List Value} (ho : w.ownsRow B 3 1 v n xs) : some C ≠ v.ownBlock := by
  rcases ho.2 with ⟨rfl, _⟩ | ⟨g, cap, cur, rfl, _, hgb, _⟩
  · simp [Value.ownBlock]
  · intro e'
    obtain rfl : C = g := by simpa [Value.ownBlock] using e'
    unfold ViewAt at h
    rw [h] at hgb
    simp at hgb
theorem ViewAt.grown {w w2 : World} {C : Nat} {c0 c1 c2 : Value} (h : ViewAt w C c0 c1 c2) {B n : Nat} {v : Value} {xs : List Value} {o : Obj} (ho : w.ownsRow B 3 1 v n xs) (hg : (w.alloc o).drew.grownBy w2 v.ownBlock) : ViewAt w2 C c0 c1 c2 :=
  (hg.block C (by show C < (w.alloc o).heap.size; have := h.lt; simp; omega) (view_ne_row h ho)).trans (h.alloc o)
end Go.Proofs.YtoabffmiedbkkaaGreat.V
namespace Go.Proofs.YtoabffmiedbkkaaGreat.V
set_option maxRecDepth 20000
open Go.RowKit

end Go.Proofs.YtoabffmiedbkkaaGreat.V
