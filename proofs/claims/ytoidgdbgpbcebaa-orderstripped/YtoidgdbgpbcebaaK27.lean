/-
  Block g alone may have been written.
-/
import Derived.Test.YtoidgdbgpbcebaaK3
import Derived.Shelf.SlSortCmp.KitK
import Derived.Shelf.SlSortCmp.Kit1
import Derived.Lib.LazyBuf
import Derived.Deep.Upon
namespace Go.Proofs.Ytoidgdbgpbcebaa.V
open Go Go.Shelf Go.RowKit Go.Lib Go.Sort Go.Proofs
set_option linter.unusedVariables false

/-- Block g alone may have been written, and new blocks laid. -/
structure Rw (g : Nat) (W V : World) : Prop where
  grown : W.grownBy V (some g)
  blk : ∀ cur t z, W.heap[g]? = some (.cells cur t z) → ∃ cur', V.heap[g]? = some (.cells cur' t z)
theorem Rw.refl (g : Nat) (W : World) : Rw g W W := ⟨World.grownBy.refl W _, fun cur t z h => ⟨cur, h⟩⟩
theorem Rw.trans {g : Nat} {W V U : World} (h : Rw g W V) (k : Rw g V U) : Rw g W U := by
  refine ⟨⟨k.grown.os.trans h.grown.os, k.grown.tape.trans h.grown.tape, k.grown.output.trans h.grown.output, Nat.le_trans h.grown.size k.grown.size, fun i hi hne => (k.grown.block i (Nat.lt_of_lt_of_le hi h.grown.size) hne).trans (h.grown.block i hi hne)⟩, fun cur t z e => ?_⟩
  obtain ⟨c1, e1⟩ := h.blk cur t z e
  exact k.blk c1 t z e1
theorem Rw.of_below {g : Nat} {W V : World} (hg : g < W.heap.size) (h : Below W.heap.size W V) : Rw g W V :=
  ⟨⟨h.os, h.tape, h.output, h.size, fun i hi _ => h.block i hi⟩, fun cur t z e => ⟨cur, (h.block g hg).trans e⟩⟩
theorem Rw.below {g N : Nat} {W V : World} (h : Rw g W V) (hN : N ≤ g) (hW : N ≤ W.heap.size) : Below N W V :=
  ⟨h.grown.os, h.grown.tape, h.grown.output, h.grown.size, fun i hi => h.grown.block i (by omega) (fun e => by cases e; omega)⟩
theorem setCells_heap (g : Nat) : ∀ (vs : List Value) (o : Nat) (w : World) (cur : Array Value) (t : TypeId) (z : Nat × Nat), w.heap[g]? = some (.cells cur t z) → ∃ cur', (w.setCells g o vs).heap[g]? = some (.cells cur' t z)
  | [], o, w, cur, t, z, h => ⟨cur, h⟩
  | v :: r, o, w, cur, t, z, h => by
    rw [World.setCells]
    refine setCells_heap g r (o + 1) _ (cur.setIfInBounds o v) t z ?_
    rw [setCell_eq]
    unfold mapBlock onCells
    rw [Array.getElem?_modify, if_pos rfl, h]
    rfl
theorem Rw.set {g : Nat} (W : World) (o : Nat) (vs : List Value) (hg : g < W.heap.size) : Rw g W (W.setCells g o vs) := by
  have hb : Below g W (W.setCells g o vs) := below_setCells (Nat.le_refl g) vs o W (Below.refl _ _)
  refine ⟨⟨hb.os, hb.tape, hb.output, hb.size, fun i hi hne => World.heap_setCells_other W g o vs hi (fun e => hne (by rw [e]))⟩, fun cur t z e => setCells_heap g vs o W cur t z e⟩
theorem Rw.swk {α : Type} [Inhabited α] {enc : α → List Value} {k : Nat} {w0 W : World} {g off : Nat} {d : Array α} (h : SWK enc k w0 g off d W) (hg : g < w0.heap.size) : Rw g w0 W := by
  obtain ⟨n, os, rfl⟩ := h
  unfold sortWorldK putRowK putRow mapBlock
  refine ⟨⟨rfl, rfl, rfl, ?_, fun i hi hne => ?_⟩, fun cur t z e => ?_⟩
  · show w0.heap.size ≤ (w0.heap.modify g _ ++ os).size
    simp
  · show (w0.heap.modify g _ ++ os)[i]? = _
    rw [Array.getElem?_append_left (by simpa using hi), Array.getElem?_modify, if_neg (fun e => hne (by rw [e]))]
  · refine ⟨putCells id off (flatK enc k d) cur, ?_⟩
    show (w0.heap.modify g _ ++ os)[g]? = _
    rw [Array.getElem?_append_left (by simpa using hg), Array.getElem?_modify, if_pos rfl, e]
    rfl
theorem Rw.sw {α : Type} [Inhabited α] {enc : α → Value} {w0 W : World} {g off : Nat} {d : Array α} (h : SW enc w0 g off d W) (hg : g < w0.heap.size) : Rw g w0 W := by
  obtain ⟨n, os, rfl⟩ := h
  unfold sortWorld putRow mapBlock
  refine ⟨⟨rfl, rfl, rfl, ?_, fun i hi hne => ?_⟩, fun cur t z e => ?_⟩
  · show w0.heap.size ≤ (w0.heap.modify g _ ++ os).size
    simp
  · show (w0.heap.modify g _ ++ os)[i]? = _
    rw [Array.getElem?_append_left (by simpa using hi), Array.getElem?_modify, if_neg (fun e => hne (by rw [e]))]
  · refine ⟨putCells enc off d cur, ?_⟩
    show (w0.heap.modify g _ ++ os)[g]? = _
    rw [Array.getElem?_append_left (by simpa using hg), Array.getElem?_modify, if_pos rfl, e]
    rfl
theorem bl_grow (w : World) (n : Nat) (os : Array Obj) : Below w.heap.size w (grow (w.drewN n) os) := by
  refine ⟨rfl, rfl, rfl, ?_, fun k hk => ?_⟩
  · rw [size_grow]
    exact Nat.le_add_right _ _
  · show (w.heap ++ os)[k]? = w.heap[k]?
    rw [Array.getElem?_append_left hk]
/-- A cell of another block. -/
theorem Rw.cell {g : Nat} {W V : World} (h : Rw g W V) {b o : Nat} (hb : b < W.heap.size) (hne : b ≠ g) : V.cell? ⟨b, o, none⟩ = W.cell? ⟨b, o, none⟩ :=
  World.cell?_of_block (w := W) (w' := V) (a := ⟨b, o, none⟩) (h.grown.block b hb (fun e => hne (Option.some.inj e)))
end Go.Proofs.Ytoidgdbgpbcebaa.V
