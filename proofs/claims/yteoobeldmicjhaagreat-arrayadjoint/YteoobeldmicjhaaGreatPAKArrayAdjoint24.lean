/-
  Contract: array.sides.
-/
import Derived.Test.YteoobeldmicjhaaGreatPAKArrayAdjoint22
import Derived.Test.YteoobeldmicjhaaGreatPAKArrayAdjoint9
import Derived.Test.YteoobeldmicjhaaGreatPAKArrayAdjoint11
import Derived.Deep.RegionHeld3
namespace Go.Proofs.YteoobeldmicjhaaGreat.V
set_option maxRecDepth 20000
open Go.RowKit

/-- A block that holds a side. -/
def SideAt (w : World) (b : Nat) (c0 c1 c2 : Value) : Prop := w.heap[b]? = some (.cells #[c0, c1, c2] 94 (0, 0))
theorem SideAt.lt {w : World} {b : Nat} {c0 c1 c2 : Value} (h : SideAt w b c0 c1 c2) : b < w.heap.size := (Array.getElem?_eq_some_iff.1 h).1
theorem SideAt.below {w w' : World} {b : Nat} {c0 c1 c2 : Value} (h : SideAt w b c0 c1 c2) (hb : Below w.heap.size w w') : SideAt w' b c0 c1 c2 := (hb.block b h.lt).trans h
theorem SideAt.alloc {w : World} {b : Nat} {c0 c1 c2 : Value} (h : SideAt w b c0 c1 c2) (o : Obj) : SideAt (w.alloc o) b c0 c1 c2 := (Below.heap_alloc _ _ _ h.lt).trans h
theorem SideAt.new (w : World) (c0 c1 c2 : Value) : SideAt (w.alloc (.cells #[c0, c1, c2] 94)) w.heap.size c0 c1 c2 := World.alloc_heap_new w _
theorem SideAt.cells {w : World} {b : Nat} {c0 c1 c2 : Value} (h : SideAt w b c0 c1 c2) : (w.cell? ⟨b, 0, none⟩ = some c0 ∧ w.cell? ⟨b, 1, none⟩ = some c1 ∧ w.cell? ⟨b, 2, none⟩ = some c2) ∧ w.frozen? ⟨b, 0, none⟩ = false ∧ w.frozen? ⟨b, 1, none⟩ = false ∧ w.frozen? ⟨b, 2, none⟩ = false := by
  unfold SideAt at h
  refine ⟨⟨?_, ?_, ?_⟩, ?_, ?_, ?_⟩ <;> simp [World.cell?, World.frozen?, h]

theorem SideAt.set {w : World} {b : Nat} {c0 c1 c2 : Value} (h : SideAt w b c0 c1 c2) {p : Addr} (hne : b ≠ p.block) (u : Value) : SideAt (w.setCell p u) b c0 c1 c2 := (Below.heap_setCell _ _ _ _ hne).trans h
theorem SideAt.set0 {w : World} {C : Nat} {c0 c1 c2 : Value} (h : SideAt w C c0 c1 c2) (u : Value) : SideAt (w.setCell ⟨C, 0, none⟩ u) C u c1 c2 := by
  unfold SideAt at *
  simp [World.setCell, Array.getElem?_modify, h]
theorem SideAt.set1 {w : World} {C : Nat} {c0 c1 c2 : Value} (h : SideAt w C c0 c1 c2) (u : Value) : SideAt (w.setCell ⟨C, 1, none⟩ u) C c0 u c2 := by
  unfold SideAt at *
  simp [World.setCell, Array.getElem?_modify, h]
theorem SideAt.set2 {w : World} {C : Nat} {c0 c1 c2 : Value} (h : SideAt w C c0 c1 c2) (u : Value) : SideAt (w.setCell ⟨C, 2, none⟩ u) C c0 c1 u := by
  unfold SideAt at *
  simp [World.setCell, Array.getElem?_modify, h]
/-- The world while the sides are looked at. -/
def SB (w : World) (k : Int) (vd va vl vh vs : Value) (x : Int) (wx : World) : Prop :=
  Below w.heap.size w wx ∧ OpAt wx w.heap.size k vd va vl vh vs x ∧ SideAt wx (w.heap.size + 1) (.slice none 0 0) (.slice none 0 0) (.slice none 0 0) ∧ SideAt wx (w.heap.size + 1 + 1) (.slice none 0 0) (.slice none 0 0) (.slice none 0 0)
theorem SB.on {w : World} {k : Int} {vd va vl vh vs : Value} {x : Int} {wx wy : World} (h : SB w k vd va vl vh vs x wx) (hb : Below wx.heap.size wx wy) : SB w k vd va vl vh vs x wy :=
  ⟨Below.on h.1 hb, h.2.1.below hb, h.2.2.1.below hb, h.2.2.2.below hb⟩
theorem SB.new (w : World) (k : Int) (vd va vl vh vs : Value) (x : Int) : SB w k vd va vl vh vs x (((w.alloc (.cells #[.int .i64 k, vd, va, vl, vh, vs, .int .i64 x] 31)).alloc (.cells #[.slice none 0 0, .slice none 0 0, .slice none 0 0] 94)).alloc (.cells #[.slice none 0 0, .slice none 0 0, .slice none 0 0] 94)) := by
  have h1 := (Below.refl w.heap.size w).alloc (Nat.le_refl _) (.cells #[.int .i64 k, vd, va, vl, vh, vs, .int .i64 x] 31)
  have h2 := h1.alloc h1.size (.cells #[.slice none 0 0, .slice none 0 0, .slice none 0 0] 94)
  have h3 := h2.alloc h2.size (.cells #[.slice none 0 0, .slice none 0 0, .slice none 0 0] 94)
  refine ⟨h3, ((OpAt.new w k vd va vl vh vs x).alloc _).alloc _, ?_, ?_⟩
  · have := (SideAt.new (w.alloc (.cells #[.int .i64 k, vd, va, vl, vh, vs, .int .i64 x] 31)) (.slice none 0 0) (.slice none 0 0) (.slice none 0 0)).alloc (.cells #[.slice none 0 0, .slice none 0 0, .slice none 0 0] 94)
    simpa using this
  · have := SideAt.new ((w.alloc (.cells #[.int .i64 k, vd, va, vl, vh, vs, .int .i64 x] 31)).alloc (.cells #[.slice none 0 0, .slice none 0 0, .slice none 0 0] 94)) (.slice none 0 0) (.slice none 0 0) (.slice none 0 0)
    simpa using this

end Go.Proofs.YteoobeldmicjhaaGreat.V
