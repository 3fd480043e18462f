/-
  Seven cells in memory: a tree. The reader: chain.
-/
import Derived.Test.YtadhlnlcdljamaaGreatDoorTxBrack
namespace Go.Proofs.YtadhlnlcdljamaaGreatDoor.V
set_option maxRecDepth 20000
open Go.RowKit

/-- A tree's cells. -/
def SevAt (w : World) (b : Nat) (c0 c1 c2 c3 c4 c5 c6 : Value) : Prop := w.heap[b]? = some (.cells #[c0, c1, c2, c3, c4, c5, c6] 47 (0, 0))
section
variable {w w' : World} {b : Nat} {c0 c1 c2 c3 c4 c5 c6 : Value}
theorem SevAt.lt (h : SevAt w b c0 c1 c2 c3 c4 c5 c6) : b < w.heap.size := (Array.getElem?_eq_some_iff.1 h).1
theorem SevAt.below (h : SevAt w b c0 c1 c2 c3 c4 c5 c6) (hb : Below w.heap.size w w') : SevAt w' b c0 c1 c2 c3 c4 c5 c6 := (hb.block b h.lt).trans h
theorem SevAt.grown {row : Option Nat} (h : SevAt w b c0 c1 c2 c3 c4 c5 c6) (hg : w.grownBy w' row) (hne : some b ≠ row) : SevAt w' b c0 c1 c2 c3 c4 c5 c6 := (hg.block b h.lt hne).trans h
theorem SevAt.alloc (h : SevAt w b c0 c1 c2 c3 c4 c5 c6) (o : Obj) : SevAt (w.alloc o) b c0 c1 c2 c3 c4 c5 c6 := (Below.heap_alloc _ _ _ h.lt).trans h
theorem SevAt.new (w : World) (c0 c1 c2 c3 c4 c5 c6 : Value) : SevAt (w.alloc (.cells #[c0, c1, c2, c3, c4, c5, c6] 47)) w.heap.size c0 c1 c2 c3 c4 c5 c6 := World.alloc_heap_new w _
theorem SevAt.cells (h : SevAt w b c0 c1 c2 c3 c4 c5 c6) : w.cell? ⟨b, 0, none⟩ = some c0 ∧ w.cell? ⟨b, 1, none⟩ = some c1 ∧ w.cell? ⟨b, 2, none⟩ = some c2 ∧ w.cell? ⟨b, 3, none⟩ = some c3 ∧ w.cell? ⟨b, 4, none⟩ = some c4 ∧ w.cell? ⟨b, 5, none⟩ = some c5 ∧ w.cell? ⟨b, 6, none⟩ = some c6 := by
  unfold SevAt at h
  refine ⟨?_, ?_, ?_, ?_, ?_, ?_, ?_⟩ <;> simp [World.cell?, h]
theorem SevAt.frozen (h : SevAt w b c0 c1 c2 c3 c4 c5 c6) : w.frozen? ⟨b, 0, none⟩ = false ∧ w.frozen? ⟨b, 1, none⟩ = false ∧ w.frozen? ⟨b, 2, none⟩ = false ∧ w.frozen? ⟨b, 3, none⟩ = false ∧ w.frozen? ⟨b, 4, none⟩ = false ∧ w.frozen? ⟨b, 5, none⟩ = false ∧ w.frozen? ⟨b, 6, none⟩ = false := by
  unfold SevAt at h
  refine ⟨?_, ?_, ?_, ?_, ?_, ?_, ?_⟩ <;> simp [World.frozen?, h]
theorem SevAt.put (h : SevAt w b c0 c1 c2 c3 c4 c5 c6) (d0 d1 d2 d3 d4 d5 d6 : Value) : SevAt (((((((w.setCell ⟨b, 0, none⟩ d0).setCell ⟨b, 1, none⟩ d1).setCell ⟨b, 2, none⟩ d2).setCell ⟨b, 3, none⟩ d3).setCell ⟨b, 4, none⟩ d4).setCell ⟨b, 5, none⟩ d5).setCell ⟨b, 6, none⟩ d6) b d0 d1 d2 d3 d4 d5 d6 := by
  unfold SevAt at *
  simp [World.setCell, Array.getElem?_modify, h]
theorem SevAt.out (w : World) (b : Nat) (d0 d1 d2 d3 d4 d5 d6 : Value) : w.grownBy (((((((w.setCell ⟨b, 0, none⟩ d0).setCell ⟨b, 1, none⟩ d1).setCell ⟨b, 2, none⟩ d2).setCell ⟨b, 3, none⟩ d3).setCell ⟨b, 4, none⟩ d4).setCell ⟨b, 5, none⟩ d5).setCell ⟨b, 6, none⟩ d6) (some b) :=
  ((((((set_out w b 0 d0).then' (set_out _ b 1 d1)).then' (set_out _ b 2 d2)).then' (set_out _ b 3 d3)).then' (set_out _ b 4 d4)).then' (set_out _ b 5 d5)).then' (set_out _ b 6 d6)
theorem SevAt.set0 (h : SevAt w b c0 c1 c2 c3 c4 c5 c6) (d : Value) : SevAt (w.setCell ⟨b, 0, none⟩ d) b d c1 c2 c3 c4 c5 c6 := by
  unfold SevAt at *
  simp [World.setCell, Array.getElem?_modify, h]
theorem SevAt.set1 (h : SevAt w b c0 c1 c2 c3 c4 c5 c6) (d : Value) : SevAt (w.setCell ⟨b, 1, none⟩ d) b c0 d c2 c3 c4 c5 c6 := by
  unfold SevAt at *
  simp [World.setCell, Array.getElem?_modify, h]
theorem SevAt.set2 (h : SevAt w b c0 c1 c2 c3 c4 c5 c6) (d : Value) : SevAt (w.setCell ⟨b, 2, none⟩ d) b c0 c1 d c3 c4 c5 c6 := by
  unfold SevAt at *
  simp [World.setCell, Array.getElem?_modify, h]
theorem SevAt.set3 (h : SevAt w b c0 c1 c2 c3 c4 c5 c6) (d : Value) : SevAt (w.setCell ⟨b, 3, none⟩ d) b c0 c1 c2 d c4 c5 c6 := by
  unfold SevAt at *
  simp [World.setCell, Array.getElem?_modify, h]
theorem SevAt.set4 (h : SevAt w b c0 c1 c2 c3 c4 c5 c6) (d : Value) : SevAt (w.setCell ⟨b, 4, none⟩ d) b c0 c1 c2 c3 d c5 c6 := by
  unfold SevAt at *
  simp [World.setCell, Array.getElem?_modify, h]
theorem SevAt.set5 (h : SevAt w b c0 c1 c2 c3 c4 c5 c6) (d : Value) : SevAt (w.setCell ⟨b, 5, none⟩ d) b c0 c1 c2 c3 c4 d c6 := by
  unfold SevAt at *
  simp [World.setCell, Array.getElem?_modify, h]
theorem SevAt.set6 (h : SevAt w b c0 c1 c2 c3 c4 c5 c6) (d : Value) : SevAt (w.setCell ⟨b, 6, none⟩ d) b c0 c1 c2 c3 c4 c5 d := by
  unfold SevAt at *
  simp [World.setCell, Array.getElem?_modify, h]
end
/-- A tree as a value. -/
def repT (w0 : World) (w : World) (t : Tr) (v : Value) : Prop := ∃ (k : Int) (nm : ByteArray) (nu : Int) (sh : Bool) (A : Option Addr) (n m : Nat) (A' : Option Addr) (n' m' : Nat) (A'' : Option Addr) (n'' m'' : Nat),
  v = .agg #[.int .i64 k, .string nm, .int .i64 nu, .bool sh, .slice A n m, .slice A' n' m', .slice A'' n'' m''] ∧ TreeV w (from_ w0) t [.int .i64 k, .string nm, .int .i64 nu, .bool sh, .slice A n m, .slice A' n' m', .slice A'' n'' m'']
theorem SliceV.form {α : Type} {p : World → (Nat → Prop) → α → List Value → Prop} {w : World} {S : Nat → Prop} {us : List α} {v : Value} (h : SliceV p w S us v) : ∃ A c, v = .slice A us.length c := by
  obtain ⟨cs, ⟨A, c, rfl, _⟩, _⟩ := h
  exact ⟨A, c, rfl⟩
theorem TreeV.form {w : World} {S : Nat → Prop} {t : Tr} {cs : List Value} (h : TreeV w S t cs) : ∃ (k : Int) (nm : ByteArray) (nu : Int) (sh : Bool) (A : Option Addr) (n m : Nat) (A' : Option Addr) (n' m' : Nat) (A'' : Option Addr) (n'' m'' : Nat),
    cs = [.int .i64 k, .string nm, .int .i64 nu, .bool sh, .slice A n m, .slice A' n' m', .slice A'' n'' m''] := by
  obtain ⟨kind, name, num, shaped, shape, lists, kids⟩ := t
  rw [TreeV.iff] at h
  obtain ⟨vs, vl, vk, rfl, h1, h2, h3⟩ := h
  obtain ⟨A, m, rfl⟩ := h1.form
  obtain ⟨A', m', rfl⟩ := h2.form
  obtain ⟨A'', m'', rfl⟩ := h3.form
  exact ⟨_, _, _, _, _, _, _, _, _, _, _, _, _, rfl⟩
end Go.Proofs.YtadhlnlcdljamaaGreatDoor.V
