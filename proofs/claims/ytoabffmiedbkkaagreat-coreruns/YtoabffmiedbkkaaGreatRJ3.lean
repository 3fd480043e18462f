/-
  Rows of ints of a call's own; memory that only grew. Regions that draw, whose operations only read and whose callees may make memory, walked once.
-/
import Derived.Test.YtoabffmiedbkkaaGreatRJ2
import Derived.Laws.CopyOwn
import Derived.Deep.OwnRows
import Derived.Deep.QuietTactic
namespace Go.Proofs.YtoabffmiedbkkaaGreat.V
set_option maxRecDepth 20000
open Go.RowKit

theorem info_int : (Tryz.prog.info? 3).map (fun i => (i.zero, i.size, i.bytes)) = some (some (.int .i64 0), 1, 8) := by kernel_rfl
theorem size_int : (Tryz.prog.info? 3).map (·.size) = some 1 := by kernel_rfl
/-- A row of ints of the call's own. -/
def RowI (w : World) (g len : Nat) (xs : List Int) : Prop := w.rowIs g 3 len (fun j => .int .i64 (xs[j]?.getD 0))
theorem ints_of_rowI {w : World} {g len : Nat} {xs : List Int} (h : RowI w g len xs) (hl : xs.length = len) (hm : len ≤ 9223372036854775807) (hb : ∀ x ∈ xs, -9223372036854775808 ≤ x ∧ x ≤ 9223372036854775807) : Ints w (some ⟨g, 0, none⟩) len xs :=
  ⟨hl, hm, hb, .inr ⟨g, 0, rfl, fun j hj => by rw [Nat.zero_add]; exact h.cell hj⟩⟩
theorem RowI.below {w w' : World} {g len : Nat} {xs : List Int} (h : RowI w g len xs) (hb : Below w.heap.size w w') : RowI w' g len xs := h.of_block (hb.block g h.lt)
theorem bl_new {w : World} (o : Obj) : Below w.heap.size w (w.alloc o) := (Below.refl _ _).alloc (Nat.le_refl _) _
theorem bl_on {w w1 w2 : World} (h : Below w.heap.size w w1) (k : Below w1.heap.size w1 w2) : Below w.heap.size w w2 := h.trans (k.mono h.size)
theorem alloc_cell {w : World} {p : Addr} {v : Value} {o : Obj} (h : w.cell? p = some v) : (w.alloc o).cell? p = some v := (World.cell?_alloc_lt _ _ _ (lt_of_cell h)).trans h
theorem drew_cell {w : World} {p : Addr} {v : Value} (h : w.cell? p = some v) : w.drew.cell? p = some v := h
end Go.Proofs.YtoabffmiedbkkaaGreat.V
namespace Go.Proofs.YtoabffmiedbkkaaGreat.V
set_option maxRecDepth 20000
open Go Go.RowKit
set_option linter.unusedVariables false
set_option linter.unusedSimpArgs false

/-- How a world has grown. -/
structure GwP where
  tail : Array Obj
  drawn : Nat
def gw (w : World) (p : GwP) : World := { w with heap := w.heap ++ p.tail, drawn := p.drawn }
theorem gw_below (w : World) (p : GwP) : Below w.heap.size w (gw w p) :=
  ⟨rfl, rfl, rfl, by simp [gw], fun b hb => by simp [gw, Array.getElem?_append, hb]⟩
theorem below_gw {w w' : World} (h : Below w.heap.size w w') : ∃ p, w' = gw w p := by
  obtain ⟨heap, tape, drawn, os, output⟩ := w
  obtain ⟨heap', tape', drawn', os', output'⟩ := w'
  obtain ⟨h1, h2, h3, h4, h5⟩ := h
  simp only at h1 h2 h3 h4 h5
  subst h1 h2 h3
  refine ⟨⟨heap'.extract heap.size heap'.size, drawn'⟩, ?_⟩
  simp only [gw, World.mk.injEq, and_true]
  apply Array.ext'
  apply List.ext_getElem?
  intro i
  simp only [Array.getElem?_toList]
  by_cases hi : i < heap.size
  · rw [h5 i hi, Array.getElem?_append, if_pos hi]
  · rw [Array.getElem?_append, if_neg hi, Array.getElem?_extract]
    by_cases h2 : i < heap'.size
    · rw [if_pos (by omega), show heap.size + (i - heap.size) = i by omega]
    · rw [if_neg (by omega)]
      simp [h2]
theorem gw_cell {w : World} {a : Addr} {v : Value} (h : w.cell? a = some v) (p : GwP) : (gw w p).cell? a = some v := ((gw_below w p).cell (p := a) (lt_of_cell h)).trans h
theorem Calls.gw_of {P : Program} {f : FuncId} {args : Array Value} {w : World} {p : GwP} {v : Value}
    (h : Calls P f args (gw w p) fun e w' => e = .returned v ∧ Below (gw w p).heap.size (gw w p) w') : Calls P f args (gw w p) fun e w'' => e = .returned v ∧ ∃ q : GwP, w'' = gw w q :=
  h.mono fun _ _ ⟨he, hb⟩ => ⟨he, below_gw (bl_on (gw_below w p) hb)⟩
theorem wp_region_gw {P : Program} {id : Nat} {Q : Exit → Act → World → Prop} {a : Act} {w : World} {l : List Oper} (hm : P.follows .mixedOrders = true) (hB : Region.lexB .any l.toArray = true)
    (h : wpQuiet P l.toArray (fun w' => ∃ p : GwP, w' = gw w p) (fun a' => ∀ w', (∃ p : GwP, w' = gw w p) → Q .normal a' w') l a) : (Code.region id l.toArray true).wp P Q a w :=
  wp_region_quiet (C := fun w' => ∃ p : GwP, w' = gw w p) hm hB ⟨⟨#[], w.drawn + 1⟩, by simp [gw]⟩ (by simpa using h)
end Go.Proofs.YtoabffmiedbkkaaGreat.V
