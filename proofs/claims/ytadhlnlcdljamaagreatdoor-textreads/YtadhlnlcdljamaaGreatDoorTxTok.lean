/-
  Contract: text.Tokens.
-/
import Derived.Test.YtadhlnlcdljamaaGreatDoorTxTold
namespace Go.Proofs.YtadhlnlcdljamaaGreatDoor.V
set_option maxRecDepth 20000
open Go.RowKit

/-- One cell that lies in memory. -/
def OneAt (t : TypeId) (w : World) (b : Nat) (c : Value) : Prop := w.heap[b]? = some (.cells #[c] t (0, 0))
theorem OneAt.lt {t : TypeId} {w : World} {b : Nat} {c : Value} (h : OneAt t w b c) : b < w.heap.size := (Array.getElem?_eq_some_iff.1 h).1
theorem OneAt.below {t : TypeId} {w w' : World} {b : Nat} {c : Value} (h : OneAt t w b c) (hb : Below w.heap.size w w') : OneAt t w' b c := (hb.block b h.lt).trans h
theorem OneAt.alloc {t : TypeId} {w : World} {b : Nat} {c : Value} (h : OneAt t w b c) (o : Obj) : OneAt t (w.alloc o) b c := (Below.heap_alloc _ _ _ h.lt).trans h
theorem OneAt.cells {t : TypeId} {w : World} {b : Nat} {c : Value} (h : OneAt t w b c) : w.cell? ⟨b, 0, none⟩ = some c ∧ w.frozen? ⟨b, 0, none⟩ = false := by
  unfold OneAt at h
  refine ⟨?_, ?_⟩ <;> simp [World.cell?, World.frozen?, h]
theorem OneAt.new (t : TypeId) (w : World) (c : Value) : OneAt t (w.alloc (.cells #[c] t)) w.heap.size c := World.alloc_heap_new w _
theorem OneAt.put {t : TypeId} {w : World} {b : Nat} {c : Value} (h : OneAt t w b c) (d : Value) : OneAt t (w.setCell ⟨b, 0, none⟩ d) b d := by
  unfold OneAt at *
  simp [World.setCell, Array.getElem?_modify, h]
theorem OneAt.out {w : World} {b : Nat} (d : Value) : w.grownBy (w.setCell ⟨b, 0, none⟩ d) (some b) :=
  ⟨rfl, rfl, rfl, by simp [World.setCell], fun k _ hne => by
    have : k ≠ b := fun e => hne (by rw [e])
    rw [Below.heap_setCell _ _ _ _ this]⟩
theorem OneAt.grown {t : TypeId} {w w' : World} {b : Nat} {c : Value} {row : Option Nat} (h : OneAt t w b c) (hg : w.grownBy w' row) (hne : some b ≠ row) : OneAt t w' b c := (hg.block b h.lt hne).trans h
theorem TwoAt.grown {t : TypeId} {w w' : World} {b : Nat} {c0 c1 : Value} {row : Option Nat} (h : TwoAt t w b c0 c1) (hg : w.grownBy w' row) (hne : some b ≠ row) : TwoAt t w' b c0 c1 := (hg.block b h.lt hne).trans h

theorem tokRow_at : ∀ (ts : List (List Int × Nat)) (i : Nat), i < ts.length → (tokRow ts)[i * 2]? = some (.string (strOfNums (ts[i]?.getD ([], 0)).1)) ∧ (tokRow ts)[i * 2 + 1]? = some (.int .i64 ((ts[i]?.getD ([], 0)).2 : Int))
  | [], i, h => absurd h (Nat.not_lt_zero _)
  | t :: ts, 0, _ => ⟨rfl, rfl⟩
  | t :: ts, i + 1, h => by
    have ih := tokRow_at ts i (by simpa using h)
    have e : tokRow (t :: ts) = .string (strOfNums t.1) :: .int .i64 (t.2 : Int) :: tokRow ts := rfl
    rw [e, show (i + 1) * 2 = i * 2 + 1 + 1 by omega]
    exact ih

/-- Tokens that lie in memory, in no block below B. -/
def TokAt (w : World) (B : Nat) (A : Option Addr) (ts : List (List Int × Nat)) : Prop :=
  ts.length = 0 ∨ ∃ g, A = some ⟨g, 0, none⟩ ∧ B ≤ g ∧ g < w.heap.size ∧ ∀ i, i < ts.length → w.cell? ⟨g, i * 2, none⟩ = some (.string (strOfNums (ts[i]?.getD ([], 0)).1)) ∧ w.cell? ⟨g, i * 2 + 1, none⟩ = some (.int .i64 ((ts[i]?.getD ([], 0)).2 : Int))
theorem own_tok {w : World} {B : Nat} {t : TypeId} {v : Value} {ts : List (List Int × Nat)} (h : w.ownsRow B t 2 v ts.length (tokRow ts)) : ∃ A c, v = .slice A ts.length c ∧ ts.length ≤ c ∧ TokAt w B A ts := by
  have h' := h
  rcases h.2 with ⟨rfl, h2⟩ | ⟨g, cap, cur, rfl, h3, h5, h4, h6⟩
  · rw [h2]; exact ⟨none, 0, rfl, Nat.le_refl _, .inl h2⟩
  · refine ⟨_, _, rfl, h4, .inr ⟨g, rfl, h3, (Array.getElem?_eq_some_iff.1 h5).1, fun i hi => ?_⟩⟩
    have e := tokRow_at ts i hi
    exact ⟨(h'.cellAt (i * 2) (by omega)).trans e.1, (h'.cellAt (i * 2 + 1) (by omega)).trans e.2⟩
theorem TokAt.grown {w w' : World} {B : Nat} {A : Option Addr} {ts : List (List Int × Nat)} {b : Nat} (h : TokAt w B A ts) (hg : w.grownBy w' (some b)) (hb : b < B) : TokAt w' B A ts := by
  rcases h with h | ⟨g, rfl, h1, h2, h3⟩
  · exact .inl h
  · refine .inr ⟨g, rfl, h1, Nat.lt_of_lt_of_le h2 hg.size, fun i hi => ?_⟩
    have hb' := hg.block g h2 (by intro e; cases e; omega)
    exact ⟨(World.cell?_of_block (w := w) (a := ⟨g, i * 2, none⟩) hb').trans (h3 i hi).1, (World.cell?_of_block (w := w) (a := ⟨g, i * 2 + 1, none⟩) hb').trans (h3 i hi).2⟩
theorem TokAt.below {w w' : World} {B : Nat} {A : Option Addr} {ts : List (List Int × Nat)} (h : TokAt w B A ts) (hb : Below w.heap.size w w') : TokAt w' B A ts := by
  rcases h with h | ⟨g, rfl, h1, h2, h3⟩
  · exact .inl h
  · exact .inr ⟨g, rfl, h1, Nat.lt_of_lt_of_le h2 hb.size, fun i hi => ⟨(hb.cell (p := ⟨g, i * 2, none⟩) h2).trans (h3 i hi).1, (hb.cell (p := ⟨g, i * 2 + 1, none⟩) h2).trans (h3 i hi).2⟩⟩
theorem _root_.Go.RowKit.Below.by {w w' : World} (h : Below w.heap.size w w') (row : Option Nat) : w.grownBy w' row := ⟨h.os, h.tape, h.output, h.size, fun k hk _ => h.block k hk⟩

end Go.Proofs.YtadhlnlcdljamaaGreatDoor.V
