/-
  Several rows and boxes of the call's own, no two in one block.
-/
import Derived.Test.YtoabffmiedbkkaaGreatPK3
import Derived.Test.YtoabffmiedbkkaaGreatPK2
import Derived.Maps.AppendAt
namespace Go.Proofs.YtoabffmiedbkkaaGreat.V
set_option maxRecDepth 20000
open Go Go.RowKit
set_option linter.unusedVariables false

def upF {α : Type} (f : Nat → α) (k : Nat) (x : α) : Nat → α := fun i => if i = k then x else f i
theorem upF_ne {α : Type} {f : Nat → α} {k i : Nat} {x : α} (h : i ≠ k) : upF f k x i = f i := if_neg h
theorem upF_eq {α : Type} {f : Nat → α} {k : Nat} {x : α} : upF f k x k = x := if_pos rfl
/-- A member: its value, the type of its block, how many cells an element has, how many elements there are, its cells. -/
structure Mb where
  v : Value
  t : TypeId
  z : Nat
  m : Nat
  c : List Value
def Mb.own (w : World) (B : Nat) (x : Mb) : Prop := w.ownsRow B x.t x.z x.v x.m x.c
structure Fm (w : World) (B n : Nat) (M : Nat → Mb) : Prop where
  row : ∀ i, i < n → (M i).own w B
  apart : ∀ i j g, i < n → j < n → (M i).v.ownBlock = some g → (M j).v.ownBlock = some g → i = j
theorem Mb.own.keep {w w1 : World} {B : Nat} {x : Mb} (h : x.own w B) (hk : ∀ g, x.v.ownBlock = some g → g < w.heap.size → w1.heap[g]? = w.heap[g]?) : x.own w1 B := by
  refine ⟨h.1, ?_⟩
  rcases h.2 with h2 | ⟨g, cap, cur, e, h4, h5, h6⟩
  · exact .inl h2
  · exact .inr ⟨g, cap, cur, e, h4, (hk g (by rw [e]; rfl) (Array.getElem?_eq_some_iff.1 h5).1).trans h5, h6⟩
theorem Mb.own.at {w : World} {B g : Nat} {x : Mb} (h : x.own w B) (e : x.v.ownBlock = some g) : B ≤ g ∧ g < w.heap.size := by
  rcases h.2 with ⟨h1, _⟩ | ⟨g', cap, cur, h1, h4, h5, h6⟩
  · rw [h1] at e; cases e
  · rw [h1] at e
    cases e
    exact ⟨h4, (Array.getElem?_eq_some_iff.1 h5).1⟩
theorem Mb.own.below {w w1 : World} {B : Nat} {x : Mb} (h : x.own w B) (hb : Below w.heap.size w w1) : x.own w1 B := h.keep fun g _ hg => hb.block g hg
theorem Mb.own.slice {w : World} {B : Nat} {x : Mb} (h : x.own w B) (h0 : 0 < x.m) : ∃ g cap, x.v = .slice (some ⟨g, 0, none⟩) x.m cap := by
  rcases h.2 with ⟨_, h1⟩ | ⟨g', cap, cur, h1, _⟩
  · omega
  · exact ⟨g', cap, h1⟩
theorem Fm.below {w w1 : World} {B n : Nat} {M : Nat → Mb} (h : Fm w B n M) (hb : Below w.heap.size w w1) : Fm w1 B n M := ⟨fun i hi => (h.row i hi).below hb, h.apart⟩
theorem Fm.congr {w : World} {B n : Nat} {M M' : Nat → Mb} (h : Fm w B n M) (he : ∀ i, i < n → M' i = M i) : Fm w B n M' :=
  ⟨fun i hi => by rw [he i hi]; exact h.row i hi, fun i j g hi hj e1 e2 => h.apart i j g hi hj (he i hi ▸ e1) (he j hj ▸ e2)⟩
theorem Fm.put {w w1 : World} {B n k : Nat} {M : Nat → Mb} {x : Mb} (h : Fm w B n M) (hk : k < n) (hg : w.grownBy w1 (M k).v.ownBlock) (hr : x.own w1 B) (ho : x.v.ownBlock = (M k).v.ownBlock ∨ ∀ g, x.v.ownBlock = some g → w.heap.size ≤ g) : Fm w1 B n (upF M k x) := by
  have key : ∀ j g, j < n → j ≠ k → x.v.ownBlock = some g → (M j).v.ownBlock = some g → False := fun j g hj hne e1 e2 => by
    rcases ho with ho | ho
    · exact hne (h.apart j k g hj hk e2 (ho ▸ e1))
    · have := ho g e1
      have := ((h.row j hj).at e2).2
      omega
  refine ⟨fun i hi => ?_, fun i j g hi hj e1 e2 => ?_⟩
  · by_cases e : i = k
    · subst e
      rw [upF_eq]
      exact hr
    · rw [upF_ne e]
      exact (h.row i hi).keep fun g hgg hlt => hg.block g hlt fun ee => e (h.apart i k g hi hk hgg ee.symm)
  · by_cases c1 : i = k
    · by_cases c2 : j = k
      · rw [c1, c2]
      · subst c1
        rw [upF_eq] at e1
        rw [upF_ne c2] at e2
        exact (key j g hj c2 e1 e2).elim
    · by_cases c2 : j = k
      · subst c2
        rw [upF_eq] at e2
        rw [upF_ne c1] at e1
        exact (key i g hi c1 e2 e1).elim
      · rw [upF_ne c1] at e1
        rw [upF_ne c2] at e2
        exact h.apart i j g hi hj e1 e2
theorem Fm.add {w w0 : World} {B n : Nat} {M : Nat → Mb} {x : Mb} (h0 : Fm w0 B n M) (h : Fm w B n M) (hr : x.own w B) (hf : ∀ g, x.v.ownBlock = some g → w0.heap.size ≤ g) : Fm w B (n + 1) (upF M n x) := by
  have hN : ∀ i g, i < n → (M i).v.ownBlock = some g → g < w0.heap.size := fun i g hi e => ((h0.row i hi).at e).2
  refine ⟨fun i hi => ?_, fun i j g hi hj e1 e2 => ?_⟩
  · by_cases e : i = n
    · subst e
      rw [upF_eq]
      exact hr
    · rw [upF_ne e]
      exact h.row i (by omega)
  · by_cases c1 : i = n
    · by_cases c2 : j = n
      · rw [c1, c2]
      · subst c1
        rw [upF_eq] at e1
        rw [upF_ne c2] at e2
        have := hN j g (by omega) e2
        have := hf g e1
        omega
    · by_cases c2 : j = n
      · subst c2
        rw [upF_eq] at e2
        rw [upF_ne c1] at e1
        have := hN i g (by omega) e1
        have := hf g e2
        omega
      · rw [upF_ne c1] at e1
        rw [upF_ne c2] at e2
        exact h.apart i j g (by omega) (by omega) e1 e2
/-- A box that is new. -/
def boxM (g : Nat) (t : TypeId) (c : List Value) : Mb := ⟨.slice (some ⟨g, 0, none⟩) 1 1, t, c.length, 1, c⟩
theorem boxM.blk {w : World} {B g : Nat} {t : TypeId} {c : List Value} (h : (boxM g t c).own w B) : ∃ cur : Array Value, w.heap[g]? = some (.cells cur t (0, 0)) ∧ cur.toList = c := by
  rcases h.2 with ⟨h1, _⟩ | ⟨g', cap, cur, h1, h4, h5, h6, h7, h8, h9⟩
  · cases h1
  · simp only [boxM, Value.slice.injEq, Option.some.injEq, Addr.mk.injEq] at h1
    obtain ⟨⟨rfl, _⟩, _, rfl⟩ := h1
    refine ⟨cur, h5, ?_⟩
    simp only [boxM] at h8 h9
    rw [List.take_of_length_le (by rw [Array.length_toList, h8]; exact Nat.le_refl _)] at h9
    exact h9
theorem boxM.cells {w : World} {B g : Nat} {t : TypeId} {c : List Value} (h : (boxM g t c).own w B) (i : Nat) : w.cell? ⟨g, i, none⟩ = c[i]? ∧ w.frozen? ⟨g, i, none⟩ = false ∧ g < w.heap.size := by
  obtain ⟨cur, h1, h2⟩ := boxM.blk h
  refine ⟨?_, by simp [World.frozen?, h1], (Array.getElem?_eq_some_iff.1 h1).1⟩
  rw [← h2]
  simp [World.cell?, h1]
end Go.Proofs.YtoabffmiedbkkaaGreat.V
