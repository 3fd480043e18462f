/-
  Contract: adjointref1.All: all indices, in order.
-/
import Derived.Test.YtpokhjdnpheaaabRNext
import Derived.Test.YtpokhjdnpheaaabRSize
namespace Go.Proofs.Ytpokhjdnpheaaab.V
open Go.RowKit

theorem info_ints : (Try.prog.info? 22).map (fun i => (i.zero, i.size, i.bytes)) = some (some (.slice none 0 0), 1, 24) := by kernel_rfl

/-- A slice value's begin, and n: a list of n lists of len numbers each. -/
def Lists (w : World) (B : Nat) (A : Option Addr) (n len : Nat) (f : Nat → List Int) : Prop :=
  n = 0 ∨ ∃ b, A = some ⟨b, 0, none⟩ ∧ B ≤ b ∧ ∀ i, i < n → ∃ g c, B ≤ g ∧ w.cell? ⟨b, i, none⟩ = some (.slice (some ⟨g, 0, none⟩) len c) ∧ Ints w (some ⟨g, 0, none⟩) len (f i)
theorem Lists.below {w w' : World} {B : Nat} {A : Option Addr} {n len : Nat} {f : Nat → List Int} (h : Lists w B A n len f) (hb : Below w.heap.size w w') : Lists w' B A n len f := by
  rcases h with h | ⟨b, ha, hB, hc⟩
  · exact .inl h
  · refine .inr ⟨b, ha, hB, fun i hi => ?_⟩
    obtain ⟨g, c, h0, h1, h2⟩ := hc i hi
    exact ⟨g, c, h0, (hb.cell (p := ⟨b, i, none⟩) (lt_of_cell h1)).trans h1, h2.below hb⟩

/-- The values of a row of lists. -/
def Vals (w : World) (B n len : Nat) (f : Nat → List Int) (vs : List Value) : Prop :=
  vs.length = n ∧ ∀ i, i < n → ∃ g c, B ≤ g ∧ vs[i]? = some (.slice (some ⟨g, 0, none⟩) len c) ∧ Ints w (some ⟨g, 0, none⟩) len (f i)

theorem ints_ne_own {w : World} {g len B n : Nat} {xs : List Int} {v : Value} {vs : List Value} (h : Ints w (some ⟨g, 0, none⟩) len xs) (h0 : 0 < len) (ho : w.ownsRow B 22 1 v n vs) (hv : ∃ a l c, vs[0]? = some (.slice a l c)) : some g ≠ v.ownBlock := by
  intro e
  rcases ho.2 with ⟨rfl, _⟩ | ⟨g', cap, cur, rfl, _, hb, _, _, _, ht⟩
  · simp [Value.ownBlock] at e
  · obtain rfl : g = g' := by simpa [Value.ownBlock] using e
    obtain ⟨b, off, e1, _, hc⟩ := h.at h0
    cases e1
    have h1 := hc 0 h0
    obtain ⟨a, l, c, h2⟩ := hv
    rw [← ht] at h2
    have h3 : cur[0]? = some (.slice a l c) := by
      rw [List.getElem?_take] at h2
      split at h2
      · simpa using h2
      · cases h2
    simp [World.cell?, hb, h3] at h1
theorem ints_own_grown {w w1 : World} {o : Obj} {g len B n : Nat} {xs : List Int} {v : Value} {vs : List Value} (h : Ints w (some ⟨g, 0, none⟩) len xs) (ho : w.ownsRow B 22 1 v n vs) (hv : ∃ a l c, vs[0]? = some (.slice a l c)) (hg : (w.alloc o).grownBy w1 v.ownBlock) : Ints w1 (some ⟨g, 0, none⟩) len xs := by
  by_cases h0 : len = 0
  · exact ⟨h.1, h.2.1, h.2.2.1, .inl h0⟩
  · have hne := ints_ne_own h (by omega) ho hv
    have hl : g < w.heap.size := by
      obtain ⟨b, off, e, hb, _⟩ := h.at (by omega)
      cases e; exact hb
    exact ints_grown (h.below ((Below.refl _ _).alloc (Nat.le_refl _) o)) (by simp; omega) hg hne

def sliceLen : Value → Nat
  | .slice _ n _ => n
  | _ => 0
def boolOf : Value → Bool
  | .bool b => b
  | _ => false

end Go.Proofs.Ytpokhjdnpheaaab.V
