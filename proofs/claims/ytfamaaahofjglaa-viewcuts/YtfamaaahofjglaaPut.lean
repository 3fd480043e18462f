/-
  What is stored into a View of the caller's own leaves the rest.
-/
import Derived.Test.YtfamaaahofjglaaRFlipAny
namespace Go.Proofs.Ytfamaaahofjglaa.V
open Go.RowKit

theorem GivesF.gives {w w' : World} {d0 : Option Addr} {e : Ending} {s : Int} {ds ss : List Int} {E : Int} (h : GivesF w d0 e w' s ds ss E) : Gives e w' s ds ss E := by
  obtain ⟨a, b, c, d, f, g, h1, h2, h3, ⟨h4, h5⟩, _, _⟩ := h
  exact ⟨a, b, c, d, f, g, h1, h2, h3, h4, h5⟩
theorem okL_or (E : Int) (l : List Int) : okL E l = l ∨ okL E l = [] := by unfold okL; split <;> simp
theorem ints_put {w w' : World} {d0 a : Option Addr} {dl n N C : Nat} {ds xs : List Int} {x y z : Value} (hi : Ints w' a n xs) (hF : a = d0 ∨ Far N a) (hd : Ints w d0 dl ds) (hx : xs = ds ∨ xs = []) (hB : Below w.heap.size w (((w'.setCell ⟨C, 0, none⟩ x).setCell ⟨C, 1, none⟩ y).setCell ⟨C, 2, none⟩ z)) (hC : C < N) :
    Ints (((w'.setCell ⟨C, 0, none⟩ x).setCell ⟨C, 1, none⟩ y).setCell ⟨C, 2, none⟩ z) a n xs := by
  rcases hF with rfl | hF
  · rcases hx with rfl | rfl
    · obtain rfl : n = dl := by rw [← hi.1, ← hd.1]
      exact hd.below hB
    · have : n = 0 := by have := hi.1; simpa using this.symm
      exact ⟨hi.1, hi.2.1, hi.2.2.1, .inl this⟩
  · exact ints_set3o hi (fun g o e => by have := hF g o e; omega)
theorem ints_putF {w' : World} {a : Option Addr} {n N C : Nat} {xs : List Int} {x y z : Value} (hi : Ints w' a n xs) (hF : Far N a) (hC : C < N) :
    Ints (((w'.setCell ⟨C, 0, none⟩ x).setCell ⟨C, 1, none⟩ y).setCell ⟨C, 2, none⟩ z) a n xs := ints_set3o hi (fun g o e => by have := hF g o e; omega)
theorem below_put {w w' : World} {C : Nat} {x y z : Value} (hB : Below w.heap.size w w') (h : w.heap.size ≤ C) : Below w.heap.size w (((w'.setCell ⟨C, 0, none⟩ x).setCell ⟨C, 1, none⟩ y).setCell ⟨C, 2, none⟩ z) :=
  ((hB.setCell (p := ⟨C, 0, none⟩) h _).setCell (p := ⟨C, 1, none⟩) h _).setCell (p := ⟨C, 2, none⟩) h _
theorem view_put {w : World} {C b : Nat} {x y z c0 c1 c2 : Value} (hv : ViewAt w b c0 c1 c2) (hne : b ≠ C) : ViewAt (((w.setCell ⟨C, 0, none⟩ x).setCell ⟨C, 1, none⟩ y).setCell ⟨C, 2, none⟩ z) b c0 c1 c2 :=
  ((hv.set (p := ⟨C, 0, none⟩) hne _).set (p := ⟨C, 1, none⟩) hne _).set (p := ⟨C, 2, none⟩) hne _
theorem view_put' {w : World} {C : Nat} {x y z c0 c1 c2 : Value} (hv : ViewAt w C c0 c1 c2) : ViewAt (((w.setCell ⟨C, 0, none⟩ x).setCell ⟨C, 1, none⟩ y).setCell ⟨C, 2, none⟩ z) C x y z :=
  ((hv.set0 _).set1 _).set2 _

end Go.Proofs.Ytfamaaahofjglaa.V
