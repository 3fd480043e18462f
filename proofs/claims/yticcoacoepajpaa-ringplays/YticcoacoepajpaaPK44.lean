/-
  Lists of lists among the arguments.
-/
import Derived.Test.YticcoacoepajpaaPK22
import Derived.Deep.SlicePairs
import Derived.ChangeArms
import Derived.SizedLaws
namespace Go.Proofs.Yticcoacoepajpaa.V
open Go.RowKit Go.Deep Go.ChangeShapes Go.WideShapes
set_option linter.unusedVariables false
set_option linter.unusedSimpArgs false

theorem cellsInts64 : Try.prog.cellsOf 24 = 1 := by kernel_rfl
theorem row_ints64 {H : Type} {enc : TypeId × Value → H} {W : World} {fuel : Nat} {v : Value} {y : DataW H × List MemPlace} (h : DataW.trod enc Try.prog W 0 (fun _ => true) true fuel 24 [v] = some y) : ∃ (a : Option Addr) (len cap : Nat) (xs : List Int), v = .slice a len cap ∧ Lst W a len cap xs := by
  rcases open_ints Try.underlying24 Try.underlying2 (by kernel_rfl) h with ⟨hcs, _⟩ | ⟨x, l, c, zs, hcs, _, hl, hm, hz, _, hcell, hwz⟩
  · exact ⟨none, 0, 0, [], by simpa using hcs, ⟨rfl, by omega, by simp, .inl rfl⟩, Nat.le_refl _, fun _ => rfl⟩
  · exact ⟨some x, l, c, zs.take l, by simpa using hcs, ints_of_row (cap := c) (.inr ⟨x, rfl, hl, hm, by simpa using hz, hcell, hwz⟩), hl, fun e => by cases e⟩
theorem ls_open {H : Type} {enc : TypeId × Value → H} {W : World} {fuel : Nat} {v : Value} {y : DataW H × List MemPlace} (h : DataW.trod enc Try.prog W 0 (fun _ => true) true fuel 22 [v] = some y) : ∃ (a : Option Addr) (len cap : Nat) (L : List (List Int)), v = .slice a len cap ∧ LsA W a len L := by
  rcases open_slice Try.underlying22 h with ⟨hcs, _⟩ | ⟨x, l, c, m, n, D, Pl, hcs, _, hl, hm, hmm, hy, hx⟩
  · exact ⟨none, 0, 0, [], by simpa using hcs, ⟨rfl, by omega, .inl rfl⟩⟩
  · have hmc : m = c := by simpa using hmm
    rw [cellsInts64] at hx
    have hch : ∀ i : Nat, ∃ u : List Int, i < l → ∃ a len cap, W.cell? (x.add i) = some (.slice a len cap) ∧ Lst W a len cap u := fun i => by
      by_cases hi : i < l
      · obtain ⟨cs, g1, g2⟩ := hx i (by omega)
        obtain ⟨_, hlen, hcell⟩ := World.cells?_some g1
        match cs, hlen with
        | [v0], _ =>
          obtain ⟨a, len, cap, xs, e0, hL⟩ := row_ints64 g2
          have c0 := hcell 0 (by omega)
          rw [add_add] at c0
          exact ⟨xs, fun _ => ⟨a, len, cap, by simpa [e0] using c0, hL⟩⟩
      · exact ⟨[], fun hh => absurd hh hi⟩
    obtain ⟨f, hf⟩ := Classical.axiomOfChoice hch
    refine ⟨some x, l, c, (List.range l).map f, by simpa using hcs, ⟨by simp, by unfold maxLen at hm; omega, ?_⟩⟩
    by_cases h0 : l = 0
    · exact .inl h0
    · obtain ⟨b, off, spot⟩ := x
      have hspot : spot = none := by
        obtain ⟨_, _, _, g1, _⟩ := hf 0 (by omega)
        simpa [Addr.add] using World.cell?_spot g1
      subst hspot
      refine .inr ⟨b, off, rfl, fun j hj => ?_⟩
      obtain ⟨a, len, cap, g1, g2⟩ := hf j hj
      rw [Go.WideShapes.add_plain] at g1
      have ej : ((List.range l).map f)[j]?.getD [] = f j := by simp [hj]
      rw [ej]
      exact ⟨a, len, cap, g1, g2.1, g2.2.1⟩
end Go.Proofs.Yticcoacoepajpaa.V
