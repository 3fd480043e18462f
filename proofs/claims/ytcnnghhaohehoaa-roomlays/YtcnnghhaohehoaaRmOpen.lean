/-
  Lives, and lists of numbers, among the arguments.
-/
import Derived.Test.YtcnnghhaohehoaaRmWrong
import Derived.ChangeArms
import Derived.ChangeSame
import Derived.Deep.SlicePairs
import Derived.SizedLaws
namespace Go.Proofs.Ytcnnghhaohehoaa.V
open Go.RowKit Go.Deep Go.ChangeShapes Go.WideShapes
set_option linter.unusedVariables false

theorem cellsLife : Try.prog.cellsOf 37 = 3 := by kernel_rfl
theorem cellsInt1 : Try.prog.cellsOf 3 = 1 := by kernel_rfl
section
variable {H : Type} {enc : TypeId × Value → H} {W : World}
theorem life_open {fuel : Nat} {v0 v1 v2 : Value} {y : DataW H × List MemPlace} (h : DataW.trod enc Try.prog W 0 (fun _ => true) true fuel 37 [v0, v1, v2] = some y) : ∃ x : Lf, v0 = .int .i64 x.fr ∧ v1 = .int .i64 x.to ∧ v2 = .int .i64 x.wd := by
  obtain ⟨xs, n, _, _, _, hxl, hf⟩ := DataW.trod_struct Try.underlying37 h
  match xs, hxl with
  | [x0, x1, x2], _ =>
    have g0 := hf 0 _ rfl
    have g1 := hf 1 _ rfl
    have g2 := hf 2 _ rfl
    simp [cellsInt1, List.drop, List.take] at g0 g1 g2
    obtain ⟨A, e0, _⟩ := DataW.trod_int Try.underlying3 g0
    obtain ⟨B, e1, _⟩ := DataW.trod_int Try.underlying3 g1
    obtain ⟨C, e2, _⟩ := DataW.trod_int Try.underlying3 g2
    exact ⟨⟨A, B, C⟩, by simpa using e0, by simpa using e1, by simpa using e2⟩
theorem lives_open {fuel : Nat} {v : Value} {y : DataW H × List MemPlace} (h : DataW.trod enc Try.prog W 0 (fun _ => true) true fuel 22 [v] = some y) : ∃ (a : Option Addr) (len cap : Nat) (ls : List Lf), v = .slice a len cap ∧ Lives W a len ls ∧ len ≤ cap ∧ ((len = 0) ∨ ∃ elems spare, y.1 = .slice elems spare ∧ elems.length = len) := by
  rcases open_slice Try.underlying22 h with ⟨hcs, _⟩ | ⟨x, l, c, m, n, D, Pl, hcs, _, hl, hm, hmm, hy, hx⟩
  · exact ⟨none, 0, 0, [], by simpa using hcs, ⟨rfl, by omega, .inl rfl⟩, Nat.le_refl _, .inl rfl⟩
  · have hmc : m = c := by simpa using hmm
    rw [cellsLife] at hx
    have hch : ∀ i : Nat, ∃ u : Lf, i < l → W.cell? (x.add (i * 3)) = some (.int .i64 u.fr) ∧ W.cell? (x.add (i * 3 + 1)) = some (.int .i64 u.to) ∧ W.cell? (x.add (i * 3 + 2)) = some (.int .i64 u.wd) := fun i => by
      by_cases hi : i < l
      · obtain ⟨cs, g1, g2⟩ := hx i (by omega)
        obtain ⟨_, hlen, hcell⟩ := World.cells?_some g1
        match cs, hlen with
        | [v0, v1, v2], _ =>
          obtain ⟨u, e0, e1, e2⟩ := life_open g2
          have c0 := hcell 0 (by omega)
          have c1 := hcell 1 (by omega)
          have c2 := hcell 2 (by omega)
          rw [add_add] at c0 c1 c2
          exact ⟨u, fun _ => ⟨by simpa [e0] using c0, by simpa [e1] using c1, by simpa [e2] using c2⟩⟩
      · exact ⟨lfD, fun hh => absurd hh hi⟩
    obtain ⟨f, hf⟩ := Classical.axiomOfChoice hch
    refine ⟨some x, l, c, (List.range l).map f, by simpa using hcs, ⟨by simp, by unfold maxLen at hm; omega, ?_⟩, by omega, .inr ⟨_, _, by rw [hy], by simp⟩⟩
    by_cases h0 : l = 0
    · exact .inl h0
    · obtain ⟨b, off, spot⟩ := x
      have hspot : spot = none := by
        obtain ⟨g1, _⟩ := hf 0 (by omega)
        simpa [Addr.add] using World.cell?_spot g1
      subst hspot
      refine .inr ⟨b, off, rfl, fun j hj => ?_⟩
      obtain ⟨g1, g2, g3⟩ := hf j hj
      rw [Go.WideShapes.add_plain] at g1 g2 g3
      have ej : ((List.range l).map f)[j]?.getD lfD = f j := by simp [hj]
      rw [ej]
      exact ⟨g1, by rw [Nat.add_assoc]; exact g2, by rw [Nat.add_assoc]; exact g3⟩
end
end Go.Proofs.Ytcnnghhaohehoaa.V
