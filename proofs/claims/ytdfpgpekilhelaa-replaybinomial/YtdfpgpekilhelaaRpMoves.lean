/-
  A slice of moves among the arguments.
-/
import Derived.Test.YtdfpgpekilhelaaRpPlays
import Derived.Deep.SlicePairs
import Derived.ChangeArms
namespace Go.Proofs.Ytdfpgpekilhelaa.V
open Go.RowKit Go.Deep Go.ChangeShapes Go.WideShapes

theorem cellsM : Try.prog.cellsOf 45 = 2 := by kernel_rfl
section
variable {H : Type} {enc : TypeId × Value → H} {W : World}
theorem moves_open {fuel : Nat} {v : Value} {y : DataW H × List MemPlace} (h : DataW.trod enc Try.prog W 0 (fun _ => true) true fuel 26 [v] = some y) : ∃ (a : Option Addr) (len cap : Nat) (ms : List (Int × Int)), v = .slice a len cap ∧ Moves W a len ms := by
  rcases open_slice_pairs Try.underlying26 Try.underlying45 cellsM rfl rfl (by kernel_rfl) (by kernel_rfl) h with ⟨hcs, hx⟩ | ⟨x, l, c, m, n, V0, V1, D0, D1, P0, P1, hcs, _, hl, hm, hmm, hx, hel⟩
  · exact ⟨none, 0, 0, [], by simpa using hcs, rfl, by omega, .inl rfl⟩
  · have hmc : m = c := by simpa using hmm
    have hch : ∀ i : Nat, ∃ u : Int × Int, i < l → V0 i = .int .i64 u.1 ∧ V1 i = .int .i64 u.2 := fun i => by
      by_cases hi : i < l
      · obtain ⟨d, e1, _⟩ := DataW.trod_int Try.underlying3 (hel i (by omega)).2.2.1
        obtain ⟨N, e2, _⟩ := DataW.trod_int Try.underlying3 (hel i (by omega)).2.2.2
        exact ⟨(d, N), fun _ => ⟨by simpa using e1, by simpa using e2⟩⟩
      · exact ⟨(0, 0), fun hh => absurd hh hi⟩
    obtain ⟨f, hf⟩ := Classical.axiomOfChoice hch
    refine ⟨some x, l, c, (List.range l).map f, by simpa using hcs, by simp, by unfold maxLen at hm; omega, ?_⟩
    by_cases h0 : l = 0
    · exact .inl h0
    · obtain ⟨b, off, spot⟩ := x
      have hspot : spot = none := by simpa [Addr.add] using World.cell?_spot (hel 0 (by omega)).1
      subst hspot
      refine .inr ⟨b, off, rfl, fun j hj => ?_⟩
      obtain ⟨e1, e2⟩ := hf j hj
      have c0 := (hel j (by omega)).1
      have c1 := (hel j (by omega)).2.1
      rw [e1, Go.WideShapes.add_plain] at c0
      rw [e2, Go.WideShapes.add_plain, ← Nat.add_assoc] at c1
      have ej : ((List.range l).map f)[j]?.getD (0, 0) = f j := by simp [hj]
      rw [ej]
      exact ⟨c0, c1⟩
end
end Go.Proofs.Ytdfpgpekilhelaa.V
