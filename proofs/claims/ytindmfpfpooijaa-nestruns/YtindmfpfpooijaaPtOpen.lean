/-
  A description of points among the arguments.
-/
import Derived.Test.YtindmfpfpooijaaPtRow
import Derived.Test.YtindmfpfpooijaaLsts
import Derived.Deep.SlicePairs
import Derived.ChangeArms
namespace Go.Proofs.Ytindmfpfpooijaa.V
open Go.RowKit Go.Deep Go.ChangeShapes Go.WideShapes

theorem cellsRow : Try.prog.cellsOf 41 = 2 := by kernel_rfl
theorem cellsPt : Try.prog.cellsOf 39 = 2 := by kernel_rfl
section
variable {H : Type} {enc : TypeId × Value → H} {W : World}
theorem row_ints {fuel : Nat} {v : Value} {y : DataW H × List MemPlace} (h : DataW.trod enc Try.prog W 0 (fun _ => true) true fuel 22 [v] = some y) : ∃ (a : Option Addr) (len cap : Nat) (xs : List Int), v = .slice a len cap ∧ Lst W a len cap xs ∧ cap ≤ maxLen := by
  rcases open_ints Try.underlying22 Try.underlying3 (by kernel_rfl) h with ⟨hcs, _⟩ | ⟨x, l, c, zs, hcs, _, hl, hm, hz, _, hcell, hwz⟩
  · exact ⟨none, 0, 0, [], by simpa using hcs, ⟨⟨rfl, by omega, by simp, .inl rfl⟩, Nat.le_refl _, fun _ => rfl⟩, by unfold maxLen; omega⟩
  · exact ⟨some x, l, c, zs.take l, by simpa using hcs, ⟨ints_of_row (cap := c) (.inr ⟨x, rfl, hl, hm, by simpa using hz, hcell, hwz⟩), hl, fun e => by cases e⟩, hm⟩
theorem rows_open {fuel : Nat} {v : Value} {y : DataW H × List MemPlace} (h : DataW.trod enc Try.prog W 0 (fun _ => true) true fuel 37 [v] = some y) : ∃ (a : Option Addr) (len cap : Nat) (rs : List (List Int × Int)), v = .slice a len cap ∧ Rws W a len rs ∧ len ≤ cap ∧ cap ≤ maxLen := by
  rcases open_slice_pairs Try.underlying37 Try.underlying41 cellsRow rfl rfl (by kernel_rfl) (by kernel_rfl) h with ⟨hcs, hx⟩ | ⟨x, l, c, m, n, V0, V1, D0, D1, P0, P1, hcs, hlc, hl, hm, hmm, hx, hel⟩
  · exact ⟨none, 0, 0, [], by simpa using hcs, ⟨rfl, by omega, .inl rfl⟩, Nat.le_refl _, by unfold maxLen; omega⟩
  · have hmc : m = c := by simpa using hmm
    have hch : ∀ i : Nat, ∃ u : List Int × Int, i < l → (∃ a len cap, V0 i = .slice a len cap ∧ Lst W a len cap u.1) ∧ V1 i = .int .i64 u.2 ∧ -9223372036854775808 ≤ u.2 ∧ u.2 ≤ 9223372036854775807 := fun i => by
      by_cases hi : i < l
      · obtain ⟨a, len, cap, xs, e1, e2, _⟩ := row_ints (hel i (by omega)).2.2.1
        obtain ⟨N, e4, _, e5⟩ := DataW.trod_int Try.underlying3 (hel i (by omega)).2.2.2
        exact ⟨(xs, N), fun _ => ⟨⟨a, len, cap, e1, e2⟩, by simpa using e4, bounds_i64 e5⟩⟩
      · exact ⟨([], 0), fun hh => absurd hh hi⟩
    obtain ⟨f, hf⟩ := Classical.axiomOfChoice hch
    refine ⟨some x, l, c, (List.range l).map f, by simpa using hcs, ⟨by simp, by unfold maxLen at hm; omega, ?_⟩, by omega, hm⟩
    by_cases h0 : l = 0
    · exact .inl h0
    · obtain ⟨b, off, spot⟩ := x
      have hspot : spot = none := by simpa [Addr.add] using World.cell?_spot (hel 0 (by omega)).1
      subst hspot
      refine .inr ⟨b, off, rfl, fun j hj => ?_⟩
      obtain ⟨⟨a, len, cap, e1, e2⟩, e4, e5⟩ := hf j hj
      have c0 := (hel j (by omega)).1
      have c1 := (hel j (by omega)).2.1
      rw [e1, Go.WideShapes.add_plain] at c0
      rw [e4, Go.WideShapes.add_plain, ← Nat.add_assoc] at c1
      have ej : ((List.range l).map f)[j]?.getD ([], 0) = f j := by simp [hj]
      rw [ej]
      exact ⟨a, len, cap, c0, c1, e2.1, e2.2, e5⟩
end
end Go.Proofs.Ytindmfpfpooijaa.V
