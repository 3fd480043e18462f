/-
  A nest that is handed in, and how much room it takes.
-/
import Derived.Test.YtoidgdbgpbcebaaK40
import Derived.SizedLaws
namespace Go.Proofs.Ytoidgdbgpbcebaa.V
open Go Go.RowKit Go.Deep Go.ChangeShapes Go.WideShapes
variable {H : Type} {enc : TypeId × Value → H} {W : World}

theorem row_ints_w {fuel : Nat} {v : Value} {y : DataW H × List MemPlace} (h : DataW.trod enc Try.prog W 0 (fun _ => true) true fuel 22 [v] = some y) : ∃ (a : Option Addr) (len cap : Nat) (xs : List Int), v = .slice a len cap ∧ Lst W a len cap xs ∧ (len = 0 ∨ ∃ elems spare, y.1 = .slice elems spare ∧ len ≤ elems.length + spare.length) := by
  rcases open_ints Try.underlying22 Try.underlying3 (by kernel_rfl) h with ⟨hcs, _⟩ | ⟨x, l, c, zs, hcs, _, hl, hm, hz, hy, hcell, hwz⟩
  · exact ⟨none, 0, 0, [], by simpa using hcs, ⟨⟨rfl, by omega, by simp, .inl rfl⟩, Nat.le_refl _, fun _ => rfl⟩, .inl rfl⟩
  · refine ⟨some x, l, c, zs.take l, by simpa using hcs, ⟨ints_of_row (cap := c) (.inr ⟨x, rfl, hl, hm, by simpa using hz, hcell, hwz⟩), hl, fun e => by cases e⟩, .inr ⟨_, _, by rw [hy], ?_⟩⟩
    have hz' : zs.length = c := by simpa using hz
    simp [lits]
    omega
theorem bytesInt : Try.prog.bytesOf 3 = 8 := by kernel_rfl
theorem nest_sized {ts : List TypeId} {ds : List (DataW H)} {y z : DataW H} {j : Nat} (h : (DataW.weightsEach Try.prog ts ds).all (· ≤ reachBytes) = true) (ht : ts[j]? = some 25) (hd : ds[j]? = some (.agg [y, z])) {elems spare : List (DataW H)} (hy : y = .slice elems spare) : (elems.length + spare.length) * 8 ≤ reachBytes := by
  have h1 : (elems.length + spare.length) * 8 ∈ (DataW.agg [y, z]).weights Try.prog 25 := by
    unfold DataW.weights
    rw [Try.underlying25]
    simp only [DataW.weightsEach, List.map, List.mem_append]
    refine .inl ?_
    rw [hy]
    unfold DataW.weights
    rw [Try.underlying22, ← bytesInt]
    simp
  have := List.all_eq_true.1 h _ (DataW.weights_mem_each ht hd _ h1)
  simpa using this
theorem stms_room {fuel : Nat} {a : Option Addr} {len cap : Nat} {y : DataW H × List MemPlace} (h : DataW.trod enc Try.prog W 0 (fun _ => true) true fuel 23 [.slice a len cap] = some y) : len = 0 ∨ ∃ elems spare, y.1 = .slice elems spare ∧ len ≤ elems.length + spare.length := by
  rcases open_slice Try.underlying23 h with ⟨hcs, _⟩ | ⟨x, l, c, m, n, D, Pl, hcs, _, hl, hm, hmm, hy, hx⟩
  · refine .inl ?_
    simp at hcs
    exact hcs.2.1
  · refine .inr ⟨_, _, by rw [hy], ?_⟩
    simp at hcs
    simp
    omega
theorem bytesStmt : Try.prog.bytesOf 71 = 128 := by kernel_rfl
theorem nest_sized2 {ts : List TypeId} {ds : List (DataW H)} {y z : DataW H} {j : Nat} (h : (DataW.weightsEach Try.prog ts ds).all (· ≤ reachBytes) = true) (ht : ts[j]? = some 25) (hd : ds[j]? = some (.agg [y, z])) {elems spare : List (DataW H)} (hy : z = .slice elems spare) : (elems.length + spare.length) * 128 ≤ reachBytes := by
  have h1 : (elems.length + spare.length) * 128 ∈ (DataW.agg [y, z]).weights Try.prog 25 := by
    unfold DataW.weights
    rw [Try.underlying25]
    simp only [DataW.weightsEach, List.map, List.mem_append]
    refine .inr (.inl ?_)
    rw [hy]
    unfold DataW.weights
    rw [Try.underlying23, ← bytesStmt]
    simp
  have := List.all_eq_true.1 h _ (DataW.weights_mem_each ht hd _ h1)
  simpa using this
end Go.Proofs.Ytoidgdbgpbcebaa.V
