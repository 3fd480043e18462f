/-
  Contracts: adjointref1.Whole, adjointref1.Reads.
-/
import Derived.Test.YtdhkglafpjcdhaaGSteps
import Derived.Test.YtdhkglafpjcdhaaHWhole
import Derived.Deep.AppendLies
namespace Go.Proofs.Ytdhkglafpjcdhaa.V
open Go.RowKit

theorem prod_zero {xs : List Int} (h : (0 : Int) ∈ xs) : prod xs = 0 := by
  induction xs with
  | nil => cases h
  | cons x r ih =>
    rcases List.mem_cons.1 h with e | e
    · rw [prod, ← e]; omega
    · rw [prod, ih e]; omega
theorem dims_cases {xs : List Int} (hE : sizeE xs = 0) : (0 : Int) ∈ xs ∧ sizeN xs = 0 ∧ prod xs = 0 ∨ (∀ x ∈ xs, 1 ≤ x) ∧ sizeN xs = prod xs ∧ prod xs ≤ 65536 ∧ 1 ≤ prod xs := by
  obtain ⟨z1, z2, z3, z4⟩ := sizeE_ok hE
  by_cases hz : (0 : Int) ∈ xs
  · exact .inl ⟨hz, z4 hz, prod_zero hz⟩
  · have hpos : ∀ x ∈ xs, 1 ≤ x := fun x hx => by
      have := z2 x hx
      by_cases e : x = 0
      · exact absurd (e ▸ hx) hz
      · omega
    exact .inr ⟨hpos, (z3 hpos).2, (z3 hpos).1, prod_pos xs hpos⟩

/-- Where the entry lies, reckoned as the document's side does. -/
theorem lies_exact {s : Int} {ds ss : List Int} (hs : Small s ds ss) {n : Int} (hpos : ∀ x ∈ ds, 1 ≤ x) (h0 : 0 ≤ n) (h1 : n < prod ds) : ∀ k, k ≤ ds.length → liesS s ss (dig ds n) k = s + dotT (dig ds n) ss k
  | 0, _ => by simp [liesS, dotT]
  | k + 1, hk => by
    have ih := lies_exact hs hpos h0 h1 k (by omega)
    have hb := dig_bd ds n hpos h0 h1
    have hd := hs.dims
    have hl := hs.len
    have h6 := hs.rank
    have hst := hs.start
    have bx : ∀ j, j < ds.length → 0 ≤ (dig ds n)[j]?.getD 0 ∧ (dig ds n)[j]?.getD 0 ≤ 4095 := fun j hj => by
      have := hb j hj
      have := hd _ (mem_getD ds j hj)
      omega
    have by' : ∀ j, j < ds.length → -1099511627776 ≤ ss[j]?.getD 0 ∧ ss[j]?.getD 0 ≤ 1099511627776 := fun j hj => hs.steps _ (mem_getD ss j (by omega))
    have b1 := dotT_bd bx by' k (by omega)
    have b2 := dotT_bd bx by' (k + 1) (by omega)
    have b3 := mul_bd (bx k (by omega)) (by' k (by omega))
    rw [dotT] at b2
    rw [liesS, ih, dotT, IntWalk.wrap64_in ((dig ds n)[k]?.getD 0 * ss[k]?.getD 0) (by omega), IntWalk.wrap64_in _ (by omega)]
    omega
theorem readsV_getD (s : Int) (ds ss : List Int) (i : Nat) (h : i < (prod ds).toNat) : (readsV s ds ss)[i]?.getD 0 = s + lieN ds ss i := by simp [readsV, h]
theorem readsV_bd {s : Int} {ds ss : List Int} (hs : Small s ds ss) (hpos : ∀ x ∈ ds, 1 ≤ x) : ∀ x ∈ readsV s ds ss, -28115000000000000 ≤ x ∧ x ≤ 28115000000000000 := by
  intro x hx
  simp only [readsV, List.mem_map, List.mem_range] at hx
  obtain ⟨n, hn, rfl⟩ := hx
  have := lieN_bd (n := n) hs.len hs.rank (fun x hx => ⟨hpos x hx, (hs.dims x hx).2⟩) hs.steps (by omega) (by omega)
  have := hs.start
  omega

end Go.Proofs.Ytdhkglafpjcdhaa.V

/-
  Contracts: adjointref1.Whole, adjointref1.Reads, whatever they are asked.
-/
namespace Go.Proofs.Ytdhkglafpjcdhaa.V
open Go.RowKit

/-- It answers a list and what it tells. -/
def TellsL (w0 : World) (e : Ending) (w : World) (l : List Int) (E : Int) : Prop :=
  ∃ (A : Option Addr) (n c : Nat), e = .returned (.tuple #[.slice A n c, .int .i64 E]) ∧ Ints w A n l ∧ n ≤ c ∧ Far w0.heap.size A
theorem tells_none (w0 w : World) (E : Int) : TellsL w0 (.returned (.tuple #[.slice none 0 0, .int .i64 E])) w [] E := ⟨none, 0, 0, rfl, ⟨rfl, by omega, by simp, .inl rfl⟩, Nat.le_refl _, far_none _⟩

end Go.Proofs.Ytdhkglafpjcdhaa.V
