/-
  Plain mathematics: the document's test of new steps is the test of neighbours.
-/
import Derived.Test.YtfamaaahofjglaaReform
namespace Go.Proofs.Ytfamaaahofjglaa.V
open Go.RowKit

theorem wrap64_mod (n : Int) : ∃ c : Int, wrap64 n = n + c * 18446744073709551616 := by
  unfold wrap64
  have := Int.mul_ediv_add_emod (n + 9223372036854775808) 18446744073709551616
  exact ⟨-((n + 9223372036854775808) / 18446744073709551616), by omega⟩
theorem wrap64_bd (n : Int) : -9223372036854775808 ≤ wrap64 n ∧ wrap64 n ≤ 9223372036854775807 := by unfold wrap64; omega
theorem liesS_mod (s : Int) (ss ys : List Int) : ∀ k, ∃ c : Int, liesS s ss ys k = s + dotT ys ss k + c * 18446744073709551616
  | 0 => ⟨0, by simp [liesS, dotT]⟩
  | k + 1 => by
    obtain ⟨c1, h1⟩ := liesS_mod s ss ys k
    obtain ⟨c2, h2⟩ := wrap64_mod (ys[k]?.getD 0 * ss[k]?.getD 0)
    obtain ⟨c3, h3⟩ := wrap64_mod (liesS s ss ys k + wrap64 (ys[k]?.getD 0 * ss[k]?.getD 0))
    refine ⟨c1 + c2 + c3, ?_⟩
    rw [liesS, h3, h1, h2, dotT]; omega
theorem liesS_bd (s : Int) (ss ys : List Int) (hs : -9223372036854775808 ≤ s ∧ s ≤ 9223372036854775807) : ∀ k, -9223372036854775808 ≤ liesS s ss ys k ∧ liesS s ss ys k ≤ 9223372036854775807
  | 0 => hs
  | _ + 1 => wrap64_bd _

theorem reform_test {s : Int} {L es : List Int} (hpos : ∀ x ∈ es, 1 ≤ x) (hN : L.length = (prod es).toNat) (h1 : 1 ≤ L.length) (h0 : L[0]?.getD 0 = s) (hb : ∀ x ∈ L, -28115000000000000 ≤ x ∧ x ≤ 28115000000000000) :
    allEvenB L es = true ↔ ∀ i, i < L.length → liesS s (reformSteps L es) (dig es i) es.length = L[i]?.getD 0 := by
  have hs := hb _ (mem_getD L 0 (by omega))
  rw [h0] at hs
  rw [allEvenB_iff]
  constructor
  · intro hev i hi
    have he := even_lies hpos hN hev i i (Nat.le_refl _) hi
    obtain ⟨c, hc⟩ := liesS_mod s (reformSteps L es) (dig es i) es.length
    have hl := liesS_bd s (reformSteps L es) (dig es i) (by omega) es.length
    rw [← lieN_dig es _ i (reformSteps_length L es)] at hc
    have hx := hb _ (mem_getD L i hi)
    rw [h0] at he
    omega
  · intro h
    refine lies_even hpos hN hb (fun i hi => ?_)
    obtain ⟨c, hc⟩ := liesS_mod s (reformSteps L es) (dig es i) es.length
    rw [← lieN_dig es _ i (reformSteps_length L es), h i hi] at hc
    exact ⟨c, by rw [h0]; exact hc⟩

/-- The row of steps on its way: the first k. -/
def stepsF (L es : List Int) (k j : Nat) : Value := .int .i64 (if j < k then stepE L (es[j]?.getD 0).toNat (beh es j).toNat else 0)
theorem stepsF_succ (L es : List Int) (k j : Nat) : (if j = k then .int .i64 (stepE L (es[k]?.getD 0).toNat (beh es k).toNat) else stepsF L es k j) = stepsF L es (k + 1) j := by
  unfold stepsF
  by_cases e : j = k
  · rw [if_pos e, if_pos (by omega), e]
  · rw [if_neg e]
    by_cases h : j < k
    · rw [if_pos h, if_pos (by omega)]
    · rw [if_neg h, if_neg (by omega)]
theorem stepsF_one (L es : List Int) (k j : Nat) (h : (es[k]?.getD 0).toNat = 1) : stepsF L es k j = stepsF L es (k + 1) j := by
  unfold stepsF
  by_cases e : j = k
  · subst e; rw [if_neg (by omega), if_pos (by omega), h]; rfl
  · by_cases hj : j < k
    · rw [if_pos hj, if_pos (by omega)]
    · rw [if_neg hj, if_neg (by omega)]
end Go.Proofs.Ytfamaaahofjglaa.V
