/-
  Contracts: adjointref2.Do of Take: just what is made. Contract: adjointref2.putEntry. Contracts: adjointref2.Do of Put: just what is made.
-/
import Derived.Test.YteoobeldmicjhaaGreatPCKArrayCuts48
import Derived.Test.YteoobeldmicjhaaGreatPCKArrayCuts42
namespace Go.Proofs.YteoobeldmicjhaaGreat.V
set_option maxRecDepth 20000
open Go.RowKit

theorem size_parts {a b : List Int} (hz : sizeE (a ++ b) = 0) (hpos : ∀ x ∈ a ++ b, 1 ≤ x) : sizeE a = 0 ∧ sizeE b = 0 := by
  obtain ⟨z1, z2, z3, _⟩ := sizeE_ok hz
  have hp := (z3 hpos).1
  rw [prod_append] at hp
  rw [List.length_append] at z1
  have pa := prod_pos a (fun x hx => hpos x (by simp [hx]))
  have pb := prod_pos b (fun x hx => hpos x (by simp [hx]))
  have h1 : prod a * 1 ≤ prod a * prod b := Int.mul_le_mul_of_nonneg_left pb (by omega)
  have h2 : 1 * prod b ≤ prod a * prod b := Int.mul_le_mul_of_nonneg_right pa (by omega)
  have key : ∀ l : List Int, l.length ≤ 6 → (∀ x ∈ l, x ∈ a ++ b) → prod l ≤ 65536 → sizeE l = 0 := fun l hl hm hpl => by
    unfold sizeE
    rw [if_neg (by omega), if_neg ?_]
    · rw [if_neg (fun h => by have := hpos 0 (hm 0 h); omega), if_neg (by omega)]
    · have : l.any badDim = false := by
        rw [List.any_eq_false]
        intro x hx
        have := z2 x (hm x hx)
        simp [badDim]; omega
      rw [this]; simp
  exact ⟨key a (by omega) (fun x hx => by simp [hx]) (by omega), key b (by omega) (fun x hx => by simp [hx]) (by omega)⟩
theorem place_one {D r : Int} (hz : sizeE [D] = 0) (h0 : 0 ≤ r) (h1 : r < D) : IdxOk [D] [r] ∧ placeN [D] [r] = r := by
  have hio : IdxOk [D] [r] := fun k hk => by
    have : k = 0 := by simp at hk; omega
    subst this
    simp; omega
  refine ⟨hio, ?_⟩
  rw [place_dot (y := [r]) hz rfl hio, stepsV_cons (fun x hx => by simp at hx; omega)]
  simp [dotT, prod]
end Go.Proofs.YteoobeldmicjhaaGreat.V
namespace Go.Proofs.YteoobeldmicjhaaGreat.V
set_option maxRecDepth 20000
open Go.RowKit

end Go.Proofs.YteoobeldmicjhaaGreat.V
namespace Go.Proofs.YteoobeldmicjhaaGreat.V
set_option maxRecDepth 20000
open Go.RowKit

end Go.Proofs.YteoobeldmicjhaaGreat.V
