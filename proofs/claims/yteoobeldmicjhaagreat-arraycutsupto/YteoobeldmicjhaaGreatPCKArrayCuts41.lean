/-
  Contract: array.takeRows. Contract: array.putRows. Contracts: array.work of Take and Put, over what takeRows and putRows do. What goes with sums and with products by a number. What Do makes of one array, in what it makes go with sums.
-/
import Derived.Test.YteoobeldmicjhaaGreatPCKArrayCuts38
import Derived.Test.YteoobeldmicjhaaGreatPCKArrayCuts37
import Derived.Test.YteoobeldmicjhaaGreatPCKArrayCuts28
namespace Go.Proofs.YteoobeldmicjhaaGreat.V
set_option maxRecDepth 20000
open Go.RowKit

theorem ints_off {w W W' : World} {g n : Nat} {a : Option Addr} {xs : List Int} (h : Ints w a n xs) (hb : Below w.heap.size w W) (hs : Save g W W') (ho : 0 < n → OffG g a) : Ints W' a n xs := by
  obtain ⟨h1, h2, h3, h4⟩ := h
  refine ⟨h1, h2, h3, ?_⟩
  by_cases h0 : n = 0
  · exact .inl h0
  · rcases h4 with h4 | ⟨b, off, e, hc⟩
    · exact .inl h4
    · have hl := lt_of_cell (hc 0 (by omega))
      simp only at hl
      exact .inr ⟨b, off, e, fun j hj => (World.cell?_of_block (w := W) (hs.1 b (by have := hb.size; omega) (ho (by omega) b off e))).trans ((hb.cell (p := ⟨b, off + j, none⟩) hl).trans (hc j hj))⟩

end Go.Proofs.YteoobeldmicjhaaGreat.V
namespace Go.Proofs.YteoobeldmicjhaaGreat.V
set_option maxRecDepth 20000
open Go.RowKit

end Go.Proofs.YteoobeldmicjhaaGreat.V
namespace Go.Proofs.YteoobeldmicjhaaGreat.V
set_option maxRecDepth 20000
open Go.RowKit

end Go.Proofs.YteoobeldmicjhaaGreat.V
namespace Go.Proofs.YteoobeldmicjhaaGreat.V
set_option maxRecDepth 20000
open Go.RowKit

def Bnd (xs : List Int) : Prop := ∀ x ∈ xs, -9223372036854775808 ≤ x ∧ x ≤ 9223372036854775807
theorem bnd_at {xs : List Int} (h : Bnd xs) (i : Nat) : -9223372036854775808 ≤ xs[i]?.getD 0 ∧ xs[i]?.getD 0 ≤ 9223372036854775807 := by
  by_cases hi : i < xs.length
  · exact h _ (mem_getD xs i hi)
  · rw [List.getElem?_eq_none (by omega)]; simp
theorem list_map_range (l : List Int) (N : Nat) (h : l.length = N) : l = (List.range N).map fun i => l[i]?.getD 0 := by
  rw [← h, map_getD_range]
end Go.Proofs.YteoobeldmicjhaaGreat.V
namespace Go.Proofs.YteoobeldmicjhaaGreat.V
set_option maxRecDepth 20000
open Go.RowKit

theorem dimsP_parts {k : Int} {es ps lo hi st : List Int} {xss : List (List Int)} (h : (dimsP k es ps lo hi st xss).2 = 0) : (shapeP k es ps lo hi st xss).2 = 0 ∧ sizeE (shapeP k es ps lo hi st xss).1 = 0 ∧ (dimsP k es ps lo hi st xss).1 = (shapeP k es ps lo hi st xss).1 := by
  unfold dimsP at h ⊢
  by_cases c1 : takesE k xss.length ≠ 0
  · rw [if_pos c1] at h; exact absurd h c1
  rw [if_neg c1] at h ⊢
  by_cases c2 : sizesE xss ≠ 0
  · rw [if_pos c2] at h; exact absurd h c2
  rw [if_neg c2] at h ⊢
  by_cases c3 : (shapeP k es ps lo hi st xss).2 ≠ 0
  · rw [if_pos c3] at h; exact absurd h c3
  rw [if_neg c3] at h ⊢
  by_cases c4 : sizeE (shapeP k es ps lo hi st xss).1 ≠ 0
  · rw [if_pos c4] at h; exact absurd h c4
  rw [if_neg c4]
  exact ⟨Decidable.not_not.1 c3, Decidable.not_not.1 c4, rfl⟩
theorem arrsE_congr {v v' : Nat → ArrV} : ∀ m, (∀ j, j < m → (v j).ds = (v' j).ds ∧ (v j).xl = (v' j).xl) → arrsE v m = arrsE v' m
  | 0, _ => rfl
  | m + 1, h => by rw [arrsE, arrsE, arrsE_congr m (fun j hj => h j (by omega)), (h m (by omega)).1, (h m (by omega)).2]
theorem doE_congr {k : Int} {es ps lo hi st : List Int} {m : Nat} {v v' : Nat → ArrV} (h : ∀ j, j < m → (v j).ds = (v' j).ds ∧ (v j).xl = (v' j).xl) : doE k es ps lo hi st m v = doE k es ps lo hi st m v' := by
  have hd : dimsOf m v = dimsOf m v' := by
    unfold dimsOf
    exact List.map_congr_left (fun j hj => (h j (by simpa using hj)).1)
  unfold doE
  rw [arrsE_congr m h, hd]
/-- One array, of which nothing but its dimensions and how many numbers it has is known. -/
def oneV (ds : List Int) (n : Nat) (_ : Nat) : ArrV := ⟨none, 0, 0, ds, none, n, 0⟩
theorem oneV_parts {k : Int} {es ps lo hi st ds : List Int} {n : Nat} (h : doE k es ps lo hi st 1 (oneV ds n) = 0) : arrE ds n = 0 ∧ (shapeP k es ps lo hi st [ds]).2 = 0 ∧ sizeE (shapeP k es ps lo hi st [ds]).1 = 0 ∧ (dimsP k es ps lo hi st [ds]).1 = (shapeP k es ps lo hi st [ds]).1 := by
  obtain ⟨_, c2, c3⟩ := doE_ok h
  exact ⟨arrsE_ok 1 c2 0 (by omega), dimsP_parts c3⟩

/-- What Do answers, where it tells no error. -/
def DoesTo (W : World) (L f : List Int) (N : Nat) (e : Ending) (W' : World) : Prop :=
  ∃ (Z : Option Addr) (nz cz G : Nat), e = .returned (.tuple #[.agg #[.slice Z nz cz, .slice (some ⟨G, 0, none⟩) N N], .int .i64 0]) ∧ (Ints W' Z nz L ∧ nz ≤ cz) ∧ Ints W' (some ⟨G, 0, none⟩) N f ∧ W.heap.size ≤ G
theorem arrE_of {L : List Int} (h : sizeE L = 0) : arrE L (prod L).toNat = 0 ∧ ((prod L).toNat : Int) = prod L := by
  have hp : 0 ≤ prod L := by
    rcases dims_cases h with ⟨_, _, h3⟩ | ⟨_, _, _, h4⟩ <;> omega
  have he : ((prod L).toNat : Int) = prod L := by omega
  refine ⟨?_, he⟩
  unfold arrE
  rw [if_neg (by rw [h]; simp), if_neg (by rw [size_prod h, he]; simp)]
theorem off_new {w W : World} {X : Option Addr} {n g : Nat} {xs : List Int} (h : Ints w X n xs) (hn : 0 < n) (hg : w.heap.size ≤ g) : OffG g X := fun b o e => by
  obtain ⟨b', o', e', hb', _⟩ := h.at hn
  rw [e] at e'; cases e'
  have := W.heap.size
  omega

end Go.Proofs.YteoobeldmicjhaaGreat.V
