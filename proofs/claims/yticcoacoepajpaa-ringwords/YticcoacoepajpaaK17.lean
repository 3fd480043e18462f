/-
  Contract: adjointref1.Steps.
-/
import Derived.Test.YticcoacoepajpaaK16
import Derived.Test.YticcoacoepajpaaK2
import Derived.Maps.AppendAt
import Derived.Deep.LoopGhost
namespace Go.Proofs.Yticcoacoepajpaa.V
open Go.RowKit

def stepV (xs : List Int) (k : Nat) : Int := if (0 : Int) ∈ xs then 0 else beh xs k
def stepsV (xs : List Int) : List Int := (List.range xs.length).map (stepV xs)
theorem stepsV_take_succ (xs : List Int) (k : Nat) (h : k < xs.length) : ((stepsV xs).take (k + 1)).map (Value.int .i64) = ((stepsV xs).take k).map (Value.int .i64) ++ [.int .i64 (stepV xs k)] := by
  rw [take_succ_getD (stepsV xs) k (by simpa [stepsV] using h), List.map_append]
  simp [stepsV, h]

/-- A product of small numbers is small. -/
theorem prod_small (xs : List Int) (h : ∀ x ∈ xs, 0 ≤ x ∧ x ≤ 4096) : 0 ≤ prod xs ∧ prod xs ≤ 4096 ^ xs.length := by
  induction xs with
  | nil => simp [prod]
  | cons x r ih =>
    obtain ⟨i1, i2⟩ := ih (fun y hy => h y (by simp [hy]))
    obtain ⟨j1, j2⟩ := h x (by simp)
    refine ⟨Int.mul_nonneg j1 i1, ?_⟩
    simp only [prod, List.length_cons, Int.pow_succ]
    rw [Int.mul_comm]
    exact Int.mul_le_mul i2 j2 j1 (by have : (0 : Int) ≤ 4096 ^ r.length := Int.pow_nonneg (by omega); exact this)
theorem prod_small5 (xs : List Int) (h : ∀ x ∈ xs, 0 ≤ x ∧ x ≤ 4096) (hl : xs.length ≤ 5) : 0 ≤ prod xs ∧ prod xs ≤ 1152921504606846976 := by
  obtain ⟨h1, h2⟩ := prod_small xs h
  refine ⟨h1, Int.le_trans h2 ?_⟩
  have : xs.length = 0 ∨ xs.length = 1 ∨ xs.length = 2 ∨ xs.length = 3 ∨ xs.length = 4 ∨ xs.length = 5 := by omega
  rcases this with e | e | e | e | e | e <;> rw [e] <;> decide

theorem ints_of_own {w : World} {B : Nat} {t : TypeId} {g k c : Nat} {xs : List Int} (h : w.ownsRow B t 1 (.slice (some ⟨g, 0, none⟩) k c) k (xs.map (Value.int .i64))) (hl : xs.length = k) (hm : k ≤ 9223372036854775807)
    (hb : ∀ x ∈ xs, -9223372036854775808 ≤ x ∧ x ≤ 9223372036854775807) : Ints w (some ⟨g, 0, none⟩) k xs := by
  refine ⟨hl, hm, hb, .inr ⟨g, 0, rfl, fun j hj => ?_⟩⟩
  have := h.cellAt j (by omega)
  rw [Nat.zero_add, this]
  simp [hl, hj]
theorem ints_grown {w w' : World} {g len : Nat} {xs : List Int} {row : Option Nat} (h : Ints w (some ⟨g, 0, none⟩) len xs) (hl : g < w.heap.size) (hg : w.grownBy w' row) (hne : some g ≠ row) : Ints w' (some ⟨g, 0, none⟩) len xs := by
  obtain ⟨h1, h2, h3, h4⟩ := h
  refine ⟨h1, h2, h3, ?_⟩
  rcases h4 with h4 | ⟨b, off, ha, hc⟩
  · exact .inl h4
  · cases ha
    exact .inr ⟨_, _, rfl, fun j hj => (World.cell?_of_block (w := w) (hg.block g hl hne)).trans (hc j hj)⟩
theorem rel_below {w wr w1 : World} {t : TypeId} {g k c : Nat} {xs : List Value} {o : Obj} (hB : Below w.heap.size w wr) (ho : wr.ownsRow w.heap.size t 1 (.slice (some ⟨g, 0, none⟩) k c) k xs) (hg : (wr.alloc o).grownBy w1 (Value.slice (some ⟨g, 0, none⟩) k c).ownBlock) : Below w.heap.size w w1 := by
  refine (hB.alloc hB.size o).grown hg (by have := hB.size; simp; omega) (fun j e => ?_)
  exact (ho.lt j e).1
theorem own_below {w w' : World} {B : Nat} {t : TypeId} {n : Nat} {v : Value} {xs : List Value} (h : w.ownsRow B t 1 v n xs) (hb : Below w.heap.size w w') : w'.ownsRow B t 1 v n xs := by
  refine ⟨h.1, ?_⟩
  rcases h.2 with h2 | ⟨g, cap, cur, h1, h2, h3, h4⟩
  · exact .inl h2
  · exact .inr ⟨g, cap, cur, h1, h2, (hb.block g (Array.getElem?_eq_some_iff.1 h3).1).trans h3, h4⟩
theorem rel_below' {w wr w1 : World} {t : TypeId} {g k c : Nat} {xs : List Value} {o : Obj} (hB : Below w.heap.size w wr) (ho : wr.ownsRow w.heap.size t 1 (.slice (some ⟨g, 0, none⟩) k c) k xs) (hg : (wr.alloc o).drew.grownBy w1 (Value.slice (some ⟨g, 0, none⟩) k c).ownBlock) : Below w.heap.size w w1 := by
  refine (hB.alloc hB.size o).drew.grown hg (by have := hB.size; show _ ≤ (wr.alloc o).heap.size; simp; omega) (fun j e => ?_)
  exact (ho.lt j e).1
theorem stepsV_bd {xs : List Int} (h : ∀ x ∈ xs, 0 ≤ x ∧ x ≤ 4096) (h6 : xs.length ≤ 6) : ∀ x ∈ stepsV xs, -9223372036854775808 ≤ x ∧ x ≤ 9223372036854775807 := by
  intro y hy
  simp only [stepsV, List.mem_map, List.mem_range] at hy
  obtain ⟨k, hk, rfl⟩ := hy
  have := prod_small5 (xs.drop (k + 1)) (fun z hz => h z (List.mem_of_mem_drop hz)) (by simp; omega)
  unfold stepV beh
  split <;> omega

end Go.Proofs.Yticcoacoepajpaa.V
