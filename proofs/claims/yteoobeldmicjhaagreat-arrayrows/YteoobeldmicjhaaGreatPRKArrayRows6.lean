/-
  Contract: view.Place.
-/
import Derived.Test.YteoobeldmicjhaaGreatPRKArrayRows4
import Derived.Test.YteoobeldmicjhaaGreatPRKArrayRows5
namespace Go.Proofs.YteoobeldmicjhaaGreat.V
set_option maxRecDepth 20000
open Go.RowKit Go.Shelf
attribute [local go_sem] Oper.semAt_some

/-- The places that the first k numbers of an index are worth. -/
def placeS (xs ys : List Int) : Nat → Int
  | 0 => 0
  | k + 1 => placeS xs ys k + ys[k]?.getD 0 * beh xs k
def IdxOk (xs ys : List Int) : Prop := ∀ k, k < xs.length → 0 ≤ ys[k]?.getD 0 ∧ ys[k]?.getD 0 < xs[k]?.getD 0
def idxB (xs ys : List Int) : Bool := (List.range xs.length).all fun k => decide (0 ≤ ys[k]?.getD 0) && decide (ys[k]?.getD 0 < xs[k]?.getD 0)
theorem idxB_iff (xs ys : List Int) : idxB xs ys = true ↔ IdxOk xs ys := by simp [idxB, IdxOk]
theorem idxB_no {xs ys : List Int} (h : ¬ IdxOk xs ys) : idxB xs ys = false := by
  cases e : idxB xs ys with
  | true => exact absurd ((idxB_iff xs ys).1 e) h
  | false => rfl
def placeN (xs ys : List Int) : Int := if sizeE xs ≠ 0 then 0 else if ys.length ≠ xs.length then 0 else if idxB xs ys = true then placeS xs ys xs.length else 0
def placeE (xs ys : List Int) : Int := if sizeE xs ≠ 0 then sizeE xs else if ys.length ≠ xs.length then 6 else if idxB xs ys = true then 0 else 4

theorem sizeE_ok {xs : List Int} (h : sizeE xs = 0) : xs.length ≤ 6 ∧ (∀ x ∈ xs, 0 ≤ x ∧ x ≤ 4096) ∧ ((∀ x ∈ xs, 1 ≤ x) → prod xs ≤ 65536 ∧ sizeN xs = prod xs) ∧ ((0 : Int) ∈ xs → sizeN xs = 0) := by
  unfold sizeE at h
  by_cases c1 : 6 < xs.length
  · rw [if_pos c1] at h; omega
  rw [if_neg c1] at h
  by_cases c2 : xs.any badDim = true
  · rw [if_pos c2] at h; omega
  rw [if_neg c2] at h
  refine ⟨by omega, fun x hx => ?_, fun hg => ?_, fun h0 => ?_⟩
  · have : badDim x = false := by
      have c2' : xs.any badDim = false := by simpa using c2
      rw [List.any_eq_false] at c2'
      simpa using c2' x hx
    simp [badDim] at this; omega
  · have c3 : (0 : Int) ∉ xs := fun e => by have := hg 0 e; omega
    rw [if_neg c3] at h
    by_cases c4 : 65536 < prod xs
    · rw [if_pos c4] at h; omega
    refine ⟨by omega, ?_⟩
    unfold sizeN; rw [if_neg c1, if_neg c2, if_neg c3, if_neg c4]
  · unfold sizeN; rw [if_neg c1, if_neg c2, if_pos h0]
theorem idxOk_pos {xs ys : List Int} (h : IdxOk xs ys) : ∀ x ∈ xs, 1 ≤ x := by
  intro x hx
  obtain ⟨k, hk, rfl⟩ := List.getElem_of_mem hx
  have := h k hk
  simp [hk] at this; omega
/-- The fence that shuts nothing out. -/
abbrev FW : Fence := Fence.wide

end Go.Proofs.YteoobeldmicjhaaGreat.V
