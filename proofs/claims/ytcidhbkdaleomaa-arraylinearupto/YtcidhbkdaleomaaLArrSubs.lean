/-
  A part of a list, from a place on.
-/
import Derived.Test.YtcidhbkdaleomaaInts
namespace Go.Proofs.Ytcidhbkdaleomaa.V
set_option maxRecDepth 20000
open Go.RowKit

/-- Some numbers of a list, from a place on. -/
def sub (xs : List Int) (from' long : Nat) : List Int := (xs.drop from').take long
theorem ints_sub {w : World} {b off n : Nat} {xs : List Int} (h : Ints w (some ⟨b, off, none⟩) n xs) (f l : Nat) (hl : f + l ≤ n) : Ints w (some ⟨b, off + f, none⟩) l (sub xs f l) := by
  obtain ⟨h1, h2, h3, h4⟩ := h
  refine ⟨by simp [sub]; omega, by omega, fun x hx => h3 x (List.mem_of_mem_drop (List.mem_of_mem_take hx)), ?_⟩
  by_cases l0 : l = 0
  · exact .inl l0
  · rcases h4 with h4 | ⟨b', off', e, hc⟩
    · omega
    · cases e
      refine .inr ⟨b, off + f, rfl, fun j hj => ?_⟩
      rw [Nat.add_assoc, hc (f + j) (by omega)]
      simp [sub, List.getElem?_take_of_lt hj]

theorem ints_if {w : World} {b off f l c : Nat} {xs : List Int} (h : Ints w (some ⟨b, off + f, none⟩) l xs) (hc : f + l ≤ c) : Ints w (if c = f then some ⟨b, off, none⟩ else some ⟨b, off + f, none⟩) l xs := by
  by_cases e : c = f
  · rw [if_pos e]
    exact ⟨h.1, h.2.1, h.2.2.1, .inl (by omega)⟩
  · rw [if_neg e]; exact h
end Go.Proofs.Ytcidhbkdaleomaa.V
