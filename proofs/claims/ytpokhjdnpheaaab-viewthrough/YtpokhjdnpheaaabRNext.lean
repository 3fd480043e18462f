/-
  Contract: adjointref1.Next.
-/
import Derived.Test.YtpokhjdnpheaaabLie
import Derived.Test.YtpokhjdnpheaaabSteps
namespace Go.Proofs.Ytpokhjdnpheaaab.V
open Go.RowKit

theorem nextL_false : ∀ (ds zs : List Int), zs.length = ds.length → (nextL ds zs).2 = false → (nextL ds zs).1 = List.replicate ds.length 0
  | [], [], _, _ => rfl
  | d :: ds, z :: zs, h, h2 => by
    have ih := nextL_false ds zs (by simpa using h)
    rw [nextL] at h2 ⊢
    by_cases c : (nextL ds zs).2 = true
    · rw [if_pos c] at h2; cases h2
    · rw [if_neg c] at h2 ⊢
      by_cases c2 : z + 1 < d
      · rw [if_pos c2] at h2; cases h2
      · rw [if_neg c2]
        simp [ih (by simpa using c), List.replicate_succ]
  | [], z :: zs, h, _ => by simp at h
  | d :: ds, [], h, _ => by simp at h

/-- A row that a slice owns, with what lies behind it. -/
theorem row_of_own {w : World} {B t n c g : Nat} {xs : List Int} (h : w.ownsRow B t 1 (.slice (some ⟨g, 0, none⟩) n c) n (xs.map (Value.int .i64))) (hl : xs.length = n) : ∃ f, w.rowIs g t c f ∧ (∀ j, j < n → f j = .int .i64 (xs[j]?.getD 0)) ∧ n ≤ c ∧ B ≤ g := by
  rcases h.2 with ⟨h1, _⟩ | ⟨g', cap, cur, h1, hB, hb, hnc, _, hsz, ht⟩
  · cases h1
  · cases h1
    refine ⟨fun j => cur[j]?.getD undef, ⟨cur, hb, by simpa using hsz, fun i hi => ?_⟩, fun j hj => ?_, hnc, hB⟩
    · have : i < cur.size := by omega
      simp [this]
    · have h3 : (cur.toList.take (n * 1))[j]? = (xs.map (Value.int .i64))[j]? := by rw [ht]
      rw [List.getElem?_take_of_lt (by omega)] at h3
      have hj' : j < xs.length := by omega
      simp [hj'] at h3
      simp [h3, hj']

/-- The numbers, when those from k on have come. -/
def nextAt (ys : List Int) (k j : Nat) : Int := if j < k then ys[j]?.getD 0 else 0

theorem nextL_end (xs ys : List Int) (hl : ys.length = xs.length) (k : Nat) (hk : k < xs.length) (hf : (nextL (xs.drop (k + 1)) (ys.drop (k + 1))).2 = false) (hlt : ys[k]?.getD 0 + 1 < xs[k]?.getD 0) :
    (nextL xs ys).2 = true ∧ (nextL xs ys).1.length = xs.length ∧ ∀ j, j < xs.length → (nextL xs ys).1[j]?.getD 0 = if j = k then ys[k]?.getD 0 + 1 else nextAt ys (k + 1) j := by
  have h1 := nextL_drop xs ys hl k hk
  rw [if_neg (by rw [hf]; simp), if_pos hlt] at h1
  have h2 := nextL_true xs ys _ hl k (by omega) h1
  have h3 := nextL_false (xs.drop (k + 1)) (ys.drop (k + 1)) (by simp [hl]) hf
  rw [h3] at h2
  rw [h2]
  refine ⟨rfl, by simp [hl]; omega, fun j hj => ?_⟩
  unfold nextAt
  by_cases e : j = k
  · subst e
    rw [if_pos rfl, List.getElem?_append_right (by simp; omega)]
    simp [hl, show min j xs.length = j by omega]
  · rw [if_neg e]
    by_cases c : j < k
    · rw [if_pos (by omega), List.getElem?_append_left (by simp [hl]; omega), List.getElem?_take_of_lt c]
    · rw [if_neg (by omega), List.getElem?_append_right (by simp; omega)]
      have e1 : j - (ys.take k).length = (j - k - 1) + 1 := by simp [hl]; omega
      rw [e1, List.getElem?_cons_succ]
      by_cases c2 : j - k - 1 < xs.length - (k + 1) <;> simp [c2]
theorem nextL_stage (xs ys : List Int) (hl : ys.length = xs.length) (k : Nat) (hk : k < xs.length) (hf : (nextL (xs.drop (k + 1)) (ys.drop (k + 1))).2 = false) (hlt : ¬ ys[k]?.getD 0 + 1 < xs[k]?.getD 0) : (nextL (xs.drop k) (ys.drop k)).2 = false := by
  rw [nextL_drop xs ys hl k hk, if_neg (by rw [hf]; simp), if_neg hlt]

end Go.Proofs.Ytpokhjdnpheaaab.V
