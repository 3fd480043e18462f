/-
  The least and the greatest of each number.
-/
import Derived.Test.YtmefgejggpimeaaPtMath
namespace Go.Proofs.Ytmefgejggpimeaa.V
open Go.RowKit
set_option linter.unusedVariables false

/-- Number by number. -/
def both2 (f : Int → Int → Int) (a b : List Int) : List Int := (List.range a.length).map fun k => f (a[k]?.getD 0) (b[k]?.getD 0)
def lowL (L : List (List Int)) : List Int := L.foldl (both2 min) (L.headD [])
def highL (L : List (List Int)) : List Int := L.foldl (both2 max) (L.headD [])
theorem both2_len (f : Int → Int → Int) (a b : List Int) : (both2 f a b).length = a.length := by simp [both2]
theorem both2_getD (f : Int → Int → Int) (a b : List Int) (k : Nat) (h : k < a.length) : (both2 f a b)[k]?.getD 0 = f (a[k]?.getD 0) (b[k]?.getD 0) := by simp [both2, h]
theorem both2_self (f : Int → Int → Int) (hf : ∀ x, f x x = x) (a : List Int) : both2 f a a = a := by
  apply List.ext_getElem?
  intro i
  by_cases hi : i < a.length
  · simp [both2, hi, hf]
  · simp [both2, hi]
theorem lowL_snoc (L : List (List Int)) (x : List Int) (h : L ≠ []) : lowL (L ++ [x]) = both2 min (lowL L) x := by
  cases L with
  | nil => exact absurd rfl h
  | cons y L => simp [lowL, List.foldl_append]
theorem highL_snoc (L : List (List Int)) (x : List Int) (h : L ≠ []) : highL (L ++ [x]) = both2 max (highL L) x := by
  cases L with
  | nil => exact absurd rfl h
  | cons y L => simp [highL, List.foldl_append]
theorem lowL_one (x : List Int) : lowL [x] = x := by simp [lowL]; exact both2_self min (fun x => by omega) x
theorem highL_one (x : List Int) : highL [x] = x := by simp [highL]; exact both2_self max (fun x => by omega) x
/-- Half way through the numbers of a point. -/
def half (f : Int → Int → Int) (a b : List Int) (j k : Nat) : Int := if k < j then f (a[k]?.getD 0) (b[k]?.getD 0) else a[k]?.getD 0
theorem half_zero (f : Int → Int → Int) (a b : List Int) (k : Nat) : half f a b 0 k = a[k]?.getD 0 := by simp [half]
theorem half_succ (f : Int → Int → Int) (a b : List Int) (j k : Nat) : (if k = j then f (a[j]?.getD 0) (b[j]?.getD 0) else half f a b j k) = half f a b (j + 1) k := by
  unfold half
  by_cases e : k = j
  · subst e; rw [if_pos rfl, if_pos (by omega)]
  · rw [if_neg e]
    by_cases h : k < j
    · rw [if_pos h, if_pos (by omega)]
    · rw [if_neg h, if_neg (by omega)]
theorem half_all (f : Int → Int → Int) (a b : List Int) (k : Nat) (h : k < a.length) : half f a b a.length k = (both2 f a b)[k]?.getD 0 := by
  rw [both2_getD f a b k h, half, if_pos h]
/-- All in reach. -/
def Sm (x : List Int) (len : Nat) : Prop := x.length = len ∧ ∀ y ∈ x, 0 ≤ y ∧ y ≤ 4096
theorem Sm.getD {x : List Int} {len : Nat} (h : Sm x len) (k : Nat) : 0 ≤ x[k]?.getD 0 ∧ x[k]?.getD 0 ≤ 4096 := by
  by_cases hk : k < x.length
  · exact h.2 _ (mem_getD x k hk)
  · rw [List.getElem?_eq_none (by omega)]; simp
theorem Sm.both {f : Int → Int → Int} (hf : ∀ a b, f a b = a ∨ f a b = b) {x y : List Int} {len : Nat} (hx : Sm x len) (hy : Sm y len) : Sm (both2 f x y) len := by
  refine ⟨by rw [both2_len]; exact hx.1, fun z hz => ?_⟩
  simp only [both2, List.mem_map, List.mem_range] at hz
  obtain ⟨k, _, rfl⟩ := hz
  have h1 := hx.getD k
  have h2 := hy.getD k
  rcases hf (x[k]?.getD 0) (y[k]?.getD 0) with e | e <;> rw [e] <;> omega
theorem Sm.fold {f : Int → Int → Int} (hf : ∀ a b, f a b = a ∨ f a b = b) {len : Nat} : ∀ (L : List (List Int)) (x : List Int), Sm x len → (∀ y ∈ L, Sm y len) → Sm (L.foldl (both2 f) x) len
  | [], x, hx, _ => hx
  | y :: L, x, hx, h => Sm.fold hf L _ (Sm.both hf hx (h y (by simp))) (fun z hz => h z (by simp [hz]))
theorem min_or (a b : Int) : min a b = a ∨ min a b = b := by omega
theorem max_or (a b : Int) : max a b = a ∨ max a b = b := by omega
theorem sm_low {L : List (List Int)} {len : Nat} (h : L ≠ []) (hL : ∀ y ∈ L, Sm y len) : Sm (lowL L) len := by
  cases L with
  | nil => exact absurd rfl h
  | cons y L => exact Sm.fold min_or _ _ (hL y (by simp)) hL
theorem sm_high {L : List (List Int)} {len : Nat} (h : L ≠ []) (hL : ∀ y ∈ L, Sm y len) : Sm (highL L) len := by
  cases L with
  | nil => exact absurd rfl h
  | cons y L => exact Sm.fold max_or _ _ (hL y (by simp)) hL
end Go.Proofs.Ytmefgejggpimeaa.V
