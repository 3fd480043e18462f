/-
  The table that the program makes holds the loops of the mathematics.
-/
import Derived.Test.YtmefgejggpimeaaPtRun1
namespace Go.Proofs.Ytmefgejggpimeaa.V
open Go.RowKit
set_option linter.unusedVariables false

theorem bindT_even (r : List Int × Int) (T : Nat → List LpB) (k : Nat) : bindT r T (k * 2) = T (k * 2) ++ (if hang r.1 = k + 1 ∧ 0 < r.1[k]?.getD 0 then [lpLow r k] else []) := by
  unfold bindT
  rw [show k * 2 / 2 = k by omega, show k * 2 % 2 = 0 by omega]
  by_cases h : hang r.1 = k + 1 ∧ 0 < r.1[k]?.getD 0
  · rw [if_pos ⟨h.1, by simp [h.2]⟩, if_pos rfl, if_pos h]
  · rw [if_neg (fun hh => h ⟨hh.1, hh.2.2 rfl⟩), if_neg h, List.append_nil]
theorem bindT_odd (r : List Int × Int) (T : Nat → List LpB) (k : Nat) : bindT r T (k * 2 + 1) = T (k * 2 + 1) ++ (if hang r.1 = k + 1 ∧ ¬ 0 < r.1[k]?.getD 0 then [lpHigh r k] else []) := by
  unfold bindT
  rw [show (k * 2 + 1) / 2 = k by omega, show (k * 2 + 1) % 2 = 1 by omega]
  by_cases h : hang r.1 = k + 1 ∧ ¬ 0 < r.1[k]?.getD 0
  · rw [if_pos ⟨h.1, ⟨fun hh => absurd hh h.2, fun hh => by cases hh⟩⟩, if_neg (by decide), if_pos h]
  · rw [if_neg (fun hh => h ⟨hh.1, fun h0 => by have := hh.2.1 h0; omega⟩), if_neg h, List.append_nil]
theorem tab_even (es : List Int) (k : Nat) : ∀ (rs : List (List Int × Int)) (T : Nat → List LpB), tabT rs T (k * 2) = T (k * 2) ++ (rs.filter fun r => decide (hang r.1 = k + 1) && decide (0 < r.1[k]?.getD 0)).map (lpLow · k)
  | [], T => by simp [tabT]
  | r :: rs, T => by
    have := tab_even es k rs (bindT r T)
    simp only [tabT, List.foldl_cons] at this ⊢
    rw [this, bindT_even, List.append_assoc]
    congr 1
    by_cases h : hang r.1 = k + 1 ∧ 0 < r.1[k]?.getD 0
    · rw [if_pos h, List.filter_cons_of_pos (by simp [h.1, h.2])]; rfl
    · rw [if_neg h, List.filter_cons_of_neg (by simp; omega), List.nil_append]
theorem tab_odd (es : List Int) (k : Nat) : ∀ (rs : List (List Int × Int)) (T : Nat → List LpB), tabT rs T (k * 2 + 1) = T (k * 2 + 1) ++ (rs.filter fun r => decide (hang r.1 = k + 1) && !decide (0 < r.1[k]?.getD 0)).map (lpHigh · k)
  | [], T => by simp [tabT]
  | r :: rs, T => by
    have := tab_odd es k rs (bindT r T)
    simp only [tabT, List.foldl_cons] at this ⊢
    rw [this, bindT_odd, List.append_assoc]
    congr 1
    by_cases h : hang r.1 = k + 1 ∧ ¬ 0 < r.1[k]?.getD 0
    · rw [if_pos h, List.filter_cons_of_pos (by simp [h.1]; omega)]; rfl
    · rw [if_neg h, List.filter_cons_of_neg (by simp; omega), List.nil_append]
theorem tab_lows (es : List Int) (rs : List (List Int × Int)) (k : Nat) : tabT rs (tab0 es) (k * 2) = lowsOf rs k := by
  rw [tab_even es, tab0_even]; rfl
theorem tab_highs (es : List Int) (rs : List (List Int × Int)) (k : Nat) : tabT rs (tab0 es) (k * 2 + 1) = highsOf rs k (es[k]?.getD 0) := by
  rw [tab_odd es, tab0_odd]; rfl
theorem zeros_fit (k : Nat) (K : Int) (h : -1048576 ≤ K ∧ K ≤ 1048576) : LpFit k ⟨List.replicate k 0, K, 1⟩ :=
  ⟨by simp, h, fun c hc => by have := List.eq_of_mem_replicate hc; omega, by simp only; omega⟩
theorem first_bd (cs : List Int) (k : Nat) (m : Int) (hm : m = 1 ∨ m = -1) (hc : ∀ c ∈ cs, -1048576 ≤ c ∧ c ≤ 1048576) : ∀ x ∈ firstV cs k m, -1048576 ≤ x ∧ x ≤ 1048576 := by
  intro x hx
  obtain ⟨y, hy, rfl⟩ := List.mem_map.1 hx
  have := hc y (List.mem_of_mem_take hy)
  rcases hm with rfl | rfl <;> omega
theorem lows_fit {box : List Int} {rs : List (List Int × Int)} (ho : PtOk box rs) (k : Nat) (hk : k < box.length) : ∀ b ∈ lowsOf rs k, LpFit k b := by
  intro b hb
  rcases List.mem_cons.1 hb with rfl | hb
  · exact zeros_fit k 0 (by omega)
  · obtain ⟨r, hr, rfl⟩ := List.mem_map.1 hb
    obtain ⟨hr, hp⟩ := List.mem_filter.1 hr
    simp only [Bool.and_eq_true, decide_eq_true_eq] at hp
    obtain ⟨h1, h2, h3⟩ := ho.rows r hr
    have h4 := h3 _ (mem_getD r.1 k (by omega))
    exact ⟨firstV_len _ _ _ (by omega), by simp only [lpLow]; omega, first_bd _ _ _ (.inr rfl) h3, by simp only [lpLow]; omega⟩
theorem highs_fit {box : List Int} {rs : List (List Int × Int)} (ho : PtOk box rs) (k : Nat) (hk : k < box.length) (e : Int) (he : 0 ≤ e ∧ e ≤ 4096) : ∀ b ∈ highsOf rs k e, LpFit k b := by
  intro b hb
  rcases List.mem_cons.1 hb with rfl | hb
  · exact zeros_fit k (e - 1) (by omega)
  · obtain ⟨r, hr, rfl⟩ := List.mem_map.1 hb
    obtain ⟨hr, hp⟩ := List.mem_filter.1 hr
    simp only [Bool.and_eq_true, Bool.not_eq_true', decide_eq_true_eq, decide_eq_false_iff_not] at hp
    obtain ⟨h1, h2, h3⟩ := ho.rows r hr
    have h4 := h3 _ (mem_getD r.1 k (by omega))
    have h5 := hang_at r.1 k hp.1
    exact ⟨firstV_len _ _ _ (by omega), by simp only [lpHigh]; omega, first_bd _ _ _ (.inl rfl) h3, by simp only [lpHigh]; omega⟩
theorem lows_len (rs : List (List Int × Int)) (k : Nat) (h8 : rs.length ≤ 8) : 0 < (lowsOf rs k).length ∧ (lowsOf rs k).length ≤ 100 := by
  have := List.length_filter_le (fun r : List Int × Int => decide (hang r.1 = k + 1) && decide (0 < r.1[k]?.getD 0)) rs
  simp only [lowsOf, List.length_cons, List.length_map]
  omega
theorem highs_len (rs : List (List Int × Int)) (k : Nat) (e : Int) (h8 : rs.length ≤ 8) : 0 < (highsOf rs k e).length ∧ (highsOf rs k e).length ≤ 100 := by
  have := List.length_filter_le (fun r : List Int × Int => decide (hang r.1 = k + 1) && !decide (0 < r.1[k]?.getD 0)) rs
  simp only [highsOf, List.length_cons, List.length_map]
  omega
end Go.Proofs.Ytmefgejggpimeaa.V
