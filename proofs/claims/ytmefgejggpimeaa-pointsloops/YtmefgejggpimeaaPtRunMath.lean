/-
  What the loops go through is what the points are; how many lists there are on the way.
-/
import Derived.Test.YtmefgejggpimeaaPtTabMath
namespace Go.Proofs.Ytmefgejggpimeaa.V
open Go.RowKit
set_option linter.unusedVariables false

theorem SL_len : ∀ (d : Int) (ds : List Int), (SL (d :: ds)).length = d.toNat * (SL ds).length := by
  intro d ds
  simp only [SL]
  generalize d.toNat = m
  induction m with
  | zero => simp
  | succ m ih => rw [List.range_succ, List.flatMap_append, List.length_append, ih, Nat.succ_mul]; simp
theorem SL_drop : ∀ (ds : List Int) (k : Nat), 0 < (SL ds).length → (SL (ds.drop k)).length ≤ (SL ds).length
  | [], k, _ => by simp
  | d :: ds, 0, _ => Nat.le_refl _
  | d :: ds, k + 1, h => by
    rw [SL_len] at h ⊢
    have h1 : 0 < (SL ds).length := Nat.pos_of_mul_pos_left h
    have h2 : 0 < d.toNat := Nat.pos_of_mul_pos_right h
    have h3 := SL_drop ds k h1
    rw [List.drop_succ_cons]
    exact Nat.le_trans h3 (Nat.le_mul_of_pos_left _ h2)
theorem ends_len (box : List Int) (rs : List (List Int × Int)) : (endsOf box rs).length = box.length := by
  unfold endsOf
  split <;> simp
theorem ends_bd {box : List Int} {rs : List (List Int × Int)} (ho : PtOk box rs) (k : Nat) (hk : k < box.length) : (0 ≤ (endsOf box rs)[k]?.getD 0 ∧ (endsOf box rs)[k]?.getD 0 ≤ 4096) ∧ (endsOf box rs)[k]?.getD 0 ≤ box[k]?.getD 0 ∧ (0 ≤ box[k]?.getD 0 ∧ box[k]?.getD 0 ≤ 4096) := by
  have h := ho.dims _ (mem_getD box k hk)
  rw [endsOf_at]
  split <;> omega
theorem ends_neg {box : List Int} {rs : List (List Int × Int)} (ho : PtOk box rs) (k : Nat) : ¬ ∃ e ∈ (endsOf box rs).drop k, e < 0 := by
  rintro ⟨e, he, hn⟩
  have he := List.mem_of_mem_drop he
  unfold endsOf at he
  split at he
  · have := List.eq_of_mem_replicate he; omega
  · have := ho.dims e he; omega
theorem ends_size {box : List Int} {rs : List (List Int × Int)} (ho : PtOk box rs) (k : Nat) : (SL ((endsOf box rs).drop k)).length ≤ 4096 := by
  unfold endsOf
  split
  · rename_i h
    rw [List.drop_replicate]
    cases hm : box.length - k with
    | zero => simp [SL]
    | succ m => simp [List.replicate_succ, SL]
  · rename_i h
    have e : (SL box).length = (prod box).toNat := by rw [← BL_SL _ box rfl ho.dims, BL_len]
    have hs := ho.size.1
    have hp : 0 < (SL box).length := by
      have h1 : (pts box rs).length ≤ (BL box).length := by rw [BL_filter]; exact List.length_filter_le _ _
      rw [BL_SL _ box rfl ho.dims] at h1
      omega
    have := SL_drop box k hp
    omega
theorem hang_not {box : List Int} {rs : List (List Int × Int)} (ho : PtOk box rs) (m : Nat) (hm : box.length ≤ m) : ¬ ∃ r ∈ rs, m < hang r.1 := by
  rintro ⟨r, hr, hh⟩
  have := hang_le r.1
  have := (ho.rows r hr).1
  omega
theorem runL_eq {box : List Int} {rs : List (List Int × Int)} (ho : PtOk box rs) (x : List Int) (k : Nat) (hk : x.length = k) (hkn : k ≤ box.length) : runL (loopsFrom rs k ((endsOf box rs).drop k)) x = ((SL ((endsOf box rs).drop k)).map (x ++ ·)).filter (later rs k) := by
  subst hk
  rcases run_points rs ((endsOf box rs).drop x.length) x with h | h | h
  · exact h
  · exact absurd h (ends_neg ho _)
  · refine absurd h (hang_not ho _ ?_)
    rw [List.length_drop, ends_len]
    omega
theorem runL_len {box : List Int} {rs : List (List Int × Int)} (ho : PtOk box rs) (x : List Int) (k : Nat) (hk : x.length = k) (hkn : k ≤ box.length) : (runL (loopsFrom rs k ((endsOf box rs).drop k)) x).length ≤ 4096 := by
  rw [runL_eq ho x k hk hkn]
  refine Nat.le_trans (List.length_filter_le _ _) ?_
  rw [List.length_map]
  exact ends_size ho k
theorem runL_pts {box : List Int} {rs : List (List Int × Int)} (ho : PtOk box rs) (hne : 0 < box.length) : runL (loopsFrom rs 0 (endsOf box rs)) [] = pts box rs := by
  have h := runL_eq ho [] 0 rfl (Nat.zero_le _)
  rw [List.drop_zero] at h
  rw [h]
  have e0 : (SL (endsOf box rs)).map (([] : List Int) ++ ·) = SL (endsOf box rs) := by simp
  rw [e0]
  by_cases hp : (pts box rs).length = 0
  · have e1 : endsOf box rs = List.replicate box.length 0 := by unfold endsOf; rw [if_pos hp]
    obtain ⟨m, hm⟩ : ∃ m, box.length = m + 1 := ⟨box.length - 1, by omega⟩
    rw [e1, hm, List.replicate_succ, List.length_eq_zero_iff.1 hp]
    simp [SL]
  · have e1 : endsOf box rs = box := by unfold endsOf; rw [if_neg hp]
    rw [e1, BL_filter, BL_SL _ box rfl ho.dims]
    obtain ⟨z, hz⟩ : ∃ z, z ∈ pts box rs := by
      cases hh : pts box rs with
      | nil => rw [hh] at hp; simp at hp
      | cons z zs => exact ⟨z, by simp⟩
    rw [BL_filter] at hz
    have hz := (List.mem_filter.1 hz).2
    apply List.filter_congr
    intro y _
    unfold later aboveB at *
    rw [Bool.eq_iff_iff, List.all_eq_true, List.all_eq_true]
    rw [List.all_eq_true] at hz
    constructor
    · intro hh r hr
      have h1 := hh r hr
      simp only [Bool.or_eq_true, decide_eq_true_eq] at h1 ⊢
      rcases h1 with h1 | h1
      · have h2 := hz r hr
        simp only [decide_eq_true_eq] at h2
        have a1 := worth_short r [] y (by simpa using h1)
        have a2 := worth_short r [] z (by simpa using h1)
        simp only [List.nil_append] at a1 a2
        rw [a1, ← a2]
        exact h2
      · exact h1
    · intro hh r hr
      have h1 := hh r hr
      simp only [Bool.or_eq_true]
      exact .inr h1
end Go.Proofs.Ytmefgejggpimeaa.V
