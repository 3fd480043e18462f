/-
  Does memory fit a nest?
-/
import Derived.Test.YtindmfpfpooijaaNeMem
namespace Go.Proofs.Ytindmfpfpooijaa.V
open Go.RowKit
set_option linter.unusedVariables false

theorem fits_len {zs : List Int} {L : Mem} (h : L.length ≠ zs.length) : fitsE zs L = 2 := by unfold fitsE; rw [if_pos h]
theorem fits_here {zs : List Int} {L : Mem} (h : L.length = zs.length) {k : Nat} (hk : k < L.length) (hn : ((arrM L k).length : Int) ≠ zs[k]?.getD 0) : fitsE zs L = 6 := by
  unfold fitsE
  rw [if_neg (by simpa using h), if_pos]
  rw [List.any_eq_true]
  exact ⟨k, by simpa using hk, by simpa using hn⟩
theorem fits_all {zs : List Int} {L : Mem} (h : L.length = zs.length) (ha : ∀ k, k < L.length → ((arrM L k).length : Int) = zs[k]?.getD 0) : fitsE zs L = 0 := by
  unfold fitsE
  rw [if_neg (by simpa using h), if_neg]
  intro hh
  rw [List.any_eq_true] at hh
  obtain ⟨k, hk, hn⟩ := hh
  simp at hk hn
  exact hn (ha k hk)
theorem fits_ok {zs : List Int} {L : Mem} (h : fitsE zs L = 0) : L.length = zs.length ∧ ∀ k, k < L.length → ((arrM L k).length : Int) = zs[k]?.getD 0 := by
  by_cases h1 : L.length = zs.length
  · refine ⟨h1, fun k hk => ?_⟩
    by_cases h2 : ((arrM L k).length : Int) = zs[k]?.getD 0
    · exact h2
    · rw [fits_here h1 hk h2] at h; omega
  · rw [fits_len h1] at h; omega
theorem fits_small {zs : List Int} {L : Mem} (h : fitsE zs L = 0) (hz : ∀ z ∈ zs, 0 ≤ z ∧ z ≤ 65536) (k : Nat) : (arrM L k).length ≤ 65536 := by
  obtain ⟨h1, h2⟩ := fits_ok h
  by_cases hk : k < L.length
  · have h3 := h2 k hk
    have h4 := hz _ (mem_getD zs k (by omega))
    omega
  · unfold arrM
    rw [List.getElem?_eq_none (by omega)]
    simp
/-- What is told of a nest and its memory. -/
def runE (zs : List Int) (ss : List Stm) (L : Mem) : Int := if nestE zs ss ≠ 0 then nestE zs ss else fitsE zs L
theorem foldl_take {α β : Type} (f : β → α → β) (b : β) (l : List α) (k : Nat) (h : k < l.length) (d : α) : (l.take (k + 1)).foldl f b = f ((l.take k).foldl f b) (l[k]?.getD d) := by
  rw [List.take_succ_eq_append_getElem h, List.foldl_append]
  simp [h]
theorem runM_take (ss : List Stm) (L : Mem) (k : Nat) (h : k < ss.length) : runM (ss.take (k + 1)) L = stmM (runM (ss.take k) L) (ss[k]?.getD stmD) := foldl_take stmM L ss k h stmD
theorem stmM_len (M : Mem) (s : Stm) : (stmM M s).length = M.length := by
  unfold stmM
  generalize pts s.box s.rows = P
  induction P generalizing M with
  | nil => rfl
  | cons x P ih => rw [List.foldl_cons, ih, doM_len]
theorem runM_len (ss : List Stm) (M : Mem) : (runM ss M).length = M.length := by
  unfold runM
  induction ss generalizing M with
  | nil => rfl
  | cons s ss ih => rw [List.foldl_cons, ih, stmM_len]
end Go.Proofs.Ytindmfpfpooijaa.V
