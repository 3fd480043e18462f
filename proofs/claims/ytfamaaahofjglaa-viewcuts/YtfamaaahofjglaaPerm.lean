/-
  Contracts: view.permutes, view.rises, adjointref1.Rising; what a permutation is, said in two ways.
-/
import Derived.Test.YtfamaaahofjglaaIndex
import Derived.Test.YtfamaaahofjglaaSame
namespace Go.Proofs.Ytfamaaahofjglaa.V
open Go.RowKit

/-- Those ahead of place k are numbers below n, no two alike. -/
def goodPre (xs : List Int) (n k : Nat) : Prop := ∀ i, i < k → 0 ≤ xs[i]?.getD 0 ∧ xs[i]?.getD 0 < n ∧ ∀ j, j < i → xs[j]?.getD 0 ≠ xs[i]?.getD 0
def PermOk (xs : List Int) (n : Nat) : Prop := xs.length = n ∧ goodPre xs n n
theorem goodPre_succ {xs : List Int} {n k : Nat} (h : goodPre xs n k) (h0 : 0 ≤ xs[k]?.getD 0) (h1 : xs[k]?.getD 0 < n) (h2 : ∀ j, j < k → xs[j]?.getD 0 ≠ xs[k]?.getD 0) : goodPre xs n (k + 1) := fun i hi => by
  by_cases e : i = k
  · subst e; exact ⟨h0, h1, h2⟩
  · exact h i (by omega)

/-- How often the numbers below n are met in a list. -/
def met (xs : List Int) : Nat → Nat
  | 0 => 0
  | n + 1 => met xs n + xs.countP (fun x => x == (n : Int))
theorem met_cons (x : Int) (xs : List Int) : ∀ n : Nat, met (x :: xs) n = met xs n + if 0 ≤ x ∧ x < n then 1 else 0
  | 0 => by
    have : ¬ (0 ≤ x ∧ x < ((0 : Nat) : Int)) := by omega
    rw [if_neg this]; rfl
  | n + 1 => by
    rw [met, met, met_cons x xs n, List.countP_cons]
    by_cases e : x = (n : Int)
    · subst e
      have h1 : ¬ (0 ≤ (n : Int) ∧ (n : Int) < (n : Int)) := by omega
      have h2 : 0 ≤ (n : Int) ∧ (n : Int) < ((n + 1 : Nat) : Int) := by omega
      rw [if_neg h1, if_pos h2]; simp; omega
    · have h3 : (x == (n : Int)) = false := by simp [e]
      rw [h3]
      by_cases h : 0 ≤ x ∧ x < (n : Int)
      · have h2 : 0 ≤ x ∧ x < ((n + 1 : Nat) : Int) := by omega
        rw [if_pos h, if_pos h2]; simp; omega
      · have h2 : ¬ (0 ≤ x ∧ x < ((n + 1 : Nat) : Int)) := by omega
        rw [if_neg h, if_neg h2]; simp
theorem met_le (n : Nat) : ∀ xs : List Int, met xs n ≤ xs.length
  | [] => by have : ∀ n, met [] n = 0 := fun n => by induction n with | zero => rfl | succ n ih => simp [met, ih]
             simp [this]
  | x :: xs => by rw [met_cons]; have := met_le n xs; simp; split <;> omega
theorem met_all (n : Nat) : ∀ xs : List Int, met xs n = xs.length → ∀ x ∈ xs, 0 ≤ x ∧ x < n
  | [], _, _, h => by cases h
  | x :: xs, h, y, hy => by
    rw [met_cons] at h
    have hle := met_le n xs
    simp at h
    by_cases hx : 0 ≤ x ∧ x < (n : Int)
    · rw [if_pos hx] at h
      rcases List.mem_cons.1 hy with rfl | hy'
      · exact hx
      · exact met_all n xs (by omega) y hy'
    · rw [if_neg hx] at h; omega
theorem met_of_all (n : Nat) : ∀ xs : List Int, (∀ x ∈ xs, 0 ≤ x ∧ x < n) → met xs n = xs.length
  | [], _ => by have : ∀ n, met [] n = 0 := fun n => by induction n with | zero => rfl | succ n ih => simp [met, ih]
                simp [this]
  | x :: xs, h => by rw [met_cons, met_of_all n xs (fun y hy => h y (by simp [hy])), if_pos (h x (by simp))]; simp
theorem met_ge (xs : List Int) : ∀ n : Nat, (∀ k : Nat, k < n → (k : Int) ∈ xs) → n ≤ met xs n
  | 0, _ => Nat.zero_le _
  | n + 1, h => by
    have ih := met_ge xs n (fun k hk => h k (by omega))
    have : 0 < xs.countP (fun x => x == (n : Int)) := List.countP_pos_iff.2 ⟨_, h n (by omega), by simp⟩
    rw [met]; omega
/-- If each is met at most once, and there are n of them in all, each is met. -/
theorem met_full (xs : List Int) : ∀ n : Nat, (∀ k : Nat, k < n → xs.countP (fun x => x == (k : Int)) ≤ 1) → met xs n ≤ n ∧ (met xs n = n → ∀ k : Nat, k < n → (k : Int) ∈ xs)
  | 0, _ => ⟨Nat.le_refl _, fun _ k hk => by omega⟩
  | n + 1, h => by
    obtain ⟨i1, i2⟩ := met_full xs n (fun k hk => h k (by omega))
    have hc := h n (by omega)
    refine ⟨by rw [met]; omega, fun he k hk => ?_⟩
    rw [met] at he
    have h1 : met xs n = n := by omega
    by_cases e : k = n
    · subst e
      have : 0 < xs.countP (fun x => x == (k : Int)) := by omega
      obtain ⟨y, hy, hb⟩ := List.countP_pos_iff.1 this
      simp at hb
      exact hb ▸ hy
    · exact i2 h1 k (by omega)

theorem countP_le_one {xs : List Int} (v : Int) (h : ∀ i j, i < xs.length → j < i → xs[j]?.getD 0 ≠ xs[i]?.getD 0) : xs.countP (fun x => x == v) ≤ 1 := by
  induction xs with
  | nil => simp
  | cons x r ih =>
    have ih' := ih (fun i j hi hj => by
      have := h (i + 1) (j + 1) (by simp; omega) (by omega)
      simpa using this)
    rw [List.countP_cons]
    by_cases e : x = v
    · subst e
      have h0 : r.countP (fun y => y == x) = 0 := by
        rw [List.countP_eq_zero]
        intro y hy hb
        simp at hb
        subst hb
        obtain ⟨k, hk, he⟩ := List.getElem_of_mem hy
        have := h (k + 1) 0 (by simp; omega) (by omega)
        simp [hk, he] at this
      simp [h0]
    · have : (x == v) = false := by simp [e]
      simp [this]; exact ih'
theorem perm_iff {xs : List Int} {n : Nat} (hl : xs.length = n) : goodPre xs n n ↔ ∀ k : Nat, k < n → (k : Int) ∈ xs := by
  constructor
  · intro h
    have hr : ∀ x ∈ xs, 0 ≤ x ∧ x < n := fun x hx => by
      obtain ⟨i, hi, he⟩ := List.getElem_of_mem hx
      have := h i (by omega)
      simp [hi, he] at this
      exact ⟨this.1, this.2.1⟩
    have h1 := met_of_all n xs hr
    exact (met_full xs n (fun k _ => countP_le_one _ (fun i j hi hj => (h i (by omega)).2.2 j hj))).2 (by omega)
  · intro h
    have h1 := met_ge xs n h
    have h2 := met_le n xs
    have hr := met_all n xs (by omega)
    intro i hi
    have hil : i < xs.length := by omega
    have hm := hr _ (mem_getD xs i hil)
    refine ⟨hm.1, hm.2, fun j hj he => ?_⟩
    -- two alike: one could be left out, and all would still be met
    have h3 : ∀ k : Nat, k < n → (k : Int) ∈ xs.eraseIdx i := fun k hk => by
      obtain ⟨t, ht, hte⟩ := List.getElem_of_mem (h k hk)
      by_cases e : t = i
      · rw [List.mem_eraseIdx_iff_getElem?]
        refine ⟨j, by omega, ?_⟩
        have hjl : j < xs.length := by omega
        subst e
        simp [hjl, hil] at he
        simp [hjl, he, hte]
      · rw [List.mem_eraseIdx_iff_getElem?]
        exact ⟨t, e, by simp [ht, hte]⟩
    have h4 := met_ge (xs.eraseIdx i) n h3
    have h5 := met_le n (xs.eraseIdx i)
    rw [List.length_eraseIdx_of_lt hil] at h5
    omega
end Go.Proofs.Ytfamaaahofjglaa.V
