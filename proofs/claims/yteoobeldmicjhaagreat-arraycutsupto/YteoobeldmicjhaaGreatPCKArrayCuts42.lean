/-
  Dimensions of what goes with sums: what may be asked, and where entries lie. What Do makes of one array, kind by kind. What Do makes of two arrays, in what it makes go with sums of the first one. Contracts: array.Do of Take and of Put: just what is made.
-/
import Derived.Test.YteoobeldmicjhaaGreatPCKArrayCuts41
namespace Go.Proofs.YteoobeldmicjhaaGreat.V
set_option maxRecDepth 20000
open Go.RowKit

theorem cut_whole {ds lo hi st : List Int} (h1 : sizeE ds = 0) (hl : lensB ds.length lo hi st = true) (hb : anyBad ds lo hi st = false) : cutE 0 ds (stepsV ds) lo hi st = 0 := by
  have hbw : beyondB (cutAcc 0 (stepsV ds) lo ds.length) (cutS (stepsV ds) st) = false := by
    have ha := cutAcc_whole h1 hb ds.length (Nat.le_refl _)
    have h6 := (sizeE_ok h1).1
    refine far_of (by omega) fun x hx => ?_
    simp only [cutS, List.mem_map, List.mem_range, stepsV_len] at hx
    obtain ⟨k, hk, rfl⟩ := hx
    have h4 := badCut_false (of_anyBad_false hb k hk)
    have h5 := steps_bd h1 k
    have h7 : 0 ≤ st[k]?.getD 0 * (stepsV ds)[k]?.getD 0 := Int.mul_nonneg (by omega) h5.1
    have h8 : st[k]?.getD 0 * (stepsV ds)[k]?.getD 0 ≤ 4096 * 65536 := Int.mul_le_mul h4.2.2.2.2 h5.2 h5.1 (by omega)
    omega
  unfold cutE
  rw [if_neg (by simp [wrong_whole h1]), if_pos hl, if_neg (by rw [hb]; simp), if_neg (by rw [hbw]; simp)]

theorem mem_freeL {xs : List Int} : ∀ {n : Nat} {x : Int}, x ∈ freeL xs n ↔ ∃ k : Nat, k < n ∧ x = (k : Int) ∧ inB xs k = false
  | 0, x => by simp [freeL]
  | n + 1, x => by
    rw [freeL, List.mem_append, mem_freeL]
    constructor
    · rintro (⟨k, hk, h⟩ | h)
      · exact ⟨k, by omega, h⟩
      · by_cases c : inB xs n = true
        · rw [if_pos c] at h; cases h
        · rw [if_neg c] at h
          exact ⟨n, by omega, by simpa using h, by simpa using c⟩
    · rintro ⟨k, hk, h1, h2⟩
      by_cases e : k = n
      · subst e
        exact .inr (by rw [if_neg (by rw [h2]; simp)]; simpa using h1)
      · exact .inl ⟨k, by omega, h1, h2⟩
theorem inB_iff {xs : List Int} {k : Nat} : inB xs k = true ↔ (k : Int) ∈ xs := by simp [inB]
theorem inB_not {xs : List Int} {k : Nat} : inB xs k = false ↔ (k : Int) ∉ xs := by rw [← inB_iff]; simp
theorem rise_up {l : List Int} {n : Nat} (h : RiseOk l n) : RiseOk l (n + 1) := fun i hi => by
  have := h i hi
  exact ⟨this.1, by omega, this.2.2⟩
theorem rise_snoc {l : List Int} {n : Nat} (h : RiseOk l n) : RiseOk (l ++ [(n : Int)]) (n + 1) := fun i hi => by
  simp only [List.length_append, List.length_cons, List.length_nil] at hi
  by_cases e : i < l.length
  · have h1 := h i e
    rw [List.getElem?_append_left e]
    refine ⟨h1.1, by omega, fun h0 => ?_⟩
    rw [List.getElem?_append_left (by omega)]
    exact h1.2.2 h0
  · obtain rfl : i = l.length := by omega
    rw [List.getElem?_append_right (Nat.le_refl _)]
    simp only [Nat.sub_self, List.getElem?_cons_zero, Option.getD_some]
    refine ⟨by omega, by omega, fun h0 => ?_⟩
    rw [List.getElem?_append_left (by omega)]
    exact (h (l.length - 1) (by omega)).2.1
theorem freeL_rise (xs : List Int) : ∀ n, RiseOk (freeL xs n) n
  | 0 => fun i hi => by simp [freeL] at hi
  | n + 1 => by
    rw [freeL]
    by_cases c : inB xs n = true
    · rw [if_pos c, List.append_nil]; exact rise_up (freeL_rise xs n)
    · rw [if_neg c]; exact rise_snoc (freeL_rise xs n)
theorem taken_at (ds ps : List Int) (j : Nat) (h : j < ps.length) : (taken ds ps)[j]?.getD 0 = ds[(ps[j]?.getD 0).toNat]?.getD 0 := by simp [taken, h]
end Go.Proofs.YteoobeldmicjhaaGreat.V
namespace Go.Proofs.YteoobeldmicjhaaGreat.V
set_option maxRecDepth 20000
open Go.RowKit

end Go.Proofs.YteoobeldmicjhaaGreat.V
namespace Go.Proofs.YteoobeldmicjhaaGreat.V
set_option maxRecDepth 20000
open Go.RowKit

theorem prod_nn : ∀ l : List Int, (∀ x ∈ l, 0 ≤ x) → 0 ≤ prod l
  | [], _ => by simp [prod]
  | a :: l, h => Int.mul_nonneg (h a (by simp)) (prod_nn l (fun x hx => h x (by simp [hx])))
theorem size_nn {ds : List Int} (h : sizeE ds = 0) : ∀ x ∈ ds, 0 ≤ x := fun x hx => ((sizeE_ok h).2.1 x hx).1
theorem nat_prod {l : List Int} (h : ∀ x ∈ l, 0 ≤ x) : ∃ t : Nat, prod l = (t : Int) := ⟨(prod l).toNat, by have := prod_nn l h; omega⟩
end Go.Proofs.YteoobeldmicjhaaGreat.V
namespace Go.Proofs.YteoobeldmicjhaaGreat.V
set_option maxRecDepth 20000
open Go.RowKit

end Go.Proofs.YteoobeldmicjhaaGreat.V
