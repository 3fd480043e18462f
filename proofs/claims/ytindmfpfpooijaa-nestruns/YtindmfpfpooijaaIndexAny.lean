/-
  Contract: view.Index, whatever it is asked.
-/
import Derived.Test.YtindmfpfpooijaaIndex
namespace Go.Proofs.Ytindmfpfpooijaa.V
open Go.RowKit Go.Shelf
attribute [local go_sem] Oper.semAt_some

set_option maxRecDepth 100000 in
set_option maxHeartbeats 2000000 in
theorem index_size (a : Option Addr) (len cap : Nat) (xs : List Int) (p : Int) (w : World) (h : Ints w a len xs) (hE : sizeE xs ≠ 0) :
    CallsIn FW 8 Try.prog 40 #[.slice a len cap, .int .i64 p] w fun e w' => e = .returned (.tuple #[.slice none 0 0, .int .i64 (sizeE xs)]) ∧ Below w.heap.size w w' := by
  have H := hide h
  have hro : FW.round = none := rfl
  have hE1 : (sizeE xs != 0) = true := by simp [hE]
  clear h hE
  refine callsIn_of_wp Try.func40 rfl trivial ?_ hro
  simp only [Try.ntmps40, List.size_toArray, List.length_cons, List.length_nil, Nat.reduceAdd, Nat.reduceSub, Array.replicate_succ, Array.replicate_zero, List.push_toArray, List.append_toArray, List.nil_append, List.cons_append]
  gi_wp2_with (refine ⟨trivial, ?_⟩; gi_at_call 39; refine (callsIn_wide.2 (size_any _ _ _ xs _ (H.out.below (((Below.refl _ w).alloc (Nat.le_refl _) _).alloc (by simp) _)))).mono ?_; rintro e w' ⟨rfl, rfl⟩)
  go_ret2
  exact ⟨rfl, ((Below.refl _ w).alloc (Nat.le_refl _) _).alloc (by simp) _⟩

set_option maxRecDepth 100000 in
set_option maxHeartbeats 2000000 in
theorem index_range (a : Option Addr) (len cap : Nat) (xs : List Int) (p : Int) (w : World) (h : Ints w a len xs) (hE : sizeE xs = 0) (hp : p < 0 ∨ sizeN xs ≤ p) :
    CallsIn FW 8 Try.prog 40 #[.slice a len cap, .int .i64 p] w fun e w' => e = .returned (.tuple #[.slice none 0 0, .int .i64 4]) ∧ Below w.heap.size w w' := by
  have H := hide h
  have HE := hide hE
  have hro : FW.round = none := rfl
  clear h hE
  by_cases hp0 : p < 0
  · clear hp
    refine callsIn_of_wp Try.func40 rfl trivial ?_ hro
    simp only [Try.ntmps40, List.size_toArray, List.length_cons, List.length_nil, Nat.reduceAdd, Nat.reduceSub, Array.replicate_succ, Array.replicate_zero, List.push_toArray, List.append_toArray, List.nil_append, List.cons_append]
    gi_wp2_with (refine ⟨trivial, ?_⟩; gi_at_call 39; refine (callsIn_wide.2 (size_any _ _ _ xs _ (H.out.below (((Below.refl _ w).alloc (Nat.le_refl _) _).alloc (by simp) _)))).mono ?_; rintro e w' ⟨rfl, rfl⟩; rw [HE.out])
    go_ret2
    exact ⟨rfl, ((Below.refl _ w).alloc (Nat.le_refl _) _).alloc (by simp) _⟩
  · have hp1 : sizeN xs ≤ p := by omega
    clear hp
    refine callsIn_of_wp Try.func40 rfl trivial ?_ hro
    simp only [Try.ntmps40, List.size_toArray, List.length_cons, List.length_nil, Nat.reduceAdd, Nat.reduceSub, Array.replicate_succ, Array.replicate_zero, List.push_toArray, List.append_toArray, List.nil_append, List.cons_append]
    gi_wp2_with (refine ⟨trivial, ?_⟩; gi_at_call 39; refine (callsIn_wide.2 (size_any _ _ _ xs _ (H.out.below (((Below.refl _ w).alloc (Nat.le_refl _) _).alloc (by simp) _)))).mono ?_; rintro e w' ⟨rfl, rfl⟩; rw [HE.out])
    go_ret2
    exact ⟨rfl, ((Below.refl _ w).alloc (Nat.le_refl _) _).alloc (by simp) _⟩

theorem ints_nil (w : World) : Ints w none 0 [] := ⟨rfl, by omega, by simp, .inl rfl⟩

/-- Index answers a new list, or none. -/
theorem index_call (a : Option Addr) (len cap : Nat) (xs : List Int) (p : Int) (w : World) (h : Ints w a len xs) :
    Calls Try.prog 40 #[.slice a len cap, .int .i64 p] w fun e w' => (∃ (b : Option Addr) (n c : Nat), e = .returned (.tuple #[.slice b n c, .int .i64 (indexE xs p)]) ∧ Ints w' b n (indexL xs p)) ∧ Below w.heap.size w w' := by
  refine (callsIn_wide (n := 8)).1 ?_
  by_cases hE : sizeE xs = 0
  · by_cases hp : p < 0 ∨ sizeN xs ≤ p
    · have e1 : indexE xs p = 4 := by simp only [indexE, hE]; simp [hp]
      have e2 : indexL xs p = [] := by simp only [indexL, hE]; simp [hp]
      rw [e1, e2]
      refine (index_range a len cap xs p w h hE hp).mono ?_
      rintro e w' ⟨rfl, hb⟩
      exact ⟨⟨none, 0, 0, rfl, ints_nil _⟩, hb⟩
    · have e1 : indexE xs p = 0 := by simp only [indexE, hE]; simp [hp]
      have e2 : indexL xs p = indexV xs p := by simp only [indexL, hE]; simp [hp]
      rw [e1, e2]
      refine (index_ok a len cap xs p w h hE (by omega) (by omega)).mono ?_
      rintro e w' ⟨⟨g, rfl, hi⟩, hb⟩
      exact ⟨⟨_, _, _, rfl, hi⟩, hb⟩
  · have e1 : indexE xs p = sizeE xs := by simp [indexE, hE]
    have e2 : indexL xs p = [] := by simp [indexL, hE]
    rw [e1, e2]
    refine (index_size a len cap xs p w h hE).mono ?_
    rintro e w' ⟨rfl, hb⟩
    exact ⟨⟨none, 0, 0, rfl, ints_nil _⟩, hb⟩
end Go.Proofs.Ytindmfpfpooijaa.V
