/-
  Contract: view.Place, whatever it is asked.
-/
import Derived.Test.YtainoechodkfoaaPlace
namespace Go.Proofs.Ytainoechodkfoaa.V
open Go.RowKit Go.Shelf
attribute [local go_sem] Oper.semAt_some

set_option maxRecDepth 100000 in
set_option maxHeartbeats 2000000 in
theorem place_size (a : Option Addr) (len cap : Nat) (xs : List Int) (a' : Option Addr) (len' cap' : Nat) (w : World) (h : Ints w a len xs) (hE : sizeE xs ≠ 0) :
    CallsIn FW 8 Try.prog 11 #[.slice a len cap, .slice a' len' cap'] w fun e w' => e = .returned (.tuple #[.int .i64 0, .int .i64 (sizeE xs)]) ∧ Below w.heap.size w w' := by
  have H := hide h
  have hro : FW.round = none := rfl
  have hE1 : (sizeE xs != 0) = true := by simp [hE]
  clear h hE
  refine callsIn_of_wp Try.func11 rfl trivial ?_ hro
  simp only [Try.ntmps11, List.size_toArray, List.length_cons, List.length_nil, Nat.reduceAdd, Nat.reduceSub, Array.replicate_succ, Array.replicate_zero, List.push_toArray, List.append_toArray, List.nil_append, List.cons_append]
  gi_wp2_with (refine ⟨trivial, ?_⟩; gi_at_call 9; refine (callsIn_wide.2 (size_any _ _ _ xs _ (H.out.below ((Below.refl _ w).alloc (Nat.le_refl _) _)))).mono ?_; rintro e w' ⟨rfl, rfl⟩)
  go_ret2
  exact ⟨rfl, (Below.refl _ w).alloc (Nat.le_refl _) _⟩

set_option maxRecDepth 100000 in
set_option maxHeartbeats 2000000 in
theorem place_shape (a : Option Addr) (len cap : Nat) (xs : List Int) (a' : Option Addr) (len' cap' : Nat) (w : World) (h : Ints w a len xs) (hE : sizeE xs = 0) (hne : len' ≠ len) (_hm' : len' ≤ 9223372036854775807) :
    CallsIn FW 8 Try.prog 11 #[.slice a len cap, .slice a' len' cap'] w fun e w' => e = .returned (.tuple #[.int .i64 0, .int .i64 6]) ∧ Below w.heap.size w w' := by
  have H := hide h
  have HE := hide hE
  have hm := h.2.1
  have hro : FW.round = none := rfl
  have hn1 : ((len' : Int) != (len : Int)) = true := by simp; omega
  clear h hE hne
  refine callsIn_of_wp Try.func11 rfl trivial ?_ hro
  simp only [Try.ntmps11, List.size_toArray, List.length_cons, List.length_nil, Nat.reduceAdd, Nat.reduceSub, Array.replicate_succ, Array.replicate_zero, List.push_toArray, List.append_toArray, List.nil_append, List.cons_append]
  gi_wp2_with (refine ⟨trivial, ?_⟩; gi_at_call 9; refine (callsIn_wide.2 (size_any _ _ _ xs _ (H.out.below ((Below.refl _ w).alloc (Nat.le_refl _) _)))).mono ?_; rintro e w' ⟨rfl, rfl⟩; rw [HE.out])
  go_ret2
  exact ⟨rfl, (Below.refl _ w).alloc (Nat.le_refl _) _⟩

set_option maxRecDepth 100000 in
set_option maxHeartbeats 2000000 in
theorem place_range (a : Option Addr) (len cap : Nat) (xs : List Int) (a' : Option Addr) (cap' : Nat) (ys : List Int) (w : World) (h : Ints w a len xs) (h' : Ints w a' len ys) (hE : sizeE xs = 0) (hI : ¬ IdxOk xs ys) :
    CallsIn FW 8 Try.prog 11 #[.slice a len cap, .slice a' len cap'] w fun e w' => e = .returned (.tuple #[.int .i64 0, .int .i64 4]) ∧ Below w.heap.size w w' := by
  have hl := h.1
  have hm := h.2.1
  have H := hide h
  have H' := hide h'
  have HE := hide hE
  have HI := hide hI
  have HL := hide hl
  clear h h' hE hI hl
  have hro : FW.round = none := rfl
  refine callsIn_of_wp Try.func11 rfl trivial ?_ hro
  simp only [Try.ntmps11, List.size_toArray, List.length_cons, List.length_nil, Nat.reduceAdd, Nat.reduceSub, Array.replicate_succ, Array.replicate_zero, List.push_toArray, List.append_toArray, List.nil_append, List.cons_append]
  gi_wp2_with (refine ⟨trivial, ?_⟩; gi_at_call 9; refine (callsIn_wide.2 (size_any _ _ _ xs _ (H.out.below ((Below.refl _ w).alloc (Nat.le_refl _) _)))).mono ?_; rintro e w' ⟨rfl, rfl⟩; rw [HE.out])
  gi_loopw [28] (fun i wr => ∃ k : Nat, k ≤ len ∧ i = .int .i64 k ∧ wr = w.alloc (.cells #[.slice a' len cap'] 22) ∧ ∀ j, j < k → 0 ≤ ys[j]?.getD 0 ∧ ys[j]?.getD 0 < xs[j]?.getD 0) (fun i _ => len - (intOf i).toNat)
  case atStart => exact ⟨0, Nat.zero_le _, rfl, rfl, fun j hj => by omega⟩
  case round =>
    obtain ⟨k, hk, rfl, rfl, hall⟩ := hrel
    have HALL := hide hall
    clear hall
    by_cases hlt : k < len
    · obtain ⟨b, off, rfl, hb, hc⟩ := H.out.at (by omega)
      obtain ⟨b', off', rfl, hb', hc'⟩ := H'.out.at (by omega)
      have hck := hc k hlt
      have hck' := hc' k hlt
      clear hc hc'
      by_cases q1 : ys[k]?.getD 0 < 0
      · gi_wp2
        go_ret2
        exact ⟨rfl, (Below.refl _ w).alloc (Nat.le_refl _) _⟩
      by_cases q2 : xs[k]?.getD 0 ≤ ys[k]?.getD 0
      · gi_wp2
        go_ret2
        exact ⟨rfl, (Below.refl _ w).alloc (Nat.le_refl _) _⟩
      gi_wp2
      go_roundw
      case rel => exact ⟨k + 1, by omega, by go_num, by simp, fun j hj => by by_cases e : j = k; (subst e; omega); exact HALL.out j (by omega)⟩
      case measure => simp [intOf]; omega
    · exact absurd (fun j hj => HALL.out j (by rw [HL.out] at hj; omega)) HI.out

theorem place_any (a : Option Addr) (len cap : Nat) (xs : List Int) (a' : Option Addr) (len' cap' : Nat) (ys : List Int) (w : World) (h : Ints w a len xs) (h' : Ints w a' len' ys) :
    Calls Try.prog 11 #[.slice a len cap, .slice a' len' cap'] w fun e w' => e = .returned (.tuple #[.int .i64 (placeN xs ys), .int .i64 (placeE xs ys)]) ∧ Below w.heap.size w w' := by
  refine (callsIn_wide (n := 8)).1 ?_
  by_cases hE : sizeE xs = 0
  · by_cases hn : len' = len
    · subst hn
      by_cases hI : IdxOk xs ys
      · have hB := (idxB_iff xs ys).2 hI
        have e1 : placeN xs ys = placeS xs ys len' := by simp [placeN, hE, hB, h.1, h'.1]
        have e2 : placeE xs ys = 0 := by simp [placeE, hE, hB, h.1, h'.1]
        rw [e1, e2]
        exact place_ok a len' cap xs a' cap' ys w h h' hE hI
      · have hB := idxB_no hI
        have e1 : placeN xs ys = 0 := by simp [placeN, hB]
        have e2 : placeE xs ys = 4 := by simp [placeE, hE, hB, h.1, h'.1]
        rw [e1, e2]
        exact place_range a len' cap xs a' cap' ys w h h' hE hI
    · have e1 : placeN xs ys = 0 := by simp [placeN, h.1, h'.1, hn]
      have e2 : placeE xs ys = 6 := by simp [placeE, hE, h.1, h'.1, hn]
      rw [e1, e2]
      exact place_shape a len cap xs a' len' cap' w h hE hn h'.2.1
  · have e1 : placeN xs ys = 0 := by simp [placeN, hE]
    have e2 : placeE xs ys = sizeE xs := by simp [placeE, hE]
    rw [e1, e2]
    exact place_size a len cap xs a' len' cap' w h hE
end Go.Proofs.Ytainoechodkfoaa.V
