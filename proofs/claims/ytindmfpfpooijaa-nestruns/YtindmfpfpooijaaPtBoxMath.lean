/-
  All points of a box, in order: by its last number.
-/
import Derived.Test.YtindmfpfpooijaaPtMath
namespace Go.Proofs.Ytindmfpfpooijaa.V
open Go.RowKit
set_option linter.unusedVariables false

/-- All lists of a box. -/
def BL (xs : List Int) : List (List Int) := (List.range (prod xs).toNat).map fun p : Nat => indexV xs p
theorem BL_filter (box : List Int) (rs : List (List Int × Int)) : pts box rs = (BL box).filter (aboveB rs) := rfl
theorem indexV_snoc (ds : List Int) (d p : Int) (hd : 0 ≤ d) : indexV (ds ++ [d]) p = indexV ds (p / d) ++ [p % d] := by
  unfold indexV
  rw [List.length_append, List.length_singleton, List.range_succ, List.map_append]
  congr 1
  · apply List.map_congr_left
    intro k hk
    have hk' : k < ds.length := by simpa using hk
    unfold idxV beh
    rw [List.drop_append_of_le_length (by omega), prod_append, List.getElem?_append_left hk']
    have e : prod [d] = d := by simp [prod]
    rw [e, Int.mul_comm, Int.ediv_ediv_of_nonneg hd]
  · simp only [List.map_cons, List.map_nil]
    unfold idxV beh
    rw [List.drop_eq_nil_of_le (by simp), List.getElem?_append_right (Nat.le_refl _)]
    simp [prod]
theorem range_mul {α : Type} (f : Nat → α) (n d : Nat) : (List.range (n * d)).map f = (List.range n).flatMap (fun q => (List.range d).map (fun r => f (q * d + r))) := by
  induction n with
  | zero => simp
  | succ n ih =>
    rw [Nat.succ_mul, List.range_add, List.map_append, ih, List.range_succ, List.flatMap_append]
    simp
/-- One number more. -/
def more (x : List Int) (d : Nat) : List (List Int) := (List.range d).map fun r : Nat => x ++ [(r : Int)]
theorem more_len (x : List Int) (d : Nat) : (more x d).length = d := by simp [more]
theorem more_succ (x : List Int) (d : Nat) : more x (d + 1) = more x d ++ [x ++ [(d : Int)]] := by simp [more, List.range_succ]
theorem flat_congr {α β : Type} {l : List α} {f g : α → List β} (h : ∀ x ∈ l, f x = g x) : l.flatMap f = l.flatMap g := by
  induction l with
  | nil => rfl
  | cons x l ih => simp only [List.flatMap_cons]; rw [h x (by simp), ih (fun y hy => h y (by simp [hy]))]
theorem BL_snoc (ds : List Int) (d : Int) (hd : 0 ≤ d) (hp : 0 ≤ prod ds) : BL (ds ++ [d]) = (BL ds).flatMap (fun x => more x d.toNat) := by
  have e : (prod (ds ++ [d])).toNat = (prod ds).toNat * d.toNat := by
    rw [prod_append]
    have : prod [d] = d := by simp [prod]
    rw [this, Int.toNat_mul hp hd]
  unfold BL
  rw [e, range_mul, List.flatMap_map]
  apply flat_congr
  intro q _
  unfold more
  apply List.map_congr_left
  intro r hr
  have hr' : r < d.toNat := by simpa using hr
  have hdd : (d.toNat : Int) = d := by omega
  have e2 : ((q * d.toNat + r : Nat) : Int) = (q : Int) * d + r := by rw [Int.natCast_add, Int.natCast_mul, hdd]
  rw [indexV_snoc ds d _ hd, e2]
  have h1 : ((q : Int) * d + r) / d = q := by
    rw [Int.add_comm, Int.add_mul_ediv_right _ _ (by omega), Int.ediv_eq_zero_of_lt (by omega) (by omega)]; omega
  have h2 : ((q : Int) * d + r) % d = r := by
    rw [Int.add_comm, Int.add_mul_emod_self_right, Int.emod_eq_of_lt (by omega) (by omega)]
  rw [h1, h2]
theorem box_flat_len {l : List (List Int)} {d : Nat} : (l.flatMap (fun x => more x d)).length = l.length * d := by
  induction l with
  | nil => simp
  | cons x l ih => rw [List.flatMap_cons, List.length_append, ih, more_len, List.length_cons, Nat.succ_mul, Nat.add_comm]
theorem take_succL (L : List (List Int)) (k : Nat) (h : k < L.length) : L.take (k + 1) = L.take k ++ [L[k]?.getD []] := by
  rw [List.take_succ_eq_append_getElem h]; simp [h]
theorem BL_len (xs : List Int) : (BL xs).length = (prod xs).toNat := by simp [BL]
theorem BL_mem {xs : List Int} (h : ∀ x ∈ xs, 0 ≤ x ∧ x ≤ 4096) {y : List Int} (hy : y ∈ BL xs) : y.length = xs.length ∧ ∀ z ∈ y, 0 ≤ z ∧ z ≤ 4096 := by
  simp only [BL, List.mem_map, List.mem_range] at hy
  obtain ⟨p, hp, rfl⟩ := hy
  refine ⟨by simp [indexV], fun z hz => ?_⟩
  simp only [indexV, List.mem_map, List.mem_range] at hz
  obtain ⟨k, hk, rfl⟩ := hz
  have hx := h _ (mem_getD xs k hk)
  have hne : xs[k]?.getD 0 ≠ 0 := by
    intro e
    have : (0 : Int) ∈ xs := e ▸ mem_getD xs k hk
    rw [pt_prod_zero this] at hp
    simp at hp
  unfold idxV
  have h1 := Int.emod_nonneg ((p : Int) / beh xs k) hne
  have h2 := Int.emod_lt_of_pos ((p : Int) / beh xs k) (show 0 < xs[k]?.getD 0 by omega)
  omega
end Go.Proofs.Ytindmfpfpooijaa.V
