/-
  Contracts: view.lastFirst and its closure: the numbers of the dimensions, from the last one on, each with the product of those behind it. Contract: view.Place.
-/
import Derived.RangeFuncNested
import Derived.RangeFuncBound
import Derived.RangeFuncCalls
import Derived.RangeFuncLeaves
import Derived.RangeFuncBox
import Derived.Shelf.Abstract
import Derived.Shelf.RegionOpen
import Derived.WalkKit
import Derived.OwnWalkIn
import Derived.TacticsInMore
import Derived.LoopNIn
import Derived.LoopIn
import Derived.Test.YticcoacoepajpaaK2
import Derived.Test.YticcoacoepajpaaK7
namespace Go.Proofs.Yticcoacoepajpaa.V
open Go.RowKit Go.Shelf
attribute [local go_sem] Oper.semAt_some

/-- What lies behind a dimension: the product of those that follow it. -/
def beh (xs : List Int) (k : Nat) : Int := prod (xs.drop (k + 1))
/-- The numbers n - 1, .., k: what has come when those from k on are through. -/
def down (n k : Nat) : List (Fin n) := ((List.finRange n).drop k).reverse
theorem down_all (n : Nat) : down n n = [] := by simp [down]
theorem down_step (n k : Nat) (h : k < n) : down n k = down n (k + 1) ++ [⟨k, h⟩] := by
  unfold down
  rw [List.drop_eq_getElem_cons (by simpa using h)]
  simp
theorem down_length (n k : Nat) : (down n k).length = n - k := by simp [down]
theorem drop_getD (xs : List Int) (k : Nat) (h : k < xs.length) : xs.drop k = xs[k]?.getD 0 :: xs.drop (k + 1) := by
  rw [List.drop_eq_getElem_cons h]; simp [h]
theorem prod_drop (xs : List Int) (k : Nat) (h : k < xs.length) : prod (xs.drop k) = xs[k]?.getD 0 * prod (xs.drop (k + 1)) := by
  rw [drop_getD xs k h]; rfl
theorem prod_drop_le (xs : List Int) (h : ∀ x ∈ xs, 1 ≤ x) (k : Nat) : 1 ≤ prod (xs.drop k) ∧ prod (xs.drop k) ≤ prod xs := by
  have e : prod xs = prod (xs.take k) * prod (xs.drop k) := by rw [← prod_append, List.take_append_drop]
  have h1 := prod_pos (xs.take k) (fun y hy => h y (List.mem_of_mem_take hy))
  have h2 := prod_pos (xs.drop k) (fun y hy => h y (List.mem_of_mem_drop hy))
  refine ⟨h2, ?_⟩
  rw [e]
  have := Int.mul_le_mul_of_nonneg_right h1 (show 0 ≤ prod (xs.drop k) by omega)
  simpa using this

/-- What the closure hands to a round. -/
def enc2 (xs : List Int) (n : Nat) (k : Fin n) : Array Value := #[Value.int .i64 (k.1 : Int), Value.int .i64 (beh xs k.1)]

/-- What a round keeps: all below n₀, and block Bs. -/
def Keep (n₀ Bs : Nat) (W W' : World) : Prop := Below n₀ W W' ∧ W'.heap[Bs]? = W.heap[Bs]?
theorem Keep.refl (n₀ Bs : Nat) (W : World) : Keep n₀ Bs W W := ⟨Below.refl _ _, rfl⟩
theorem Keep.trans {n₀ Bs : Nat} {A B C : World} (h : Keep n₀ Bs A B) (k : Keep n₀ Bs B C) : Keep n₀ Bs A C := ⟨h.1.trans k.1, k.2.trans h.2⟩
theorem keep_b {n₀ Bs : Nat} {w : World} (h1 : n₀ ≤ w.heap.size) (h2 : Bs < w.heap.size) (W : World) (l : Nat) (o o' : Obj) (hl : w.heap.size ≤ l) (ho : W.heap[l]? = some o) (hc : o.isCells = false) (hw : o.isWalk = false) : Keep n₀ Bs W (W.putObj l o') :=
  ⟨belowK_b h1 W l o o' hl ho hc hw, World.putObj_heap_other (by omega)⟩
theorem Keep.boxed {n₀ Bs : Nat} {W W' : World} {t : TypeId} {v : Value} (h : Keep n₀ Bs W W') (hb : Boxed W Bs t v) : Boxed W' Bs t v := h.2.trans hb
theorem Keep.setCell {n₀ Bs : Nat} {A W : World} (h : Keep n₀ Bs A W) {p : Addr} (hp : n₀ ≤ p.block) (hne : Bs ≠ p.block) (u : Value) : Keep n₀ Bs A (W.setCell p u) := ⟨h.1.setCell hp u, (Below.heap_setCell _ _ _ _ hne).trans h.2⟩
theorem Keep.drewN {n₀ Bs : Nat} {A W : World} (h : Keep n₀ Bs A W) : Keep n₀ Bs A W.drew := ⟨h.1.drew, h.2⟩
theorem Keep.alloc {n₀ Bs : Nat} {A W : World} (h : Keep n₀ Bs A W) (hn : n₀ ≤ W.heap.size) (hb : Bs < W.heap.size) (o : Obj) : Keep n₀ Bs A (W.alloc o) := ⟨h.1.alloc hn o, (Below.heap_alloc _ _ _ hb).trans h.2⟩

end Go.Proofs.Yticcoacoepajpaa.V
namespace Go.Proofs.Yticcoacoepajpaa.V
open Go.RowKit Go.Shelf
attribute [local go_sem] Oper.semAt_some

/-- The places that the first k numbers of an index are worth. -/
def placeS (xs ys : List Int) : Nat → Int
  | 0 => 0
  | k + 1 => placeS xs ys k + ys[k]?.getD 0 * beh xs k
def IdxOk (xs ys : List Int) : Prop := ∀ k, k < xs.length → 0 ≤ ys[k]?.getD 0 ∧ ys[k]?.getD 0 < xs[k]?.getD 0
def idxB (xs ys : List Int) : Bool := (List.range xs.length).all fun k => decide (0 ≤ ys[k]?.getD 0) && decide (ys[k]?.getD 0 < xs[k]?.getD 0)
theorem idxB_iff (xs ys : List Int) : idxB xs ys = true ↔ IdxOk xs ys := by simp [idxB, IdxOk]
theorem idxB_no {xs ys : List Int} (h : ¬ IdxOk xs ys) : idxB xs ys = false := by
  cases e : idxB xs ys with
  | true => exact absurd ((idxB_iff xs ys).1 e) h
  | false => rfl
def placeN (xs ys : List Int) : Int := if sizeE xs ≠ 0 then 0 else if ys.length ≠ xs.length then 0 else if idxB xs ys = true then placeS xs ys xs.length else 0
def placeE (xs ys : List Int) : Int := if sizeE xs ≠ 0 then sizeE xs else if ys.length ≠ xs.length then 6 else if idxB xs ys = true then 0 else 4

def sumK (xs ys : List Int) {n : Nat} (pre : List (Fin n)) : Int := (pre.map fun k => ys[k.1]?.getD 0 * beh xs k.1).sum
theorem sumK_snoc (xs ys : List Int) {n : Nat} (pre : List (Fin n)) (k : Fin n) : sumK xs ys (pre ++ [k]) = sumK xs ys pre + ys[k.1]?.getD 0 * beh xs k.1 := by simp [sumK]
theorem sumK_down (xs ys : List Int) (n : Nat) : ∀ d k, k + d = n → sumK xs ys (down n k) = placeS xs ys n - placeS xs ys k := by
  intro d
  induction d with
  | zero => intro k h; obtain rfl : k = n := by omega
            rw [down_all]; simp [sumK]
  | succ d ih =>
    intro k h
    rw [down_step n k (by omega), sumK_snoc, ih (k + 1) (by omega)]
    simp only [placeS]; omega
theorem sumK_all (xs ys : List Int) (n : Nat) : sumK xs ys (down n 0) = placeS xs ys n := by
  rw [sumK_down xs ys n n 0 (by omega)]; simp [placeS]
theorem sizeE_ok {xs : List Int} (h : sizeE xs = 0) : xs.length ≤ 6 ∧ (∀ x ∈ xs, 0 ≤ x ∧ x ≤ 4096) ∧ ((∀ x ∈ xs, 1 ≤ x) → prod xs ≤ 65536 ∧ sizeN xs = prod xs) ∧ ((0 : Int) ∈ xs → sizeN xs = 0) := by
  unfold sizeE at h
  by_cases c1 : 6 < xs.length
  · rw [if_pos c1] at h; omega
  rw [if_neg c1] at h
  by_cases c2 : xs.any badDim = true
  · rw [if_pos c2] at h; omega
  rw [if_neg c2] at h
  refine ⟨by omega, fun x hx => ?_, fun hg => ?_, fun h0 => ?_⟩
  · have : badDim x = false := by
      have c2' : xs.any badDim = false := by simpa using c2
      rw [List.any_eq_false] at c2'
      simpa using c2' x hx
    simp [badDim] at this; omega
  · have c3 : (0 : Int) ∉ xs := fun e => by have := hg 0 e; omega
    rw [if_neg c3] at h
    by_cases c4 : 65536 < prod xs
    · rw [if_pos c4] at h; omega
    refine ⟨by omega, ?_⟩
    unfold sizeN; rw [if_neg c1, if_neg c2, if_neg c3, if_neg c4]
  · unfold sizeN; rw [if_neg c1, if_neg c2, if_pos h0]
theorem idxOk_pos {xs ys : List Int} (h : IdxOk xs ys) : ∀ x ∈ xs, 1 ≤ x := by
  intro x hx
  obtain ⟨k, hk, rfl⟩ := List.getElem_of_mem hx
  have := h k hk
  simp [hk] at this; omega
theorem sumK_bd {xs ys : List Int} (h : IdxOk xs ys) (hb : ∀ x ∈ xs, x ≤ 4096) (hp : prod xs ≤ 65536) {n : Nat} (hn : n = xs.length) (pre : List (Fin n)) : 0 ≤ sumK xs ys pre ∧ sumK xs ys pre ≤ 268435456 * pre.length := by
  subst hn
  induction pre with
  | nil => simp [sumK]
  | cons k r ih =>
    have h1 := h k.1 k.2
    have h2 := hb _ (mem_getD xs k.1 k.2)
    have h3 := prod_drop_le xs (idxOk_pos h) (k.1 + 1)
    have h4 : 0 ≤ ys[k.1]?.getD 0 * beh xs k.1 := Int.mul_nonneg h1.1 (by unfold beh; omega)
    have h5 : ys[k.1]?.getD 0 * beh xs k.1 ≤ 4096 * 65536 := Int.mul_le_mul (by omega) (by unfold beh; omega) (by unfold beh; omega) (by omega)
    have e : sumK xs ys (k :: r) = ys[k.1]?.getD 0 * beh xs k.1 + sumK xs ys r := by simp [sumK]
    rw [e]; simp; omega

/-- The fence that shuts nothing out. -/
abbrev FW : Fence := Fence.wide

end Go.Proofs.Yticcoacoepajpaa.V
