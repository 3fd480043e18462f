/-
  Contracts: view.lastFirst and its closure: the numbers of the dimensions, from the last one on, each with the product of those behind it. Plain mathematics: where entries lie, the numbers of an index, the index behind one.
-/
import Derived.RangeFuncNested
import Derived.RangeFuncBound
import Derived.RangeFuncCalls
import Derived.RangeFuncLeaves
import Derived.RangeFuncBox
import Derived.Shelf.Abstract
import Derived.Shelf.RegionOpen
import Derived.WalkKit
import Derived.OwnWalkIn
import Derived.TacticsInMore
import Derived.LoopNIn
import Derived.LoopIn
import Derived.Test.YteoobeldmicjhaaGreatPRKArrayRows2
namespace Go.Proofs.YteoobeldmicjhaaGreat.V
set_option maxRecDepth 20000
open Go.RowKit Go.Shelf
attribute [local go_sem] Oper.semAt_some

/-- What lies behind a dimension: the product of those that follow it. -/
def beh (xs : List Int) (k : Nat) : Int := prod (xs.drop (k + 1))
theorem drop_getD (xs : List Int) (k : Nat) (h : k < xs.length) : xs.drop k = xs[k]?.getD 0 :: xs.drop (k + 1) := by
  rw [List.drop_eq_getElem_cons h]; simp [h]
theorem prod_drop (xs : List Int) (k : Nat) (h : k < xs.length) : prod (xs.drop k) = xs[k]?.getD 0 * prod (xs.drop (k + 1)) := by
  rw [drop_getD xs k h]; rfl
theorem prod_drop_le (xs : List Int) (h : ∀ x ∈ xs, 1 ≤ x) (k : Nat) : 1 ≤ prod (xs.drop k) ∧ prod (xs.drop k) ≤ prod xs := by
  have e : prod xs = prod (xs.take k) * prod (xs.drop k) := by rw [← prod_append, List.take_append_drop]
  have h1 := prod_pos (xs.take k) (fun y hy => h y (List.mem_of_mem_take hy))
  have h2 := prod_pos (xs.drop k) (fun y hy => h y (List.mem_of_mem_drop hy))
  refine ⟨h2, ?_⟩
  rw [e]
  have := Int.mul_le_mul_of_nonneg_right h1 (show 0 ≤ prod (xs.drop k) by omega)
  simpa using this

/-- What a round keeps: all below n₀, and block Bs. -/
def Keep (n₀ Bs : Nat) (W W' : World) : Prop := Below n₀ W W' ∧ W'.heap[Bs]? = W.heap[Bs]?
theorem Keep.refl (n₀ Bs : Nat) (W : World) : Keep n₀ Bs W W := ⟨Below.refl _ _, rfl⟩
theorem Keep.trans {n₀ Bs : Nat} {A B C : World} (h : Keep n₀ Bs A B) (k : Keep n₀ Bs B C) : Keep n₀ Bs A C := ⟨h.1.trans k.1, k.2.trans h.2⟩
theorem keep_b {n₀ Bs : Nat} {w : World} (h1 : n₀ ≤ w.heap.size) (h2 : Bs < w.heap.size) (W : World) (l : Nat) (o o' : Obj) (hl : w.heap.size ≤ l) (ho : W.heap[l]? = some o) (hc : o.isCells = false) (hw : o.isWalk = false) : Keep n₀ Bs W (W.putObj l o') :=
  ⟨belowK_b h1 W l o o' hl ho hc hw, World.putObj_heap_other (by omega)⟩
theorem Keep.boxed {n₀ Bs : Nat} {W W' : World} {t : TypeId} {v : Value} (h : Keep n₀ Bs W W') (hb : Boxed W Bs t v) : Boxed W' Bs t v := h.2.trans hb
theorem Keep.setCell {n₀ Bs : Nat} {A W : World} (h : Keep n₀ Bs A W) {p : Addr} (hp : n₀ ≤ p.block) (hne : Bs ≠ p.block) (u : Value) : Keep n₀ Bs A (W.setCell p u) := ⟨h.1.setCell hp u, (Below.heap_setCell _ _ _ _ hne).trans h.2⟩
theorem Keep.drewN {n₀ Bs : Nat} {A W : World} (h : Keep n₀ Bs A W) : Keep n₀ Bs A W.drew := ⟨h.1.drew, h.2⟩
theorem Keep.alloc {n₀ Bs : Nat} {A W : World} (h : Keep n₀ Bs A W) (hn : n₀ ≤ W.heap.size) (hb : Bs < W.heap.size) (o : Obj) : Keep n₀ Bs A (W.alloc o) := ⟨h.1.alloc hn o, (Below.heap_alloc _ _ _ hb).trans h.2⟩

set_option maxHeartbeats 1000000 in
theorem lastFirst_in (F : Fence) (n : Nat) (hf : F.fn 100) (hro : F.round = none) (a : Option Addr) (len cap : Nat) (w : World) :
    CallsIn F n Tryz.prog 100 #[.slice a len cap] w fun e w' => e = .returned (.func (.func 120) #[] #[.pointer (some ⟨w.heap.size, 0, none⟩)]) ∧ w' = w.alloc (.cells #[.slice a len cap] 22) := by
  refine callsIn_of_wp Tryz.func100 rfl hf ?_ hro
  simp only [Tryz.ntmps100, List.size_toArray, List.length_cons, List.length_nil, Nat.reduceAdd, Nat.reduceSub, Array.replicate_succ, Array.replicate_zero, List.push_toArray, List.append_toArray, List.nil_append, List.cons_append]
  gi_wp2
  go_ret
  exact ⟨rfl, rfl⟩

end Go.Proofs.YteoobeldmicjhaaGreat.V
namespace Go.Proofs.YteoobeldmicjhaaGreat.V
set_option maxRecDepth 20000

/-- The index of entry n. -/
def dig : List Int → Int → List Int
  | _ :: ds, n => n / prod ds :: dig ds (n % prod ds)
  | [], _ => []
theorem dig_length : ∀ (ds : List Int) (n : Int), (dig ds n).length = ds.length
  | [], _ => rfl
  | d :: ds, n => by simp [dig, dig_length ds]
theorem dig_bd : ∀ (ds : List Int) (n : Int), (∀ x ∈ ds, 1 ≤ x) → 0 ≤ n → n < prod ds → ∀ j, j < ds.length → 0 ≤ (dig ds n)[j]?.getD 0 ∧ (dig ds n)[j]?.getD 0 < ds[j]?.getD 0
  | [], n, _, _, _, j, hj => by simp at hj
  | d :: ds, n, hg, h0, h1, j, hj => by
    have hp := prod_pos ds (fun x hx => hg x (by simp [hx]))
    rw [prod] at h1
    cases j with
    | zero =>
      simp only [dig, List.getElem?_cons_zero, Option.getD_some]
      exact ⟨Int.ediv_nonneg h0 (by omega), Int.ediv_lt_of_lt_mul (by omega) h1⟩
    | succ j =>
      simp only [dig, List.getElem?_cons_succ]
      exact dig_bd ds (n % prod ds) (fun x hx => hg x (by simp [hx])) (Int.emod_nonneg _ (by omega)) (Int.emod_lt_of_pos _ (by omega)) j (by simpa using hj)

/-- The index behind one; false: that was the last one. -/
def nextL : List Int → List Int → List Int × Bool
  | d :: ds, a :: zs => if (nextL ds zs).2 = true then (a :: (nextL ds zs).1, true) else if a + 1 < d then ((a + 1) :: (nextL ds zs).1, true) else (0 :: (nextL ds zs).1, false)
  | _, _ => ([], false)
theorem dig_zero : ∀ ds : List Int, dig ds 0 = List.replicate ds.length 0
  | [] => rfl
  | d :: ds => by simp [dig, dig_zero ds, List.replicate_succ]
theorem next_dig : ∀ (ds : List Int) (n : Int), (∀ x ∈ ds, 1 ≤ x) → 0 ≤ n → n < prod ds → nextL ds (dig ds n) = if n + 1 < prod ds then (dig ds (n + 1), true) else (dig ds 0, false)
  | [], n, _, h0, h1 => by
    simp only [prod] at h1
    rw [if_neg (by simp [prod]; omega)]; rfl
  | d :: ds, n, hg, h0, h1 => by
    have hp := prod_pos ds (fun x hx => hg x (by simp [hx]))
    have r0 := Int.emod_nonneg n (show prod ds ≠ 0 by omega)
    have r1 := Int.emod_lt_of_pos n (show 0 < prod ds by omega)
    have hdiv := Int.mul_ediv_add_emod n (prod ds)
    have ih := next_dig ds (n % prod ds) (fun x hx => hg x (by simp [hx])) r0 r1
    have q0 : 0 ≤ n / prod ds := Int.ediv_nonneg h0 (by omega)
    rw [prod] at h1
    have q1 : n / prod ds < d := Int.ediv_lt_of_lt_mul (by omega) h1
    by_cases hr : n % prod ds + 1 < prod ds
    · rw [if_pos hr] at ih
      have e1 : (n + 1) / prod ds = n / prod ds := by
        have : n + 1 = (n % prod ds + 1) + n / prod ds * prod ds := by rw [Int.mul_comm]; omega
        rw [this, Int.add_mul_ediv_right _ _ (by omega), Int.ediv_eq_zero_of_lt (by omega) hr]; omega
      have e2 : (n + 1) % prod ds = n % prod ds + 1 := by
        have : n + 1 = (n % prod ds + 1) + n / prod ds * prod ds := by rw [Int.mul_comm]; omega
        rw [this, Int.add_mul_emod_self_right, Int.emod_eq_of_lt (by omega) hr]
      have hlt : n + 1 < prod (d :: ds) := by
        rw [prod]
        have h2 : prod ds * (n / prod ds + 1) ≤ prod ds * d := Int.mul_le_mul_of_nonneg_left (by omega) (by omega)
        rw [Int.mul_add] at h2
        rw [Int.mul_comm d]; omega
      rw [if_pos hlt]
      simp only [dig, nextL, ih, e1, e2]
      simp
    · have hr' : n % prod ds + 1 = prod ds := by omega
      rw [if_neg hr] at ih
      have e0 : n + 1 = (n / prod ds + 1) * prod ds := by rw [Int.add_mul, Int.mul_comm]; omega
      have e1 : (n + 1) / prod ds = n / prod ds + 1 := by rw [e0, Int.mul_ediv_cancel _ (by omega)]
      have e2 : (n + 1) % prod ds = 0 := by rw [e0]; exact Int.mul_emod_left _ _
      by_cases hq : n / prod ds + 1 < d
      · have hlt : n + 1 < prod (d :: ds) := by
          rw [prod, e0]; exact Int.mul_lt_mul_of_pos_right hq (by omega)
        rw [if_pos hlt]
        simp only [dig, nextL, ih, e1, e2]
        simp [hq]
      · have hge : ¬ n + 1 < prod (d :: ds) := by
          rw [prod, e0, show n / prod ds + 1 = d by omega]; omega
        rw [if_neg hge]
        simp only [dig, nextL, ih]
        simp [hq]
/-- One step: what the numbers from k + 1 on say is known. -/
theorem nextL_drop (ds zs : List Int) (hl : zs.length = ds.length) (k : Nat) (hk : k < ds.length) :
    nextL (ds.drop k) (zs.drop k) = if (nextL (ds.drop (k + 1)) (zs.drop (k + 1))).2 = true then (zs[k]?.getD 0 :: (nextL (ds.drop (k + 1)) (zs.drop (k + 1))).1, true) else if zs[k]?.getD 0 + 1 < ds[k]?.getD 0 then ((zs[k]?.getD 0 + 1) :: (nextL (ds.drop (k + 1)) (zs.drop (k + 1))).1, true) else (0 :: (nextL (ds.drop (k + 1)) (zs.drop (k + 1))).1, false) := by
  rw [drop_getD ds k hk, drop_getD zs k (by omega), nextL]
/-- Where the numbers from k on can go on, the others stay. -/
theorem nextL_true (ds zs l : List Int) (hl : zs.length = ds.length) : ∀ k, k ≤ ds.length → nextL (ds.drop k) (zs.drop k) = (l, true) → nextL ds zs = (zs.take k ++ l, true)
  | 0, _, h => by simpa using h
  | k + 1, hk, h => by
    have := nextL_drop ds zs hl k (by omega)
    rw [h] at this
    simp only [if_true] at this
    have h2 := nextL_true ds zs _ hl k (by omega) this
    rw [h2, take_succ_getD zs k (by omega)]
    simp

end Go.Proofs.YteoobeldmicjhaaGreat.V
