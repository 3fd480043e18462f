/-
  Contracts: view.lastFirst and its closure: the numbers of the dimensions, from the last one on, each with the product of those behind it. Plain mathematics: where entries lie, the numbers of an index, the index behind one. Contract: view.Place.
-/
import Derived.RangeFuncNested
import Derived.RangeFuncBound
import Derived.RangeFuncCalls
import Derived.RangeFuncLeaves
import Derived.RangeFuncBox
import Derived.Shelf.Abstract
import Derived.Shelf.RegionOpen
import Derived.WalkKit
import Derived.OwnWalkIn
import Derived.TacticsInMore
import Derived.LoopNIn
import Derived.LoopIn
import Derived.Test.YteoobeldmicjhaaGreatPCKArrayCuts3
import Derived.Test.YteoobeldmicjhaaGreatPCKArrayCuts0
namespace Go.Proofs.YteoobeldmicjhaaGreat.V
set_option maxRecDepth 20000
open Go.RowKit Go.Shelf
attribute [local go_sem] Oper.semAt_some

/-- What lies behind a dimension: the product of those that follow it. -/
def beh (xs : List Int) (k : Nat) : Int := prod (xs.drop (k + 1))
theorem drop_getD (xs : List Int) (k : Nat) (h : k < xs.length) : xs.drop k = xs[k]?.getD 0 :: xs.drop (k + 1) := by
  rw [List.drop_eq_getElem_cons h]; simp [h]
theorem prod_drop (xs : List Int) (k : Nat) (h : k < xs.length) : prod (xs.drop k) = xs[k]?.getD 0 * prod (xs.drop (k + 1)) := by
  rw [drop_getD xs k h]; rfl
theorem prod_drop_le (xs : List Int) (h : ∀ x ∈ xs, 1 ≤ x) (k : Nat) : 1 ≤ prod (xs.drop k) ∧ prod (xs.drop k) ≤ prod xs := by
  have e : prod xs = prod (xs.take k) * prod (xs.drop k) := by rw [← prod_append, List.take_append_drop]
  have h1 := prod_pos (xs.take k) (fun y hy => h y (List.mem_of_mem_take hy))
  have h2 := prod_pos (xs.drop k) (fun y hy => h y (List.mem_of_mem_drop hy))
  refine ⟨h2, ?_⟩
  rw [e]
  have := Int.mul_le_mul_of_nonneg_right h1 (show 0 ≤ prod (xs.drop k) by omega)
  simpa using this

/-- What a round keeps: all below n₀, and block Bs. -/
def Keep (n₀ Bs : Nat) (W W' : World) : Prop := Below n₀ W W' ∧ W'.heap[Bs]? = W.heap[Bs]?
theorem Keep.refl (n₀ Bs : Nat) (W : World) : Keep n₀ Bs W W := ⟨Below.refl _ _, rfl⟩
theorem Keep.trans {n₀ Bs : Nat} {A B C : World} (h : Keep n₀ Bs A B) (k : Keep n₀ Bs B C) : Keep n₀ Bs A C := ⟨h.1.trans k.1, k.2.trans h.2⟩
theorem keep_b {n₀ Bs : Nat} {w : World} (h1 : n₀ ≤ w.heap.size) (h2 : Bs < w.heap.size) (W : World) (l : Nat) (o o' : Obj) (hl : w.heap.size ≤ l) (ho : W.heap[l]? = some o) (hc : o.isCells = false) (hw : o.isWalk = false) : Keep n₀ Bs W (W.putObj l o') :=
  ⟨belowK_b h1 W l o o' hl ho hc hw, World.putObj_heap_other (by omega)⟩
theorem Keep.boxed {n₀ Bs : Nat} {W W' : World} {t : TypeId} {v : Value} (h : Keep n₀ Bs W W') (hb : Boxed W Bs t v) : Boxed W' Bs t v := h.2.trans hb
theorem Keep.setCell {n₀ Bs : Nat} {A W : World} (h : Keep n₀ Bs A W) {p : Addr} (hp : n₀ ≤ p.block) (hne : Bs ≠ p.block) (u : Value) : Keep n₀ Bs A (W.setCell p u) := ⟨h.1.setCell hp u, (Below.heap_setCell _ _ _ _ hne).trans h.2⟩
theorem Keep.drewN {n₀ Bs : Nat} {A W : World} (h : Keep n₀ Bs A W) : Keep n₀ Bs A W.drew := ⟨h.1.drew, h.2⟩
theorem Keep.alloc {n₀ Bs : Nat} {A W : World} (h : Keep n₀ Bs A W) (hn : n₀ ≤ W.heap.size) (hb : Bs < W.heap.size) (o : Obj) : Keep n₀ Bs A (W.alloc o) := ⟨h.1.alloc hn o, (Below.heap_alloc _ _ _ hb).trans h.2⟩

set_option maxHeartbeats 1000000 in
theorem lastFirst_in (F : Fence) (n : Nat) (hf : F.fn 100) (hro : F.round = none) (a : Option Addr) (len cap : Nat) (w : World) :
    CallsIn F n Tryz.prog 100 #[.slice a len cap] w fun e w' => e = .returned (.func (.func 120) #[] #[.pointer (some ⟨w.heap.size, 0, none⟩)]) ∧ w' = w.alloc (.cells #[.slice a len cap] 22) := by
  refine callsIn_of_wp Tryz.func100 rfl hf ?_ hro
  simp only [Tryz.ntmps100, List.size_toArray, List.length_cons, List.length_nil, Nat.reduceAdd, Nat.reduceSub, Array.replicate_succ, Array.replicate_zero, List.push_toArray, List.append_toArray, List.nil_append, List.cons_append]
  gi_wp2
  go_ret
  exact ⟨rfl, rfl⟩

end Go.Proofs.YteoobeldmicjhaaGreat.V
namespace Go.Proofs.YteoobeldmicjhaaGreat.V
set_option maxRecDepth 20000

/-- Where entry n lies, beyond Start. -/
def lieN : List Int → List Int → Int → Int
  | _ :: ds, t :: ss, n => n / prod ds * t + lieN ds ss (n % prod ds)
  | _, _, _ => 0
/-- The index of entry n. -/
def dig : List Int → Int → List Int
  | _ :: ds, n => n / prod ds :: dig ds (n % prod ds)
  | [], _ => []
/-- The sum of the first m products. -/
def dotT (xs ys : List Int) : Nat → Int
  | 0 => 0
  | m + 1 => dotT xs ys m + xs[m]?.getD 0 * ys[m]?.getD 0
theorem dotT_cons (x y : Int) (xs ys : List Int) : ∀ m, dotT (x :: xs) (y :: ys) (m + 1) = x * y + dotT xs ys m
  | 0 => by simp [dotT]
  | m + 1 => by rw [dotT, dotT_cons x y xs ys m, dotT]; simp [Int.add_assoc]
theorem dig_length : ∀ (ds : List Int) (n : Int), (dig ds n).length = ds.length
  | [], _ => rfl
  | d :: ds, n => by simp [dig, dig_length ds]
theorem lieN_dig : ∀ (ds ss : List Int) (n : Int), ss.length = ds.length → lieN ds ss n = dotT (dig ds n) ss ds.length
  | [], ss, n, _ => by cases ss <;> rfl
  | d :: ds, [], n, h => by simp at h
  | d :: ds, t :: ss, n, h => by
    have := lieN_dig ds ss (n % prod ds) (by simpa using h)
    rw [lieN, this, dig, List.length_cons, dotT_cons]

theorem dig_bd : ∀ (ds : List Int) (n : Int), (∀ x ∈ ds, 1 ≤ x) → 0 ≤ n → n < prod ds → ∀ j, j < ds.length → 0 ≤ (dig ds n)[j]?.getD 0 ∧ (dig ds n)[j]?.getD 0 < ds[j]?.getD 0
  | [], n, _, _, _, j, hj => by simp at hj
  | d :: ds, n, hg, h0, h1, j, hj => by
    have hp := prod_pos ds (fun x hx => hg x (by simp [hx]))
    rw [prod] at h1
    cases j with
    | zero =>
      simp only [dig, List.getElem?_cons_zero, Option.getD_some]
      exact ⟨Int.ediv_nonneg h0 (by omega), Int.ediv_lt_of_lt_mul (by omega) h1⟩
    | succ j =>
      simp only [dig, List.getElem?_cons_succ]
      exact dig_bd ds (n % prod ds) (fun x hx => hg x (by simp [hx])) (Int.emod_nonneg _ (by omega)) (Int.emod_lt_of_pos _ (by omega)) j (by simpa using hj)

/-- The index behind one; false: that was the last one. -/
def nextL : List Int → List Int → List Int × Bool
  | d :: ds, a :: zs => if (nextL ds zs).2 = true then (a :: (nextL ds zs).1, true) else if a + 1 < d then ((a + 1) :: (nextL ds zs).1, true) else (0 :: (nextL ds zs).1, false)
  | _, _ => ([], false)
theorem dig_zero : ∀ ds : List Int, dig ds 0 = List.replicate ds.length 0
  | [] => rfl
  | d :: ds => by simp [dig, dig_zero ds, List.replicate_succ]
theorem next_dig : ∀ (ds : List Int) (n : Int), (∀ x ∈ ds, 1 ≤ x) → 0 ≤ n → n < prod ds → nextL ds (dig ds n) = if n + 1 < prod ds then (dig ds (n + 1), true) else (dig ds 0, false)
  | [], n, _, h0, h1 => by
    simp only [prod] at h1
    rw [if_neg (by simp [prod]; omega)]; rfl
  | d :: ds, n, hg, h0, h1 => by
    have hp := prod_pos ds (fun x hx => hg x (by simp [hx]))
    have r0 := Int.emod_nonneg n (show prod ds ≠ 0 by omega)
    have r1 := Int.emod_lt_of_pos n (show 0 < prod ds by omega)
    have hdiv := Int.mul_ediv_add_emod n (prod ds)
    have ih := next_dig ds (n % prod ds) (fun x hx => hg x (by simp [hx])) r0 r1
    have q0 : 0 ≤ n / prod ds := Int.ediv_nonneg h0 (by omega)
    rw [prod] at h1
    have q1 : n / prod ds < d := Int.ediv_lt_of_lt_mul (by omega) h1
    by_cases hr : n % prod ds + 1 < prod ds
    · rw [if_pos hr] at ih
      have e1 : (n + 1) / prod ds = n / prod ds := by
        have : n + 1 = (n % prod ds + 1) + n / prod ds * prod ds := by rw [Int.mul_comm]; omega
        rw [this, Int.add_mul_ediv_right _ _ (by omega), Int.ediv_eq_zero_of_lt (by omega) hr]; omega
      have e2 : (n + 1) % prod ds = n % prod ds + 1 := by
        have : n + 1 = (n % prod ds + 1) + n / prod ds * prod ds := by rw [Int.mul_comm]; omega
        rw [this, Int.add_mul_emod_self_right, Int.emod_eq_of_lt (by omega) hr]
      have hlt : n + 1 < prod (d :: ds) := by
        rw [prod]
        have h2 : prod ds * (n / prod ds + 1) ≤ prod ds * d := Int.mul_le_mul_of_nonneg_left (by omega) (by omega)
        rw [Int.mul_add] at h2
        rw [Int.mul_comm d]; omega
      rw [if_pos hlt]
      simp only [dig, nextL, ih, e1, e2]
      simp
    · have hr' : n % prod ds + 1 = prod ds := by omega
      rw [if_neg hr] at ih
      have e0 : n + 1 = (n / prod ds + 1) * prod ds := by rw [Int.add_mul, Int.mul_comm]; omega
      have e1 : (n + 1) / prod ds = n / prod ds + 1 := by rw [e0, Int.mul_ediv_cancel _ (by omega)]
      have e2 : (n + 1) % prod ds = 0 := by rw [e0]; exact Int.mul_emod_left _ _
      by_cases hq : n / prod ds + 1 < d
      · have hlt : n + 1 < prod (d :: ds) := by
          rw [prod, e0]; exact Int.mul_lt_mul_of_pos_right hq (by omega)
        rw [if_pos hlt]
        simp only [dig, nextL, ih, e1, e2]
        simp [hq]
      · have hge : ¬ n + 1 < prod (d :: ds) := by
          rw [prod, e0, show n / prod ds + 1 = d by omega]; omega
        rw [if_neg hge]
        simp only [dig, nextL, ih]
        simp [hq]
/-- One step: what the numbers from k + 1 on say is known. -/
theorem nextL_drop (ds zs : List Int) (hl : zs.length = ds.length) (k : Nat) (hk : k < ds.length) :
    nextL (ds.drop k) (zs.drop k) = if (nextL (ds.drop (k + 1)) (zs.drop (k + 1))).2 = true then (zs[k]?.getD 0 :: (nextL (ds.drop (k + 1)) (zs.drop (k + 1))).1, true) else if zs[k]?.getD 0 + 1 < ds[k]?.getD 0 then ((zs[k]?.getD 0 + 1) :: (nextL (ds.drop (k + 1)) (zs.drop (k + 1))).1, true) else (0 :: (nextL (ds.drop (k + 1)) (zs.drop (k + 1))).1, false) := by
  rw [drop_getD ds k hk, drop_getD zs k (by omega), nextL]
/-- Where the numbers from k on can go on, the others stay. -/
theorem nextL_true (ds zs l : List Int) (hl : zs.length = ds.length) : ∀ k, k ≤ ds.length → nextL (ds.drop k) (zs.drop k) = (l, true) → nextL ds zs = (zs.take k ++ l, true)
  | 0, _, h => by simpa using h
  | k + 1, hk, h => by
    have := nextL_drop ds zs hl k (by omega)
    rw [h] at this
    simp only [if_true] at this
    have h2 := nextL_true ds zs _ hl k (by omega) this
    rw [h2, take_succ_getD zs k (by omega)]
    simp

def readsV (s : Int) (ds ss : List Int) : List Int := (List.range (prod ds).toNat).map fun n : Nat => s + lieN ds ss n
theorem readsV_length (s : Int) (ds ss : List Int) : (readsV s ds ss).length = (prod ds).toNat := by simp [readsV]
/-- An entry of the k-th dimension: i rows, and j within one. -/
theorem lieN_at (ds ss : List Int) (hl : ss.length = ds.length) (k : Nat) (hk : k < ds.length) (i j : Int) (hj0 : 0 ≤ j) (hj : j < beh ds k) :
    lieN (ds.drop k) (ss.drop k) (i * beh ds k + j) = lieN (ds.drop (k + 1)) (ss.drop (k + 1)) j + i * ss[k]?.getD 0 := by
  unfold beh at *
  rw [drop_getD ds k hk, drop_getD ss k (by omega), lieN]
  have e1 : (i * prod (ds.drop (k + 1)) + j) / prod (ds.drop (k + 1)) = i := by
    rw [Int.add_comm, Int.add_mul_ediv_right _ _ (by omega), Int.ediv_eq_zero_of_lt hj0 hj]; omega
  have e2 : (i * prod (ds.drop (k + 1)) + j) % prod (ds.drop (k + 1)) = j := by
    rw [Int.add_comm, Int.add_mul_emod_self_right, Int.emod_eq_of_lt hj0 hj]
  rw [e1, e2]; omega

/-- How far entries can lie. -/
theorem dotT_bd {xs ys : List Int} {n : Nat} (hx : ∀ j, j < n → 0 ≤ xs[j]?.getD 0 ∧ xs[j]?.getD 0 ≤ 4095) (hy : ∀ j, j < n → -1099511627776 ≤ ys[j]?.getD 0 ∧ ys[j]?.getD 0 ≤ 1099511627776) : ∀ m, m ≤ n → -(4502500115742720 * m) ≤ dotT xs ys m ∧ dotT xs ys m ≤ 4502500115742720 * m
  | 0, _ => by simp [dotT]
  | m + 1, h => by
    have h1 := dotT_bd hx hy m (by omega)
    have h2 := hx m (by omega)
    have h3 := hy m (by omega)
    have a1 : xs[m]?.getD 0 * ys[m]?.getD 0 ≤ xs[m]?.getD 0 * 1099511627776 := Int.mul_le_mul_of_nonneg_left h3.2 h2.1
    have a2 : xs[m]?.getD 0 * -1099511627776 ≤ xs[m]?.getD 0 * ys[m]?.getD 0 := Int.mul_le_mul_of_nonneg_left h3.1 h2.1
    rw [dotT]; omega
theorem lieN_bd {ds ss : List Int} {n : Int} (hl : ss.length = ds.length) (h6 : ds.length ≤ 6) (hd : ∀ x ∈ ds, 1 ≤ x ∧ x ≤ 4096) (hs : ∀ x ∈ ss, -1099511627776 ≤ x ∧ x ≤ 1099511627776) (h0 : 0 ≤ n) (h1 : n < prod ds) : -27015000694456320 ≤ lieN ds ss n ∧ lieN ds ss n ≤ 27015000694456320 := by
  rw [lieN_dig ds ss n hl]
  have hb := dig_bd ds n (fun x hx => (hd x hx).1) h0 h1
  have := dotT_bd (xs := dig ds n) (ys := ss) (n := ds.length) (fun j hj => by have := hb j hj; have := hd _ (mem_getD ds j hj); omega) (fun j hj => hs _ (mem_getD ss j (by omega))) ds.length (Nat.le_refl _)
  omega
end Go.Proofs.YteoobeldmicjhaaGreat.V
namespace Go.Proofs.YteoobeldmicjhaaGreat.V
set_option maxRecDepth 20000
open Go.RowKit Go.Shelf
attribute [local go_sem] Oper.semAt_some

/-- The places that the first k numbers of an index are worth. -/
def placeS (xs ys : List Int) : Nat → Int
  | 0 => 0
  | k + 1 => placeS xs ys k + ys[k]?.getD 0 * beh xs k
def IdxOk (xs ys : List Int) : Prop := ∀ k, k < xs.length → 0 ≤ ys[k]?.getD 0 ∧ ys[k]?.getD 0 < xs[k]?.getD 0
def idxB (xs ys : List Int) : Bool := (List.range xs.length).all fun k => decide (0 ≤ ys[k]?.getD 0) && decide (ys[k]?.getD 0 < xs[k]?.getD 0)
theorem idxB_iff (xs ys : List Int) : idxB xs ys = true ↔ IdxOk xs ys := by simp [idxB, IdxOk]
theorem idxB_no {xs ys : List Int} (h : ¬ IdxOk xs ys) : idxB xs ys = false := by
  cases e : idxB xs ys with
  | true => exact absurd ((idxB_iff xs ys).1 e) h
  | false => rfl
def placeN (xs ys : List Int) : Int := if sizeE xs ≠ 0 then 0 else if ys.length ≠ xs.length then 0 else if idxB xs ys = true then placeS xs ys xs.length else 0
def placeE (xs ys : List Int) : Int := if sizeE xs ≠ 0 then sizeE xs else if ys.length ≠ xs.length then 6 else if idxB xs ys = true then 0 else 4

theorem sizeE_ok {xs : List Int} (h : sizeE xs = 0) : xs.length ≤ 6 ∧ (∀ x ∈ xs, 0 ≤ x ∧ x ≤ 4096) ∧ ((∀ x ∈ xs, 1 ≤ x) → prod xs ≤ 65536 ∧ sizeN xs = prod xs) ∧ ((0 : Int) ∈ xs → sizeN xs = 0) := by
  unfold sizeE at h
  by_cases c1 : 6 < xs.length
  · rw [if_pos c1] at h; omega
  rw [if_neg c1] at h
  by_cases c2 : xs.any badDim = true
  · rw [if_pos c2] at h; omega
  rw [if_neg c2] at h
  refine ⟨by omega, fun x hx => ?_, fun hg => ?_, fun h0 => ?_⟩
  · have : badDim x = false := by
      have c2' : xs.any badDim = false := by simpa using c2
      rw [List.any_eq_false] at c2'
      simpa using c2' x hx
    simp [badDim] at this; omega
  · have c3 : (0 : Int) ∉ xs := fun e => by have := hg 0 e; omega
    rw [if_neg c3] at h
    by_cases c4 : 65536 < prod xs
    · rw [if_pos c4] at h; omega
    refine ⟨by omega, ?_⟩
    unfold sizeN; rw [if_neg c1, if_neg c2, if_neg c3, if_neg c4]
  · unfold sizeN; rw [if_neg c1, if_neg c2, if_pos h0]
theorem idxOk_pos {xs ys : List Int} (h : IdxOk xs ys) : ∀ x ∈ xs, 1 ≤ x := by
  intro x hx
  obtain ⟨k, hk, rfl⟩ := List.getElem_of_mem hx
  have := h k hk
  simp [hk] at this; omega
/-- The fence that shuts nothing out. -/
abbrev FW : Fence := Fence.wide

end Go.Proofs.YteoobeldmicjhaaGreat.V
