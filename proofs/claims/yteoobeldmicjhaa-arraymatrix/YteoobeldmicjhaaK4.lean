/-
  Contracts: view.lastFirst and its closure: the numbers of the dimensions, from the last one on, each with the product of those behind it. Plain mathematics: where entries lie, the numbers of an index, the index behind one. Contract: view.Place.
-/
import Derived.RangeFuncNested
import Derived.RangeFuncBound
import Derived.RangeFuncCalls
import Derived.RangeFuncLeaves
import Derived.RangeFuncBox
import Derived.Shelf.Abstract
import Derived.Shelf.RegionOpen
import Derived.WalkKit
import Derived.OwnWalkIn
import Derived.TacticsInMore
import Derived.LoopNIn
import Derived.LoopIn
import Derived.Test.YteoobeldmicjhaaK3
import Derived.Test.YteoobeldmicjhaaK0
namespace Go.Proofs.Yteoobeldmicjhaa.V
open Go.RowKit Go.Shelf
attribute [local go_sem] Oper.semAt_some

/-- What lies behind a dimension: the product of those that follow it. -/
def beh (xs : List Int) (k : Nat) : Int := prod (xs.drop (k + 1))
/-- The numbers n - 1, .., k: what has come when those from k on are through. -/
def down (n k : Nat) : List (Fin n) := ((List.finRange n).drop k).reverse
theorem down_all (n : Nat) : down n n = [] := by simp [down]
theorem down_step (n k : Nat) (h : k < n) : down n k = down n (k + 1) ++ [⟨k, h⟩] := by
  unfold down
  rw [List.drop_eq_getElem_cons (by simpa using h)]
  simp
theorem down_length (n k : Nat) : (down n k).length = n - k := by simp [down]
theorem drop_getD (xs : List Int) (k : Nat) (h : k < xs.length) : xs.drop k = xs[k]?.getD 0 :: xs.drop (k + 1) := by
  rw [List.drop_eq_getElem_cons h]; simp [h]
theorem prod_drop (xs : List Int) (k : Nat) (h : k < xs.length) : prod (xs.drop k) = xs[k]?.getD 0 * prod (xs.drop (k + 1)) := by
  rw [drop_getD xs k h]; rfl
theorem prod_drop_le (xs : List Int) (h : ∀ x ∈ xs, 1 ≤ x) (k : Nat) : 1 ≤ prod (xs.drop k) ∧ prod (xs.drop k) ≤ prod xs := by
  have e : prod xs = prod (xs.take k) * prod (xs.drop k) := by rw [← prod_append, List.take_append_drop]
  have h1 := prod_pos (xs.take k) (fun y hy => h y (List.mem_of_mem_take hy))
  have h2 := prod_pos (xs.drop k) (fun y hy => h y (List.mem_of_mem_drop hy))
  refine ⟨h2, ?_⟩
  rw [e]
  have := Int.mul_le_mul_of_nonneg_right h1 (show 0 ≤ prod (xs.drop k) by omega)
  simpa using this

/-- What the closure hands to a round. -/
def enc2 (xs : List Int) (n : Nat) (k : Fin n) : Array Value := #[Value.int .i64 (k.1 : Int), Value.int .i64 (beh xs k.1)]

/-- What a round keeps: all below n₀, and block Bs. -/
def Keep (n₀ Bs : Nat) (W W' : World) : Prop := Below n₀ W W' ∧ W'.heap[Bs]? = W.heap[Bs]?
theorem Keep.refl (n₀ Bs : Nat) (W : World) : Keep n₀ Bs W W := ⟨Below.refl _ _, rfl⟩
theorem Keep.trans {n₀ Bs : Nat} {A B C : World} (h : Keep n₀ Bs A B) (k : Keep n₀ Bs B C) : Keep n₀ Bs A C := ⟨h.1.trans k.1, k.2.trans h.2⟩
theorem keep_b {n₀ Bs : Nat} {w : World} (h1 : n₀ ≤ w.heap.size) (h2 : Bs < w.heap.size) (W : World) (l : Nat) (o o' : Obj) (hl : w.heap.size ≤ l) (ho : W.heap[l]? = some o) (hc : o.isCells = false) (hw : o.isWalk = false) : Keep n₀ Bs W (W.putObj l o') :=
  ⟨belowK_b h1 W l o o' hl ho hc hw, World.putObj_heap_other (by omega)⟩
theorem Keep.boxed {n₀ Bs : Nat} {W W' : World} {t : TypeId} {v : Value} (h : Keep n₀ Bs W W') (hb : Boxed W Bs t v) : Boxed W' Bs t v := h.2.trans hb
theorem Keep.setCell {n₀ Bs : Nat} {A W : World} (h : Keep n₀ Bs A W) {p : Addr} (hp : n₀ ≤ p.block) (hne : Bs ≠ p.block) (u : Value) : Keep n₀ Bs A (W.setCell p u) := ⟨h.1.setCell hp u, (Below.heap_setCell _ _ _ _ hne).trans h.2⟩
theorem Keep.drewN {n₀ Bs : Nat} {A W : World} (h : Keep n₀ Bs A W) : Keep n₀ Bs A W.drew := ⟨h.1.drew, h.2⟩
theorem Keep.alloc {n₀ Bs : Nat} {A W : World} (h : Keep n₀ Bs A W) (hn : n₀ ≤ W.heap.size) (hb : Bs < W.heap.size) (o : Obj) : Keep n₀ Bs A (W.alloc o) := ⟨h.1.alloc hn o, (Below.heap_alloc _ _ _ hb).trans h.2⟩

set_option maxRecDepth 100000 in
set_option maxHeartbeats 2000000 in
theorem lastFirst1_in (F : Fence) (n : Nat) (hf : F.fn 78) (hro : F.round = none) (hn : 1 ≤ n) (l Bs n₀ len cap : Nat) (a : Option Addr) (xs : List Int) (hl : xs.length = len) (hlen : len ≤ 6)
    (hg : ∀ x ∈ xs, 1 ≤ x) (hp : prod xs ≤ 65536) (J Jx : List (Fin len) → World → Prop)
    (hY : ∀ pre x W, J pre W → pre.length < len → YieldAt F (n - 1) Try.prog l (enc2 xs len x) W fun e W' =>
      (e = .returned (.bool true) ∧ J (pre ++ [x]) W' ∧ Keep n₀ Bs W W') ∨ (e = .returned (.bool false) ∧ Jx (pre ++ [x]) W'))
    (W : World) (hBs : Boxed W Bs 22 (.slice a len cap)) (hc : len = 0 ∨ ∃ b off, a = some ⟨b, off, none⟩ ∧ b < n₀ ∧ ∀ j, j < len → W.cell? ⟨b, off + j, none⟩ = some (.int .i64 (xs[j]?.getD 0))) (h0 : J [] W) :
    CallsIn F n Try.prog 78 #[.func (.yield l) #[] #[], .pointer (some ⟨Bs, 0, none⟩)] W fun e W' => (∃ v, e = .returned v) ∧
      ((∃ ys, ys = down len 0 ∧ J ys W') ∨ (∃ pre, (∃ k, k ≤ len ∧ pre = down len k) ∧ Jx pre W')) := by
  have HL := hide hl
  have HG := hide hg
  have HC := hide hc
  clear hl hg hc
  have hBc := hBs.cell
  have HBS := hide hBs
  clear hBs
  refine callsIn_of_wp Try.func78 rfl hf ?_ hro
  simp only [Try.ntmps78, List.size_toArray, List.length_cons, List.length_nil, Nat.reduceAdd, Nat.reduceSub, Array.replicate_succ, Array.replicate_zero, List.push_toArray, List.append_toArray, List.nil_append, List.cons_append]
  gi_wp2
  gi_loopw [3, 4] (fun s i wr => ∃ (k : Nat) (m : Int), k ≤ len ∧ m + 1 = k ∧ i = .int .i64 m ∧ s = .int .i64 (prod (xs.drop k)) ∧ J (down len k) wr ∧ Keep n₀ Bs W wr)
    (fun _ i _ => (intOf i + 1).toNat)
  case atStart => exact ⟨len, len - 1, Nat.le_refl _, by omega, rfl, by rw [List.drop_eq_nil_of_le (by rw [HL.out]; omega)]; rfl, by rw [down_all]; exact h0, Keep.refl _ _ _⟩
  case round =>
    obtain ⟨k, m, hk, hm, rfl, rfl, hJs, hnx⟩ := hrel
    have hpk := prod_drop_le xs HG.out k
    by_cases hlt : 0 < k
    · obtain ⟨k', rfl⟩ : ∃ k', k = k' + 1 := ⟨k - 1, by omega⟩
      obtain rfl : m = (k' : Int) := by omega
      have hk' : k' < len := by omega
      have HKL : Hid (k' < xs.length) := by rw [Hid, HL.out]; exact hk'
      obtain ⟨b, off, rfl, hb, hcc⟩ := HC.out.resolve_left (by omega)
      have hBw : wr.cell? ⟨Bs, 0, none⟩ = some (.slice (some ⟨b, off, none⟩) len cap) := (hnx.boxed HBS.out).cell
      have hd := HG.out _ (mem_getD xs k' HKL.out)
      have HP : Hid (prod (xs.drop k') = xs[k']?.getD 0 * prod (xs.drop (k' + 1))) := prod_drop xs k' HKL.out
      have hq := prod_drop_le xs HG.out k'
      have hq' : prod (xs.drop (k' + 1)) * xs[k']?.getD 0 ≤ 65536 := by rw [Int.mul_comm, ← HP.out]; omega
      have hq1 : 1 ≤ prod (xs.drop (k' + 1)) * xs[k']?.getD 0 := by rw [Int.mul_comm, ← HP.out]; omega
      obtain ⟨fn, tmps, assign, body, hy, hR⟩ := hY (down len (k' + 1)) ⟨k', hk'⟩ wr hJs (by rw [down_length]; omega)
      simp only [enc2, beh] at hy
      have HJ : Hid (down len k' = down len (k' + 1) ++ [⟨k', hk'⟩]) := down_step len k' hk'
      clear hJs hm hq hY
      gi_wp2
      refine hR.mono ?_
      rintro e W3 (⟨rfl, hJ3, hk3⟩ | ⟨rfl, hJx3⟩)
      · have hB3 : W3.cell? ⟨Bs, 0, none⟩ = some (.slice (some ⟨b, off, none⟩) len cap) := ((hnx.trans hk3).boxed HBS.out).cell
        have hc3 : W3.cell? ⟨b, off + k', none⟩ = some (.int .i64 (xs[k']?.getD 0)) := ((hnx.trans hk3).1.cell (p := ⟨b, off + k', none⟩) hb).trans (hcc k' hk')
        clear hR hy hcc
        gi_wp2
        go_roundw
        case rel => exact ⟨k', (k' : Int) - 1, by omega, by omega, by go_num, by rw [HP.out, Int.mul_comm], by rw [HJ.out]; exact hJ3, hnx.trans hk3⟩
        case measure => simp [intOf]
      · clear hR hy hcc
        gi_wp2
        refine bodyPost_ret (results_none rfl _ _ _) rfl ?_
        exact ⟨⟨_, rfl⟩, .inr ⟨_, ⟨k', by omega, HJ.out.symm⟩, hJx3⟩⟩
    · obtain rfl : k = 0 := by omega
      obtain rfl : m = -1 := by omega
      gi_wp2
      go_end0
      exact ⟨⟨_, rfl⟩, .inl ⟨_, rfl, hJs⟩⟩

set_option maxHeartbeats 1000000 in
theorem lastFirst_in (F : Fence) (n : Nat) (hf : F.fn 62) (hro : F.round = none) (a : Option Addr) (len cap : Nat) (w : World) :
    CallsIn F n Try.prog 62 #[.slice a len cap] w fun e w' => e = .returned (.func (.func 78) #[] #[.pointer (some ⟨w.heap.size, 0, none⟩)]) ∧ w' = w.alloc (.cells #[.slice a len cap] 22) := by
  refine callsIn_of_wp Try.func62 rfl hf ?_ hro
  simp only [Try.ntmps62, List.size_toArray, List.length_cons, List.length_nil, Nat.reduceAdd, Nat.reduceSub, Array.replicate_succ, Array.replicate_zero, List.push_toArray, List.append_toArray, List.nil_append, List.cons_append]
  gi_wp2
  go_ret
  exact ⟨rfl, rfl⟩

/-- Whatever a loop's body does to memory from n₀ on. -/
theorem lastFirst_stops (F : Fence) (n : Nat) (hf : F.fn 78) (hro : F.round = none) (hn : 1 ≤ n) (Bs n₀ len cap : Nat) (a : Option Addr) (xs : List Int) (hl : xs.length = len) (hlen : len ≤ 6)
    (hg : ∀ x ∈ xs, 1 ≤ x) (hp : prod xs ≤ 65536) (w : World) (hn₀ : n₀ ≤ w.heap.size) (hc : Boxed w Bs 22 (.slice a len cap))
    (hI : len = 0 ∨ ∃ b off, a = some ⟨b, off, none⟩ ∧ b < n₀ ∧ ∀ j, j < len → w.cell? ⟨b, off + j, none⟩ = some (.int .i64 (xs[j]?.getD 0))) :
    SeqStopsK F n Try.prog 78 #[.pointer (some ⟨Bs, 0, none⟩)] (enc2 xs len) (Keep n₀ Bs) (fun ys => ys = down len 0) (fun pre => ∃ k, k ≤ len ∧ pre = down len k) len w := fun l J Jx W hW _ _ hY h0 => by
  refine lastFirst1_in F n hf hro hn l Bs n₀ len cap a xs hl hlen hg hp J Jx hY W ((hW.block Bs hc.lt).trans hc) ?_ h0
  rcases hI with h | ⟨b, off, ha, hb, hcc⟩
  · exact .inl h
  · exact .inr ⟨b, off, ha, hb, fun j hj => (hW.cell (p := ⟨b, off + j, none⟩) (by simp; omega)).trans (hcc j hj)⟩
end Go.Proofs.Yteoobeldmicjhaa.V
namespace Go.Proofs.Yteoobeldmicjhaa.V

/-- Where entry n lies, beyond Start. -/
def lieN : List Int → List Int → Int → Int
  | _ :: ds, t :: ss, n => n / prod ds * t + lieN ds ss (n % prod ds)
  | _, _, _ => 0
/-- The index of entry n. -/
def dig : List Int → Int → List Int
  | _ :: ds, n => n / prod ds :: dig ds (n % prod ds)
  | [], _ => []
/-- The sum of the first m products. -/
def dotT (xs ys : List Int) : Nat → Int
  | 0 => 0
  | m + 1 => dotT xs ys m + xs[m]?.getD 0 * ys[m]?.getD 0
theorem dotT_cons (x y : Int) (xs ys : List Int) : ∀ m, dotT (x :: xs) (y :: ys) (m + 1) = x * y + dotT xs ys m
  | 0 => by simp [dotT]
  | m + 1 => by rw [dotT, dotT_cons x y xs ys m, dotT]; simp [Int.add_assoc]
theorem dig_length : ∀ (ds : List Int) (n : Int), (dig ds n).length = ds.length
  | [], _ => rfl
  | d :: ds, n => by simp [dig, dig_length ds]
theorem lieN_dig : ∀ (ds ss : List Int) (n : Int), ss.length = ds.length → lieN ds ss n = dotT (dig ds n) ss ds.length
  | [], ss, n, _ => by cases ss <;> rfl
  | d :: ds, [], n, h => by simp at h
  | d :: ds, t :: ss, n, h => by
    have := lieN_dig ds ss (n % prod ds) (by simpa using h)
    rw [lieN, this, dig, List.length_cons, dotT_cons]

theorem dig_bd : ∀ (ds : List Int) (n : Int), (∀ x ∈ ds, 1 ≤ x) → 0 ≤ n → n < prod ds → ∀ j, j < ds.length → 0 ≤ (dig ds n)[j]?.getD 0 ∧ (dig ds n)[j]?.getD 0 < ds[j]?.getD 0
  | [], n, _, _, _, j, hj => by simp at hj
  | d :: ds, n, hg, h0, h1, j, hj => by
    have hp := prod_pos ds (fun x hx => hg x (by simp [hx]))
    rw [prod] at h1
    cases j with
    | zero =>
      simp only [dig, List.getElem?_cons_zero, Option.getD_some]
      exact ⟨Int.ediv_nonneg h0 (by omega), Int.ediv_lt_of_lt_mul (by omega) h1⟩
    | succ j =>
      simp only [dig, List.getElem?_cons_succ]
      exact dig_bd ds (n % prod ds) (fun x hx => hg x (by simp [hx])) (Int.emod_nonneg _ (by omega)) (Int.emod_lt_of_pos _ (by omega)) j (by simpa using hj)

/-- The index behind one; false: that was the last one. -/
def nextL : List Int → List Int → List Int × Bool
  | d :: ds, a :: zs => if (nextL ds zs).2 = true then (a :: (nextL ds zs).1, true) else if a + 1 < d then ((a + 1) :: (nextL ds zs).1, true) else (0 :: (nextL ds zs).1, false)
  | _, _ => ([], false)
theorem dig_zero : ∀ ds : List Int, dig ds 0 = List.replicate ds.length 0
  | [] => rfl
  | d :: ds => by simp [dig, dig_zero ds, List.replicate_succ]
theorem next_dig : ∀ (ds : List Int) (n : Int), (∀ x ∈ ds, 1 ≤ x) → 0 ≤ n → n < prod ds → nextL ds (dig ds n) = if n + 1 < prod ds then (dig ds (n + 1), true) else (dig ds 0, false)
  | [], n, _, h0, h1 => by
    simp only [prod] at h1
    rw [if_neg (by simp [prod]; omega)]; rfl
  | d :: ds, n, hg, h0, h1 => by
    have hp := prod_pos ds (fun x hx => hg x (by simp [hx]))
    have r0 := Int.emod_nonneg n (show prod ds ≠ 0 by omega)
    have r1 := Int.emod_lt_of_pos n (show 0 < prod ds by omega)
    have hdiv := Int.mul_ediv_add_emod n (prod ds)
    have ih := next_dig ds (n % prod ds) (fun x hx => hg x (by simp [hx])) r0 r1
    have q0 : 0 ≤ n / prod ds := Int.ediv_nonneg h0 (by omega)
    rw [prod] at h1
    have q1 : n / prod ds < d := Int.ediv_lt_of_lt_mul (by omega) h1
    by_cases hr : n % prod ds + 1 < prod ds
    · rw [if_pos hr] at ih
      have e1 : (n + 1) / prod ds = n / prod ds := by
        have : n + 1 = (n % prod ds + 1) + n / prod ds * prod ds := by rw [Int.mul_comm]; omega
        rw [this, Int.add_mul_ediv_right _ _ (by omega), Int.ediv_eq_zero_of_lt (by omega) hr]; omega
      have e2 : (n + 1) % prod ds = n % prod ds + 1 := by
        have : n + 1 = (n % prod ds + 1) + n / prod ds * prod ds := by rw [Int.mul_comm]; omega
        rw [this, Int.add_mul_emod_self_right, Int.emod_eq_of_lt (by omega) hr]
      have hlt : n + 1 < prod (d :: ds) := by
        rw [prod]
        have h2 : prod ds * (n / prod ds + 1) ≤ prod ds * d := Int.mul_le_mul_of_nonneg_left (by omega) (by omega)
        rw [Int.mul_add] at h2
        rw [Int.mul_comm d]; omega
      rw [if_pos hlt]
      simp only [dig, nextL, ih, e1, e2]
      simp
    · have hr' : n % prod ds + 1 = prod ds := by omega
      rw [if_neg hr] at ih
      have e0 : n + 1 = (n / prod ds + 1) * prod ds := by rw [Int.add_mul, Int.mul_comm]; omega
      have e1 : (n + 1) / prod ds = n / prod ds + 1 := by rw [e0, Int.mul_ediv_cancel _ (by omega)]
      have e2 : (n + 1) % prod ds = 0 := by rw [e0]; exact Int.mul_emod_left _ _
      by_cases hq : n / prod ds + 1 < d
      · have hlt : n + 1 < prod (d :: ds) := by
          rw [prod, e0]; exact Int.mul_lt_mul_of_pos_right hq (by omega)
        rw [if_pos hlt]
        simp only [dig, nextL, ih, e1, e2]
        simp [hq]
      · have hge : ¬ n + 1 < prod (d :: ds) := by
          rw [prod, e0, show n / prod ds + 1 = d by omega]; omega
        rw [if_neg hge]
        simp only [dig, nextL, ih]
        simp [hq]
theorem nextL_length : ∀ (ds zs : List Int), zs.length = ds.length → (nextL ds zs).1.length = ds.length
  | [], [], _ => rfl
  | d :: ds, a :: zs, h => by
    have := nextL_length ds zs (by simpa using h)
    rw [nextL]; split
    · simp [this]
    · split <;> simp [this]
  | [], a :: zs, h => by simp at h
  | d :: ds, [], h => by simp at h
/-- One step: what the numbers from k + 1 on say is known. -/
theorem nextL_drop (ds zs : List Int) (hl : zs.length = ds.length) (k : Nat) (hk : k < ds.length) :
    nextL (ds.drop k) (zs.drop k) = if (nextL (ds.drop (k + 1)) (zs.drop (k + 1))).2 = true then (zs[k]?.getD 0 :: (nextL (ds.drop (k + 1)) (zs.drop (k + 1))).1, true) else if zs[k]?.getD 0 + 1 < ds[k]?.getD 0 then ((zs[k]?.getD 0 + 1) :: (nextL (ds.drop (k + 1)) (zs.drop (k + 1))).1, true) else (0 :: (nextL (ds.drop (k + 1)) (zs.drop (k + 1))).1, false) := by
  rw [drop_getD ds k hk, drop_getD zs k (by omega), nextL]
/-- Where the numbers from k on can go on, the others stay. -/
theorem nextL_true (ds zs l : List Int) (hl : zs.length = ds.length) : ∀ k, k ≤ ds.length → nextL (ds.drop k) (zs.drop k) = (l, true) → nextL ds zs = (zs.take k ++ l, true)
  | 0, _, h => by simpa using h
  | k + 1, hk, h => by
    have := nextL_drop ds zs hl k (by omega)
    rw [h] at this
    simp only [if_true] at this
    have h2 := nextL_true ds zs _ hl k (by omega) this
    rw [h2, take_succ_getD zs k (by omega)]
    simp

def readsV (s : Int) (ds ss : List Int) : List Int := (List.range (prod ds).toNat).map fun n : Nat => s + lieN ds ss n
theorem readsV_length (s : Int) (ds ss : List Int) : (readsV s ds ss).length = (prod ds).toNat := by simp [readsV]
/-- An entry of the k-th dimension: i rows, and j within one. -/
theorem lieN_at (ds ss : List Int) (hl : ss.length = ds.length) (k : Nat) (hk : k < ds.length) (i j : Int) (hj0 : 0 ≤ j) (hj : j < beh ds k) :
    lieN (ds.drop k) (ss.drop k) (i * beh ds k + j) = lieN (ds.drop (k + 1)) (ss.drop (k + 1)) j + i * ss[k]?.getD 0 := by
  unfold beh at *
  rw [drop_getD ds k hk, drop_getD ss k (by omega), lieN]
  have e1 : (i * prod (ds.drop (k + 1)) + j) / prod (ds.drop (k + 1)) = i := by
    rw [Int.add_comm, Int.add_mul_ediv_right _ _ (by omega), Int.ediv_eq_zero_of_lt hj0 hj]; omega
  have e2 : (i * prod (ds.drop (k + 1)) + j) % prod (ds.drop (k + 1)) = j := by
    rw [Int.add_comm, Int.add_mul_emod_self_right, Int.emod_eq_of_lt hj0 hj]
  rw [e1, e2]; omega

/-- How far entries can lie. -/
theorem dotT_bd {xs ys : List Int} {n : Nat} (hx : ∀ j, j < n → 0 ≤ xs[j]?.getD 0 ∧ xs[j]?.getD 0 ≤ 4095) (hy : ∀ j, j < n → -1099511627776 ≤ ys[j]?.getD 0 ∧ ys[j]?.getD 0 ≤ 1099511627776) : ∀ m, m ≤ n → -(4502500115742720 * m) ≤ dotT xs ys m ∧ dotT xs ys m ≤ 4502500115742720 * m
  | 0, _ => by simp [dotT]
  | m + 1, h => by
    have h1 := dotT_bd hx hy m (by omega)
    have h2 := hx m (by omega)
    have h3 := hy m (by omega)
    have a1 : xs[m]?.getD 0 * ys[m]?.getD 0 ≤ xs[m]?.getD 0 * 1099511627776 := Int.mul_le_mul_of_nonneg_left h3.2 h2.1
    have a2 : xs[m]?.getD 0 * -1099511627776 ≤ xs[m]?.getD 0 * ys[m]?.getD 0 := Int.mul_le_mul_of_nonneg_left h3.1 h2.1
    rw [dotT]; omega
theorem lieN_bd {ds ss : List Int} {n : Int} (hl : ss.length = ds.length) (h6 : ds.length ≤ 6) (hd : ∀ x ∈ ds, 1 ≤ x ∧ x ≤ 4096) (hs : ∀ x ∈ ss, -1099511627776 ≤ x ∧ x ≤ 1099511627776) (h0 : 0 ≤ n) (h1 : n < prod ds) : -27015000694456320 ≤ lieN ds ss n ∧ lieN ds ss n ≤ 27015000694456320 := by
  rw [lieN_dig ds ss n hl]
  have hb := dig_bd ds n (fun x hx => (hd x hx).1) h0 h1
  have := dotT_bd (xs := dig ds n) (ys := ss) (n := ds.length) (fun j hj => by have := hb j hj; have := hd _ (mem_getD ds j hj); omega) (fun j hj => hs _ (mem_getD ss j (by omega))) ds.length (Nat.le_refl _)
  omega
end Go.Proofs.Yteoobeldmicjhaa.V
namespace Go.Proofs.Yteoobeldmicjhaa.V
open Go.RowKit Go.Shelf
attribute [local go_sem] Oper.semAt_some

/-- The places that the first k numbers of an index are worth. -/
def placeS (xs ys : List Int) : Nat → Int
  | 0 => 0
  | k + 1 => placeS xs ys k + ys[k]?.getD 0 * beh xs k
def IdxOk (xs ys : List Int) : Prop := ∀ k, k < xs.length → 0 ≤ ys[k]?.getD 0 ∧ ys[k]?.getD 0 < xs[k]?.getD 0
def idxB (xs ys : List Int) : Bool := (List.range xs.length).all fun k => decide (0 ≤ ys[k]?.getD 0) && decide (ys[k]?.getD 0 < xs[k]?.getD 0)
theorem idxB_iff (xs ys : List Int) : idxB xs ys = true ↔ IdxOk xs ys := by simp [idxB, IdxOk]
theorem idxB_no {xs ys : List Int} (h : ¬ IdxOk xs ys) : idxB xs ys = false := by
  cases e : idxB xs ys with
  | true => exact absurd ((idxB_iff xs ys).1 e) h
  | false => rfl
def placeN (xs ys : List Int) : Int := if sizeE xs ≠ 0 then 0 else if ys.length ≠ xs.length then 0 else if idxB xs ys = true then placeS xs ys xs.length else 0
def placeE (xs ys : List Int) : Int := if sizeE xs ≠ 0 then sizeE xs else if ys.length ≠ xs.length then 6 else if idxB xs ys = true then 0 else 4

def sumK (xs ys : List Int) {n : Nat} (pre : List (Fin n)) : Int := (pre.map fun k => ys[k.1]?.getD 0 * beh xs k.1).sum
theorem sumK_snoc (xs ys : List Int) {n : Nat} (pre : List (Fin n)) (k : Fin n) : sumK xs ys (pre ++ [k]) = sumK xs ys pre + ys[k.1]?.getD 0 * beh xs k.1 := by simp [sumK]
theorem sumK_down (xs ys : List Int) (n : Nat) : ∀ d k, k + d = n → sumK xs ys (down n k) = placeS xs ys n - placeS xs ys k := by
  intro d
  induction d with
  | zero => intro k h; obtain rfl : k = n := by omega
            rw [down_all]; simp [sumK]
  | succ d ih =>
    intro k h
    rw [down_step n k (by omega), sumK_snoc, ih (k + 1) (by omega)]
    simp only [placeS]; omega
theorem sumK_all (xs ys : List Int) (n : Nat) : sumK xs ys (down n 0) = placeS xs ys n := by
  rw [sumK_down xs ys n n 0 (by omega)]; simp [placeS]
theorem sizeE_ok {xs : List Int} (h : sizeE xs = 0) : xs.length ≤ 6 ∧ (∀ x ∈ xs, 0 ≤ x ∧ x ≤ 4096) ∧ ((∀ x ∈ xs, 1 ≤ x) → prod xs ≤ 65536 ∧ sizeN xs = prod xs) ∧ ((0 : Int) ∈ xs → sizeN xs = 0) := by
  unfold sizeE at h
  by_cases c1 : 6 < xs.length
  · rw [if_pos c1] at h; omega
  rw [if_neg c1] at h
  by_cases c2 : xs.any badDim = true
  · rw [if_pos c2] at h; omega
  rw [if_neg c2] at h
  refine ⟨by omega, fun x hx => ?_, fun hg => ?_, fun h0 => ?_⟩
  · have : badDim x = false := by
      have c2' : xs.any badDim = false := by simpa using c2
      rw [List.any_eq_false] at c2'
      simpa using c2' x hx
    simp [badDim] at this; omega
  · have c3 : (0 : Int) ∉ xs := fun e => by have := hg 0 e; omega
    rw [if_neg c3] at h
    by_cases c4 : 65536 < prod xs
    · rw [if_pos c4] at h; omega
    refine ⟨by omega, ?_⟩
    unfold sizeN; rw [if_neg c1, if_neg c2, if_neg c3, if_neg c4]
  · unfold sizeN; rw [if_neg c1, if_neg c2, if_pos h0]
theorem idxOk_pos {xs ys : List Int} (h : IdxOk xs ys) : ∀ x ∈ xs, 1 ≤ x := by
  intro x hx
  obtain ⟨k, hk, rfl⟩ := List.getElem_of_mem hx
  have := h k hk
  simp [hk] at this; omega
theorem sumK_bd {xs ys : List Int} (h : IdxOk xs ys) (hb : ∀ x ∈ xs, x ≤ 4096) (hp : prod xs ≤ 65536) {n : Nat} (hn : n = xs.length) (pre : List (Fin n)) : 0 ≤ sumK xs ys pre ∧ sumK xs ys pre ≤ 268435456 * pre.length := by
  subst hn
  induction pre with
  | nil => simp [sumK]
  | cons k r ih =>
    have h1 := h k.1 k.2
    have h2 := hb _ (mem_getD xs k.1 k.2)
    have h3 := prod_drop_le xs (idxOk_pos h) (k.1 + 1)
    have h4 : 0 ≤ ys[k.1]?.getD 0 * beh xs k.1 := Int.mul_nonneg h1.1 (by unfold beh; omega)
    have h5 : ys[k.1]?.getD 0 * beh xs k.1 ≤ 4096 * 65536 := Int.mul_le_mul (by omega) (by unfold beh; omega) (by unfold beh; omega) (by omega)
    have e : sumK xs ys (k :: r) = ys[k.1]?.getD 0 * beh xs k.1 + sumK xs ys r := by simp [sumK]
    rw [e]; simp; omega

/-- The fence that shuts nothing out. -/
abbrev FW : Fence := Fence.wide

end Go.Proofs.Yteoobeldmicjhaa.V
