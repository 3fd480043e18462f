/-
  Contracts: view.lastFirst and its closure: the numbers of the dimensions, from the last one on, each with the product of those behind it.
-/
import Derived.RangeFuncNested
import Derived.RangeFuncBound
import Derived.RangeFuncCalls
import Derived.RangeFuncLeaves
import Derived.RangeFuncBox
import Derived.Shelf.Abstract
import Derived.Shelf.RegionOpen
import Derived.WalkKit
import Derived.OwnWalkIn
import Derived.TacticsInMore
import Derived.LoopNIn
import Derived.LoopIn
import Derived.Test.YtoidgdbgpbcebaaK2
namespace Go.Proofs.Ytoidgdbgpbcebaa.V
open Go.RowKit Go.Shelf
attribute [local go_sem] Oper.semAt_some

/-- What lies behind a dimension: the product of those that follow it. -/
def beh (xs : List Int) (k : Nat) : Int := prod (xs.drop (k + 1))
/-- The numbers n - 1, .., k: what has come when those from k on are through. -/
def down (n k : Nat) : List (Fin n) := ((List.finRange n).drop k).reverse
theorem down_all (n : Nat) : down n n = [] := by simp [down]
theorem down_step (n k : Nat) (h : k < n) : down n k = down n (k + 1) ++ [⟨k, h⟩] := by
  unfold down
  rw [List.drop_eq_getElem_cons (by simpa using h)]
  simp
theorem down_length (n k : Nat) : (down n k).length = n - k := by simp [down]
theorem drop_getD (xs : List Int) (k : Nat) (h : k < xs.length) : xs.drop k = xs[k]?.getD 0 :: xs.drop (k + 1) := by
  rw [List.drop_eq_getElem_cons h]; simp [h]
theorem prod_drop (xs : List Int) (k : Nat) (h : k < xs.length) : prod (xs.drop k) = xs[k]?.getD 0 * prod (xs.drop (k + 1)) := by
  rw [drop_getD xs k h]; rfl
theorem prod_drop_le (xs : List Int) (h : ∀ x ∈ xs, 1 ≤ x) (k : Nat) : 1 ≤ prod (xs.drop k) ∧ prod (xs.drop k) ≤ prod xs := by
  have e : prod xs = prod (xs.take k) * prod (xs.drop k) := by rw [← prod_append, List.take_append_drop]
  have h1 := prod_pos (xs.take k) (fun y hy => h y (List.mem_of_mem_take hy))
  have h2 := prod_pos (xs.drop k) (fun y hy => h y (List.mem_of_mem_drop hy))
  refine ⟨h2, ?_⟩
  rw [e]
  have := Int.mul_le_mul_of_nonneg_right h1 (show 0 ≤ prod (xs.drop k) by omega)
  simpa using this

/-- What the closure hands to a round. -/
def enc2 (xs : List Int) (n : Nat) (k : Fin n) : Array Value := #[Value.int .i64 (k.1 : Int), Value.int .i64 (beh xs k.1)]

/-- What a round keeps: all below n₀, and block Bs. -/
def Keep (n₀ Bs : Nat) (W W' : World) : Prop := Below n₀ W W' ∧ W'.heap[Bs]? = W.heap[Bs]?
theorem Keep.refl (n₀ Bs : Nat) (W : World) : Keep n₀ Bs W W := ⟨Below.refl _ _, rfl⟩
theorem Keep.trans {n₀ Bs : Nat} {A B C : World} (h : Keep n₀ Bs A B) (k : Keep n₀ Bs B C) : Keep n₀ Bs A C := ⟨h.1.trans k.1, k.2.trans h.2⟩
theorem keep_b {n₀ Bs : Nat} {w : World} (h1 : n₀ ≤ w.heap.size) (h2 : Bs < w.heap.size) (W : World) (l : Nat) (o o' : Obj) (hl : w.heap.size ≤ l) (ho : W.heap[l]? = some o) (hc : o.isCells = false) (hw : o.isWalk = false) : Keep n₀ Bs W (W.putObj l o') :=
  ⟨belowK_b h1 W l o o' hl ho hc hw, World.putObj_heap_other (by omega)⟩
theorem Keep.boxed {n₀ Bs : Nat} {W W' : World} {t : TypeId} {v : Value} (h : Keep n₀ Bs W W') (hb : Boxed W Bs t v) : Boxed W' Bs t v := h.2.trans hb
theorem Keep.setCell {n₀ Bs : Nat} {A W : World} (h : Keep n₀ Bs A W) {p : Addr} (hp : n₀ ≤ p.block) (hne : Bs ≠ p.block) (u : Value) : Keep n₀ Bs A (W.setCell p u) := ⟨h.1.setCell hp u, (Below.heap_setCell _ _ _ _ hne).trans h.2⟩
theorem Keep.drewN {n₀ Bs : Nat} {A W : World} (h : Keep n₀ Bs A W) : Keep n₀ Bs A W.drew := ⟨h.1.drew, h.2⟩
theorem Keep.alloc {n₀ Bs : Nat} {A W : World} (h : Keep n₀ Bs A W) (hn : n₀ ≤ W.heap.size) (hb : Bs < W.heap.size) (o : Obj) : Keep n₀ Bs A (W.alloc o) := ⟨h.1.alloc hn o, (Below.heap_alloc _ _ _ hb).trans h.2⟩

set_option maxRecDepth 100000 in
set_option maxHeartbeats 2000000 in
theorem lastFirst1_in (F : Fence) (n : Nat) (hf : F.fn 116) (hro : F.round = none) (hn : 1 ≤ n) (l Bs n₀ len cap : Nat) (a : Option Addr) (xs : List Int) (hl : xs.length = len) (hlen : len ≤ 6)
    (hg : ∀ x ∈ xs, 1 ≤ x) (hp : prod xs ≤ 65536) (J Jx : List (Fin len) → World → Prop)
    (hY : ∀ pre x W, J pre W → pre.length < len → YieldAt F (n - 1) Try.prog l (enc2 xs len x) W fun e W' =>
      (e = .returned (.bool true) ∧ J (pre ++ [x]) W' ∧ Keep n₀ Bs W W') ∨ (e = .returned (.bool false) ∧ Jx (pre ++ [x]) W'))
    (W : World) (hBs : Boxed W Bs 22 (.slice a len cap)) (hc : len = 0 ∨ ∃ b off, a = some ⟨b, off, none⟩ ∧ b < n₀ ∧ ∀ j, j < len → W.cell? ⟨b, off + j, none⟩ = some (.int .i64 (xs[j]?.getD 0))) (h0 : J [] W) :
    CallsIn F n Try.prog 116 #[.func (.yield l) #[] #[], .pointer (some ⟨Bs, 0, none⟩)] W fun e W' => (∃ v, e = .returned v) ∧
      ((∃ ys, ys = down len 0 ∧ J ys W') ∨ (∃ pre, (∃ k, k ≤ len ∧ pre = down len k) ∧ Jx pre W')) := by
  have HL := hide hl
  have HG := hide hg
  have HC := hide hc
  clear hl hg hc
  have hBc := hBs.cell
  have HBS := hide hBs
  clear hBs
  refine callsIn_of_wp Try.func116 rfl hf ?_ hro
  simp only [Try.ntmps116, List.size_toArray, List.length_cons, List.length_nil, Nat.reduceAdd, Nat.reduceSub, Array.replicate_succ, Array.replicate_zero, List.push_toArray, List.append_toArray, List.nil_append, List.cons_append]
  gi_wp2
  gi_loopw [3, 4] (fun s i wr => ∃ (k : Nat) (m : Int), k ≤ len ∧ m + 1 = k ∧ i = .int .i64 m ∧ s = .int .i64 (prod (xs.drop k)) ∧ J (down len k) wr ∧ Keep n₀ Bs W wr)
    (fun _ i _ => (intOf i + 1).toNat)
  case atStart => exact ⟨len, len - 1, Nat.le_refl _, by omega, rfl, by rw [List.drop_eq_nil_of_le (by rw [HL.out]; omega)]; rfl, by rw [down_all]; exact h0, Keep.refl _ _ _⟩
  case round =>
    obtain ⟨k, m, hk, hm, rfl, rfl, hJs, hnx⟩ := hrel
    have hpk := prod_drop_le xs HG.out k
    by_cases hlt : 0 < k
    · obtain ⟨k', rfl⟩ : ∃ k', k = k' + 1 := ⟨k - 1, by omega⟩
      obtain rfl : m = (k' : Int) := by omega
      have hk' : k' < len := by omega
      have HKL : Hid (k' < xs.length) := by rw [Hid, HL.out]; exact hk'
      obtain ⟨b, off, rfl, hb, hcc⟩ := HC.out.resolve_left (by omega)
      have hBw : wr.cell? ⟨Bs, 0, none⟩ = some (.slice (some ⟨b, off, none⟩) len cap) := (hnx.boxed HBS.out).cell
      have hd := HG.out _ (mem_getD xs k' HKL.out)
      have HP : Hid (prod (xs.drop k') = xs[k']?.getD 0 * prod (xs.drop (k' + 1))) := prod_drop xs k' HKL.out
      have hq := prod_drop_le xs HG.out k'
      have hq' : prod (xs.drop (k' + 1)) * xs[k']?.getD 0 ≤ 65536 := by rw [Int.mul_comm, ← HP.out]; omega
      have hq1 : 1 ≤ prod (xs.drop (k' + 1)) * xs[k']?.getD 0 := by rw [Int.mul_comm, ← HP.out]; omega
      obtain ⟨fn, tmps, assign, body, hy, hR⟩ := hY (down len (k' + 1)) ⟨k', hk'⟩ wr hJs (by rw [down_length]; omega)
      simp only [enc2, beh] at hy
      have HJ : Hid (down len k' = down len (k' + 1) ++ [⟨k', hk'⟩]) := down_step len k' hk'
      clear hJs hm hq hY
      gi_wp2
      refine hR.mono ?_
      rintro e W3 (⟨rfl, hJ3, hk3⟩ | ⟨rfl, hJx3⟩)
      · have hB3 : W3.cell? ⟨Bs, 0, none⟩ = some (.slice (some ⟨b, off, none⟩) len cap) := ((hnx.trans hk3).boxed HBS.out).cell
        have hc3 : W3.cell? ⟨b, off + k', none⟩ = some (.int .i64 (xs[k']?.getD 0)) := ((hnx.trans hk3).1.cell (p := ⟨b, off + k', none⟩) hb).trans (hcc k' hk')
        clear hR hy hcc
        gi_wp2
        go_roundw
        case rel => exact ⟨k', (k' : Int) - 1, by omega, by omega, by go_num, by rw [HP.out, Int.mul_comm], by rw [HJ.out]; exact hJ3, hnx.trans hk3⟩
        case measure => simp [intOf]
      · clear hR hy hcc
        gi_wp2
        refine bodyPost_ret (results_none rfl _ _ _) rfl ?_
        exact ⟨⟨_, rfl⟩, .inr ⟨_, ⟨k', by omega, HJ.out.symm⟩, hJx3⟩⟩
    · obtain rfl : k = 0 := by omega
      obtain rfl : m = -1 := by omega
      gi_wp2
      go_end0
      exact ⟨⟨_, rfl⟩, .inl ⟨_, rfl, hJs⟩⟩

set_option maxHeartbeats 1000000 in
theorem lastFirst_in (F : Fence) (n : Nat) (hf : F.fn 110) (hro : F.round = none) (a : Option Addr) (len cap : Nat) (w : World) :
    CallsIn F n Try.prog 110 #[.slice a len cap] w fun e w' => e = .returned (.func (.func 116) #[] #[.pointer (some ⟨w.heap.size, 0, none⟩)]) ∧ w' = w.alloc (.cells #[.slice a len cap] 22) := by
  refine callsIn_of_wp Try.func110 rfl hf ?_ hro
  simp only [Try.ntmps110, List.size_toArray, List.length_cons, List.length_nil, Nat.reduceAdd, Nat.reduceSub, Array.replicate_succ, Array.replicate_zero, List.push_toArray, List.append_toArray, List.nil_append, List.cons_append]
  gi_wp2
  go_ret
  exact ⟨rfl, rfl⟩

/-- Whatever a loop's body does to memory from n₀ on. -/
theorem lastFirst_stops (F : Fence) (n : Nat) (hf : F.fn 116) (hro : F.round = none) (hn : 1 ≤ n) (Bs n₀ len cap : Nat) (a : Option Addr) (xs : List Int) (hl : xs.length = len) (hlen : len ≤ 6)
    (hg : ∀ x ∈ xs, 1 ≤ x) (hp : prod xs ≤ 65536) (w : World) (hn₀ : n₀ ≤ w.heap.size) (hc : Boxed w Bs 22 (.slice a len cap))
    (hI : len = 0 ∨ ∃ b off, a = some ⟨b, off, none⟩ ∧ b < n₀ ∧ ∀ j, j < len → w.cell? ⟨b, off + j, none⟩ = some (.int .i64 (xs[j]?.getD 0))) :
    SeqStopsK F n Try.prog 116 #[.pointer (some ⟨Bs, 0, none⟩)] (enc2 xs len) (Keep n₀ Bs) (fun ys => ys = down len 0) (fun pre => ∃ k, k ≤ len ∧ pre = down len k) len w := fun l J Jx W hW _ _ hY h0 => by
  refine lastFirst1_in F n hf hro hn l Bs n₀ len cap a xs hl hlen hg hp J Jx hY W ((hW.block Bs hc.lt).trans hc) ?_ h0
  rcases hI with h | ⟨b, off, ha, hb, hcc⟩
  · exact .inl h
  · exact .inr ⟨b, off, ha, hb, fun j hj => (hW.cell (p := ⟨b, off + j, none⟩) (by simp; omega)).trans (hcc j hj)⟩
end Go.Proofs.Ytoidgdbgpbcebaa.V
