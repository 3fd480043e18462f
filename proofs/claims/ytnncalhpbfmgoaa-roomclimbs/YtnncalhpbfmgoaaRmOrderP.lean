/-
  Contract: room.tree.order.
-/
import Derived.Test.YtnncalhpbfmgoaaRmOrder
import Derived.Laws.EntriesVeiled
namespace Go.Proofs.Ytnncalhpbfmgoaa.V
open Go.RowKit
set_option linter.unusedVariables false

/-- The order in which all is climbed. -/
def climbAll (T : Nat → List Nat) (n : Nat) : List Nat := if n = 0 then [] else climbF T n (n - 1)
theorem make0 (n : Nat) (hn : n ≤ 4096) (W : World) : (Instr.makeSlice 27 (.int .i64 0) (.int .i64 (n : Int))).run Try.prog W = .ok (.slice (some ⟨W.heap.size, 0, none⟩) 0 n) (W.alloc (.cells (madeCells #[.int .i64 0] n) 3)) := by
  obtain ⟨i0, hi, hz0, hz1, hz2⟩ := info_parts info_int
  have hr := run_make (P := Try.prog) W 27 3 i0 (.int .i64 0) Try.underlying27 hi hz0 .i64 .i64 0 n (by omega) (by omega) (by rw [hz2]; omega) (by omega)
  simp only [Int.toNat_natCast, hz1, Nat.mul_one] at hr
  exact hr
theorem ord_start (w : World) (L n : Nat) (b : Option Addr) (cap' : Nat) (hn : n ≤ 4096) :
    OrdSt w L n b cap' (.slice (some ⟨w.heap.size + 1, 0, none⟩) 0 n) [] (((((w.alloc (.cells #[.slice (some ⟨L, 0, none⟩) n n, .slice b n cap'] 57)).alloc (.cells (madeCells #[.int .i64 0] n) 3)).alloc (.cells #[.slice (some ⟨w.heap.size + 1, 0, none⟩) 0 n] 27)).alloc (.cells #[climbV w.heap.size] 51))) := by
  obtain ⟨W1, h1⟩ : ∃ W1, W1 = w.alloc (.cells #[.slice (some ⟨L, 0, none⟩) n n, .slice b n cap'] 57) := ⟨_, rfl⟩
  have z1 : W1.heap.size = w.heap.size + 1 := by rw [h1]; simp
  have a1 : W1.heap[w.heap.size]? = some (.cells #[.slice (some ⟨L, 0, none⟩) n n, .slice b n cap'] 57 (0, 0)) := by rw [h1]; exact World.alloc_heap_new _ _
  have b1 : Below w.heap.size w W1 := by rw [h1]; exact bl_new _
  rw [← h1]
  obtain ⟨W2, h2⟩ : ∃ W2, W2 = W1.alloc (.cells (madeCells #[.int .i64 0] n) 3) := ⟨_, rfl⟩
  have z2 : W2.heap.size = w.heap.size + 2 := by rw [h2]; simp [z1]
  have b2 : Below W1.heap.size W1 W2 := by rw [h2]; exact bl_new _
  have a2 : W2.heap[w.heap.size + 1]? = some (.cells (madeCells #[.int .i64 0] n) 3 (0, 0)) := by rw [h2, ← z1]; exact World.alloc_heap_new _ _
  rw [← h2]
  obtain ⟨W3, h3⟩ : ∃ W3, W3 = W2.alloc (.cells #[.slice (some ⟨w.heap.size + 1, 0, none⟩) 0 n] 27) := ⟨_, rfl⟩
  have z3 : W3.heap.size = w.heap.size + 3 := by rw [h3]; simp [z2]
  have b3 : Below W2.heap.size W2 W3 := by rw [h3]; exact bl_new _
  have a3 : W3.heap[w.heap.size + 2]? = some (.cells #[.slice (some ⟨w.heap.size + 1, 0, none⟩) 0 n] 27 (0, 0)) := by rw [h3, ← z2]; exact World.alloc_heap_new _ _
  rw [← h3]
  have b4 := bl_new (w := W3) (.cells #[climbV w.heap.size] 51)
  have a4 := World.alloc_heap_new W3 (.cells #[climbV w.heap.size] 51)
  rw [z3] at a4
  refine ⟨bl_on (bl_on (bl_on b1 b2) b3) b4, ?_, ?_, a4, ?_⟩
  · exact (b4.block _ (by omega)).trans ((b3.block _ (by omega)).trans ((b2.block _ (by omega)).trans a1))
  · exact (b4.block _ (by omega)).trans a3
  · refine ⟨rfl, .inr ⟨w.heap.size + 1, n, _, rfl, by omega, (b4.block _ (by omega)).trans ((b3.block _ (by omega)).trans a2), Nat.zero_le _, by unfold maxLen; omega, by rw [size_madeCells]; simp, by simp⟩⟩
set_option maxHeartbeats 8000000 in
theorem order_any (B L n : Nat) (v : Nat → Value) (T : Nat → List Nat) (b : Option Addr) (cap' : Nat) (w : World) (hB : Bel w B L n v T) (hn4 : n ≤ 4096) (hT : ∀ s, s < n → ∀ q ∈ T s, q < s) (hTl : ∀ s, s < n → (T s).length ≤ 4096) (hle : (climbAll T n).length ≤ 65536) :
    Calls Try.prog 34 #[.agg #[.slice (some ⟨L, 0, none⟩) n n, .slice b n cap']] w fun e w' => (∃ u, e = .returned u ∧ OwnN w' w.heap.size u (climbAll T n)) ∧ Below w.heap.size w w' := by
  have HC := hide (climb_any B L n v T b cap' w hB hn4 hT hTl)
  have hmk := make0 n hn4
  have HST := hide (ord_start w L n b cap' hn4)
  clear hB hT hTl
  have HLE := hide hle
  clear hle
  by_cases h0 : n = 0
  · have HN0 := hide h0
    have hz : ¬ (0 : Int) < (n : Int) := by omega
    clear h0
    go_enter Try.func34, Try.ntmps34
    go_wp2
    go_ret
    exact ⟨⟨_, rfl, by rw [climbAll, if_pos HN0.out]; exact HST.out.row⟩, HST.out.bel⟩
  · have hz : (0 : Int) < (n : Int) := by omega
    have hw1 : IntKind.i64.wrap ((n : Int) - 1) = (n : Int) - 1 := by rw [IntKind.wrap_i64]; omega
    have HCAST : Hid ((n : Int) - 1 = ((n - 1 : Nat) : Int)) := by rw [Hid]; omega
    have HLE2 : Hid (([] : List Nat).length + (climbF T n (n - 1)).length ≤ 65536) := by have h := HLE.out; rw [climbAll, if_neg h0] at h; simpa [Hid] using h
    go_enter Try.func34, Try.ntmps34
    go_wp2_with (go_at_call 50; rw [HCAST.out]; refine (HC.out n (n - 1) _ [] _ (by omega) (by omega) HST.out HLE2.out).mono ?_; rintro e w1 ⟨rfl, u1, hs1⟩; have v1 := (pk_cell hs1.cell).1; have v5 := (pk_cell hs1.cell).2; have HS1 := hide hs1; clear hs1)
    go_ret
    exact ⟨⟨_, rfl, by rw [climbAll, if_neg h0]; exact HS1.out.row⟩, HS1.out.bel⟩
end Go.Proofs.Ytnncalhpbfmgoaa.V
