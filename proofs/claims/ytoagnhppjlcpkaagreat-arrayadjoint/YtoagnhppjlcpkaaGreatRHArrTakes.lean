/-
  Contracts: array.takes, adjointref2.Right.
-/
import Derived.Test.YtoagnhppjlcpkaaGreatRGSize
namespace Go.Proofs.YtoagnhppjlcpkaaGreat.V
set_option maxRecDepth 20000
open Go.RowKit

/-- What is wrong with a kind, and with so many arguments of it. -/
def takesE (k : Int) (n : Nat) : Int :=
  if k = 2 then (if n = 0 then 0 else 2)
  else if 9 ≤ k ∧ k ≤ 15 then (if n = 1 then 0 else 2)
  else if (3 ≤ k ∧ k ≤ 7) ∨ k = 16 ∨ k = 18 ∨ k = 19 then (if n = 2 then 0 else 2)
  else if k = 8 then (if n = 3 then 0 else 2)
  else if k = 17 then (if n = 0 then 2 else 0)
  else 1

theorem takes_no {k : Int} (n : Nat) (h : ¬ (2 ≤ k ∧ k ≤ 19)) : takesE k n = 1 := by
  unfold takesE
  rw [if_neg (by omega), if_neg (by omega), if_neg (by omega), if_neg (by omega), if_neg (by omega)]

set_option maxHeartbeats 4000000 in
theorem takes_any (k : Int) (n : Nat) (w : World) :
    Calls Tryz.prog 15 #[.int .i64 k, .int .i64 n] w fun e w' => e = .returned (.int .i64 (takesE k n)) ∧ w' = w := by
  by_cases hk : 2 ≤ k ∧ k ≤ 19
  · have hc : k = 2 ∨ k = 3 ∨ k = 4 ∨ k = 5 ∨ k = 6 ∨ k = 7 ∨ k = 8 ∨ k = 9 ∨ k = 10 ∨ k = 11 ∨ k = 12 ∨ k = 13 ∨ k = 14 ∨ k = 15 ∨ k = 16 ∨ k = 18 ∨ k = 19 ∨ k = 17 := by omega
    clear hk
    rcases hc with rfl | rfl | rfl | rfl | rfl | rfl | rfl | rfl | rfl | rfl | rfl | rfl | rfl | rfl | rfl | rfl | rfl | rfl
    all_goals go_enter Tryz.func15, Tryz.ntmps15
    all_goals go_wp2
    all_goals go_ret
    all_goals refine ⟨?_, rfl⟩
    all_goals (rename_i q; first | rw [bne_iff_ne] at q | rw [bne_eq_false_iff_eq] at q)
    all_goals simp [takesE]
    all_goals omega
  · rw [takes_no n hk]
    have q2 : (k == 2) = false := by simp; omega
    have q3 : (k == 3) = false := by simp; omega
    have q4 : (k == 4) = false := by simp; omega
    have q5 : (k == 5) = false := by simp; omega
    have q6 : (k == 6) = false := by simp; omega
    have q7 : (k == 7) = false := by simp; omega
    have q8 : (k == 8) = false := by simp; omega
    have q9 : (k == 9) = false := by simp; omega
    have q10 : (k == 10) = false := by simp; omega
    have q11 : (k == 11) = false := by simp; omega
    have q12 : (k == 12) = false := by simp; omega
    have q13 : (k == 13) = false := by simp; omega
    have q14 : (k == 14) = false := by simp; omega
    have q15 : (k == 15) = false := by simp; omega
    have q16 : (k == 16) = false := by simp; omega
    have q17 : (k == 17) = false := by simp; omega
    have q18 : (k == 18) = false := by simp; omega
    have q19 : (k == 19) = false := by simp; omega
    clear hk
    go_enter Tryz.func15, Tryz.ntmps15
    go_wp2
    go_ret
    exact ⟨rfl, rfl⟩

/-- A block that holds an Op. -/
def OpAt (w : World) (b : Nat) (k : Int) (vd va vl vh vs : Value) (x : Int) : Prop := w.heap[b]? = some (.cells #[.int .i64 k, vd, va, vl, vh, vs, .int .i64 x] 24 (0, 0))
theorem OpAt.lt {w : World} {b : Nat} {k : Int} {vd va vl vh vs : Value} {x : Int} (h : OpAt w b k vd va vl vh vs x) : b < w.heap.size := (Array.getElem?_eq_some_iff.1 h).1
theorem OpAt.below {w w' : World} {b : Nat} {k : Int} {vd va vl vh vs : Value} {x : Int} (h : OpAt w b k vd va vl vh vs x) (hb : Below w.heap.size w w') : OpAt w' b k vd va vl vh vs x := (hb.block b h.lt).trans h
theorem OpAt.alloc {w : World} {b : Nat} {k : Int} {vd va vl vh vs : Value} {x : Int} (h : OpAt w b k vd va vl vh vs x) (o : Obj) : OpAt (w.alloc o) b k vd va vl vh vs x := (Below.heap_alloc _ _ _ h.lt).trans h
theorem OpAt.set {w : World} {b : Nat} {k : Int} {vd va vl vh vs : Value} {x : Int} (h : OpAt w b k vd va vl vh vs x) {p : Addr} (hne : b ≠ p.block) (u : Value) : OpAt (w.setCell p u) b k vd va vl vh vs x := (Below.heap_setCell _ _ _ _ hne).trans h
theorem OpAt.cells {w : World} {b : Nat} {k : Int} {vd va vl vh vs : Value} {x : Int} (h : OpAt w b k vd va vl vh vs x) : w.cell? ⟨b, 0, none⟩ = some (.int .i64 k) ∧ w.cell? ⟨b, 1, none⟩ = some vd ∧ w.cell? ⟨b, 2, none⟩ = some va ∧ w.cell? ⟨b, 3, none⟩ = some vl ∧ w.cell? ⟨b, 4, none⟩ = some vh ∧ w.cell? ⟨b, 5, none⟩ = some vs ∧ w.cell? ⟨b, 6, none⟩ = some (.int .i64 x) := by
  unfold OpAt at h
  refine ⟨?_, ?_, ?_, ?_, ?_, ?_, ?_⟩ <;> simp [World.cell?, h]
theorem OpAt.new (w : World) (k : Int) (vd va vl vh vs : Value) (x : Int) : OpAt (w.alloc (.cells #[.int .i64 k, vd, va, vl, vh, vs, .int .i64 x] 24)) w.heap.size k vd va vl vh vs x := World.alloc_heap_new w _

set_option maxHeartbeats 4000000 in
theorem right_any (k : Int) (vd va vl vh vs : Value) (x : Int) (n : Nat) (w : World) :
    Calls Tryz.prog 20 #[.agg #[.int .i64 k, vd, va, vl, vh, vs, .int .i64 x], .int .i64 n] w fun e w' => e = .returned (.int .i64 (takesE k n)) ∧ Below w.heap.size w w' := by
  have HB := hide ((Below.refl w.heap.size w).alloc (Nat.le_refl _) (.cells #[.int .i64 k, vd, va, vl, vh, vs, .int .i64 x] 24))
  by_cases hk : 2 ≤ k ∧ k ≤ 19
  · have hc : k = 2 ∨ k = 3 ∨ k = 4 ∨ k = 5 ∨ k = 6 ∨ k = 7 ∨ k = 8 ∨ k = 9 ∨ k = 10 ∨ k = 11 ∨ k = 12 ∨ k = 13 ∨ k = 14 ∨ k = 15 ∨ k = 16 ∨ k = 18 ∨ k = 19 ∨ k = 17 := by omega
    clear hk
    rcases hc with rfl | rfl | rfl | rfl | rfl | rfl | rfl | rfl | rfl | rfl | rfl | rfl | rfl | rfl | rfl | rfl | rfl | rfl
    all_goals go_enter Tryz.func20, Tryz.ntmps20
    all_goals go_wp2
    all_goals go_ret
    all_goals refine ⟨?_, HB.out⟩
    all_goals (rename_i q; first | rw [bne_iff_ne] at q | rw [bne_eq_false_iff_eq] at q | rw [beq_iff_eq] at q | rw [beq_eq_false_iff_ne] at q)
    all_goals simp [takesE]
    all_goals omega
  · rw [takes_no n hk]
    have q2 : (k == 2) = false := by simp; omega
    have q3 : (k == 3) = false := by simp; omega
    have q4 : (k == 4) = false := by simp; omega
    have q5 : (k == 5) = false := by simp; omega
    have q6 : (k == 6) = false := by simp; omega
    have q7 : (k == 7) = false := by simp; omega
    have q8 : (k == 8) = false := by simp; omega
    have q9 : (k == 9) = false := by simp; omega
    have q10 : (k == 10) = false := by simp; omega
    have q11 : (k == 11) = false := by simp; omega
    have q12 : (k == 12) = false := by simp; omega
    have q13 : (k == 13) = false := by simp; omega
    have q14 : (k == 14) = false := by simp; omega
    have q15 : (k == 15) = false := by simp; omega
    have q16 : (k == 16) = false := by simp; omega
    have q17 : (k == 17) = false := by simp; omega
    have q18 : (k == 18) = false := by simp; omega
    have q19 : (k == 19) = false := by simp; omega
    clear hk
    go_enter Tryz.func20, Tryz.ntmps20
    go_wp2
    go_ret
    exact ⟨rfl, HB.out⟩
end Go.Proofs.YtoagnhppjlcpkaaGreat.V
