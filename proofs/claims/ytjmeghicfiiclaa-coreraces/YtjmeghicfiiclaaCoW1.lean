/-
  What is wrong with an instruction: core.wrongIns.
-/
import Derived.Test.YtjmeghicfiiclaaCoTch
import Derived.Test.YtjmeghicfiiclaaFactsG
namespace Go.Proofs.Ytjmeghicfiiclaa.V
open Go Go.RowKit
set_option linter.unusedVariables false

def engV (e : Bool) : Int := if e then 0 else 1
theorem has_any (e : Bool) (d : Int) (w : World) : Calls Try.prog 25 #[.int .i64 (engV e), .int .i64 d] w fun r w' => r = .returned (.bool (hasV e d)) ∧ w' = w := by
  obtain ⟨R, hR⟩ : ∃ R, R = hasV e d := ⟨_, rfl⟩
  rw [← hR]
  have HR := hide hR
  clear hR
  go_enter Try.func25, Try.ntmps25
  cases e
  · unfold engV
    simp only [if_false, Bool.false_eq_true]
    by_cases e3 : d = 3
    · have hr : R = true := by rw [HR.out]; subst e3; decide
      have q : (d == 3) = true := by simpa using e3
      clear e3
      go_wp2
      go_ret
      exact ⟨by first | rfl | (rw [hr]; rfl), rfl⟩
    by_cases e4 : d = 4
    · have hr : R = true := by rw [HR.out]; subst e4; decide
      have q : (d == 4) = true := by simpa using e4
      have r3 : (d == 3) = false := by simpa using e3
      clear e3 e4
      go_wp2
      go_ret
      exact ⟨by first | rfl | (rw [hr]; rfl), rfl⟩
    by_cases e1 : d = 1
    · have hr : R = false := by rw [HR.out]; subst e1; decide
      have q : (d == 1) = true := by simpa using e1
      have r3 : (d == 3) = false := by simpa using e3
      have r4 : (d == 4) = false := by simpa using e4
      clear e3 e4 e1
      go_wp2
      go_ret
      exact ⟨by first | rfl | (rw [hr]; rfl), rfl⟩
    by_cases e2 : d = 2
    · have hr : R = false := by rw [HR.out]; subst e2; decide
      have q : (d == 2) = true := by simpa using e2
      have r3 : (d == 3) = false := by simpa using e3
      have r4 : (d == 4) = false := by simpa using e4
      have r1 : (d == 1) = false := by simpa using e1
      clear e3 e4 e1 e2
      go_wp2
      go_ret
      exact ⟨by first | rfl | (rw [hr]; rfl), rfl⟩
    have r3 : (d == 3) = false := by simpa using e3
    have r4 : (d == 4) = false := by simpa using e4
    have r1 : (d == 1) = false := by simpa using e1
    have r2 : (d == 2) = false := by simpa using e2
    by_cases p1 : 5 ≤ d
    · by_cases p2 : d ≤ 14
      · have hr : R = true := by rw [HR.out]; simp [hasV, e3, e4, e1, e2, p1, p2]
        clear e3 e4 e1 e2
        go_wp2
        go_ret
        exact ⟨by first | rfl | (rw [hr]; rfl), rfl⟩
      · have hr : R = false := by rw [HR.out]; simp [hasV, e3, e4, e1, e2, p2]
        clear e3 e4 e1 e2
        go_wp2
        go_ret
        exact ⟨by first | rfl | (rw [hr]; rfl), rfl⟩
    · have hr : R = false := by rw [HR.out]; simp [hasV, e3, e4, e1, e2, p1]
      clear e3 e4 e1 e2
      go_wp2
      go_ret
      exact ⟨by first | rfl | (rw [hr]; rfl), rfl⟩
  · unfold engV
    simp only [if_true]
    by_cases e3 : d = 3
    · have hr : R = true := by rw [HR.out]; subst e3; decide
      have q : (d == 3) = true := by simpa using e3
      clear e3
      go_wp2
      go_ret
      exact ⟨by first | rfl | (rw [hr]; rfl), rfl⟩
    by_cases e4 : d = 4
    · have hr : R = true := by rw [HR.out]; subst e4; decide
      have q : (d == 4) = true := by simpa using e4
      have r3 : (d == 3) = false := by simpa using e3
      clear e3 e4
      go_wp2
      go_ret
      exact ⟨by first | rfl | (rw [hr]; rfl), rfl⟩
    by_cases e1 : d = 1
    · have hr : R = true := by rw [HR.out]; subst e1; decide
      have q : (d == 1) = true := by simpa using e1
      have r3 : (d == 3) = false := by simpa using e3
      have r4 : (d == 4) = false := by simpa using e4
      clear e3 e4 e1
      go_wp2
      go_ret
      exact ⟨by first | rfl | (rw [hr]; rfl), rfl⟩
    by_cases e2 : d = 2
    · have hr : R = true := by rw [HR.out]; subst e2; decide
      have q : (d == 2) = true := by simpa using e2
      have r3 : (d == 3) = false := by simpa using e3
      have r4 : (d == 4) = false := by simpa using e4
      have r1 : (d == 1) = false := by simpa using e1
      clear e3 e4 e1 e2
      go_wp2
      go_ret
      exact ⟨by first | rfl | (rw [hr]; rfl), rfl⟩
    have r3 : (d == 3) = false := by simpa using e3
    have r4 : (d == 4) = false := by simpa using e4
    have r1 : (d == 1) = false := by simpa using e1
    have r2 : (d == 2) = false := by simpa using e2
    have hr : R = false := by rw [HR.out]; simp [hasV, e3, e4, e1, e2]
    clear e3 e4 e1 e2
    go_wp2
    go_ret
    exact ⟨by first | rfl | (rw [hr]; rfl), rfl⟩
theorem far_any (n : Int) (w : World) : Calls Try.prog 26 #[.int .i64 n] w fun r w' => r = .returned (.bool (farV n)) ∧ w' = w := by
  obtain ⟨R, hR⟩ : ∃ R, R = farV n := ⟨_, rfl⟩
  rw [← hR]
  have HR := hide hR
  clear hR
  go_enter Try.func26, Try.ntmps26
  by_cases p1 : n < -1048576
  · have hr : R = true := by rw [HR.out]; simp [farV, p1]
    go_wp2
    go_ret
    exact ⟨by first | rfl | (rw [hr]; rfl), rfl⟩
  · by_cases p2 : 1048576 < n
    · have hr : R = true := by rw [HR.out]; simp [farV, p2]
      go_wp2
      go_ret
      exact ⟨by first | rfl | (rw [hr]; rfl), rfl⟩
    · have hr : R = false := by rw [HR.out]; simp [farV, p1, p2]
      go_wp2
      go_ret
      exact ⟨by first | rfl | (rw [hr]; rfl), rfl⟩
/-- Code, as a value. -/
structure CV where
  pad : Int
  mem : Int
  ma : Option Addr
  ml : Nat
  mc : Nat
  ka : Option Addr
  kl : Nat
  kc : Nat
def CV.v (c : CV) : Value := .agg #[.int .i64 c.pad, .int .i64 c.mem, .slice c.ma c.ml c.mc, .slice c.ka c.kl c.kc]
def CBlk (W : World) (g : Nat) (c : CV) : Prop := W.heap[g]? = some (.cells #[.int .i64 c.pad, .int .i64 c.mem, .slice c.ma c.ml c.mc, .slice c.ka c.kl c.kc] 24 (0, 0))
theorem CBlk.cells {W : World} {g : Nat} {c : CV} (h : CBlk W g c) : (W.cell? ⟨g, 0, none⟩ = some (.int .i64 c.pad) ∧ W.cell? ⟨g, 1, none⟩ = some (.int .i64 c.mem) ∧ W.cell? ⟨g, 2, none⟩ = some (.slice c.ma c.ml c.mc) ∧ W.cell? ⟨g, 3, none⟩ = some (.slice c.ka c.kl c.kc)) ∧ g < W.heap.size := by
  unfold CBlk at h
  refine ⟨⟨?_, ?_, ?_, ?_⟩, (Array.getElem?_eq_some_iff.1 h).1⟩ <;> simp [World.cell?, h]
theorem CBlk.below {W V : World} {g : Nat} {c : CV} (h : CBlk W g c) (hb : Below W.heap.size W V) : CBlk V g c := (hb.block g (Array.getElem?_eq_some_iff.1 h).1).trans h
theorem CBlk.new (w : World) (c : CV) : CBlk (w.alloc (.cells #[.int .i64 c.pad, .int .i64 c.mem, .slice c.ma c.ml c.mc, .slice c.ka c.kl c.kc] 24)) w.heap.size c := World.alloc_heap_new w _
theorem InBlk.new (w : World) (x : In) : InBlk (w.alloc (.cells #[.int .i64 x.d, .int .i64 x.a, .int .i64 x.b, .int .i64 x.c, .int .i64 x.n, .int .i64 x.v] 36)) w.heap.size x := World.alloc_heap_new w _
structure In.Sm (x : In) : Prop where
  n : 0 ≤ x.n ∧ x.n ≤ 4096
  a : -1048576 ≤ x.a ∧ x.a ≤ 1048576
  b : -1048576 ≤ x.b ∧ x.b ≤ 1048576
  c : -1048576 ≤ x.c ∧ x.c ≤ 1048576
theorem mul_bd {a b A B : Int} (ha : -A ≤ a ∧ a ≤ A) (hb : 0 ≤ b ∧ b ≤ B) (hA : 0 ≤ A) : -(A * B) ≤ b * a ∧ b * a ≤ A * B := by
  have h1 : b * a ≤ b * A := Int.mul_le_mul_of_nonneg_left ha.2 hb.1
  have h2 : b * (-A) ≤ b * a := Int.mul_le_mul_of_nonneg_left ha.1 hb.1
  have h3 : A * b ≤ A * B := Int.mul_le_mul_of_nonneg_left hb.2 hA
  have h4 : b * A = A * b := Int.mul_comm _ _
  have h5 : b * (-A) = -(b * A) := Int.mul_neg _ _
  omega
set_option maxRecDepth 100000 in
theorem finds_any (c : CV) (x : In) (hx : x.Sm) (w : World) : Calls Try.prog 28 #[c.v, x.v6] w fun r w' => r = .returned (.bool (findV c.mem x)) ∧ Below w.heap.size w w' := by
  have HB := hide (bl_on (bl_new (w := w) (.cells #[.int .i64 c.pad, .int .i64 c.mem, .slice c.ma c.ml c.mc, .slice c.ka c.kl c.kc] 24)) (bl_new (.cells #[.int .i64 x.d, .int .i64 x.a, .int .i64 x.b, .int .i64 x.c, .int .i64 x.n, .int .i64 x.v] 36)))
  obtain ⟨L, hL⟩ : ∃ L, L = x.b + (x.n - 1) * x.c := ⟨_, rfl⟩
  obtain ⟨R, hR⟩ : ∃ R, R = findV c.mem x := ⟨_, rfl⟩
  rw [← hR]
  have hR2 : R = if (x.d ≠ 1 ∧ x.d ≠ 2) ∨ x.n = 0 then true else decide (0 ≤ x.b) && decide (0 ≤ L) && decide (x.b < c.mem) && decide (L < c.mem) := by rw [hR, hL]; rfl
  have HR := hide hR2
  have hn := hx.n
  have w1 : IntKind.i64.wrap (x.n - 1) = x.n - 1 := by rw [IntKind.wrap_i64]; omega
  by_cases h0 : x.n = 0
  · have q0 : (x.n == 0) = true := by simpa using h0
    have hr : R = true := by rw [HR.out]; simp [h0]
    clear hL hR hR2 hx h0 hn
    unfold CV.v In.v6
    go_enter Try.func28, Try.ntmps28
    obtain ⟨d1, e1⟩ : ∃ b, (x.d != 1) = b := ⟨_, rfl⟩
    obtain ⟨d2, e2⟩ : ∃ b, (x.d != 2) = b := ⟨_, rfl⟩
    cases d1
    · go_wp2
      go_ret
      exact ⟨by first | rfl | (rw [hr]; rfl), HB.out⟩
    · cases d2
      · go_wp2
        go_ret
        exact ⟨by first | rfl | (rw [hr]; rfl), HB.out⟩
      · go_wp2
        go_ret
        exact ⟨by first | rfl | (rw [hr]; rfl), HB.out⟩
  · have q0 : (x.n == 0) = false := by simpa using h0
    have hp := mul_bd (A := 1048576) (B := 4095) hx.c (show 0 ≤ x.n - 1 ∧ x.n - 1 ≤ 4095 by omega) (by omega)
    have hb := hx.b
    obtain ⟨P, hP⟩ : ∃ P, P = (x.n - 1) * x.c := ⟨_, rfl⟩
    rw [← hP] at hp hL
    have w2 : IntKind.i64.wrap ((x.n - 1) * x.c) = P := by rw [← hP, IntKind.wrap_i64]; omega
    have w3 : IntKind.i64.wrap (x.b + P) = L := by rw [IntKind.wrap_i64]; omega
    have HN := hide h0
    clear hL hR hR2 hx h0 hn hp hb hP
    by_cases m1 : x.d = 1
    · have k1 : (x.d != 1) = false := by simp [m1]
      have HRR : Hid (R = (decide (0 ≤ x.b) && decide (0 ≤ L) && decide (x.b < c.mem) && decide (L < c.mem))) := by rw [Hid, HR.out, if_neg (by simp [m1, HN.out])]
      clear m1
      unfold CV.v In.v6
      go_enter Try.func28, Try.ntmps28
      go_wp2
      all_goals
        go_ret
        refine ⟨congrArg (fun b => Ending.returned (Value.bool b)) (?_ : _ = R), HB.out⟩
        rw [HRR.out, Bool.eq_iff_iff]
        simp only [Bool.and_eq_true, decide_eq_true_eq, Bool.false_eq_true, false_iff]
        omega
    · have k1 : (x.d != 1) = true := by simp [m1]
      by_cases m2 : x.d = 2
      · have k2 : (x.d != 2) = false := by simp [m2]
        have HRR : Hid (R = (decide (0 ≤ x.b) && decide (0 ≤ L) && decide (x.b < c.mem) && decide (L < c.mem))) := by rw [Hid, HR.out, if_neg (by simp [m2, HN.out])]
        clear m1 m2
        unfold CV.v In.v6
        go_enter Try.func28, Try.ntmps28
        go_wp2
        all_goals
          go_ret
          refine ⟨congrArg (fun b => Ending.returned (Value.bool b)) (?_ : _ = R), HB.out⟩
          rw [HRR.out, Bool.eq_iff_iff]
          simp only [Bool.and_eq_true, decide_eq_true_eq, Bool.false_eq_true, false_iff]
          omega
      · have k2 : (x.d != 2) = true := by simp [m2]
        have hr : R = true := by rw [HR.out]; simp [m1, m2]
        clear m1 m2
        unfold CV.v In.v6
        go_enter Try.func28, Try.ntmps28
        go_wp2
        go_ret
        exact ⟨by first | rfl | (rw [hr]; rfl), HB.out⟩
end Go.Proofs.Ytjmeghicfiiclaa.V
