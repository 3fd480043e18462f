/-
  What is wrong with an instruction: core.wrongIns. What is wrong with an instruction: core.wrongIns.
-/
import Derived.Test.YtoabffmiedbkkaaGreatRJ5
import Derived.Test.YtoabffmiedbkkaaGreatRJ10
namespace Go.Proofs.YtoabffmiedbkkaaGreat.V
set_option maxRecDepth 20000
open Go Go.RowKit
set_option linter.unusedVariables false

def engV (e : Bool) : Int := if e then 0 else 1
theorem hasI_any (e : Bool) (d : Int) (w : World) : Calls Tryz.prog 28 #[.int .i64 (engV e), .int .i64 d] w fun r w' => r = .returned (.bool (hasV e d)) ∧ w' = w := by
  obtain ⟨R, hR⟩ : ∃ R, R = hasV e d := ⟨_, rfl⟩
  rw [← hR]
  have HR := hide hR
  clear hR
  go_enter Tryz.func28, Tryz.ntmps28
  cases e
  · unfold engV
    simp only [if_false, Bool.false_eq_true]
    by_cases e3 : d = 3
    · have hr : R = true := by rw [HR.out]; subst e3; decide
      have q : (d == 3) = true := by simpa using e3
      clear e3
      go_wp2
      go_ret
      exact ⟨by first | rfl | (rw [hr]; rfl), rfl⟩
    by_cases e4 : d = 4
    · have hr : R = true := by rw [HR.out]; subst e4; decide
      have q : (d == 4) = true := by simpa using e4
      have r3 : (d == 3) = false := by simpa using e3
      clear e3 e4
      go_wp2
      go_ret
      exact ⟨by first | rfl | (rw [hr]; rfl), rfl⟩
    by_cases e1 : d = 1
    · have hr : R = false := by rw [HR.out]; subst e1; decide
      have q : (d == 1) = true := by simpa using e1
      have r3 : (d == 3) = false := by simpa using e3
      have r4 : (d == 4) = false := by simpa using e4
      clear e3 e4 e1
      go_wp2
      go_ret
      exact ⟨by first | rfl | (rw [hr]; rfl), rfl⟩
    by_cases e2 : d = 2
    · have hr : R = false := by rw [HR.out]; subst e2; decide
      have q : (d == 2) = true := by simpa using e2
      have r3 : (d == 3) = false := by simpa using e3
      have r4 : (d == 4) = false := by simpa using e4
      have r1 : (d == 1) = false := by simpa using e1
      clear e3 e4 e1 e2
      go_wp2
      go_ret
      exact ⟨by first | rfl | (rw [hr]; rfl), rfl⟩
    have r3 : (d == 3) = false := by simpa using e3
    have r4 : (d == 4) = false := by simpa using e4
    have r1 : (d == 1) = false := by simpa using e1
    have r2 : (d == 2) = false := by simpa using e2
    by_cases p1 : 5 ≤ d
    · by_cases p2 : d ≤ 14
      · have hr : R = true := by rw [HR.out]; simp [hasV, e3, e4, e1, e2, p1, p2]
        clear e3 e4 e1 e2
        go_wp2
        go_ret
        exact ⟨by first | rfl | (rw [hr]; rfl), rfl⟩
      · have hr : R = false := by rw [HR.out]; simp [hasV, e3, e4, e1, e2, p2]
        clear e3 e4 e1 e2
        go_wp2
        go_ret
        exact ⟨by first | rfl | (rw [hr]; rfl), rfl⟩
    · have hr : R = false := by rw [HR.out]; simp [hasV, e3, e4, e1, e2, p1]
      clear e3 e4 e1 e2
      go_wp2
      go_ret
      exact ⟨by first | rfl | (rw [hr]; rfl), rfl⟩
  · unfold engV
    simp only [if_true]
    by_cases e3 : d = 3
    · have hr : R = true := by rw [HR.out]; subst e3; decide
      have q : (d == 3) = true := by simpa using e3
      clear e3
      go_wp2
      go_ret
      exact ⟨by first | rfl | (rw [hr]; rfl), rfl⟩
    by_cases e4 : d = 4
    · have hr : R = true := by rw [HR.out]; subst e4; decide
      have q : (d == 4) = true := by simpa using e4
      have r3 : (d == 3) = false := by simpa using e3
      clear e3 e4
      go_wp2
      go_ret
      exact ⟨by first | rfl | (rw [hr]; rfl), rfl⟩
    by_cases e1 : d = 1
    · have hr : R = true := by rw [HR.out]; subst e1; decide
      have q : (d == 1) = true := by simpa using e1
      have r3 : (d == 3) = false := by simpa using e3
      have r4 : (d == 4) = false := by simpa using e4
      clear e3 e4 e1
      go_wp2
      go_ret
      exact ⟨by first | rfl | (rw [hr]; rfl), rfl⟩
    by_cases e2 : d = 2
    · have hr : R = true := by rw [HR.out]; subst e2; decide
      have q : (d == 2) = true := by simpa using e2
      have r3 : (d == 3) = false := by simpa using e3
      have r4 : (d == 4) = false := by simpa using e4
      have r1 : (d == 1) = false := by simpa using e1
      clear e3 e4 e1 e2
      go_wp2
      go_ret
      exact ⟨by first | rfl | (rw [hr]; rfl), rfl⟩
    have r3 : (d == 3) = false := by simpa using e3
    have r4 : (d == 4) = false := by simpa using e4
    have r1 : (d == 1) = false := by simpa using e1
    have r2 : (d == 2) = false := by simpa using e2
    have hr : R = false := by rw [HR.out]; simp [hasV, e3, e4, e1, e2]
    clear e3 e4 e1 e2
    go_wp2
    go_ret
    exact ⟨by first | rfl | (rw [hr]; rfl), rfl⟩
theorem far_any (n : Int) (w : World) : Calls Tryz.prog 29 #[.int .i64 n] w fun r w' => r = .returned (.bool (farV n)) ∧ w' = w := by
  obtain ⟨R, hR⟩ : ∃ R, R = farV n := ⟨_, rfl⟩
  rw [← hR]
  have HR := hide hR
  clear hR
  go_enter Tryz.func29, Tryz.ntmps29
  by_cases p1 : n < -1048576
  · have hr : R = true := by rw [HR.out]; simp [farV, p1]
    go_wp2
    go_ret
    exact ⟨by first | rfl | (rw [hr]; rfl), rfl⟩
  · by_cases p2 : 1048576 < n
    · have hr : R = true := by rw [HR.out]; simp [farV, p2]
      go_wp2
      go_ret
      exact ⟨by first | rfl | (rw [hr]; rfl), rfl⟩
    · have hr : R = false := by rw [HR.out]; simp [farV, p1, p2]
      go_wp2
      go_ret
      exact ⟨by first | rfl | (rw [hr]; rfl), rfl⟩
/-- Code, as a value. -/
structure CV where
  pad : Int
  mem : Int
  ma : Option Addr
  ml : Nat
  mc : Nat
  ka : Option Addr
  kl : Nat
  kc : Nat
def CV.v (c : CV) : Value := .agg #[.int .i64 c.pad, .int .i64 c.mem, .slice c.ma c.ml c.mc, .slice c.ka c.kl c.kc]
def CBlk (W : World) (g : Nat) (c : CV) : Prop := W.heap[g]? = some (.cells #[.int .i64 c.pad, .int .i64 c.mem, .slice c.ma c.ml c.mc, .slice c.ka c.kl c.kc] 24 (0, 0))
theorem CBlk.cells {W : World} {g : Nat} {c : CV} (h : CBlk W g c) : (W.cell? ⟨g, 0, none⟩ = some (.int .i64 c.pad) ∧ W.cell? ⟨g, 1, none⟩ = some (.int .i64 c.mem) ∧ W.cell? ⟨g, 2, none⟩ = some (.slice c.ma c.ml c.mc) ∧ W.cell? ⟨g, 3, none⟩ = some (.slice c.ka c.kl c.kc)) ∧ g < W.heap.size := by
  unfold CBlk at h
  refine ⟨⟨?_, ?_, ?_, ?_⟩, (Array.getElem?_eq_some_iff.1 h).1⟩ <;> simp [World.cell?, h]
theorem CBlk.below {W V : World} {g : Nat} {c : CV} (h : CBlk W g c) (hb : Below W.heap.size W V) : CBlk V g c := (hb.block g (Array.getElem?_eq_some_iff.1 h).1).trans h
theorem CBlk.new (w : World) (c : CV) : CBlk (w.alloc (.cells #[.int .i64 c.pad, .int .i64 c.mem, .slice c.ma c.ml c.mc, .slice c.ka c.kl c.kc] 24)) w.heap.size c := World.alloc_heap_new w _
theorem InBlk.new (w : World) (x : In) : InBlk (w.alloc (.cells #[.int .i64 x.d, .int .i64 x.a, .int .i64 x.b, .int .i64 x.c, .int .i64 x.n, .int .i64 x.v] 50)) w.heap.size x := World.alloc_heap_new w _
structure In.Sm (x : In) : Prop where
  n : 0 ≤ x.n ∧ x.n ≤ 4096
  a : -1048576 ≤ x.a ∧ x.a ≤ 1048576
  b : -1048576 ≤ x.b ∧ x.b ≤ 1048576
  c : -1048576 ≤ x.c ∧ x.c ≤ 1048576
theorem mulI_bd {a b A B : Int} (ha : -A ≤ a ∧ a ≤ A) (hb : 0 ≤ b ∧ b ≤ B) (hA : 0 ≤ A) : -(A * B) ≤ b * a ∧ b * a ≤ A * B := by
  have h1 : b * a ≤ b * A := Int.mul_le_mul_of_nonneg_left ha.2 hb.1
  have h2 : b * (-A) ≤ b * a := Int.mul_le_mul_of_nonneg_left ha.1 hb.1
  have h3 : A * b ≤ A * B := Int.mul_le_mul_of_nonneg_left hb.2 hA
  have h4 : b * A = A * b := Int.mul_comm _ _
  have h5 : b * (-A) = -(b * A) := Int.mul_neg _ _
  omega
set_option maxRecDepth 100000 in
theorem finds_any (c : CV) (x : In) (hx : x.Sm) (w : World) : Calls Tryz.prog 32 #[c.v, x.v6] w fun r w' => r = .returned (.bool (findV c.mem x)) ∧ Below w.heap.size w w' := by
  have HB := hide (bl_on (bl_new (w := w) (.cells #[.int .i64 c.pad, .int .i64 c.mem, .slice c.ma c.ml c.mc, .slice c.ka c.kl c.kc] 24)) (bl_new (.cells #[.int .i64 x.d, .int .i64 x.a, .int .i64 x.b, .int .i64 x.c, .int .i64 x.n, .int .i64 x.v] 50)))
  obtain ⟨L, hL⟩ : ∃ L, L = x.b + (x.n - 1) * x.c := ⟨_, rfl⟩
  obtain ⟨R, hR⟩ : ∃ R, R = findV c.mem x := ⟨_, rfl⟩
  rw [← hR]
  have hR2 : R = if (x.d ≠ 1 ∧ x.d ≠ 2) ∨ x.n = 0 then true else decide (0 ≤ x.b) && decide (0 ≤ L) && decide (x.b < c.mem) && decide (L < c.mem) := by rw [hR, hL]; rfl
  have HR := hide hR2
  have hn := hx.n
  have w1 : IntKind.i64.wrap (x.n - 1) = x.n - 1 := by rw [IntKind.wrap_i64]; omega
  by_cases h0 : x.n = 0
  · have q0 : (x.n == 0) = true := by simpa using h0
    have hr : R = true := by rw [HR.out]; simp [h0]
    clear hL hR hR2 hx h0 hn
    unfold CV.v In.v6
    go_enter Tryz.func32, Tryz.ntmps32
    obtain ⟨d1, e1⟩ : ∃ b, (x.d != 1) = b := ⟨_, rfl⟩
    obtain ⟨d2, e2⟩ : ∃ b, (x.d != 2) = b := ⟨_, rfl⟩
    cases d1
    · go_wp2
      go_ret
      exact ⟨by first | rfl | (rw [hr]; rfl), HB.out⟩
    · cases d2
      · go_wp2
        go_ret
        exact ⟨by first | rfl | (rw [hr]; rfl), HB.out⟩
      · go_wp2
        go_ret
        exact ⟨by first | rfl | (rw [hr]; rfl), HB.out⟩
  · have q0 : (x.n == 0) = false := by simpa using h0
    have hp := mulI_bd (A := 1048576) (B := 4095) hx.c (show 0 ≤ x.n - 1 ∧ x.n - 1 ≤ 4095 by omega) (by omega)
    have hb := hx.b
    obtain ⟨P, hP⟩ : ∃ P, P = (x.n - 1) * x.c := ⟨_, rfl⟩
    rw [← hP] at hp hL
    have w2 : IntKind.i64.wrap ((x.n - 1) * x.c) = P := by rw [← hP, IntKind.wrap_i64]; omega
    have w3 : IntKind.i64.wrap (x.b + P) = L := by rw [IntKind.wrap_i64]; omega
    have HN := hide h0
    clear hL hR hR2 hx h0 hn hp hb hP
    by_cases m1 : x.d = 1
    · have k1 : (x.d != 1) = false := by simp [m1]
      have HRR : Hid (R = (decide (0 ≤ x.b) && decide (0 ≤ L) && decide (x.b < c.mem) && decide (L < c.mem))) := by rw [Hid, HR.out, if_neg (by simp [m1, HN.out])]
      clear m1
      unfold CV.v In.v6
      go_enter Tryz.func32, Tryz.ntmps32
      go_wp2
      all_goals
        go_ret
        refine ⟨congrArg (fun b => Ending.returned (Value.bool b)) (?_ : _ = R), HB.out⟩
        rw [HRR.out, Bool.eq_iff_iff]
        simp only [Bool.and_eq_true, decide_eq_true_eq, Bool.false_eq_true, false_iff]
        omega
    · have k1 : (x.d != 1) = true := by simp [m1]
      by_cases m2 : x.d = 2
      · have k2 : (x.d != 2) = false := by simp [m2]
        have HRR : Hid (R = (decide (0 ≤ x.b) && decide (0 ≤ L) && decide (x.b < c.mem) && decide (L < c.mem))) := by rw [Hid, HR.out, if_neg (by simp [m2, HN.out])]
        clear m1 m2
        unfold CV.v In.v6
        go_enter Tryz.func32, Tryz.ntmps32
        go_wp2
        all_goals
          go_ret
          refine ⟨congrArg (fun b => Ending.returned (Value.bool b)) (?_ : _ = R), HB.out⟩
          rw [HRR.out, Bool.eq_iff_iff]
          simp only [Bool.and_eq_true, decide_eq_true_eq, Bool.false_eq_true, false_iff]
          omega
      · have k2 : (x.d != 2) = true := by simp [m2]
        have hr : R = true := by rw [HR.out]; simp [m1, m2]
        clear m1 m2
        unfold CV.v In.v6
        go_enter Tryz.func32, Tryz.ntmps32
        go_wp2
        go_ret
        exact ⟨by first | rfl | (rw [hr]; rfl), HB.out⟩
end Go.Proofs.YtoabffmiedbkkaaGreat.V
namespace Go.Proofs.YtoabffmiedbkkaaGreat.V
set_option maxRecDepth 20000
open Go Go.RowKit
set_option linter.unusedVariables false

theorem tch_sm {x : In} (h : x.Sm) : (tchV x).Sm := by
  have ha : (⟨x.a, x.n⟩ : Str).Sm := ⟨by have := h.a; simp only; omega, by have := h.n; simp only; omega⟩
  have hb : (⟨x.b, x.n⟩ : Str).Sm := ⟨by have := h.b; simp only; omega, by have := h.n; simp only; omega⟩
  have hc : (⟨x.c, x.n⟩ : Str).Sm := ⟨by have := h.c; simp only; omega, by have := h.n; simp only; omega⟩
  have h1 : (⟨x.a, 1⟩ : Str).Sm := ⟨by have := h.a; simp only; omega, by simp only; omega⟩
  unfold tchV
  repeat' split
  · exact ⟨zS_sm, zS_sm, zS_sm, zS_sm⟩
  · exact ⟨zS_sm, zS_sm, zS_sm, ha⟩
  · exact ⟨ha, zS_sm, zS_sm, zS_sm⟩
  · exact ⟨ha, hb, hc, ha⟩
  · exact ⟨h1, hb, hc, h1⟩
  · exact ⟨ha, hb, zS_sm, ha⟩
  · exact ⟨hb, hc, zS_sm, ha⟩
set_option maxRecDepth 100000 in
set_option maxHeartbeats 4000000 in
theorem wrongIns_any (c : CV) (e : Bool) (x : In) (w : World) : Calls Tryz.prog 20 #[c.v, .int .i64 (engV e), x.v6] w fun r w' => r = .returned (.int .i64 (insE c.pad c.mem e x)) ∧ Below w.heap.size w w' := by
  obtain ⟨W, hW⟩ : ∃ W, W = (w.alloc (.cells #[.int .i64 c.pad, .int .i64 c.mem, .slice c.ma c.ml c.mc, .slice c.ka c.kl c.kc] 24)).alloc (.cells #[.int .i64 x.d, .int .i64 x.a, .int .i64 x.b, .int .i64 x.c, .int .i64 x.n, .int .i64 x.v] 50) := ⟨_, rfl⟩
  have hb : Below w.heap.size w W := by rw [hW]; exact bl_on (bl_new _) (bl_new _)
  have hC : CBlk W w.heap.size c := by rw [hW]; exact (CBlk.new w c).below (bl_new _)
  have hI : InBlk W (w.heap.size + 1) x := by
    rw [hW]
    have := InBlk.new (w.alloc (.cells #[.int .i64 c.pad, .int .i64 c.mem, .slice c.ma c.ml c.mc, .slice c.ka c.kl c.kc] 24)) x
    rw [World.size_alloc] at this
    exact this
  obtain ⟨⟨c0, c1, c2, c3⟩, zc⟩ := hC.cells
  obtain ⟨⟨i0, i1, i2, i3, i4, i5⟩, zi⟩ := hI.cells
  obtain ⟨R, hR⟩ : ∃ R, R = insE c.pad c.mem e x := ⟨_, rfl⟩
  rw [← hR]
  obtain ⟨E, hE⟩ : ∃ E, E = engV e := ⟨_, rfl⟩
  rw [← hE]
  have HHAS := hide (hasI_any e x.d W)
  rw [← hE] at HHAS
  have HR := hide hR
  have HW := hide hW
  have HB := hide hb
  clear hW hb hR hC hI hE
  unfold CV.v In.v6
  go_enter Tryz.func20, Tryz.ntmps20
  go_upto_region 1 with fail
  rw [← HW.out]
  go_wp2_with fail
  refine HHAS.out.mono ?_
  rintro r w2 ⟨rfl, hw2⟩
  obtain rfl := hw2.symm
  cases hh : hasV e x.d
  · have hr : R = 1 := by rw [HR.out]; simp [insE, hh]
    go_wp2_with fail
    go_ret
    exact ⟨by first | rfl | (rw [hr]; rfl), HB.out⟩
  have hR2 : R = if x.d = 3 ∨ x.d = 4 then (if x.a < 0 ∨ 16 ≤ x.a then 4 else 0) else if x.n < 0 ∨ 4096 < x.n ∨ farV x.a = true ∨ farV x.b = true ∨ farV x.c = true then 4 else if tchIn (tchV x) c.pad = false ∨ findV c.mem x = false then 4 else 0 := by
    rw [HR.out, insE, if_neg (by simp [hh])]
  have HR2 := hide hR2
  clear hR2 hh HR HHAS
  by_cases e3 : x.d = 3
  · have q3 : (x.d == 3) = true := by simpa using e3
    by_cases p1 : x.a < 0
    · have hr : R = 4 := by rw [HR2.out, if_pos (by simp [e3]), if_pos (.inl p1)]
      clear e3
      go_wp2_with fail
      go_ret
      exact ⟨by first | rfl | (rw [hr]; rfl), HB.out⟩
    · by_cases p2 : 16 ≤ x.a
      · have hr : R = 4 := by rw [HR2.out, if_pos (by simp [e3]), if_pos (.inr p2)]
        clear e3
        go_wp2_with fail
        go_ret
        exact ⟨by first | rfl | (rw [hr]; rfl), HB.out⟩
      · have hr : R = 0 := by rw [HR2.out, if_pos (by simp [e3]), if_neg (by omega)]
        clear e3
        go_wp2_with fail
        go_ret
        exact ⟨by first | rfl | (rw [hr]; rfl), HB.out⟩
  have q3 : (x.d == 3) = false := by simpa using e3
  by_cases e4 : x.d = 4
  · have q4 : (x.d == 4) = true := by simpa using e4
    by_cases p1 : x.a < 0
    · have hr : R = 4 := by rw [HR2.out, if_pos (by simp [e4]), if_pos (.inl p1)]
      clear e3 e4
      go_wp2_with fail
      go_ret
      exact ⟨by first | rfl | (rw [hr]; rfl), HB.out⟩
    · by_cases p2 : 16 ≤ x.a
      · have hr : R = 4 := by rw [HR2.out, if_pos (by simp [e4]), if_pos (.inr p2)]
        clear e3 e4
        go_wp2_with fail
        go_ret
        exact ⟨by first | rfl | (rw [hr]; rfl), HB.out⟩
      · have hr : R = 0 := by rw [HR2.out, if_pos (by simp [e4]), if_neg (by omega)]
        clear e3 e4
        go_wp2_with fail
        go_ret
        exact ⟨by first | rfl | (rw [hr]; rfl), HB.out⟩
  have q4 : (x.d == 4) = false := by simpa using e4
  have hR3 : R = if x.n < 0 ∨ 4096 < x.n ∨ farV x.a = true ∨ farV x.b = true ∨ farV x.c = true then 4 else if tchIn (tchV x) c.pad = false ∨ findV c.mem x = false then 4 else 0 := by rw [HR2.out, if_neg (by omega)]
  have HR3 := hide hR3
  clear hR3 HR2 e3 e4
  by_cases p1 : x.n < 0
  · have hr : R = 4 := by rw [HR3.out, if_pos (.inl p1)]
    go_wp2_with fail
    go_ret
    exact ⟨by first | rfl | (rw [hr]; rfl), HB.out⟩
  by_cases p2 : 4096 < x.n
  · have hr : R = 4 := by rw [HR3.out, if_pos (.inr (.inl p2))]
    go_wp2_with fail
    go_ret
    exact ⟨by first | rfl | (rw [hr]; rfl), HB.out⟩
  go_wp2_with fail
  refine (far_any x.a _).mono ?_
  rintro r w2 ⟨rfl, hw2⟩
  obtain rfl := hw2.symm
  cases fa : farV x.a
  rotate_left
  · have hr : R = 4 := by rw [HR3.out, if_pos (by simp [fa])]
    go_wp2_with fail
    go_ret
    exact ⟨by first | rfl | (rw [hr]; rfl), HB.out⟩
  go_wp2_with fail
  refine (far_any x.b _).mono ?_
  rintro r w2 ⟨rfl, hw2⟩
  obtain rfl := hw2.symm
  cases fb : farV x.b
  rotate_left
  · have hr : R = 4 := by rw [HR3.out, if_pos (by simp [fb])]
    go_wp2_with fail
    go_ret
    exact ⟨by first | rfl | (rw [hr]; rfl), HB.out⟩
  go_wp2_with fail
  refine (far_any x.c _).mono ?_
  rintro r w2 ⟨rfl, hw2⟩
  obtain rfl := hw2.symm
  cases fc : farV x.c
  rotate_left
  · have hr : R = 4 := by rw [HR3.out, if_pos (by simp [fc])]
    go_wp2_with fail
    go_ret
    exact ⟨by first | rfl | (rw [hr]; rfl), HB.out⟩
  have hsm : x.Sm := by
    simp only [farV, Bool.or_eq_false_iff, decide_eq_false_iff_not] at fa fb fc
    exact ⟨by omega, by omega, by omega, by omega⟩
  have hR4 : R = if tchIn (tchV x) c.pad = false ∨ findV c.mem x = false then 4 else 0 := by rw [HR3.out, if_neg (by simp [fa, fb, fc]; omega)]
  have HR4 := hide hR4
  have HSM := hide hsm
  clear hR4 hsm HR3
  go_upto_region 10 with fail
  clear fa fb fc p1 p2
  cases hin : tchIn (tchV x) c.pad
  · have hr : R = 4 := by rw [HR4.out, if_pos (.inl hin)]
    have HI := hide hin
    clear hin
    refine region_madeG 12 14 [fIs (.agg #[.int .i64 x.d, .int .i64 x.a, .int .i64 x.b, .int .i64 x.c, .int .i64 x.n, .int .i64 x.v]), fIs (tchV x).v, fIs (.pointer (some ⟨w.heap.size, 0, none⟩)), fIs (.int .i64 c.pad), fIs (.bool false), fIs (.bool true), fIs (.bool true), fIs undef, fIs undef, fIs undef, fIs undef, fIs (.bool true)] [none, none, none, none, none, none, some true, none, none, none, none, none] [true, true, true, true, true, true, true, false, false, false, false, true] (by kernel_rfl) (by kernel_rfl) (by kernel_rfl) (fun ch p q w3 e h => by obtain ⟨t1, d1⟩ := p; obtain ⟨t2, d2⟩ := q; cases e; exact h) ⟨fIs_good _, fIs_good _, fIs_good _, fIs_good _, fIs_good _, fIs_good _, fIs_good _, fIs_good _, fIs_good _, fIs_good _, fIs_good _, fIs_good _, trivial⟩ ⟨fun _ _ h => h, rfl⟩ ?mkA ?restA
    case mkA =>
      refine ⟨fun u wz hb hd => ?_, fun u wz hb hd => ?_, fun u wz hb hd => ?_, fun u wz hb hd => ?_, fun u wz hb hd => ?_, fun u wz hb hd => ?_, fun u wz hb hd => ?_, ⟨fun _ => rfl, rfl⟩, ⟨fun _ => rfl, rfl⟩, ⟨fun _ => rfl, rfl⟩, ⟨fun _ => rfl, rfl⟩, fun u wz hb hd => ?_, trivial⟩
      all_goals simp only [Act.put, List.setIfInBounds_toArray, List.set_cons_zero, List.set_cons_succ]
      · have i0' := (hb.cell (p := ⟨w.heap.size + 1, 0, none⟩) (lt_of_cell i0)).trans i0
        have i1' := (hb.cell (p := ⟨w.heap.size + 1, 1, none⟩) (lt_of_cell i1)).trans i1
        have i2' := (hb.cell (p := ⟨w.heap.size + 1, 2, none⟩) (lt_of_cell i2)).trans i2
        have i3' := (hb.cell (p := ⟨w.heap.size + 1, 3, none⟩) (lt_of_cell i3)).trans i3
        have i4' := (hb.cell (p := ⟨w.heap.size + 1, 4, none⟩) (lt_of_cell i4)).trans i4
        have i5' := (hb.cell (p := ⟨w.heap.size + 1, 5, none⟩) (lt_of_cell i5)).trans i5
        go_simp
        exact ⟨rfl, Below.refl _ _, fun h => by cases h⟩
      · have e0 : u 0 = .agg #[.int .i64 x.d, .int .i64 x.a, .int .i64 x.b, .int .i64 x.c, .int .i64 x.n, .int .i64 x.v] := hd 0 (by omega) (by kernel_rfl)
        rw [e0]
        go_simp
        refine (touched_any x wz).mono ?_
        rintro r w2 ⟨rfl, hb2⟩
        exact ⟨rfl, hb2, fun h => by cases h⟩
      · go_simp
        exact ⟨rfl, Below.refl _ _, fun h => by cases h⟩
      · have e2 : u 2 = .pointer (some ⟨w.heap.size, 0, none⟩) := hd 2 (by omega) (by kernel_rfl)
        rw [e2]
        have c0' := (hb.cell (p := ⟨w.heap.size, 0, none⟩) (lt_of_cell c0)).trans c0
        go_simp
        exact ⟨rfl, Below.refl _ _, fun h => by cases h⟩
      · have e1 : u 1 = (tchV x).v := hd 1 (by omega) (by kernel_rfl)
        have e3 : u 3 = .int .i64 c.pad := hd 3 (by omega) (by kernel_rfl)
        rw [e1, e3]
        go_simp
        refine (tWithin_any (tchV x) c.pad (tch_sm HSM.out) wz).mono ?_
        rintro r w2 ⟨rfl, hb2⟩
        exact ⟨by rw [HI.out]; rfl, hb2, fun h => by cases h⟩
      · have e4 : u 4 = .bool false := hd 4 (by omega) (by kernel_rfl)
        rw [e4]
        go_simp
        exact ⟨rfl, Below.refl _ _, fun h => by cases h⟩
      · have e5 : u 5 = .bool true := hd 5 (by omega) (by kernel_rfl)
        rw [e5]
        go_simp
        exact ⟨rfl, Below.refl _ _, fun h => by cases h⟩
      · have e6 : u 6 = .bool true := hd 6 (by omega) (by kernel_rfl)
        rw [e6]
        go_simp
        exact ⟨rfl, Below.refl _ _, fun h => by cases h⟩
    case restA =>
      intro u wz hb hf hp
      have f0 : u 0 = .agg #[.int .i64 x.d, .int .i64 x.a, .int .i64 x.b, .int .i64 x.c, .int .i64 x.n, .int .i64 x.v] := hf 0 (by omega)
      have f1 : u 1 = (tchV x).v := hf 1 (by omega)
      have f2 : u 2 = .pointer (some ⟨w.heap.size, 0, none⟩) := hf 2 (by omega)
      have f3 : u 3 = .int .i64 c.pad := hf 3 (by omega)
      have f4 : u 4 = .bool false := hf 4 (by omega)
      have f5 : u 5 = .bool true := hf 5 (by omega)
      have f6 : u 6 = .bool true := hf 6 (by omega)
      have f7 : u 7 = undef := hf 7 (by omega)
      have f8 : u 8 = undef := hf 8 (by omega)
      have f9 : u 9 = undef := hf 9 (by omega)
      have f10 : u 10 = undef := hf 10 (by omega)
      have f11 : u 11 = .bool true := hf 11 (by omega)
      refine UptoW.rest 0 12 (by rfl) (by kernel_rfl) ?_
      simp only [List.take, List.drop, putOps, Act.put, List.setIfInBounds_toArray, List.set_cons_zero, List.set_cons_succ, Nat.reduceAdd, f0, f1, f2, f3, f4, f5, f6, f7, f8, f9, f10, f11]
      clear f0 f1 f2 f3 f4 f5 f6 f7 f8 f9 f10 f11 hf hp
      have HB2 := hide (bl_on HB.out hb)
      clear hb i0 i1 i2 i3 i4 i5 c0 c1 c2 c3
      go_wp2_with fail
      go_ret
      exact ⟨by first | rfl | (rw [hr]; rfl), HB2.out⟩
  · have HI := hide hin
    cases hfi : findV c.mem x
    · have hr : R = 4 := by rw [HR4.out, if_pos (.inr hfi)]
      have HF := hide hfi
      clear hin hfi
      refine region_madeG 12 14 [fIs (.agg #[.int .i64 x.d, .int .i64 x.a, .int .i64 x.b, .int .i64 x.c, .int .i64 x.n, .int .i64 x.v]), fIs (tchV x).v, fIs (.pointer (some ⟨w.heap.size, 0, none⟩)), fIs (.int .i64 c.pad), fIs (.bool true), fIs (.bool false), fIs (.bool false), fIs (.agg #[.int .i64 c.pad, .int .i64 c.mem, .slice c.ma c.ml c.mc, .slice c.ka c.kl c.kc]), fIs (.agg #[.int .i64 x.d, .int .i64 x.a, .int .i64 x.b, .int .i64 x.c, .int .i64 x.n, .int .i64 x.v]), fIs (.bool false), fIs (.bool true), fIs (.bool true)] [none, none, none, none, none, none, some false, none, none, none, none, none] [true, true, true, true, true, true, true, true, true, true, true, true] (by kernel_rfl) (by kernel_rfl) (by kernel_rfl) (fun ch p q w3 e h => by obtain ⟨t1, d1⟩ := p; obtain ⟨t2, d2⟩ := q; cases e; exact h) ⟨fIs_good _, fIs_good _, fIs_good _, fIs_good _, fIs_good _, fIs_good _, fIs_good _, fIs_good _, fIs_good _, fIs_good _, fIs_good _, fIs_good _, trivial⟩ ⟨fun _ _ h => h, rfl⟩ ?mkB ?restB
      case mkB =>
        refine ⟨fun u wz hb hd => ?_, fun u wz hb hd => ?_, fun u wz hb hd => ?_, fun u wz hb hd => ?_, fun u wz hb hd => ?_, fun u wz hb hd => ?_, fun u wz hb hd => ?_, fun u wz hb hd => ?_, fun u wz hb hd => ?_, fun u wz hb hd => ?_, fun u wz hb hd => ?_, fun u wz hb hd => ?_, trivial⟩
        all_goals simp only [Act.put, List.setIfInBounds_toArray, List.set_cons_zero, List.set_cons_succ]
        · have i0' := (hb.cell (p := ⟨w.heap.size + 1, 0, none⟩) (lt_of_cell i0)).trans i0
          have i1' := (hb.cell (p := ⟨w.heap.size + 1, 1, none⟩) (lt_of_cell i1)).trans i1
          have i2' := (hb.cell (p := ⟨w.heap.size + 1, 2, none⟩) (lt_of_cell i2)).trans i2
          have i3' := (hb.cell (p := ⟨w.heap.size + 1, 3, none⟩) (lt_of_cell i3)).trans i3
          have i4' := (hb.cell (p := ⟨w.heap.size + 1, 4, none⟩) (lt_of_cell i4)).trans i4
          have i5' := (hb.cell (p := ⟨w.heap.size + 1, 5, none⟩) (lt_of_cell i5)).trans i5
          go_simp
          exact ⟨rfl, Below.refl _ _, fun h => by cases h⟩
        · have e0 : u 0 = .agg #[.int .i64 x.d, .int .i64 x.a, .int .i64 x.b, .int .i64 x.c, .int .i64 x.n, .int .i64 x.v] := hd 0 (by omega) (by kernel_rfl)
          rw [e0]
          go_simp
          refine (touched_any x wz).mono ?_
          rintro r w2 ⟨rfl, hb2⟩
          exact ⟨rfl, hb2, fun h => by cases h⟩
        · go_simp
          exact ⟨rfl, Below.refl _ _, fun h => by cases h⟩
        · have e2 : u 2 = .pointer (some ⟨w.heap.size, 0, none⟩) := hd 2 (by omega) (by kernel_rfl)
          rw [e2]
          have c0' := (hb.cell (p := ⟨w.heap.size, 0, none⟩) (lt_of_cell c0)).trans c0
          go_simp
          exact ⟨rfl, Below.refl _ _, fun h => by cases h⟩
        · have e1 : u 1 = (tchV x).v := hd 1 (by omega) (by kernel_rfl)
          have e3 : u 3 = .int .i64 c.pad := hd 3 (by omega) (by kernel_rfl)
          rw [e1, e3]
          go_simp
          refine (tWithin_any (tchV x) c.pad (tch_sm HSM.out) wz).mono ?_
          rintro r w2 ⟨rfl, hb2⟩
          exact ⟨by rw [HI.out]; rfl, hb2, fun h => by cases h⟩
        · have e4 : u 4 = .bool true := hd 4 (by omega) (by kernel_rfl)
          rw [e4]
          go_simp
          exact ⟨rfl, Below.refl _ _, fun h => by cases h⟩
        · have e5 : u 5 = .bool false := hd 5 (by omega) (by kernel_rfl)
          rw [e5]
          go_simp
          exact ⟨rfl, Below.refl _ _, fun h => by cases h⟩
        · have c0' := (hb.cell (p := ⟨w.heap.size, 0, none⟩) (lt_of_cell c0)).trans c0
          have c1' := (hb.cell (p := ⟨w.heap.size, 1, none⟩) (lt_of_cell c1)).trans c1
          have c2' := (hb.cell (p := ⟨w.heap.size, 2, none⟩) (lt_of_cell c2)).trans c2
          have c3' := (hb.cell (p := ⟨w.heap.size, 3, none⟩) (lt_of_cell c3)).trans c3
          go_simp
          exact ⟨rfl, Below.refl _ _, fun h => by cases h⟩
        · have i0' := (hb.cell (p := ⟨w.heap.size + 1, 0, none⟩) (lt_of_cell i0)).trans i0
          have i1' := (hb.cell (p := ⟨w.heap.size + 1, 1, none⟩) (lt_of_cell i1)).trans i1
          have i2' := (hb.cell (p := ⟨w.heap.size + 1, 2, none⟩) (lt_of_cell i2)).trans i2
          have i3' := (hb.cell (p := ⟨w.heap.size + 1, 3, none⟩) (lt_of_cell i3)).trans i3
          have i4' := (hb.cell (p := ⟨w.heap.size + 1, 4, none⟩) (lt_of_cell i4)).trans i4
          have i5' := (hb.cell (p := ⟨w.heap.size + 1, 5, none⟩) (lt_of_cell i5)).trans i5
          go_simp
          exact ⟨rfl, Below.refl _ _, fun h => by cases h⟩
        · have e7 : u 7 = .agg #[.int .i64 c.pad, .int .i64 c.mem, .slice c.ma c.ml c.mc, .slice c.ka c.kl c.kc] := hd 7 (by omega) (by kernel_rfl)
          have e8 : u 8 = .agg #[.int .i64 x.d, .int .i64 x.a, .int .i64 x.b, .int .i64 x.c, .int .i64 x.n, .int .i64 x.v] := hd 8 (by omega) (by kernel_rfl)
          rw [e7, e8]
          go_simp
          refine (finds_any c x HSM.out wz).mono ?_
          rintro r w2 ⟨rfl, hb2⟩
          exact ⟨by rw [HF.out]; rfl, hb2, fun h => by cases h⟩
        · have e9 : u 9 = .bool false := hd 9 (by omega) (by kernel_rfl)
          rw [e9]
          go_simp
          exact ⟨rfl, Below.refl _ _, fun h => by cases h⟩
        · have e6 : u 6 = .bool false := hd 6 (by omega) (by kernel_rfl)
          have e10 : u 10 = .bool true := hd 10 (by omega) (by kernel_rfl)
          rw [e6, e10]
          go_simp
          exact ⟨rfl, Below.refl _ _, fun h => by cases h⟩
      case restB =>
        intro u wz hb hf hp
        have f0 : u 0 = .agg #[.int .i64 x.d, .int .i64 x.a, .int .i64 x.b, .int .i64 x.c, .int .i64 x.n, .int .i64 x.v] := hf 0 (by omega)
        have f1 : u 1 = (tchV x).v := hf 1 (by omega)
        have f2 : u 2 = .pointer (some ⟨w.heap.size, 0, none⟩) := hf 2 (by omega)
        have f3 : u 3 = .int .i64 c.pad := hf 3 (by omega)
        have f4 : u 4 = .bool true := hf 4 (by omega)
        have f5 : u 5 = .bool false := hf 5 (by omega)
        have f6 : u 6 = .bool false := hf 6 (by omega)
        have f7 : u 7 = .agg #[.int .i64 c.pad, .int .i64 c.mem, .slice c.ma c.ml c.mc, .slice c.ka c.kl c.kc] := hf 7 (by omega)
        have f8 : u 8 = .agg #[.int .i64 x.d, .int .i64 x.a, .int .i64 x.b, .int .i64 x.c, .int .i64 x.n, .int .i64 x.v] := hf 8 (by omega)
        have f9 : u 9 = .bool false := hf 9 (by omega)
        have f10 : u 10 = .bool true := hf 10 (by omega)
        have f11 : u 11 = .bool true := hf 11 (by omega)
        refine UptoW.rest 0 12 (by rfl) (by kernel_rfl) ?_
        simp only [List.take, List.drop, putOps, Act.put, List.setIfInBounds_toArray, List.set_cons_zero, List.set_cons_succ, Nat.reduceAdd, f0, f1, f2, f3, f4, f5, f6, f7, f8, f9, f10, f11]
        clear f0 f1 f2 f3 f4 f5 f6 f7 f8 f9 f10 f11 hf hp
        have HB2 := hide (bl_on HB.out hb)
        clear hb i0 i1 i2 i3 i4 i5 c0 c1 c2 c3
        go_wp2_with fail
        go_ret
        exact ⟨by first | rfl | (rw [hr]; rfl), HB2.out⟩
    · have hr : R = 0 := by rw [HR4.out, if_neg (by simp [hin, hfi])]
      have HF := hide hfi
      clear hin hfi
      refine region_madeG 12 14 [fIs (.agg #[.int .i64 x.d, .int .i64 x.a, .int .i64 x.b, .int .i64 x.c, .int .i64 x.n, .int .i64 x.v]), fIs (tchV x).v, fIs (.pointer (some ⟨w.heap.size, 0, none⟩)), fIs (.int .i64 c.pad), fIs (.bool true), fIs (.bool false), fIs (.bool false), fIs (.agg #[.int .i64 c.pad, .int .i64 c.mem, .slice c.ma c.ml c.mc, .slice c.ka c.kl c.kc]), fIs (.agg #[.int .i64 x.d, .int .i64 x.a, .int .i64 x.b, .int .i64 x.c, .int .i64 x.n, .int .i64 x.v]), fIs (.bool true), fIs (.bool false), fIs (.bool false)] [none, none, none, none, none, none, some false, none, none, none, none, none] [true, true, true, true, true, true, true, true, true, true, true, true] (by kernel_rfl) (by kernel_rfl) (by kernel_rfl) (fun ch p q w3 e h => by obtain ⟨t1, d1⟩ := p; obtain ⟨t2, d2⟩ := q; cases e; exact h) ⟨fIs_good _, fIs_good _, fIs_good _, fIs_good _, fIs_good _, fIs_good _, fIs_good _, fIs_good _, fIs_good _, fIs_good _, fIs_good _, fIs_good _, trivial⟩ ⟨fun _ _ h => h, rfl⟩ ?mkC ?restC
      case mkC =>
        refine ⟨fun u wz hb hd => ?_, fun u wz hb hd => ?_, fun u wz hb hd => ?_, fun u wz hb hd => ?_, fun u wz hb hd => ?_, fun u wz hb hd => ?_, fun u wz hb hd => ?_, fun u wz hb hd => ?_, fun u wz hb hd => ?_, fun u wz hb hd => ?_, fun u wz hb hd => ?_, fun u wz hb hd => ?_, trivial⟩
        all_goals simp only [Act.put, List.setIfInBounds_toArray, List.set_cons_zero, List.set_cons_succ]
        · have i0' := (hb.cell (p := ⟨w.heap.size + 1, 0, none⟩) (lt_of_cell i0)).trans i0
          have i1' := (hb.cell (p := ⟨w.heap.size + 1, 1, none⟩) (lt_of_cell i1)).trans i1
          have i2' := (hb.cell (p := ⟨w.heap.size + 1, 2, none⟩) (lt_of_cell i2)).trans i2
          have i3' := (hb.cell (p := ⟨w.heap.size + 1, 3, none⟩) (lt_of_cell i3)).trans i3
          have i4' := (hb.cell (p := ⟨w.heap.size + 1, 4, none⟩) (lt_of_cell i4)).trans i4
          have i5' := (hb.cell (p := ⟨w.heap.size + 1, 5, none⟩) (lt_of_cell i5)).trans i5
          go_simp
          exact ⟨rfl, Below.refl _ _, fun h => by cases h⟩
        · have e0 : u 0 = .agg #[.int .i64 x.d, .int .i64 x.a, .int .i64 x.b, .int .i64 x.c, .int .i64 x.n, .int .i64 x.v] := hd 0 (by omega) (by kernel_rfl)
          rw [e0]
          go_simp
          refine (touched_any x wz).mono ?_
          rintro r w2 ⟨rfl, hb2⟩
          exact ⟨rfl, hb2, fun h => by cases h⟩
        · go_simp
          exact ⟨rfl, Below.refl _ _, fun h => by cases h⟩
        · have e2 : u 2 = .pointer (some ⟨w.heap.size, 0, none⟩) := hd 2 (by omega) (by kernel_rfl)
          rw [e2]
          have c0' := (hb.cell (p := ⟨w.heap.size, 0, none⟩) (lt_of_cell c0)).trans c0
          go_simp
          exact ⟨rfl, Below.refl _ _, fun h => by cases h⟩
        · have e1 : u 1 = (tchV x).v := hd 1 (by omega) (by kernel_rfl)
          have e3 : u 3 = .int .i64 c.pad := hd 3 (by omega) (by kernel_rfl)
          rw [e1, e3]
          go_simp
          refine (tWithin_any (tchV x) c.pad (tch_sm HSM.out) wz).mono ?_
          rintro r w2 ⟨rfl, hb2⟩
          exact ⟨by rw [HI.out]; rfl, hb2, fun h => by cases h⟩
        · have e4 : u 4 = .bool true := hd 4 (by omega) (by kernel_rfl)
          rw [e4]
          go_simp
          exact ⟨rfl, Below.refl _ _, fun h => by cases h⟩
        · have e5 : u 5 = .bool false := hd 5 (by omega) (by kernel_rfl)
          rw [e5]
          go_simp
          exact ⟨rfl, Below.refl _ _, fun h => by cases h⟩
        · have c0' := (hb.cell (p := ⟨w.heap.size, 0, none⟩) (lt_of_cell c0)).trans c0
          have c1' := (hb.cell (p := ⟨w.heap.size, 1, none⟩) (lt_of_cell c1)).trans c1
          have c2' := (hb.cell (p := ⟨w.heap.size, 2, none⟩) (lt_of_cell c2)).trans c2
          have c3' := (hb.cell (p := ⟨w.heap.size, 3, none⟩) (lt_of_cell c3)).trans c3
          go_simp
          exact ⟨rfl, Below.refl _ _, fun h => by cases h⟩
        · have i0' := (hb.cell (p := ⟨w.heap.size + 1, 0, none⟩) (lt_of_cell i0)).trans i0
          have i1' := (hb.cell (p := ⟨w.heap.size + 1, 1, none⟩) (lt_of_cell i1)).trans i1
          have i2' := (hb.cell (p := ⟨w.heap.size + 1, 2, none⟩) (lt_of_cell i2)).trans i2
          have i3' := (hb.cell (p := ⟨w.heap.size + 1, 3, none⟩) (lt_of_cell i3)).trans i3
          have i4' := (hb.cell (p := ⟨w.heap.size + 1, 4, none⟩) (lt_of_cell i4)).trans i4
          have i5' := (hb.cell (p := ⟨w.heap.size + 1, 5, none⟩) (lt_of_cell i5)).trans i5
          go_simp
          exact ⟨rfl, Below.refl _ _, fun h => by cases h⟩
        · have e7 : u 7 = .agg #[.int .i64 c.pad, .int .i64 c.mem, .slice c.ma c.ml c.mc, .slice c.ka c.kl c.kc] := hd 7 (by omega) (by kernel_rfl)
          have e8 : u 8 = .agg #[.int .i64 x.d, .int .i64 x.a, .int .i64 x.b, .int .i64 x.c, .int .i64 x.n, .int .i64 x.v] := hd 8 (by omega) (by kernel_rfl)
          rw [e7, e8]
          go_simp
          refine (finds_any c x HSM.out wz).mono ?_
          rintro r w2 ⟨rfl, hb2⟩
          exact ⟨by rw [HF.out]; rfl, hb2, fun h => by cases h⟩
        · have e9 : u 9 = .bool true := hd 9 (by omega) (by kernel_rfl)
          rw [e9]
          go_simp
          exact ⟨rfl, Below.refl _ _, fun h => by cases h⟩
        · have e6 : u 6 = .bool false := hd 6 (by omega) (by kernel_rfl)
          have e10 : u 10 = .bool false := hd 10 (by omega) (by kernel_rfl)
          rw [e6, e10]
          go_simp
          exact ⟨rfl, Below.refl _ _, fun h => by cases h⟩
      case restC =>
        intro u wz hb hf hp
        have f0 : u 0 = .agg #[.int .i64 x.d, .int .i64 x.a, .int .i64 x.b, .int .i64 x.c, .int .i64 x.n, .int .i64 x.v] := hf 0 (by omega)
        have f1 : u 1 = (tchV x).v := hf 1 (by omega)
        have f2 : u 2 = .pointer (some ⟨w.heap.size, 0, none⟩) := hf 2 (by omega)
        have f3 : u 3 = .int .i64 c.pad := hf 3 (by omega)
        have f4 : u 4 = .bool true := hf 4 (by omega)
        have f5 : u 5 = .bool false := hf 5 (by omega)
        have f6 : u 6 = .bool false := hf 6 (by omega)
        have f7 : u 7 = .agg #[.int .i64 c.pad, .int .i64 c.mem, .slice c.ma c.ml c.mc, .slice c.ka c.kl c.kc] := hf 7 (by omega)
        have f8 : u 8 = .agg #[.int .i64 x.d, .int .i64 x.a, .int .i64 x.b, .int .i64 x.c, .int .i64 x.n, .int .i64 x.v] := hf 8 (by omega)
        have f9 : u 9 = .bool true := hf 9 (by omega)
        have f10 : u 10 = .bool false := hf 10 (by omega)
        have f11 : u 11 = .bool false := hf 11 (by omega)
        refine UptoW.rest 0 12 (by rfl) (by kernel_rfl) ?_
        simp only [List.take, List.drop, putOps, Act.put, List.setIfInBounds_toArray, List.set_cons_zero, List.set_cons_succ, Nat.reduceAdd, f0, f1, f2, f3, f4, f5, f6, f7, f8, f9, f10, f11]
        clear f0 f1 f2 f3 f4 f5 f6 f7 f8 f9 f10 f11 hf hp
        have HB2 := hide (bl_on HB.out hb)
        clear hb i0 i1 i2 i3 i4 i5 c0 c1 c2 c3
        go_wp2_with fail
        go_ret
        exact ⟨by first | rfl | (rw [hr]; rfl), HB2.out⟩
end Go.Proofs.YtoabffmiedbkkaaGreat.V
