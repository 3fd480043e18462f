/-
  The document: what is wrong with an instruction.
-/
import Derived.Test.YtjmeghicfiiclaaCoR1
import Derived.Test.YtjmeghicfiiclaaCoW4
namespace Go.Proofs.Ytjmeghicfiiclaa.V
open Go Go.RowKit
set_option linter.unusedVariables false

theorem inside_any (s : Str) (pad : Int) (hs : s.Sm) (w : World) : Calls Try.prog 35 #[.agg #[.int .i64 s.f, .int .i64 s.w], .int .i64 pad] w fun e w' => e = .returned (.bool (inB s pad)) ∧ Below w.heap.size w w' := by
  have HB := hide (bl_new (w := w) (.cells #[.int .i64 s.f, .int .i64 s.w] 57))
  have hw1 : IntKind.i64.wrap (s.f + s.w) = s.f + s.w := by rw [IntKind.wrap_i64]; have := hs.f; have := hs.w; omega
  obtain ⟨R, hR⟩ : ∃ R, R = inB s pad := ⟨_, rfl⟩
  rw [← hR]
  have HR := hide hR
  clear hR hs
  go_enter Try.func35, Try.ntmps35
  by_cases p1 : s.w = 0
  · have q1 : (s.w == 0) = true := by simpa using p1
    have hr : R = true := by rw [HR.out]; simp [inB, p1]
    clear p1
    go_wp2
    go_ret
    exact ⟨by first | rfl | (rw [hr]; rfl), HB.out⟩
  · have q1 : (s.w == 0) = false := by simpa using p1
    by_cases p2 : 0 ≤ s.f
    · by_cases p3 : s.f + s.w ≤ pad
      · have hr : R = true := by rw [HR.out]; simp [inB, p2, p3]
        clear p1
        go_wp2
        go_ret
        exact ⟨by first | rfl | (rw [hr]; rfl), HB.out⟩
      · have hr : R = false := by rw [HR.out]; simp [inB, p1, p3]
        clear p1
        go_wp2
        go_ret
        exact ⟨by first | rfl | (rw [hr]; rfl), HB.out⟩
    · have hr : R = false := by rw [HR.out]; simp [inB, p1, p2]
      clear p1
      go_wp2
      go_ret
      exact ⟨by first | rfl | (rw [hr]; rfl), HB.out⟩
theorem inB_z (pad : Int) : inB zS pad = true := rfl
/-- Both name the same stretches. -/
theorem tch_in {x : In} (h1 : 1 ≤ x.d) (h2 : x.d ≤ 14) (pad : Int) : tchIn (rTchV x) pad = tchIn (tchV x) pad := by
  unfold rTchV tchV tchIn
  by_cases e3 : x.d = 3 ∨ x.d = 4
  · rw [if_neg (by omega), if_neg (by omega), if_neg (by omega), if_neg (by omega), if_neg (by omega), if_neg (by omega), if_pos e3]
  rw [if_neg e3]
  by_cases e1 : x.d = 1 ∨ x.d = 5
  · rw [if_pos e1, if_pos e1]
  rw [if_neg e1, if_neg e1]
  by_cases e2 : x.d = 2
  · rw [if_pos e2, if_pos e2]
  rw [if_neg e2, if_neg e2]
  by_cases e6 : 6 ≤ x.d ∧ x.d ≤ 10
  · rw [if_pos e6, if_neg (by omega), if_neg (by omega), if_neg (by omega)]
    simp only [inB_z, Bool.true_and, Bool.and_true]
  rw [if_neg e6]
  by_cases e11 : x.d = 11 ∨ x.d = 12
  · rw [if_pos e11, if_pos e11]
  rw [if_neg e11, if_neg e11]
  by_cases e13 : x.d = 13
  · rw [if_pos e13, if_pos e13]
  rw [if_neg e13, if_neg e13, if_pos (by omega), if_pos (by omega)]
theorem rtch_sm {x : In} (h : x.Sm) : (rTchV x).Sm := by
  have ha : (⟨x.a, x.n⟩ : Str).Sm := ⟨by have := h.a; simp only; omega, by have := h.n; simp only; omega⟩
  have hb : (⟨x.b, x.n⟩ : Str).Sm := ⟨by have := h.b; simp only; omega, by have := h.n; simp only; omega⟩
  have hc : (⟨x.c, x.n⟩ : Str).Sm := ⟨by have := h.c; simp only; omega, by have := h.n; simp only; omega⟩
  have h1 : (⟨x.a, 1⟩ : Str).Sm := ⟨by have := h.a; simp only; omega, by simp only; omega⟩
  unfold rTchV
  repeat' split
  · exact ⟨zS_sm, zS_sm, zS_sm, ha⟩
  · exact ⟨ha, zS_sm, zS_sm, zS_sm⟩
  · exact ⟨zS_sm, hb, hc, ha⟩
  · exact ⟨ha, hb, hc, ha⟩
  · exact ⟨h1, hb, hc, h1⟩
  · exact ⟨ha, hb, zS_sm, ha⟩
  · exact ⟨zS_sm, zS_sm, zS_sm, zS_sm⟩
/-- Between its ends a row of steps stays between. -/
theorem find_iff {mem b n c : Int} (hn : 0 ≤ n) : (∀ i : Int, 0 ≤ i → i < n → 0 ≤ b + i * c ∧ b + i * c < mem) ↔ (n = 0 ∨ (0 ≤ b ∧ 0 ≤ b + (n - 1) * c ∧ b < mem ∧ b + (n - 1) * c < mem)) := by
  constructor
  · intro h
    by_cases h0 : n = 0
    · exact .inl h0
    · have h1 := h 0 (by omega) (by omega)
      have h2 := h (n - 1) (by omega) (by omega)
      simp at h1
      exact .inr ⟨h1.1, h2.1, h1.2, h2.2⟩
  · rintro h i hi hin
    rcases h with h | ⟨h1, h2, h3, h4⟩
    · omega
    · by_cases hc : 0 ≤ c
      · have k1 : 0 ≤ i * c := Int.mul_nonneg hi hc
        have k2 : i * c ≤ (n - 1) * c := Int.mul_le_mul_of_nonneg_right (by omega) hc
        omega
      · have k1 : i * (-c) ≤ (n - 1) * (-c) := Int.mul_le_mul_of_nonneg_right (by omega) (by omega)
        have k2 : 0 ≤ i * (-c) := Int.mul_nonneg hi (by omega)
        have k3 : i * (-c) = -(i * c) := Int.mul_neg _ _
        have k4 : (n - 1) * (-c) = -((n - 1) * c) := Int.mul_neg _ _
        omega
theorem uses_any (a : Option Addr) (len cap : Nat) (l : List In) (d s : Int) (w : World) (h : Inss w a len l) : Calls Try.prog 22 #[.slice a len cap, .int .i64 d, .int .i64 s] w fun r w' => r = .returned (.bool (usesV l d s)) ∧ Below w.heap.size w w' := by
  have HI := hide h
  obtain ⟨R, hR⟩ : ∃ R, R = usesV l d s := ⟨_, rfl⟩
  rw [← hR]
  have HR := hide hR
  have hl := h.2.1
  clear h hR
  go_enter Try.func22, Try.ntmps22
  go_wp2_with fail
  go_loopw [11] (fun v11 wr => ∃ j : Nat, j ≤ len ∧ v11 = .int .i64 j ∧ usesV (l.take j) d s = false ∧ Below w.heap.size w wr) (fun v11 _ => len - (intOf v11).toNat)
  case atStart => exact ⟨0, by omega, rfl, rfl, Below.refl _ _⟩
  case round =>
    obtain ⟨j, hj, rfl, hno, hbr⟩ := hrel
    by_cases hjl : j < len
    · have hjz : (j : Int) < (len : Int) := by omega
      obtain ⟨b, off, rfl, hin⟩ := HI.out.2.2.resolve_left (by omega)
      obtain ⟨k0, k1, k2, k3, k4, k5⟩ := (hin j hjl).below hbr
      obtain ⟨x, hx⟩ : ∃ x, x = l[j]?.getD inD := ⟨_, rfl⟩
      have hjm : j < l.length := by have := HI.out.1; omega
      have hst := uses_succ l j hjm d s
      rw [← hx] at k0 k1 k2 k3 k4 k5 hst
      have hmem : x ∈ l := by rw [hx]; exact mem_getI _ _ hjm
      have zk := lt_of_cell k0
      simp only at zk
      rw [hno] at hst
      have HST := hide hst
      have HB := hide (bl_on hbr (bl_new (w := wr) (.cells #[.int .i64 x.d, .int .i64 x.a, .int .i64 x.b, .int .i64 x.c, .int .i64 x.n, .int .i64 x.v] 36)))
      have HME := hide hmem
      clear hin hx hst hno hbr hmem
      by_cases e1 : x.d = d
      · have q1 : (x.d == d) = true := by simpa using e1
        by_cases e2 : x.a = s
        · have q2 : (x.a == s) = true := by simpa using e2
          have hr : R = true := by
            rw [HR.out]
            unfold usesV
            rw [List.any_eq_true]
            exact ⟨x, HME.out, by simp [e1, e2]⟩
          clear e1 e2
          go_wp2_with fail
          go_ret
          exact ⟨by first | rfl | (rw [hr]; rfl), HB.out⟩
        · have q2 : (x.a == s) = false := by simpa using e2
          have HN : Hid (usesV (l.take (j + 1)) d s = false) := by rw [Hid, HST.out]; simp [e2]
          clear e1 e2
          go_wp2_with fail
          go_roundw
          case rel => exact ⟨j + 1, by omega, by go_num, HN.out, HB.out⟩
          case measure => simp [intOf]; omega
      · have q1 : (x.d == d) = false := by simpa using e1
        have HN : Hid (usesV (l.take (j + 1)) d s = false) := by rw [Hid, HST.out]; simp [e1]
        clear e1
        go_wp2_with fail
        go_roundw
        case rel => exact ⟨j + 1, by omega, by go_num, HN.out, HB.out⟩
        case measure => simp [intOf]; omega
    · have hjz : ¬ (j : Int) < (len : Int) := by omega
      obtain rfl : j = len := by omega
      have hr : R = false := by
        rw [HR.out]
        have e1 : l.take j = l := List.take_of_length_le (by have := HI.out.1; omega)
        rw [e1] at hno
        exact hno
      have HB := hide hbr
      clear hno hbr
      go_wp2_with fail
      go_ret
      exact ⟨by first | rfl | (rw [hr]; rfl), HB.out⟩
end Go.Proofs.Ytjmeghicfiiclaa.V
