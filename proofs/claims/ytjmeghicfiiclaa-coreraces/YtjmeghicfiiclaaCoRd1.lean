/-
  The document: two stretches that meet; two instructions that are in each other's way.
-/
import Derived.Test.YtjmeghicfiiclaaCoR2
import Derived.Test.YtjmeghicfiiclaaCoRcM
namespace Go.Proofs.Ytjmeghicfiiclaa.V
open Go Go.RowKit
set_option linter.unusedVariables false

theorem rMeet_any (s t : Str) (hs : s.Sm) (ht : t.Sm) (w : World) : Calls Try.prog 24 #[.agg #[.int .i64 s.f, .int .i64 s.w], .agg #[.int .i64 t.f, .int .i64 t.w]] w fun e w' => e = .returned (.bool (meetV s t)) ∧ Below w.heap.size w w' := by
  have HB := hide (bl_on (bl_new (w := w) (.cells #[.int .i64 s.f, .int .i64 s.w] 57)) (bl_new (.cells #[.int .i64 t.f, .int .i64 t.w] 57)))
  have hw1 : IntKind.i64.wrap (s.f + s.w) = s.f + s.w := by rw [IntKind.wrap_i64]; have := hs.f; have := hs.w; omega
  have hw2 : IntKind.i64.wrap (t.f + t.w) = t.f + t.w := by rw [IntKind.wrap_i64]; have := ht.f; have := ht.w; omega
  obtain ⟨R, hR⟩ : ∃ R, R = meetV s t := ⟨_, rfl⟩
  rw [← hR]
  have HR := hide hR
  clear hR hs ht
  go_enter Try.func24, Try.ntmps24
  by_cases p1 : 0 < s.w
  · by_cases p2 : 0 < t.w
    · by_cases p3 : s.f < t.f + t.w
      · by_cases p4 : t.f < s.f + s.w
        · have hr : R = true := by rw [HR.out]; simp [meetV, p1, p2, p3, p4]
          go_wp2
          go_ret
          exact ⟨by first | rfl | (rw [hr]; rfl), HB.out⟩
        · have hr : R = false := by rw [HR.out]; simp [meetV, p1, p2, p3, p4]
          go_wp2
          go_ret
          exact ⟨by first | rfl | (rw [hr]; rfl), HB.out⟩
      · have hr : R = false := by rw [HR.out]; simp [meetV, p1, p2, p3]
        go_wp2
        go_ret
        exact ⟨by first | rfl | (rw [hr]; rfl), HB.out⟩
    · have hr : R = false := by rw [HR.out]; simp [meetV, p1, p2]
      go_wp2
      go_ret
      exact ⟨by first | rfl | (rw [hr]; rfl), HB.out⟩
  · have hr : R = false := by rw [HR.out]; simp [meetV, p1]
    go_wp2
    go_ret
    exact ⟨by first | rfl | (rw [hr]; rfl), HB.out⟩
/-- The document's: what is in each other's way. -/
def rClashI (x y : In) : Bool :=
  meetV (rTchV x).wr (rTchV y).wr || ((meetV (rTchV x).wr (rTchV y).r0 || meetV (rTchV y).wr (rTchV x).r0) || (meetV (rTchV x).wr (rTchV y).r1 || meetV (rTchV y).wr (rTchV x).r1) || (meetV (rTchV x).wr (rTchV y).r2 || meetV (rTchV y).wr (rTchV x).r2))
/-- Both name the same stretches, in whatever order. -/
theorem rtch_reads (x : In) (h1 : 1 ≤ x.d) (h2 : x.d ≤ 14) : (rTchV x).wr = (tchV x).wr ∧ ∀ s, (meetV s (rTchV x).r0 || meetV s (rTchV x).r1 || meetV s (rTchV x).r2) = (meetV s (tchV x).r0 || meetV s (tchV x).r1 || meetV s (tchV x).r2) := by
  unfold rTchV tchV
  by_cases e3 : x.d = 3 ∨ x.d = 4
  · rw [if_neg (by omega), if_neg (by omega), if_neg (by omega), if_neg (by omega), if_neg (by omega), if_neg (by omega), if_pos e3]
    exact ⟨rfl, fun s => rfl⟩
  rw [if_neg e3]
  by_cases e1 : x.d = 1 ∨ x.d = 5
  · rw [if_pos e1, if_pos e1]; exact ⟨rfl, fun s => rfl⟩
  rw [if_neg e1, if_neg e1]
  by_cases e2 : x.d = 2
  · rw [if_pos e2, if_pos e2]; exact ⟨rfl, fun s => rfl⟩
  rw [if_neg e2, if_neg e2]
  by_cases e6 : 6 ≤ x.d ∧ x.d ≤ 10
  · rw [if_pos e6, if_neg (by omega), if_neg (by omega), if_neg (by omega)]
    refine ⟨rfl, fun s => ?_⟩
    simp only [meet_z, Bool.false_or, Bool.or_false]
  rw [if_neg e6]
  by_cases e11 : x.d = 11 ∨ x.d = 12
  · rw [if_pos e11, if_pos e11]; exact ⟨rfl, fun s => rfl⟩
  rw [if_neg e11, if_neg e11]
  by_cases e13 : x.d = 13
  · rw [if_pos e13, if_pos e13]; exact ⟨rfl, fun s => rfl⟩
  rw [if_neg e13, if_neg e13, if_pos (by omega), if_pos (by omega)]
  exact ⟨rfl, fun s => rfl⟩
theorem rClash_is (x y : In) (h1 : 1 ≤ x.d) (h2 : x.d ≤ 14) (k1 : 1 ≤ y.d) (k2 : y.d ≤ 14) : rClashI x y = clashI x y := by
  obtain ⟨a1, a2⟩ := rtch_reads x h1 h2
  obtain ⟨b1, b2⟩ := rtch_reads y k1 k2
  have a3 := a2 (tchV y).wr
  have b3 := b2 (tchV x).wr
  unfold rClashI clashI spoilV
  rw [a1, b1, ← a3, ← b3, meet_comm (tchV y).wr (tchV x).wr]
  generalize meetV (tchV x).wr (tchV y).wr = p
  generalize meetV (tchV x).wr (rTchV y).r0 = p0
  generalize meetV (tchV x).wr (rTchV y).r1 = p1
  generalize meetV (tchV x).wr (rTchV y).r2 = p2
  generalize meetV (tchV y).wr (rTchV x).r0 = q0
  generalize meetV (tchV y).wr (rTchV x).r1 = q1
  generalize meetV (tchV y).wr (rTchV x).r2 = q2
  revert p p0 p1 p2 q0 q1 q2
  decide
end Go.Proofs.Ytjmeghicfiiclaa.V
