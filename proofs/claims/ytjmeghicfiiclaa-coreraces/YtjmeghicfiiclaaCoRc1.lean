/-
  Contracts: slices.Max, core.leave.
-/
import Derived.Test.YtjmeghicfiiclaaCoRcM
import Derived.Test.YtjmeghicfiiclaaCoW3
namespace Go.Proofs.Ytjmeghicfiiclaa.V
open Go Go.RowKit
set_option linter.unusedVariables false

/-- A row of numbers. -/
def IRow (w : World) (g n : Nat) (f : Nat → Int) : Prop := w.rowIs g 3 n (fun i => .int .i64 (f i))
theorem IRow.below {w w' : World} {g n : Nat} {f : Nat → Int} (h : IRow w g n f) (hb : Below w.heap.size w w') : IRow w' g n f := World.rowIs.of_block h (hb.block _ h.lt)
theorem IRow.congr {w : World} {g n : Nat} {f f' : Nat → Int} (h : IRow w g n f) (he : ∀ i, i < n → f i = f' i) : IRow w g n f' := World.rowIs.congr h fun i hi => by rw [he i hi]
theorem IRow.put {w : World} {g n : Nat} {f : Nat → Int} (h : IRow w g n f) (i : Nat) (v : Int) : IRow (w.setCell ⟨g, i, none⟩ (.int .i64 v)) g n (fun j => if j = i then v else f j) := by
  refine World.rowIs.congr (World.rowIs.set h i (.int .i64 v)) fun j hj => ?_
  by_cases e : j = i <;> simp [e]
/-- The greatest of k numbers from a place on. -/
def maxTo (f : Nat → Int) : Nat → Int
  | 0 => f 0
  | k + 1 => max (maxTo f k) (f (k + 1))
theorem maxTo_gt (f : Nat → Int) (b : Int) : ∀ k, b < maxTo f k ↔ ∃ i, i ≤ k ∧ b < f i
  | 0 => by
    rw [maxTo]
    exact ⟨fun h => ⟨0, by omega, h⟩, fun ⟨i, hi, h⟩ => by have : i = 0 := by omega
                                                           subst this; exact h⟩
  | k + 1 => by
    have ih := maxTo_gt f b k
    rw [maxTo]
    constructor
    · intro h
      by_cases h1 : b < maxTo f k
      · obtain ⟨i, hi, h2⟩ := ih.1 h1
        exact ⟨i, by omega, h2⟩
      · exact ⟨k + 1, by omega, by omega⟩
    · rintro ⟨i, hi, h⟩
      by_cases e : i = k + 1
      · subst e; omega
      · have := ih.2 ⟨i, by omega, h⟩
        omega
theorem max_any (g o len cap n : Nat) (f : Nat → Int) (w : World) (h : IRow w g n f) (h0 : 0 < len) (hl : o + len ≤ n) (hm : len ≤ 1000000000) :
    Calls Try.prog 33 #[.slice (some ⟨g, o, none⟩) len cap] w fun r w' => r = .returned (.int .i64 (maxTo (fun i => f (o + i)) (len - 1))) ∧ w' = w := by
  have c0 := h.cell (i := o) (by omega)
  have zg := h.lt
  have HI := hide h
  have h1 : ¬ (len : Int) < 1 := by omega
  have h2 : (0 : Int) < (len : Int) := by omega
  have h3 : ¬ len < 1 := by omega
  clear h
  go_enter Try.func33, Try.ntmps33
  go_wp2_with fail
  go_loop [3, 4] (fun v3 v4 => ∃ m : Nat, 1 ≤ m ∧ m ≤ len ∧ v4 = .int .i64 (m : Int) ∧ v3 = .int .i64 (maxTo (fun i => f (o + i)) (m - 1))) (fun v3 v4 => len - (intOf v4).toNat)
  case atStart => exact ⟨1, by omega, by omega, rfl, rfl⟩
  case round =>
    obtain ⟨m, hm1, hml, rfl, rfl⟩ := hrel
    by_cases hlt : m < len
    · have hz : (m : Int) < (len : Int) := by omega
      have cm := HI.out.cell (i := o + m) (by omega)
      obtain ⟨X, hX⟩ : ∃ X, X = maxTo (fun i => f (o + i)) (m - 1) := ⟨_, rfl⟩
      obtain ⟨Y, hY⟩ : ∃ Y, Y = f (o + m) := ⟨_, rfl⟩
      have hE : maxTo (fun i => f (o + i)) m = max X Y := by
        obtain ⟨q, rfl⟩ : ∃ q, m = q + 1 := ⟨m - 1, by omega⟩
        rw [maxTo, hX, hY]
        rfl
      have HE := hide hE
      simp only [← hY] at cm
      rw [← hX]
      clear hX hY hE
      by_cases hxy : X ≤ Y
      · have HM : Hid (maxTo (fun i => f (o + i)) m = Y) := by rw [Hid, HE.out]; omega
        go_wp2_with fail
        all_goals go_round
        all_goals first
          | exact ⟨m + 1, by omega, by omega, by go_num, by rw [Nat.add_sub_cancel, HM.out]; try (congr 1; omega)⟩
          | (simp [intOf]; omega)
      · have HM : Hid (maxTo (fun i => f (o + i)) m = X) := by rw [Hid, HE.out]; omega
        go_wp2_with fail
        all_goals go_round
        all_goals first
          | exact ⟨m + 1, by omega, by omega, by go_num, by rw [Nat.add_sub_cancel, HM.out]; try (congr 1; omega)⟩
          | (simp [intOf]; omega)
    · have hz : ¬ (m : Int) < (len : Int) := by omega
      obtain rfl : m = len := by omega
      go_wp2_with fail
      go_ret
      exact ⟨rfl, rfl⟩
theorem inS_nat {s : Str} (F : Nat) (hF : s.f = (F : Int)) (i : Nat) : inS s (i : Int) = (decide (F ≤ i) && decide ((i : Int) < (F : Int) + s.w)) := by
  unfold inS
  rw [hF]
  have : decide ((F : Int) ≤ (i : Int)) = decide (F ≤ i) := by
    by_cases h : F ≤ i
    · rw [decide_eq_true h, decide_eq_true (by omega)]
    · rw [decide_eq_false h, decide_eq_false (by omega)]
  rw [this]
theorem inB_pos {s : Str} {pad : Int} (h : inB s pad = true) (h0 : s.w ≠ 0) : 0 ≤ s.f ∧ s.f + s.w ≤ pad := by
  simp only [inB, Bool.or_eq_true, Bool.and_eq_true, decide_eq_true_eq] at h
  rcases h with h | h
  · exact absurd h h0
  · exact h
theorem grown_set {w : World} {g i : Nat} {v : Value} : w.grownBy (w.setCell ⟨g, i, none⟩ v) (some g) :=
  ⟨rfl, rfl, rfl, by simp, fun b hb hne => heap_setCell_other _ _ _ _ (fun e => hne (by rw [e]))⟩
theorem grown_tr {row : Option Nat} {w w' w'' : World} (h : w.grownBy w' row) (k : w'.grownBy w'' row) : w.grownBy w'' row :=
  ⟨k.os.trans h.os, k.tape.trans h.tape, k.output.trans h.output, Nat.le_trans h.size k.size, fun i hi hne => (k.block i (Nat.lt_of_lt_of_le hi h.size) hne).trans (h.block i hi hne)⟩
theorem grown_bl {row : Option Nat} {w w' : World} (h : Below w.heap.size w w') : w.grownBy w' row := ⟨h.os, h.tape, h.output, h.size, fun i hi _ => h.block i hi⟩
set_option maxRecDepth 100000 in
theorem leave_any (g pad : Nat) (f : Nat → Int) (s : Str) (n : Int) (hs : s.Sm) (hin : inB s (pad : Int) = true) (hp : pad ≤ 1000000) (w : World) (h : IRow w g pad f) :
    Calls Try.prog 31 #[.slice (some ⟨g, 0, none⟩) pad pad, .agg #[.int .i64 s.f, .int .i64 s.w], .int .i64 n] w fun e w' => e = .returned (.tuple #[]) ∧ IRow w' g pad (fun i => if inS s (i : Int) = true then n else f i) ∧ w.grownBy w' (some g) := by
  obtain ⟨W, hW⟩ : ∃ W, W = w.alloc (.cells #[.int .i64 s.f, .int .i64 s.w] 46) := ⟨_, rfl⟩
  have hb : Below w.heap.size w W := by rw [hW]; exact bl_new _
  have hS : SBlk W w.heap.size s.f s.w := by rw [hW]; exact World.alloc_heap_new _ _
  have hR := h.below hb
  have hgl := h.lt
  have hs0 := hs.w
  have HW := hide hW
  have HB := hide hb
  have HS := hide hS
  have HR := hide hR
  have HIN := hide hin
  obtain ⟨⟨c0, c1⟩, zc⟩ := hS.cells
  clear hW hb hS hR hin hs
  go_enter Try.func31, Try.ntmps31
  go_upto_region 1 with fail
  rw [← HW.out]
  go_wp2_with fail
  go_loopw [9] (fun v9 wr => ∃ j : Nat, (j : Int) ≤ s.w ∧ v9 = .int .i64 j ∧ IRow wr g pad (fun i => if s.f ≤ (i : Int) ∧ (i : Int) < s.f + (j : Int) then n else f i) ∧ W.grownBy wr (some g)) (fun v9 _ => (s.w - intOf v9).toNat)
  case atStart => exact ⟨0, by omega, rfl, HR.out.congr fun i hi => by rw [if_neg (by omega)], grown_bl (Below.refl _ _)⟩
  case round =>
    obtain ⟨j, hj, rfl, hr, hg⟩ := hrel
    by_cases hlt : (j : Int) < s.w
    · have hpos := inB_pos HIN.out (by omega)
      obtain ⟨F, hF⟩ : ∃ F : Nat, s.f = (F : Int) := ⟨s.f.toNat, by omega⟩
      have hS2 : SBlk wr w.heap.size s.f s.w := (hg.block _ zc (by simp; omega)).trans HS.out
      clear c0 c1
      obtain ⟨⟨c0, c1⟩, zc2⟩ := hS2.cells
      rw [hF] at c0
      have hix : (F : Int) + (j : Int) = ((F + j : Nat) : Int) := by omega
      have hw1 : IntKind.i64.wrap ((F : Int) + (j : Int)) = ((F + j : Nat) : Int) := by rw [IntKind.wrap_i64]; omega
      have hlt2 : ((F + j : Nat) : Int) < (pad : Int) := by omega
      have d0 := hr.cell (i := F + j) (by omega)
      have y0 := hr.frozen (F + j)
      have zg := hr.lt
      have HN : Hid (IRow (wr.setCell ⟨g, F + j, none⟩ (.int .i64 n)) g pad (fun i => if s.f ≤ (i : Int) ∧ (i : Int) < s.f + ((j + 1 : Nat) : Int) then n else f i)) := (hr.put (F + j) n).congr fun i hi => by
        rw [hF]
        by_cases e : i = F + j
        · rw [if_pos e, if_pos (by omega)]
        · rw [if_neg e]
          by_cases h1 : (F : Int) ≤ (i : Int) ∧ (i : Int) < (F : Int) + (j : Int)
          · rw [if_pos h1, if_pos (by omega)]
          · rw [if_neg h1, if_neg (by omega)]
      have HG := hide (grown_tr hg (grown_set (g := g) (i := F + j) (v := .int .i64 n)))
      clear hr hg hS2 hpos hF hix
      go_wp2_with fail
      go_roundw
      case rel => exact ⟨j + 1, by omega, by go_num, HN.out, HG.out⟩
      case measure => simp [intOf]; omega
    · have hjw : (j : Int) = s.w := by omega
      have HN : Hid (IRow wr g pad (fun i => if inS s (i : Int) = true then n else f i)) := hr.congr fun i hi => by
        rw [hjw]
        by_cases h1 : s.f ≤ (i : Int) ∧ (i : Int) < s.f + s.w
        · rw [if_pos h1, if_pos (by simp [inS, h1.1, h1.2])]
        · rw [if_neg h1, if_neg (by simp only [inS, Bool.and_eq_true, decide_eq_true_eq]; exact h1)]
      have HG := hide (grown_tr (grown_bl HB.out) hg)
      clear hr hg hjw c0 c1
      go_wp2_with fail
      refine bodyPost_end (v := .tuple #[]) ?_ rfl ⟨rfl, HN.out, HG.out⟩
      simp [results, Try.results31, go_sem]
end Go.Proofs.Ytjmeghicfiiclaa.V
