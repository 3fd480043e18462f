/-
  Contracts: array.Dims, of Add, Sub and Mul, of two lists of dimensions that are the same.
-/
import Derived.Test.YtiocknidgiccjacHArrWork
import Derived.Test.YtiocknidgiccjacGArrOthers
import Derived.Test.YtiocknidgiccjacHArrSum
namespace Go.Proofs.Ytiocknidgiccjac.V
open Go.RowKit

set_option maxRecDepth 100000 in
set_option maxHeartbeats 1000000 in
theorem sameDims2 (R : Nat) (da : Option Addr) (dl dc : Nat) (ea : Option Addr) (el ec : Nat) (ds : List Int) (w : World)
    (q0 : w.cell? ⟨R, 0, none⟩ = some (.slice da dl dc)) (q1 : w.cell? ⟨R, 1, none⟩ = some (.slice ea el ec)) (hd : Ints w da dl ds) (he : Ints w ea el ds) (hz : sizeE ds = 0) :
    Calls Try.prog 43 #[.slice (some ⟨R, 0, none⟩) 2 2] w fun e w' => (∃ g, e = .returned (.tuple #[.slice (some ⟨g, 0, none⟩) dl dl, .int .i64 0]) ∧ RowI w' g dl ds ∧ w.heap.size ≤ g) ∧ Below w.heap.size w w' := by
  have h6 : dl ≤ 6 := by have := (sizeE_ok hz).1; have := hd.1; omega
  have HD := hide hd
  have HE := hide he
  have HQ0 := hide q0
  have HQ1 := hide q1
  have hR : R < w.heap.size := lt_of_cell q0
  clear hd he q0 q1 hz
  go_enter Try.func43, Try.ntmps43
  go_wp2
  go_loopw [8] (fun i wr => ∃ k : Nat, k ≤ 2 ∧ i = .int .i64 k ∧ Below w.heap.size w wr) (fun i _ => 2 - (intOf i).toNat)
  case atStart => exact ⟨0, by omega, rfl, Below.refl _ _⟩
  case round =>
    obtain ⟨k, hk, rfl, hB⟩ := hrel
    have HB := hide hB
    clear hB
    have k0 : wr.cell? ⟨R, 0, none⟩ = some (.slice da dl dc) := (HB.out.cell (p := ⟨R, 0, none⟩) hR).trans HQ0.out
    have k1 : wr.cell? ⟨R, 1, none⟩ = some (.slice ea el ec) := (HB.out.cell (p := ⟨R, 1, none⟩) hR).trans HQ1.out
    have hcases : k = 0 ∨ k = 1 ∨ k = 2 := by omega
    rcases hcases with rfl | rfl | rfl
    · go_wp2_with (go_at_call 65; refine (equal_any _ _ _ ds _ _ _ ds _ (HD.out.below HB.out) (HD.out.below HB.out)).mono ?_; rintro e w1 ⟨rfl, n1, hw1⟩; rw [decide_eq_true (rfl : ds = ds)]; have HB1 := hide (Below.on HB.out (hw1 ▸ below_drewN _ n1)); clear hw1)
      go_roundw
      case rel => exact ⟨1, by omega, by go_num, HB1.out⟩
      case measure => simp [intOf]
    · go_wp2_with (go_at_call 65; refine (equal_any _ _ _ ds _ _ _ ds _ (HE.out.below HB.out) (HD.out.below HB.out)).mono ?_; rintro e w1 ⟨rfl, n1, hw1⟩; rw [decide_eq_true (rfl : ds = ds)]; have HB1 := hide (Below.on HB.out (hw1 ▸ below_drewN _ n1)); clear hw1)
      go_roundw
      case rel => exact ⟨2, by omega, by go_num, HB1.out⟩
      case measure => simp [intOf]
    · go_wp2_with (go_at_call 34; refine (afresh_any _ _ _ ds _ (HD.out.below HB.out) (by omega)).mono ?_; rintro e w1 ⟨⟨g, rfl, hr, hg⟩, hb⟩; have HR := hide hr; have HB1 := hide (Below.on HB.out hb); have hgg : w.heap.size ≤ g := Nat.le_trans HB.out.size hg; clear hr hb hg)
      go_ret2
      exact ⟨⟨g, rfl, HR.out, hgg⟩, HB1.out⟩

set_option maxRecDepth 100000 in
set_option maxHeartbeats 2000000 in
theorem shape2 (k : Int) (hk : k = 3 ∨ k = 4 ∨ k = 5) (R : Nat) (da : Option Addr) (dl dc : Nat) (ea : Option Addr) (el ec : Nat) (ds : List Int) (w : World)
    (q0 : w.cell? ⟨R, 0, none⟩ = some (.slice da dl dc)) (q1 : w.cell? ⟨R, 1, none⟩ = some (.slice ea el ec)) (hd : Ints w da dl ds) (he : Ints w ea el ds) (hz : sizeE ds = 0) :
    Calls Try.prog 22 #[.agg #[.int .i64 k, .slice none 0 0, .slice none 0 0, .slice none 0 0, .slice none 0 0, .slice none 0 0, .int .i64 0], .slice (some ⟨R, 0, none⟩) 2 2] w fun e w' => (∃ g, e = .returned (.tuple #[.slice (some ⟨g, 0, none⟩) dl dl, .int .i64 0]) ∧ RowI w' g dl ds ∧ w.heap.size ≤ g) ∧ Below w.heap.size w w' := by
  have HB1 := hide ((Below.refl w.heap.size w).alloc (Nat.le_refl _) (.cells #[.int .i64 k, .slice none 0 0, .slice none 0 0, .slice none 0 0, .slice none 0 0, .slice none 0 0, .int .i64 0] 33))
  have HOP := hide (OpAt.new w k (.slice none 0 0) (.slice none 0 0) (.slice none 0 0) (.slice none 0 0) (.slice none 0 0) 0)
  obtain ⟨o0, o1, o2, o3, o4, o5, o6⟩ := HOP.out.cells
  have HS := hide (sameDims2 R da dl dc ea el ec ds (w.alloc (.cells #[.int .i64 k, .slice none 0 0, .slice none 0 0, .slice none 0 0, .slice none 0 0, .slice none 0 0, .int .i64 0] 33)) (alloc_cell q0) (alloc_cell q1) (hd.below HB1.out) (he.below HB1.out) hz)
  clear q0 q1 hd he hz
  rcases hk with rfl | rfl | rfl
  all_goals go_enter Try.func22, Try.ntmps22
  all_goals go_wp2_with (go_at_call 43; refine HS.out.mono ?_; rintro e w1 ⟨⟨g, rfl, hr, hg⟩, hb⟩; have HR := hide hr; have HB2 := hide (Below.on HB1.out hb); have hgg : w.heap.size ≤ g := Nat.le_trans HB1.out.size hg; clear hr hb hg)
  all_goals go_ret2
  all_goals exact ⟨⟨g, rfl, HR.out, hgg⟩, HB2.out⟩

theorem takes_two {k : Int} (hk : k = 3 ∨ k = 4 ∨ k = 5) : takesE k 2 = 0 := by rcases hk with rfl | rfl | rfl <;> decide

set_option maxRecDepth 100000 in
set_option maxHeartbeats 2000000 in
theorem Dims2 (k : Int) (hk : k = 3 ∨ k = 4 ∨ k = 5) (R : Nat) (da : Option Addr) (dl dc : Nat) (ea : Option Addr) (el ec : Nat) (ds : List Int) (w : World)
    (q0 : w.cell? ⟨R, 0, none⟩ = some (.slice da dl dc)) (q1 : w.cell? ⟨R, 1, none⟩ = some (.slice ea el ec)) (hd : Ints w da dl ds) (he : Ints w ea el ds) (hz : sizeE ds = 0) :
    Calls Try.prog 18 #[.agg #[.int .i64 k, .slice none 0 0, .slice none 0 0, .slice none 0 0, .slice none 0 0, .slice none 0 0, .int .i64 0], .slice (some ⟨R, 0, none⟩) 2 2] w fun e w' => (∃ g, e = .returned (.tuple #[.slice (some ⟨g, 0, none⟩) dl dl, .int .i64 0]) ∧ RowI w' g dl ds ∧ w.heap.size ≤ g) ∧ Below w.heap.size w w' := by
  have HB1 := hide ((Below.refl w.heap.size w).alloc (Nat.le_refl _) (.cells #[.int .i64 k, .slice none 0 0, .slice none 0 0, .slice none 0 0, .slice none 0 0, .slice none 0 0, .int .i64 0] 33))
  have HOP := hide (OpAt.new w k (.slice none 0 0) (.slice none 0 0) (.slice none 0 0) (.slice none 0 0) (.slice none 0 0) 0)
  obtain ⟨o0, o1, o2, o3, o4, o5, o6⟩ := HOP.out.cells
  have h6 : dl ≤ 6 := by have := (sizeE_ok hz).1; have := hd.1; omega
  have HD := hide hd
  have HE := hide he
  have HZ := hide hz
  have HQ0 := hide q0
  have HQ1 := hide q1
  have hR : R < w.heap.size := lt_of_cell q0
  have HTT := hide (takes_two hk)
  have HK := hide hk
  clear q0 q1 hd he hz hk
  go_enter Try.func18, Try.ntmps18
  go_wp2_with (go_at_call 17; refine (takes_any _ _ _).mono ?_; rintro e w' ⟨rfl, hw'⟩; obtain rfl := hw'.symm; rw [HTT.out])
  go_loopw [25] (fun i wr => ∃ j : Nat, j ≤ 2 ∧ i = .int .i64 j ∧ OpAt wr w.heap.size k (.slice none 0 0) (.slice none 0 0) (.slice none 0 0) (.slice none 0 0) (.slice none 0 0) 0 ∧ Below w.heap.size w wr) (fun i _ => 2 - (intOf i).toNat)
  case atStart => exact ⟨0, by omega, rfl, HOP.out, HB1.out⟩
  case round =>
    obtain ⟨j, hj, rfl, ho, hB⟩ := hrel
    have HO := hide ho
    have HB := hide hB
    clear ho hB o0 o1 o2 o3 o4 o5 o6
    have k0 : wr.cell? ⟨R, 0, none⟩ = some (.slice da dl dc) := (HB.out.cell (p := ⟨R, 0, none⟩) hR).trans HQ0.out
    have k1 : wr.cell? ⟨R, 1, none⟩ = some (.slice ea el ec) := (HB.out.cell (p := ⟨R, 1, none⟩) hR).trans HQ1.out
    have hcases : j = 0 ∨ j = 1 ∨ j = 2 := by omega
    rcases hcases with rfl | rfl | rfl
    · go_wp2_with (go_at_call 21; refine (size_any _ _ _ ds _ (HD.out.below HB.out)).mono ?_; rintro e w' ⟨rfl, hw'⟩; obtain rfl := hw'.symm; rw [HZ.out])
      go_roundw
      case rel => exact ⟨1, by omega, by go_num, HO.out, HB.out⟩
      case measure => simp [intOf]
    · go_wp2_with (go_at_call 21; refine (size_any _ _ _ ds _ (HE.out.below HB.out)).mono ?_; rintro e w' ⟨rfl, hw'⟩; obtain rfl := hw'.symm; rw [HZ.out])
      go_roundw
      case rel => exact ⟨2, by omega, by go_num, HO.out, HB.out⟩
      case measure => simp [intOf]
    · have HS := hide (shape2 k HK.out R da dl dc ea el ec ds wr k0 k1 (HD.out.below HB.out) (HE.out.below HB.out) HZ.out)
      obtain ⟨o0, o1, o2, o3, o4, o5, o6⟩ := HO.out.cells
      have HLD := hide HD.out.1
      have HBD := hide HD.out.2.2.1
      go_wp2_with (first
        | (go_at_call 22; refine HS.out.mono ?_; rintro e w1 ⟨⟨g, rfl, hr, hg⟩, hb⟩; have HR := hide hr; have HB2 := hide (Below.on HB.out hb); have hgg : w.heap.size ≤ g := Nat.le_trans HB.out.size hg; clear hr hb hg)
        | (go_at_call 21; refine (size_any _ _ _ ds _ (ints_of_rowI HR.out HLD.out (by omega) HBD.out)).mono ?_; rintro e w' ⟨rfl, hw'⟩; obtain rfl := hw'.symm; rw [HZ.out]))
      go_ret2
      exact ⟨⟨g, rfl, HR.out, hgg⟩, HB2.out⟩
end Go.Proofs.Ytiocknidgiccjac.V
