/-
  Contract: adjointref3.sign.
-/
import Derived.Test.YtadhlnlcdljamaaGreatDoorTxNum
namespace Go.Proofs.YtadhlnlcdljamaaGreatDoor.V
set_option maxRecDepth 20000
open Go.RowKit

/-- The tokens that are no words. -/
def marksL : List Int := [40, 41, 91, 93, 123, 125, 44, 58, 61, 43, 45, 42, 59]
def markI (c : Int) : Bool := marksL.any fun m => m == c
theorem mark_succ {c : Int} {k : Nat} (hk : k < 13) (h : (marksL.take k).any (fun m => m == c) = false) (hm : (marksL[k]?.getD 0 == c) = false) : (marksL.take (k + 1)).any (fun m => m == c) = false := by
  rw [take_succ_at marksL k hk, List.any_append, h]; simp [hm]
theorem mark_yes {c : Int} {k : Nat} (hk : k < 13) (hm : (marksL[k]?.getD 0 == c) = true) : markI c = true := by
  unfold markI
  rw [List.any_eq_true]
  exact ⟨marksL[k]'hk, List.getElem_mem hk, by rw [List.getElem?_eq_getElem hk] at hm; exact hm⟩

set_option maxRecDepth 100000 in
set_option maxHeartbeats 2000000 in
theorem rSign (c : Int) (w : World) : Calls Tryz.prog 23 #[.int .u8 c] w fun e w' => e = .returned (.bool (markI c)) ∧ w' = w := by
  go_enter Tryz.func23, Tryz.ntmps23
  go_wp2
  go_loop [3] (fun i => ∃ k : Nat, k ≤ 13 ∧ i = .int .i64 (k : Int) ∧ (marksL.take k).any (fun m => m == c) = false) (fun i => 13 - (intOf i).toNat)
  case atStart => exact ⟨0, Nat.zero_le _, rfl, rfl⟩
  case round =>
    obtain ⟨k, hkn, rfl, ha⟩ := hrel
    have HA := hide ha
    clear ha
    by_cases hlt : k < 13
    · cases hm : (marksL[k]?.getD 0 == c) with
      | true =>
        have HM := hide (mark_yes hlt hm)
        have hk : k = 0 ∨ k = 1 ∨ k = 2 ∨ k = 3 ∨ k = 4 ∨ k = 5 ∨ k = 6 ∨ k = 7 ∨ k = 8 ∨ k = 9 ∨ k = 10 ∨ k = 11 ∨ k = 12 := by omega
        rcases hk with rfl | rfl | rfl | rfl | rfl | rfl | rfl | rfl | rfl | rfl | rfl | rfl | rfl
        all_goals simp only [marksL, List.getElem?_cons_zero, List.getElem?_cons_succ, Option.getD_some] at hm
        all_goals go_wp2
        all_goals first
          | (exfalso; rename_i h; have h' := hm.symm.trans h; cases h'; done)
          | (go_ret; exact ⟨by rw [HM.out]; rfl, rfl⟩)
      | false =>
        have HM := hide (mark_succ hlt HA.out hm)
        have hk : k = 0 ∨ k = 1 ∨ k = 2 ∨ k = 3 ∨ k = 4 ∨ k = 5 ∨ k = 6 ∨ k = 7 ∨ k = 8 ∨ k = 9 ∨ k = 10 ∨ k = 11 ∨ k = 12 := by omega
        rcases hk with rfl | rfl | rfl | rfl | rfl | rfl | rfl | rfl | rfl | rfl | rfl | rfl | rfl
        all_goals simp only [marksL, List.getElem?_cons_zero, List.getElem?_cons_succ, Option.getD_some] at hm
        all_goals go_wp2
        all_goals try (exfalso; rename_i h hw; have h' := hm.symm.trans h; cases h'; done)
        all_goals try (exfalso; rename_i h; have h' := hm.symm.trans h; cases h'; done)
        · go_round
          case rel => exact ⟨1, by omega, rfl, HM.out⟩
          case measure => simp [intOf]
        · go_round
          case rel => exact ⟨2, by omega, rfl, HM.out⟩
          case measure => simp [intOf]
        · go_round
          case rel => exact ⟨3, by omega, rfl, HM.out⟩
          case measure => simp [intOf]
        · go_round
          case rel => exact ⟨4, by omega, rfl, HM.out⟩
          case measure => simp [intOf]
        · go_round
          case rel => exact ⟨5, by omega, rfl, HM.out⟩
          case measure => simp [intOf]
        · go_round
          case rel => exact ⟨6, by omega, rfl, HM.out⟩
          case measure => simp [intOf]
        · go_round
          case rel => exact ⟨7, by omega, rfl, HM.out⟩
          case measure => simp [intOf]
        · go_round
          case rel => exact ⟨8, by omega, rfl, HM.out⟩
          case measure => simp [intOf]
        · go_round
          case rel => exact ⟨9, by omega, rfl, HM.out⟩
          case measure => simp [intOf]
        · go_round
          case rel => exact ⟨10, by omega, rfl, HM.out⟩
          case measure => simp [intOf]
        · go_round
          case rel => exact ⟨11, by omega, rfl, HM.out⟩
          case measure => simp [intOf]
        · go_round
          case rel => exact ⟨12, by omega, rfl, HM.out⟩
          case measure => simp [intOf]
        · go_round
          case rel => exact ⟨13, by omega, rfl, HM.out⟩
          case measure => simp [intOf]
    · have hk : k = 13 := by omega
      subst hk
      go_wp2
      go_ret
      exact ⟨by rw [markI, ← HA.out]; rfl, rfl⟩
end Go.Proofs.YtadhlnlcdljamaaGreatDoor.V
