/-
  Contract: text.piece, whatever stands there.
-/
import Derived.Test.YtadhlnlcdljamaaGreatDoorTxDigit
namespace Go.Proofs.YtadhlnlcdljamaaGreatDoor.V
set_option maxRecDepth 20000
open Go.RowKit

/-- The error, the end, whether it is a token. -/
def pieceR (xs : List Int) (k : Nat) : Int × Nat × Bool :=
  if blankI (xs[k]?.getD 0) = true then (0, k + 1, false)
  else if ((xs[k]?.getD 0) == 35) = true then (0, reachN isRest xs k, false)
  else if letterI (xs[k]?.getD 0) = true then (0, reachN wordI xs k, true)
  else if digitI (xs[k]?.getD 0) = true then (wrongI (wordAt xs k), reachN wordI xs k, true)
  else if markI (xs[k]?.getD 0) = true then (0, k + 1, true)
  else (7, k + 1, false)

theorem pieceR_end {xs : List Int} {k : Nat} (hk : k < xs.length) : k < (pieceR xs k).2.1 ∧ (pieceR xs k).2.1 ≤ xs.length := by
  have word (h : wordI (xs[k]?.getD 0) = true) : k < reachN wordI xs k ∧ reachN wordI xs k ≤ xs.length :=
    ⟨reachN_gt hk h, reachN_len (by omega)⟩
  unfold pieceR
  by_cases h1 : blankI (xs[k]?.getD 0) = true
  · rw [if_pos h1]; exact ⟨Nat.lt_succ_self _, hk⟩
  · rw [if_neg h1]
    by_cases h2 : ((xs[k]?.getD 0) == 35) = true
    · rw [if_pos h2]
      have h3 : isRest (xs[k]?.getD 0) = true := by rw [beq_iff_eq] at h2; rw [h2]; rfl
      exact ⟨reachN_gt hk h3, reachN_len (by omega)⟩
    · rw [if_neg h2]
      by_cases h3 : letterI (xs[k]?.getD 0) = true
      · rw [if_pos h3]; exact word (by unfold wordI; rw [h3]; rfl)
      · rw [if_neg h3]
        by_cases h4 : digitI (xs[k]?.getD 0) = true
        · rw [if_pos h4]; exact word (by unfold wordI; rw [h4, Bool.or_true])
        · rw [if_neg h4]
          by_cases h5 : markI (xs[k]?.getD 0) = true
          · rw [if_pos h5]; exact ⟨Nat.lt_succ_self _, hk⟩
          · rw [if_neg h5]; exact ⟨Nat.lt_succ_self _, hk⟩

/-- What piece ends with. -/
def pieceE (xs : List Int) (k : Nat) : Ending :=
  if (pieceR xs k).1 = 0 then .returned (.tuple #[.int .i64 (((pieceR xs k).2.1 : Nat) : Int), .bool (pieceR xs k).2.2]) else thrown (pieceR xs k).1 k

theorem piece_any (g n cap k : Nat) (xs : List Int) (w : World) (hb : BytesAt w g n xs) (hk : k < n) (hcap : n ≤ cap) (hn : n ≤ 65536) (hE : ErrAt w) :
    Calls Tryz.prog 16 #[.slice (some ⟨g, 0, none⟩) n cap, .int .i64 (k : Int)] w fun e w' => e = pieceE xs k ∧ Below w.heap.size w w' := by
  unfold pieceE pieceR
  by_cases h1 : blankI (xs[k]?.getD 0) = true
  · simp only [if_pos h1]
    refine (piece_blank g n cap k xs w hb hk _ rfl h1).mono ?_
    rintro e w' ⟨rfl, rfl⟩
    exact ⟨rfl, Below.refl _ _⟩
  · simp only [if_neg h1]
    by_cases h2 : ((xs[k]?.getD 0) == 35) = true
    · simp only [if_pos h2]
      refine (piece_remark g n cap k xs w hb hk _ rfl (Bool.eq_false_iff.2 h1) h2).mono ?_
      rintro e w' ⟨rfl, rfl⟩
      exact ⟨rfl, Below.refl _ _⟩
    · simp only [if_neg h2]
      by_cases h3 : letterI (xs[k]?.getD 0) = true
      · simp only [if_pos h3]
        refine (piece_letter g n cap k xs w hb hk _ rfl (Bool.eq_false_iff.2 h1) (Bool.eq_false_iff.2 h2) h3).mono ?_
        rintro e w' ⟨rfl, rfl⟩
        exact ⟨rfl, Below.refl _ _⟩
      · simp only [if_neg h3]
        by_cases h4 : digitI (xs[k]?.getD 0) = true
        · simp only [if_pos h4]
          refine (piece_digit g n cap k xs w hb hk hcap hn hE _ rfl (Bool.eq_false_iff.2 h1) (Bool.eq_false_iff.2 h2) (Bool.eq_false_iff.2 h3) h4).mono ?_
          rintro e w' ⟨he, hB⟩
          refine ⟨?_, hB⟩
          by_cases hr : wrongI (wordAt xs k) = 0
          · rw [if_pos hr] at he ⊢; exact he
          · rw [if_neg hr] at he ⊢; exact he
        · simp only [if_neg h4]
          by_cases h5 : markI (xs[k]?.getD 0) = true
          · simp only [if_pos h5]
            refine (piece_mark g n cap k xs w hb hk _ rfl (Bool.eq_false_iff.2 h1) (Bool.eq_false_iff.2 h2) (Bool.eq_false_iff.2 h3) (Bool.eq_false_iff.2 h4) h5).mono ?_
            rintro e w' ⟨rfl, rfl⟩
            exact ⟨rfl, Below.refl _ _⟩
          · simp only [if_neg h5]
            refine (piece_other g n cap k xs w hb hk _ rfl (Bool.eq_false_iff.2 h1) (Bool.eq_false_iff.2 h2) (Bool.eq_false_iff.2 h3) (Bool.eq_false_iff.2 h4) (Bool.eq_false_iff.2 h5)).mono ?_
            rintro e w' ⟨rfl, rfl⟩
            exact ⟨by rfl, Below.refl _ _⟩
end Go.Proofs.YtadhlnlcdljamaaGreatDoor.V
