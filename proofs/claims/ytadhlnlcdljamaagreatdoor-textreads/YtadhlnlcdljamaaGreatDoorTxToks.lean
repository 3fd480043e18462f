/-
  The tokens of a text are no longer than it is, and those that begin with a digit are numbers.
-/
import Derived.Test.YtadhlnlcdljamaaGreatDoorTxRead1
namespace Go.Proofs.YtadhlnlcdljamaaGreatDoor.V
set_option maxRecDepth 20000
open Go.RowKit

def GoodT (xs : List Int) (t : List Int × Nat) : Prop := t.1.length ≤ xs.length ∧ (∀ x ∈ t.1, 0 ≤ x ∧ x ≤ 255) ∧ (digitI (t.1[0]?.getD 0) = true → t.1.all digitI = true ∧ numVal t.1 ≤ 9223372036854775807)
theorem wrongI_zero {xs : List Int} (h : wrongI xs = 0) : xs.all digitI = true ∧ numVal xs ≤ 9223372036854775807 := by
  unfold wrongI at h
  split at h
  · rename_i h1
    split at h
    · cases h
    · split at h
      · rename_i h3; exact ⟨h1, h3⟩
      · cases h
  · cases h
theorem part_good {xs : List Int} (hb : ∀ x ∈ xs, 0 ≤ x ∧ x ≤ 255) {k : Nat} (hk : k < xs.length) (h0 : (pieceR xs k).1 = 0) (hy : (pieceR xs k).2.2 = true) : GoodT xs (part xs k (pieceR xs k).2.1, k) := by
  have he := pieceR_end hk
  have hl : (part xs k (pieceR xs k).2.1).length = (pieceR xs k).2.1 - k := part_length (by omega) he.2
  have hf : (part xs k (pieceR xs k).2.1)[0]?.getD 0 = xs[k]?.getD 0 := part_at 0 (by omega)
  refine ⟨by show (part xs k (pieceR xs k).2.1).length ≤ _; omega, fun x hx => hb x (List.mem_of_mem_drop (List.mem_of_mem_take hx)), ?_⟩
  show digitI ((part xs k (pieceR xs k).2.1)[0]?.getD 0) = true → _
  rw [hf]
  intro hd
  by_cases h1 : blankI (xs[k]?.getD 0) = true
  · rw [pieceR, if_pos h1] at hy; cases hy
  · by_cases h2 : ((xs[k]?.getD 0) == 35) = true
    · rw [pieceR, if_neg h1, if_pos h2] at hy; cases hy
    · by_cases h3 : letterI (xs[k]?.getD 0) = true
      · have a := digit_bd hd
        exfalso
        simp only [letterI, Bool.or_eq_true, Bool.and_eq_true, decide_eq_true_eq, beq_iff_eq] at h3
        omega
      · have e : pieceR xs k = (wrongI (wordAt xs k), reachN wordI xs k, true) := by rw [pieceR, if_neg h1, if_neg h2, if_neg h3, if_pos hd]
        rw [e] at h0 ⊢
        exact wrongI_zero h0
theorem scanN_good (xs : List Int) (hb : ∀ x ∈ xs, 0 ≤ x ∧ x ≤ 255) : ∀ (n k : Nat) (ts : List (List Int × Nat)), xs.length - k ≤ n → (∀ t ∈ ts, GoodT xs t) → ∀ t ∈ (scanN xs k ts).2, GoodT xs t := by
  intro n
  induction n with
  | zero =>
    intro k ts h1 h2
    rw [scanN_end (by omega)]
    exact h2
  | succ n ih =>
    intro k ts h1 h2
    by_cases hk : k < xs.length
    · have he := pieceR_end hk
      by_cases h0 : (pieceR xs k).1 = 0
      · cases hy : (pieceR xs k).2.2 with
        | true =>
          rw [scanN_tok hk h0 hy]
          refine ih _ _ (by omega) (fun t ht => ?_)
          rcases List.mem_append.1 ht with ht | ht
          · exact h2 t ht
          · rw [List.mem_singleton] at ht
            subst ht
            exact part_good hb hk h0 hy
        | false =>
          rw [scanN_none hk h0 hy]
          exact ih _ _ (by omega) h2
      · rw [scanN_bad hk h0]
        exact h2
    · rw [scanN_end hk]
      exact h2
theorem toksOf_ok (s : ByteArray) (hs : s.size ≤ 65536) : (toksOf s).Ok := by
  have hg := scanN_good (xsOf s) (xsOf_bd s) _ 0 [] (Nat.le_refl _) (fun t ht => by cases ht)
  have key : ∀ i, i < (toksOf s).ts.length → ∃ t, GoodT (xsOf s) t ∧ (toksOf s).tx i = strOfNums t.1 := fun i hi => by
    have hi' : i < (scanN (xsOf s) 0 []).2.length := by rw [← toksOf_len]; exact hi
    refine ⟨(scanN (xsOf s) 0 []).2[i], hg _ (List.getElem_mem hi'), ?_⟩
    simp [Tks.tx, toksOf, hi']
  constructor
  · intro i
    by_cases c : i < (toksOf s).ts.length
    · obtain ⟨t, h1, h2⟩ := key i c
      have := h1.1
      rw [xsOf_length] at this
      rw [h2, strOfNums_size]
      omega
    · rw [Tks.tx_end (by omega)]
      simp
  · intro i hn
    obtain ⟨t, h1, h2⟩ := key i (isNumB_lt hn)
    have e : xsOf ((toksOf s).tx i) = t.1 := by rw [h2, xsOf_nums h1.2.1]
    unfold isNumB at hn
    rw [e] at hn ⊢
    simp only [Bool.and_eq_true] at hn
    exact h1.2.2 hn.2
end Go.Proofs.YtadhlnlcdljamaaGreatDoor.V
