/-
  Tokens with other blanks and remarks between them are the same tokens.
-/
import Derived.Test.YtdpgbhenhealpaaDoorTxScan
namespace Go.Proofs.YtdpgbhenhealpaaDoor.V
set_option maxRecDepth 20000
set_option linter.unusedVariables false

/-- What a token's text may be. -/
def Tok (t : List Int) : Prop :=
  t ≠ [] ∧ blankI (t[0]?.getD 0) = false ∧ ((t[0]?.getD 0) == 35) = false ∧
    ((letterI (t[0]?.getD 0) = true ∧ t.all wordI = true) ∨ (letterI (t[0]?.getD 0) = false ∧ digitI (t[0]?.getD 0) = true ∧ t.all wordI = true ∧ wrongI t = 0) ∨ (letterI (t[0]?.getD 0) = false ∧ digitI (t[0]?.getD 0) = false ∧ markI (t[0]?.getD 0) = true ∧ t.length = 1))
theorem all_part {p : Int → Bool} {xs : List Int} {k e : Nat} (he : e ≤ xs.length) (h : ∀ j, k ≤ j → j < e → p (xs[j]?.getD 0) = true) : (part xs k e).all p = true := by
  rw [List.all_eq_true]
  intro x hx
  obtain ⟨i, hi, rfl⟩ := List.getElem_of_mem hx
  have hl : i < e - k := by
    unfold part at hi
    rw [List.length_take, List.length_drop] at hi
    omega
  have := part_at (xs := xs) (k := k) (e := e) i hl
  have e2 : (part xs k e)[i]?.getD 0 = (part xs k e)[i] := by simp [hi]
  rw [← e2, this]
  exact h _ (by omega) (by omega)
theorem part_tok {xs : List Int} {k : Nat} (hk : k < xs.length) (h0 : (pieceR xs k).1 = 0) (hy : (pieceR xs k).2.2 = true) : Tok (part xs k (pieceR xs k).2.1) := by
  have he := pieceR_end hk
  have hl : (part xs k (pieceR xs k).2.1).length = (pieceR xs k).2.1 - k := part_length (by omega) he.2
  have hf : (part xs k (pieceR xs k).2.1)[0]?.getD 0 = xs[k]?.getD 0 := part_at 0 (by omega)
  have hne : part xs k (pieceR xs k).2.1 ≠ [] := fun q => by rw [q] at hl; simp at hl; omega
  unfold Tok
  rw [hf]
  by_cases h1 : blankI (xs[k]?.getD 0) = true
  · rw [pieceR, if_pos h1] at hy; cases hy
  · by_cases h2 : ((xs[k]?.getD 0) == 35) = true
    · rw [pieceR, if_neg h1, if_pos h2] at hy; cases hy
    · refine ⟨hne, by simpa using h1, by simpa using h2, ?_⟩
      by_cases h3 : letterI (xs[k]?.getD 0) = true
      · left
        refine ⟨h3, ?_⟩
        have e : (pieceR xs k).2.1 = reachN wordI xs k := by rw [pieceR, if_neg h1, if_neg h2, if_pos h3]
        rw [e]
        exact all_part (reachN_len (by omega)) (fun j a b => reachN_all a b)
      · by_cases h4 : digitI (xs[k]?.getD 0) = true
        · right; left
          have e : pieceR xs k = (wrongI (wordAt xs k), reachN wordI xs k, true) := by rw [pieceR, if_neg h1, if_neg h2, if_neg h3, if_pos h4]
          rw [e] at h0
          rw [e]
          exact ⟨by simpa using h3, h4, all_part (reachN_len (by omega)) (fun j a b => reachN_all a b), h0⟩
        · by_cases h5 : markI (xs[k]?.getD 0) = true
          · right; right
            have e : (pieceR xs k).2.1 = k + 1 := by rw [pieceR, if_neg h1, if_neg h2, if_neg h3, if_neg h4, if_pos h5]
            exact ⟨by simpa using h3, by simpa using h4, h5, by rw [hl, e]; omega⟩
          · rw [pieceR, if_neg h1, if_neg h2, if_neg h3, if_neg h4, if_neg h5] at h0; simp at h0
theorem scanN_toks (xs : List Int) : ∀ (n k : Nat) (ts : List (List Int × Nat)), xs.length - k ≤ n → (∀ t ∈ ts, Tok t.1) → ∀ t ∈ (scanN xs k ts).2, Tok t.1 := by
  intro n
  induction n with
  | zero =>
    intro k ts hn h t ht
    rw [scanN_end (by omega)] at ht
    exact h t ht
  | succ n ih =>
    intro k ts hn h t ht
    by_cases hk : k < xs.length
    · have he := pieceR_end hk
      by_cases h0 : (pieceR xs k).1 = 0
      · cases hy : (pieceR xs k).2.2 with
        | true =>
          rw [scanN_tok hk h0 hy] at ht
          refine ih _ _ (by omega) (fun u hu => ?_) t ht
          rcases List.mem_append.1 hu with q | q
          · exact h u q
          · simp at q; subst q; exact part_tok hk h0 hy
        | false =>
          rw [scanN_none hk h0 hy] at ht
          exact ih _ _ (by omega) h t ht
      · rw [scanN_bad hk h0] at ht
        exact h t ht
    · rw [scanN_end hk] at ht
      exact h t ht

/-- Where what is reached ends. -/
theorem reach_app {p : Int → Bool} (pre rest : List Int) : ∀ (tok : List Int), tok.all p = true → (rest = [] ∨ p (rest[0]?.getD 0) = false) → ∀ q : List Int, reachN p (pre ++ (q ++ (tok ++ rest))) (pre.length + q.length) = pre.length + q.length + tok.length
  | [], _, hr, q => by
    refine reachN_stop ?_
    rintro ⟨h1, h2⟩
    rcases hr with hr | hr
    · subst hr; simp at h1
    · have e : (pre ++ (q ++ ([] ++ rest)))[pre.length + q.length]?.getD 0 = rest[0]?.getD 0 := by
        rw [List.getElem?_append_right (by omega), List.getElem?_append_right (by omega)]
        simp
      rw [e, hr] at h2
      cases h2
  | c :: tok, ha, hr, q => by
    simp only [List.all_cons, Bool.and_eq_true] at ha
    have e : (pre ++ (q ++ (c :: tok ++ rest)))[pre.length + q.length]?.getD 0 = c := by
      rw [List.getElem?_append_right (by omega), List.getElem?_append_right (by omega)]
      simp
    rw [reachN_go (by simp) (by rw [e]; exact ha.1)]
    have := reach_app pre rest tok ha.2 hr (q ++ [c])
    simp only [List.length_append, List.length_cons, List.length_nil, List.append_assoc, List.cons_append, List.nil_append] at this ⊢
    rw [show pre.length + q.length + 1 = pre.length + (q.length + (0 + 1)) by omega, this]
    omega
theorem reach_here {p : Int → Bool} (pre tok rest : List Int) (h : tok.all p = true) (hr : rest = [] ∨ p (rest[0]?.getD 0) = false) : reachN p (pre ++ (tok ++ rest)) pre.length = pre.length + tok.length := by
  have := reach_app pre rest tok h hr []
  simpa using this
theorem at_here (pre tok rest : List Int) (h : tok ≠ []) : (pre ++ (tok ++ rest))[pre.length]?.getD 0 = tok[0]?.getD 0 := by
  cases tok with
  | nil => exact absurd rfl h
  | cons c t => simp
theorem part_here (pre tok rest : List Int) : part (pre ++ (tok ++ rest)) pre.length (pre.length + tok.length) = tok := by
  unfold part
  rw [List.drop_left, show pre.length + tok.length - pre.length = tok.length by omega, List.take_left]
theorem word_blank {c : Int} (h : blankI c = true) : wordI c = false := by
  simp [blankI] at h
  simp [wordI, letterI, digitI]
  omega
theorem scan_tok (pre tok rest : List Int) (acc : List (List Int × Nat)) (h : Tok tok) (hr : rest = [] ∨ blankI (rest[0]?.getD 0) = true) :
    scanN (pre ++ (tok ++ rest)) pre.length acc = scanN (pre ++ (tok ++ rest)) (pre.length + tok.length) (acc ++ [(tok, pre.length)]) := by
  obtain ⟨hne, h1, h2, h3⟩ := h
  have hlt : 0 < tok.length := List.length_pos_iff.2 hne
  have hk : pre.length < (pre ++ (tok ++ rest)).length := by simp; omega
  have e0 := at_here pre tok rest hne
  have hr' : rest = [] ∨ wordI (rest[0]?.getD 0) = false := hr.imp id word_blank
  have hp : pieceR (pre ++ (tok ++ rest)) pre.length = (0, pre.length + tok.length, true) := by
    rw [pieceR, e0, if_neg (by simp [h1]), if_neg (by simp only [h2]; simp)]
    rcases h3 with ⟨a, b⟩ | ⟨a, b, c, d⟩ | ⟨a, b, c, d⟩
    · rw [if_pos a, reach_here pre tok rest b hr']
    · rw [if_neg (by simp [a]), if_pos b]
      have hw : wordAt (pre ++ (tok ++ rest)) pre.length = tok := by
        unfold wordAt
        rw [reach_here pre tok rest c hr']
        exact part_here pre tok rest
      rw [hw, d, reach_here pre tok rest c hr']
    · rw [if_neg (by simp [a]), if_neg (by simp [b]), if_pos c, d]
  rw [scanN_tok hk (by rw [hp]) (by rw [hp]), hp]
  simp only
  rw [part_here]
theorem scan_blank (pre : List Int) (c : Int) (rest : List Int) (acc : List (List Int × Nat)) (h : blankI c = true) : scanN (pre ++ (c :: rest)) pre.length acc = scanN (pre ++ (c :: rest)) (pre.length + 1) acc := by
  have hp : pieceR (pre ++ (c :: rest)) pre.length = (0, pre.length + 1, false) := by
    have e0 : (pre ++ (c :: rest))[pre.length]?.getD 0 = c := by simp
    rw [pieceR, e0, if_pos h]
  rw [scanN_none (by simp) (by rw [hp]) (by rw [hp]), hp]
theorem scan_remark (pre body rest : List Int) (acc : List (List Int × Nat)) (hb : body.all isRest = true) : scanN (pre ++ (35 :: (body ++ 10 :: rest))) pre.length acc = scanN (pre ++ (35 :: (body ++ 10 :: rest))) (pre.length + (1 + body.length)) acc := by
  have hp : pieceR (pre ++ (35 :: (body ++ 10 :: rest))) pre.length = (0, pre.length + (1 + body.length), false) := by
    have e0 : (pre ++ (35 :: (body ++ 10 :: rest)))[pre.length]?.getD 0 = 35 := by simp
    rw [pieceR, e0, if_neg (by decide), if_pos (by decide)]
    have := reach_here (p := isRest) pre (35 :: body) (10 :: rest) (by simp only [List.all_cons, hb]; decide) (.inr rfl)
    simp only [List.cons_append, List.length_cons] at this
    rw [this, Nat.add_comm 1]
  rw [scanN_none (by simp) (by rw [hp]) (by rw [hp]), hp]

/-- What may stand between tokens. -/
def seps : List (List Int) := [[32], [10], [32, 35, 32, 105, 110, 32, 0, 32, 59, 32, 114, 101, 109, 97, 114, 107, 10], [9, 13, 32, 32]]
theorem sep_first {b : List Int} (h : b ∈ seps) (rest : List Int) : blankI ((b ++ rest)[0]?.getD 0) = true := by
  simp only [seps, List.mem_cons, List.not_mem_nil, or_false] at h
  rcases h with rfl | rfl | rfl | rfl <;> rfl
theorem scan_sep (pre b rest : List Int) (acc : List (List Int × Nat)) (h : b ∈ seps) : scanN (pre ++ (b ++ rest)) pre.length acc = scanN (pre ++ (b ++ rest)) (pre.length + b.length) acc := by
  simp only [seps, List.mem_cons, List.not_mem_nil, or_false] at h
  rcases h with rfl | rfl | rfl | rfl
  · exact scan_blank pre 32 rest acc (by decide)
  · exact scan_blank pre 10 rest acc (by decide)
  · have e1 := scan_blank pre 32 ([35, 32, 105, 110, 32, 0, 32, 59, 32, 114, 101, 109, 97, 114, 107, 10] ++ rest) acc (by decide)
    have e2 := scan_remark (pre ++ [32]) [32, 105, 110, 32, 0, 32, 59, 32, 114, 101, 109, 97, 114, 107] rest acc (by decide)
    have e3 := scan_blank (pre ++ [32, 35, 32, 105, 110, 32, 0, 32, 59, 32, 114, 101, 109, 97, 114, 107]) 10 rest acc (by decide)
    simp only [List.append_assoc, List.cons_append, List.nil_append, List.length_append, List.length_cons, List.length_nil] at e1 e2 e3 ⊢
    rw [e1, e2, e3]
  · have e1 := scan_blank pre 9 ([13, 32, 32] ++ rest) acc (by decide)
    have e2 := scan_blank (pre ++ [9]) 13 ([32, 32] ++ rest) acc (by decide)
    have e3 := scan_blank (pre ++ [9, 13]) 32 ([32] ++ rest) acc (by decide)
    have e4 := scan_blank (pre ++ [9, 13, 32]) 32 rest acc (by decide)
    simp only [List.append_assoc, List.cons_append, List.nil_append, List.length_append, List.length_cons, List.length_nil] at e1 e2 e3 e4 ⊢
    rw [e1, e2, e3, e4]
/-- Tokens, each with what stands behind it. -/
def joined : List (List Int × List Int) → List Int
  | [] => []
  | p :: r => p.1 ++ (p.2 ++ joined r)
theorem scan_joined : ∀ (ps : List (List Int × List Int)) (pre : List Int) (acc : List (List Int × Nat)), (∀ p ∈ ps, Tok p.1 ∧ p.2 ∈ seps) → ∃ ts, scanN (pre ++ joined ps) pre.length acc = ((0, 0), acc ++ ts) ∧ ts.map (·.1) = ps.map (·.1)
  | [], pre, acc, _ => ⟨[], by rw [scanN_end (by simp [joined])]; simp, rfl⟩
  | p :: r, pre, acc, h => by
    obtain ⟨h1, h2⟩ := h p (by simp)
    have e1 := scan_tok pre p.1 (p.2 ++ joined r) acc h1 (.inr (sep_first h2 _))
    have e2 := scan_sep (pre ++ p.1) p.2 (joined r) (acc ++ [(p.1, pre.length)]) h2
    obtain ⟨ts, e3, e4⟩ := scan_joined r (pre ++ (p.1 ++ p.2)) (acc ++ [(p.1, pre.length)]) (fun q hq => h q (by simp [hq]))
    refine ⟨(p.1, pre.length) :: ts, ?_, by simp [e4]⟩
    simp only [joined]
    simp only [List.append_assoc, List.length_append] at e1 e2 e3 ⊢
    rw [e1, e2, Nat.add_assoc, e3]
    simp
end Go.Proofs.YtdpgbhenhealpaaDoor.V
