/-
  Tokens with other blanks and remarks between them are the same tokens. What is read hangs on the tokens' texts alone, not on where they stand. No list of what is read is longer than the tokens are many. Contract: adjointref3.Tokens. A text of the same tokens with other blanks and remarks between them is read as the first is.
-/
import Derived.Test.YtadhlnlcdljamaaGreatDoorTxScan
import Derived.Test.YtadhlnlcdljamaaGreatDoorTxGram
import Derived.Test.YtadhlnlcdljamaaGreatDoorTxTok2
import Derived.Test.YtadhlnlcdljamaaGreatDoorTxRead
namespace Go.Proofs.YtadhlnlcdljamaaGreatDoor.V
set_option maxRecDepth 20000
set_option linter.unusedVariables false

/-- What a token's text may be. -/
def Tok (t : List Int) : Prop :=
  t ≠ [] ∧ blankI (t[0]?.getD 0) = false ∧ ((t[0]?.getD 0) == 35) = false ∧
    ((letterI (t[0]?.getD 0) = true ∧ t.all wordI = true) ∨ (letterI (t[0]?.getD 0) = false ∧ digitI (t[0]?.getD 0) = true ∧ t.all wordI = true ∧ wrongI t = 0) ∨ (letterI (t[0]?.getD 0) = false ∧ digitI (t[0]?.getD 0) = false ∧ markI (t[0]?.getD 0) = true ∧ t.length = 1))
theorem all_part {p : Int → Bool} {xs : List Int} {k e : Nat} (he : e ≤ xs.length) (h : ∀ j, k ≤ j → j < e → p (xs[j]?.getD 0) = true) : (part xs k e).all p = true := by
  rw [List.all_eq_true]
  intro x hx
  obtain ⟨i, hi, rfl⟩ := List.getElem_of_mem hx
  have hl : i < e - k := by
    unfold part at hi
    rw [List.length_take, List.length_drop] at hi
    omega
  have := part_at (xs := xs) (k := k) (e := e) i hl
  have e2 : (part xs k e)[i]?.getD 0 = (part xs k e)[i] := by simp [hi]
  rw [← e2, this]
  exact h _ (by omega) (by omega)
theorem part_tok {xs : List Int} {k : Nat} (hk : k < xs.length) (h0 : (pieceR xs k).1 = 0) (hy : (pieceR xs k).2.2 = true) : Tok (part xs k (pieceR xs k).2.1) := by
  have he := pieceR_end hk
  have hl : (part xs k (pieceR xs k).2.1).length = (pieceR xs k).2.1 - k := part_length (by omega) he.2
  have hf : (part xs k (pieceR xs k).2.1)[0]?.getD 0 = xs[k]?.getD 0 := part_at 0 (by omega)
  have hne : part xs k (pieceR xs k).2.1 ≠ [] := fun q => by rw [q] at hl; simp at hl; omega
  unfold Tok
  rw [hf]
  by_cases h1 : blankI (xs[k]?.getD 0) = true
  · rw [pieceR, if_pos h1] at hy; cases hy
  · by_cases h2 : ((xs[k]?.getD 0) == 35) = true
    · rw [pieceR, if_neg h1, if_pos h2] at hy; cases hy
    · refine ⟨hne, by simpa using h1, by simpa using h2, ?_⟩
      by_cases h3 : letterI (xs[k]?.getD 0) = true
      · left
        refine ⟨h3, ?_⟩
        have e : (pieceR xs k).2.1 = reachN wordI xs k := by rw [pieceR, if_neg h1, if_neg h2, if_pos h3]
        rw [e]
        exact all_part (reachN_len (by omega)) (fun j a b => reachN_all a b)
      · by_cases h4 : digitI (xs[k]?.getD 0) = true
        · right; left
          have e : pieceR xs k = (wrongI (wordAt xs k), reachN wordI xs k, true) := by rw [pieceR, if_neg h1, if_neg h2, if_neg h3, if_pos h4]
          rw [e] at h0
          rw [e]
          exact ⟨by simpa using h3, h4, all_part (reachN_len (by omega)) (fun j a b => reachN_all a b), h0⟩
        · by_cases h5 : markI (xs[k]?.getD 0) = true
          · right; right
            have e : (pieceR xs k).2.1 = k + 1 := by rw [pieceR, if_neg h1, if_neg h2, if_neg h3, if_neg h4, if_pos h5]
            exact ⟨by simpa using h3, by simpa using h4, h5, by rw [hl, e]; omega⟩
          · rw [pieceR, if_neg h1, if_neg h2, if_neg h3, if_neg h4, if_neg h5] at h0; simp at h0
theorem scanN_toks (xs : List Int) : ∀ (n k : Nat) (ts : List (List Int × Nat)), xs.length - k ≤ n → (∀ t ∈ ts, Tok t.1) → ∀ t ∈ (scanN xs k ts).2, Tok t.1 := by
  intro n
  induction n with
  | zero =>
    intro k ts hn h t ht
    rw [scanN_end (by omega)] at ht
    exact h t ht
  | succ n ih =>
    intro k ts hn h t ht
    by_cases hk : k < xs.length
    · have he := pieceR_end hk
      by_cases h0 : (pieceR xs k).1 = 0
      · cases hy : (pieceR xs k).2.2 with
        | true =>
          rw [scanN_tok hk h0 hy] at ht
          refine ih _ _ (by omega) (fun u hu => ?_) t ht
          rcases List.mem_append.1 hu with q | q
          · exact h u q
          · simp at q; subst q; exact part_tok hk h0 hy
        | false =>
          rw [scanN_none hk h0 hy] at ht
          exact ih _ _ (by omega) h t ht
      · rw [scanN_bad hk h0] at ht
        exact h t ht
    · rw [scanN_end hk] at ht
      exact h t ht

/-- Where what is reached ends. -/
theorem reach_app {p : Int → Bool} (pre rest : List Int) : ∀ (tok : List Int), tok.all p = true → (rest = [] ∨ p (rest[0]?.getD 0) = false) → ∀ q : List Int, reachN p (pre ++ (q ++ (tok ++ rest))) (pre.length + q.length) = pre.length + q.length + tok.length
  | [], _, hr, q => by
    refine reachN_stop ?_
    rintro ⟨h1, h2⟩
    rcases hr with hr | hr
    · subst hr; simp at h1
    · have e : (pre ++ (q ++ ([] ++ rest)))[pre.length + q.length]?.getD 0 = rest[0]?.getD 0 := by
        rw [List.getElem?_append_right (by omega), List.getElem?_append_right (by omega)]
        simp
      rw [e, hr] at h2
      cases h2
  | c :: tok, ha, hr, q => by
    simp only [List.all_cons, Bool.and_eq_true] at ha
    have e : (pre ++ (q ++ (c :: tok ++ rest)))[pre.length + q.length]?.getD 0 = c := by
      rw [List.getElem?_append_right (by omega), List.getElem?_append_right (by omega)]
      simp
    rw [reachN_go (by simp) (by rw [e]; exact ha.1)]
    have := reach_app pre rest tok ha.2 hr (q ++ [c])
    simp only [List.length_append, List.length_cons, List.length_nil, List.append_assoc, List.cons_append, List.nil_append] at this ⊢
    rw [show pre.length + q.length + 1 = pre.length + (q.length + (0 + 1)) by omega, this]
    omega
theorem reach_here {p : Int → Bool} (pre tok rest : List Int) (h : tok.all p = true) (hr : rest = [] ∨ p (rest[0]?.getD 0) = false) : reachN p (pre ++ (tok ++ rest)) pre.length = pre.length + tok.length := by
  have := reach_app pre rest tok h hr []
  simpa using this
theorem at_here (pre tok rest : List Int) (h : tok ≠ []) : (pre ++ (tok ++ rest))[pre.length]?.getD 0 = tok[0]?.getD 0 := by
  cases tok with
  | nil => exact absurd rfl h
  | cons c t => simp
theorem part_here (pre tok rest : List Int) : part (pre ++ (tok ++ rest)) pre.length (pre.length + tok.length) = tok := by
  unfold part
  rw [List.drop_left, show pre.length + tok.length - pre.length = tok.length by omega, List.take_left]
theorem word_blank {c : Int} (h : blankI c = true) : wordI c = false := by
  simp [blankI] at h
  simp [wordI, letterI, digitI]
  omega
theorem scan_tok (pre tok rest : List Int) (acc : List (List Int × Nat)) (h : Tok tok) (hr : rest = [] ∨ blankI (rest[0]?.getD 0) = true) :
    scanN (pre ++ (tok ++ rest)) pre.length acc = scanN (pre ++ (tok ++ rest)) (pre.length + tok.length) (acc ++ [(tok, pre.length)]) := by
  obtain ⟨hne, h1, h2, h3⟩ := h
  have hlt : 0 < tok.length := List.length_pos_iff.2 hne
  have hk : pre.length < (pre ++ (tok ++ rest)).length := by simp; omega
  have e0 := at_here pre tok rest hne
  have hr' : rest = [] ∨ wordI (rest[0]?.getD 0) = false := hr.imp id word_blank
  have hp : pieceR (pre ++ (tok ++ rest)) pre.length = (0, pre.length + tok.length, true) := by
    rw [pieceR, e0, if_neg (by simp [h1]), if_neg (by simp only [h2]; simp)]
    rcases h3 with ⟨a, b⟩ | ⟨a, b, c, d⟩ | ⟨a, b, c, d⟩
    · rw [if_pos a, reach_here pre tok rest b hr']
    · rw [if_neg (by simp [a]), if_pos b]
      have hw : wordAt (pre ++ (tok ++ rest)) pre.length = tok := by
        unfold wordAt
        rw [reach_here pre tok rest c hr']
        exact part_here pre tok rest
      rw [hw, d, reach_here pre tok rest c hr']
    · rw [if_neg (by simp [a]), if_neg (by simp [b]), if_pos c, d]
  rw [scanN_tok hk (by rw [hp]) (by rw [hp]), hp]
  simp only
  rw [part_here]
theorem scan_blank (pre : List Int) (c : Int) (rest : List Int) (acc : List (List Int × Nat)) (h : blankI c = true) : scanN (pre ++ (c :: rest)) pre.length acc = scanN (pre ++ (c :: rest)) (pre.length + 1) acc := by
  have hp : pieceR (pre ++ (c :: rest)) pre.length = (0, pre.length + 1, false) := by
    have e0 : (pre ++ (c :: rest))[pre.length]?.getD 0 = c := by simp
    rw [pieceR, e0, if_pos h]
  rw [scanN_none (by simp) (by rw [hp]) (by rw [hp]), hp]
theorem scan_remark (pre body rest : List Int) (acc : List (List Int × Nat)) (hb : body.all isRest = true) : scanN (pre ++ (35 :: (body ++ 10 :: rest))) pre.length acc = scanN (pre ++ (35 :: (body ++ 10 :: rest))) (pre.length + (1 + body.length)) acc := by
  have hp : pieceR (pre ++ (35 :: (body ++ 10 :: rest))) pre.length = (0, pre.length + (1 + body.length), false) := by
    have e0 : (pre ++ (35 :: (body ++ 10 :: rest)))[pre.length]?.getD 0 = 35 := by simp
    rw [pieceR, e0, if_neg (by decide), if_pos (by decide)]
    have := reach_here (p := isRest) pre (35 :: body) (10 :: rest) (by simp only [List.all_cons, hb]; decide) (.inr rfl)
    simp only [List.cons_append, List.length_cons] at this
    rw [this, Nat.add_comm 1]
  rw [scanN_none (by simp) (by rw [hp]) (by rw [hp]), hp]

/-- What may stand between tokens. -/
def seps : List (List Int) := [[32], [10], [32, 35, 32, 105, 110, 32, 0, 32, 59, 32, 114, 101, 109, 97, 114, 107, 10], [9, 13, 32, 32]]
theorem sep_first {b : List Int} (h : b ∈ seps) (rest : List Int) : blankI ((b ++ rest)[0]?.getD 0) = true := by
  simp only [seps, List.mem_cons, List.not_mem_nil, or_false] at h
  rcases h with rfl | rfl | rfl | rfl <;> rfl
theorem scan_sep (pre b rest : List Int) (acc : List (List Int × Nat)) (h : b ∈ seps) : scanN (pre ++ (b ++ rest)) pre.length acc = scanN (pre ++ (b ++ rest)) (pre.length + b.length) acc := by
  simp only [seps, List.mem_cons, List.not_mem_nil, or_false] at h
  rcases h with rfl | rfl | rfl | rfl
  · exact scan_blank pre 32 rest acc (by decide)
  · exact scan_blank pre 10 rest acc (by decide)
  · have e1 := scan_blank pre 32 ([35, 32, 105, 110, 32, 0, 32, 59, 32, 114, 101, 109, 97, 114, 107, 10] ++ rest) acc (by decide)
    have e2 := scan_remark (pre ++ [32]) [32, 105, 110, 32, 0, 32, 59, 32, 114, 101, 109, 97, 114, 107] rest acc (by decide)
    have e3 := scan_blank (pre ++ [32, 35, 32, 105, 110, 32, 0, 32, 59, 32, 114, 101, 109, 97, 114, 107]) 10 rest acc (by decide)
    simp only [List.append_assoc, List.cons_append, List.nil_append, List.length_append, List.length_cons, List.length_nil] at e1 e2 e3 ⊢
    rw [e1, e2, e3]
  · have e1 := scan_blank pre 9 ([13, 32, 32] ++ rest) acc (by decide)
    have e2 := scan_blank (pre ++ [9]) 13 ([32, 32] ++ rest) acc (by decide)
    have e3 := scan_blank (pre ++ [9, 13]) 32 ([32] ++ rest) acc (by decide)
    have e4 := scan_blank (pre ++ [9, 13, 32]) 32 rest acc (by decide)
    simp only [List.append_assoc, List.cons_append, List.nil_append, List.length_append, List.length_cons, List.length_nil] at e1 e2 e3 e4 ⊢
    rw [e1, e2, e3, e4]
/-- Tokens, each with what stands behind it. -/
def joined : List (List Int × List Int) → List Int
  | [] => []
  | p :: r => p.1 ++ (p.2 ++ joined r)
theorem scan_joined : ∀ (ps : List (List Int × List Int)) (pre : List Int) (acc : List (List Int × Nat)), (∀ p ∈ ps, Tok p.1 ∧ p.2 ∈ seps) → ∃ ts, scanN (pre ++ joined ps) pre.length acc = ((0, 0), acc ++ ts) ∧ ts.map (·.1) = ps.map (·.1)
  | [], pre, acc, _ => ⟨[], by rw [scanN_end (by simp [joined])]; simp, rfl⟩
  | p :: r, pre, acc, h => by
    obtain ⟨h1, h2⟩ := h p (by simp)
    have e1 := scan_tok pre p.1 (p.2 ++ joined r) acc h1 (.inr (sep_first h2 _))
    have e2 := scan_sep (pre ++ p.1) p.2 (joined r) (acc ++ [(p.1, pre.length)]) h2
    obtain ⟨ts, e3, e4⟩ := scan_joined r (pre ++ (p.1 ++ p.2)) (acc ++ [(p.1, pre.length)]) (fun q hq => h q (by simp [hq]))
    refine ⟨(p.1, pre.length) :: ts, ?_, by simp [e4]⟩
    simp only [joined]
    simp only [List.append_assoc, List.length_append] at e1 e2 e3 ⊢
    rw [e1, e2, Nat.add_assoc, e3]
    simp
end Go.Proofs.YtadhlnlcdljamaaGreatDoor.V
namespace Go.Proofs.YtadhlnlcdljamaaGreatDoor.V
set_option maxRecDepth 20000
set_option linter.unusedVariables false

def Sim {α : Type} : Res α → Res α → Prop
  | .bad T _, .bad T' _ => T = T'
  | .ok a i, .ok b j => a = b ∧ i = j
  | _, _ => False
theorem Sim.bad {α : Type} (T : Int) (k k' : Nat) : Sim (α := α) (.bad T k) (.bad T k') := rfl
theorem Sim.ok {α : Type} (a : α) (i : Nat) : Sim (.ok a i) (.ok a i) := ⟨rfl, rfl⟩
theorem Sim.bind {α β : Type} {r r' : Res α} {f f' : α → Nat → Res β} (h : Sim r r') (hf : ∀ a i, Sim (f a i) (f' a i)) : Sim (r.bind f) (r'.bind f') := by
  cases r with
  | bad T k => cases r' with
    | bad T' k' => exact h
    | ok b j => exact h.elim
  | ok a i => cases r' with
    | bad T' k' => exact h.elim
    | ok b j => obtain ⟨rfl, rfl⟩ := h; exact hf a i
theorem Sim.ite {α : Type} {c : Prop} [Decidable c] {r r' s s' : Res α} (h1 : Sim r r') (h2 : Sim s s') : Sim (if c then r else s) (if c then r' else s') := by
  by_cases h : c
  · rw [if_pos h, if_pos h]; exact h1
  · rw [if_neg h, if_neg h]; exact h2

/-- The same texts, wherever they stand. -/
def SameT (X Y : Tks) : Prop := X.ts.length = Y.ts.length ∧ ∀ i, X.tx i = Y.tx i
section
variable {X Y : Tks} (h : SameT X Y)
include h
theorem sim_must (t : List UInt8) (i : Nat) : Sim (mustS X t i) (mustS Y t i) := by
  unfold mustS; rw [h.2 i]; exact Sim.ite (.ok _ _) (.bad _ _ _)
theorem sim_name (i : Nat) : Sim (nameS X i) (nameS Y i) := by
  unfold nameS; rw [h.2 i]; exact Sim.ite (.ok _ _) (.bad _ _ _)
theorem sim_num (i : Nat) : Sim (numS X i) (numS Y i) := by
  unfold numS; rw [h.2 i]; exact Sim.ite (.ok _ _) (.bad _ _ _)
theorem sim_shapeL : ∀ (f i : Nat) (ds : List (ByteArray × Int)), Sim (shapeL X f i ds) (shapeL Y f i ds)
  | 0, i, ds => .bad _ _ _
  | f + 1, i, ds => by
    rw [shapeL, shapeL, h.2 i]
    exact Sim.ite (.ok _ _) (Sim.ite (sim_shapeL f _ _) (Sim.ite (sim_shapeL f _ _) (.bad _ _ _)))
theorem sim_shape (i : Nat) : Sim (shapeS X i) (shapeS Y i) := by
  unfold shapeS; rw [h.1]; exact (sim_must h _ i).bind fun _ i => sim_shapeL h _ _ _
theorem sim_listL : ∀ (f i : Nat) (ds : List Int), Sim (listL X f i ds) (listL Y f i ds)
  | 0, i, ds => .bad _ _ _
  | f + 1, i, ds => by
    rw [listL, listL, h.2 i]
    exact Sim.ite (.ok _ _) (Sim.ite (sim_listL f _ _) (.bad _ _ _))
theorem sim_list (i : Nat) : Sim (listS X i) (listS Y i) := by
  unfold listS; rw [h.1]; exact (sim_must h _ i).bind fun _ i => sim_listL h _ _ _
theorem sim_listsL : ∀ (f i : Nat) (ls : List (List Int)), Sim (listsL X f i ls) (listsL Y f i ls)
  | 0, i, ds => .bad _ _ _
  | f + 1, i, ls => by
    rw [listsL, listsL, h.2 i]
    exact Sim.ite ((sim_list h i).bind fun l j => sim_listsL f _ _) (.ok _ _)
theorem sim_argsL {α : Type} {E E' : Nat → Res α} (hE : ∀ i, Sim (E i) (E' i)) : ∀ (f i : Nat) (us : List α), Sim (argsL X E f i us) (argsL Y E' f i us)
  | 0, i, ds => .bad _ _ _
  | f + 1, i, us => by
    rw [argsL, argsL, h.2 i]
    exact Sim.ite ((hE _).bind fun a j => sim_argsL hE f _ _) (Sim.ite (.ok _ _) (.bad _ _ _))
theorem sim_brack {α : Type} {E E' : Nat → Res α} (hE : ∀ i, Sim (E i) (E' i)) (i : Nat) : Sim (brackS X E i) (brackS Y E' i) := by
  unfold brackS
  refine (sim_must h _ i).bind fun _ i => ?_
  rw [h.2 i, h.1]
  exact Sim.ite (.ok _ _) ((hE i).bind fun a j => sim_argsL h hE _ _ _)
theorem sim_bound {E E' : Nat → Res Tr} (hE : ∀ i, Sim (E i) (E' i)) (kind num : Int) (word : List UInt8) (i : Nat) : Sim (boundS X E kind num word i) (boundS Y E' kind num word i) := by
  unfold boundS
  exact (sim_name h i).bind fun nm i => (sim_must h _ i).bind fun _ i => (hE i).bind fun a i => (sim_must h _ i).bind fun _ i => (hE i).bind fun b i => .ok _ _
theorem sim_chainL {P P' : Nat → Res Tr} (hP : ∀ i, Sim (P i) (P' i)) (sg : ByteArray → Bool) : ∀ (f i : Nat) (t : Tr), Sim (chainL X P sg f i t) (chainL Y P' sg f i t)
  | 0, i, t => by
    rw [chainL, chainL, h.2 i]
    exact Sim.ite (.bad _ _ _) (.ok _ _)
  | f + 1, i, t => by
    rw [chainL, chainL, h.2 i]
    exact Sim.ite ((hP _).bind fun b j => sim_chainL hP sg f _ _) (.ok _ _)
theorem sim_chain {P P' : Nat → Res Tr} (hP : ∀ i, Sim (P i) (P' i)) (sg : ByteArray → Bool) (i : Nat) : Sim (chainS X P sg i) (chainS Y P' sg i) := by
  unfold chainS
  exact (hP i).bind fun t j => sim_chainL h hP sg _ _ _
theorem sim_shaped (i : Nat) : Sim (shapedS X i) (shapedS Y i) := by
  unfold shapedS
  rw [h.2 i]
  exact Sim.ite ((sim_shape h i).bind fun ds j => .ok _ _) (.ok _ _)
theorem sim_call {E E' : Nat → Res Tr} (hE : ∀ i, Sim (E i) (E' i)) (nm : ByteArray) (i : Nat) : Sim (callS X E nm i) (callS Y E' nm i) := by
  unfold callS
  refine (sim_shaped h i).bind fun sh i => ?_
  rw [h.1]
  exact (sim_listsL h _ i []).bind fun ls i => (sim_brack h hE i).bind fun ks i => .ok _ _
theorem sim_factor {E E' : Nat → Res Tr} (hE : ∀ i, Sim (E i) (E' i)) (i : Nat) : Sim (factorS X E i) (factorS Y E' i) := by
  unfold factorS
  rw [h.2 i]
  refine Sim.ite ((hE _).bind fun t j => (sim_must h _ j).bind fun _ k => .ok _ _) (Sim.ite (.ok _ _) ((sim_name h i).bind fun nm j => ?_))
  rw [h.2 j]
  exact Sim.ite (sim_call h hE nm j) (.ok _ _)
theorem sim_expr : ∀ (d i : Nat), Sim (exprS X d i) (exprS Y d i)
  | 0, i => .bad _ _ _
  | d + 1, i => by
    rw [exprS, exprS, h.2 i]
    exact Sim.ite (sim_bound h (sim_expr d) _ _ _ _) (Sim.ite ((sim_num h _).bind fun n j => sim_bound h (sim_expr d) _ _ _ _) (sim_chain h (sim_chain h (sim_factor h (sim_expr d)) _) _ i))
theorem sim_given (i : Nat) : Sim (givenS X i) (givenS Y i) := by
  unfold givenS
  exact (sim_name h i).bind fun nm i => (sim_must h _ i).bind fun _ i => (sim_shape h i).bind fun ds i => .ok _ _
theorem sim_func (i : Nat) : Sim (funcS X i) (funcS Y i) := by
  unfold funcS
  exact (sim_must h _ i).bind fun _ i => (sim_name h i).bind fun nm i => (sim_brack h (sim_given h) i).bind fun gs i => (sim_must h _ i).bind fun _ i => (sim_expr h 64 i).bind fun b i => (sim_must h _ i).bind fun _ i => .ok _ _
theorem sim_progL : ∀ (f i : Nat) (fs : List FnT), Sim (progL X f i fs) (progL Y f i fs)
  | 0, i, fs => .bad _ _ _
  | f + 1, i, fs => by
    rw [progL, progL, h.1]
    exact Sim.ite ((sim_func h i).bind fun fn j => sim_progL f _ _) (.ok _ _)
theorem sim_prog : Sim (progS X) (progS Y) := by
  unfold progS; rw [h.1]; exact sim_progL h _ _ _
end
end Go.Proofs.YtadhlnlcdljamaaGreatDoor.V
namespace Go.Proofs.YtadhlnlcdljamaaGreatDoor.V
set_option maxRecDepth 20000
set_option linter.unusedVariables false

mutual
/-- All lists of a tree have at most N entries. -/
def TrOk (N : Nat) : Tr → Prop
  | .mk _ _ _ _ shape lists kids => shape.length ≤ N ∧ lists.length ≤ N ∧ (∀ l ∈ lists, l.length ≤ N) ∧ kids.length ≤ N ∧ KidsOk N kids
def KidsOk (N : Nat) : List Tr → Prop
  | [] => True
  | t :: ts => TrOk N t ∧ KidsOk N ts
end
theorem kidsOk_all {N : Nat} : ∀ {ts : List Tr}, KidsOk N ts ↔ ∀ t ∈ ts, TrOk N t
  | [] => by simp [KidsOk]
  | t :: ts => by simp [KidsOk, kidsOk_all (ts := ts)]
def FnOk (N : Nat) (f : FnT) : Prop := f.given.length ≤ N ∧ (∀ g ∈ f.given, g.2.length ≤ N) ∧ TrOk N f.body
/-- Where it is read, p holds of it. -/
def ResP {α : Type} (p : α → Nat → Prop) : Res α → Prop
  | .bad _ _ => True
  | .ok a i => p a i
theorem ResP.bind {α β : Type} {p : α → Nat → Prop} {q : β → Nat → Prop} {r : Res α} {f : α → Nat → Res β} (h : ResP p r) (hf : ∀ a i, p a i → ResP q (f a i)) : ResP q (r.bind f) := by
  cases r with
  | bad T k => trivial
  | ok a i => exact hf a i h
theorem ResP.mono {α : Type} {p q : α → Nat → Prop} {r : Res α} (h : ResP p r) (k : ∀ a i, p a i → q a i) : ResP q r := by
  cases r with
  | bad T k => trivial
  | ok a i => exact k a i h
theorem ResP.ite {α : Type} {p : α → Nat → Prop} {c : Prop} [Decidable c] {r s : Res α} (h1 : c → ResP p r) (h2 : ¬ c → ResP p s) : ResP p (if c then r else s) := by
  by_cases h : c
  · rw [if_pos h]; exact h1 h
  · rw [if_neg h]; exact h2 h

section
variable (X : Tks)
/-- Which place was come to. -/
abbrev Up (i : Nat) (j : Nat) : Prop := i < j ∧ j ≤ X.ts.length
theorem tx_lt {i : Nat} {t : List UInt8} (h : ((X.tx i).toList == t) = true) (ht : t ≠ []) : i < X.ts.length := Tks.lt_of h ht
theorem num_lt {i : Nat} (h : isNumB (X.tx i) = true) : i < X.ts.length := by
  by_cases c : i < X.ts.length
  · exact c
  · rw [Tks.tx_end (by omega)] at h; simp [isNumB] at h
theorem name_lt {i : Nat} (h : isNameB (X.tx i) = true) : i < X.ts.length := by
  by_cases c : i < X.ts.length
  · exact c
  · rw [Tks.tx_end (by omega)] at h; simp [isNameB] at h
theorem b_must (t : List UInt8) (ht : t ≠ []) (i : Nat) : ResP (fun _ j => Up X i j) (mustS X t i) := by
  unfold mustS
  exact ResP.ite (fun h => ⟨by omega, by have := tx_lt X h ht; omega⟩) (fun _ => trivial)
theorem b_name (i : Nat) : ResP (fun _ j => Up X i j) (nameS X i) := by
  unfold nameS
  exact ResP.ite (fun h => ⟨by omega, by have := name_lt X h; omega⟩) (fun _ => trivial)
theorem b_num (i : Nat) : ResP (fun _ j => Up X i j) (numS X i) := by
  unfold numS
  exact ResP.ite (fun h => ⟨by omega, by have := num_lt X h; omega⟩) (fun _ => trivial)
theorem b_shapeL : ∀ (f i : Nat) (ds : List (ByteArray × Int)), i ≤ X.ts.length → ds.length ≤ i → ResP (fun a j => Up X i j ∧ a.length ≤ j) (shapeL X f i ds)
  | 0, i, ds, _, _ => trivial
  | f + 1, i, ds, h1, h2 => by
    rw [shapeL]
    refine ResP.ite (fun h => ⟨⟨by omega, by have := tx_lt X h (by decide); omega⟩, by omega⟩) (fun _ => ResP.ite (fun h => ?_) (fun _ => ResP.ite (fun h => ?_) (fun _ => trivial)))
    · have := num_lt X h
      exact (b_shapeL f (i + 1) _ (by omega) (by simp; omega)).mono fun a j q => ⟨⟨by have := q.1.1; omega, q.1.2⟩, q.2⟩
    · have := name_lt X h
      exact (b_shapeL f (i + 1) _ (by omega) (by simp; omega)).mono fun a j q => ⟨⟨by have := q.1.1; omega, q.1.2⟩, q.2⟩
theorem b_shape (i : Nat) : ResP (fun a j => Up X i j ∧ a.length ≤ X.ts.length) (shapeS X i) := by
  unfold shapeS
  exact (b_must X (tC 91) (by decide) i).bind fun _ k hk => (b_shapeL X _ k [] hk.2 (by simp)).mono fun a j q => ⟨⟨by have := hk.1; have := q.1.1; omega, q.1.2⟩, by have := q.1.2; omega⟩
theorem b_listL : ∀ (f i : Nat) (ds : List Int), i ≤ X.ts.length → ds.length ≤ i → ResP (fun a j => Up X i j ∧ a.length ≤ j) (listL X f i ds)
  | 0, i, ds, _, _ => trivial
  | f + 1, i, ds, h1, h2 => by
    rw [listL]
    refine ResP.ite (fun h => ⟨⟨by omega, by have := tx_lt X h (by decide); omega⟩, by omega⟩) (fun _ => ResP.ite (fun h => ?_) (fun _ => trivial))
    have := num_lt X h
    exact (b_listL f (i + 1) _ (by omega) (by simp; omega)).mono fun a j q => ⟨⟨by have := q.1.1; omega, q.1.2⟩, q.2⟩
theorem b_list (i : Nat) : ResP (fun a j => Up X i j ∧ a.length ≤ X.ts.length) (listS X i) := by
  unfold listS
  exact (b_must X (tC 123) (by decide) i).bind fun _ k hk => (b_listL X _ k [] hk.2 (by simp)).mono fun a j q => ⟨⟨by have := hk.1; have := q.1.1; omega, q.1.2⟩, by have := q.1.2; omega⟩
theorem b_listsL : ∀ (f i : Nat) (ls : List (List Int)), i ≤ X.ts.length → ls.length ≤ i → (∀ l ∈ ls, l.length ≤ X.ts.length) → ResP (fun a j => (i ≤ j ∧ j ≤ X.ts.length) ∧ a.length ≤ j ∧ ∀ l ∈ a, l.length ≤ X.ts.length) (listsL X f i ls)
  | 0, i, ls, _, _, _ => trivial
  | f + 1, i, ls, h1, h2, h3 => by
    rw [listsL]
    refine ResP.ite (fun h => ?_) (fun _ => ⟨⟨Nat.le_refl _, h1⟩, h2, h3⟩)
    refine (b_list X i).bind fun l j hj => ?_
    refine (b_listsL f j _ hj.1.2 (by have := hj.1.1; simp; omega) (fun l' hl' => ?_)).mono fun a k q => ⟨⟨by have := hj.1.1; have := q.1.1; omega, q.1.2⟩, q.2⟩
    rcases List.mem_append.1 hl' with q | q
    · exact h3 l' q
    · simp at q; subst q; exact hj.2
theorem b_argsL {α : Type} {p : α → Prop} {E : Nat → Res α} (hE : ∀ i, i ≤ X.ts.length → ResP (fun a j => Up X i j ∧ p a) (E i)) : ∀ (f i : Nat) (us : List α), i ≤ X.ts.length → us.length ≤ i → (∀ u ∈ us, p u) → ResP (fun a j => Up X i j ∧ a.length ≤ j ∧ ∀ u ∈ a, p u) (argsL X E f i us)
  | 0, i, us, _, _, _ => trivial
  | f + 1, i, us, h1, h2, h3 => by
    rw [argsL]
    refine ResP.ite (fun h => ?_) (fun _ => ResP.ite (fun h => ⟨⟨by omega, by have := tx_lt X h (by decide); omega⟩, by omega, h3⟩) (fun _ => trivial))
    have hi := tx_lt X h (by decide)
    refine (hE (i + 1) (by omega)).bind fun a j hj => ?_
    refine (b_argsL hE f j _ hj.1.2 (by have := hj.1.1; simp; omega) (fun u hu => ?_)).mono fun a k q => ⟨⟨by have := hj.1.1; have := q.1.1; omega, q.1.2⟩, q.2⟩
    rcases List.mem_append.1 hu with q | q
    · exact h3 u q
    · simp at q; subst q; exact hj.2
theorem b_brack {α : Type} {p : α → Prop} {E : Nat → Res α} (hE : ∀ i, i ≤ X.ts.length → ResP (fun a j => Up X i j ∧ p a) (E i)) (i : Nat) : ResP (fun a j => Up X i j ∧ a.length ≤ X.ts.length ∧ ∀ u ∈ a, p u) (brackS X E i) := by
  unfold brackS
  refine (b_must X (tC 40) (by decide) i).bind fun _ k hk => ResP.ite (fun h => ⟨⟨by have := hk.1; omega, by have := tx_lt X h (by decide); omega⟩, by simp, by simp⟩) (fun _ => ?_)
  refine (hE k hk.2).bind fun a j hj => ?_
  refine (b_argsL X hE _ j [a] hj.1.2 (by have := hj.1.1; simp; omega) (by simp; exact hj.2)).mono fun a m q => ⟨⟨by have := hk.1; have := hj.1.1; have := q.1.1; omega, q.1.2⟩, by have := q.1.2; have := q.2.1; omega, q.2.2⟩
theorem two_ok {N : Nat} (hN : 2 ≤ N) {kind : Int} {nm : ByteArray} {num : Int} {a b : Tr} (ha : TrOk N a) (hb : TrOk N b) : TrOk N (.mk kind nm num false [] [] [a, b]) := by
  rw [TrOk]
  exact ⟨by simp, by simp, by simp, by simp; omega, by simp [KidsOk, ha, hb]⟩
/-- A tree is read. -/
abbrev TP (i : Nat) : Tr → Nat → Prop := fun t j => Up X i j ∧ TrOk (X.ts.length + 2) t
theorem b_bound {E : Nat → Res Tr} (hE : ∀ i, i ≤ X.ts.length → ResP (TP X i) (E i)) (kind num : Int) (word : List UInt8) (hw : word ≠ []) (i : Nat) : ResP (TP X i) (boundS X E kind num word i) := by
  unfold boundS
  refine (b_name X i).bind fun nm i1 h1 => (b_must X (tC 61) (by decide) i1).bind fun _ i2 h2 => (hE i2 h2.2).bind fun a i3 h3 => (b_must X word hw i3).bind fun _ i4 h4 => (hE i4 h4.2).bind fun b i5 h5 => ?_
  exact ⟨⟨by have := h1.1; have := h2.1; have := h3.1.1; have := h4.1; have := h5.1.1; omega, h5.1.2⟩, two_ok (by omega) h3.2 h5.2⟩
theorem b_chainL {P : Nat → Res Tr} (hP : ∀ i, i ≤ X.ts.length → ResP (TP X i) (P i)) (sg : ByteArray → Bool) (hsg : sg ByteArray.empty = false) : ∀ (f i : Nat) (t : Tr), i ≤ X.ts.length → TrOk (X.ts.length + 2) t → ResP (fun t j => (i ≤ j ∧ j ≤ X.ts.length) ∧ TrOk (X.ts.length + 2) t) (chainL X P sg f i t)
  | 0, i, t, h1, h2 => by
    rw [chainL]
    exact ResP.ite (fun _ => trivial) (fun _ => ⟨⟨Nat.le_refl _, h1⟩, h2⟩)
  | f + 1, i, t, h1, h2 => by
    rw [chainL]
    refine ResP.ite (fun h => ?_) (fun _ => ⟨⟨Nat.le_refl _, h1⟩, h2⟩)
    have hi : i < X.ts.length := by
      by_cases c : i < X.ts.length
      · exact c
      · rw [Tks.tx_end (by omega), hsg] at h; cases h
    refine (hP (i + 1) (by omega)).bind fun b j hj => ?_
    exact (b_chainL hP sg hsg f j _ hj.1.2 (two_ok (by omega) h2 hj.2)).mono fun t k q => ⟨⟨by have := hj.1.1; have := q.1.1; omega, q.1.2⟩, q.2⟩
theorem b_chain {P : Nat → Res Tr} (hP : ∀ i, i ≤ X.ts.length → ResP (TP X i) (P i)) (sg : ByteArray → Bool) (hsg : sg ByteArray.empty = false) (i : Nat) (hi : i ≤ X.ts.length) : ResP (TP X i) (chainS X P sg i) := by
  unfold chainS
  exact (hP i hi).bind fun t j hj => (b_chainL X hP sg hsg 64 j t hj.1.2 hj.2).mono fun t k q => ⟨⟨by have := hj.1.1; have := q.1.1; omega, q.1.2⟩, q.2⟩
theorem b_call {E : Nat → Res Tr} (hE : ∀ i, i ≤ X.ts.length → ResP (TP X i) (E i)) (nm : ByteArray) (i : Nat) (hi : i ≤ X.ts.length) : ResP (TP X i) (callS X E nm i) := by
  unfold callS
  have hs : ResP (fun (sh : Bool × List (ByteArray × Int)) j => (i ≤ j ∧ j ≤ X.ts.length) ∧ sh.2.length ≤ X.ts.length) (shapedS X i) := by
    unfold shapedS
    exact ResP.ite (fun _ => (b_shape X i).bind fun ds j hj => ⟨⟨by have := hj.1.1; omega, hj.1.2⟩, hj.2⟩) (fun _ => ⟨⟨Nat.le_refl _, hi⟩, by simp⟩)
  refine hs.bind fun sh i1 h1 => (b_listsL X _ i1 [] h1.1.2 (by simp) (by simp)).bind fun ls i2 h2 => (b_brack X hE i2).bind fun ks i3 h3 => ?_
  refine ⟨⟨by have := h1.1.1; have := h2.1.1; have := h3.1.1; omega, h3.1.2⟩, ?_⟩
  rw [TrOk]
  exact ⟨by have := h1.2; omega, by have := h2.1.2; have := h2.2.1; omega, fun l hl => by have := h2.2.2 l hl; omega, by have := h3.2.1; omega, kidsOk_all.2 h3.2.2⟩
theorem b_factor {E : Nat → Res Tr} (hE : ∀ i, i ≤ X.ts.length → ResP (TP X i) (E i)) (i : Nat) (hi : i ≤ X.ts.length) : ResP (TP X i) (factorS X E i) := by
  unfold factorS
  refine ResP.ite (fun h => ?_) (fun _ => ResP.ite (fun h => ?_) (fun _ => ?_))
  · have hl := tx_lt X h (by decide)
    exact (hE (i + 1) (by omega)).bind fun t j hj => (b_must X (tC 41) (by decide) j).bind fun _ k hk => ⟨⟨by have := hj.1.1; have := hk.1; omega, hk.2⟩, hj.2⟩
  · have hl := num_lt X h
    exact ⟨⟨by omega, by omega⟩, by rw [Tr.one, TrOk]; simp [KidsOk]⟩
  · refine (b_name X i).bind fun nm j hj => ResP.ite (fun _ => ?_) (fun _ => ?_)
    · exact (b_call X hE nm j hj.2).mono fun t k q => ⟨⟨by have := hj.1; have := q.1.1; omega, q.1.2⟩, q.2⟩
    · exact ⟨hj, by rw [Tr.nam, TrOk]; simp [KidsOk]⟩
theorem b_expr : ∀ (d i : Nat), i ≤ X.ts.length → ResP (TP X i) (exprS X d i)
  | 0, i, _ => trivial
  | d + 1, i, hi => by
    rw [exprS]
    refine ResP.ite (fun h => ?_) (fun _ => ResP.ite (fun h => ?_) (fun _ => ?_))
    · exact (b_bound X (b_expr d) 5 0 tIn (by decide) (i + 1)).mono fun t k q => ⟨⟨by have := q.1.1; omega, q.1.2⟩, q.2⟩
    · exact (b_num X (i + 1)).bind fun n j hj => (b_bound X (b_expr d) 6 n tWith (by decide) j).mono fun t k q => ⟨⟨by have := hj.1; have := q.1.1; omega, q.1.2⟩, q.2⟩
    · exact b_chain X (fun i hi => b_chain X (fun i hi => b_factor X (b_expr d) i hi) isMulB (by simp [isMulB]) i hi) isSumB (by simp [isSumB]) i hi
theorem b_given (i : Nat) : ResP (fun (g : ByteArray × List (ByteArray × Int)) j => Up X i j ∧ g.2.length ≤ X.ts.length) (givenS X i) := by
  unfold givenS
  exact (b_name X i).bind fun nm i1 h1 => (b_must X (tC 58) (by decide) i1).bind fun _ i2 h2 => (b_shape X i2).bind fun ds i3 h3 => ⟨⟨by have := h1.1; have := h2.1; have := h3.1.1; omega, h3.1.2⟩, h3.2⟩
theorem b_func (i : Nat) : ResP (fun f j => Up X i j ∧ FnOk (X.ts.length + 2) f) (funcS X i) := by
  unfold funcS
  refine (b_must X tFn (by decide) i).bind fun _ i1 h1 => (b_name X i1).bind fun nm i2 h2 => (b_brack X (p := fun g => g.2.length ≤ X.ts.length) (fun i _ => b_given X i) i2).bind fun gs i3 h3 => (b_must X (tC 61) (by decide) i3).bind fun _ i4 h4 => (b_expr X 64 i4 h4.2).bind fun b i5 h5 => (b_must X (tC 59) (by decide) i5).bind fun _ i6 h6 => ?_
  exact ⟨⟨by have := h1.1; have := h2.1; have := h3.1.1; have := h4.1; have := h5.1.1; have := h6.1; omega, h6.2⟩, by have := h3.2.1; simp only; omega, fun g hg => by have := h3.2.2 g hg; omega, h5.2⟩
theorem b_progL : ∀ (f i : Nat) (fs : List FnT), i ≤ X.ts.length → fs.length ≤ i → (∀ f ∈ fs, FnOk (X.ts.length + 2) f) → ResP (fun a j => a.length ≤ X.ts.length ∧ ∀ f ∈ a, FnOk (X.ts.length + 2) f) (progL X f i fs)
  | 0, i, fs, _, _, _ => trivial
  | f + 1, i, fs, h1, h2, h3 => by
    rw [progL]
    refine ResP.ite (fun h => ?_) (fun _ => ⟨by omega, h3⟩)
    refine (b_func X i).bind fun fn j hj => b_progL f j _ hj.1.2 (by have := hj.1.1; simp; omega) (fun g hg => ?_)
    rcases List.mem_append.1 hg with q | q
    · exact h3 g q
    · simp at q; subst q; exact hj.2
theorem b_prog : ResP (fun a _ => a.length ≤ X.ts.length ∧ ∀ f ∈ a, FnOk (X.ts.length + 2) f) (progS X) := b_progL X _ 0 [] (Nat.zero_le _) (by simp) (by simp)
end
end Go.Proofs.YtadhlnlcdljamaaGreatDoor.V
namespace Go.Proofs.YtadhlnlcdljamaaGreatDoor.V
set_option maxRecDepth 20000
open Go.RowKit

theorem extract_xs (s : ByteArray) (i k : Nat) : xsOf (s.extract i k) = part (xsOf s) i k := by
  unfold xsOf part
  rw [ByteArray.data_extract, Array.toList_extract, List.extract_eq_take_drop, List.map_take, List.map_drop]
theorem extract_part (s : ByteArray) (i k : Nat) : s.extract i k = strOfNums (part (xsOf s) i k) := by
  have h := extract_xs s i k
  rw [← h]
  unfold strOfNums xsOf
  rw [List.map_map]
  have e : ((fun n : Int => UInt8.ofNat n.toNat) ∘ fun b : UInt8 => (b.toNat : Int)) = id := by
    funext b
    simp
  rw [e, List.map_id]

/-- What both sides answer. -/
def tokO (s : ByteArray) : (Int × Nat) × List (List Int × Nat) :=
  if 65536 < s.size then ((5, 0), [])
  else if (scanN (xsOf s) 0 []).1.1 = 0 then ((0, 0), (scanN (xsOf s) 0 []).2)
  else ((scanN (xsOf s) 0 []).1, [])
def TokP (s : ByteArray) (w : World) (e : Ending) (w' : World) : Prop :=
  ∃ A c, e = .returned (.tuple #[.slice A (tokO s).2.length c, .agg #[.int .i64 (tokO s).1.1, .int .i64 ((tokO s).1.2 : Int)]]) ∧ TokAt w' w.heap.size A (tokO s).2 ∧ Below w.heap.size w w'

theorem TokAt.less {w : World} {B B' : Nat} {A : Option Addr} {ts : List (List Int × Nat)} (h : TokAt w B A ts) (hB : B' ≤ B) : TokAt w B' A ts := by
  rcases h with h | ⟨g, rfl, h1, h2⟩
  · exact .inl h
  · exact .inr ⟨g, rfl, by omega, h2⟩

theorem wrong_num {xs : List Int} (h0 : xs.length ≠ 0) : wrongI xs = if numeralB xs = true then (if valB xs = true then 0 else 4) else 7 := by
  unfold wrongI numeralB valB
  by_cases ha : xs.all digitI = true
  · rw [if_pos ha, ha, Bool.true_and]
    by_cases h1 : xs[0]?.getD 0 = 48 ∧ 1 < xs.length
    · have e1 : (xs.length == 1) = false := by rw [beq_eq_false_iff_ne]; omega
      have e2 : (xs[0]?.getD 0 != 48) = false := by rw [h1.1]; rfl
      rw [if_pos h1, e1, e2]
      rfl
    · have e1 : (xs.length == 1 || xs[0]?.getD 0 != 48) = true := by
        by_cases h2 : xs.length = 1
        · rw [h2]; rfl
        · have : ¬ xs[0]?.getD 0 = 48 := fun h => h1 ⟨h, by omega⟩
          rw [Bool.or_eq_true]
          exact .inr (by simpa using this)
      rw [if_neg h1, e1, if_pos rfl]
      by_cases h2 : numVal xs ≤ 9223372036854775807
      · rw [if_pos h2, decide_eq_true h2, if_pos rfl]
      · rw [if_neg h2, decide_eq_false h2, if_neg Bool.false_ne_true]
  · rw [if_neg ha, Bool.eq_false_iff.2 ha, Bool.false_and, if_neg Bool.false_ne_true]

set_option maxRecDepth 100000 in
set_option maxHeartbeats 2000000 in
theorem rTokens_much (s : ByteArray) (w : World) (hs : 65536 < s.size) (hmax : s.size ≤ 9223372036854775807) : Calls Tryz.prog 11 #[.string s] w (TokP s w) := by
  have HP : Hid (∀ e w' A c, e = .returned (.tuple #[.slice A 0 c, .agg #[.int .i64 5, .int .i64 0]]) → Below w.heap.size w w' → TokP s w e w') := by
    intro e w' A c he hB
    unfold TokP tokO
    rw [if_pos hs]
    exact ⟨A, c, he, .inl rfl, hB⟩
  have HA := hide (TwoAt.new 25 w (.int .i64 0) (.int .i64 0))
  obtain ⟨⟨r0, r1⟩, fr0, fr1⟩ := HA.out.cells
  go_enter Tryz.func11, Tryz.ntmps11
  go_wp2
  obtain ⟨⟨u0, u1⟩, _⟩ := (TwoAt.new 25 w (.int .i64 5) (.int .i64 0)).cells
  exact bodyPost_ret (v := .tuple #[.slice none 0 0, .agg #[.int .i64 5, .int .i64 0]]) (by simp [results, Tryz.results11, go_sem, u0, u1]) rfl (HP.out _ _ none 0 rfl ((Below.refl _ _).alloc (Nat.le_refl _) _))

/-- What a round of the document's loop finds. -/
def RelR (s : ByteArray) (w wr : World) (v i : Value) : Prop :=
  ∃ (k : Nat) (ts : List (List Int × Nat)), i = .int .i64 k ∧ k ≤ s.size ∧ ts.length ≤ k ∧ scanN (xsOf s) 0 [] = scanN (xsOf s) k ts ∧ wr.ownsRow (w.heap.size + 1) 34 2 v ts.length (tokRow ts) ∧ TwoAt 25 wr w.heap.size (.int .i64 0) (.int .i64 0) ∧ Below w.heap.size w wr

theorem rel_next {s : ByteArray} {w wr : World} {v : Value} {k E : Nat} {ts : List (List Int × Nat)} (hk : k < s.size) (htl : ts.length ≤ k) (hsc : scanN (xsOf s) 0 [] = scanN (xsOf s) k ts) (ho : wr.ownsRow (w.heap.size + 1) 34 2 v ts.length (tokRow ts)) (ha : TwoAt 25 wr w.heap.size (.int .i64 0) (.int .i64 0)) (hB : Below w.heap.size w wr)
    (h0 : (pieceR (xsOf s) k).1 = 0) (h1 : (pieceR (xsOf s) k).2.2 = false) (hE : (pieceR (xsOf s) k).2.1 = E) : RelR s w wr v (.int .i64 (E : Int)) := by
  have hx : k < (xsOf s).length := by rw [xsOf_length]; exact hk
  have he := pieceR_end hx
  rw [hE, xsOf_length] at he
  have hn := scanN_none hx h0 h1 ts
  rw [hE] at hn
  exact ⟨E, ts, rfl, he.2, by omega, hsc.trans hn, ho, ha, hB⟩

theorem rel_tok {s : ByteArray} {w wr w1 : World} {v v' : Value} {k E : Nat} {ts : List (List Int × Nat)} {o : Obj} (hk : k < s.size) (htl : ts.length ≤ k) (hsc : scanN (xsOf s) 0 [] = scanN (xsOf s) k ts) (ho : wr.ownsRow (w.heap.size + 1) 34 2 v ts.length (tokRow ts)) (ha : TwoAt 25 wr w.heap.size (.int .i64 0) (.int .i64 0)) (hB : Below w.heap.size w wr)
    (h0 : (pieceR (xsOf s) k).1 = 0) (h1 : (pieceR (xsOf s) k).2.2 = true) (hE : (pieceR (xsOf s) k).2.1 = E) (ho' : w1.ownsRow (w.heap.size + 1) 34 2 v' (ts.length + 1) (tokRow ts ++ [.string (s.extract k E), .int .i64 (k : Int)])) (hg : (wr.alloc o).grownBy w1 v.ownBlock) : RelR s w w1 v' (.int .i64 (E : Int)) := by
  have hx : k < (xsOf s).length := by rw [xsOf_length]; exact hk
  have he := pieceR_end hx
  rw [hE, xsOf_length] at he
  have hn := scanN_tok hx h0 h1 ts
  rw [hE] at hn
  have hz := ha.lt
  refine ⟨E, ts ++ [(part (xsOf s) k E, k)], rfl, he.2, ?_, hsc.trans hn, ?_, ?_, ?_⟩
  · rw [List.length_append]; show ts.length + 1 ≤ E; omega
  · rw [tokRow_snoc, List.length_append, ← extract_part]; exact ho'
  · exact (ha.alloc o).grown hg (fun e => by have := (ho.lt _ e.symm).1; omega)
  · exact (hB.alloc hB.size o).grown hg (by have := hB.size; simp; omega) (fun i e => by have := (ho.lt i e).1; omega)

/-- The end of the document's loop, where an error is told. -/
theorem rel_bad {s : ByteArray} {w : World} {k : Nat} {ts : List (List Int × Nat)} (hs : s.size ≤ 65536) (hk : k < s.size) (hsc : scanN (xsOf s) 0 [] = scanN (xsOf s) k ts) {T : Int} (hT : (pieceR (xsOf s) k).1 = T) (h0 : T ≠ 0) {e : Ending} {w' : World} (he : e = .returned (.tuple #[.slice none 0 0, .agg #[.int .i64 T, .int .i64 (k : Int)]])) (hB : Below w.heap.size w w') : TokP s w e w' := by
  have hx : k < (xsOf s).length := by rw [xsOf_length]; exact hk
  have hb := hsc.trans (scanN_bad hx (by rw [hT]; exact h0) ts)
  unfold TokP tokO
  rw [if_neg (by omega), hb, if_neg (by rw [hT]; exact h0), hT]
  exact ⟨none, 0, he, .inl rfl, hB⟩
theorem rel_end {s : ByteArray} {w wr : World} {v : Value} {k : Nat} {ts : List (List Int × Nat)} (hs : s.size ≤ 65536) (hk : ¬ k < s.size) (hsc : scanN (xsOf s) 0 [] = scanN (xsOf s) k ts) (ho : wr.ownsRow (w.heap.size + 1) 34 2 v ts.length (tokRow ts)) (hB : Below w.heap.size w wr) {e : Ending} {w' : World} (he : e = .returned (.tuple #[v, .agg #[.int .i64 0, .int .i64 0]])) (hg : wr.grownBy w' (some w.heap.size)) : TokP s w e w' := by
  have hb := hsc.trans (scanN_end (by rw [xsOf_length]; exact hk) ts)
  unfold TokP tokO
  rw [if_neg (by omega), hb, if_pos rfl]
  obtain ⟨A, c, rfl, _, hT⟩ := own_tok ho
  exact ⟨A, c, he, (hT.grown hg (by omega)).less (by omega), hB.trans (hg.under (Nat.le_refl _) hB.size)⟩
end Go.Proofs.YtadhlnlcdljamaaGreatDoor.V
namespace Go.Proofs.YtadhlnlcdljamaaGreatDoor.V
set_option maxRecDepth 20000
set_option linter.unusedVariables false

theorem xsOf_app (a b : ByteArray) : xsOf (a ++ b) = xsOf a ++ xsOf b := by
  unfold xsOf
  rw [ByteArray.data_append, Array.toList_append, List.map_append]
theorem joined_add (x b : List Int) : ∀ ps, joined (ps ++ [(x, b)]) = joined ps ++ (x ++ b)
  | [] => by simp [joined]
  | p :: r => by simp [joined, joined_add x b r]

/-- The first k tokens have been written, each with what stands behind it. -/
def Made (ts : List (List Int × Nat)) (k : Nat) (t : ByteArray) : Prop :=
  ∃ ps : List (List Int × List Int), ps.map (·.1) = (ts.take k).map (·.1) ∧ (∀ p ∈ ps, p.2 ∈ seps) ∧ xsOf t = joined ps ∧ t.size ≤ k * 65600
theorem Made.zero (ts : List (List Int × Nat)) : Made ts 0 ⟨#[]⟩ := ⟨[], by simp, by simp, rfl, Nat.zero_le _⟩
theorem sep_len {b : List Int} (h : b ∈ seps) : b.length ≤ 17 := by
  simp only [seps, List.mem_cons, List.not_mem_nil, or_false] at h
  rcases h with rfl | rfl | rfl | rfl <;> decide
theorem Made.step {ts : List (List Int × Nat)} {k : Nat} {t b : ByteArray} (h : Made ts k t) (hk : k < ts.length) (hg : ∀ t ∈ ts, t.1.length ≤ 65536 ∧ ∀ x ∈ t.1, 0 ≤ x ∧ x ≤ 255) (hb : xsOf b ∈ seps) : Made ts (k + 1) (t ++ strOfNums (ts[k]?.getD ([], 0)).1 ++ b) := by
  obtain ⟨ps, h1, h2, h3, h4⟩ := h
  have e : ts[k]?.getD ([], 0) = ts[k] := by simp [hk]
  obtain ⟨g1, g2⟩ := hg ts[k] (List.getElem_mem hk)
  have hx : xsOf (strOfNums (ts[k]?.getD ([], 0)).1) = ts[k].1 := by rw [e]; exact xsOf_nums g2
  refine ⟨ps ++ [(ts[k].1, xsOf b)], ?_, ?_, ?_, ?_⟩
  · rw [List.map_append, h1, List.take_add_one, List.getElem?_eq_getElem hk, List.map_append]
    rfl
  · intro p hp
    rcases List.mem_append.1 hp with hp | hp
    · exact h2 p hp
    · simp only [List.mem_singleton] at hp
      subst hp
      exact hb
  · rw [xsOf_app, xsOf_app, joined_add, h3, hx, List.append_assoc]
  · have q := congrArg List.length (xsOf_app (t ++ strOfNums (ts[k]?.getD ([], 0)).1) b)
    have q2 := congrArg List.length (xsOf_app t (strOfNums (ts[k]?.getD ([], 0)).1))
    have q3 := sep_len hb
    rw [List.length_append] at q q2
    rw [hx] at q2
    rw [xsOf_length, xsOf_length] at q q2
    rw [xsOf_length] at q q3
    omega

theorem tx_map {X : Tks} {l : List (List Int × Nat)} {n : Nat} (i : Nat) : (Tks.mk (l.map fun t => (strOfNums t.1, t.2)) n).tx i = ((l.map (·.1))[i]?.map strOfNums).getD ByteArray.empty := by
  unfold Tks.tx
  simp only [List.getElem?_map]
  cases l[i]? <;> rfl
theorem made_same {s t : ByteArray} (h : Made (scanN (xsOf s) 0 []).2 (scanN (xsOf s) 0 []).2.length t) : (scanN (xsOf t) 0 []).1 = (0, 0) ∧ SameT (toksOf s) (toksOf t) := by
  obtain ⟨ps, h1, h2, h3, h4⟩ := h
  rw [List.take_length] at h1
  have ht := scanN_toks (xsOf s) _ 0 [] (Nat.le_refl _) (by simp)
  obtain ⟨ts, e1, e2⟩ := scan_joined ps [] [] (fun p hp => ⟨by
    have : p.1 ∈ ps.map (·.1) := List.mem_map_of_mem hp
    rw [h1] at this
    obtain ⟨q, hq, e⟩ := List.mem_map.1 this
    rw [← e]
    exact ht q hq, h2 p hp⟩)
  simp only [List.nil_append, List.length_nil] at e1
  rw [← h3] at e1
  have e3 : ts.map (·.1) = (scanN (xsOf s) 0 []).2.map (·.1) := e2.trans h1
  refine ⟨by rw [e1], ?_, fun i => ?_⟩
  · rw [toksOf_len, toksOf_len, e1]
    have := congrArg List.length e3
    simp at this
    exact this.symm
  · unfold toksOf
    rw [tx_map (X := toksOf s), tx_map (X := toksOf s), e1, e3]

theorem tok_ok {s : ByteArray} (h : (tokO s).1.1 = 0) : s.size ≤ 65536 ∧ (scanN (xsOf s) 0 []).1.1 = 0 ∧ (tokO s).2 = (scanN (xsOf s) 0 []).2 := by
  unfold tokO at h ⊢
  by_cases h1 : 65536 < s.size
  · rw [if_pos h1] at h; simp at h
  · rw [if_neg h1] at h ⊢
    by_cases h2 : (scanN (xsOf s) 0 []).1.1 = 0
    · rw [if_pos h2]
      exact ⟨by omega, h2, rfl⟩
    · rw [if_neg h2] at h
      exact absurd h h2
theorem tok_good {s : ByteArray} (h : (tokO s).1.1 = 0) : ∀ t ∈ (tokO s).2, t.1.length ≤ 65536 ∧ ∀ x ∈ t.1, 0 ≤ x ∧ x ≤ 255 := by
  obtain ⟨h1, h2, h3⟩ := tok_ok h
  intro t ht
  rw [h3] at ht
  obtain ⟨g1, g2, _⟩ := scanN_good (xsOf s) (xsOf_bd s) _ 0 [] (Nat.le_refl _) (by simp) t ht
  rw [xsOf_length] at g1
  exact ⟨by omega, g2⟩
theorem read_same {s t : ByteArray} (h : (tokO s).1.1 = 0) (hm : Made (tokO s).2 (tokO s).2.length t) (ht : t.size ≤ 65536) : (readO t).1.1 = (readO s).1.1 ∧ (readO t).2 = (readO s).2 := by
  obtain ⟨h1, h2, h3⟩ := tok_ok h
  rw [h3] at hm
  obtain ⟨k1, k2⟩ := made_same hm
  have hp := sim_prog k2
  unfold readO
  rw [if_neg (show ¬ 65536 < t.size by omega), if_neg (show ¬ 65536 < s.size by omega), if_pos h2, if_pos (show (scanN (xsOf t) 0 []).1.1 = 0 by rw [k1])]
  cases e1 : progS (toksOf s) with
  | bad T k =>
    cases e2 : progS (toksOf t) with
    | bad T' k' => rw [e1, e2] at hp; exact ⟨Eq.symm hp, rfl⟩
    | ok f j => rw [e1, e2] at hp; exact hp.elim
  | ok f j =>
    cases e2 : progS (toksOf t) with
    | bad T' k' => rw [e1, e2] at hp; exact hp.elim
    | ok f' j' => rw [e1, e2] at hp; exact ⟨rfl, hp.1.symm⟩
mutual
theorem TrOk.mono {N M : Nat} (h : N ≤ M) : ∀ (t : Tr), TrOk N t → TrOk M t
  | .mk _ _ _ _ shape lists kids, k => by
    obtain ⟨k1, k2, k3, k4, k5⟩ := k
    exact ⟨by omega, by omega, fun l hl => by have := k3 l hl; omega, by omega, KidsOk.mono h kids k5⟩
theorem KidsOk.mono {N M : Nat} (h : N ≤ M) : ∀ (ts : List Tr), KidsOk N ts → KidsOk M ts
  | [], _ => True.intro
  | t :: ts, k => ⟨TrOk.mono h t k.1, KidsOk.mono h ts k.2⟩
end
theorem FnOk.mono {N M : Nat} {f : FnT} (k : FnOk N f) (h : N ≤ M) : FnOk M f := ⟨by have := k.1; omega, fun g hg => by have := k.2.1 g hg; omega, TrOk.mono h _ k.2.2⟩
theorem read_bound (s : ByteArray) : (readO s).2.length ≤ 65538 ∧ ∀ f ∈ (readO s).2, FnOk 65538 f := by
  unfold readO
  by_cases h1 : 65536 < s.size
  · rw [if_pos h1]; exact ⟨Nat.zero_le _, by simp⟩
  · rw [if_neg h1]
    by_cases h2 : (scanN (xsOf s) 0 []).1.1 = 0
    · rw [if_pos h2]
      have hl := scanN_len (xsOf s) _ 0 [] (Nat.le_refl _) (Nat.le_refl _) (Nat.zero_le _)
      rw [xsOf_length, ← toksOf_len] at hl
      have hb := b_prog (toksOf s)
      cases e1 : progS (toksOf s) with
      | bad T k => exact ⟨Nat.zero_le _, by simp⟩
      | ok fs j =>
        rw [e1] at hb
        have hb' : fs.length ≤ (toksOf s).ts.length ∧ ∀ f ∈ fs, FnOk ((toksOf s).ts.length + 2) f := hb
        exact ⟨by show fs.length ≤ 65538; omega, fun f hf => (hb'.2 f hf).mono (by omega)⟩
    · rw [if_neg h2]; exact ⟨Nat.zero_le _, by simp⟩
end Go.Proofs.YtadhlnlcdljamaaGreatDoor.V
