/-
  A text of the same tokens with other blanks and remarks between them is read as the first is.
-/
import Derived.Test.YtdpgbhenhealpaaDoorTxLex
import Derived.Test.YtdpgbhenhealpaaDoorTxSim
import Derived.Test.YtdpgbhenhealpaaDoorTxBound
import Derived.Test.YtdpgbhenhealpaaDoorTxRead
import Derived.Test.YtdpgbhenhealpaaDoorTxRef
namespace Go.Proofs.YtdpgbhenhealpaaDoor.V
set_option maxRecDepth 20000
set_option linter.unusedVariables false

theorem xsOf_app (a b : ByteArray) : xsOf (a ++ b) = xsOf a ++ xsOf b := by
  unfold xsOf
  rw [ByteArray.data_append, Array.toList_append, List.map_append]
theorem joined_add (x b : List Int) : ∀ ps, joined (ps ++ [(x, b)]) = joined ps ++ (x ++ b)
  | [] => by simp [joined]
  | p :: r => by simp [joined, joined_add x b r]

/-- The first k tokens have been written, each with what stands behind it. -/
def Made (ts : List (List Int × Nat)) (k : Nat) (t : ByteArray) : Prop :=
  ∃ ps : List (List Int × List Int), ps.map (·.1) = (ts.take k).map (·.1) ∧ (∀ p ∈ ps, p.2 ∈ seps) ∧ xsOf t = joined ps ∧ t.size ≤ k * 65600
theorem Made.zero (ts : List (List Int × Nat)) : Made ts 0 ⟨#[]⟩ := ⟨[], by simp, by simp, rfl, Nat.zero_le _⟩
theorem sep_len {b : List Int} (h : b ∈ seps) : b.length ≤ 17 := by
  simp only [seps, List.mem_cons, List.not_mem_nil, or_false] at h
  rcases h with rfl | rfl | rfl | rfl <;> decide
theorem Made.step {ts : List (List Int × Nat)} {k : Nat} {t b : ByteArray} (h : Made ts k t) (hk : k < ts.length) (hg : ∀ t ∈ ts, t.1.length ≤ 65536 ∧ ∀ x ∈ t.1, 0 ≤ x ∧ x ≤ 255) (hb : xsOf b ∈ seps) : Made ts (k + 1) (t ++ strOfNums (ts[k]?.getD ([], 0)).1 ++ b) := by
  obtain ⟨ps, h1, h2, h3, h4⟩ := h
  have e : ts[k]?.getD ([], 0) = ts[k] := by simp [hk]
  obtain ⟨g1, g2⟩ := hg ts[k] (List.getElem_mem hk)
  have hx : xsOf (strOfNums (ts[k]?.getD ([], 0)).1) = ts[k].1 := by rw [e]; exact xsOf_nums g2
  refine ⟨ps ++ [(ts[k].1, xsOf b)], ?_, ?_, ?_, ?_⟩
  · rw [List.map_append, h1, List.take_add_one, List.getElem?_eq_getElem hk, List.map_append]
    rfl
  · intro p hp
    rcases List.mem_append.1 hp with hp | hp
    · exact h2 p hp
    · simp only [List.mem_singleton] at hp
      subst hp
      exact hb
  · rw [xsOf_app, xsOf_app, joined_add, h3, hx, List.append_assoc]
  · have q := congrArg List.length (xsOf_app (t ++ strOfNums (ts[k]?.getD ([], 0)).1) b)
    have q2 := congrArg List.length (xsOf_app t (strOfNums (ts[k]?.getD ([], 0)).1))
    have q3 := sep_len hb
    rw [List.length_append] at q q2
    rw [hx] at q2
    rw [xsOf_length, xsOf_length] at q q2
    rw [xsOf_length] at q q3
    omega

theorem tx_map {X : Tks} {l : List (List Int × Nat)} {n : Nat} (i : Nat) : (Tks.mk (l.map fun t => (strOfNums t.1, t.2)) n).tx i = ((l.map (·.1))[i]?.map strOfNums).getD ByteArray.empty := by
  unfold Tks.tx
  simp only [List.getElem?_map]
  cases l[i]? <;> rfl
theorem made_same {s t : ByteArray} (h : Made (scanN (xsOf s) 0 []).2 (scanN (xsOf s) 0 []).2.length t) : (scanN (xsOf t) 0 []).1 = (0, 0) ∧ SameT (toksOf s) (toksOf t) := by
  obtain ⟨ps, h1, h2, h3, h4⟩ := h
  rw [List.take_length] at h1
  have ht := scanN_toks (xsOf s) _ 0 [] (Nat.le_refl _) (by simp)
  obtain ⟨ts, e1, e2⟩ := scan_joined ps [] [] (fun p hp => ⟨by
    have : p.1 ∈ ps.map (·.1) := List.mem_map_of_mem hp
    rw [h1] at this
    obtain ⟨q, hq, e⟩ := List.mem_map.1 this
    rw [← e]
    exact ht q hq, h2 p hp⟩)
  simp only [List.nil_append, List.length_nil] at e1
  rw [← h3] at e1
  have e3 : ts.map (·.1) = (scanN (xsOf s) 0 []).2.map (·.1) := e2.trans h1
  refine ⟨by rw [e1], ?_, fun i => ?_⟩
  · rw [toksOf_len, toksOf_len, e1]
    have := congrArg List.length e3
    simp at this
    exact this.symm
  · unfold toksOf
    rw [tx_map (X := toksOf s), tx_map (X := toksOf s), e1, e3]

theorem tok_ok {s : ByteArray} (h : (tokO s).1.1 = 0) : s.size ≤ 65536 ∧ (scanN (xsOf s) 0 []).1.1 = 0 ∧ (tokO s).2 = (scanN (xsOf s) 0 []).2 := by
  unfold tokO at h ⊢
  by_cases h1 : 65536 < s.size
  · rw [if_pos h1] at h; simp at h
  · rw [if_neg h1] at h ⊢
    by_cases h2 : (scanN (xsOf s) 0 []).1.1 = 0
    · rw [if_pos h2]
      exact ⟨by omega, h2, rfl⟩
    · rw [if_neg h2] at h
      exact absurd h h2
theorem tok_good {s : ByteArray} (h : (tokO s).1.1 = 0) : ∀ t ∈ (tokO s).2, t.1.length ≤ 65536 ∧ ∀ x ∈ t.1, 0 ≤ x ∧ x ≤ 255 := by
  obtain ⟨h1, h2, h3⟩ := tok_ok h
  intro t ht
  rw [h3] at ht
  obtain ⟨g1, g2, _⟩ := scanN_good (xsOf s) (xsOf_bd s) _ 0 [] (Nat.le_refl _) (by simp) t ht
  rw [xsOf_length] at g1
  exact ⟨by omega, g2⟩
theorem read_same {s t : ByteArray} (h : (tokO s).1.1 = 0) (hm : Made (tokO s).2 (tokO s).2.length t) (ht : t.size ≤ 65536) : (readO t).1.1 = (readO s).1.1 ∧ (readO t).2 = (readO s).2 := by
  obtain ⟨h1, h2, h3⟩ := tok_ok h
  rw [h3] at hm
  obtain ⟨k1, k2⟩ := made_same hm
  have hp := sim_prog k2
  unfold readO
  rw [if_neg (show ¬ 65536 < t.size by omega), if_neg (show ¬ 65536 < s.size by omega), if_pos h2, if_pos (show (scanN (xsOf t) 0 []).1.1 = 0 by rw [k1])]
  cases e1 : progS (toksOf s) with
  | bad T k =>
    cases e2 : progS (toksOf t) with
    | bad T' k' => rw [e1, e2] at hp; exact ⟨Eq.symm hp, rfl⟩
    | ok f j => rw [e1, e2] at hp; exact hp.elim
  | ok f j =>
    cases e2 : progS (toksOf t) with
    | bad T' k' => rw [e1, e2] at hp; exact hp.elim
    | ok f' j' => rw [e1, e2] at hp; exact ⟨rfl, hp.1.symm⟩
mutual
theorem TrOk.mono {N M : Nat} (h : N ≤ M) : ∀ (t : Tr), TrOk N t → TrOk M t
  | .mk _ _ _ _ shape lists kids, k => by
    obtain ⟨k1, k2, k3, k4, k5⟩ := k
    exact ⟨by omega, by omega, fun l hl => by have := k3 l hl; omega, by omega, KidsOk.mono h kids k5⟩
theorem KidsOk.mono {N M : Nat} (h : N ≤ M) : ∀ (ts : List Tr), KidsOk N ts → KidsOk M ts
  | [], _ => True.intro
  | t :: ts, k => ⟨TrOk.mono h t k.1, KidsOk.mono h ts k.2⟩
end
theorem FnOk.mono {N M : Nat} {f : FnT} (k : FnOk N f) (h : N ≤ M) : FnOk M f := ⟨by have := k.1; omega, fun g hg => by have := k.2.1 g hg; omega, TrOk.mono h _ k.2.2⟩
theorem read_bound (s : ByteArray) : (readO s).2.length ≤ 65538 ∧ ∀ f ∈ (readO s).2, FnOk 65538 f := by
  unfold readO
  by_cases h1 : 65536 < s.size
  · rw [if_pos h1]; exact ⟨Nat.zero_le _, by simp⟩
  · rw [if_neg h1]
    by_cases h2 : (scanN (xsOf s) 0 []).1.1 = 0
    · rw [if_pos h2]
      have hl := scanN_len (xsOf s) _ 0 [] (Nat.le_refl _) (Nat.le_refl _) (Nat.zero_le _)
      rw [xsOf_length, ← toksOf_len] at hl
      have hb := b_prog (toksOf s)
      cases e1 : progS (toksOf s) with
      | bad T k => exact ⟨Nat.zero_le _, by simp⟩
      | ok fs j =>
        rw [e1] at hb
        have hb' : fs.length ≤ (toksOf s).ts.length ∧ ∀ f ∈ fs, FnOk ((toksOf s).ts.length + 2) f := hb
        exact ⟨by show fs.length ≤ 65538; omega, fun f hf => (hb'.2 f hf).mono (by omega)⟩
    · rw [if_neg h2]; exact ⟨Nat.zero_le _, by simp⟩
end Go.Proofs.YtdpgbhenhealpaaDoor.V
