/-
  Rooms: orders that make each tree without anything else in between.
-/
import Derived.Test.YtnncalhpbfmgoaaRmLeastM
namespace Go.Proofs.Ytnncalhpbfmgoaa.V
open Go.RowKit
set_option linter.unusedVariables false

/-- The first one, the last one, how many. -/
def tgS (p : Nat → Bool) : Nat → Int × Int × Int
  | 0 => (-1, -1, 0)
  | j + 1 => if p j = true then (if (tgS p j).1 < 0 then (j : Int) else (tgS p j).1, (j : Int), (tgS p j).2.2 + 1) else tgS p j
def tgOk (p : Nat → Bool) (n : Nat) : Bool := decide ((tgS p n).2.1 - (tgS p n).1 + 1 = (tgS p n).2.2)
def tgP (ab : List Int) (o : List Nat) (s : Nat) : Nat → Bool := fun i => inB ab s (atK o i)
def togB (ab : List Int) (o : List Nat) : Bool := (List.range ab.length).all fun s => tgOk (tgP ab o s) o.length
structure TgAt (p : Nat → Bool) (j f l : Nat) (c : Int) : Prop where
  is : tgS p j = ((f : Int), (l : Int), c)
  fl : f ≤ l
  lj : l < j
  pf : p f = true
  pl : p l = true
  lo : ∀ i, i < f → p i = false
  hi : ∀ i, l < i → i < j → p i = false
  pos : 0 < c
  le : c ≤ (l : Int) - f + 1
  all : c = (l : Int) - f + 1 ↔ ∀ i, f ≤ i → i ≤ l → p i = true
theorem tg_spec (p : Nat → Bool) : ∀ j, ((∀ i, i < j → p i = false) ∧ tgS p j = (-1, -1, 0)) ∨ ∃ f l c, TgAt p j f l c
  | 0 => .inl ⟨fun i hi => by omega, rfl⟩
  | j + 1 => by
    by_cases hp : p j = true
    · right
      rcases tg_spec p j with ⟨h1, h2⟩ | ⟨f, l, c, h⟩
      · refine ⟨j, j, 1, ?_, Nat.le_refl _, by omega, hp, hp, h1, fun i h3 h4 => by omega, by omega, by omega, ?_⟩
        · rw [tgS, if_pos hp, h2]
          rfl
        · constructor
          · intro _ i h3 h4
            obtain rfl : i = j := by omega
            exact hp
          · intro _; omega
      · have l1 := h.fl
        have l2 := h.lj
        have l3 := h.le
        refine ⟨f, j, c + 1, ?_, by omega, by omega, h.pf, hp, h.lo, fun i h3 h4 => by omega, by have := h.pos; omega, by omega, ?_⟩
        · rw [tgS, if_pos hp, h.is]
          simp only
          rw [if_neg (by omega)]
        · constructor
          · intro e i h3 h4
            by_cases hij : i = j
            · rw [hij]; exact hp
            · have el : l + 1 = j := by omega
              exact h.all.1 (by omega) i h3 (by omega)
          · intro hall
            have el : l + 1 = j := by
              by_cases hh : l + 1 = j
              · exact hh
              · have := h.hi (j - 1) (by omega) (by omega)
                rw [hall (j - 1) (by omega) (by omega)] at this
                cases this
            have := h.all.2 fun i h3 h4 => hall i h3 (by omega)
            omega
    · have hp' : p j = false := by simpa using hp
      have e : tgS p (j + 1) = tgS p j := by rw [tgS, if_neg hp]
      rcases tg_spec p j with ⟨h1, h2⟩ | ⟨f, l, c, h⟩
      · refine .inl ⟨fun i hi => ?_, by rw [e, h2]⟩
        by_cases hij : i = j
        · rw [hij]; exact hp'
        · exact h1 i (by omega)
      · refine .inr ⟨f, l, c, by rw [e]; exact h.is, h.fl, by have := h.lj; omega, h.pf, h.pl, h.lo, fun i h3 h4 => ?_, h.pos, h.le, h.all⟩
        by_cases hij : i = j
        · rw [hij]; exact hp'
        · exact h.hi i h3 (by omega)
theorem tg_bd (p : Nat → Bool) (j : Nat) : -1 ≤ (tgS p j).1 ∧ (tgS p j).1 < (j : Int) + 1 ∧ -1 ≤ (tgS p j).2.1 ∧ (tgS p j).2.1 < (j : Int) + 1 ∧ 0 ≤ (tgS p j).2.2 ∧ (tgS p j).2.2 ≤ (j : Int) := by
  rcases tg_spec p j with ⟨h1, h2⟩ | ⟨f, l, c, h⟩
  · rw [h2]; simp only; omega
  · have l1 := h.fl
    have l2 := h.lj
    have l3 := h.le
    have l4 := h.pos
    rw [h.is]; simp only; omega
theorem tg_iff (p : Nat → Bool) (n : Nat) (h : ∃ i, i < n ∧ p i = true) : tgOk p n = true ↔ ∀ i j l, i ≤ j → j ≤ l → l < n → p i = true → p l = true → p j = true := by
  unfold tgOk
  rw [decide_eq_true_eq]
  rcases tg_spec p n with ⟨h1, h2⟩ | ⟨f, l, c, h3⟩
  · obtain ⟨i, k1, k2⟩ := h
    rw [h1 i k1] at k2
    cases k2
  · rw [h3.is]
    simp only
    constructor
    · intro e i j k hij hjk hk hi hl
      have hall := h3.all.1 e.symm
      refine hall j ?_ ?_
      · by_cases hh : f ≤ i
        · omega
        · rw [h3.lo i (by omega)] at hi; cases hi
      · by_cases hh : k ≤ l
        · omega
        · rw [h3.hi k (by omega) hk] at hl; cases hl
    · intro hh
      exact (h3.all.2 fun i h4 h5 => hh f i l h4 h5 h3.lj h3.pf h3.pl).symm
theorem Ordr.has {ab ws : List Int} {o : List Nat} {v : Int} (h : Ordr ab ws o v) {s : Nat} (hs : s < ab.length) : ∃ i, i < o.length ∧ tgP ab o s i = true := by
  obtain ⟨i, h1, h2⟩ := h.all hs
  exact ⟨i, h1, by unfold tgP; rw [h2]; exact inB_self _ _⟩
theorem tog_holds {ab ws : List Int} {o : List Nat} {v : Int} (hT : TreeOk ab ws) (h : Ordr ab ws o v) (ht : togB ab o = true) : Holds ab ws o := by
  intro k s t u hk hs htu hu h1 h2 hnk
  have hl := kids_lt hT hs
  have hm := (mem_kids hT).1 hs
  have hok := (tg_iff _ _ (h.has (s := s) (by omega))).1 (List.all_eq_true.1 ht s (by simp; omega))
  obtain ⟨p, p1, p2⟩ := h.all (x := s) (by omega)
  have hpu : p < u := by
    rcases Nat.lt_trichotomy p u with h3 | h3 | h3
    · exact h3
    · subst h3
      rw [p2, inB_self] at h2
      cases h2
    · have := hok t u p (by omega) (by omega) p1 h1 (by unfold tgP; rw [p2]; exact inB_self _ _)
      unfold tgP at this
      rw [h2] at this
      cases this
  have hms : mdB o u s = true := by
    unfold mdB
    simpa using mem_take.2 ⟨p, hpu, p1, p2⟩
  have hmk : mdB o u k = false := by
    unfold mdB
    simpa using hnk
  refine needS_ge hT (by omega) (inB_self _ _) ?_
  rw [hms]
  unfold openB
  have : (nth ab s).toNat = k := hm.2
  rw [this, hmk]
  simp
theorem same_holds {ab ws : List Int} {o : List Nat} {v : Int} (hT : TreeOk ab ws) (h : Ordr ab ws o v) (hw : ∀ x, x < ab.length → nth ws x = nth ws 0) : Holds ab ws o := by
  intro k s t u hk hs htu hu h1 h2 hnk
  have hl := kids_lt hT hs
  have hm := (mem_kids hT).1 hs
  have key : ∀ x, x < ab.length → inB ab s x = true → mdB o u x = true → ∃ y, y < ab.length ∧ inB ab s y = true ∧ (mdB o u y && openB ab (mdB o u) y) = true := by
    refine up_ind hT _ fun x hx ih a b => ?_
    by_cases e : openB ab (mdB o u) x = true
    · exact ⟨x, hx, a, by rw [b, e]; rfl⟩
    · rcases (inB_spec hT (by omega)).1 a with rfl | ⟨a1, a2⟩
      · exfalso
        apply e
        unfold openB
        have h3 : (nth ab x).toNat = k := hm.2
        have h4 : mdB o u k = false := by
          unfold mdB
          simpa using hnk
        rw [h3, h4]
        simp
      · refine ih (by omega) a2 ?_
        unfold openB at e
        simp at e
        exact e.2
  obtain ⟨y, y1, y2, y3⟩ := key (atK o t) (h.lt t (by omega)) h1 (by
    unfold mdB
    simpa using mem_take.2 ⟨t, htu, by omega, rfl⟩)
  have := needS_ge hT y1 y2 y3
  rw [hw y y1] at this
  rw [hw s (by omega)]
  exact this
/-- A tree's own stretch of the climbing order. -/
theorem climb_part {ab ws : List Int} {T : Nat → List Nat} (h : Rows2 ab ws T) : ∀ (f k s : Nat), k < f → k < ab.length → s < ab.length → inB ab k s = true → ∃ pre f' post, s < f' ∧ climbF T f k = pre ++ (climbF T f' s ++ post)
  | 0, k, s, hf, _, _, _ => by omega
  | f + 1, k, s, hf, hk, hs, hin => by
    by_cases e : s = k
    · subst e
      exact ⟨[], f + 1, [], hf, by simp⟩
    · obtain ⟨c, c1, c2⟩ := inB_down h.ok hk s hs hin e
      have hl := kids_lt h.ok c1
      obtain ⟨pre, f', post, h1, h2⟩ := climb_part h f c s (by omega) (by omega) hs c2
      obtain ⟨A, B, hAB⟩ := List.append_of_mem ((h.mem hk).2 c1)
      refine ⟨A.flatMap (climbF T f) ++ pre, f', post ++ (B.flatMap (climbF T f) ++ [k]), h1, ?_⟩
      rw [climbF, hAB]
      simp [h2]
theorem atK_mid {a b c : List Nat} {i : Nat} (h : i < (a ++ (b ++ c)).length) : (i < a.length ∧ atK (a ++ (b ++ c)) i ∈ a) ∨ (a.length ≤ i ∧ i < a.length + b.length ∧ atK (a ++ (b ++ c)) i ∈ b) ∨ (a.length + b.length ≤ i ∧ atK (a ++ (b ++ c)) i ∈ c) := by
  simp only [List.length_append] at h
  unfold atK
  by_cases h1 : i < a.length
  · refine .inl ⟨h1, ?_⟩
    rw [List.getElem?_append_left h1]
    simp [h1]
  · rw [List.getElem?_append_right (by omega)]
    by_cases h2 : i - a.length < b.length
    · refine .inr (.inl ⟨by omega, by omega, ?_⟩)
      rw [List.getElem?_append_left h2]
      simp [h2]
    · refine .inr (.inr ⟨by omega, ?_⟩)
      rw [List.getElem?_append_right (by omega)]
      simp [show i - a.length - b.length < c.length by omega]
theorem tog_climb {ab ws : List Int} {T : Nat → List Nat} (h : Rows2 ab ws T) : togB ab (climbAll T ab.length) = true := by
  unfold togB
  rw [List.all_eq_true]
  intro s hs
  simp at hs
  have h0 : ab.length ≠ 0 := by omega
  have hc : climbAll T ab.length = climbF T ab.length (ab.length - 1) := by unfold climbAll; rw [if_neg h0]
  rw [hc]
  have hnd := climb_nodup h ab.length (ab.length - 1) (by omega) (by omega)
  obtain ⟨pre, f', post, h1, h2⟩ := climb_part h ab.length (ab.length - 1) s (by omega) (by omega) hs (inB_all h.ok s hs)
  rw [h2] at hnd ⊢
  have hmid : ∀ x, x < ab.length → inB ab s x = true → x ∈ climbF T f' s := fun x hx hi => (climb_mem h f' s x h1 hs).2 ⟨hx, hi⟩
  have hlt : ∀ x, x ∈ pre ++ (climbF T f' s ++ post) → x < ab.length := fun x hx => by
    rw [← h2] at hx
    exact ((climb_mem h ab.length (ab.length - 1) x (by omega) (by omega)).1 hx).1
  rw [List.nodup_append] at hnd
  obtain ⟨n1, n2, n3⟩ := hnd
  rw [List.nodup_append] at n2
  obtain ⟨n4, n5, n6⟩ := n2
  have hin : ∀ i, i < (pre ++ (climbF T f' s ++ post)).length → tgP ab (pre ++ (climbF T f' s ++ post)) s i = true → pre.length ≤ i ∧ i < pre.length + (climbF T f' s).length := fun i hi hp => by
    unfold tgP at hp
    have hm : atK (pre ++ (climbF T f' s ++ post)) i ∈ climbF T f' s := hmid _ (hlt _ (atK_mem _ i hi)) hp
    rcases atK_mid hi with ⟨_, e⟩ | ⟨e1, e2, _⟩ | ⟨_, e⟩
    · exact absurd rfl (n3 _ e _ (by simp [hm]))
    · exact ⟨e1, e2⟩
    · exact absurd rfl (n6 _ hm _ e)
  have hself : s ∈ climbF T f' s := hmid s hs (inB_self _ _)
  refine (tg_iff _ _ ?_).2 fun i j l hij hjl hl hi hl2 => ?_
  · obtain ⟨i, i1, i2⟩ := List.mem_iff_getElem.1 (show s ∈ pre ++ (climbF T f' s ++ post) by simp [hself])
    refine ⟨i, i1, ?_⟩
    unfold tgP
    have : atK (pre ++ (climbF T f' s ++ post)) i = s := by unfold atK; rw [List.getElem?_eq_getElem i1, i2]; rfl
    rw [this]
    exact inB_self _ _
  · have a := hin i (by omega) hi
    have b := hin l hl hl2
    unfold tgP
    rcases atK_mid (show j < (pre ++ (climbF T f' s ++ post)).length by omega) with ⟨e1, _⟩ | ⟨_, _, e⟩ | ⟨e1, _⟩
    · omega
    · exact ((climb_mem h f' s _ h1 hs).1 e).2
    · omega
/-- LIU. -/
theorem liu_law {ab ws ord : List Int} {T : Nat → List Nat} {bl : Nat → Int} {m : Int} (hS : Sorted ab ws T bl) (hp : peakV ab ws ord = (m, 0)) : ∃ o, ord = cI o ∧ (∀ t, t < o.length → atK o t < ab.length) ∧ (togB ab o = true ∨ (∀ x, x < ab.length → nth ws x = nth ws 0) → climbV2 ab ws bl ≤ m) := by
  obtain ⟨o, ho, h⟩ := ordr_of hp
  refine ⟨o, ho, h.lt, fun hh => ?_⟩
  have hT := hS.rows.ok
  have hH : Holds ab ws o := by
    rcases hh with hh | hh
    · exact tog_holds hT h hh
    · exact same_holds hT h hh
  unfold climbV2
  by_cases h0 : ab.length = 0
  · rw [if_pos h0]
    unfold peakV at hp
    cases hq : pk ab ws (fun _ => false) 0 ord with
    | none => rw [hq] at hp; simp [peakX] at hp
    | some x =>
      have h1 := (pk_spec _ _ _ _ hq).1
      rw [hq] at hp
      simp only [peakX] at hp
      by_cases hl : ord.length = ab.length
      · rw [if_pos hl] at hp
        cases hp
        exact h1
      · rw [if_neg hl] at hp
        simp at hp
  · rw [if_neg h0]
    obtain ⟨t, t1, t2, t3⟩ := liu hS h hH ab.length (ab.length - 1) (by omega) (by omega)
    exact Int.le_trans t3 (needS_all hT h t1 _)
end Go.Proofs.Ytnncalhpbfmgoaa.V
