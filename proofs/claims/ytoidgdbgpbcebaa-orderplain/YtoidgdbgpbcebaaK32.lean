/-
  Orders: what is done by picks does not hang on how the list is laid, as long as those of one time stand in one order; in a sorted list the picks go group by group.
-/
import Derived.Test.YtoidgdbgpbcebaaK18
import Derived.Sort.Statements
namespace Go.Proofs.Ytoidgdbgpbcebaa.V
open Go.RowKit
set_option linter.unusedVariables false

section
variable {β : Type}
/-- The places of those for which p holds. -/
theorem filt_get (p : β → Bool) (dflt : β) : ∀ (l : List β) (j : Nat), ((List.range l.length).filter (fun i => p (l[i]?.getD dflt)))[j]? = none ∧ (l.filter p)[j]? = none ∨
    ∃ i x, ((List.range l.length).filter (fun i => p (l[i]?.getD dflt)))[j]? = some i ∧ (l.filter p)[j]? = some x ∧ l[i]? = some x ∧ (l.eraseIdx i).filter p = (l.filter p).eraseIdx j ∧ ∀ q : β → Bool, (q x = false) → (l.eraseIdx i).filter q = l.filter q
  | [], j => .inl ⟨by simp, by simp⟩
  | y :: l, j => by
    have hr : (List.range (y :: l).length).filter (fun i => p ((y :: l)[i]?.getD dflt)) = (if p y = true then [0] else []) ++ ((List.range l.length).filter (fun i => p (l[i]?.getD dflt))).map (· + 1) := by
      rw [List.length_cons, List.range_succ_eq_map, List.filter_cons, List.filter_map]
      have e : (fun i => p ((y :: l)[i]?.getD dflt)) ∘ Nat.succ = fun i => p (l[i]?.getD dflt) := by
        funext i
        simp
      rw [e]
      by_cases h : p y = true
      · simp [h]
      · simp [h]
    rw [hr]
    by_cases hy : p y = true
    · rw [if_pos hy]
      cases j with
      | zero =>
        refine .inr ⟨0, y, by simp, by simp [hy], by simp, by simp [hy], fun q hq => by simp [hq]⟩
      | succ j =>
        rcases filt_get p dflt l j with ⟨h1, h2⟩ | ⟨i, x, h1, h2, h3, h4, h5⟩
        · refine .inl ⟨?_, by simp [hy, h2]⟩
          simp only [List.singleton_append, List.getElem?_cons_succ, List.getElem?_map, h1, Option.map_none]
        · refine .inr ⟨i + 1, x, ?_, by simp [hy, h2], by simpa using h3, ?_, fun q hq => ?_⟩
          · simp only [List.singleton_append, List.getElem?_cons_succ, List.getElem?_map, h1, Option.map_some]
          · simp only [List.eraseIdx_cons_succ, List.filter_cons, hy, if_true, h4]
          · simp only [List.eraseIdx_cons_succ, List.filter_cons, h5 q hq]
    · rw [if_neg hy, List.nil_append]
      rcases filt_get p dflt l j with ⟨h1, h2⟩ | ⟨i, x, h1, h2, h3, h4, h5⟩
      · exact .inl ⟨by rw [List.getElem?_map, h1]; rfl, by simp [hy, h2]⟩
      · refine .inr ⟨i + 1, x, by rw [List.getElem?_map, h1]; rfl, by simp [hy, h2], by simpa using h3, ?_, fun q hq => ?_⟩
        · simp only [List.eraseIdx_cons_succ, List.filter_cons, hy]
          simpa using h4
        · simp only [List.eraseIdx_cons_succ, List.filter_cons, h5 q hq]
end
/-- Two lists of the same spots of which those of one time stand in one order. -/
structure Stab (T : Tms) (l l' : List Spn) : Prop where
  perm : l.Perm l'
  cls : ∀ τ, l.filter (fun x => eq8 (spT T x) τ) = l'.filter (fun x => eq8 (spT T x) τ)
/-- Who is the first. -/
def leastB (T : Tms) (l : List Spn) (x : Spn) : Bool := l.all (fun y => !befB (spT T y) (spT T x))
theorem least_perm {T : Tms} {l l' : List Spn} (h : l.Perm l') : leastB T l = leastB T l' := by
  funext x
  unfold leastB
  rw [Bool.eq_iff_iff, List.all_eq_true, List.all_eq_true]
  exact ⟨fun e y hy => e y (h.mem_iff.2 hy), fun e y hy => e y (h.mem_iff.1 hy)⟩
theorem minI_least (T : Tms) (l : List Spn) : minI (fun i => spT T (l[i]?.getD spD)) l.length = (List.range l.length).filter (fun i => leastB T l (l[i]?.getD spD)) := by
  unfold minI leastB
  refine List.filter_congr fun i hi => ?_
  rw [Bool.eq_iff_iff, List.all_eq_true, List.all_eq_true]
  constructor
  · intro h y hy
    obtain ⟨j, hj, rfl⟩ := List.mem_iff_getElem.1 hy
    have := h j (by simpa using hj)
    simpa [hj] using this
  · intro h j hj
    have hj' : j < l.length := by simpa using hj
    exact h _ (by simp [hj'])
theorem least_cls {T : Tms} {l : List Spn} {m : Spn} (hm : m ∈ l) (hl : leastB T l m = true) : l.filter (leastB T l) = l.filter (fun x => eq8 (spT T x) (spT T m)) := by
  refine List.filter_congr fun x hx => ?_
  have h1 : befB (spT T x) (spT T m) = false := by
    have := (List.all_eq_true.1 hl) x hx
    simpa using this
  rw [Bool.eq_iff_iff]
  constructor
  · intro h
    have h2 : befB (spT T m) (spT T x) = false := by
      have := (List.all_eq_true.1 h) m hm
      simpa using this
    rcases befB_tri (spT T x) (spT T m) with c | c | c
    · rw [c] at h1; cases h1
    · rw [c] at h2; cases h2
    · exact (eq8_iff _ _).2 c
  · intro h
    have h2 := (eq8_iff _ _).1 h
    unfold leastB
    rw [List.all_eq_true]
    intro y hy
    have := (List.all_eq_true.1 hl) y hy
    have e : befB (spT T y) (spT T x) = befB (spT T y) (spT T m) := befB_congr (fun j hj => ⟨rfl, h2 j hj⟩)
    rw [e]
    exact this
/-- The pick as a place among those that are least. -/
def pickK (mix : List Int) (turn n : Nat) : Nat := if mix = [] then 0 else ((mix[turn % mix.length]?.getD 0) % (n : Int)).toNat
theorem pickK_lt (mix : List Int) (turn : Nat) {n : Nat} (h : 0 < n) : pickK mix turn n < n := by
  unfold pickK
  split
  · exact h
  · have h1 := Int.emod_lt_of_pos (mix[turn % mix.length]?.getD 0) (show (0 : Int) < n by omega)
    have h2 := Int.emod_nonneg (mix[turn % mix.length]?.getD 0) (show (n : Int) ≠ 0 by omega)
    omega
theorem pickI_at (T : Tms) (mix : List Int) (turn : Nat) (l : List Spn) : pickI T mix turn l = ((List.range l.length).filter (fun i => leastB T l (l[i]?.getD spD)))[pickK mix turn ((List.range l.length).filter (fun i => leastB T l (l[i]?.getD spD))).length]?.getD 0 := by
  unfold pickI pickK
  rw [minI_least]
  by_cases h : mix = []
  · simp only [if_pos h]
  · simp only [if_neg h]
theorem filt_len {β : Type} (p : β → Bool) (dflt : β) (l : List β) : ((List.range l.length).filter (fun i => p (l[i]?.getD dflt))).length = (l.filter p).length := by
  refine Nat.le_antisymm ?_ ?_
  · refine Nat.le_of_not_lt fun h => ?_
    rcases filt_get p dflt l (l.filter p).length with ⟨h1, _⟩ | ⟨_, _, _, h2, _⟩
    · rw [List.getElem?_eq_none_iff] at h1
      omega
    · have := (List.getElem?_eq_some_iff.1 h2).1
      omega
  · refine Nat.le_of_not_lt fun h => ?_
    rcases filt_get p dflt l ((List.range l.length).filter (fun i => p (l[i]?.getD dflt))).length with ⟨_, h1⟩ | ⟨_, _, h2, _⟩
    · rw [List.getElem?_eq_none_iff] at h1
      omega
    · have := (List.getElem?_eq_some_iff.1 h2).1
      omega
/-- One pick: the spot, and what is left. -/
theorem pick_step {T : Tms} {l : List Spn} (mix : List Int) (turn : Nat) (h : l ≠ []) : ∃ x, l[pickI T mix turn l]? = some x ∧ (l.filter (leastB T l))[pickK mix turn (l.filter (leastB T l)).length]? = some x ∧
    (∀ τ, (l.eraseIdx (pickI T mix turn l)).filter (fun y => eq8 (spT T y) τ) = if eq8 (spT T x) τ = true then (l.filter (leastB T l)).eraseIdx (pickK mix turn (l.filter (leastB T l)).length) else l.filter (fun y => eq8 (spT T y) τ)) ∧ pickI T mix turn l < l.length := by
  have hp := minI_pos (fun i => spT T (l[i]?.getD spD)) (List.length_pos_iff.2 h)
  rw [minI_least, filt_len (leastB T l) spD l] at hp
  have hk := pickK_lt mix turn hp
  rw [pickI_at, filt_len]
  rcases filt_get (leastB T l) spD l (pickK mix turn (l.filter (leastB T l)).length) with ⟨_, h1⟩ | ⟨i, x, h1, h2, h3, h4, h5⟩
  · rw [List.getElem?_eq_none_iff] at h1
    omega
  · rw [h1]
    have hx : x ∈ l ∧ leastB T l x = true := by
      have := List.mem_of_getElem? h2
      simpa using this
    refine ⟨x, h3, h2, fun τ => ?_, (List.getElem?_eq_some_iff.1 h3).1⟩
    by_cases e : eq8 (spT T x) τ = true
    · rw [if_pos e, ← h4]
      show (l.eraseIdx i).filter _ = _
      have hc := least_cls hx.1 hx.2
      refine List.filter_congr fun y hy => ?_
      have hyl : y ∈ l := List.mem_of_mem_eraseIdx hy
      have e1 : leastB T l y = eq8 (spT T y) (spT T x) := by
        have := congrArg (fun z => decide (y ∈ z)) hc
        simp only [List.mem_filter, hyl, true_and] at this
        cases h6 : leastB T l y <;> cases h7 : eq8 (spT T y) (spT T x) <;> simp [h6, h7] at this <;> rfl
      rw [e1, Bool.eq_iff_iff, eq8_iff, eq8_iff]
      have e2 := (eq8_iff _ _).1 e
      exact ⟨fun k j hj => (k j hj).trans (e2 j hj).symm, fun k j hj => (k j hj).trans (e2 j hj)⟩
    · rw [if_neg e]
      exact h5 _ (by simpa using e)
theorem perm_erase {β : Type} : ∀ (l : List β) (i : Nat) (x : β), l[i]? = some x → (x :: l.eraseIdx i).Perm l
  | [], i, x, h => by simp at h
  | y :: l, 0, x, h => by
    have e : y = x := by simpa using h
    subst e
    exact List.Perm.refl _
  | y :: l, i + 1, x, h => by
    have ih := perm_erase l i x (by simpa using h)
    rw [List.eraseIdx_cons_succ]
    exact (List.Perm.swap y x _).trans (ih.cons y)
/-- PICKS DO NOT HANG ON HOW THE LIST IS LAID. -/
theorem play_stab (T : Tms) (mix : List Int) : ∀ (n turn : Nat) (l l' : List Spn), Stab T l l' → playL T mix n turn l = playL T mix n turn l'
  | 0, _, _, _, _ => rfl
  | n + 1, turn, l, l', h => by
    unfold playL
    by_cases h0 : l = []
    · have h0' : l' = [] := by
        have := h.perm.length_eq
        rw [h0] at this
        exact List.eq_nil_of_length_eq_zero this.symm
      rw [if_pos h0, if_pos h0']
    · have h0' : l' ≠ [] := fun e => by
        have := h.perm.length_eq
        rw [e] at this
        exact h0 (List.eq_nil_of_length_eq_zero this)
      rw [if_neg h0, if_neg h0']
      obtain ⟨x, a1, a2, a3, a4⟩ := pick_step (T := T) mix turn h0
      obtain ⟨x', b1, b2, b3, b4⟩ := pick_step (T := T) mix turn h0'
      have hx : x ∈ l ∧ leastB T l x = true := by
        have := List.mem_of_getElem? a2
        simpa using this
      have hf : l.filter (leastB T l) = l'.filter (leastB T l') := by
        rw [least_cls hx.1 hx.2, least_cls (h.perm.mem_iff.1 hx.1) (by rw [← least_perm h.perm]; exact hx.2)]
        exact h.cls _
      have hxx : x = x' := by
        rw [hf] at a2
        rw [a2] at b2
        exact Option.some.inj b2
      subst hxx
      rw [a1, b1]
      congr 1
      refine play_stab T mix n (turn + 1) _ _ ⟨?_, fun τ => ?_⟩
      · exact ((perm_erase _ _ _ a1).trans (h.perm.trans (perm_erase _ _ _ b1).symm)).cons_inv
      · rw [a3, b3, hf, h.cls τ]
/-- In a list whose first ones have one time, which is ahead of that of the others, one of these is picked. -/
theorem pick_front {T : Tms} {f r : List Spn} {τ : Nat → Int} (mix : List Int) (turn : Nat) (hf : f ≠ []) (h1 : ∀ x ∈ f, eq8 (spT T x) τ = true) (h2 : ∀ x ∈ r, befB τ (spT T x) = true) : pickI T mix turn (f ++ r) = pickK mix turn f.length := by
  have hm : minI (fun i => spT T ((f ++ r)[i]?.getD spD)) (f ++ r).length = List.range f.length := by
    have e0 : List.range (f ++ r).length = List.range f.length ++ (List.range r.length).map (f.length + ·) := by rw [List.length_append, List.range_add]
    have hfl := List.length_pos_iff.2 hf
    unfold minI
    rw [e0, List.filter_append]
    have g1 : ∀ i, i < f.length → ∀ j, j < f.length + r.length → befB (spT T ((f ++ r)[j]?.getD spD)) (spT T ((f ++ r)[i]?.getD spD)) = false := fun i hi j hj => by
      have a1 := (eq8_iff _ _).1 (h1 f[i] (List.getElem_mem hi))
      rw [show (f ++ r)[i]? = some f[i] by rw [List.getElem?_append_left hi]; simp]
      by_cases c : j < f.length
      · have a2 := (eq8_iff _ _).1 (h1 f[j] (List.getElem_mem c))
        rw [show (f ++ r)[j]? = some f[j] by rw [List.getElem?_append_left c]; simp]
        exact befB_same (fun k hk => (a2 k hk).trans (a1 k hk).symm)
      · have hj2 : j - f.length < r.length := by omega
        have a2 := h2 r[j - f.length] (List.getElem_mem hj2)
        rw [show (f ++ r)[j]? = some r[j - f.length] by rw [List.getElem?_append_right (by omega)]; simp [hj2]]
        have a3 : befB (spT T f[i]) (spT T r[j - f.length]) = true := by rw [← a2]; exact befB_congr (fun k hk => ⟨a1 k hk, rfl⟩)
        exact befB_asymm a3
    have g2 : ∀ i, i < r.length → befB (spT T ((f ++ r)[0]?.getD spD)) (spT T ((f ++ r)[f.length + i]?.getD spD)) = true := fun i hi => by
      have a1 := (eq8_iff _ _).1 (h1 f[0] (List.getElem_mem hfl))
      have a2 := h2 r[i] (List.getElem_mem hi)
      rw [show (f ++ r)[0]? = some f[0] by rw [List.getElem?_append_left hfl]; simp, show (f ++ r)[f.length + i]? = some r[i] by rw [List.getElem?_append_right (by omega)]; simp [hi]]
      rw [← a2]
      exact befB_congr (fun k hk => ⟨a1 k hk, rfl⟩)
    have f1 : (List.range f.length).filter (fun i => (List.range f.length ++ (List.range r.length).map (f.length + ·)).all (fun j => !befB (spT T ((f ++ r)[j]?.getD spD)) (spT T ((f ++ r)[i]?.getD spD)))) = List.range f.length := by
      rw [List.filter_eq_self]
      intro i hi
      rw [List.all_eq_true]
      intro j hj
      rw [← e0] at hj
      have := g1 i (by simpa using hi) j (by simpa using hj)
      simp [this]
    have f2 : ((List.range r.length).map (f.length + ·)).filter (fun i => (List.range f.length ++ (List.range r.length).map (f.length + ·)).all (fun j => !befB (spT T ((f ++ r)[j]?.getD spD)) (spT T ((f ++ r)[i]?.getD spD)))) = [] := by
      rw [List.filter_eq_nil_iff]
      intro i hi hc
      rw [List.mem_map] at hi
      obtain ⟨i', hi', rfl⟩ := hi
      rw [List.all_eq_true] at hc
      have := hc 0 (by simp [hfl])
      rw [g2 i' (by simpa using hi')] at this
      cases this
    rw [f1, f2, List.append_nil]
  have hk := pickK_lt mix turn (List.length_pos_iff.2 hf)
  unfold pickI
  rw [hm]
  unfold pickK at hk ⊢
  by_cases h : mix = []
  · simp only [if_pos h, List.length_range] at hk ⊢
    simp [hk]
  · simp only [if_neg h, List.length_range] at hk ⊢
    simp [hk]
theorem play_front {T : Tms} {f r : List Spn} {τ : Nat → Int} (mix : List Int) (n turn : Nat) (hf : f ≠ []) (h1 : ∀ x ∈ f, eq8 (spT T x) τ = true) (h2 : ∀ x ∈ r, befB τ (spT T x) = true) :
    playL T mix (n + 1) turn (f ++ r) = (f[pickK mix turn f.length]?.getD spD) :: playL T mix n (turn + 1) (f.eraseIdx (pickK mix turn f.length) ++ r) := by
  have hk := pickK_lt mix turn (List.length_pos_iff.2 hf)
  show (if f ++ r = [] then [] else _) = _
  rw [if_neg (by simp [hf]), pick_front mix turn hf h1 h2, List.getElem?_append_left hk, List.eraseIdx_append_of_lt_length hk]
/-- In front the time, behind it where one stood. -/
def ltI {β : Type} (tm : β → Nat → Int) (x y : β × Nat) : Bool := befB (tm x.1) (tm y.1) || (!befB (tm y.1) (tm x.1) && decide (x.2 < y.2))
theorem ltI_false {β : Type} {tm : β → Nat → Int} {x y : β × Nat} : ltI tm x y = false ↔ befB (tm x.1) (tm y.1) = false ∧ (befB (tm y.1) (tm x.1) = true ∨ y.2 ≤ x.2) := by
  unfold ltI
  cases h1 : befB (tm x.1) (tm y.1) <;> cases h2 : befB (tm y.1) (tm x.1) <;> simp
theorem befB_mid {f g h : Nat → Int} (h1 : befB g h = true) (h2 : befB g f = false) : befB f h = true := by
  rcases befB_tri f g with c | c | c
  · exact befB_trans c h1
  · rw [c] at h2; cases h2
  · rw [← h1]
    exact befB_congr (fun j hj => ⟨c j hj, rfl⟩)
theorem befB_mid2 {f g h : Nat → Int} (h1 : befB f g = true) (h2 : befB h g = false) : befB f h = true := by
  rcases befB_tri g h with c | c | c
  · exact befB_trans h1 c
  · rw [c] at h2; cases h2
  · rw [← h1]
    exact befB_congr (fun j hj => ⟨rfl, (c j hj).symm⟩)
theorem swo_ltI {β : Type} (tm : β → Nat → Int) : Go.Sort.SWO (ltI tm) where
  irrefl x := ltI_false.2 ⟨befB_irr _, .inr (Nat.le_refl _)⟩
  trans x y z h1 h2 := by
    unfold ltI at h1 h2 ⊢
    simp only [Bool.or_eq_true, Bool.and_eq_true, Bool.not_eq_true', decide_eq_true_eq] at h1 h2 ⊢
    rcases h1 with h1 | ⟨h1, i1⟩ <;> rcases h2 with h2 | ⟨h2, i2⟩
    · exact .inl (befB_trans h1 h2)
    · exact .inl (befB_mid2 h1 h2)
    · exact .inl (befB_mid h2 h1)
    · exact .inr ⟨befB_le_trans h1 h2, by omega⟩
  ntrans x y z h1 h2 := by
    rw [ltI_false] at h1 h2 ⊢
    refine ⟨befB_le_trans h2.1 h1.1, ?_⟩
    rcases h1.2 with a | a
    · exact .inl (befB_mid a h2.1)
    · rcases h2.2 with b | b
      · exact .inl (befB_mid2 b h1.1)
      · exact .inr (by omega)
theorem stab_of {β : Type} (tm : β → Nat → Int) (L : List β) (D : List (β × Nat)) (hp : L.zipIdx.Perm D) (hs : D.Pairwise (fun a b => ltI tm b a = false)) :
    L.Perm (D.map (·.1)) ∧ (∀ τ, L.filter (fun x => eq8 (tm x) τ) = (D.map (·.1)).filter (fun x => eq8 (tm x) τ)) ∧ (D.map (·.1)).Pairwise (fun a b => befB (tm b) (tm a) = false) := by
  have e0 : L.zipIdx.map (·.1) = L := by
    apply List.ext_getElem?
    intro i
    simp
  refine ⟨by have := hp.map (·.1); rw [e0] at this; exact this, fun τ => ?_, ?_⟩
  · have e1 : L.zipIdx.filter (fun x => eq8 (tm x.1) τ) = D.filter (fun x => eq8 (tm x.1) τ) := by
      refine List.Perm.eq_of_pairwise (le := fun a b => a.2 ≤ b.2) (fun a b ha hb h1 h2 => ?_) ?_ ?_ (hp.filter _)
      · have ha' := (List.mem_filter.1 ha).1
        have hb' := hp.mem_iff.2 (List.mem_filter.1 hb).1
        obtain ⟨x, i⟩ := a
        obtain ⟨y, j⟩ := b
        obtain rfl : i = j := Nat.le_antisymm h1 h2
        rw [List.mem_zipIdx_iff_getElem?] at ha' hb'
        simp only at ha' hb'
        rw [ha'] at hb'
        cases hb'
        rfl
      · refine List.Pairwise.filter _ ?_
        rw [List.pairwise_iff_getElem]
        intro i j hi hj hij
        simp [List.getElem_zipIdx]
        omega
      · refine List.Pairwise.imp_of_mem (fun {a b} ha hb h => ?_) (hs.filter _)
        have ta := (eq8_iff _ _).1 (by simpa using (List.mem_filter.1 ha).2)
        have tb := (eq8_iff _ _).1 (by simpa using (List.mem_filter.1 hb).2)
        rcases (ltI_false.1 h).2 with c | c
        · have : befB (tm a.1) (tm b.1) = false := befB_same (fun k hk => (ta k hk).trans (tb k hk).symm)
          rw [this] at c
          cases c
        · exact c
    have e2 := congrArg (List.map (·.1)) e1
    have e3 : ∀ M : List (β × Nat), (M.filter (fun x => eq8 (tm x.1) τ)).map (·.1) = (M.map (·.1)).filter (fun x => eq8 (tm x) τ) := fun M => by
      rw [List.filter_map]
      rfl
    rw [e3, e3, e0] at e2
    exact e2
  · rw [List.pairwise_map]
    exact hs.imp (fun h => (ltI_false.1 h).1)
end Go.Proofs.Ytoidgdbgpbcebaa.V
