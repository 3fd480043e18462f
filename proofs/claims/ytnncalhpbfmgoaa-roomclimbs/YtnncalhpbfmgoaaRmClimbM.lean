/-
  Rooms: the mathematics of climbing: who stands in a node's tree; the order; what is needed in it.
-/
import Derived.Test.YtnncalhpbfmgoaaRmSortM
import Derived.Test.YtnncalhpbfmgoaaRmOrderP
namespace Go.Proofs.Ytnncalhpbfmgoaa.V
open Go.RowKit
set_option linter.unusedVariables false

/-- From a node up to the first one that is not below a number. -/
def upv (ab : List Int) (k : Nat) : Nat → Int → Int
  | 0, b => b
  | f + 1, b => if 0 ≤ b ∧ b < (k : Int) then upv ab k f (nth ab b.toNat) else b
/-- Does a node stand in that one's tree? -/
def inB (ab : List Int) (k x : Nat) : Bool := decide (upv ab k ab.length (x : Int) = (k : Int))
abbrev par (ab : List Int) (x : Nat) : Nat := (nth ab x).toNat
theorem upv_stop (ab : List Int) (k f : Nat) (b : Int) (h : ¬ (0 ≤ b ∧ b < (k : Int))) : upv ab k f b = b := by
  cases f with
  | zero => rfl
  | succ f => rw [upv, if_neg h]
theorem par_of {ab ws : List Int} (h : TreeOk ab ws) {x : Nat} (hx : x + 1 < ab.length) : nth ab x = (par ab x : Int) ∧ x < par ab x ∧ par ab x < ab.length := by
  have := h.up x hx
  unfold par
  omega
theorem upv_more {ab ws : List Int} (h : TreeOk ab ws) (k : Nat) : ∀ (f x : Nat), x < ab.length → ab.length - x ≤ f → upv ab k (f + 1) (x : Int) = upv ab k f (x : Int)
  | 0, x, hx, hf => by omega
  | f + 1, x, hx, hf => by
    have e1 : upv ab k (f + 1 + 1) (x : Int) = if 0 ≤ (x : Int) ∧ (x : Int) < (k : Int) then upv ab k (f + 1) (nth ab (x : Int).toNat) else (x : Int) := rfl
    have e2 : upv ab k (f + 1) (x : Int) = if 0 ≤ (x : Int) ∧ (x : Int) < (k : Int) then upv ab k f (nth ab (x : Int).toNat) else (x : Int) := rfl
    rw [e1, e2]
    by_cases hk : 0 ≤ (x : Int) ∧ (x : Int) < (k : Int)
    · rw [if_pos hk, if_pos hk, Int.toNat_natCast]
      by_cases hl : x + 1 = ab.length
      · rw [h.root x hl, upv_stop _ _ _ _ (by omega), upv_stop _ _ _ _ (by omega)]
      · obtain ⟨e, h1, h2⟩ := par_of h (x := x) (by omega)
        rw [e]
        exact upv_more h k f _ h2 (by omega)
    · rw [if_neg hk, if_neg hk]
theorem inB_self (ab : List Int) (k : Nat) : inB ab k k = true := by
  unfold inB
  rw [upv_stop _ _ _ _ (by omega)]
  simp
theorem inB_gt {ab : List Int} {k x : Nat} (h : k < x) : inB ab k x = false := by
  unfold inB
  rw [upv_stop _ _ _ _ (by omega)]
  simp
  omega
theorem inB_step {ab ws : List Int} (h : TreeOk ab ws) {k x : Nat} (h1 : x < k) (h2 : k < ab.length) : inB ab k x = inB ab k (par ab x) := by
  obtain ⟨e, h3, h4⟩ := par_of h (x := x) (by omega)
  unfold inB
  obtain ⟨m, hm⟩ : ∃ m, ab.length = m + 1 := ⟨ab.length - 1, by omega⟩
  rw [hm, upv, if_pos (by omega), Int.toNat_natCast, e, upv_more h k m _ h4 (by omega)]
theorem inB_spec {ab ws : List Int} (h : TreeOk ab ws) {k x : Nat} (h2 : k < ab.length) : inB ab k x = true ↔ x = k ∨ (x < k ∧ inB ab k (par ab x) = true) := by
  rcases Nat.lt_trichotomy x k with h1 | h1 | h1
  · rw [inB_step h h1 h2]
    constructor
    · exact fun h => .inr ⟨h1, h⟩
    · rintro (rfl | h)
      · omega
      · exact h.2
  · subst h1
    simp [inB_self]
  · rw [inB_gt h1]
    constructor
    · intro h; cases h
    · rintro (h | h) <;> omega
theorem inB_le {ab : List Int} {k x : Nat} (h : inB ab k x = true) : x ≤ k := by
  rcases Nat.lt_or_ge k x with h1 | h1
  · rw [inB_gt h1] at h; cases h
  · exact h1
/-- Going down by what stands above. -/
theorem up_ind {ab ws : List Int} (hT : TreeOk ab ws) (p : Nat → Prop) (h : ∀ x, x < ab.length → (x + 1 < ab.length → p (par ab x)) → p x) : ∀ x, x < ab.length → p x := by
  have key : ∀ m x, x < ab.length → ab.length - x ≤ m → p x := by
    intro m
    induction m with
    | zero => intro x hx hm; omega
    | succ m ih =>
      intro x hx hm
      refine h x hx fun h1 => ?_
      have := par_of hT h1
      exact ih _ this.2.2 (by omega)
  exact fun x hx => key _ x hx (Nat.le_refl _)
theorem inB_kid {ab ws : List Int} (h : TreeOk ab ws) {k x : Nat} (h2 : k < ab.length) (hx : x + 1 < ab.length) (hp : inB ab k (par ab x) = true) : inB ab k x = true := by
  have h3 := par_of h hx
  have := inB_le hp
  exact (inB_spec h h2).2 (.inr ⟨by omega, hp⟩)
theorem inB_dis {ab ws : List Int} (h : TreeOk ab ws) {q r : Nat} (hq : q + 1 < ab.length) (hr : r + 1 < ab.length) (hp : par ab q = par ab r) (hne : q ≠ r) : ∀ x, x < ab.length → inB ab q x = true → inB ab r x = true → False := by
  have e1 := par_of h hq
  have e2 := par_of h hr
  refine up_ind h _ fun x hx ih a b => ?_
  rcases (inB_spec h (by omega)).1 a with rfl | ⟨a1, a2⟩
  · rcases (inB_spec h (by omega)).1 b with rfl | ⟨b1, b2⟩
    · exact hne rfl
    · have := inB_le b2
      omega
  · rcases (inB_spec h (by omega)).1 b with rfl | ⟨b1, b2⟩
    · have := inB_le a2
      omega
    · exact ih (by omega) a2 b2
theorem mem_kids {ab ws : List Int} (h : TreeOk ab ws) {q k : Nat} : q ∈ kids ab k ↔ q + 1 < ab.length ∧ par ab q = k := by
  unfold kids kidsTo
  simp only [List.mem_filter, List.mem_range, decide_eq_true_eq]
  constructor
  · rintro ⟨h1, h2⟩
    by_cases hl : q + 1 = ab.length
    · have := h.root q hl
      rw [h2] at this
      omega
    · have := par_of h (x := q) (by omega)
      unfold par at *
      omega
  · rintro ⟨h1, h2⟩
    have := par_of h h1
    unfold par at *
    exact ⟨by omega, by omega⟩
theorem kids_lt {ab ws : List Int} (h : TreeOk ab ws) {q k : Nat} (hq : q ∈ kids ab k) : q < k ∧ k < ab.length := by
  obtain ⟨h1, h2⟩ := (mem_kids h).1 hq
  have := par_of h h1
  omega
theorem inB_down {ab ws : List Int} (h : TreeOk ab ws) {k : Nat} (hk : k < ab.length) : ∀ x, x < ab.length → inB ab k x = true → x ≠ k → ∃ c, c ∈ kids ab k ∧ inB ab c x = true := by
  refine up_ind h _ fun x hx ih a hne => ?_
  rcases (inB_spec h hk).1 a with e | ⟨a1, a2⟩
  · exact absurd e hne
  · by_cases e : par ab x = k
    · exact ⟨x, (mem_kids h).2 ⟨by omega, e⟩, inB_self _ _⟩
    · obtain ⟨c, c1, c2⟩ := ih (by omega) a2 e
      have := kids_lt h c1
      exact ⟨c, c1, inB_kid h (by omega) (by omega) c2⟩
theorem inB_up {ab ws : List Int} (h : TreeOk ab ws) {k c x : Nat} (hc : c ∈ kids ab k) : x < ab.length → inB ab c x = true → inB ab k x = true := by
  have hk := kids_lt h hc
  have hc2 := (mem_kids h).1 hc
  refine up_ind h (fun x => inB ab c x = true → inB ab k x = true) (fun x hx ih a => ?_) x
  rcases (inB_spec h (by omega)).1 a with rfl | ⟨a1, a2⟩
  · exact inB_kid h hk.2 hc2.1 (by rw [hc2.2]; exact inB_self _ _)
  · exact inB_kid h hk.2 (by omega) (ih (by omega) a2)
theorem inB_all {ab ws : List Int} (h : TreeOk ab ws) : ∀ x, x < ab.length → inB ab (ab.length - 1) x = true := by
  refine up_ind h _ fun x hx ih => ?_
  by_cases e : x + 1 = ab.length
  · have : x = ab.length - 1 := by omega
    rw [← this]
    exact inB_self _ _
  · exact inB_kid h (by omega) (by omega) (ih (by omega))
/-- Rows of those below, in whatever order. -/
structure Rows2 (ab ws : List Int) (T : Nat → List Nat) : Prop where
  ok : TreeOk ab ws
  perm : ∀ s, s < ab.length → (T s).Perm (kids ab s)
theorem Rows2.mem {ab ws : List Int} {T : Nat → List Nat} (h : Rows2 ab ws T) {q k : Nat} (hk : k < ab.length) : q ∈ T k ↔ q ∈ kids ab k := (h.perm k hk).mem_iff
theorem Rows2.lt {ab ws : List Int} {T : Nat → List Nat} (h : Rows2 ab ws T) {q k : Nat} (hk : k < ab.length) (hq : q ∈ T k) : q < k := (kids_lt h.ok ((h.mem hk).1 hq)).1
theorem kids_nodup (ab : List Int) (k : Nat) : (kids ab k).Nodup := List.Nodup.sublist List.filter_sublist List.nodup_range
theorem Rows2.nodup {ab ws : List Int} {T : Nat → List Nat} (h : Rows2 ab ws T) {k : Nat} (hk : k < ab.length) : (T k).Nodup := (h.perm k hk).nodup_iff.2 (kids_nodup ab k)
theorem climb_mem {ab ws : List Int} {T : Nat → List Nat} (h : Rows2 ab ws T) : ∀ (f k x : Nat), k < f → k < ab.length → (x ∈ climbF T f k ↔ x < ab.length ∧ inB ab k x = true)
  | 0, k, x, hf, _ => by omega
  | f + 1, k, x, hf, hk => by
    rw [climbF, List.mem_append, List.mem_flatMap]
    constructor
    · rintro (⟨q, hq, hx⟩ | hx)
      · have hl := h.lt hk hq
        obtain ⟨h1, h2⟩ := (climb_mem h f q x (by omega) (by omega)).1 hx
        exact ⟨h1, inB_up h.ok ((h.mem hk).1 hq) h1 h2⟩
      · simp at hx
        subst hx
        exact ⟨hk, inB_self _ _⟩
    · rintro ⟨h1, h2⟩
      by_cases e : x = k
      · exact .inr (by simp [e])
      · obtain ⟨c, c1, c2⟩ := inB_down h.ok hk x h1 h2 e
        have := kids_lt h.ok c1
        exact .inl ⟨c, (h.mem hk).2 c1, (climb_mem h f c x (by omega) (by omega)).2 ⟨h1, c2⟩⟩
theorem nodup_flat {g : Nat → List Nat} : ∀ (l : List Nat), l.Nodup → (∀ q ∈ l, (g q).Nodup) → (∀ q ∈ l, ∀ r ∈ l, q ≠ r → ∀ x, x ∈ g q → x ∈ g r → False) → (l.flatMap g).Nodup
  | [], _, _, _ => by simp
  | q :: l, h1, h2, h3 => by
    rw [List.flatMap_cons, List.nodup_append]
    obtain ⟨n1, n2⟩ := List.nodup_cons.1 h1
    refine ⟨h2 q (by simp), nodup_flat l n2 (fun r hr => h2 r (by simp [hr])) (fun r hr s hs => h3 r (by simp [hr]) s (by simp [hs])), fun x hx y hy e => ?_⟩
    subst e
    obtain ⟨r, hr, hxr⟩ := List.mem_flatMap.1 hy
    exact h3 q (by simp) r (by simp [hr]) (fun e => n1 (e ▸ hr)) x hx hxr
theorem climb_nodup {ab ws : List Int} {T : Nat → List Nat} (h : Rows2 ab ws T) : ∀ (f k : Nat), k < f → k < ab.length → (climbF T f k).Nodup
  | 0, k, hf, _ => by omega
  | f + 1, k, hf, hk => by
    rw [climbF, List.nodup_append]
    refine ⟨nodup_flat _ (h.nodup hk) (fun q hq => climb_nodup h f q (by have := h.lt hk hq; omega) (by have := h.lt hk hq; omega)) (fun q hq r hr hne x hx hx2 => ?_), by simp, fun x hx y hy e => ?_⟩
    · have l1 := h.lt hk hq
      have l2 := h.lt hk hr
      have m1 := (mem_kids h.ok).1 ((h.mem hk).1 hq)
      have m2 := (mem_kids h.ok).1 ((h.mem hk).1 hr)
      have a := (climb_mem h f q x (by omega) (by omega)).1 hx
      have b := (climb_mem h f r x (by omega) (by omega)).1 hx2
      exact inB_dis h.ok m1.1 m2.1 (by rw [m1.2, m2.2]) hne x a.1 a.2 b.2
    · simp at hy
      subst hy
      subst e
      obtain ⟨q, hq, hx2⟩ := List.mem_flatMap.1 hx
      have l1 := h.lt hk hq
      have := inB_le ((climb_mem h f q x (by omega) (by omega)).1 hx2).2
      omega
theorem nodup_sub : ∀ (o u : List Nat), o.Nodup → (∀ x ∈ o, x ∈ u) → o.length ≤ u.length
  | [], u, _, _ => by simp
  | a :: r, u, h1, h2 => by
    obtain ⟨n1, n2⟩ := List.nodup_cons.1 h1
    have ha := h2 a (by simp)
    have := nodup_sub r (u.erase a) n2 fun x hx => (List.mem_erase_of_ne (fun e : x = a => n1 (e ▸ hx))).2 (h2 x (by simp [hx]))
    rw [List.length_erase_of_mem ha] at this
    have : 0 < u.length := List.length_pos_of_mem ha
    simp
    omega
theorem climb_few {ab ws : List Int} {T : Nat → List Nat} (h : Rows2 ab ws T) (f k : Nat) (hf : k < f) (hk : k < ab.length) : (climbF T f k).length ≤ ab.length := by
  have := nodup_sub _ (List.range ab.length) (climb_nodup h f k hf hk) fun x hx => by
    have := ((climb_mem h f k x hf hk).1 hx).1
    simpa using this
  simpa using this
theorem climb_perm {ab ws : List Int} {T : Nat → List Nat} (h : Rows2 ab ws T) : (climbAll T ab.length).Perm (List.range ab.length) := by
  unfold climbAll
  by_cases h0 : ab.length = 0
  · rw [if_pos h0, h0]; simp
  · rw [if_neg h0]
    refine (List.perm_ext_iff_of_nodup (climb_nodup h _ _ (by omega) (by omega)) List.nodup_range).2 fun x => ?_
    rw [climb_mem h _ _ x (by omega) (by omega), List.mem_range]
    exact ⟨fun h => h.1, fun hx => ⟨hx, inB_all h.ok x hx⟩⟩
theorem climb_len {ab ws : List Int} {T : Nat → List Nat} (h : Rows2 ab ws T) : (climbAll T ab.length).length = ab.length := by
  rw [(climb_perm h).length_eq]; simp
theorem mostF_max (ws : List Int) (bl : Nat → Int) : ∀ (l : List Nat) (h m c : Int), mostF ws bl h (max m c) l = max (mostF ws bl h m l) c
  | [], h, m, c => rfl
  | q :: r, h, m, c => by
    rw [mostF, mostF, ← mostF_max ws bl r]
    congr 1
    omega
theorem mostF_shift (ws : List Int) (bl : Nat → Int) : ∀ (l : List Nat) (h a m b : Int), mostF ws bl (h + a) (max m (h + b)) l = max m (h + mostF ws bl a b l)
  | [], h, a, m, b => rfl
  | q :: r, h, a, m, b => by
    rw [mostF, mostF, ← mostF_shift ws bl r]
    congr 1 <;> omega
def setL (M : Nat → Bool) (l : List Nat) : Nat → Bool := fun x => M x || decide (x ∈ l)
theorem setL_nil (M : Nat → Bool) : setL M [] = M := by funext x; simp [setL]
theorem setL_app (M : Nat → Bool) (a b : List Nat) : setL (setL M a) b = setL M (a ++ b) := by
  funext x
  simp only [setL, List.mem_append]
  by_cases h1 : x ∈ a <;> by_cases h2 : x ∈ b <;> simp [h1, h2]
theorem setB_setL (M : Nat → Bool) (a : List Nat) (k : Nat) : setB (setL M a) k = setL M (a ++ [k]) := by
  funext x
  simp only [setL, setB, List.mem_append, List.mem_singleton]
  by_cases h1 : x = k
  · simp [h1]
  · simp [h1]
def cI (l : List Nat) : List Int := l.map fun x : Nat => (x : Int)
/-- What a tree needs at one time. -/
def peakN (ws : List Int) (bl : Nat → Int) (k : Nat) : Int := nth ws k + bl k
def Bey (ab ws : List Int) (T : Nat → List Nat) (bl : Nat → Int) : Prop := ∀ s, s < ab.length → bl s = beyV ws bl (T s) s
/-- A tree is climbed. -/
def ClimbOk (ab ws : List Int) (T : Nat → List Nat) (bl : Nat → Int) (f k : Nat) : Prop := ∀ (M : Nat → Bool) (most : Int) (rest : List Int), Closed ab.length ab M → (∀ x, x < ab.length → inB ab k x = true → M x = false) →
  pk ab ws M most (cI (climbF T f k) ++ rest) = pk ab ws (setL M (climbF T f k)) (max most (needV ab.length ab ws M + peakN ws bl k)) rest ∧ needV ab.length ab ws (setL M (climbF T f k)) = needV ab.length ab ws M + nth ws k ∧ Closed ab.length ab (setL M (climbF T f k))
theorem climb_list {ab ws : List Int} {T : Nat → List Nat} {bl : Nat → Int} (h : Rows2 ab ws T) (f k : Nat) (hk : k < ab.length) (hf : k ≤ f) (ih : ∀ q, q < k → ClimbOk ab ws T bl f q) : ∀ (l : List Nat) (M : Nat → Bool) (most : Int) (rest : List Int), l.Nodup → (∀ q ∈ l, q ∈ kids ab k) → Closed ab.length ab M → (∀ q ∈ l, ∀ x, x < ab.length → inB ab q x = true → M x = false) →
    pk ab ws M most (cI (l.flatMap (climbF T f)) ++ rest) = pk ab ws (setL M (l.flatMap (climbF T f))) (mostF ws bl (needV ab.length ab ws M) most l) rest ∧ needV ab.length ab ws (setL M (l.flatMap (climbF T f))) = needV ab.length ab ws M + wsum ws l ∧ Closed ab.length ab (setL M (l.flatMap (climbF T f)))
  | [], M, most, rest, _, _, hC, _ => by
    simp only [List.flatMap_nil, setL_nil, mostF, wsum]
    exact ⟨rfl, by simp, hC⟩
  | q :: l, M, most, rest, hn, hq, hC, hM => by
    obtain ⟨n1, n2⟩ := List.nodup_cons.1 hn
    have kq := hq q (by simp)
    have lq := kids_lt h.ok kq
    obtain ⟨a1, a2, a3⟩ := ih q lq.1 M most (cI (l.flatMap (climbF T f)) ++ rest) hC (hM q (by simp))
    obtain ⟨b1, b2, b3⟩ := climb_list h f k hk hf ih l (setL M (climbF T f q)) (max most (needV ab.length ab ws M + peakN ws bl q)) rest n2 (fun r hr => hq r (by simp [hr])) a3 (fun r hr x hx hxr => by
      have kr := hq r (by simp [hr])
      have m1 := (mem_kids h.ok).1 kq
      have m2 := (mem_kids h.ok).1 kr
      unfold setL
      rw [hM r (by simp [hr]) x hx hxr]
      simp only [Bool.false_or, decide_eq_false_iff_not]
      intro hm
      have := (climb_mem h f q x (by omega) (by omega)).1 hm
      exact inB_dis h.ok m1.1 m2.1 (by rw [m1.2, m2.2]) (fun e => n1 (e ▸ hr)) x hx this.2 hxr)
    rw [List.flatMap_cons, ← setL_app]
    refine ⟨?_, ?_, b3⟩
    · have e : cI (climbF T f q ++ l.flatMap (climbF T f)) ++ rest = cI (climbF T f q) ++ (cI (l.flatMap (climbF T f)) ++ rest) := by simp [cI]
      rw [e, a1, b1, a2, mostF]
      congr 2
      unfold peakN
      omega
    · rw [b2, a2]
      have : wsum ws (q :: l) = nth ws q + wsum ws l := by simp [wsum]
      omega
theorem climb_ok {ab ws : List Int} {T : Nat → List Nat} {bl : Nat → Int} (h : Rows2 ab ws T) (hb : Bey ab ws T bl) : ∀ (f k : Nat), k < f → k < ab.length → ClimbOk ab ws T bl f k
  | 0, k, hf, _ => by omega
  | f + 1, k, hf, hk => by
    intro M most rest hC hM
    have hl := climb_list h f k hk (by omega) (fun q hq => climb_ok h hb f q (by omega) (by omega)) (T k) M most (cI [k] ++ rest) (h.nodup hk) (fun q hq => (h.mem hk).1 hq) hC (fun q hq x hx hxq => hM x hx (inB_up h.ok ((h.mem hk).1 hq) hx hxq))
    obtain ⟨b1, b2, b3⟩ := hl
    rw [climbF]
    obtain ⟨F, hF⟩ : ∃ F, F = (T k).flatMap (climbF T f) := ⟨_, rfl⟩
    have hmem : ∀ x, x ∈ F → x < k := fun x hx => by
      rw [hF] at hx
      obtain ⟨q, hq, hx2⟩ := List.mem_flatMap.1 hx
      have l1 := h.lt hk hq
      have := inB_le ((climb_mem h f q x (by omega) (by omega)).1 hx2).2
      omega
    have hkid : kidsIn ab.length ab (setL M F) k := fun q hq e => by
      have hq2 : q ∈ kids ab k := by simp [kids, kidsTo, hq, e]
      have l1 := kids_lt h.ok hq2
      unfold setL
      have : q ∈ F := by
        rw [hF]
        exact List.mem_flatMap.2 ⟨q, (h.mem hk).2 hq2, (climb_mem h f q q (by omega) (by omega)).2 ⟨hq, inB_self _ _⟩⟩
      simp [this]
    have hkF : setL M F k = false := by
      unfold setL
      rw [hM k hk (inB_self _ _)]
      simp only [Bool.false_or, decide_eq_false_iff_not]
      intro hm
      have := hmem k hm
      omega
    have hstep : stepBad ab (setL M F) (k : Int) = false := by
      have h2 : ((kids ab k).any fun b => !(setL M F) b) = false := by
        rw [List.any_eq_false]
        intro q hq
        simp [kids, kidsTo] at hq
        simp [hkid q hq.1 hq.2]
      simp only [stepBad, Int.toNat_natCast]
      rw [h2, hkF]
      simp
      omega
    rw [← hF] at b1 b2 b3 ⊢
    have hws := wsum_perm ws (h.perm k hk)
    refine ⟨?_, ?_, ?_⟩
    · have e : cI (F ++ [k]) ++ rest = cI F ++ (cI [k] ++ rest) := by simp [cI]
      rw [e, b1]
      show pk ab ws (setL M F) _ ((k : Int) :: rest) = _
      rw [pk, if_neg (by rw [hstep]; simp), Int.toNat_natCast, setB_setL, b2]
      congr 1
      have e1 := mostF_shift ws bl (T k) (needV ab.length ab ws M) 0 most 0
      have e2 := mostF_max ws bl (T k) (needV ab.length ab ws M) most (needV ab.length ab ws M)
      rw [Int.add_zero] at e1
      have e3 := hb k hk
      unfold beyV at e3
      have w0 := (wsum_bound h.ok (T k) (fun q hq => by have := h.lt hk hq; omega)).1
      have w1 := (h.ok.wd k hk).1
      unfold peakN
      omega
    · rw [← setB_setL, need_next h.ok b3 hk hkF hkid, b2]
      omega
    · rw [← setB_setL]
      exact closed_set b3 hkid
/-- What is told of climbing. -/
def climbV2 (ab ws : List Int) (bl : Nat → Int) : Int := if ab.length = 0 then 0 else peakN ws bl (ab.length - 1)
theorem climb_peak {ab ws : List Int} {T : Nat → List Nat} {bl : Nat → Int} (h : Rows2 ab ws T) (hb : Bey ab ws T bl) (hp : ∀ s, s < ab.length → 0 ≤ bl s) : peakV ab ws (cI (climbAll T ab.length)) = (climbV2 ab ws bl, 0) := by
  have hl : (cI (climbAll T ab.length)).length = ab.length := by simp [cI, climb_len h]
  unfold peakV climbV2
  by_cases h0 : ab.length = 0
  · rw [if_pos h0]
    unfold climbAll
    rw [if_pos h0]
    simp [cI, pk, peakX, h0]
  · rw [if_neg h0]
    have hc := (climb_ok h hb ab.length (ab.length - 1) (by omega) (by omega) (fun _ => false) 0 [] (closed_none _ _) (fun _ _ _ => rfl)).1
    rw [List.append_nil] at hc
    rw [hl]
    unfold climbAll
    rw [if_neg h0, hc, pk]
    simp only [peakX, if_true, need_none]
    have h1 := hp (ab.length - 1) (by omega)
    have h2 := (h.ok.wd (ab.length - 1) (by omega)).1
    unfold peakN
    congr 1
    omega
end Go.Proofs.Ytnncalhpbfmgoaa.V
