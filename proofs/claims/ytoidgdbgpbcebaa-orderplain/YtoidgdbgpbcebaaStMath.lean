/-
  The mathematics of Go's stable sort: exchanged runs, a run turned round, a symmetric merge, blocks.
-/
import Derived.Sort.LotA
namespace Go.Proofs.Ytoidgdbgpbcebaa.S
open Go Go.Sort
set_option linter.unusedVariables false
set_option linter.unusedSimpArgs false
set_option linter.unusedSectionVars false

section
variable {α : Type} [Inhabited α]

/-- Where an entry comes from, when n entries from a on and n entries from b on change places. -/
def swR (a b n t : Nat) : Nat := if a ≤ t ∧ t < a + n then t + (b - a) else if b ≤ t ∧ t < b + n then t - (b - a) else t
/-- Where an entry comes from, when the runs a to m and m to b change places. -/
def rotI (a m b t : Nat) : Nat := if a ≤ t ∧ t < a + (b - m) then t + (m - a) else if a + (b - m) ≤ t ∧ t < b then t - (b - m) else t
/-- An array that has been read otherwise. -/
structure Via (f : Nat → Nat) (d d' : Array α) : Prop where
  size : d'.size = d.size
  get : ∀ t, d'[t]! = d[f t]!
theorem Via.trans {f g : Nat → Nat} {d d' d'' : Array α} (h : Via f d d') (h2 : Via g d' d'') : Via (fun t => f (g t)) d d'' := ⟨h2.size.trans h.size, fun t => by rw [h2.get, h.get]⟩
theorem Via.congr {f g : Nat → Nat} {d d' : Array α} (h : Via f d d') (e : ∀ t, f t = g t) : Via g d d' := ⟨h.size, fun t => by rw [h.get, e]⟩
theorem Via.id (d : Array α) : Via (fun t => t) d d := ⟨rfl, fun _ => rfl⟩
theorem via_swp (d : Array α) {i j : Nat} (hi : i < d.size) (hj : j < d.size) : Via (fun t => if t = j then i else if t = i then j else t) d (swp d i j) := by
  refine ⟨size_swp _ _ _, fun t => ?_⟩
  by_cases h1 : t = j
  · subst h1
    rw [if_pos rfl, swp_right d i t hj]
  · rw [if_neg h1]
    by_cases h2 : t = i
    · subst h2
      rw [if_pos rfl, swp_left d t j hi h1]
    · rw [if_neg h2, swp_other d i j t h2 h1]
theorem swR_zero (a b t : Nat) : swR a b 0 t = t := by
  unfold swR
  split
  · omega
  · split <;> omega
theorem swR_step {a b i : Nat} (hab : a + i < b) (t : Nat) : swR a b i (if t = b + i then a + i else if t = a + i then b + i else t) = swR a b (i + 1) t := by
  unfold swR
  repeat' split
  all_goals omega
theorem rot_gt {m i j : Nat} (hi : i ≤ m) (hij : j < i) (t : Nat) : swR (m - i) m j (rotI (m - (i - j)) m (m + j) t) = rotI (m - i) m (m + j) t := by
  unfold swR rotI
  repeat' split
  all_goals omega
theorem rot_lt {m i j : Nat} (hi : i ≤ m) (hij : i < j) (t : Nat) : swR (m - i) (m + j - i) i (rotI (m - i) m (m + (j - i)) t) = rotI (m - i) m (m + j) t := by
  unfold swR rotI
  repeat' split
  all_goals omega
theorem rot_eq {m i : Nat} (hi : i ≤ m) (t : Nat) : swR (m - i) m i t = rotI (m - i) m (m + i) t := by
  unfold swR rotI
  repeat' split
  all_goals omega
theorem rotI_left (m b t : Nat) : rotI m m b t = t := by
  unfold rotI
  repeat' split
  all_goals omega
theorem rotI_right (a m t : Nat) : rotI a m m t = t := by
  unfold rotI
  repeat' split
  all_goals omega
theorem up_step {a k : Nat} (hk : a ≤ k) (t : Nat) : rotI a (a + 1) (k + 1) (if t = k + 1 then k else if t = k then k + 1 else t) = rotI a (a + 1) (k + 1 + 1) t := by
  unfold rotI
  repeat' split
  all_goals omega
theorem down_step {m k : Nat} (hk : k < m) (t : Nat) : rotI (k + 1) m (m + 1) (if t = k then k + 1 else if t = k + 1 then k else t) = rotI k m (m + 1) t := by
  unfold rotI
  repeat' split
  all_goals omega
variable {lt : α → α → Bool}
/-- Two runs of which each entry of the first is not above any of the second, in the order a to p, m to q, p to m, q to b. -/
def Parts (lt : α → α → Bool) (a p m q b : Nat) (d : Array α) : Prop := ∀ x y, (a ≤ x ∧ x < p ∨ m ≤ x ∧ x < q) → (p ≤ y ∧ y < m ∨ q ≤ y ∧ y < b) → lt d[y]! d[x]! = false
theorem le_trans' (hS : SWO lt) {x y z : α} (h1 : lt y x = false) (h2 : lt z y = false) : lt z x = false := hS.ntrans _ _ _ h2 h1
theorem sorted_le (hS : SWO lt) {a b : Nat} {d : Array α} (h : SortedIn lt a b d) {i j : Nat} (hi : a ≤ i) (hij : i ≤ j) (hj : j < b) : lt d[j]! d[i]! = false := by
  rcases Nat.lt_or_ge i j with c | c
  · exact h i j hi c hj
  · obtain rfl : i = j := by omega
    exact hS.irrefl _
theorem parts_of (hS : SWO lt) {a p m q b : Nat} {d : Array α} (hap : a ≤ p) (hpm : p ≤ m) (hmq : m ≤ q) (hqb : q ≤ b) (hL : SortedIn lt a m d) (hR : SortedIn lt m b d)
    (h1 : p = a ∨ q = b ∨ lt d[q]! d[p - 1]! = false) (h2 : p = m ∨ q = m ∨ lt d[q - 1]! d[p]! = true) : Parts lt a p m q b d := by
  intro x y hx hy
  rcases hx with ⟨x1, x2⟩ | ⟨x1, x2⟩ <;> rcases hy with ⟨y1, y2⟩ | ⟨y1, y2⟩
  · exact hL x y x1 (by omega) y2
  · rcases h1 with h1 | h1 | h1
    · omega
    · omega
    · have e1 := sorted_le hS hL x1 (show x ≤ p - 1 by omega) (by omega)
      have e2 := sorted_le hS hR (show m ≤ q by omega) (show q ≤ y by omega) y2
      exact le_trans' hS e1 (le_trans' hS h1 e2)
  · rcases h2 with h2 | h2 | h2
    · omega
    · omega
    · have e1 := sorted_le hS hR x1 (show x ≤ q - 1 by omega) (by omega)
      have e2 := sorted_le hS hL (show a ≤ p by omega) (show p ≤ y by omega) y2
      exact le_trans' hS e1 (le_trans' hS (hS.asymmA h2) e2)
  · exact hR x y x1 (by omega) y2
/-- Behind the turning round: what lies ahead of the middle is not above what lies behind it. -/
theorem rot_parts {a p m q b : Nat} {d d' : Array α} (hap : a ≤ p) (hpm : p ≤ m) (hmq : m ≤ q) (hqb : q ≤ b) (hP : Parts lt a p m q b d) (hv : Via (rotI p m q) d d') : ∀ x y, a ≤ x → x < p + (q - m) → p + (q - m) ≤ y → y < b → lt d'[y]! d'[x]! = false := by
  intro x y h1 h2 h3 h4
  rw [hv.get, hv.get]
  refine hP _ _ ?_ ?_
  · unfold rotI
    repeat' split
    all_goals omega
  · unfold rotI
    repeat' split
    all_goals omega
theorem via_sorted {a b s : Nat} {d d' : Array α} {f : Nat → Nat} (hv : Via f d d') (h : SortedIn lt (a + s) (b + s) d) (e : ∀ t, a ≤ t → t < b → f t = t + s) : SortedIn lt a b d' := fun i j h1 h2 h3 => by
  rw [hv.get, hv.get, e i h1 (by omega), e j (by omega) h3]
  exact h _ _ (by omega) (by omega) (by omega)
theorem via_sorted_down {a b s : Nat} {d d' : Array α} {f : Nat → Nat} (hv : Via f d d') (hs : s ≤ a) (h : SortedIn lt (a - s) (b - s) d) (e : ∀ t, a ≤ t → t < b → f t = t - s) : SortedIn lt a b d' := fun i j h1 h2 h3 => by
  rw [hv.get, hv.get, e i h1 (by omega), e j (by omega) h3]
  exact h _ _ (by omega) (by omega) (by omega)
theorem sorted_sub {a b a' b' : Nat} {d : Array α} (h : SortedIn lt a b d) (h1 : a ≤ a') (h2 : b' ≤ b) : SortedIn lt a' b' d := fun i j i1 i2 i3 => h i j (by omega) i2 (by omega)
theorem sorted_join {a c b : Nat} {d : Array α} (h1 : SortedIn lt a c d) (h2 : SortedIn lt c b d) (h : ∀ x y, a ≤ x → x < c → c ≤ y → y < b → lt d[y]! d[x]! = false) : SortedIn lt a b d := fun i j i1 i2 i3 => by
  by_cases c1 : j < c
  · exact h1 i j i1 i2 c1
  · by_cases c2 : i < c
    · exact h i j i1 c2 (by omega) i3
    · exact h2 i j (by omega) i2 i3
/-- The four runs behind the turning round. -/
theorem rot_runs {a p m q b : Nat} {d d' : Array α} (hap : a ≤ p) (hpm : p ≤ m) (hmq : m ≤ q) (hqb : q ≤ b) (hL : SortedIn lt a m d) (hR : SortedIn lt m b d) (hv : Via (rotI p m q) d d') :
    SortedIn lt a p d' ∧ SortedIn lt p (p + (q - m)) d' ∧ SortedIn lt (p + (q - m)) q d' ∧ SortedIn lt q b d' := by
  refine ⟨?_, ?_, ?_, ?_⟩
  · refine via_sorted (s := 0) hv (sorted_sub hL (by omega) (by omega)) fun t h1 h2 => ?_
    unfold rotI
    repeat' split
    all_goals omega
  · refine via_sorted (s := m - p) hv (sorted_sub hR (by omega) (by omega)) fun t h1 h2 => ?_
    unfold rotI
    repeat' split
    all_goals omega
  · refine via_sorted_down (s := q - m) hv (by omega) (sorted_sub hL (by omega) (by omega)) fun t h1 h2 => ?_
    unfold rotI
    repeat' split
    all_goals omega
  · refine via_sorted (s := 0) hv (sorted_sub hR (by omega) (by omega)) fun t h1 h2 => ?_
    unfold rotI
    repeat' split
    all_goals omega
/-- Where the first run is one entry, or the second is: all is sorted behind the turning round. -/
theorem rot_one_left (hS : SWO lt) {a q b : Nat} {d d' : Array α} (hmq : a + 1 ≤ q) (hqb : q ≤ b) (hL : SortedIn lt a (a + 1) d) (hR : SortedIn lt (a + 1) b d) (h1 : q = b ∨ lt d[q]! d[a]! = false) (h2 : q = a + 1 ∨ lt d[q - 1]! d[a]! = true) (hv : Via (rotI a (a + 1) q) d d') : SortedIn lt a b d' := by
  have hP := parts_of hS (a := a) (p := a) (m := a + 1) (q := q) (b := b) (d := d) (by omega) (by omega) (by omega) hqb hL hR (.inl rfl) (by rcases h2 with h | h; exact .inr (.inl h); exact .inr (.inr h))
  have hP2 := parts_of hS (a := a) (p := a + 1) (m := a + 1) (q := q) (b := b) (d := d) (by omega) (by omega) (by omega) hqb hL hR (by rcases h1 with h | h; exact .inr (.inl h); exact .inr (.inr h)) (.inl rfl)
  obtain ⟨r1, r2, r3, r4⟩ := rot_runs (a := a) (p := a) (by omega) (by omega) hmq hqb hL hR hv
  refine sorted_join r2 (sorted_join r3 r4 fun x y e1 e2 e3 e4 => ?_) (rot_parts (by omega) (by omega) hmq hqb hP hv)
  rw [hv.get, hv.get]
  refine hP2 _ _ (.inl ?_) (.inr ?_)
  · unfold rotI
    repeat' split
    all_goals omega
  · unfold rotI
    repeat' split
    all_goals omega
theorem rot_one_right (hS : SWO lt) {a p m : Nat} {d d' : Array α} (hap : a ≤ p) (hpm : p ≤ m) (hL : SortedIn lt a m d) (hR : SortedIn lt m (m + 1) d) (h1 : p = a ∨ lt d[m]! d[p - 1]! = false) (h2 : p = m ∨ lt d[m]! d[p]! = true) (hv : Via (rotI p m (m + 1)) d d') : SortedIn lt a (m + 1) d' := by
  have hP := parts_of hS (a := a) (p := p) (m := m) (q := m + 1) (b := m + 1) (d := d) hap hpm (by omega) (by omega) hL hR (.inr (.inl rfl)) (by rcases h2 with h | h; exact .inl h; exact .inr (.inr h))
  have hP2 := parts_of hS (a := a) (p := p) (m := m) (q := m) (b := m + 1) (d := d) hap hpm (by omega) (by omega) hL hR (by rcases h1 with h | h; exact .inl h; exact .inr (.inr h)) (.inr (.inl rfl))
  obtain ⟨r1, r2, r3, r4⟩ := rot_runs (a := a) (p := p) (q := m + 1) (b := m + 1) hap hpm (by omega) (by omega) hL hR hv
  refine sorted_join (sorted_join r1 r2 fun x y e1 e2 e3 e4 => ?_) r3 (rot_parts hap hpm (by omega) (by omega) hP hv)
  rw [hv.get, hv.get]
  refine hP2 _ _ (.inl ?_) (.inr ?_)
  · unfold rotI
    repeat' split
    all_goals omega
  · unfold rotI
    repeat' split
    all_goals omega
/-- A merge's two halves put together. -/
theorem halves {a c b : Nat} {d1 d2 d3 : Array α} (hac : a ≤ c) (hcb : c ≤ b) (hb : b ≤ d1.size) (hx : ∀ x y, a ≤ x → x < c → c ≤ y → y < b → lt d1[y]! d1[x]! = false) (h1 : PermIn a c d1 d2) (s1 : SortedIn lt a c d2) (h2 : PermIn c b d2 d3) (s2 : SortedIn lt c b d3) : PermIn a b d1 d3 ∧ SortedIn lt a b d3 := by
  have z2 : d2.size = d1.size := h1.1
  refine ⟨permIn_trans _ _ _ _ _ (permIn_mono _ _ _ _ _ _ (Nat.le_refl _) hcb hb h1) (permIn_mono _ _ _ _ _ _ hac (Nat.le_refl _) (by rw [z2]; exact hb) h2), ?_⟩
  have g : ∀ x, x < c → d3[x]! = d2[x]! := fun x hx => h2.2.1 x (.inl hx)
  refine sorted_join (fun i j i1 i2 i3 => by rw [g j i3, g i (by omega)]; exact s1 i j i1 i2 i3) s2 fun x y e1 e2 e3 e4 => ?_
  have k1 : ∀ t, a ≤ t → t < c → ∀ u, c ≤ u → u < b → lt d1[u]! d2[t]! = false := permIn_all d1 d2 a c (fun v => ∀ u, c ≤ u → u < b → lt d1[u]! v = false) (by omega) h1 fun i i1 i2 u u1 u2 => hx i u i1 i2 u1 u2
  have k2 := permIn_all d2 d3 c b (fun v => lt v d2[x]! = false) (by omega) h2 fun i i1 i2 => by rw [h1.2.1 i (.inr i1)]; exact k1 x e1 e2 i i1 i2
  rw [g x e2]
  exact k2 y e3 e4
theorem rot_cross {l1 : α → α → Bool} {a p m q b : Nat} {d d' : Array α} (hap : a ≤ p) (hpm : p ≤ m) (hmq : m ≤ q) (hqb : q ≤ b) (hv : Via (rotI p m q) d d') (hX : ∀ i j, a ≤ i → i < m → m ≤ j → j < b → l1 d[j]! d[i]! = lt d[j]! d[i]!) :
    (∀ i j, a ≤ i → i < p → p ≤ j → j < p + (q - m) → l1 d'[j]! d'[i]! = lt d'[j]! d'[i]!) ∧ ∀ i j, p + (q - m) ≤ i → i < q → q ≤ j → j < b → l1 d'[j]! d'[i]! = lt d'[j]! d'[i]! := by
  constructor
  · intro i j h1 h2 h3 h4
    rw [hv.get, hv.get]
    refine hX _ _ ?_ ?_ ?_ ?_ <;> (unfold rotI; repeat' split) <;> omega
  · intro i j h1 h2 h3 h4
    rw [hv.get, hv.get]
    refine hX _ _ ?_ ?_ ?_ ?_ <;> (unfold rotI; repeat' split) <;> omega
theorem one_side {a s c : Nat} {d : Array α} (h : ¬ (a < s ∧ s < c)) (h1 : a ≤ s) (h2 : s ≤ c) (r1 : SortedIn lt a s d) (r2 : SortedIn lt s c d) : SortedIn lt a c d := by
  rcases Nat.lt_or_ge a s with k | k
  · obtain rfl : s = c := by omega
    exact r1
  · obtain rfl : s = a := by omega
    exact r2
theorem sorted_else {a c x y : Nat} {d d' : Array α} (hp : PermIn a c d d') (hx : c ≤ x) (h : SortedIn lt x y d) : SortedIn lt x y d' := fun i j h1 h2 h3 => by
  rw [hp.2.1 i (by omega), hp.2.1 j (by omega)]
  exact h i j h1 h2 h3
theorem cross_else {l1 : α → α → Bool} {a c q b : Nat} {d d' : Array α} (hp : PermIn a c d d') (h : ∀ i j, c ≤ i → i < q → q ≤ j → j < b → l1 d[j]! d[i]! = lt d[j]! d[i]!) (hcq : c ≤ q) : ∀ i j, c ≤ i → i < q → q ≤ j → j < b → l1 d'[j]! d'[i]! = lt d'[j]! d'[i]! := fun i j h1 h2 h3 h4 => by
  rw [hp.2.1 i (by omega), hp.2.1 j (by omega)]
  exact h i j h1 h2 h3 h4
/-! ### the insertion sort under an order that tells equals apart by where they stood -/
variable {l1 : α → α → Bool} {idx : α → Nat}
theorem ins_same (hg : ∀ x y, idx x < idx y → l1 y x = lt y x) (a : Nat) : ∀ (j : Nat) (d : Array α), j < d.size → (∀ t, a ≤ t → t < j → idx d[t]! < idx d[j]!) → insInner l1 a j d = insInner lt a j d
  | 0, d, _, _ => rfl
  | j + 1, d, hs, h => by
    unfold insInner
    by_cases ha : j + 1 > a
    · have e := hg d[j]! d[j + 1]! (h j (by omega) (by omega))
      rw [e]
      cases hl : lt d[j + 1]! d[j]! with
      | false => simp
      | true =>
        simp only [ha, decide_true, Bool.and_self, if_true]
        refine ins_same hg a j _ (by rw [size_swp]; omega) fun t t1 t2 => ?_
        rw [swp_other d (j + 1) j t (by omega) (by omega), swp_right d (j + 1) j (by omega)]
        exact h t t1 (by omega)
    · simp [ha]
theorem insInner_perm (a b : Nat) : ∀ (j : Nat) (d : Array α), j < b → b ≤ d.size → PermIn a b d (insInner lt a j d)
  | 0, d, _, _ => permIn_refl d a b
  | j + 1, d, hj, hb => by
    unfold insInner
    split
    · rename_i hc
      simp only [Bool.and_eq_true, decide_eq_true_eq] at hc
      exact permIn_trans _ _ _ a b (swp_permIn d a b (j + 1) j (by omega) hj (by omega) (by omega) hb) (insInner_perm a b j _ (by omega) (by rw [size_swp]; exact hb))
    · exact permIn_refl d a b
theorem insOuter_same (hS : SWO lt) (hg : ∀ x y, idx x < idx y → l1 y x = lt y x) (a b : Nat) : ∀ (n i : Nat) (d : Array α), b - i ≤ n → a < i → b ≤ d.size → (∀ t, i ≤ t → t < b → idx d[t]! = t) → (∀ t, a ≤ t → t < i → t < b → idx d[t]! < i) → insOuter l1 a b i d = insOuter lt a b i d
  | 0, i, d, h0, hai, hb, h1, h2 => by
    rw [insOuter, if_neg (by omega), insOuter, if_neg (by omega)]
  | n + 1, i, d, h0, hai, hb, h1, h2 => by
    by_cases hib : i < b
    · rw [insOuter, if_pos hib, insOuter.eq_1 lt, if_pos hib, ins_same hg a i d (by omega) (fun t t1 t2 => by have := h2 t t1 t2 (by omega); rw [h1 i (Nat.le_refl _) hib]; exact this)]
      have p1 : PermIn a (i + 1) d (insInner lt a i d) := insInner_perm a (i + 1) i d (by omega) (by omega)
      refine insOuter_same hS hg a b n (i + 1) _ (by omega) (by omega) (by rw [p1.1]; exact hb) (fun t t1 t2 => ?_) (fun t t1 t2 t3 => ?_)
      · rw [p1.2.1 t (.inr t1)]
        exact h1 t (by omega) t2
      · refine permIn_all d _ a (i + 1) (fun v => idx v < i + 1) (by omega) p1 (fun u u1 u2 => ?_) t t1 t2
        rcases Nat.lt_or_ge u i with c | c
        · have := h2 u u1 c (by omega)
          omega
        · obtain rfl : u = i := by omega
          have := h1 u (Nat.le_refl _) hib
          omega
    · rw [insOuter, if_neg hib, insOuter, if_neg hib]
/-! ### blocks -/
def Al (idx : α → Nat) (n s a : Nat) (d : Array α) : Prop := ∀ c t, a ≤ t → t < n → s ∣ c → (c ≤ t ↔ c ≤ idx d[t]!)
def Runs (lt : α → α → Bool) (s lo hi : Nat) (d : Array α) : Prop := ∀ i j, lo ≤ i → i < j → j < hi → (∀ c, s ∣ c → i < c → j < c) → lt d[j]! d[i]! = false
theorem dvd_next {s a c : Nat} (ha : s ∣ a) (hc : s ∣ c) (h : a < c) : a + s ≤ c := by
  have h1 : s ∣ c - a := Nat.dvd_sub hc ha
  have := Nat.le_of_dvd (by omega) h1
  omega
/-- All at one level: each run of s entries is sorted, each entry in the run in which it stood. -/
structure Level (lt : α → α → Bool) (idx : α → Nat) (n s : Nat) (d0 d : Array α) : Prop where
  perm : PermIn 0 n d0 d
  al : Al idx n s 0 d
  runs : Runs lt s 0 n d
/-- On the way from one level to the next: up to a. -/
structure Midway (lt : α → α → Bool) (idx : α → Nat) (n s a : Nat) (d0 d : Array α) : Prop where
  perm : PermIn 0 n d0 d
  al2 : Al idx n (2 * s) 0 d
  al : Al idx n s a d
  done : Runs lt (2 * s) 0 a d
  todo : Runs lt s a n d
theorem dvd_two {s c : Nat} (h : 2 * s ∣ c) : s ∣ c := Nat.dvd_trans (Nat.dvd_mul_left s 2) h
theorem Level.midway {n s : Nat} {d0 d : Array α} (h : Level lt idx n s d0 d) : Midway lt idx n s 0 d0 d :=
  ⟨h.perm, fun c t h1 h2 h3 => h.al c t h1 h2 (dvd_two h3), h.al, fun i j _ _ h3 => by omega, h.runs⟩
theorem Midway.pre {n s a b : Nat} {d0 d : Array α} (h : Midway lt idx n s a d0 d) (hs : 0 < s) (ha : 2 * s ∣ a) (h1 : a + s ≤ b) (h2 : b ≤ n) (h3 : b ≤ a + 2 * s) :
    SortedIn lt a (a + s) d ∧ SortedIn lt (a + s) b d ∧ ∀ i j, a ≤ i → i < a + s → a + s ≤ j → j < b → idx d[i]! < idx d[j]! := by
  have d1 : s ∣ a := dvd_two ha
  have d2 : s ∣ a + s := Nat.dvd_add d1 (Nat.dvd_refl s)
  refine ⟨fun i j i1 i2 i3 => h.todo i j i1 i2 (by omega) fun c c1 c2 => ?_, fun i j i1 i2 i3 => h.todo i j (by omega) i2 (by omega) fun c c1 c2 => ?_, fun i j i1 i2 i3 i4 => ?_⟩
  · have := dvd_next d1 c1 (by omega)
    omega
  · have := dvd_next d2 c1 (by omega)
    omega
  · have e1 := (h.al (a + s) i i1 (by omega) d2)
    have e2 := (h.al (a + s) j (by omega) (by omega) d2).1 i3
    have e3 : ¬ a + s ≤ idx d[i]! := fun c => by have := e1.2 c; omega
    omega
theorem al_perm {n s a b : Nat} {d d' : Array α} (hb : b ≤ n) (hn : n ≤ d.size) (ha : s ∣ a) (hbd : s ∣ b ∨ b = n) (hab : b ≤ a + s) (hp : PermIn a b d d') (h : Al idx n s 0 d) : Al idx n s 0 d' := by
  intro c t t1 t2 hc
  by_cases hin : a ≤ t ∧ t < b
  · have hall : (c ≤ a → c ≤ idx d'[t]!) ∧ (b ≤ c → idx d'[t]! < c) := by
      refine permIn_all d d' a b (fun v => (c ≤ a → c ≤ idx v) ∧ (b ≤ c → idx v < c)) (by omega) hp (fun i i1 i2 => ⟨fun e => (h c i (by omega) (by omega) hc).1 (by omega), fun e => ?_⟩) t hin.1 hin.2
      have := (h c i (by omega) (by omega) hc).2
      rcases Nat.lt_or_ge (idx d[i]!) c with k | k
      · exact k
      · have := this k
        omega
    rcases Nat.lt_or_ge a c with k | k
    · have k2 : b ≤ c := by have := dvd_next ha hc k; omega
      have := hall.2 k2
      constructor <;> intro <;> omega
    · have := hall.1 k
      constructor <;> intro <;> omega
  · rw [hp.2.1 t (by omega)]
    exact h c t t1 t2 hc
theorem runs_else {s lo hi a b : Nat} {d d' : Array α} (hp : PermIn a b d d') (h : Runs lt s lo hi d) (ho : hi ≤ a ∨ b ≤ lo) : Runs lt s lo hi d' := fun i j h1 h2 h3 h4 => by
  rw [hp.2.1 i (by omega), hp.2.1 j (by omega)]
  exact h i j h1 h2 h3 h4
theorem runs_put {s a b : Nat} {d' : Array α} (ha : s ∣ a) (h : Runs lt s 0 a d') (hs : SortedIn lt a b d') : Runs lt s 0 b d' := fun i j h1 h2 h3 h4 => by
  by_cases c1 : j < a
  · exact h i j h1 h2 c1 h4
  · by_cases c2 : i < a
    · have := h4 a ha c2
      omega
    · exact hs i j (by omega) h2 h3
theorem Midway.step {n s a : Nat} {d0 d d' : Array α} (h : Midway lt idx n s a d0 d) (hn : n ≤ d.size) (ha : 2 * s ∣ a) (h1 : a + 2 * s ≤ n) (hp : PermIn a (a + 2 * s) d d') (hs : SortedIn lt a (a + 2 * s) d') : Midway lt idx n s (a + 2 * s) d0 d' := by
  have hd : 2 * s ∣ a + 2 * s := Nat.dvd_add ha (Nat.dvd_refl _)
  refine ⟨permIn_trans _ _ _ _ _ h.perm (permIn_mono _ _ _ _ _ _ (Nat.zero_le _) h1 hn hp), al_perm h1 hn ha (.inl hd) (Nat.le_refl _) hp h.al2, fun c t t1 t2 t3 => ?_, runs_put ha (runs_else hp h.done (.inl (Nat.le_refl _))) hs, runs_else hp (fun i j h1 h2 h3 h4 => h.todo i j (by omega) h2 h3 h4) (.inr (Nat.le_refl _))⟩
  rw [hp.2.1 t (.inr t1)]
  exact h.al c t (by omega) t2 t3
theorem Midway.last {n s a : Nat} {d0 d d' : Array α} (h : Midway lt idx n s a d0 d) (hn : n ≤ d.size) (ha : 2 * s ∣ a) (han : a ≤ n) (h1 : n < a + 2 * s) (hp : PermIn a n d d') (hs : SortedIn lt a n d') : Level lt idx n (2 * s) d0 d' :=
  ⟨permIn_trans _ _ _ _ _ h.perm (permIn_mono _ _ _ _ _ _ (Nat.zero_le _) (Nat.le_refl _) hn hp), al_perm (Nat.le_refl _) hn ha (.inr rfl) (by omega) hp h.al2, runs_put ha (runs_else hp h.done (.inl (Nat.le_refl _))) hs⟩
theorem Midway.none {n s a : Nat} {d0 d : Array α} (h : Midway lt idx n s a d0 d) (hn : n ≤ d.size) (hs : 0 < s) (ha : 2 * s ∣ a) (han : a ≤ n) (h1 : n ≤ a + s) : Level lt idx n (2 * s) d0 d :=
  h.last hn ha han (by omega) (permIn_refl _ _ _) fun i j i1 i2 i3 => h.todo i j i1 i2 i3 fun c c1 c2 => by
    have := dvd_next (dvd_two ha) c1 (by omega)
    omega
theorem Level.end_ {n s : Nat} {d0 d : Array α} (h : Level lt idx n s d0 d) (hs : n ≤ s) : PermIn 0 n d0 d ∧ SortedIn lt 0 n d := ⟨h.perm, fun i j h1 h2 h3 => h.runs i j h1 h2 h3 fun c c1 c2 => by
  have := Nat.le_of_dvd (by omega) c1
  omega⟩
/-- The first blocks: sorted up to a, behind that as it was. -/
structure Blocks (lt : α → α → Bool) (idx : α → Nat) (n s a : Nat) (d0 d : Array α) : Prop where
  perm : PermIn 0 n d0 d
  al : Al idx n s 0 d
  same : ∀ t, a ≤ t → t < n → idx d[t]! = t
  done : Runs lt s 0 a d
theorem Blocks.start {n s : Nat} {d0 : Array α} (h : ∀ t, t < n → idx d0[t]! = t) : Blocks lt idx n s 0 d0 d0 :=
  ⟨permIn_refl _ _ _, fun c t _ h2 _ => by rw [h t h2], fun t _ h2 => h t h2, fun i j _ _ h3 => by omega⟩
theorem Blocks.ins (hS : SWO lt) (hg : ∀ x y, idx x < idx y → l1 y x = lt y x) {n s a b : Nat} {d0 d : Array α} (h : Blocks lt idx n s a d0 d) (hn : n ≤ d.size) (hs : 0 < s) (ha : s ∣ a) (hab : a ≤ b) (hb : b ≤ n) (h1 : b ≤ a + s) (h2 : s ∣ b ∨ b = n) : Blocks lt idx n s b d0 (insertionSort l1 d a b) := by
  have e : insertionSort l1 d a b = insertionSort lt d a b := by
    unfold insertionSort
    refine insOuter_same hS hg a b b (a + 1) d (by omega) (by omega) (by omega) (fun t t1 t2 => h.same t (by omega) (by omega)) fun t t1 t2 t3 => ?_
    obtain rfl : t = a := by omega
    have := h.same t (by omega) (by omega)
    omega
  rw [e]
  obtain ⟨p, q⟩ := insertionSort_holds hS d a b hab (by omega)
  exact ⟨permIn_trans _ _ _ _ _ h.perm (permIn_mono _ _ _ _ _ _ (Nat.zero_le _) hb hn p), al_perm hb hn ha h2 h1 p h.al, fun t t1 t2 => by rw [p.2.1 t (.inr t1)]; exact h.same t (by omega) t2, runs_put ha (runs_else p h.done (.inl (Nat.le_refl _))) q⟩
theorem Blocks.level {n s : Nat} {d0 d : Array α} (h : Blocks lt idx n s n d0 d) : Level lt idx n s d0 d := ⟨h.perm, h.al, h.done⟩
end
end Go.Proofs.Ytoidgdbgpbcebaa.S
