/-
  Rooms: lives, what is needed at a time; the most of it, by changes in their turn.
-/
import Derived.Test.YtnncalhpbfmgoaaPlain
namespace Go.Proofs.Ytnncalhpbfmgoaa.V
set_option linter.unusedVariables false

/-- A life. -/
structure Lf where
  fr : Int
  to : Int
  wd : Int
def lfD : Lf := ⟨0, 0, 0⟩
instance : Inhabited Lf := ⟨lfD⟩
def badL (x : Lf) : Bool := decide (x.fr < 0) || decide (x.to < x.fr) || decide (1048576 < x.to) || (decide (x.wd < 0) || decide (1048576 < x.wd))
/-- What is wrong with lives. -/
def livesE (l : List Lf) : Int := if 4096 < l.length then 2 else if l.any badL = true then 4 else 0
structure LfOk (x : Lf) : Prop where
  fr : 0 ≤ x.fr
  ft : x.fr ≤ x.to
  to : x.to ≤ 1048576
  w0 : 0 ≤ x.wd
  w1 : x.wd ≤ 1048576
theorem livesE_ok {l : List Lf} (h : livesE l = 0) : l.length ≤ 4096 ∧ ∀ x ∈ l, LfOk x := by
  unfold livesE at h
  by_cases h1 : 4096 < l.length
  · rw [if_pos h1] at h; omega
  rw [if_neg h1] at h
  by_cases h2 : l.any badL = true
  · rw [if_pos h2] at h; omega
  refine ⟨by omega, fun x hx => ?_⟩
  have h3 : badL x = false := by
    have : l.any badL = false := by simpa using h2
    rw [List.any_eq_false] at this
    simpa using this x hx
  simp [badL] at h3
  exact ⟨by omega, by omega, by omega, by omega, by omega⟩
/-- What is needed at a time. -/
def atT (t : Int) (x : Lf) : Int := if x.fr ≤ t ∧ t < x.to then x.wd else 0
def needed (l : List Lf) (t : Int) : Int := (l.map (atT t)).sum
def loadV (l : List Lf) : Int := l.foldl (fun m x => max m (needed l x.fr)) 0
theorem le_foldmax (f : Lf → Int) : ∀ (l : List Lf) (m : Int), m ≤ l.foldl (fun m x => max m (f x)) m ∧ ∀ x ∈ l, f x ≤ l.foldl (fun m x => max m (f x)) m
  | [], m => ⟨Int.le_refl _, fun _ h => by simp at h⟩
  | y :: l, m => by
    obtain ⟨h1, h2⟩ := le_foldmax f l (max m (f y))
    refine ⟨by simp only [List.foldl_cons]; omega, fun x hx => ?_⟩
    simp only [List.foldl_cons]
    rcases List.mem_cons.1 hx with rfl | hx
    · omega
    · exact h2 x hx
theorem foldmax_le (f : Lf → Int) (M : Int) : ∀ (l : List Lf) (m : Int), m ≤ M → (∀ x ∈ l, f x ≤ M) → l.foldl (fun m x => max m (f x)) m ≤ M
  | [], m, h, _ => h
  | y :: l, m, h, h2 => by
    simp only [List.foldl_cons]
    have := h2 y (by simp)
    exact foldmax_le f M l _ (by omega) (fun x hx => h2 x (by simp [hx]))
theorem load_nonneg (l : List Lf) : 0 ≤ loadV l := (le_foldmax _ l 0).1
theorem needed_nonneg {l : List Lf} (h : ∀ x ∈ l, LfOk x) (t : Int) : 0 ≤ needed l t := by
  unfold needed
  induction l with
  | nil => simp
  | cons x l ih =>
    have h1 := (h x (by simp)).w0
    have h2 := ih (fun y hy => h y (by simp [hy]))
    simp only [List.map_cons, List.sum_cons]
    have : 0 ≤ atT t x := by unfold atT; split <;> omega
    omega
theorem needed_mono {l : List Lf} (h : ∀ x ∈ l, LfOk x) {s t : Int} (hst : ∀ y ∈ l, y.fr ≤ t → t < y.to → y.fr ≤ s ∧ s < y.to) : needed l t ≤ needed l s := by
  unfold needed
  induction l with
  | nil => simp
  | cons x l ih =>
    have h1 := (h x (by simp)).w0
    have h2 := ih (fun y hy => h y (by simp [hy])) (fun y hy => hst y (by simp [hy]))
    simp only [List.map_cons, List.sum_cons]
    have : atT t x ≤ atT s x := by
      unfold atT
      by_cases e : x.fr ≤ t ∧ t < x.to
      · rw [if_pos e, if_pos (hst x (by simp) e.1 e.2)]; omega
      · rw [if_neg e]; split <;> omega
    omega
theorem last_from (t : Int) : ∀ (l : List Lf), (∀ x ∈ l, t < x.fr) ∨ ∃ x ∈ l, x.fr ≤ t ∧ ∀ y ∈ l, y.fr ≤ t → y.fr ≤ x.fr
  | [] => .inl (fun _ h => by simp at h)
  | z :: l => by
    rcases last_from t l with h | ⟨x, hx, h1, h2⟩
    · by_cases e : z.fr ≤ t
      · refine .inr ⟨z, by simp, e, fun y hy hyt => ?_⟩
        rcases List.mem_cons.1 hy with rfl | hy
        · exact Int.le_refl _
        · have := h y hy; omega
      · refine .inl (fun x hx => ?_)
        rcases List.mem_cons.1 hx with rfl | hx
        · omega
        · exact h x hx
    · by_cases e : z.fr ≤ t ∧ x.fr < z.fr
      · refine .inr ⟨z, by simp, e.1, fun y hy hyt => ?_⟩
        rcases List.mem_cons.1 hy with rfl | hy
        · exact Int.le_refl _
        · have := h2 y hy hyt; omega
      · refine .inr ⟨x, by simp [hx], h1, fun y hy hyt => ?_⟩
        rcases List.mem_cons.1 hy with rfl | hy
        · omega
        · exact h2 y hy hyt
theorem needed_le_load {l : List Lf} (h : ∀ x ∈ l, LfOk x) (t : Int) : needed l t ≤ loadV l := by
  rcases last_from t l with h1 | ⟨x, hx, h1, h2⟩
  · have : needed l t ≤ needed [] t := by
      unfold needed
      have : ∀ l : List Lf, (∀ x ∈ l, t < x.fr) → (l.map (atT t)).sum = 0 := fun l => by
        induction l with
        | nil => intro _; rfl
        | cons x l ih =>
          intro hl
          have h3 := hl x (by simp)
          simp only [List.map_cons, List.sum_cons, ih (fun y hy => hl y (by simp [hy]))]
          unfold atT
          rw [if_neg (by omega)]; rfl
      rw [this l h1]; simp
    have h3 := load_nonneg l
    simp [needed] at this
    unfold needed
    omega
  · exact Int.le_trans (needed_mono h (s := x.fr) (fun y hy h3 h4 => ⟨h2 y hy h3, by omega⟩)) ((le_foldmax _ l 0).2 x hx)

/-! Changes. -/
def chg (l : List Lf) : List (Int × Int) := l.flatMap fun x => [(x.fr, x.wd), (x.to, -x.wd)]
def stepC (s : Int × Int) (c : Int × Int) : Int × Int := (s.1 + c.2, max s.2 (s.1 + c.2))
def peakC (cs : List (Int × Int)) : Int := (cs.foldl stepC (0, 0)).2
def sum2 (cs : List (Int × Int)) : Int := (cs.map (·.2)).sum
theorem fold_sum : ∀ (cs : List (Int × Int)) (n m : Int), (cs.foldl stepC (n, m)).1 = n + sum2 cs
  | [], n, m => by simp [sum2]
  | c :: cs, n, m => by
    simp only [List.foldl_cons, stepC, fold_sum cs, sum2, List.map_cons, List.sum_cons]
    omega
theorem peak_ge : ∀ (cs : List (Int × Int)) (n m : Int), m ≤ (cs.foldl stepC (n, m)).2 ∧ ∀ p r, cs = p ++ r → p ≠ [] → n + sum2 p ≤ (cs.foldl stepC (n, m)).2
  | [], n, m => ⟨Int.le_refl _, fun p r h hp => by simp at h; exact absurd h.1 hp⟩
  | c :: cs, n, m => by
    obtain ⟨h1, h2⟩ := peak_ge cs (n + c.2) (max m (n + c.2))
    simp only [List.foldl_cons, stepC]
    refine ⟨by omega, fun p r h hp => ?_⟩
    rcases p with _ | ⟨d, p⟩
    · exact absurd rfl hp
    · simp only [List.cons_append, List.cons.injEq] at h
      obtain ⟨rfl, h⟩ := h
      by_cases hp2 : p = []
      · subst hp2; simp [sum2]; omega
      · have := h2 p r h hp2
        simp only [sum2, List.map_cons, List.sum_cons] at this ⊢
        omega
theorem peak_le (M : Int) : ∀ (cs : List (Int × Int)) (n m : Int), m ≤ M → (∀ p r, cs = p ++ r → p ≠ [] → n + sum2 p ≤ M) → (cs.foldl stepC (n, m)).2 ≤ M
  | [], n, m, h, _ => h
  | c :: cs, n, m, h, h2 => by
    simp only [List.foldl_cons, stepC]
    refine peak_le M cs _ _ ?_ (fun p r e hp => ?_)
    · have := h2 [c] cs rfl (by simp)
      simp [sum2] at this
      omega
    · have := h2 (c :: p) r (by rw [e]; rfl) (by simp)
      simp only [sum2, List.map_cons, List.sum_cons] at this ⊢
      omega
def leC (x y : Int × Int) : Prop := x.1 < y.1 ∨ x.1 = y.1 ∧ x.2 ≤ y.2
/-- What has changed up to a time. -/
def upTo (t : Int) (cs : List (Int × Int)) : Int := (cs.map (fun c => if c.1 ≤ t then c.2 else 0)).sum
theorem upTo_app (t : Int) (a b : List (Int × Int)) : upTo t (a ++ b) = upTo t a + upTo t b := by simp [upTo]
theorem upTo_perm (t : Int) {a b : List (Int × Int)} (h : a.Perm b) : upTo t a = upTo t b := by
  unfold upTo
  have := h.map (fun c : Int × Int => if c.1 ≤ t then c.2 else 0)
  generalize a.map _ = x at this ⊢
  generalize b.map _ = y at this ⊢
  induction this with
  | nil => rfl
  | cons _ _ ih => simp [ih]
  | swap => simp; omega
  | trans _ _ h1 h2 => omega
theorem upTo_chg (t : Int) : ∀ {l : List Lf}, (∀ x ∈ l, LfOk x) → upTo t (chg l) = needed l t
  | [], _ => rfl
  | x :: l, h => by
    have hx := (h x (by simp)).ft
    have ih := upTo_chg t (l := l) (fun y hy => h y (by simp [hy]))
    have e : chg (x :: l) = [(x.fr, x.wd), (x.to, -x.wd)] ++ chg l := rfl
    rw [e, upTo_app, ih]
    simp only [upTo, needed, List.map_cons, List.map_nil, List.sum_cons, List.sum_nil, atT]
    by_cases h1 : x.fr ≤ t
    · by_cases h2 : x.to ≤ t
      · rw [if_pos h1, if_pos h2, if_neg (by omega)]; omega
      · rw [if_pos h1, if_neg h2, if_pos ⟨h1, by omega⟩]; omega
    · rw [if_neg h1, if_neg (by omega), if_neg (by omega)]; omega
theorem upTo_all (t : Int) : ∀ (a : List (Int × Int)), (∀ c ∈ a, c.1 ≤ t) → upTo t a = sum2 a
  | [], _ => rfl
  | c :: a, h => by
    have := upTo_all t a (fun d hd => h d (by simp [hd]))
    simp only [upTo, sum2, List.map_cons, List.sum_cons] at this ⊢
    rw [if_pos (h c (by simp)), this]
theorem upTo_none (t : Int) : ∀ (a : List (Int × Int)), (∀ c ∈ a, t < c.1) → upTo t a = 0
  | [], _ => rfl
  | c :: a, h => by
    have := upTo_none t a (fun d hd => h d (by simp [hd]))
    have h2 := h c (by simp)
    simp only [upTo, List.map_cons, List.sum_cons] at this ⊢
    rw [if_neg (by omega), this]; rfl
theorem upTo_nonneg (t : Int) : ∀ (a : List (Int × Int)), (∀ c ∈ a, c.1 ≤ t → 0 ≤ c.2) → 0 ≤ upTo t a
  | [], _ => by simp [upTo]
  | c :: a, h => by
    have := upTo_nonneg t a (fun d hd => h d (by simp [hd]))
    have h2 := h c (by simp)
    simp only [upTo, List.map_cons, List.sum_cons] at this ⊢
    split
    · have := h2 (by assumption); omega
    · omega
theorem sum_le_upTo (t : Int) : ∀ (a : List (Int × Int)), (∀ c ∈ a, t < c.1 → c.2 ≤ 0) → sum2 a ≤ upTo t a
  | [], _ => by simp [upTo, sum2]
  | c :: a, h => by
    have := sum_le_upTo t a (fun d hd => h d (by simp [hd]))
    have h2 := h c (by simp)
    simp only [upTo, sum2, List.map_cons, List.sum_cons] at this ⊢
    split
    · omega
    · have := h2 (by omega); omega
/-- THE MOST, BY CHANGES IN THEIR TURN. -/
theorem peak_load {l : List Lf} (h : ∀ x ∈ l, LfOk x) {cs : List (Int × Int)} (hp : cs.Perm (chg l)) (hs : cs.Pairwise leC) : peakC cs = loadV l := by
  apply Int.le_antisymm
  · refine peak_le _ cs 0 0 (load_nonneg l) (fun p r e hne => ?_)
    obtain ⟨q, c, rfl⟩ : ∃ q c, p = q ++ [c] := ⟨p.dropLast, p.getLast hne, (List.dropLast_concat_getLast hne).symm⟩
    rw [e, List.pairwise_append] at hs
    obtain ⟨s1, s2, s3⟩ := hs
    rw [List.pairwise_append] at s1
    obtain ⟨s4, s5, s6⟩ := s1
    have hq : ∀ d ∈ q, leC d c := fun d hd => s6 d hd c (by simp)
    have hr : ∀ d ∈ r, leC c d := fun d hd => s3 c (by simp) d hd
    rw [Int.zero_add]
    by_cases hw : 0 < c.2
    · have h1 : upTo c.1 cs = sum2 (q ++ [c]) + upTo c.1 r := by
        rw [e, upTo_app, upTo_all c.1 (q ++ [c])]
        intro d hd
        rcases List.mem_append.1 hd with hd | hd
        · rcases hq d hd with h | h <;> omega
        · simp at hd; subst hd; omega
      have h2 := upTo_nonneg c.1 r (fun d hd hd2 => by rcases hr d hd with h | h <;> omega)
      have h3 := upTo_perm c.1 hp
      rw [upTo_chg c.1 h] at h3
      have h4 := needed_le_load h c.1
      omega
    · have h1 : upTo (c.1 - 1) cs = upTo (c.1 - 1) (q ++ [c]) + 0 := by
        rw [e, upTo_app, upTo_none (c.1 - 1) r]
        intro d hd
        rcases hr d hd with h | h <;> omega
      have h2 := sum_le_upTo (c.1 - 1) (q ++ [c]) (fun d hd hd2 => by
        rcases List.mem_append.1 hd with hd | hd
        · rcases hq d hd with h | h <;> omega
        · simp at hd; subst hd; omega)
      have h3 := upTo_perm (c.1 - 1) hp
      rw [upTo_chg (c.1 - 1) h] at h3
      have h4 := needed_le_load h (c.1 - 1)
      omega
  · refine foldmax_le _ _ l 0 (peak_ge cs 0 0).1 (fun x hx => ?_)
    obtain ⟨t, ht⟩ : ∃ t, t = x.fr := ⟨_, rfl⟩
    rw [← ht]
    have e : cs = cs.takeWhile (fun c => decide (c.1 ≤ t)) ++ cs.dropWhile (fun c => decide (c.1 ≤ t)) := List.takeWhile_append_dropWhile.symm
    generalize ha : cs.takeWhile (fun c => decide (c.1 ≤ t)) = a at e
    generalize hb : cs.dropWhile (fun c => decide (c.1 ≤ t)) = b at e
    have h1 : ∀ c ∈ a, c.1 ≤ t := fun c hc => by
      rw [← ha] at hc
      have := List.all_eq_true.1 (List.all_takeWhile (p := fun c : Int × Int => decide (c.1 ≤ t)) (l := cs)) c hc
      simpa using this
    have h2 : ∀ c ∈ b, t < c.1 := fun c hc => by
      rcases b with _ | ⟨d, b⟩
      · simp at hc
      · have hd : ¬ d.1 ≤ t := by
          have := List.head?_dropWhile_not (fun c : Int × Int => decide (c.1 ≤ t)) cs
          rw [hb] at this
          simpa using this
        rw [e, List.pairwise_append] at hs
        have h3 := hs.2.1
        rw [List.pairwise_cons] at h3
        rcases List.mem_cons.1 hc with rfl | hc
        · omega
        · rcases h3.1 c hc with h | h <;> omega
    have h3 := upTo_perm t hp
    rw [upTo_chg t h, e, upTo_app, upTo_all t a h1, upTo_none t b h2] at h3
    by_cases hne : a = []
    · subst hne
      have := (peak_ge cs 0 0).1
      simp [sum2] at h3
      show needed l t ≤ _
      unfold peakC
      omega
    · have := (peak_ge cs 0 0).2 a b e hne
      show needed l t ≤ (cs.foldl stepC (0, 0)).2
      omega
end Go.Proofs.Ytnncalhpbfmgoaa.V
