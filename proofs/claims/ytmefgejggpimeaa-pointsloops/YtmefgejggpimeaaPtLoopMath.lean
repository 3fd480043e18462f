/-
  Loops visit just the points, in order: the mathematics.
-/
import Derived.Test.YtmefgejggpimeaaPtBoxMath
namespace Go.Proofs.Ytmefgejggpimeaa.V
open Go.RowKit
set_option linter.unusedVariables false

/-- All lists of a box, by its first number. -/
def SL : List Int → List (List Int)
  | [] => [[]]
  | d :: ds => (List.range d.toNat).flatMap fun i : Nat => (SL ds).map ((i : Int) :: ·)
theorem flat_flat {α β γ : Type} (l : List α) (f : α → List β) (g : β → List γ) : (l.flatMap f).flatMap g = l.flatMap fun x => (f x).flatMap g := by
  induction l with
  | nil => rfl
  | cons x l ih => simp only [List.flatMap_cons, List.flatMap_append, ih]
theorem flat_single {α β : Type} (l : List α) (f : α → β) : (l.flatMap fun x => [f x]) = l.map f := by
  induction l with
  | nil => rfl
  | cons x l ih => simp only [List.flatMap_cons, ih, List.map_cons, List.singleton_append]
theorem SL_snoc : ∀ (ds : List Int) (d : Int), SL (ds ++ [d]) = (SL ds).flatMap fun x => more x d.toNat
  | [], d => by simp [SL, more, flat_single]
  | e :: ds, d => by
    simp only [List.cons_append, SL, SL_snoc ds d]
    rw [flat_flat]
    apply flat_congr
    intro i _
    rw [List.map_flatMap, List.flatMap_map]
    apply flat_congr
    intro x _
    simp [more]
theorem nonneg_prod : ∀ (xs : List Int), (∀ x ∈ xs, 0 ≤ x) → 0 ≤ prod xs
  | [], _ => by simp [prod]
  | x :: xs, h => Int.mul_nonneg (h x (by simp)) (nonneg_prod xs (fun y hy => h y (by simp [hy])))
theorem BL_SL : ∀ (n : Nat) (xs : List Int), xs.length = n → (∀ x ∈ xs, 0 ≤ x ∧ x ≤ 4096) → BL xs = SL xs
  | 0, xs, h, _ => by
    obtain rfl : xs = [] := by rw [← List.length_eq_zero_iff]; exact h
    simp [BL, SL, prod, indexV]
  | n + 1, xs, h, hd => by
    have hne : xs ≠ [] := by intro e; rw [e] at h; simp at h
    obtain ⟨ds, d, rfl⟩ : ∃ ds d, xs = ds ++ [d] := ⟨xs.dropLast, xs.getLast hne, (List.dropLast_concat_getLast hne).symm⟩
    have hp : 0 ≤ prod ds := by
      have := nonneg_prod ds (fun x hx => (hd x (by simp [hx])).1)
      exact this
    rw [BL_snoc ds d (hd d (by simp)).1 hp, SL_snoc, BL_SL n ds (by simpa using h) (fun x hx => hd x (by simp [hx]))]

/-- How far a row's numbers matter: behind the last Coef that is not 0. -/
def hang : List Int → Nat
  | [] => 0
  | c :: cs => if hang cs = 0 then (if c = 0 then 0 else 1) else hang cs + 1
theorem hang_le : ∀ cs : List Int, hang cs ≤ cs.length
  | [] => Nat.le_refl _
  | c :: cs => by
    have := hang_le cs
    simp only [hang, List.length_cons]
    split
    · split <;> omega
    · omega
theorem hang_far : ∀ (cs : List Int) (j : Nat), hang cs ≤ j → cs[j]?.getD 0 = 0
  | [], j, _ => by simp
  | c :: cs, j, h => by
    simp only [hang] at h
    cases j with
    | zero =>
      by_cases h0 : hang cs = 0
      · rw [if_pos h0] at h
        by_cases hc : c = 0
        · simp [hc]
        · rw [if_neg hc] at h; omega
      · rw [if_neg h0] at h; omega
    | succ j =>
      have : hang cs ≤ j := by
        by_cases h0 : hang cs = 0
        · omega
        · rw [if_neg h0] at h; omega
      simpa using hang_far cs j this
theorem hang_at : ∀ (cs : List Int) (k : Nat), hang cs = k + 1 → cs[k]?.getD 0 ≠ 0
  | [], k, h => by simp [hang] at h
  | c :: cs, k, h => by
    simp only [hang] at h
    by_cases h0 : hang cs = 0
    · rw [if_pos h0] at h
      by_cases hc : c = 0
      · rw [if_pos hc] at h; omega
      · rw [if_neg hc] at h
        obtain rfl : k = 0 := by omega
        simpa using hc
    · rw [if_neg h0] at h
      obtain ⟨k', rfl⟩ : ∃ k', k = k' + 1 := ⟨k - 1, by omega⟩
      simpa using hang_at cs k' (by omega)
theorem dotV_nil (cs : List Int) : dotV cs [] = 0 := by cases cs <;> rfl
theorem dotV_short : ∀ (cs x z : List Int), (∀ j, x.length ≤ j → cs[j]?.getD 0 = 0) → dotV cs (x ++ z) = dotV cs x
  | [], x, z, _ => by cases x <;> cases z <;> simp [dotV]
  | c :: cs, [], z, h => by
    cases z with
    | nil => rfl
    | cons y z =>
      have h0 := h 0 (by simp)
      simp at h0
      have ih := dotV_short cs [] z (fun j hj => by have := h (j + 1) (by simp); simpa using this)
      rw [List.nil_append] at ih
      simp only [List.nil_append, dotV, h0, ih, dotV_nil]
      omega
  | c :: cs, y :: x, z, h => by
    have ih := dotV_short cs x z (fun j hj => by have := h (j + 1) (by simp; omega); simpa using this)
    simp only [List.cons_append, dotV, ih]
theorem dotV_snoc : ∀ (cs x : List Int) (n : Int), dotV cs (x ++ [n]) = dotV (cs.take x.length) x + cs[x.length]?.getD 0 * n
  | [], x, n => by cases x <;> simp [dotV]
  | c :: cs, [], n => by simp [dotV, dotV_nil]
  | c :: cs, y :: x, n => by
    have ih := dotV_snoc cs x n
    simp only [List.cons_append, dotV, List.length_cons, List.take_succ_cons, ih, List.getElem?_cons_succ]
    omega
/-- A row's number hangs on the first numbers alone. -/
theorem worth_short (r : List Int × Int) (x z : List Int) (h : hang r.1 ≤ x.length) : worthV r (x ++ z) = worthV r x := by
  unfold worthV
  rw [dotV_short r.1 x z (fun j hj => hang_far r.1 j (by omega))]

/-- A loop's bound: a row and what it is divided by. -/
structure LpB where
  cs : List Int
  K : Int
  D : Int
def LpB.at (b : LpB) (x : List Int) : Int := worthV (b.cs, b.K) x
/-- What a low bound says, what a high one says. -/
def LpB.lo (b : LpB) (x : List Int) : Int := -(-b.at x / b.D)
def LpB.hi (b : LpB) (x : List Int) : Int := b.at x / b.D
theorem lo_iff {b : LpB} {x : List Int} {n : Int} (hD : 1 ≤ b.D) : b.lo x ≤ n ↔ b.at x ≤ n * b.D := by
  unfold LpB.lo
  have h : -n ≤ -b.at x / b.D ↔ -n * b.D ≤ -b.at x := Int.le_ediv_iff_mul_le (by omega)
  rw [Int.neg_mul] at h
  constructor
  · intro h1
    have := h.1 (by omega)
    omega
  · intro h1
    have := h.2 (by omega)
    omega
theorem hi_iff {b : LpB} {x : List Int} {n : Int} (hD : 1 ≤ b.D) : n ≤ b.hi x ↔ n * b.D ≤ b.at x := by
  unfold LpB.hi
  exact Int.le_ediv_iff_mul_le (by omega)
/-- The first k Coefs, multiplied. -/
def firstV (cs : List Int) (k : Nat) (by' : Int) : List Int := (cs.take k).map (by' * ·)
theorem dotV_map (m : Int) : ∀ (cs x : List Int), dotV (cs.map (m * ·)) x = m * dotV cs x
  | [], x => by cases x <;> simp [dotV]
  | c :: cs, [] => by simp [dotV]
  | c :: cs, y :: x => by
    simp only [List.map_cons, dotV, dotV_map m cs x, Int.mul_add]
    rw [Int.mul_assoc]
/-- A row as a low bound, as a high one. -/
def lpLow (r : List Int × Int) (k : Nat) : LpB := ⟨firstV r.1 k (-1), -1 * r.2, r.1[k]?.getD 0⟩
def lpHigh (r : List Int × Int) (k : Nat) : LpB := ⟨firstV r.1 k 1, 1 * r.2, -(r.1[k]?.getD 0)⟩
theorem lpLow_iff (r : List Int × Int) (x : List Int) (n : Int) (hc : 0 < r.1[x.length]?.getD 0) : (lpLow r x.length).lo x ≤ n ↔ 0 ≤ worthV r (x ++ [n]) := by
  rw [lo_iff (by simp only [lpLow]; omega)]
  simp only [LpB.at, lpLow, worthV, firstV, dotV_map, dotV_snoc, Int.mul_comm n]
  omega
theorem lpHigh_iff (r : List Int × Int) (x : List Int) (n : Int) (hc : r.1[x.length]?.getD 0 < 0) : n ≤ (lpHigh r x.length).hi x ↔ 0 ≤ worthV r (x ++ [n]) := by
  rw [hi_iff (by simp only [lpHigh]; omega)]
  simp only [LpB.at, lpHigh, worthV, firstV, dotV_map, dotV_snoc, Int.mul_comm n, Int.neg_mul]
  omega
/-- The bounds of the k-th loop: of its entry of Box, and of the rows that end there. -/
def lowsOf (rs : List (List Int × Int)) (k : Nat) : List LpB := ⟨List.replicate k 0, 0, 1⟩ :: (rs.filter fun r => decide (hang r.1 = k + 1) && decide (0 < r.1[k]?.getD 0)).map (lpLow · k)
def highsOf (rs : List (List Int × Int)) (k : Nat) (e : Int) : List LpB := ⟨List.replicate k 0, e - 1, 1⟩ :: (rs.filter fun r => decide (hang r.1 = k + 1) && !decide (0 < r.1[k]?.getD 0)).map (lpHigh · k)
theorem dotV_zeros : ∀ (k : Nat) (x : List Int), dotV (List.replicate k 0) x = 0
  | 0, x => by cases x <;> simp [dotV]
  | k + 1, [] => by simp [List.replicate_succ, dotV]
  | k + 1, y :: x => by simp [List.replicate_succ, dotV, dotV_zeros k x]
theorem lows_iff (rs : List (List Int × Int)) (x : List Int) (n : Int) : (∀ b ∈ lowsOf rs x.length, b.lo x ≤ n) ↔ 0 ≤ n ∧ ∀ r ∈ rs, hang r.1 = x.length + 1 → 0 < r.1[x.length]?.getD 0 → 0 ≤ worthV r (x ++ [n]) := by
  simp only [lowsOf, List.mem_cons, List.mem_map, List.mem_filter, Bool.and_eq_true, decide_eq_true_eq]
  constructor
  · intro h
    refine ⟨?_, fun r hr h1 h2 => (lpLow_iff r x n h2).1 (h _ (.inr ⟨r, ⟨hr, h1, h2⟩, rfl⟩))⟩
    have := h _ (.inl rfl)
    simp [LpB.lo, LpB.at, worthV, dotV_zeros] at this
    exact this
  · rintro ⟨h0, h⟩ b (rfl | ⟨r, ⟨hr, h1, h2⟩, rfl⟩)
    · simp [LpB.lo, LpB.at, worthV, dotV_zeros, h0]
    · exact (lpLow_iff r x n h2).2 (h r hr h1 h2)
theorem highs_iff (rs : List (List Int × Int)) (x : List Int) (e n : Int) : (∀ b ∈ highsOf rs x.length e, n ≤ b.hi x) ↔ n < e ∧ ∀ r ∈ rs, hang r.1 = x.length + 1 → ¬ 0 < r.1[x.length]?.getD 0 → 0 ≤ worthV r (x ++ [n]) := by
  simp only [highsOf, List.mem_cons, List.mem_map, List.mem_filter, Bool.and_eq_true, decide_eq_true_eq, Bool.not_eq_true', decide_eq_false_iff_not]
  constructor
  · intro h
    refine ⟨?_, fun r hr h1 h2 => (lpHigh_iff r x n (by have := hang_at r.1 _ h1; omega)).1 (h _ (.inr ⟨r, ⟨hr, h1, h2⟩, rfl⟩))⟩
    have := h _ (.inl rfl)
    simp [LpB.hi, LpB.at, worthV, dotV_zeros] at this
    omega
  · rintro ⟨h0, h⟩ b (rfl | ⟨r, ⟨hr, h1, h2⟩, rfl⟩)
    · simp [LpB.hi, LpB.at, worthV, dotV_zeros]; omega
    · exact (lpHigh_iff r x n (by have := hang_at r.1 _ h1; omega)).2 (h r hr h1 h2)
/-- The greatest of the lows, the least of the highs. -/
def maxL : List Int → Int
  | [] => 0
  | v :: vs => vs.foldl (fun a n => if a < n then n else a) v
def minL : List Int → Int
  | [] => 0
  | v :: vs => vs.foldl (fun a n => if n < a then n else a) v
theorem max_fold (n : Int) : ∀ (vs : List Int) (v : Int), vs.foldl (fun a n => if a < n then n else a) v ≤ n ↔ v ≤ n ∧ ∀ u ∈ vs, u ≤ n
  | [], v => by simp
  | u :: vs, v => by
    rw [List.foldl_cons, max_fold n vs]
    simp only [List.mem_cons, forall_eq_or_imp]
    by_cases h : v < u
    · rw [if_pos h]
      constructor
      · rintro ⟨a, b⟩; exact ⟨by omega, a, b⟩
      · rintro ⟨_, a, b⟩; exact ⟨a, b⟩
    · rw [if_neg h]
      constructor
      · rintro ⟨a, b⟩; exact ⟨a, by omega, b⟩
      · rintro ⟨a, _, b⟩; exact ⟨a, b⟩
theorem min_fold (n : Int) : ∀ (vs : List Int) (v : Int), n ≤ vs.foldl (fun a n => if n < a then n else a) v ↔ n ≤ v ∧ ∀ u ∈ vs, n ≤ u
  | [], v => by simp
  | u :: vs, v => by
    rw [List.foldl_cons, min_fold n vs]
    simp only [List.mem_cons, forall_eq_or_imp]
    by_cases h : u < v
    · rw [if_pos h]
      constructor
      · rintro ⟨a, b⟩; exact ⟨by omega, a, b⟩
      · rintro ⟨_, a, b⟩; exact ⟨a, b⟩
    · rw [if_neg h]
      constructor
      · rintro ⟨a, b⟩; exact ⟨a, by omega, b⟩
      · rintro ⟨a, _, b⟩; exact ⟨a, b⟩
/-- A loop: its lows and its highs. -/
structure Lp where
  lows : List LpB
  highs : List LpB
def Lp.lo (l : Lp) (x : List Int) : Int := maxL (l.lows.map (·.lo x))
def Lp.hi (l : Lp) (x : List Int) : Int := minL (l.highs.map (·.hi x))
/-- The numbers from lo to hi. -/
def fromTo (lo hi : Int) : List Int := (List.range (hi - lo + 1).toNat).map fun i : Nat => lo + i
/-- What loops go through. -/
def runL : List Lp → List Int → List (List Int)
  | [], x => [x]
  | l :: ls, x => (fromTo (l.lo x) (l.hi x)).flatMap fun n => runL ls (x ++ [n])
def loopOf (rs : List (List Int × Int)) (k : Nat) (e : Int) : Lp := ⟨lowsOf rs k, highsOf rs k e⟩
/-- The loops from the k-th one on, their ends. -/
def loopsFrom (rs : List (List Int × Int)) : Nat → List Int → List Lp
  | _, [] => []
  | k, e :: es => loopOf rs k e :: loopsFrom rs (k + 1) es
/-- All rows that end at the k-th number hold. -/
def holds (rs : List (List Int × Int)) (x : List Int) (n : Int) : Bool := rs.all fun r => !decide (hang r.1 = x.length + 1) || decide (0 ≤ worthV r (x ++ [n]))
theorem loop_iff (rs : List (List Int × Int)) (x : List Int) (e n : Int) : ((loopOf rs x.length e).lo x ≤ n ∧ n ≤ (loopOf rs x.length e).hi x) ↔ (0 ≤ n ∧ n < e) ∧ holds rs x n = true := by
  have h1 : (loopOf rs x.length e).lo x ≤ n ↔ ∀ b ∈ lowsOf rs x.length, b.lo x ≤ n := by
    simp only [Lp.lo, loopOf, lowsOf, List.map_cons, maxL]
    rw [max_fold]
    simp only [List.mem_map, List.mem_cons, forall_eq_or_imp, forall_exists_index, and_imp, forall_apply_eq_imp_iff₂]
  have h2 : n ≤ (loopOf rs x.length e).hi x ↔ ∀ b ∈ highsOf rs x.length e, n ≤ b.hi x := by
    simp only [Lp.hi, loopOf, highsOf, List.map_cons, minL]
    rw [min_fold]
    simp only [List.mem_map, List.mem_cons, forall_eq_or_imp, forall_exists_index, and_imp, forall_apply_eq_imp_iff₂]
  rw [h1, h2, lows_iff, highs_iff]
  simp only [holds, List.all_eq_true, Bool.or_eq_true, Bool.not_eq_true', decide_eq_false_iff_not, decide_eq_true_eq]
  constructor
  · rintro ⟨⟨a, b⟩, c, d⟩
    refine ⟨⟨a, c⟩, fun r hr => ?_⟩
    by_cases hh : hang r.1 = x.length + 1
    · by_cases hc : 0 < r.1[x.length]?.getD 0
      · exact .inr (b r hr hh hc)
      · exact .inr (d r hr hh hc)
    · exact .inl hh
  · rintro ⟨⟨a, c⟩, d⟩
    exact ⟨⟨a, fun r hr hh _ => (d r hr).resolve_left (fun h => h hh)⟩, c, fun r hr hh _ => (d r hr).resolve_left (fun h => h hh)⟩
theorem fromTo_filter (lo hi : Int) (e : Nat) (p : Nat → Bool) (h : ∀ n : Int, (lo ≤ n ∧ n ≤ hi) ↔ (0 ≤ n ∧ n < e) ∧ p n.toNat = true) : fromTo lo hi = ((List.range e).filter p).map fun i : Nat => (i : Int) := by
  by_cases hle : lo ≤ hi
  · have h0 := (h lo).1 ⟨Int.le_refl _, hle⟩
    have h1 := (h hi).1 ⟨hle, Int.le_refl _⟩
    obtain ⟨a, rfl⟩ : ∃ a : Nat, lo = a := ⟨lo.toNat, by omega⟩
    obtain ⟨b, rfl⟩ : ∃ b : Nat, hi = b := ⟨hi.toNat, by omega⟩
    have hb : b < e := by omega
    have hab : a ≤ b := by omega
    have key : (List.range e).filter p = (List.range (b + 1 - a)).map fun i => a + i := by
      have hp : ∀ n, n < e → (p n = true ↔ a ≤ n ∧ n ≤ b) := fun n hn => by
        have := h (n : Int)
        rw [Int.toNat_natCast] at this
        constructor
        · intro hh
          have := this.2 ⟨⟨by omega, by omega⟩, hh⟩
          omega
        · intro hh
          exact (this.1 ⟨by omega, by omega⟩).2
      have e1 : e = a + ((b + 1 - a) + (e - (b + 1))) := by omega
      conv => lhs; rw [e1, List.range_add, List.filter_append, List.range_add, List.map_append, List.filter_append]
      have f1 : (List.range a).filter p = [] := by
        rw [List.filter_eq_nil_iff]
        intro n hn
        have hn' : n < a := by simpa using hn
        rw [hp n (by omega)]
        omega
      have f2 : ((List.range (b + 1 - a)).map (a + ·)).filter p = (List.range (b + 1 - a)).map (a + ·) := by
        rw [List.filter_eq_self]
        intro n hn
        simp only [List.mem_map, List.mem_range] at hn
        obtain ⟨i, hi, rfl⟩ := hn
        rw [hp _ (by omega)]
        omega
      have f3 : (((List.range (e - (b + 1))).map (b + 1 - a + ·)).map (a + ·)).filter p = [] := by
        rw [List.filter_eq_nil_iff]
        intro n hn
        simp only [List.mem_map, List.mem_range] at hn
        obtain ⟨i, ⟨j, hj, rfl⟩, rfl⟩ := hn
        rw [hp _ (by omega)]
        omega
      rw [f1, f2, f3]
      simp
    unfold fromTo
    rw [key, List.map_map]
    have e2 : ((b : Int) - a + 1).toNat = b + 1 - a := by omega
    rw [e2]
    apply List.map_congr_left
    intro i _
    simp
  · have e2 : (hi - lo + 1).toNat = 0 := by omega
    unfold fromTo
    rw [e2]
    have : (List.range e).filter p = [] := by
      rw [List.filter_eq_nil_iff]
      intro n hn
      have hn' : n < e := by simpa using hn
      intro hp
      have := (h (n : Int)).2 ⟨⟨by omega, by omega⟩, by rw [Int.toNat_natCast]; exact hp⟩
      omega
    rw [this]
    rfl
/-- The rows that end from the k-th number on. -/
def later (rs : List (List Int × Int)) (k : Nat) (y : List Int) : Bool := rs.all fun r => decide (hang r.1 ≤ k) || decide (0 ≤ worthV r y)
theorem later_step (rs : List (List Int × Int)) (x : List Int) (n : Int) (z : List Int) : later rs x.length ((x ++ [n]) ++ z) = (holds rs x n && later rs (x.length + 1) ((x ++ [n]) ++ z)) := by
  unfold later holds
  rw [Bool.eq_iff_iff]
  simp only [Bool.and_eq_true, List.all_eq_true, Bool.or_eq_true, decide_eq_true_eq, Bool.not_eq_true', decide_eq_false_iff_not]
  constructor
  · intro h
    refine ⟨fun r hr => ?_, fun r hr => ?_⟩
    · by_cases hh : hang r.1 = x.length + 1
      · rcases h r hr with h | h
        · omega
        · rw [worth_short r (x ++ [n]) z (by simp; omega)] at h
          exact .inr h
      · exact .inl hh
    · rcases h r hr with h | h
      · exact .inl (by omega)
      · exact .inr h
  · rintro ⟨h1, h2⟩ r hr
    rcases h2 r hr with h | h
    · by_cases hh : hang r.1 = x.length + 1
      · refine .inr ?_
        rw [worth_short r (x ++ [n]) z (by simp; omega)]
        exact (h1 r hr).resolve_left (fun e => e hh)
      · exact .inl (by omega)
    · exact .inr h
theorem run_points (rs : List (List Int × Int)) : ∀ (es : List Int) (x : List Int), runL (loopsFrom rs x.length es) x = ((SL es).map (x ++ ·)).filter (later rs x.length) ∨ (∃ e ∈ es, e < 0) ∨ (∃ r ∈ rs, x.length + es.length < hang r.1)
  | [], x => by
    by_cases h : ∃ r ∈ rs, x.length < hang r.1
    · right; right
      simpa using h
    · left
      have : later rs x.length x = true := by
        unfold later
        simp only [List.all_eq_true, Bool.or_eq_true, decide_eq_true_eq]
        intro r hr
        exact .inl (Nat.le_of_not_lt (fun hh => h ⟨r, hr, hh⟩))
      simp [loopsFrom, runL, SL, this]
  | e :: es, x => by
    by_cases he : e < 0
    · right; left; exact ⟨e, by simp, he⟩
    by_cases hall : ∀ n : Int, runL (loopsFrom rs (x ++ [n]).length es) (x ++ [n]) = ((SL es).map ((x ++ [n]) ++ ·)).filter (later rs (x ++ [n]).length)
    · left
      have hl : ∀ n : Int, (x ++ [n]).length = x.length + 1 := fun n => by simp
      simp only [hl] at hall
      have hf := fromTo_filter ((loopOf rs x.length e).lo x) ((loopOf rs x.length e).hi x) e.toNat (fun i => holds rs x (i : Int)) (fun n => by
        rw [loop_iff]
        constructor
        · rintro ⟨⟨a, b⟩, c⟩
          exact ⟨⟨a, by omega⟩, by rw [show ((n.toNat : Nat) : Int) = n by omega]; exact c⟩
        · rintro ⟨⟨a, b⟩, c⟩
          exact ⟨⟨a, by omega⟩, by rw [show ((n.toNat : Nat) : Int) = n by omega] at c; exact c⟩)
      simp only [loopsFrom, runL, hf, hall, SL]
      rw [List.map_flatMap, List.filter_flatMap, List.flatMap_map]
      generalize List.range e.toNat = R
      induction R with
      | nil => rfl
      | cons i R ih =>
        rw [List.filter_cons, List.flatMap_cons]
        have hs : List.filter (later rs x.length) (List.map (x ++ ·) (List.map ((i : Int) :: ·) (SL es))) = if holds rs x (i : Int) = true then List.filter (later rs (x.length + 1)) (List.map ((x ++ [(i : Int)]) ++ ·) (SL es)) else [] := by
          rw [List.map_map]
          have e3 : ((x ++ ·) ∘ ((i : Int) :: ·)) = ((x ++ [(i : Int)]) ++ ·) := by funext z; simp
          rw [e3]
          by_cases hh : holds rs x (i : Int) = true
          · rw [if_pos hh]
            apply List.filter_congr
            intro y hy
            simp only [List.mem_map] at hy
            obtain ⟨z, _, rfl⟩ := hy
            rw [later_step, hh, Bool.true_and]
          · rw [if_neg hh, List.filter_eq_nil_iff]
            intro y hy
            simp only [List.mem_map] at hy
            obtain ⟨z, _, rfl⟩ := hy
            rw [later_step]
            simp [hh]
        rw [hs]
        by_cases hh : holds rs x (i : Int) = true
        · rw [if_pos hh, if_pos hh, List.flatMap_cons, ih]
        · rw [if_neg hh, if_neg hh, ih, List.nil_append]
    · right
      obtain ⟨n, hn⟩ := Classical.not_forall.1 hall
      rcases run_points rs es (x ++ [n]) with h | ⟨e', h1, h2⟩ | ⟨r, h1, h2⟩
      · exact absurd h hn
      · exact .inl ⟨e', by simp [h1], h2⟩
      · refine .inr ⟨r, h1, ?_⟩
        simp only [List.length_append, List.length_cons, List.length_nil] at h2 ⊢
        omega
end Go.Proofs.Ytmefgejggpimeaa.V
