/-
  Rooms: what is needed while a tree is made in an order.
-/
import Derived.Test.YtnncalhpbfmgoaaRmBel
namespace Go.Proofs.Ytnncalhpbfmgoaa.V
open Go.RowKit
set_option linter.unusedVariables false

def sumTo (f : Nat → Int) : Nat → Int
  | 0 => 0
  | n + 1 => sumTo f n + f n
theorem sumTo_congr {f g : Nat → Int} : ∀ (n : Nat), (∀ k, k < n → f k = g k) → sumTo f n = sumTo g n
  | 0, _ => rfl
  | n + 1, h => by rw [sumTo, sumTo, sumTo_congr n fun k hk => h k (by omega), h n (by omega)]
theorem sumTo_add (f g : Nat → Int) : ∀ (n : Nat), sumTo (fun k => f k + g k) n = sumTo f n + sumTo g n
  | 0 => rfl
  | n + 1 => by simp only [sumTo]; rw [sumTo_add f g n]; omega
theorem sumTo_sub (f g : Nat → Int) : ∀ (n : Nat), sumTo (fun k => f k - g k) n = sumTo f n - sumTo g n
  | 0 => rfl
  | n + 1 => by simp only [sumTo]; rw [sumTo_sub f g n]; omega
theorem sumTo_zero : ∀ (n : Nat), sumTo (fun _ => 0) n = 0
  | 0 => rfl
  | n + 1 => by rw [sumTo, sumTo_zero n]; rfl
theorem sumTo_one (x : Int) (i : Nat) : ∀ (n : Nat), sumTo (fun k => if k = i then x else 0) n = if i < n then x else 0
  | 0 => by simp [sumTo]
  | n + 1 => by
    rw [sumTo, sumTo_one x i n]
    by_cases h1 : i < n
    · rw [if_pos h1, if_neg (by omega), if_pos (by omega)]; omega
    · by_cases h2 : n = i
      · rw [if_neg h1, if_pos h2, if_pos (by omega)]; omega
      · rw [if_neg h1, if_neg h2, if_neg (by omega)]; omega
theorem sumTo_bound {f : Nat → Int} : ∀ (n : Nat), (∀ k, k < n → 0 ≤ f k ∧ f k ≤ 1048576) → 0 ≤ sumTo f n ∧ sumTo f n ≤ (n : Int) * 1048576
  | 0, _ => by simp [sumTo]
  | n + 1, h => by
    have h1 := sumTo_bound n fun k hk => h k (by omega)
    have h2 := h n (by omega)
    rw [sumTo]
    constructor
    · omega
    · have : ((n + 1 : Nat) : Int) * 1048576 = (n : Int) * 1048576 + 1048576 := by omega
      omega
/-- The words of some nodes. -/
def wsum (ws : List Int) (l : List Nat) : Int := (l.map (nth ws)).sum
theorem wsum_next (ws : List Int) (l : List Nat) (k : Nat) : wsum ws (l ++ [k]) = wsum ws l + nth ws k := by simp [wsum]
theorem wsum_take (ws : List Int) (l : List Nat) (j : Nat) (h : j < l.length) : wsum ws (l.take (j + 1)) = wsum ws (l.take j) + nth ws (l[j]?.getD 0) := by
  rw [List.take_succ_eq_append_getElem h, wsum_next]
  simp [h]
theorem wsum_kids (ab ws : List Int) (s : Nat) : ∀ (n : Nat), wsum ws (kidsTo ab n s) = sumTo (fun k => if nth ab k = (s : Int) then nth ws k else 0) n
  | 0 => rfl
  | n + 1 => by
    rw [kids_next, sumTo, ← wsum_kids ab ws s n]
    by_cases h : nth ab n = (s : Int)
    · rw [if_pos h, if_pos h, wsum_next]
    · rw [if_neg h, if_neg h]; omega
def setB (M : Nat → Bool) (i : Nat) : Nat → Bool := fun j => if j = i then true else M j
/-- Is a node's parent not made? -/
def openB (ab : List Int) (M : Nat → Bool) (k : Nat) : Bool := decide (nth ab k < 0) || !M (nth ab k).toNat
/-- What is needed where these are made. -/
def needV (n : Nat) (ab ws : List Int) (M : Nat → Bool) : Int := sumTo (fun k => if (M k && openB ab M k) = true then nth ws k else 0) n
/-- What the document counts. -/
def seenV (ab ws : List Int) (M : Nat → Bool) (i : Nat) (k : Nat) : Int := if (M k && (decide (k = i) || decide (nth ab k = (i : Int)) || openB ab M k)) = true then nth ws k else 0
def kidsIn (n : Nat) (ab : List Int) (M : Nat → Bool) (i : Nat) : Prop := ∀ k, k < n → nth ab k = (i : Int) → M k = true
/-- Where a node is made, those below it are. -/
def Closed (n : Nat) (ab : List Int) (M : Nat → Bool) : Prop := ∀ i, M i = true → kidsIn n ab M i
theorem closed_none (n : Nat) (ab : List Int) : Closed n ab (fun _ => false) := fun i h => by cases h
theorem closed_set {n : Nat} {ab : List Int} {M : Nat → Bool} {i : Nat} (h : Closed n ab M) (hk : kidsIn n ab M i) : Closed n ab (setB M i) := by
  intro j hj k hk' e
  unfold setB at hj ⊢
  by_cases e1 : k = i
  · rw [if_pos e1]
  · rw [if_neg e1]
    by_cases e2 : j = i
    · subst e2; exact hk k hk' e
    · rw [if_neg e2] at hj
      exact h j hj k hk' e
theorem seen_need {ab ws : List Int} {M : Nat → Bool} {i : Nat} (hi : i < ab.length) (hM : M i = false) : sumTo (seenV ab ws (setB M i) i) ab.length = needV ab.length ab ws M + nth ws i := by
  have h1 := sumTo_one (nth ws i) i ab.length
  rw [if_pos hi] at h1
  rw [← h1, needV, ← sumTo_add]
  refine sumTo_congr _ fun k hk => ?_
  unfold seenV openB setB
  by_cases e : k = i
  · subst e
    simp [hM]
  · by_cases e2 : nth ab k = (i : Int)
    · have : ¬ nth ab k < 0 := by omega
      simp [e, e2, hM]
    · have e3 : (nth ab k).toNat = i → nth ab k < 0 := fun h => by omega
      by_cases e4 : nth ab k < 0
      · simp [e, e2, e4]
      · have e5 : ¬ (nth ab k).toNat = i := fun h => e4 (e3 h)
        simp [e, e2, e4, e5]
theorem need_next {ab ws : List Int} {M : Nat → Bool} {i : Nat} (hT : TreeOk ab ws) (hC : Closed ab.length ab M) (hi : i < ab.length) (hM : M i = false) (hk : kidsIn ab.length ab M i) : needV ab.length ab ws (setB M i) = needV ab.length ab ws M + nth ws i - wsum ws (kids ab i) := by
  have h1 := sumTo_one (nth ws i) i ab.length
  rw [if_pos hi] at h1
  rw [← h1, kids, wsum_kids, needV, needV, ← sumTo_add, ← sumTo_sub]
  refine sumTo_congr _ fun k hkn => ?_
  unfold openB setB
  by_cases e : k = i
  · subst e
    have hup : nth ab k < 0 ∨ (0 ≤ nth ab k ∧ (nth ab k).toNat ≠ k ∧ M (nth ab k).toNat = false) := by
      by_cases hl : k + 1 = ab.length
      · exact .inl (by rw [hT.root k hl]; omega)
      · have := hT.up k (by omega)
        refine .inr ⟨by omega, by omega, ?_⟩
        cases hh : M (nth ab k).toNat with
        | false => rfl
        | true => rw [hC _ hh k hkn (by omega)] at hM; cases hM
    rcases hup with h2 | ⟨h2, h3, h4⟩
    · have : ¬ nth ab k = (k : Int) := by omega
      simp [hM, h2, this]
    · have : ¬ nth ab k = (k : Int) := by omega
      simp [hM, h3, h4, this]
  · by_cases e2 : nth ab k = (i : Int)
    · have h2 : ¬ nth ab k < 0 := by omega
      have h3 := hk k hkn e2
      have h4 : (nth ab k).toNat = i := by omega
      simp [e, e2, hM, h3]
      omega
    · by_cases e4 : nth ab k < 0
      · simp [e, e2, e4]
      · have e5 : ¬ (nth ab k).toNat = i := by omega
        simp [e, e2, e4, e5]
theorem need_bound {ab ws : List Int} (hT : TreeOk ab ws) (M : Nat → Bool) : 0 ≤ needV ab.length ab ws M ∧ needV ab.length ab ws M ≤ 4294967296 := by
  have h := sumTo_bound (f := fun k => if (M k && openB ab M k) = true then nth ws k else 0) ab.length fun k hk => by
    have := hT.wd k hk
    split <;> omega
  have := hT.few
  unfold needV
  omega
theorem wsum_bound {ab ws : List Int} (hT : TreeOk ab ws) : ∀ (l : List Nat), (∀ k ∈ l, k < ab.length) → 0 ≤ wsum ws l ∧ wsum ws l ≤ (l.length : Int) * 1048576
  | [], _ => by simp [wsum]
  | k :: l, h => by
    have h1 := wsum_bound hT l fun j hj => h j (by simp [hj])
    have h2 := hT.wd k (h k (by simp))
    have e : wsum ws (k :: l) = nth ws k + wsum ws l := by simp [wsum]
    rw [e]
    have : ((k :: l).length : Int) * 1048576 = (l.length : Int) * 1048576 + 1048576 := by simp only [List.length_cons]; omega
    omega
/-- May a node not be made now? -/
def stepBad (ab : List Int) (M : Nat → Bool) (i : Int) : Bool := decide (i < 0) || decide ((ab.length : Int) ≤ i) || M i.toNat || (kids ab i.toNat).any fun b => !M b
/-- The most that is needed; none if it is no order. -/
def pk (ab ws : List Int) : (Nat → Bool) → Int → List Int → Option Int
  | _, most, [] => some most
  | M, most, i :: r => if stepBad ab M i = true then none else pk ab ws (setB M i.toNat) (max most (needV ab.length ab ws M + nth ws i.toNat)) r
def peakX (ab : List Int) (o : Option Int) (len : Nat) : Int × Int := match o with
  | none => (0, 10)
  | some x => if len = ab.length then (x, 0) else (0, 10)
def peakV (ab ws ord : List Int) : Int × Int := peakX ab (pk ab ws (fun _ => false) 0 ord) ord.length
theorem step_ok {ab : List Int} {M : Nat → Bool} {i : Int} (h : stepBad ab M i = false) : 0 ≤ i ∧ i < (ab.length : Int) ∧ M i.toNat = false ∧ kidsIn ab.length ab M i.toNat := by
  unfold stepBad at h
  simp only [Bool.or_eq_false_iff, decide_eq_false_iff_not, List.any_eq_false, Bool.not_eq_true'] at h
  obtain ⟨⟨⟨h1, h2⟩, h3⟩, h4⟩ := h
  refine ⟨by omega, by omega, h3, fun k hk e => ?_⟩
  have := h4 k (by simp [kids, kidsTo, hk, e])
  simpa using this
end Go.Proofs.Ytnncalhpbfmgoaa.V
