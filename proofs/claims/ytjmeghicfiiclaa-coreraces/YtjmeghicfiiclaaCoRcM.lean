/-
  Races: what is ahead of an instruction; the first pair in each other's way.
-/
import Derived.Test.YtjmeghicfiiclaaCoMath
namespace Go.Proofs.Ytjmeghicfiiclaa.V
set_option linter.unusedVariables false

def getI (l : List In) (k : Nat) : In := l[k]?.getD inD
def postB (x : In) (s : Int) : Bool := decide (x.d = 3) && decide (x.a = s)
def waitB (x : In) (s : Int) : Bool := decide (x.d = 4) && decide (x.a = s)
/-- Of each post to a semaphore, among the first j: how many instructions end with it. -/
def postsTo (l : List In) (s : Int) : Nat → List Int
  | 0 => []
  | j + 1 => postsTo l s j ++ (if postB (getI l j) s = true then [(j : Int) + 1] else [])
def waitsTo (l : List In) (s : Int) : Nat → Nat
  | 0 => 0
  | j + 1 => waitsTo l s j + (if waitB (getI l j) s = true then 1 else 0)
/-- How many of the others a wait waits for. -/
def atV (own others : List In) (k : Nat) : Int := ((postsTo others (getI own k).a others.length)[waitsTo own (getI own k).a k]?).getD (others.length : Int)
/-- How many of the others are ahead, of the first k the last one. -/
def fenTo (own others : List In) : Nat → Int
  | 0 => 0
  | k + 1 => if (getI own k).d = 4 then max (fenTo own others k) (atV own others k) else fenTo own others k
theorem postsTo_bd (l : List In) (s : Int) : ∀ (j : Nat), ∀ x ∈ postsTo l s j, 1 ≤ x ∧ x ≤ (j : Int)
  | 0, x, h => by simp [postsTo] at h
  | j + 1, x, h => by
    simp only [postsTo, List.mem_append] at h
    rcases h with h | h
    · have := postsTo_bd l s j x h
      omega
    · split at h
      · simp at h
        omega
      · simp at h
theorem postsTo_len (l : List In) (s : Int) : ∀ (j : Nat), (postsTo l s j).length ≤ j
  | 0 => by simp [postsTo]
  | j + 1 => by
    have := postsTo_len l s j
    simp only [postsTo, List.length_append]
    split <;> simp <;> omega
theorem atV_bd (own others : List In) (k : Nat) : 0 ≤ atV own others k ∧ atV own others k ≤ (others.length : Int) := by
  unfold atV
  cases h : (postsTo others (getI own k).a others.length)[waitsTo own (getI own k).a k]? with
  | none => simp
  | some v =>
    have := postsTo_bd others (getI own k).a others.length v (List.mem_of_getElem? h)
    simp only [Option.getD_some]
    omega
theorem fenTo_bd (own others : List In) : ∀ k, 0 ≤ fenTo own others k ∧ fenTo own others k ≤ (others.length : Int)
  | 0 => by simp [fenTo]
  | k + 1 => by
    have h1 := fenTo_bd own others k
    have h2 := atV_bd own others k
    unfold fenTo
    split <;> omega
theorem fenTo_step (own others : List In) (k : Nat) : fenTo own others k ≤ fenTo own others (k + 1) := by
  rw [fenTo]
  split <;> omega
theorem fenTo_mono (own others : List In) : ∀ (d k : Nat), fenTo own others k ≤ fenTo own others (k + d)
  | 0, k => Int.le_refl _
  | d + 1, k => Int.le_trans (fenTo_mono own others d k) (fenTo_step own others (k + d))
/-- Is a word in a stretch? -/
def inS (s : Str) (w : Int) : Bool := decide (s.f ≤ w) && decide (w < s.f + s.w)
theorem meet_iff (s t : Str) : meetV s t = true ↔ ∃ w, inS s w = true ∧ inS t w = true := by
  unfold meetV inS
  simp only [Bool.and_eq_true, decide_eq_true_eq]
  constructor
  · rintro ⟨⟨⟨h1, h2⟩, h3⟩, h4⟩
    by_cases h : s.f ≤ t.f
    · exact ⟨t.f, by omega, by omega⟩
    · exact ⟨s.f, by omega, by omega⟩
  · rintro ⟨w, h1, h2⟩
    omega
theorem meet_comm (s t : Str) : meetV s t = meetV t s := by
  rw [Bool.eq_iff_iff, meet_iff, meet_iff]
  exact ⟨fun ⟨w, h1, h2⟩ => ⟨w, h2, h1⟩, fun ⟨w, h1, h2⟩ => ⟨w, h2, h1⟩⟩
theorem meet_z (s : Str) : meetV s zS = false := by simp [meetV, zS]
theorem meet_z2 (s : Str) : meetV zS s = false := by simp [meetV, zS]
def clashI (x y : In) : Bool := spoilV (tchV x) (tchV y) || spoilV (tchV y) (tchV x)
/-- The pair is a race. -/
structure RaceAt (mv mk : List In) (i j : Nat) : Prop where
  hi : i < mv.length
  hj : j < mk.length
  ah : fenTo mv mk (i + 1) ≤ (j : Int)
  bh : fenTo mk mv (j + 1) ≤ (i : Int)
  cl : clashI (getI mv i) (getI mk j) = true
/-- What is told of races. -/
def RaceSp (mv mk : List In) (an : Bool) (i j : Nat) : Prop :=
  (an = true ∧ RaceAt mv mk i j ∧ (∀ i' j', i' < i → ¬ RaceAt mv mk i' j') ∧ ∀ j', j' < j → ¬ RaceAt mv mk i j') ∨ (an = false ∧ i = 0 ∧ j = 0 ∧ ∀ i' j', ¬ RaceAt mv mk i' j')
theorem RaceSp.one {mv mk : List In} {a a' : Bool} {i i' j j' : Nat} (h : RaceSp mv mk a i j) (h' : RaceSp mv mk a' i' j') : a = a' ∧ i = i' ∧ j = j' := by
  rcases h with ⟨rfl, h1, h2, h3⟩ | ⟨rfl, rfl, rfl, h4⟩
  · rcases h' with ⟨rfl, k1, k2, k3⟩ | ⟨rfl, rfl, rfl, k4⟩
    · have e : i = i' := by
        rcases Nat.lt_trichotomy i i' with h | h | h
        · exact absurd h1 (k2 i j h)
        · exact h
        · exact absurd k1 (h2 i' j' h)
      subst e
      refine ⟨rfl, rfl, ?_⟩
      rcases Nat.lt_trichotomy j j' with h | h | h
      · exact absurd h1 (k3 j h)
      · exact h
      · exact absurd k1 (h3 j' h)
    · exact absurd h1 (k4 i j)
  · rcases h' with ⟨rfl, k1, k2, k3⟩ | ⟨rfl, rfl, rfl, k4⟩
    · exact absurd k1 (h4 i' j')
    · exact ⟨rfl, rfl, rfl⟩
/-- The last one that touched a word. -/
def lastT (p : Nat → Bool) : Nat → Nat
  | 0 => 0
  | e + 1 => if p e = true then e + 1 else lastT p e
theorem lastT_gt (p : Nat → Bool) (but : Nat) : ∀ e, but < lastT p e ↔ ∃ k, but ≤ k ∧ k < e ∧ p k = true
  | 0 => by simp [lastT]
  | e + 1 => by
    rw [lastT]
    by_cases h : p e = true
    · rw [if_pos h]
      constructor
      · intro h1
        exact ⟨e, by omega, by omega, h⟩
      · rintro ⟨k, h1, h2, h3⟩
        omega
    · rw [if_neg h, lastT_gt p but e]
      constructor
      · rintro ⟨k, h1, h2, h3⟩
        exact ⟨k, h1, by omega, h3⟩
      · rintro ⟨k, h1, h2, h3⟩
        by_cases hk : k = e
        · subst hk; exact absurd h3 h
        · exact ⟨k, h1, by omega, h3⟩
theorem lastT_le (p : Nat → Bool) : ∀ e, lastT p e ≤ e
  | 0 => Nat.le_refl _
  | e + 1 => by
    have := lastT_le p e
    rw [lastT]
    split <;> omega
def tB (t : Tch) (w : Int) : Bool := inS t.r0 w || inS t.r1 w || inS t.r2 w || inS t.wr w
def touP (mk : List In) (w : Int) (k : Nat) : Bool := tB (tchV (getI mk k)) w
def wriP (mk : List In) (w : Int) (k : Nat) : Bool := inS (tchV (getI mk k)).wr w
/-- An instruction of the mover crosses one of those that came by. -/
def crossP (mk : List In) (x : In) (but e : Nat) : Prop := (∃ w, inS (tchV x).wr w = true ∧ but < lastT (touP mk w) e) ∨ (∃ w, inS (tchV x).r0 w = true ∧ but < lastT (wriP mk w) e)
theorem spoil_iff (t u : Tch) : spoilV t u = true ↔ ∃ w, inS t.wr w = true ∧ tB u w = true := by
  unfold spoilV tB
  simp only [Bool.or_eq_true, meet_iff]
  constructor
  · rintro (((⟨w, h1, h2⟩ | ⟨w, h1, h2⟩) | ⟨w, h1, h2⟩) | ⟨w, h1, h2⟩)
    · exact ⟨w, h1, .inl (.inl (.inl h2))⟩
    · exact ⟨w, h1, .inl (.inl (.inr h2))⟩
    · exact ⟨w, h1, .inl (.inr h2)⟩
    · exact ⟨w, h1, .inr h2⟩
  · rintro ⟨w, h1, ((h2 | h2) | h2) | h2⟩
    · exact .inl (.inl (.inl ⟨w, h1, h2⟩))
    · exact .inl (.inl (.inr ⟨w, h1, h2⟩))
    · exact .inl (.inr ⟨w, h1, h2⟩)
    · exact .inr ⟨w, h1, h2⟩
theorem inS_z (w : Int) : inS zS w = false := by
  unfold inS zS
  rw [Bool.and_eq_false_iff]
  by_cases h : 0 ≤ w
  · exact .inr (decide_eq_false (by simp only; omega))
  · exact .inl (decide_eq_false h)
theorem mover_one {x : In} (h : 1 ≤ x.d ∧ x.d ≤ 4) : (tchV x).r1 = zS ∧ (tchV x).r2 = zS := by
  unfold tchV
  by_cases e3 : x.d = 3 ∨ x.d = 4
  · rw [if_pos e3]; exact ⟨rfl, rfl⟩
  rw [if_neg e3]
  by_cases e1 : x.d = 1 ∨ x.d = 5
  · rw [if_pos e1]; exact ⟨rfl, rfl⟩
  rw [if_neg e1, if_pos (by omega)]
  exact ⟨rfl, rfl⟩
theorem cross_iff {mk : List In} {x : In} (hx : 1 ≤ x.d ∧ x.d ≤ 4) (but e : Nat) : crossP mk x but e ↔ ∃ k, but ≤ k ∧ k < e ∧ clashI x (getI mk k) = true := by
  obtain ⟨z1, z2⟩ := mover_one hx
  unfold crossP clashI
  simp only [lastT_gt, Bool.or_eq_true, spoil_iff]
  constructor
  · rintro (⟨w, h1, k, h2, h3, h4⟩ | ⟨w, h1, k, h2, h3, h4⟩)
    · exact ⟨k, h2, h3, .inl ⟨w, h1, h4⟩⟩
    · exact ⟨k, h2, h3, .inr ⟨w, h4, by simp [tB, h1]⟩⟩
  · rintro ⟨k, h2, h3, ⟨w, h1, h4⟩ | ⟨w, h1, h4⟩⟩
    · exact .inl ⟨w, h1, k, h2, h3, h4⟩
    · simp only [tB, z1, z2, inS_z, Bool.or_false, Bool.or_eq_true] at h4
      rcases h4 with h4 | h4
      · exact .inr ⟨w, h4, k, h2, h3, h1⟩
      · exact .inl ⟨w, h4, k, h2, h3, by simp [touP, tB, h1]⟩
end Go.Proofs.Ytjmeghicfiiclaa.V
