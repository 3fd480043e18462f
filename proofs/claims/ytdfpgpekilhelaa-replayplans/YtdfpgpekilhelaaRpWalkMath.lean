/-
  What is told on the way back plays to its end at the least cost: the mathematics.
-/
import Derived.Test.YtdfpgpekilhelaaRpPlayMath
import Derived.Test.YtdfpgpekilhelaaRpLeaf
namespace Go.Proofs.Ytdfpgpekilhelaa.V
set_option linter.unusedVariables false

/-- Moves back through m steps with the slots below free: they can be played from wherever that stands. -/
def Walks (m free : Nat) (us : List (Int × Int)) : Prop :=
  (m = 0 → us = []) ∧ (1 ≤ m → us.length + 1 ≤ T free m + 4 * m ∧ ∀ (N : Nat) (s : St) (rest : List (Int × Int)), free ≤ s.kept.length → s.left = s.now + m → s.left ≤ N →
    ∃ s' : St, playL N s (us ++ rest) = playL N s' rest ∧ s'.left = s.now ∧ s'.cost = s.cost + T free m ∧ s'.kept.length = s.kept.length ∧ ∀ j, free ≤ j → s'.kept[j]? = s.kept[j]?)
/-- The same on the way: k of the m steps are still to be gone back through. -/
def Part (m free k : Nat) (us : List (Int × Int)) : Prop :=
  (us.length + T free k + 4 * k ≤ T free m + 4 * m + 1 ∧ k ≤ m) ∧ ∀ (N : Nat) (s : St) (rest : List (Int × Int)), free ≤ s.kept.length → s.left = s.now + m → s.left ≤ N →
    ∃ s' : St, playL N s (us ++ rest) = playL N s' rest ∧ s'.now = s.now ∧ s'.left = s.now + k ∧ s'.cost + T free k = s.cost + T free m ∧ s'.kept.length = s.kept.length ∧ (∀ j, free ≤ j → s'.kept[j]? = s.kept[j]?) ∧ s'.kept[free - 1]? = some (some s.now)

theorem walks_zero (free : Nat) : Walks 0 free [] := ⟨fun _ => rfl, fun h => by omega⟩
theorem play_back {N : Nat} {s : St} {rest : List (Int × Int)} (h : s.now + 1 = s.left) : playL N s ((4, 0) :: rest) = playL N { s with left := s.left - 1 } rest := by
  rw [playL, if_pos (by simp [stepE, h])]; rfl
theorem walks_one (free : Nat) : Walks 1 free [(4, 0)] := by
  refine ⟨fun h => by omega, fun _ => ⟨by simp, fun N s rest h1 h2 h3 => ⟨{ s with left := s.left - 1 }, ?_, ?_, ?_, rfl, fun _ _ => rfl⟩⟩⟩
  · exact play_back (by omega)
  · show s.left - 1 = s.now; omega
  · show s.cost = s.cost + T free 1; rw [T_zero (.inr (by omega)), Nat.add_zero]
theorem play_ahead {N : Nat} : ∀ (k : Nat) (s : St) (rest : List (Int × Int)), s.now + k ≤ N → playL N s (List.replicate k (1, 0) ++ rest) = playL N { s with now := s.now + k, cost := s.cost + k } rest
  | 0, s, rest, _ => by simp
  | k + 1, s, rest, h => by
    have he : stepE N s 1 0 = 0 := by
      have : ¬ s.now = N := by omega
      simp [stepE, this]
    rw [List.replicate_succ, List.cons_append, playL, if_pos (show stepE N s ((1 : Int), (0 : Int)).1 ((1 : Int), (0 : Int)).2 = 0 from he)]
    have := play_ahead (N := N) k (stepS s 1 0) rest (by simp [stepS]; omega)
    rw [this]
    simp only [stepS, if_true]
    congr 2 <;> omega
theorem part_begun {m free : Nat} (hf : 1 ≤ free) : Part m free m [(2, ((free - 1 : Nat) : Int))] := by
  refine ⟨⟨by simp; omega, Nat.le_refl _⟩, fun N s rest h1 h2 h3 => ?_⟩
  have hin : inS ((free - 1 : Nat) : Int) s.kept.length = true := by simp [inS]; omega
  refine ⟨{ s with kept := s.kept.set (free - 1) (some s.now) }, ?_, rfl, h2, rfl, by simp, fun j hj => ?_, ?_⟩
  · rw [List.cons_append, List.nil_append, playL, if_pos (by simp only [stepE, hin]; simp)]
    simp only [stepS, Int.toNat_natCast]
    rfl
  · exact List.getElem?_set_ne (by omega)
  · exact List.getElem?_set_self (by omega)
theorem part_step {m free k q : Nat} {us vs : List (Int × Int)} (hf : 1 ≤ free) (hk : 2 ≤ k) (h : Part m free k us) (hg : Good free k q) (hw : Walks (k - q) (free - 1) vs) :
    Part m free q (us ++ (List.replicate q (1, 0) ++ (vs ++ [(3, ((free - 1 : Nat) : Int))]))) := by
  obtain ⟨g1, g2, g3, g4⟩ := hg
  obtain ⟨w1, w2⟩ := hw.2 (by omega)
  refine ⟨?_, fun N s rest h1 h2 h3 => ?_⟩
  · have := h.1
    simp only [List.length_append, List.length_replicate, List.length_singleton]
    exact ⟨by omega, by omega⟩
  · have hkm := h.1.2
    obtain ⟨s1, a1, a2, a3, a4, a5, a6, a7⟩ := h.2 N s (List.replicate q (1, 0) ++ (vs ++ ((3, ((free - 1 : Nat) : Int)) :: rest))) h1 h2 h3
    obtain ⟨s2, b1, b2, b3, b4, b5⟩ := w2 N { s1 with now := s1.now + q, cost := s1.cost + q } ((3, ((free - 1 : Nat) : Int)) :: rest) (by simp only; omega) (by simp only; omega) (by simp only; omega)
    simp only at b2 b3 b4 b5
    have hin : inS ((free - 1 : Nat) : Int) s2.kept.length = true := by simp [inS]; omega
    have hsl : s2.slot ((free - 1 : Nat) : Int) = some s.now := by
      unfold St.slot
      rw [Int.toNat_natCast, b5 (free - 1) (Nat.le_refl _), a7]
      rfl
    refine ⟨{ s2 with now := s.now }, ?_, rfl, ?_, ?_, ?_, ?_, ?_⟩
    · have e0 : us ++ (List.replicate q (1, 0) ++ (vs ++ [(3, ((free - 1 : Nat) : Int))])) ++ rest = us ++ (List.replicate q (1, 0) ++ (vs ++ ((3, ((free - 1 : Nat) : Int)) :: rest))) := by simp
      rw [e0, a1, play_ahead q s1 _ (by omega), b1, playL, if_pos (by simp only [stepE, hin, hsl]; simp)]
      simp only [stepS, hsl]
      rfl
    · show s2.left = s.now + q; omega
    · show s2.cost + T free q = s.cost + T free m; omega
    · show s2.kept.length = s.kept.length; omega
    · intro j hj
      show s2.kept[j]? = s.kept[j]?
      rw [b5 j (by omega), a6 j hj]
    · show s2.kept[free - 1]? = some (some s.now)
      rw [b5 (free - 1) (Nat.le_refl _), a7]
theorem part_end {m free : Nat} {us : List (Int × Int)} (hm : 1 ≤ m) (h : Part m free 1 us) : Walks m free (us ++ [(4, 0)]) := by
  have e1 : T free 1 = 0 := T_zero (.inr (by omega))
  refine ⟨fun e => by omega, fun _ => ⟨?_, fun N s rest h1 h2 h3 => ?_⟩⟩
  · have := h.1
    simp only [List.length_append, List.length_singleton]
    omega
  · obtain ⟨s1, a1, a2, a3, a4, a5, a6, a7⟩ := h.2 N s ((4, 0) :: rest) h1 h2 h3
    refine ⟨{ s1 with left := s1.left - 1 }, ?_, ?_, ?_, a5, a6⟩
    · rw [List.append_assoc, List.cons_append, List.nil_append, a1, play_back (by omega)]
    · show s1.left - 1 = s.now; omega
    · show s1.cost = s.cost + T free m; omega
/-- The plan plays to its end at the least cost. -/
theorem walks_play {n S : Nat} {us : List (Int × Int)} (h : Walks n S us) : playL n (.begun n S) us = (((T S n : Nat) : Int), 0) := by
  by_cases hn : n = 0
  · subst hn
    rw [h.1 rfl, playL, if_pos (show (St.begun 0 S).left = 0 from rfl), T_zero (.inr (by omega))]
    rfl
  · obtain ⟨_, h2⟩ := h.2 (by omega)
    obtain ⟨s', a1, a2, a3, _⟩ := h2 n (.begun n S) [] (by simp [St.begun]) (by simp [St.begun]) (by simp [St.begun])
    rw [List.append_nil] at a1
    rw [a1, playL, if_pos (by rw [a2]; rfl), a3]
    simp [St.begun]
end Go.Proofs.Ytdfpgpekilhelaa.V
