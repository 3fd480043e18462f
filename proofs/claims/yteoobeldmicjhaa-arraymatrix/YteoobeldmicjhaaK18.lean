/-
  Lists that are answered; append of a list; contracts: adjointref2.has, once, chosen, Free, both; array.count, these, fresh.
-/
import Derived.Test.YteoobeldmicjhaaK8
import Derived.Test.YteoobeldmicjhaaK9
import Derived.Test.YteoobeldmicjhaaK17
import Derived.Laws.AppendOwnNone
namespace Go.Proofs.Yteoobeldmicjhaa.V
open Go.RowKit

/-- A list that is answered, in memory of the call's own. -/
def NewAt (w w' : World) (v : Value) (xs : List Int) : Prop := ∃ X n c, v = .slice X n c ∧ Lst w' X n c xs ∧ Far w.heap.size X
theorem newAt_nil (w w' : World) : NewAt w w' (.slice none 0 0) [] := ⟨none, 0, 0, rfl, ⟨⟨rfl, by omega, by simp, .inl rfl⟩, Nat.le_refl _, fun _ => rfl⟩, fun _ _ h => by cases h⟩

theorem newAt_own {w w' : World} {v : Value} {n : Nat} {xs : List Int} (h : w'.ownsRow w.heap.size 3 1 v n (xs.map (Value.int .i64))) (hl : xs.length = n) (hm : n ≤ 9223372036854775807) (hb : ∀ x ∈ xs, -9223372036854775808 ≤ x ∧ x ≤ 9223372036854775807) : NewAt w w' v xs := by
  rcases h.2 with ⟨rfl, h2⟩ | ⟨g, cap, cur, rfl, h3, _, h4, _⟩
  · have : xs = [] := by rw [← List.length_eq_zero_iff]; omega
    rw [this]; exact newAt_nil w w'
  · exact ⟨_, _, _, rfl, ⟨ints_of_own h hl hm hb, h4, fun e => by cases e⟩, fun b o e => by cases e; exact h3⟩

/-- It answers a list of its own. -/
def GivesL (w : World) (e : Ending) (w' : World) (xs : List Int) : Prop := ∃ v, e = .returned v ∧ NewAt w w' v xs

theorem bd_append {xs ys : List Int} (h1 : ∀ x ∈ xs, -9223372036854775808 ≤ x ∧ x ≤ 9223372036854775807) (h2 : ∀ x ∈ ys, -9223372036854775808 ≤ x ∧ x ≤ 9223372036854775807) : ∀ x ∈ xs ++ ys, -9223372036854775808 ≤ x ∧ x ≤ 9223372036854775807 := by
  intro x hx
  rcases List.mem_append.1 hx with h | h
  · exact h1 x h
  · exact h2 x h

/-- Those below n that a list does not name. -/
def freeL (xs : List Int) : Nat → List Int
  | 0 => []
  | k + 1 => freeL xs k ++ (if inB xs k = true then [] else [(k : Int)])
theorem freeL_bd (xs : List Int) : ∀ n, ∀ x ∈ freeL xs n, 0 ≤ x ∧ x < n
  | 0, x, hx => by cases hx
  | n + 1, x, hx => by
    rw [freeL] at hx
    rcases List.mem_append.1 hx with h | h
    · have := freeL_bd xs n x h; omega
    · split at h
      · cases h
      · have : x = n := by simpa using h
        omega
theorem freeL_len (xs : List Int) : ∀ n, (freeL xs n).length ≤ n
  | 0 => Nat.le_refl _
  | n + 1 => by
    have := freeL_len xs n
    rw [freeL, List.length_append]
    split <;> simp <;> omega

/-- Numbers from 0 on below n, none twice. -/
def Once (xs : List Int) (n : Nat) : Prop := goodPre xs n xs.length

end Go.Proofs.Yteoobeldmicjhaa.V
