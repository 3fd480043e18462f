/-
  A play, as plain mathematics.
-/
import Derived.Test.YtbdbbnnkagkioaaRpMath
namespace Go.Proofs.Ytbdbbnnkagkioaa.V

/-- What stands in a play: the current state, how many steps are left, what it has cost, what is in the slots. -/
structure St where
  now : Nat
  left : Nat
  cost : Nat
  kept : List (Option Nat)
def encO : Option Nat → Int
  | none => -1
  | some a => (a : Int)
theorem encO_neg (o : Option Nat) : encO o = -1 ↔ o = none := by
  cases o <;> simp [encO]
theorem encO_lt (o : Option Nat) : encO o < 0 ↔ o = none := by
  cases o <;> simp [encO]
def inS (N : Int) (S : Nat) : Bool := decide (0 ≤ N) && decide (N < S)
def St.slot (s : St) (N : Int) : Option Nat := s.kept[N.toNat]?.getD none
/-- What a move meets. -/
def stepE (n : Nat) (s : St) (d N : Int) : Int :=
  if d = 1 then (if s.now = n then 13 else 0)
  else if d = 2 then (if inS N s.kept.length = true then 0 else 4)
  else if d = 3 then (if inS N s.kept.length = true then (if s.slot N = none then 9 else 0) else 4)
  else if d = 4 then (if s.now + 1 = s.left then 0 else 13)
  else 1
/-- What stands behind it. -/
def stepS (s : St) (d N : Int) : St :=
  if d = 1 then { s with now := s.now + 1, cost := s.cost + 1 }
  else if d = 2 then { s with kept := s.kept.set N.toNat (some s.now) }
  else if d = 3 then { s with now := (s.slot N).getD 0 }
  else { s with left := s.left - 1 }
/-- A play from there on: what it costs, what it meets. -/
def playL (n : Nat) : St → List (Int × Int) → Int × Int
  | s, [] => if s.left = 0 then ((s.cost : Int), 0) else (0, 13)
  | s, m :: r => if stepE n s m.1 m.2 = 0 then playL n (stepS s m.1 m.2) r else (0, stepE n s m.1 m.2)
def St.begun (n S : Nat) : St := ⟨0, n, 0, List.replicate S none⟩
/-- Play. -/
def playN (n s : Int) (ms : List (Int × Int)) : Int × Int :=
  if 0 ≤ n ∧ n ≤ 256 ∧ 0 ≤ s ∧ s ≤ 16 then playL n.toNat (.begun n.toNat s.toNat) ms else (0, 4)

/-- What holds on the way. -/
structure St.Ok (n S : Nat) (s : St) : Prop where
  now : s.now ≤ n
  left : s.left ≤ n
  len : s.kept.length = S
  kept : ∀ a, some a ∈ s.kept → a ≤ n
theorem St.Ok.begun (n S : Nat) : (St.begun n S).Ok n S := ⟨Nat.zero_le _, Nat.le_refl _, by simp [St.begun], fun a h => by simp [St.begun] at h⟩
theorem slot_mem {s : St} {N : Int} {a : Nat} (h : s.slot N = some a) : some a ∈ s.kept := by
  unfold St.slot at h
  cases hk : s.kept[N.toNat]? with
  | none => rw [hk] at h; simp at h
  | some o => rw [hk] at h; simp at h; subst h; exact List.mem_of_getElem? hk
theorem St.Ok.step {n S : Nat} {s : St} (h : s.Ok n S) {d N : Int} (he : stepE n s d N = 0) : (stepS s d N).Ok n S := by
  unfold stepE at he
  unfold stepS
  by_cases d1 : d = 1
  · rw [if_pos d1] at he
    rw [if_pos d1]
    have : s.now ≠ n := fun e => by rw [if_pos e] at he; omega
    exact ⟨by have := h.now; simp; omega, h.left, h.len, h.kept⟩
  · rw [if_neg d1] at he
    rw [if_neg d1]
    by_cases d2 : d = 2
    · rw [if_pos d2]
      refine ⟨h.now, h.left, by simpa using h.len, fun a ha => ?_⟩
      simp only at ha
      rcases List.mem_or_eq_of_mem_set ha with h1 | h1
      · exact h.kept a h1
      · cases h1; exact h.now
    · rw [if_neg d2] at he
      rw [if_neg d2]
      by_cases d3 : d = 3
      · rw [if_pos d3] at he
        rw [if_pos d3]
        refine ⟨?_, h.left, h.len, h.kept⟩
        simp only
        cases hs : s.slot N with
        | none => simp
        | some a => simpa using h.kept a (slot_mem hs)
      · rw [if_neg d3]
        exact ⟨h.now, by have := h.left; simp; omega, h.len, h.kept⟩
theorem stepS_cost (s : St) (d N : Int) : (stepS s d N).cost ≤ s.cost + 1 := by
  unfold stepS
  by_cases d1 : d = 1
  · simp [d1]
  · by_cases d2 : d = 2
    · simp [d2]
    · by_cases d3 : d = 3
      · simp [d3]
      · simp [d1, d2, d3]
end Go.Proofs.Ytbdbbnnkagkioaa.V
