/-
  What is read ends at most where the tokens end.
-/
import Derived.Test.YtadhlnlcdljamaaGreatDoorTxProg
import Derived.Test.YtadhlnlcdljamaaGreatDoorTxTake
namespace Go.Proofs.YtadhlnlcdljamaaGreatDoor.V
set_option maxRecDepth 20000
open Go.RowKit

variable {X : Tks}
theorem mustS_le {t : List UInt8} {i j : Nat} {u : Unit} (ht : t ≠ []) (h : mustS X t i = .ok u j) : j ≤ X.ts.length := by
  unfold mustS at h
  split at h
  · rename_i hb
    have := Tks.lt_of hb ht
    cases h; omega
  · cases h
theorem nameS_le {i j : Nat} {u : ByteArray} (h : nameS X i = .ok u j) : j ≤ X.ts.length := by
  unfold nameS at h
  split at h
  · rename_i hb
    have := isNameB_lt hb
    cases h; omega
  · cases h
theorem numS_le {i j : Nat} {u : Int} (h : numS X i = .ok u j) : j ≤ X.ts.length := by
  unfold numS at h
  split at h
  · rename_i hb
    have := isNumB_lt hb
    cases h; omega
  · cases h
theorem shapeL_end : ∀ (f i : Nat) (ds : List (ByteArray × Int)) {j : Nat} {u : List (ByteArray × Int)}, shapeL X f i ds = .ok u j → j ≤ X.ts.length
  | 0, _, _, _, _, h => by cases h
  | f + 1, i, ds, j, u, h => by
    rw [shapeL] at h
    split at h
    · rename_i hb
      have := Tks.lt_of hb (by simp)
      cases h; omega
    · split at h
      · exact shapeL_end f _ _ h
      · split at h
        · exact shapeL_end f _ _ h
        · cases h
theorem shapeS_le {i j : Nat} {u : List (ByteArray × Int)} (h : shapeS X i = .ok u j) : j ≤ X.ts.length := by
  obtain ⟨_, k, h1, h2⟩ := Res.bind_eq h
  exact shapeL_end _ _ _ h2
theorem listL_end : ∀ (f i : Nat) (ds : List Int) {j : Nat} {u : List Int}, listL X f i ds = .ok u j → j ≤ X.ts.length
  | 0, _, _, _, _, h => by cases h
  | f + 1, i, ds, j, u, h => by
    rw [listL] at h
    split at h
    · rename_i hb
      have := Tks.lt_of hb (by simp)
      cases h; omega
    · split at h
      · exact listL_end f _ _ h
      · cases h
theorem listS_le {i j : Nat} {u : List Int} (h : listS X i = .ok u j) : j ≤ X.ts.length := by
  obtain ⟨_, k, h1, h2⟩ := Res.bind_eq h
  exact listL_end _ _ _ h2
theorem listsL_end : ∀ (f i : Nat) (ls : List (List Int)) {j : Nat} {u : List (List Int)}, i ≤ X.ts.length → listsL X f i ls = .ok u j → j ≤ X.ts.length
  | 0, _, _, _, _, _, h => by cases h
  | f + 1, i, ls, j, u, hi, h => by
    rw [listsL] at h
    split at h
    · obtain ⟨_, k, h1, h2⟩ := Res.bind_eq h
      exact listsL_end f _ _ (listS_le h1) h2
    · cases h; exact hi
section
variable {α : Type} {E : Nat → Res α}
theorem argsL_end : ∀ (f i : Nat) (us : List α) {j : Nat} {u : List α}, argsL X E f i us = .ok u j → j ≤ X.ts.length
  | 0, _, _, _, _, h => by cases h
  | f + 1, i, us, j, u, h => by
    rw [argsL] at h
    split at h
    · obtain ⟨_, k, h1, h2⟩ := Res.bind_eq h
      exact argsL_end f _ _ h2
    · split at h
      · rename_i hb
        have := Tks.lt_of hb (by simp)
        cases h; omega
      · cases h
theorem brackS_le {i j : Nat} {u : List α} (h : brackS X E i = .ok u j) : j ≤ X.ts.length := by
  obtain ⟨_, k, h1, h2⟩ := Res.bind_eq h
  split at h2
  · rename_i hb
    have := Tks.lt_of hb (by simp)
    cases h2; omega
  · obtain ⟨_, k2, h3, h4⟩ := Res.bind_eq h2
    exact argsL_end _ _ _ h4
end
theorem chainL_end {P : Nat → Res Tr} {sg : ByteArray → Bool} (hP : ∀ j a j', P j = .ok a j' → j' ≤ X.ts.length) : ∀ (f i : Nat) (t : Tr) {j : Nat} {u : Tr}, i ≤ X.ts.length → chainL X P sg f i t = .ok u j → j ≤ X.ts.length
  | 0, i, t, j, u, hi, h => by
    rw [chainL] at h
    split at h
    · cases h
    · cases h; exact hi
  | f + 1, i, t, j, u, hi, h => by
    rw [chainL] at h
    split at h
    · obtain ⟨_, k, h1, h2⟩ := Res.bind_eq h
      exact chainL_end hP f _ _ (hP _ _ _ h1) h2
    · cases h; exact hi
theorem chainS_le {P : Nat → Res Tr} {sg : ByteArray → Bool} (hP : ∀ j a j', P j = .ok a j' → j' ≤ X.ts.length) {i j : Nat} {u : Tr} (h : chainS X P sg i = .ok u j) : j ≤ X.ts.length := by
  obtain ⟨_, k, h1, h2⟩ := Res.bind_eq h
  exact chainL_end hP _ _ _ (hP _ _ _ h1) h2
theorem callS_le {E : Nat → Res Tr} {nm : ByteArray} {i j : Nat} {u : Tr} (h : callS X E nm i = .ok u j) : j ≤ X.ts.length := by
  obtain ⟨_, k, h1, h2⟩ := Res.bind_eq h
  obtain ⟨_, k2, h3, h4⟩ := Res.bind_eq h2
  obtain ⟨_, k3, h5, h6⟩ := Res.bind_eq h4
  have := brackS_le h5
  cases h6; omega
section
variable {E : Nat → Res Tr} (hE : ∀ j a j', E j = .ok a j' → j' ≤ X.ts.length)
theorem factorS_le {i j : Nat} {u : Tr} (h : factorS X E i = .ok u j) : j ≤ X.ts.length := by
  unfold factorS at h
  split at h
  · obtain ⟨_, k, h1, h2⟩ := Res.bind_eq h
    obtain ⟨_, k2, h3, h4⟩ := Res.bind_eq h2
    have := mustS_le (by simp) h3
    cases h4; omega
  · split at h
    · rename_i hn
      have := isNumB_lt hn
      cases h; omega
    · obtain ⟨_, k, h1, h2⟩ := Res.bind_eq h
      have := nameS_le h1
      split at h2
      · exact callS_le h2
      · cases h2; omega
include hE
theorem boundS_le {kind num : Int} {word : List UInt8} {i j : Nat} {u : Tr} (h : boundS X E kind num word i = .ok u j) : j ≤ X.ts.length := by
  obtain ⟨_, k1, h1, h2⟩ := Res.bind_eq h
  obtain ⟨_, k2, h3, h4⟩ := Res.bind_eq h2
  obtain ⟨_, k3, h5, h6⟩ := Res.bind_eq h4
  obtain ⟨_, k4, h7, h8⟩ := Res.bind_eq h6
  obtain ⟨_, k5, h9, h10⟩ := Res.bind_eq h8
  have := hE _ _ _ h9
  cases h10; omega
end
theorem exprS_le : ∀ (d i : Nat) {j : Nat} {u : Tr}, exprS X d i = .ok u j → j ≤ X.ts.length
  | 0, _, _, _, h => by cases h
  | d + 1, i, j, u, h => by
    have hE : ∀ j a j', exprS X d j = .ok a j' → j' ≤ X.ts.length := fun j a j' h => exprS_le d j h
    rw [exprS] at h
    split at h
    · exact boundS_le hE h
    · split at h
      · obtain ⟨_, k, h1, h2⟩ := Res.bind_eq h
        exact boundS_le hE h2
      · exact chainS_le (fun j a j' h => chainS_le (fun j a j' h => factorS_le h) h) h
theorem givenS_le {i j : Nat} {u : ByteArray × List (ByteArray × Int)} (h : givenS X i = .ok u j) : j ≤ X.ts.length := by
  obtain ⟨_, k1, h1, h2⟩ := Res.bind_eq h
  obtain ⟨_, k2, h3, h4⟩ := Res.bind_eq h2
  obtain ⟨_, k3, h5, h6⟩ := Res.bind_eq h4
  have := shapeS_le h5
  cases h6; omega
theorem funcS_le {i j : Nat} {u : FnT} (h : funcS X i = .ok u j) : j ≤ X.ts.length := by
  obtain ⟨_, k1, h1, h2⟩ := Res.bind_eq h
  obtain ⟨_, k2, h3, h4⟩ := Res.bind_eq h2
  obtain ⟨_, k3, h5, h6⟩ := Res.bind_eq h4
  obtain ⟨_, k4, h7, h8⟩ := Res.bind_eq h6
  obtain ⟨_, k5, h9, h10⟩ := Res.bind_eq h8
  obtain ⟨_, k6, h11, h12⟩ := Res.bind_eq h10
  have := mustS_le (by simp) h11
  cases h12; omega
end Go.Proofs.YtadhlnlcdljamaaGreatDoor.V
