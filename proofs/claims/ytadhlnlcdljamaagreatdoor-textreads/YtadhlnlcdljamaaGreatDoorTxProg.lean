/-
  What is read comes on.
-/
import Derived.Test.YtadhlnlcdljamaaGreatDoorTxGram
namespace Go.Proofs.YtadhlnlcdljamaaGreatDoor.V
set_option maxRecDepth 20000
open Go.RowKit

theorem Res.bind_eq {α β : Type} {r : Res α} {f : α → Nat → Res β} {b : β} {k : Nat} (h : r.bind f = .ok b k) : ∃ a i, r = .ok a i ∧ f a i = .ok b k := by
  cases r with
  | bad T n => cases h
  | ok a i => exact ⟨a, i, rfl, h⟩
variable {X : Tks}
theorem mustS_lt {t : List UInt8} {i j : Nat} {u : Unit} (h : mustS X t i = .ok u j) : i < j := by
  unfold mustS at h
  split at h
  · cases h; omega
  · cases h
theorem nameS_lt {i j : Nat} {u : ByteArray} (h : nameS X i = .ok u j) : i < j := by
  unfold nameS at h
  split at h
  · cases h; omega
  · cases h
theorem numS_lt {i j : Nat} {u : Int} (h : numS X i = .ok u j) : i < j := by
  unfold numS at h
  split at h
  · cases h; omega
  · cases h
theorem shapeL_lt : ∀ (f i : Nat) (ds : List (ByteArray × Int)) {j : Nat} {u : List (ByteArray × Int)}, shapeL X f i ds = .ok u j → i < j
  | 0, _, _, _, _, h => by cases h
  | f + 1, i, ds, j, u, h => by
    rw [shapeL] at h
    split at h
    · cases h; omega
    · split at h
      · have := shapeL_lt f _ _ h; omega
      · split at h
        · have := shapeL_lt f _ _ h; omega
        · cases h
theorem shapeS_lt {i j : Nat} {u : List (ByteArray × Int)} (h : shapeS X i = .ok u j) : i < j := by
  obtain ⟨_, k, h1, h2⟩ := Res.bind_eq h
  have := mustS_lt h1
  have := shapeL_lt _ _ _ h2
  omega
theorem listL_lt : ∀ (f i : Nat) (ds : List Int) {j : Nat} {u : List Int}, listL X f i ds = .ok u j → i < j
  | 0, _, _, _, _, h => by cases h
  | f + 1, i, ds, j, u, h => by
    rw [listL] at h
    split at h
    · cases h; omega
    · split at h
      · have := listL_lt f _ _ h; omega
      · cases h
theorem listS_lt {i j : Nat} {u : List Int} (h : listS X i = .ok u j) : i < j := by
  obtain ⟨_, k, h1, h2⟩ := Res.bind_eq h
  have := mustS_lt h1
  have := listL_lt _ _ _ h2
  omega
theorem listsL_le : ∀ (f i : Nat) (ls : List (List Int)) {j : Nat} {u : List (List Int)}, listsL X f i ls = .ok u j → i ≤ j
  | 0, _, _, _, _, h => by cases h
  | f + 1, i, ls, j, u, h => by
    rw [listsL] at h
    split at h
    · obtain ⟨_, k, h1, h2⟩ := Res.bind_eq h
      have := listS_lt h1
      have := listsL_le f _ _ h2
      omega
    · cases h; omega
section
variable {α : Type} {E : Nat → Res α}
theorem argsL_lt (hE : ∀ j a j', E j = .ok a j' → j < j') : ∀ (f i : Nat) (us : List α) {j : Nat} {u : List α}, argsL X E f i us = .ok u j → i < j
  | 0, _, _, _, _, h => by cases h
  | f + 1, i, us, j, u, h => by
    rw [argsL] at h
    split at h
    · obtain ⟨_, k, h1, h2⟩ := Res.bind_eq h
      have := hE _ _ _ h1
      have := argsL_lt hE f _ _ h2
      omega
    · split at h
      · cases h; omega
      · cases h
theorem brackS_lt (hE : ∀ j a j', E j = .ok a j' → j < j') {i j : Nat} {u : List α} (h : brackS X E i = .ok u j) : i < j := by
  obtain ⟨_, k, h1, h2⟩ := Res.bind_eq h
  have := mustS_lt h1
  split at h2
  · cases h2; omega
  · obtain ⟨_, k2, h3, h4⟩ := Res.bind_eq h2
    have := hE _ _ _ h3
    have := argsL_lt hE _ _ _ h4
    omega
end
theorem chainL_le {P : Nat → Res Tr} {sg : ByteArray → Bool} (hP : ∀ j a j', P j = .ok a j' → j < j') : ∀ (f i : Nat) (t : Tr) {j : Nat} {u : Tr}, chainL X P sg f i t = .ok u j → i ≤ j
  | 0, i, t, j, u, h => by
    rw [chainL] at h
    split at h
    · cases h
    · cases h; omega
  | f + 1, i, t, j, u, h => by
    rw [chainL] at h
    split at h
    · obtain ⟨_, k, h1, h2⟩ := Res.bind_eq h
      have := hP _ _ _ h1
      have := chainL_le hP f _ _ h2
      omega
    · cases h; omega
theorem chainS_lt {P : Nat → Res Tr} {sg : ByteArray → Bool} (hP : ∀ j a j', P j = .ok a j' → j < j') {i j : Nat} {u : Tr} (h : chainS X P sg i = .ok u j) : i < j := by
  obtain ⟨_, k, h1, h2⟩ := Res.bind_eq h
  have := hP _ _ _ h1
  have := chainL_le hP _ _ _ h2
  omega
theorem shapedS_le {i j : Nat} {u : Bool × List (ByteArray × Int)} (h : shapedS X i = .ok u j) : i ≤ j := by
  unfold shapedS at h
  split at h
  · obtain ⟨_, k, h1, h2⟩ := Res.bind_eq h
    have := shapeS_lt h1
    cases h2; omega
  · cases h; omega
section
variable {E : Nat → Res Tr} (hE : ∀ j a j', E j = .ok a j' → j < j')
include hE
theorem callS_lt {nm : ByteArray} {i j : Nat} {u : Tr} (h : callS X E nm i = .ok u j) : i < j := by
  obtain ⟨_, k, h1, h2⟩ := Res.bind_eq h
  obtain ⟨_, k2, h3, h4⟩ := Res.bind_eq h2
  obtain ⟨_, k3, h5, h6⟩ := Res.bind_eq h4
  have := shapedS_le h1
  have := listsL_le _ _ _ h3
  have := brackS_lt hE h5
  cases h6; omega
theorem factorS_lt {i j : Nat} {u : Tr} (h : factorS X E i = .ok u j) : i < j := by
  unfold factorS at h
  split at h
  · obtain ⟨_, k, h1, h2⟩ := Res.bind_eq h
    obtain ⟨_, k2, h3, h4⟩ := Res.bind_eq h2
    have := hE _ _ _ h1
    have := mustS_lt h3
    cases h4; omega
  · split at h
    · cases h; omega
    · obtain ⟨_, k, h1, h2⟩ := Res.bind_eq h
      have := nameS_lt h1
      split at h2
      · have := callS_lt hE h2; omega
      · cases h2; omega
theorem boundS_lt {kind num : Int} {word : List UInt8} {i j : Nat} {u : Tr} (h : boundS X E kind num word i = .ok u j) : i < j := by
  obtain ⟨_, k1, h1, h2⟩ := Res.bind_eq h
  obtain ⟨_, k2, h3, h4⟩ := Res.bind_eq h2
  obtain ⟨_, k3, h5, h6⟩ := Res.bind_eq h4
  obtain ⟨_, k4, h7, h8⟩ := Res.bind_eq h6
  obtain ⟨_, k5, h9, h10⟩ := Res.bind_eq h8
  have := nameS_lt h1
  have := mustS_lt h3
  have := hE _ _ _ h5
  have := mustS_lt h7
  have := hE _ _ _ h9
  cases h10; omega
end
theorem exprS_lt : ∀ (d i : Nat) {j : Nat} {u : Tr}, exprS X d i = .ok u j → i < j
  | 0, _, _, _, h => by cases h
  | d + 1, i, j, u, h => by
    have hE : ∀ j a j', exprS X d j = .ok a j' → j < j' := fun j a j' h => exprS_lt d j h
    rw [exprS] at h
    split at h
    · have := boundS_lt hE h; omega
    · split at h
      · obtain ⟨_, k, h1, h2⟩ := Res.bind_eq h
        have := numS_lt h1
        have := boundS_lt hE h2
        omega
      · exact chainS_lt (fun j a j' h => chainS_lt (fun j a j' h => factorS_lt hE h) h) h
theorem givenS_lt {i j : Nat} {u : ByteArray × List (ByteArray × Int)} (h : givenS X i = .ok u j) : i < j := by
  obtain ⟨_, k1, h1, h2⟩ := Res.bind_eq h
  obtain ⟨_, k2, h3, h4⟩ := Res.bind_eq h2
  obtain ⟨_, k3, h5, h6⟩ := Res.bind_eq h4
  have := nameS_lt h1
  have := mustS_lt h3
  have := shapeS_lt h5
  cases h6; omega
theorem funcS_lt {i j : Nat} {u : FnT} (h : funcS X i = .ok u j) : i < j := by
  obtain ⟨_, k1, h1, h2⟩ := Res.bind_eq h
  obtain ⟨_, k2, h3, h4⟩ := Res.bind_eq h2
  obtain ⟨_, k3, h5, h6⟩ := Res.bind_eq h4
  obtain ⟨_, k4, h7, h8⟩ := Res.bind_eq h6
  obtain ⟨_, k5, h9, h10⟩ := Res.bind_eq h8
  obtain ⟨_, k6, h11, h12⟩ := Res.bind_eq h10
  have := mustS_lt h1
  have := nameS_lt h3
  have := brackS_lt (fun _ _ _ h => givenS_lt h) h5
  have := mustS_lt h7
  have := exprS_lt _ _ h9
  have := mustS_lt h11
  cases h12; omega
end Go.Proofs.YtadhlnlcdljamaaGreatDoor.V
