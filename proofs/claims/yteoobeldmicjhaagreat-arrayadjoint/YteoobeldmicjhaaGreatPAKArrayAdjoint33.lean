/-
  Contract: adjointref2.ruled, by kind. Contracts: array.Dims, adjointref2.Dims. Contract: array.Do, whatever it is asked, over what 'work' does.
-/
import Derived.Test.YteoobeldmicjhaaGreatPAKArrayAdjoint32
import Derived.Test.YteoobeldmicjhaaGreatPAKArrayAdjoint23
import Derived.Test.YteoobeldmicjhaaGreatPAKArrayAdjoint26
import Derived.Test.YteoobeldmicjhaaGreatPAKArrayAdjoint27
import Derived.Test.YteoobeldmicjhaaGreatPAKArrayAdjoint25
import Derived.Test.YteoobeldmicjhaaGreatPAKArrayAdjoint30
namespace Go.Proofs.YteoobeldmicjhaaGreat.V
set_option maxRecDepth 20000
open Go.RowKit

end Go.Proofs.YteoobeldmicjhaaGreat.V
namespace Go.Proofs.YteoobeldmicjhaaGreat.V
set_option maxRecDepth 20000
open Go.RowKit

/-- What the table says of an operation on dimensions. -/
def shapeP (k : Int) (es ps lo hi st : List Int) (xss : List (List Int)) : List Int × Int := if k = 2 then (es, 0) else if k = 9 then (okL (sprE 0 (xss[0]?.getD []) (stepsV (xss[0]?.getD [])) es ps) es, sprE 0 (xss[0]?.getD []) (stepsV (xss[0]?.getD [])) es ps) else if k = 10 then sumP (xss[0]?.getD []) ps else if k = 11 then (okL (turnE 0 (xss[0]?.getD []) (stepsV (xss[0]?.getD [])) ps) (taken (xss[0]?.getD []) ps), turnE 0 (xss[0]?.getD []) (stepsV (xss[0]?.getD [])) ps) else if k = 12 then reformP (xss[0]?.getD []) es else if k = 13 then (okL (cutE 0 (xss[0]?.getD []) (stepsV (xss[0]?.getD [])) lo hi st) (cutD (xss[0]?.getD []) lo hi st), cutE 0 (xss[0]?.getD []) (stepsV (xss[0]?.getD [])) lo hi st) else if k = 14 then padP (xss[0]?.getD []) lo hi st else if k = 15 then (okL (flipE 0 (xss[0]?.getD []) (stepsV (xss[0]?.getD [])) ps) (xss[0]?.getD []), flipE 0 (xss[0]?.getD []) (stepsV (xss[0]?.getD [])) ps) else if k = 16 then dotP ps st lo hi (xss[0]?.getD []) (xss[1]?.getD []) else if k = 17 then joinP ps xss else if k = 18 then takeP (xss[0]?.getD []) (xss[1]?.getD []) else if k = 19 then putP es (xss[0]?.getD []) (xss[1]?.getD []) else sameP xss
/-- What is wrong with the first list with which something is. -/
def sizesE : List (List Int) → Int
  | [] => 0
  | d :: r => if sizeE d = 0 then sizesE r else sizeE d
theorem sizesE_ok : ∀ xss : List (List Int), sizesE xss = 0 → ∀ d ∈ xss, sizeE d = 0
  | [], _, d, hd => by cases hd
  | x :: r, h, d, hd => by
    rw [sizesE] at h
    by_cases c : sizeE x = 0
    · rw [if_pos c] at h
      rcases List.mem_cons.1 hd with e | e
      · rw [e]; exact c
      · exact sizesE_ok r h d e
    · rw [if_neg c] at h; exact absurd h c
theorem sizesE_at : ∀ (xss : List (List Int)) (j : Nat), (∀ t, t < j → sizeE (xss[t]?.getD []) = 0) → j < xss.length → sizeE (xss[j]?.getD []) ≠ 0 → sizesE xss = sizeE (xss[j]?.getD [])
  | [], j, _, h, _ => by simp at h
  | x :: r, 0, _, _, hne => by
    have e : ((x :: r)[0]?.getD []) = x := by simp
    rw [e] at hne ⊢
    rw [sizesE, if_neg hne]
  | x :: r, j + 1, h0, hj, hne => by
    have c := h0 0 (by omega)
    have e : ((x :: r)[0]?.getD []) = x := by simp
    rw [e] at c
    have e2 : ((x :: r)[j + 1]?.getD []) = r[j]?.getD [] := by simp
    rw [e2] at hne ⊢
    rw [sizesE, if_pos c]
    refine sizesE_at r j (fun t ht => ?_) (by simpa using hj) hne
    have := h0 (t + 1) (by omega)
    simpa using this
theorem sizesE_all : ∀ (xss : List (List Int)), (∀ t, t < xss.length → sizeE (xss[t]?.getD []) = 0) → sizesE xss = 0
  | [], _ => rfl
  | x :: r, h => by
    have c := h 0 (by simp)
    have e : ((x :: r)[0]?.getD []) = x := by simp
    rw [e] at c
    rw [sizesE, if_pos c]
    refine sizesE_all r (fun t ht => ?_)
    have := h (t + 1) (by simpa using ht)
    simpa using this
/-- What Dims answers. -/
def dimsP (k : Int) (es ps lo hi st : List Int) (xss : List (List Int)) : List Int × Int :=
  if takesE k xss.length ≠ 0 then ([], takesE k xss.length)
  else if sizesE xss ≠ 0 then ([], sizesE xss)
  else if (shapeP k es ps lo hi st xss).2 ≠ 0 then ([], (shapeP k es ps lo hi st xss).2)
  else if sizeE (shapeP k es ps lo hi st xss).1 ≠ 0 then ([], sizeE (shapeP k es ps lo hi st xss).1)
  else ((shapeP k es ps lo hi st xss).1, 0)
theorem takes_ok {k : Int} {n : Nat} (h : takesE k n = 0) : (k = 2 ∧ n = 0) ∨ (9 ≤ k ∧ k ≤ 15 ∧ n = 1) ∨ ((k = 16 ∨ k = 18 ∨ k = 19) ∧ n = 2) ∨ (3 ≤ k ∧ k ≤ 8 ∧ 1 ≤ n) ∨ (k = 17 ∧ 1 ≤ n) := by
  unfold takesE at h
  by_cases c1 : k = 2
  · rw [if_pos c1] at h
    by_cases d : n = 0
    · exact .inl ⟨c1, d⟩
    · rw [if_neg d] at h; omega
  rw [if_neg c1] at h
  by_cases c2 : 9 ≤ k ∧ k ≤ 15
  · rw [if_pos c2] at h
    by_cases d : n = 1
    · exact .inr (.inl ⟨c2.1, c2.2, d⟩)
    · rw [if_neg d] at h; omega
  rw [if_neg c2] at h
  by_cases c3 : (3 ≤ k ∧ k ≤ 7) ∨ k = 16 ∨ k = 18 ∨ k = 19
  · rw [if_pos c3] at h
    by_cases d : n = 2
    · omega
    · rw [if_neg d] at h; omega
  rw [if_neg c3] at h
  by_cases c4 : k = 8
  · rw [if_pos c4] at h
    by_cases d : n = 3
    · omega
    · rw [if_neg d] at h; omega
  rw [if_neg c4] at h
  by_cases c5 : k = 17
  · rw [if_pos c5] at h
    by_cases d : n = 0
    · rw [if_pos d] at h; omega
    · omega
  rw [if_neg c5] at h; omega

end Go.Proofs.YteoobeldmicjhaaGreat.V
namespace Go.Proofs.YteoobeldmicjhaaGreat.V
set_option maxRecDepth 20000
open Go.RowKit

/-- A list of arrays, as it lies. -/
def Arrs (w : World) (A : Option Addr) (m : Nat) (v : Nat → ArrV) : Prop :=
  m = 0 ∨ ∃ b off, A = some ⟨b, off, none⟩ ∧ ∀ j, j < m → w.cell? ⟨b, off + j * 2, none⟩ = some (v j).d ∧ w.cell? ⟨b, off + j * 2 + 1, none⟩ = some (v j).x ∧ Lst w (v j).da (v j).dl (v j).dc (v j).ds
theorem Arrs.below {w w' : World} {A : Option Addr} {m : Nat} {v : Nat → ArrV} (h : Arrs w A m v) (hb : Below w.heap.size w w') : Arrs w' A m v := by
  rcases h with h | ⟨b, off, e, h⟩
  · exact .inl h
  · exact .inr ⟨b, off, e, fun j hj => ⟨(hb.cell (p := ⟨b, off + j * 2, none⟩) (lt_of_cell (h j hj).1)).trans (h j hj).1, (hb.cell (p := ⟨b, off + j * 2 + 1, none⟩) (lt_of_cell (h j hj).2.1)).trans (h j hj).2.1, (h j hj).2.2.below hb⟩⟩
/-- The dimensions of the arrays. -/
def dimsOf (m : Nat) (v : Nat → ArrV) : List (List Int) := (List.range m).map fun j => (v j).ds
theorem dimsOf_len (m : Nat) (v : Nat → ArrV) : (dimsOf m v).length = m := by simp [dimsOf]
theorem dimsOf_at (m : Nat) (v : Nat → ArrV) (j : Nat) (h : j < m) : (dimsOf m v)[j]?.getD [] = (v j).ds := by simp [dimsOf, h]
/-- What is wrong with the first array with which something is. -/
def arrsE (v : Nat → ArrV) : Nat → Int
  | 0 => 0
  | m + 1 => if arrsE v m ≠ 0 then arrsE v m else arrE (v m).ds (v m).xl
theorem arrsE_all {v : Nat → ArrV} : ∀ m, (∀ j, j < m → arrE (v j).ds (v j).xl = 0) → arrsE v m = 0
  | 0, _ => rfl
  | m + 1, h => by rw [arrsE, arrsE_all m (fun j hj => h j (by omega)), if_neg (by simp)]; exact h m (by omega)
theorem arrsE_at {v : Nat → ArrV} {j : Nat} (h : ∀ t, t < j → arrE (v t).ds (v t).xl = 0) (hj : arrE (v j).ds (v j).xl ≠ 0) : ∀ m, j < m → arrsE v m = arrE (v j).ds (v j).xl
  | 0, hm => by omega
  | m + 1, hm => by
    rw [arrsE]
    by_cases c : m = j
    · subst c; rw [arrsE_all m h, if_neg (by simp)]
    · rw [arrsE_at h hj m (by omega), if_pos hj]
/-- What Do tells. -/
def doE (k : Int) (es ps lo hi st : List Int) (m : Nat) (v : Nat → ArrV) : Int :=
  if takesE k m ≠ 0 then takesE k m else if arrsE v m ≠ 0 then arrsE v m else (dimsP k es ps lo hi st (dimsOf m v)).2
/-- The row of the arguments' dimensions, as far as it has come. -/
def rowV (v : Nat → ArrV) (j t : Nat) : Value := if t < j then (v t).d else .slice none 0 0
end Go.Proofs.YteoobeldmicjhaaGreat.V
