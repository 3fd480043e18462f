/-
  A region that draws its order, whose operations but for the last one only read, and whose last one comes behind all of them: one walk, in the order of the text, in a round too. A region that draws its order: first operations that only read, then one that makes memory, then a chain. The readers may come ahead of the maker or behind it.
-/
import Derived.OrdersIn
import Derived.OwnWalkIn
import Derived.TacticsIn
namespace Go.Proofs.YtoabffmiedbkkaaGreat.V
set_option maxRecDepth 20000
open Go

/-- The operations one behind the other, none of which changes the world W. -/
def Reads (P : Program) (W : World) : List Oper → Act → (Act → Prop) → Prop
  | [], a, K => K a
  | o :: r, a, K => ∃ v, ((execOp a.eval o).run P W = .ok (.value v) W ∧ o.about P W a.eval = none) ∧ Reads P W r (a.put o.dst v) K

theorem Reads.step {P : Program} {W : World} {o : Oper} {r : List Oper} {a : Act} {K : Act → Prop} {v : Value} (h1 : (execOp a.eval o).run P W = .ok (.value v) W) (h2 : o.about P W a.eval = none) (h3 : Reads P W r (a.put o.dst v) K) : Reads P W (o :: r) a K :=
  ⟨v, ⟨h1, h2⟩, h3⟩
def plainOp : Op → Bool
  | .defer _ => false
  | .select _ _ => false
  | _ => true
def hasEdge (o : Oper) (i : Nat) : Bool := o.after.toList.any fun e => Region.binds .any e && e.on == i
section
variable {P : Program} {W : World}

/-- What the acts on the way are: the values, and where they have been put. -/
structure Trace (P : Program) (W : World) (ops : List Oper) (a : Act) (m : Nat) where
  act : Nat → Act
  val : Nat → Value
  zero : act 0 = a
  step : ∀ j o, j < m → ops[j]? = some o → act (j + 1) = (act j).put o.dst (val j) ∧ (execOp (act j).eval o).run P W = .ok (.value (val j)) W ∧ o.about P W (act j).eval = none

theorem put_getD_ne (a : Act) (d t : Nat) (v : Value) (h : d ≠ t) : (a.put (some d) v).tmps.getD t undef = a.tmps.getD t undef := by
  simp [Act.put, Array.getElem?_setIfInBounds_ne h]
theorem put_size (a : Act) (d : Option Tmp) (v : Value) : (a.put d v).tmps.size = a.tmps.size := by cases d <;> simp [Act.put]
theorem put_defs (a : Act) (d : Option Tmp) (v : Value) : (a.put d v).defers = a.defers := by cases d <;> simp [Act.put]

def left (listed : Array Bool) : Nat → Nat
  | 0 => 0
  | k + 1 => left listed k + if listed.getD k false = true then 0 else 1
theorem left_far (listed : Array Bool) (i : Nat) : ∀ k, k ≤ i → left (listed.setIfInBounds i true) k = left listed k
  | 0, _ => rfl
  | k + 1, h => by rw [left, left, left_far listed i k (by omega), getD_set_ne false (by omega)]
theorem left_set (listed : Array Bool) (i : Nat) (hi : i < listed.size) (hf : listed.getD i false = false) : ∀ k, i < k → left (listed.setIfInBounds i true) k + 1 = left listed k
  | 0, h => by omega
  | k + 1, h => by
    rw [left, left]
    by_cases e : i = k
    · subst e
      rw [left_far listed i i (by omega), hf]
      have : (listed.setIfInBounds i true).getD i false = true := by simp [hi]
      rw [this]; simp
    · rw [getD_set_ne false e]
      have := left_set listed i hi hf k (by omega)
      omega
theorem left_zero (listed : Array Bool) : ∀ k, left listed k = 0 → ∀ j, j < k → listed.getD j false = true
  | 0, _, j, h => by omega
  | k + 1, h, j, hj => by
    rw [left] at h
    by_cases e : j = k
    · subst e
      by_cases hb : listed.getD j false = true
      · exact hb
      · rw [if_neg hb] at h; omega
    · exact left_zero listed k (by omega) j (by omega)
theorem left_le (listed : Array Bool) : ∀ k, left listed k ≤ k
  | 0 => Nat.le_refl _
  | k + 1 => by rw [left]; have := left_le listed k; split <;> omega

theorem edge_of {o : Oper} {i : Nat} (h : hasEdge o i = true) : ∃ e ∈ o.after, Region.binds .any e = true ∧ e.on = i := by
  unfold hasEdge at h
  rw [List.any_eq_true] at h
  obtain ⟨e, he, h⟩ := h
  simp only [Bool.and_eq_true, beq_iff_eq] at h
  exact ⟨e, by simpa using he, h.1, h.2⟩

section
variable {ops : List Oper} {a : Act} {m : Nat} (t : Trace P W ops a m)
end

end
end Go.Proofs.YtoabffmiedbkkaaGreat.V
namespace Go.Proofs.YtoabffmiedbkkaaGreat.V
set_option maxRecDepth 20000
open Go

/-- The operations one behind the other; each answers the same in both worlds, and changes neither. -/
def Late (P : Program) (W W1 : World) : List Oper → Act → (Act → Prop) → Prop
  | [], a, K => K a
  | o :: r, a, K => ∃ v, (((execOp a.eval o).run P W = .ok (.value v) W ∧ o.about P W a.eval = none) ∧ ((execOp a.eval o).run P W1 = .ok (.value v) W1 ∧ o.about P W1 a.eval = none)) ∧ Late P W W1 r (a.put o.dst v) K
theorem Late.step {P : Program} {W W1 : World} {o : Oper} {r : List Oper} {a : Act} {K : Act → Prop} {v : Value} (h1 : (execOp a.eval o).run P W = .ok (.value v) W) (h2 : o.about P W a.eval = none)
    (h3 : (execOp a.eval o).run P W1 = .ok (.value v) W1) (h4 : o.about P W1 a.eval = none) (h : Late P W W1 r (a.put o.dst v) K) : Late P W W1 (o :: r) a K := ⟨v, ⟨⟨h1, h2⟩, h3, h4⟩, h⟩
section
variable {P : Program}
/-- The acts on the way. -/
structure Way (ops : List Oper) (a : Act) (M : Nat) where
  act : Nat → Act
  val : Nat → Value
  zero : act 0 = a
  step : ∀ j o, j < M → ops[j]? = some o → act (j + 1) = (act j).put o.dst (val j)

variable {ops : List Oper} {a : Act} {M T : Nat} (t : Way ops a M)
theorem rep_getD (n j : Nat) : (Array.replicate n false).getD j false = false := by
  by_cases h : j < n <;> simp [h]
end
end Go.Proofs.YtoabffmiedbkkaaGreat.V
