/-
  Contract: view.Index.
-/
import Derived.Test.YticcoacoepajpaaK3
import Derived.Test.YticcoacoepajpaaK15
import Derived.Test.YticcoacoepajpaaK7
import Derived.Deep.OwnRows
namespace Go.Proofs.Yticcoacoepajpaa.V
open Go.RowKit Go.Shelf
attribute [local go_sem] Oper.semAt_some


def idxV (xs : List Int) (p : Int) (k : Nat) : Int := p / beh xs k % xs[k]?.getD 0
def indexV (xs : List Int) (p : Int) : List Int := (List.range xs.length).map (idxV xs p)
def indexE (xs : List Int) (p : Int) : Int := if sizeE xs ≠ 0 then sizeE xs else if p < 0 ∨ sizeN xs ≤ p then 4 else 0
def indexL (xs : List Int) (p : Int) : List Int := if sizeE xs ≠ 0 then [] else if p < 0 ∨ sizeN xs ≤ p then [] else indexV xs p

/-- The row of an index on its way: those that have come hold their number, the others 0. -/
def rowF (xs : List Int) (p : Int) {n : Nat} (pre : List (Fin n)) (j : Nat) : Value := .int .i64 (if pre.any (fun k => k.1 == j) = true then idxV xs p j else 0)
theorem rowF_snoc (xs : List Int) (p : Int) {n : Nat} (pre : List (Fin n)) (k : Fin n) (j : Nat) : (if j = k.1 then .int .i64 (idxV xs p k.1) else rowF xs p pre j) = rowF xs p (pre ++ [k]) j := by
  unfold rowF
  rw [List.any_append]
  by_cases e : j = k.1
  · subst e; simp
  · have : (k.1 == j) = false := by simp; omega
    simp [e, this]
theorem down_any (n j : Nat) (hj : j < n) : (down n 0).any (fun k => k.1 == j) = true := by
  rw [List.any_eq_true]
  exact ⟨⟨j, hj⟩, by simp [down], by simp⟩
theorem rowF_all (xs : List Int) (p : Int) (n j : Nat) (hj : j < n) : rowF xs p (down n 0) j = .int .i64 (idxV xs p j) := by
  unfold rowF; rw [down_any n j hj]; simp

theorem row_own {β : Type} (R : Nat) (t : TypeId) (n : Nat) (f : β → Nat → Value) : Own (fun s W => W.rowIs R t n (f s)) := fun s X Y row hs hg hrow =>
  hs.of_block (hg.block R hs.lt (fun e' => by obtain ⟨o, ho, hc⟩ := hrow R e'.symm; obtain ⟨c, hb, _⟩ := hs; rw [hb] at ho; cases ho; cases hc))
theorem row_setBox {w : World} {b : Nat} {t : TypeId} {n : Nat} {f : Nat → Value} (h : w.rowIs b t n f) {b' : Nat} (hne : b ≠ b') (v : Value) : (w.setCell ⟨b', 0, none⟩ v).rowIs b t n f := h.setOther (a := ⟨b', 0, none⟩) hne v
theorem boxed_setRow {W : World} {B : Nat} {t : TypeId} {v : Value} (h : Boxed W B t v) {b : Nat} (hne : B ≠ b) (i : Nat) (u : Value) : Boxed (W.setCell ⟨b, i, none⟩ u) B t v := (Below.heap_setCell W ⟨b, i, none⟩ u B hne).trans h

theorem wrap_in (n : Int) (h1 : -9223372036854775808 ≤ n) (h2 : n ≤ 9223372036854775807) : IntKind.i64.wrap n = n := by
  simp only [IntKind.wrap, IntKind.bits, IntKind.signed]
  simp
  split <;> omega

theorem idxV_bd {xs : List Int} {p : Int} (hg : ∀ x ∈ xs, 1 ≤ x) {k : Nat} (hk : k < xs.length) : 0 ≤ idxV xs p k ∧ idxV xs p k < xs[k]?.getD 0 := by
  have := hg _ (mem_getD xs k hk)
  unfold idxV
  exact ⟨Int.emod_nonneg _ (by omega), Int.emod_lt_of_pos _ (by omega)⟩

theorem index_good {xs : List Int} {p : Int} (hE : sizeE xs = 0) (h0 : 0 ≤ p) (h1 : p < sizeN xs) : (∀ x ∈ xs, 1 ≤ x ∧ x ≤ 4096) ∧ prod xs ≤ 65536 ∧ sizeN xs = prod xs ∧ xs.length ≤ 6 := by
  obtain ⟨z1, z2, z3, z4⟩ := sizeE_ok hE
  have hpos : ∀ x ∈ xs, 1 ≤ x := fun x hx => by
    have := z2 x hx
    by_cases e : x = 0
    · subst e; have := z4 hx; omega
    · omega
  exact ⟨fun x hx => ⟨hpos x hx, (z2 x hx).2⟩, (z3 hpos).1, (z3 hpos).2, z1⟩

end Go.Proofs.Yticcoacoepajpaa.V
