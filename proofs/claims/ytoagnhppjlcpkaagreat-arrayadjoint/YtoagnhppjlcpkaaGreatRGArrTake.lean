/-
  Contracts: array.takeDims, putDims, reformDims.
-/
import Derived.Test.YtoagnhppjlcpkaaGreatRGArrOthers
namespace Go.Proofs.YtoagnhppjlcpkaaGreat.V
set_option maxRecDepth 20000
open Go.RowKit

def takeP (xs ys : List Int) : List Int × Int := if xs.length = 0 then ([], 6) else (ys ++ xs.drop 1, 0)

def putP (es xs ys : List Int) : List Int × Int := if es.length ≠ 1 then ([], 6) else if xs.length < ys.length then ([], 6) else if xs.take ys.length = ys then (es ++ xs.drop ys.length, 0) else ([], 6)

end Go.Proofs.YtoagnhppjlcpkaaGreat.V

/-
  Numbers that are named once, whatever their order; what a Dot's and a Join's dimensions are.
-/
namespace Go.Proofs.YtoagnhppjlcpkaaGreat.V
set_option maxRecDepth 20000
open Go.RowKit

theorem once_iff {xs : List Int} {n : Nat} : Once xs n ↔ (∀ x ∈ xs, 0 ≤ x ∧ x < n) ∧ xs.Nodup := by
  constructor
  · intro h
    refine ⟨fun x hx => ?_, ?_⟩
    · obtain ⟨i, hi, rfl⟩ := List.getElem_of_mem hx
      have := h i hi
      simp [hi] at this
      exact ⟨this.1, this.2.1⟩
    · unfold List.Nodup
      rw [List.pairwise_iff_getElem]
      intro i j hi hj hij
      have := (h j hj).2.2 i hij
      simpa [hi, hj] using this
  · rintro ⟨h1, h2⟩ i hi
    unfold List.Nodup at h2
    rw [List.pairwise_iff_getElem] at h2
    have h3 := h1 xs[i] (List.getElem_mem hi)
    refine ⟨by simpa [hi] using h3.1, by simpa [hi] using h3.2, fun j hj => ?_⟩
    have := h2 j i (by omega) hi hj
    have hj' : j < xs.length := by omega
    simpa [hi, hj'] using this
def onceB (xs : List Int) (n : Nat) : Bool := xs.all (fun x => decide (0 ≤ x) && decide (x < (n : Int))) && decide xs.Nodup
theorem onceB_iff (xs : List Int) (n : Nat) : onceB xs n = true ↔ Once xs n := by
  rw [once_iff]; simp [onceB]
/-- What a Dot's dimensions are. -/
def dotB (ps st lo hi a b : List Int) : Bool := onceB (lo ++ ps) a.length && (onceB (hi ++ st) b.length && (decide (taken a lo = taken b hi) && decide (taken a ps = taken b st)))
def dotL (ps st lo hi a b : List Int) : List Int := taken a lo ++ taken a (freeL (lo ++ ps) a.length) ++ taken b (freeL (hi ++ st) b.length)
def dotP (ps st lo hi a b : List Int) : List Int × Int := if dotB ps st lo hi a b = true then (dotL ps st lo hi a b, 0) else ([], 6)
/-- What a Join's dimensions are. -/
def joinB (p : Nat) (ds d : List Int) : Bool := decide (d.length = ds.length) && (decide (d.take p = ds.take p) && decide (d.drop (p + 1) = ds.drop (p + 1)))
def joinS (p : Nat) : List (List Int) → Int
  | [] => 0
  | d :: r => d[p]?.getD 0 + joinS p r
def joinAt (ps : List Int) : Int := ps[0]?.getD 0
def joinP (ps : List Int) (xss : List (List Int)) : List Int × Int :=
  if ps.length = 1 ∧ 0 ≤ joinAt ps ∧ joinAt ps < ((xss[0]?.getD []).length : Int) ∧ (xss.drop 1).all (joinB (joinAt ps).toNat (xss[0]?.getD [])) = true then ((xss[0]?.getD []).set (joinAt ps).toNat (joinS (joinAt ps).toNat xss), 0) else ([], 6)
end Go.Proofs.YtoagnhppjlcpkaaGreat.V
