/-
  Numbers that are named once, whatever their order; what a Dot's and a Join's dimensions are.
-/
import Derived.Test.YtdhkglafpjcdhaaHArrTake
namespace Go.Proofs.Ytdhkglafpjcdhaa.V
open Go.RowKit

theorem once_iff {xs : List Int} {n : Nat} : Once xs n ↔ (∀ x ∈ xs, 0 ≤ x ∧ x < n) ∧ xs.Nodup := by
  constructor
  · intro h
    refine ⟨fun x hx => ?_, ?_⟩
    · obtain ⟨i, hi, rfl⟩ := List.getElem_of_mem hx
      have := h i hi
      simp [hi] at this
      exact ⟨this.1, this.2.1⟩
    · unfold List.Nodup
      rw [List.pairwise_iff_getElem]
      intro i j hi hj hij
      have := (h j hj).2.2 i hij
      simpa [hi, hj] using this
  · rintro ⟨h1, h2⟩ i hi
    unfold List.Nodup at h2
    rw [List.pairwise_iff_getElem] at h2
    have h3 := h1 xs[i] (List.getElem_mem hi)
    refine ⟨by simpa [hi] using h3.1, by simpa [hi] using h3.2, fun j hj => ?_⟩
    have := h2 j i (by omega) hi hj
    have hj' : j < xs.length := by omega
    simpa [hi, hj'] using this
theorem once_comm {xs ys : List Int} {n : Nat} : Once (xs ++ ys) n ↔ Once (ys ++ xs) n := by
  rw [once_iff, once_iff, (List.perm_append_comm (l₁ := xs) (l₂ := ys)).nodup_iff]
  have : (∀ x ∈ xs ++ ys, 0 ≤ x ∧ x < (n : Int)) ↔ (∀ x ∈ ys ++ xs, 0 ≤ x ∧ x < (n : Int)) := by
    constructor <;> intro h x hx <;> exact h x (by simp only [List.mem_append] at hx ⊢; exact hx.symm)
  rw [this]
theorem nodup_len : ∀ (n : Nat) (xs : List Int), (∀ x ∈ xs, 0 ≤ x ∧ x < (n : Int)) → xs.Nodup → xs.length ≤ n
  | 0, [], _, _ => Nat.le_refl _
  | 0, x :: _, h, _ => by have := h x (by simp); omega
  | n + 1, xs, h, hn => by
    have h1 := List.length_eq_countP_add_countP (fun x => x == (n : Int)) (l := xs)
    have h2 : xs.countP (fun x => x == (n : Int)) ≤ 1 := List.nodup_iff_count.1 hn (n : Int)
    have h3 : (xs.filter (fun x => decide (¬ (x == (n : Int)) = true))).length ≤ n := by
      refine nodup_len n _ (fun x hx => ?_) (hn.filter _)
      rw [List.mem_filter] at hx
      have h4 := h x hx.1
      have h5 : x ≠ (n : Int) := by simpa using hx.2
      omega
    rw [← List.countP_eq_length_filter] at h3
    omega
theorem once_len {xs : List Int} {n : Nat} (h : Once xs n) : xs.length ≤ n := nodup_len n xs (once_iff.1 h).1 (once_iff.1 h).2
theorem freeL_comm (xs ys : List Int) : ∀ n, freeL (xs ++ ys) n = freeL (ys ++ xs) n
  | 0 => rfl
  | n + 1 => by
    have : inB (xs ++ ys) n = inB (ys ++ xs) n := by unfold inB; rw [List.any_append, List.any_append, Bool.or_comm]
    rw [freeL, freeL, freeL_comm xs ys n, this]

def onceB (xs : List Int) (n : Nat) : Bool := xs.all (fun x => decide (0 ≤ x) && decide (x < (n : Int))) && decide xs.Nodup
theorem onceB_iff (xs : List Int) (n : Nat) : onceB xs n = true ↔ Once xs n := by
  rw [once_iff]; simp [onceB]
/-- What a Dot's dimensions are. -/
def dotB (ps st lo hi a b : List Int) : Bool := onceB (lo ++ ps) a.length && (onceB (hi ++ st) b.length && (decide (taken a lo = taken b hi) && decide (taken a ps = taken b st)))
def dotL (ps st lo hi a b : List Int) : List Int := taken a lo ++ taken a (freeL (lo ++ ps) a.length) ++ taken b (freeL (hi ++ st) b.length)
def dotP (ps st lo hi a b : List Int) : List Int × Int := if dotB ps st lo hi a b = true then (dotL ps st lo hi a b, 0) else ([], 6)
/-- What a Join's dimensions are. -/
def joinB (p : Nat) (ds d : List Int) : Bool := decide (d.length = ds.length) && (decide (d.take p = ds.take p) && decide (d.drop (p + 1) = ds.drop (p + 1)))
def joinS (p : Nat) : List (List Int) → Int
  | [] => 0
  | d :: r => d[p]?.getD 0 + joinS p r
def joinAt (ps : List Int) : Int := ps[0]?.getD 0
def joinP (ps : List Int) (xss : List (List Int)) : List Int × Int :=
  if ps.length = 1 ∧ 0 ≤ joinAt ps ∧ joinAt ps < ((xss[0]?.getD []).length : Int) ∧ (xss.drop 1).all (joinB (joinAt ps).toNat (xss[0]?.getD [])) = true then ((xss[0]?.getD []).set (joinAt ps).toNat (joinS (joinAt ps).toNat xss), 0) else ([], 6)
theorem joinS_snoc (p : Nat) (d : List Int) : ∀ xss : List (List Int), joinS p (xss ++ [d]) = joinS p xss + d[p]?.getD 0
  | [] => by simp [joinS]
  | x :: r => by rw [List.cons_append, joinS, joinS, joinS_snoc p d r]; omega
theorem getD_bd {d : List Int} (h : ∀ x ∈ d, 0 ≤ x ∧ x ≤ 4096) (p : Nat) : 0 ≤ d[p]?.getD 0 ∧ d[p]?.getD 0 ≤ 4096 := by
  by_cases e : p < d.length
  · exact h _ (mem_getD d p e)
  · have : d[p]? = none := by simp; omega
    rw [this]; simp
theorem joinS_bd (p : Nat) : ∀ xss : List (List Int), (∀ d ∈ xss, ∀ x ∈ d, 0 ≤ x ∧ x ≤ 4096) → 0 ≤ joinS p xss ∧ joinS p xss ≤ 4096 * (xss.length : Int)
  | [], _ => by simp [joinS]
  | x :: r, h => by
    have h1 := joinS_bd p r (fun d hd => h d (by simp [hd]))
    have h2 := getD_bd (h x (by simp)) p
    rw [joinS, List.length_cons]
    omega
theorem joinAll_iff (f : List Int → Bool) (xss : List (List Int)) : (xss.drop 1).all f = true ↔ ∀ j, j + 1 < xss.length → f (xss[j + 1]?.getD []) = true := by
  rw [List.all_eq_true]
  constructor
  · intro h j hj
    refine h _ ?_
    rw [List.mem_iff_getElem?]
    exact ⟨j, by rw [List.getElem?_drop, Nat.add_comm 1 j]; simp [hj]⟩
  · intro h x hx
    rw [List.mem_iff_getElem?] at hx
    obtain ⟨j, hj⟩ := hx
    rw [List.getElem?_drop, Nat.add_comm 1 j] at hj
    have hl := (List.getElem?_eq_some_iff.1 hj).1
    have := h j hl
    rw [hj] at this
    exact this
theorem take_snocL (xss : List (List Int)) (k : Nat) (h : k < xss.length) : xss.take (k + 1) = xss.take k ++ [xss[k]?.getD []] := by
  rw [List.take_add_one]; simp [h]

theorem lsts_two' {w : World} {X Y : Option Addr} {m n c d B : Nat} {xs ys : List Int} (h : Lst w X m c xs) (h' : Lst w Y n d ys) (t : TypeId) (hB : w.heap.size = B) : Lsts (w.alloc (.cells #[.slice X m c, .slice Y n d] t)) (some ⟨B, 0, none⟩) 2 [xs, ys] := by
  rw [← hB]; exact lsts_two h h' t
theorem lsts_three {w : World} {X Y Z : Option Addr} {m n k c d f B : Nat} {xs ys zs : List Int} (h : Lst w X m c xs) (h' : Lst w Y n d ys) (h'' : Lst w Z k f zs) (t : TypeId) (hB : w.heap.size = B) : Lsts (w.alloc (.cells #[.slice X m c, .slice Y n d, .slice Z k f] t)) (some ⟨B, 0, none⟩) 3 [xs, ys, zs] := by
  rw [← hB]
  have hb : Below w.heap.size w (w.alloc (.cells #[.slice X m c, .slice Y n d, .slice Z k f] t)) := (Below.refl _ _).alloc (Nat.le_refl _) _
  have hn := World.alloc_heap_new w (.cells #[.slice X m c, .slice Y n d, .slice Z k f] t)
  refine ⟨rfl, by omega, .inr ⟨_, _, rfl, fun j hj => ?_⟩⟩
  have : j = 0 ∨ j = 1 ∨ j = 2 := by omega
  rcases this with e | e | e <;> subst e
  · exact ⟨X, m, c, by unfold World.cell?; rw [hn]; rfl, h.below hb⟩
  · exact ⟨Y, n, d, by unfold World.cell?; rw [hn]; rfl, h'.below hb⟩
  · exact ⟨Z, k, f, by unfold World.cell?; rw [hn]; rfl, h''.below hb⟩
end Go.Proofs.Ytdhkglafpjcdhaa.V
