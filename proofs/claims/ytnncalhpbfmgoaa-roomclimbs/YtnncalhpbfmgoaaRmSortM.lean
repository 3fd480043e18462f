/-
  Rooms: those below each node, sorted; what lies beyond.
-/
import Derived.Test.YtnncalhpbfmgoaaRmSortK
import Derived.Test.YtnncalhpbfmgoaaRmPeak
namespace Go.Proofs.Ytnncalhpbfmgoaa.V
open Go Go.Shelf Go.RowKit Go.Lib Go.Sort Go.Proofs Go.Proofs.Ytnncalhpbfmgoaa.S Go.Proofs.Ytnncalhpbfmgoaa.S1
set_option linter.unusedVariables false

/-- A list, sorted by what lies beyond. -/
def SrtK (bl : Nat → Int) (l l' : List Nat) : Prop := ∃ D : List (Fin l.length), D.Perm (List.finRange l.length) ∧ D.Pairwise (fun a b => ltK bl l b a = false) ∧ l' = D.map fun i => atK l i.1
theorem atK_mem (l : List Nat) (i : Nat) (h : i < l.length) : atK l i ∈ l := by simp [atK, h]
theorem map_atK (l : List Nat) : (List.finRange l.length).map (fun i => atK l i.1) = l := by
  refine List.ext_getElem (by simp) fun j h1 h2 => ?_
  simp [atK]
theorem SrtK.perm {bl : Nat → Int} {l l' : List Nat} (h : SrtK bl l l') : l'.Perm l := by
  obtain ⟨D, h1, _, rfl⟩ := h
  have := h1.map (fun i => atK l i.1)
  rw [map_atK] at this
  exact this
theorem SrtK.congr {bl bl' : Nat → Int} {l l' : List Nat} (h : SrtK bl l l') (he : ∀ q ∈ l, bl' q = bl q) : SrtK bl' l l' := by
  obtain ⟨D, h1, h2, h3⟩ := h
  refine ⟨D, h1, ?_, h3⟩
  refine h2.imp fun {a b} hab => ?_
  unfold ltK at *
  rw [he _ (atK_mem l a.1 a.2), he _ (atK_mem l b.1 b.2)]
  exact hab
theorem SrtK.nil (bl : Nat → Int) : SrtK bl [] [] := ⟨[], by simp, by simp, rfl⟩
/-- The most that is needed while those below are made one behind the other. -/
def mostF (ws : List Int) (bl : Nat → Int) : Int → Int → List Nat → Int
  | _, m, [] => m
  | h, m, q :: r => mostF ws bl (h + nth ws q) (max m (h + nth ws q + bl q)) r
theorem mostF_next (ws : List Int) (bl : Nat → Int) : ∀ (l : List Nat) (h m : Int) (q : Nat), mostF ws bl h m (l ++ [q]) = max (mostF ws bl h m l) (h + wsum ws l + nth ws q + bl q)
  | [], h, m, q => by simp [mostF, wsum]
  | x :: r, h, m, q => by
    rw [List.cons_append, mostF, mostF, mostF_next ws bl r]
    have : wsum ws (x :: r) = nth ws x + wsum ws r := by simp [wsum]
    rw [this]
    congr 1
    omega
theorem mostF_congr (ws : List Int) {bl bl' : Nat → Int} : ∀ (l : List Nat) (h m : Int), (∀ q ∈ l, bl' q = bl q) → mostF ws bl' h m l = mostF ws bl h m l
  | [], _, _, _ => rfl
  | x :: r, h, m, he => by rw [mostF, mostF, he x (by simp), mostF_congr ws r _ _ fun q hq => he q (by simp [hq])]
def beyV (ws : List Int) (bl : Nat → Int) (l : List Nat) (k : Nat) : Int := max (mostF ws bl 0 0 l) (wsum ws l + nth ws k) - nth ws k
/-- Of the first k nodes those below are sorted, and what lies beyond is known. -/
structure SrtTo (ws : List Int) (T T' : Nat → List Nat) (bl : Nat → Int) (n k : Nat) : Prop where
  srt : ∀ s, s < k → SrtK bl (T s) (T' s)
  bey : ∀ s, s < k → bl s = beyV ws bl (T' s) s
  rest : ∀ s, k ≤ s → s < n → T' s = T s
  bd : ∀ s, s < k → 0 ≤ bl s ∧ bl s ≤ ((s : Int) + 1) * 4294967296
theorem mostF_bound {ab ws : List Int} (hT : TreeOk ab ws) {bl : Nat → Int} {K : Int} : ∀ (l : List Nat) (h m : Int), (∀ q ∈ l, q < ab.length ∧ 0 ≤ bl q ∧ bl q ≤ K) → 0 ≤ h → h + (l.length : Int) * 1048576 ≤ 4294967296 → 0 ≤ m → m ≤ K + 4294967296 → 0 ≤ mostF ws bl h m l ∧ mostF ws bl h m l ≤ K + 4294967296
  | [], h, m, _, _, _, h3, h4 => ⟨h3, h4⟩
  | x :: r, h, m, hq, h1, h2, h3, h4 => by
    have hx := hq x (by simp)
    have hw := hT.wd x hx.1
    have e : ((x :: r).length : Int) * 1048576 = (r.length : Int) * 1048576 + 1048576 := by simp only [List.length_cons]; omega
    rw [mostF]
    have hr : 0 ≤ (r.length : Int) * 1048576 := by omega
    exact mostF_bound hT r _ _ (fun q hqr => hq q (by simp [hqr])) (by omega) (by omega) (by omega) (by omega)
end Go.Proofs.Ytnncalhpbfmgoaa.V
