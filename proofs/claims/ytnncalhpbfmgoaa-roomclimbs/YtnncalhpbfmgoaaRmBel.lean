/-
  Rooms: who stands below whom, in memory: a row of rows of the call's own.
-/
import Derived.Test.YtnncalhpbfmgoaaRmTreeM
import Derived.Test.YtnncalhpbfmgoaaFactsR
import Derived.Maps.AppendAt
namespace Go.Proofs.Ytnncalhpbfmgoaa.V
open Go.RowKit
set_option linter.unusedVariables false

def nv (x : Nat) : Value := .int .i64 (x : Int)
/-- A row of numbers of the call's own, that may grow. -/
def OwnN (w : World) (B : Nat) (v : Value) (l : List Nat) : Prop := w.ownsRow B 3 1 v l.length (l.map nv)
theorem OwnN.keep {w w1 : World} {B : Nat} {v : Value} {l : List Nat} (h : OwnN w B v l) (hk : ∀ g, v.ownBlock = some g → g < w.heap.size → w1.heap[g]? = w.heap[g]?) : OwnN w1 B v l := by
  refine ⟨h.1, ?_⟩
  rcases h.2 with h2 | ⟨g, cap, cur, rfl, h4, h5, h6⟩
  · exact .inl h2
  · exact .inr ⟨g, cap, cur, rfl, h4, (hk g rfl (Array.getElem?_eq_some_iff.1 h5).1).trans h5, h6⟩
theorem OwnN.below {w w1 : World} {B : Nat} {v : Value} {l : List Nat} (h : OwnN w B v l) (hb : Below w.heap.size w w1) : OwnN w1 B v l := h.keep fun g _ hg => hb.block g hg
theorem OwnN.at {w : World} {B g : Nat} {v : Value} {l : List Nat} (h : OwnN w B v l) (e : v.ownBlock = some g) : B ≤ g ∧ g < w.heap.size ∧ ∃ cur, w.heap[g]? = some (.cells cur 3 (0, 0)) := by
  rcases h.2 with ⟨rfl, _⟩ | ⟨g', cap, cur, rfl, h4, h5, h6⟩
  · cases e
  · cases e
    exact ⟨h4, (Array.getElem?_eq_some_iff.1 h5).1, cur, h5⟩
/-- The row as a slice. -/
theorem OwnN.slice {w : World} {B : Nat} {v : Value} {l : List Nat} (h : OwnN w B v l) : ∃ a cap, v = .slice a l.length cap ∧ l.length ≤ cap ∧ (l = [] ∨ ∃ g, a = some ⟨g, 0, none⟩ ∧ B ≤ g ∧ ∀ j, j < l.length → w.cell? ⟨g, j, none⟩ = some (nv (l[j]?.getD 0))) := by
  rcases h.2 with ⟨rfl, h2⟩ | ⟨g, cap, cur, rfl, h4, h5, h6, h7, h8, h9⟩
  · exact ⟨none, 0, by rw [h2], by omega, .inl (List.eq_nil_of_length_eq_zero h2)⟩
  · refine ⟨_, cap, rfl, h6, .inr ⟨g, rfl, h4, fun j hj => ?_⟩⟩
    have : (cur.toList.take (l.length * 1))[j]? = (l.map nv)[j]? := by rw [h9]
    rw [List.getElem?_take_of_lt (by omega), Array.getElem?_toList] at this
    simp [World.cell?, h5, this, hj]
/-- append(row, number). -/
theorem wp_append_nv {w : World} {o : Oper} {a : Act} {Kc : Act → World → Prop} {Q : Exit → Act → World → Prop} (s x : Operand) (ho : o.op = .call { callee := .builtin .append, args := #[s, x], argTypes := #[27, 27] })
    (B : Nat) (v : Value) (l : List Nat) (hs : a.eval s = v) (hS : OwnN w B v l) (Bk k : Nat) (hx : a.eval x = .slice (some ⟨Bk, 0, none⟩) 1 1) (hy : w.cell? ⟨Bk, 0, none⟩ = some (nv k)) (h8 : l.length ≤ 65536) (hB : B ≤ w.heap.size)
    (h : ∀ v' w', OwnN w' B v' (l ++ [k]) → w.grownBy w' v.ownBlock → (v'.ownBlock = v.ownBlock ∨ v'.ownBlock = some w.heap.size) → Kc (a.put o.dst v') w') : o.wp Try.prog a w Kc Q := by
  obtain ⟨i0, hi, hz0, hz1, hz2⟩ := info_parts info_int
  obtain ⟨v', w', hrun, q2, q3, _, q5⟩ := run_append_own_at (P := Try.prog) w B 27 o.type 3 i0 _ 1 8 Try.underlying27 hi hz0 hz1 hz2 rfl (by decide) v l.length (l.map nv) hS ⟨Bk, 0, none⟩ 1 1 [nv k] rfl (fun j u hj => by
    match j, hj with
    | 0, hj => simp at hj; subst hj; rw [Go.WideShapes.add_plain]; exact hy) (by simp [nv, Value.oneCell']) (by unfold maxLen; omega) (by omega) hB
  unfold Oper.wp execOp
  simp only [ho, resolve, invoke, builtin, Sem.run_bind, Sem.run_pure, Result.andThen_ok, List.map_toArray, List.map_cons, List.map_nil, hs, hx, hrun]
  refine h v' w' ?_ q3 q5
  unfold OwnN
  rw [List.length_append, List.map_append]
  exact q2
/-- The row of rows. -/
structure Bel (w : World) (B L n : Nat) (v : Nat → Value) (T : Nat → List Nat) : Prop where
  row : w.rowIs L 27 n v
  side : ∀ s, s < n → OwnN w B (v s) (T s)
  apart : ∀ s t g, s < n → t < n → (v s).ownBlock = some g → (v t).ownBlock = some g → s = t
  base : B ≤ L
theorem Bel.ne {w : World} {B L n s g : Nat} {v : Nat → Value} {T : Nat → List Nat} (h : Bel w B L n v T) (hs : s < n) (e : (v s).ownBlock = some g) : g ≠ L := by
  obtain ⟨_, _, cur, hc⟩ := (h.side s hs).at e
  rintro rfl
  obtain ⟨cu, h1, _⟩ := h.row
  rw [hc] at h1
  simp at h1
theorem OwnN.ne {w : World} {B L n g : Nat} {u : Value} {l : List Nat} {v : Nat → Value} (h : OwnN w B u l) (hr : w.rowIs L 27 n v) (e : u.ownBlock = some g) : g ≠ L := by
  obtain ⟨_, _, cur, hc⟩ := h.at e
  rintro rfl
  obtain ⟨cu, h1, _⟩ := hr
  rw [hc] at h1
  simp at h1
theorem Bel.keep {w w1 : World} {B L n : Nat} {v : Nat → Value} {T : Nat → List Nat} (h : Bel w B L n v T) (hL : w1.heap[L]? = w.heap[L]?) (hk : ∀ s g, s < n → (v s).ownBlock = some g → w1.heap[g]? = w.heap[g]?) : Bel w1 B L n v T :=
  ⟨h.row.of_block hL, fun s hs => (h.side s hs).keep fun g hg _ => hk s g hs hg, h.apart, h.base⟩
theorem Bel.below {w w1 : World} {B L n : Nat} {v : Nat → Value} {T : Nat → List Nat} (h : Bel w B L n v T) (hb : Below w.heap.size w w1) : Bel w1 B L n v T := h.keep (hb.block L h.row.lt) fun s g hs hg => hb.block g ((h.side s hs).at hg).2.1
theorem Bel.congr {w : World} {B L n : Nat} {v : Nat → Value} {T T' : Nat → List Nat} (h : Bel w B L n v T) (hT : ∀ s, s < n → T' s = T s) : Bel w B L n v T' := ⟨h.row, fun s hs => by rw [hT s hs]; exact h.side s hs, h.apart, h.base⟩
/-- The s-th row has been appended to, and stored. -/
theorem Bel.put {w w1 : World} {B L n s : Nat} {v : Nat → Value} {T : Nat → List Nat} {u : Value} {l : List Nat} (h : Bel w B L n v T) (hs : s < n) (hg : w.grownBy w1 (v s).ownBlock) (hv : OwnN w1 B u l) (ho : u.ownBlock = (v s).ownBlock ∨ ∀ i, u.ownBlock = some i → w.heap.size ≤ i) :
    Bel (w1.setCell ⟨L, s, none⟩ u) B L n (fun t => if t = s then u else v t) (fun t => if t = s then l else T t) := by
  have r1 : w1.rowIs L 27 n v := h.row.of_block (hg.block L h.row.lt (fun e => h.ne hs e.symm rfl))
  have hk2 : ∀ b, b ≠ L → (w1.setCell ⟨L, s, none⟩ u).heap[b]? = w1.heap[b]? := fun b hb => Below.heap_setCell _ _ _ _ hb
  refine ⟨r1.set s u, fun t ht => ?_, fun t t' g ht ht' e1 e2 => ?_, h.base⟩
  · by_cases ee : t = s
    · subst ee
      simp only
      exact hv.keep fun g hg _ => hk2 g (hv.ne r1 hg)
    · simp only [if_neg ee]
      have h1 : OwnN w1 B (v t) (T t) := (h.side t ht).keep fun g hgg hlt => hg.block g hlt (fun e => ee (h.apart t s g ht hs hgg e.symm))
      exact h1.keep fun g hgg _ => hk2 g (h1.ne r1 hgg)
  · have key : ∀ t, t < n → t ≠ s → u.ownBlock = some g → (v t).ownBlock ≠ some g := fun t ht ee e1 e2 => by
      rcases ho with ho | ho
      · exact ee (h.apart t s g ht hs e2 (ho ▸ e1))
      · have := ho g e1
        have := ((h.side t ht).at e2).2.1
        omega
    by_cases c1 : t = s
    · by_cases c2 : t' = s
      · rw [c1, c2]
      · rw [if_pos c1] at e1
        rw [if_neg c2] at e2
        exact absurd e2 (key t' ht' c2 e1)
    · by_cases c2 : t' = s
      · rw [if_neg c1] at e1
        rw [if_pos c2] at e2
        exact absurd e1 (key t ht c1 e2)
      · rw [if_neg c1] at e1
        rw [if_neg c2] at e2
        exact h.apart t t' g ht ht' e1 e2
/-- Those below a node, of the first k. -/
def kidsTo (ab : List Int) (k s : Nat) : List Nat := (List.range k).filter fun j => decide (nth ab j = (s : Int))
theorem kids_next (ab : List Int) (k s : Nat) : kidsTo ab (k + 1) s = if nth ab k = (s : Int) then kidsTo ab k s ++ [k] else kidsTo ab k s := by
  unfold kidsTo
  rw [List.range_succ, List.filter_append]
  by_cases h : nth ab k = (s : Int)
  · simp [h]
  · simp [h]
theorem kids_len (ab : List Int) (k s : Nat) : (kidsTo ab k s).length ≤ k := Nat.le_trans (List.length_filter_le _ _) (by simp)
abbrev kids (ab : List Int) (s : Nat) : List Nat := kidsTo ab ab.length s
end Go.Proofs.Ytnncalhpbfmgoaa.V
