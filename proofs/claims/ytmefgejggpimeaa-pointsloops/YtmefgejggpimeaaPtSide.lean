/-
  Rows of bounds that grow: append, and the table of all loops' rows.
-/
import Derived.Test.YtmefgejggpimeaaPtFirst
import Derived.Test.YtmefgejggpimeaaFactsR
import Derived.Maps.AppendAt
namespace Go.Proofs.Ytmefgejggpimeaa.V
open Go.RowKit
set_option linter.unusedVariables false

theorem info_bound : (Try.prog.info? 65).map (fun i => (i.zero, i.size, i.bytes)) = some (some (.agg #[.slice none 0 0, .int .i64 0, .int .i64 0]), 3, 40) := by kernel_rfl
theorem pt_grown_trans {row : Option Nat} (w w' w'' : World) (h : w.grownBy w' row) (k : w'.grownBy w'' row) : w.grownBy w'' row :=
  ⟨k.os.trans h.os, k.tape.trans h.tape, k.output.trans h.output, Nat.le_trans h.size k.size, fun i hi hne => (k.block i (Nat.lt_of_lt_of_le hi h.size) hne).trans (h.block i hi hne)⟩
theorem pt_grown_of {row : Option Nat} (w w' : World) (h : Below w.heap.size w w') : w.grownBy w' row := ⟨h.os, h.tape, h.output, h.size, fun i hi _ => h.block i hi⟩
/-- The row's own block. -/
theorem Side.own {w : World} {B : Nat} {v : Value} {bs : List LpB} (h : Side w B v bs) : ∃ g c cur, v = .slice (some ⟨g, 0, none⟩) bs.length c ∧ bs.length ≤ c ∧ B ≤ g ∧ g < w.heap.size ∧ v.ownBlock = some g ∧ w.heap[g]? = some (.cells cur 65 (0, 0)) ∧ ∃ a l c, w.cell? ⟨g, 0, none⟩ = some (.slice a l c) := by
  obtain ⟨vs, h1, h2, h3⟩ := h
  have hl : 0 < bs.length := by cases bs with
    | nil => exact absurd rfl h3
    | cons x r => simp
  rcases h1.2 with ⟨h2, h4⟩ | ⟨g, cap, cur, rfl, h4, h5, h6, h7, h8, h9⟩
  · omega
  · obtain ⟨a, l, c, e, _⟩ := h2.2 0 hl
    refine ⟨g, cap, cur, rfl, h6, h4, (Array.getElem?_eq_some_iff.1 h5).1, rfl, h5, a, l, c, ?_⟩
    rw [Nat.zero_mul, ← h9, List.getElem?_take_of_lt (by omega), Array.getElem?_toList] at e
    simp [World.cell?, h5, e]
theorem Side.grow {w w1 : World} {B : Nat} {v v' : Value} {bs : List LpB} {g k c : Nat} {cs : List Int} {K D : Int} {vs : List Value} (h1 : w.ownsRow B 65 3 v bs.length vs) (h2 : VB w vs bs) (h3 : bs ≠ []) (hr : Lst w (some ⟨g, 0, none⟩) k c cs)
    (hown : w1.ownsRow B 65 3 v' (bs.length + 1) (vs ++ [.slice (some ⟨g, 0, none⟩) k c, .int .i64 K, .int .i64 D])) (hg : w.grownBy w1 v.ownBlock) : Side w1 B v' (bs ++ [⟨cs, K, D⟩]) := by
  obtain ⟨g0, c0, cur, e, _, _, _, eo, _, hX⟩ := Side.own ⟨vs, h1, h2, h3⟩
  have hk : ∀ b, b < w.heap.size → b ≠ g0 → w1.heap[b]? = w.heap[b]? := fun b hb hne => hg.block b hb (by rw [eo]; intro ee; exact hne (Option.some.inj ee))
  have hf : Flush (some ⟨g, 0, none⟩) := fun b o e => by cases e; rfl
  have h2' := h2.keep hk hX
  refine ⟨_, by rw [List.length_append]; exact hown, ⟨by simp [h2.1]; omega, fun i hi => ?_⟩, by simp⟩
  by_cases hi' : i < bs.length
  · obtain ⟨a, l, c, k1, k2, k3, k4⟩ := h2'.2 i hi'
    have hb := h2.1
    refine ⟨a, l, c, ?_, ?_, ?_, ?_⟩
    · rw [List.getElem?_append_left (by omega)]; exact k1
    · rw [List.getElem?_append_left (by omega), List.getElem?_append_left hi']; exact k2
    · rw [List.getElem?_append_left (by omega), List.getElem?_append_left hi']; exact k3
    · rw [List.getElem?_append_left hi']; exact k4
  · obtain rfl : i = bs.length := by simp at hi; omega
    have hb := h2.1
    refine ⟨some ⟨g, 0, none⟩, k, c, ?_, ?_, ?_, ?_⟩
    · rw [List.getElem?_append_right (by omega), hb]; simp
    · rw [List.getElem?_append_right (by omega), hb]; simp
    · rw [List.getElem?_append_right (by omega), hb]; simp
    · simp only [List.getElem?_append_right (Nat.le_refl _), Nat.sub_self, List.getElem?_cons_zero, Option.getD_some]
      exact ⟨lst_keep hr hf hk hX, hf⟩
/-- append(row, one bound). -/
theorem wp_append_side {w : World} {o : Oper} {a : Act} {Kc : Act → World → Prop} {Q : Exit → Act → World → Prop} (s x : Operand) (ho : o.op = .call { callee := .builtin .append, args := #[s, x], argTypes := #[46, 46] })
    (B : Nat) (v : Value) (bs : List LpB) (hs : a.eval s = v) (hS : Side w B v bs) (Bk g k c : Nat) (cs : List Int) (K D : Int) (hx : a.eval x = .slice (some ⟨Bk, 0, none⟩) 1 1)
    (hb : w.heap[Bk]? = some (.cells #[.slice (some ⟨g, 0, none⟩) k c, .int .i64 K, .int .i64 D] 65 (0, 0))) (hr : Lst w (some ⟨g, 0, none⟩) k c cs) (h8 : bs.length ≤ 1000) (hB : B ≤ w.heap.size)
    (h : ∀ v' w', Side w' B v' (bs ++ [⟨cs, K, D⟩]) → w.grownBy w' v.ownBlock → (v'.ownBlock = v.ownBlock ∨ v'.ownBlock = some w.heap.size) → Kc (a.put o.dst v') w') : o.wp Try.prog a w Kc Q := by
  obtain ⟨i0, hi, hz0, hz1, hz2⟩ := info_parts info_bound
  obtain ⟨vs, h1, h2, h3⟩ := hS
  obtain ⟨v', w', hrun, q2, q3, _, q5⟩ := run_append_own_at (P := Try.prog) w B 46 o.type 65 i0 _ 3 40 Try.underlying46 hi hz0 hz1 hz2 rfl (by decide) v bs.length vs h1 ⟨Bk, 0, none⟩ 1 1 [.slice (some ⟨g, 0, none⟩) k c, .int .i64 K, .int .i64 D] rfl (fun j u hj => by
    match j, hj with
    | 0, hj => simp at hj; subst hj; rw [Go.WideShapes.add_plain]; simp [World.cell?, hb]
    | 1, hj => simp at hj; subst hj; rw [Go.WideShapes.add_plain]; simp [World.cell?, hb]
    | 2, hj => simp at hj; subst hj; rw [Go.WideShapes.add_plain]; simp [World.cell?, hb]) (by simp [Value.oneCell']) (by unfold maxLen; omega) (by omega) hB
  unfold Oper.wp execOp
  simp only [ho, resolve, invoke, builtin, Sem.run_bind, Sem.run_pure, Result.andThen_ok, List.map_toArray, List.map_cons, List.map_nil, hs, hx, hrun]
  exact h v' w' (Side.grow h1 h2 h3 hr q2 q3) q3 q5

/-- All loops' rows: the s-th cell of their block holds the s-th row. -/
structure Table (w : World) (B L N : Nat) (g : Nat → Value) (T : Nat → List LpB) : Prop where
  row : w.rowIs L 48 N g
  side : ∀ s, s < N → Side w B (g s) (T s)
  apart : ∀ s t, s < N → t < N → s ≠ t → (g s).ownBlock ≠ (g t).ownBlock
  base : B ≤ L
theorem Table.below {w w' : World} {B L N : Nat} {g : Nat → Value} {T : Nat → List LpB} (h : Table w B L N g T) (hb : Below w.heap.size w w') : Table w' B L N g T :=
  ⟨h.row.of_block (hb.block L h.row.lt), fun s hs => (h.side s hs).below hb, h.apart, h.base⟩
theorem Side.ne {w : World} {B L N : Nat} {g : Nat → Value} {v : Value} {bs : List LpB} (h : Side w B v bs) (hr : w.rowIs L 48 N g) : v.ownBlock ≠ some L := by
  obtain ⟨g0, c, cur, e, _, _, _, eo, h5, _⟩ := h.own
  obtain ⟨cu, h1, _⟩ := hr
  rw [eo]
  intro ee
  obtain rfl := Option.some.inj ee
  rw [h5] at h1
  simp at h1
/-- The s-th row has been appended to, and stored. -/
theorem Table.put {w w1 : World} {B L N s n0 : Nat} {g : Nat → Value} {T : Nat → List LpB} {v : Value} {bs : List LpB} (h : Table w B L N g T) (hs : s < N) (hg : w.grownBy w1 (g s).ownBlock) (hv : Side w1 B v bs) (ho : v.ownBlock = (g s).ownBlock ∨ ∀ i, v.ownBlock = some i → w.heap.size ≤ i) :
    Table (w1.setCell ⟨L, s, none⟩ v) B L N (fun t => if t = s then v else g t) (fun t => if t = s then bs else T t) := by
  obtain ⟨g0, c0, cur, e, _, _, _, eo, _, hX⟩ := (h.side s hs).own
  have hL := (h.side s hs).ne h.row
  have hLl := h.row.lt
  have hk : ∀ b, b < w.heap.size → b ≠ g0 → w1.heap[b]? = w.heap[b]? := fun b hb hne => hg.block b hb (by rw [eo]; intro ee; exact hne (Option.some.inj ee))
  have r1 : w1.rowIs L 48 N g := h.row.of_block (hk L hLl (fun ee => hL (by rw [eo, ee])))
  have hXL : ∃ a l c, w1.cell? ⟨L, 0, none⟩ = some (.slice a l c) := by
    obtain ⟨g1, c1, _, e1, _⟩ := (h.side 0 (by omega)).own
    exact ⟨_, _, _, (r1.cell (i := 0) (by omega)).trans (by rw [e1])⟩
  have hk2 : ∀ b, b < w1.heap.size → b ≠ L → (w1.setCell ⟨L, s, none⟩ v).heap[b]? = w1.heap[b]? := fun b _ hb => Below.heap_setCell _ _ _ _ hb
  refine ⟨r1.set s v, fun t ht => ?_, fun t t' ht ht' hne => ?_, h.base⟩
  · by_cases ee : t = s
    · subst ee
      simp only
      exact hv.keep hk2 hXL (hv.ne r1)
    · simp only [if_neg ee]
      have h1 : Side w1 B (g t) (T t) := (h.side t ht).keep hk hX (by rw [← eo]; exact h.apart t s ht hs ee)
      exact h1.keep hk2 hXL (h1.ne r1)
  · have key : ∀ t, t < N → t ≠ s → v.ownBlock ≠ (g t).ownBlock := fun t ht ee => by
      rcases ho with ho | ho
      · rw [ho]; exact fun hh => h.apart t s ht hs ee hh.symm
      · obtain ⟨g1, c1, _, e1, _, _, hlt, eo1, _⟩ := (h.side t ht).own
        rw [eo1]
        intro hh
        have := ho g1 hh
        omega
    by_cases e1 : t = s
    · subst e1
      rw [if_pos rfl, if_neg (fun ee => hne ee.symm)]
      exact key t' ht' (fun ee => hne ee.symm)
    · by_cases e2 : t' = s
      · subst e2
        rw [if_neg e1, if_pos rfl]
        exact fun hh => key t ht e1 hh.symm
      · rw [if_neg e1, if_neg e2]
        exact h.apart t t' ht ht' hne
end Go.Proofs.Ytmefgejggpimeaa.V
