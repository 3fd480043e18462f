/-
  For the document's Run: append(out, lists...), the greatest and the least so far, how many lists.
-/
import Derived.Test.YtmefgejggpimeaaPtRight
import Derived.Laws.AppendOwnNone
namespace Go.Proofs.Ytmefgejggpimeaa.V
open Go.RowKit
set_option linter.unusedVariables false

theorem VL.append {w : World} {vs us : List Value} {L M : List (List Int)} (h : VL w vs L) (k : VL w us M) : VL w (vs ++ us) (L ++ M) := by
  have h1 := h.1
  have k1 := k.1
  refine ⟨by simp [h1, k1], fun i hi => ?_⟩
  by_cases hi' : i < L.length
  · obtain ⟨a, l, c, e1, e2⟩ := h.2 i hi'
    exact ⟨a, l, c, by rw [List.getElem?_append_left (by omega)]; exact e1, by rw [List.getElem?_append_left hi']; exact e2⟩
  · obtain ⟨a, l, c, e1, e2⟩ := k.2 (i - L.length) (by simp at hi; omega)
    exact ⟨a, l, c, by rw [List.getElem?_append_right (by omega), h1]; exact e1, by rw [List.getElem?_append_right (by omega)]; exact e2⟩
theorem VL.keep {w w1 : World} {vs : List Value} {L : List (List Int)} {X : Nat} (h : VL w vs L) (hk : ∀ b, b < w.heap.size → b ≠ X → w1.heap[b]? = w.heap[b]?) (hX : ∃ a l c, w.cell? ⟨X, 0, none⟩ = some (.slice a l c)) : VL w1 vs L := ⟨h.1, fun i hi => by obtain ⟨a, l, c, h1, h2, h3⟩ := h.2 i hi; exact ⟨a, l, c, h1, lst_keep h2 h3 hk hX, h3⟩⟩
theorem vl_grown {w w1 : World} {B : Nat} {v : Value} {L M : List (List Int)} {vs us : List Value} (h1 : w.ownsRow B 22 1 v L.length vs) (h2 : VL w vs L) (h3 : v = .slice none 0 0 ∨ L ≠ []) (hm : VL w us M) (hg : w.grownBy w1 v.ownBlock) : VL w1 us M := by
  rcases h3 with rfl | hL
  · have hb : Below w.heap.size w w1 := (Below.refl _ w).grown hg (Nat.le_refl _) (fun j e => by cases e)
    exact hm.below hb
  · have hl : 0 < L.length := by cases L with
      | nil => exact absurd rfl hL
      | cons x r => simp
    obtain ⟨a, l, c, e, _⟩ := h2.2 0 hl
    rcases h1.2 with ⟨_, h4⟩ | ⟨g, cap, cur, rfl, h4, h5, h6, h7, h8, h9⟩
    · omega
    · refine hm.keep (X := g) (fun b hb hne => hg.block b hb (by intro ee; exact hne (Option.some.inj ee))) ⟨a, l, c, ?_⟩
      rw [← h9, List.getElem?_take_of_lt (by omega), Array.getElem?_toList] at e
      simp [World.cell?, h5, e]
/-- append(out, lists...). -/
theorem append_many {w : World} {ops : Array Oper} {rest : List Oper} {op : Oper} {a : Act} {Q : Exit → Act → World → Prop} (hgd : op.guard = none) (s x : Operand)
    (ho : op.op = .call { callee := .builtin .append, args := #[s, x], argTypes := #[38, 38] }) (B B' : Nat)
    (v u : Value) (L M : List (List Int)) (hs : a.eval s = v) (hx : a.eval x = u) (hout : OutL w B v L) (hM : OutL w B' u M) (hbytes : (L.length + M.length) * 24 ≤ 140737488355328) (hB : B ≤ w.heap.size)
    (h : ∀ v' w', OutL w' B v' (L ++ M) → Below B w w' → wpList Try.prog ops Q rest (a.put op.dst v') w') :
    wpList Try.prog ops Q (op :: rest) a w := by
  obtain ⟨vs, h1, h2, h3⟩ := hout
  obtain ⟨us, k1, k2, k3⟩ := hM
  obtain ⟨i0, hi, hz0, hz1, hz2⟩ := info_parts info_lists
  have k1' := k1
  rcases k1.2 with ⟨e1, e2⟩ | ⟨g, cap, cur, e1, _, hgb, hcap, _, hcs, htk⟩
  · have hM0 : M = [] := by rw [← List.length_eq_zero_iff]; exact e2
    subst hM0
    rw [e1] at hx
    refine wpList_append_own_none hgd s x 38 ho B 22 i0 1 Try.underlying38 hi v L.length vs hs h1 hx ?_
    exact h v w (by rw [List.append_nil]; exact ⟨vs, h1, h2, h3⟩) (Below.refl _ _)
  · rw [e1] at hx
    refine wpList_append_own w hgd s x 38 ho B 22 i0 (.slice none 0 0) 1 24 Try.underlying38 hi hz0 hz1 hz2 rfl (by decide) v L.length vs hs h1 ⟨g, 0, none⟩ M.length cap us hx (by rw [k2.1, Nat.mul_one]) ?_ ?_ (by unfold maxLen; omega) hbytes hB (fun v' w' q1 q2 q3 => h v' w' ⟨vs ++ us, by rw [List.length_append]; exact q1, (vl_grown h1 h2 h3 h2 q2).append (vl_grown h1 h2 h3 k2 q2), ?_⟩ ((Below.refl _ _).grown q2 hB (fun j e => (h1.lt j e).1)))
    · intro j y hj
      have hjl : j < M.length := by have := (List.getElem?_eq_some_iff.1 hj).1; rw [k2.1] at this; exact this
      rw [Go.WideShapes.add_plain, Nat.zero_add]
      rw [← htk, List.getElem?_take_of_lt (by omega), Array.getElem?_toList] at hj
      simp [World.cell?, hgb, hj]
    · intro y hy
      obtain ⟨j, hj, rfl⟩ := List.mem_iff_getElem.1 hy
      obtain ⟨a', l', c', e, _⟩ := k2.2 j (by rw [← k2.1]; exact hj)
      rw [List.getElem?_eq_getElem hj] at e
      rw [Option.some.inj e]
      rfl
    · rcases h3 with h3 | h3
      · rcases k3 with k3 | k3
        · rw [e1] at k3; cases k3
        · exact .inr (by intro e; exact k3 (List.append_eq_nil_iff.1 e).2)
      · exact .inr (by intro e; exact h3 (List.append_eq_nil_iff.1 e).1)
theorem maxL_snoc (vs : List Int) (v : Int) : maxL (vs ++ [v]) = if vs.length = 0 ∨ maxL vs < v then v else maxL vs := by
  cases vs with
  | nil => simp [maxL]
  | cons u us => simp [maxL, List.foldl_append]
theorem minL_snoc (vs : List Int) (v : Int) : minL (vs ++ [v]) = if vs.length = 0 ∨ v < minL vs then v else minL vs := by
  cases vs with
  | nil => simp [minL]
  | cons u us => simp [minL, List.foldl_append]
theorem map_take_succ (bs : List LpB) (f : LpB → Int) (j : Nat) (h : j < bs.length) : ((bs.take (j + 1)).map f) = (bs.take j).map f ++ [f (bs[j]?.getD ⟨[], 0, 1⟩)] := by
  rw [List.take_succ_eq_append_getElem h, List.map_append]
  congr 1
  simp [h]
/-- The numbers of a bound keep small. -/
theorem at_bd {k : Nat} {b : LpB} {x : List Int} (h : LpFit k b) (hk : k ≤ 4) (hx : ∀ y ∈ x, 0 ≤ y ∧ y ≤ 4096) : -17592186044416 ≤ b.at x ∧ b.at x ≤ 17592186044416 := by
  have h1 := dotV_bd b.cs x h.coef hx
  have h2 := h.const
  have h3 := h.len
  unfold LpB.at worthV
  simp only
  omega
theorem div_bd {n d : Int} (hd : 1 ≤ d) (hn : -17592186044416 ≤ n ∧ n ≤ 17592186044416) : -17592186044416 ≤ n / d ∧ n / d ≤ 17592186044416 := by
  constructor
  · rw [Int.le_ediv_iff_mul_le (by omega)]
    have : (-17592186044416 : Int) * d ≤ -17592186044416 * 1 := by omega
    omega
  · have h1 : n / d ≤ n ∨ n / d ≤ 0 := by
      by_cases h : 0 ≤ n
      · exact .inl (Int.ediv_le_self _ h)
      · exact .inr (by have := Int.ediv_neg_of_neg_of_pos (show n < 0 by omega) (show 0 < d by omega); omega)
    omega
theorem lo_bd {k : Nat} {b : LpB} {x : List Int} (h : LpFit k b) (hk : k ≤ 4) (hx : ∀ y ∈ x, 0 ≤ y ∧ y ≤ 4096) : -17592186044416 ≤ b.lo x ∧ b.lo x ≤ 17592186044416 := by
  have h1 := at_bd h hk hx
  have h2 := div_bd (n := -b.at x) h.div.1 (by omega)
  unfold LpB.lo
  omega
theorem hi_bd {k : Nat} {b : LpB} {x : List Int} (h : LpFit k b) (hk : k ≤ 4) (hx : ∀ y ∈ x, 0 ≤ y ∧ y ≤ 4096) : -17592186044416 ≤ b.hi x ∧ b.hi x ≤ 17592186044416 := div_bd h.div.1 (at_bd h hk hx)
theorem fold_pick (p : Int → Prop) (f : Int → Int → Int) (hf : ∀ a n, f a n = a ∨ f a n = n) : ∀ (us : List Int) (u : Int), p u → (∀ v ∈ us, p v) → p (us.foldl f u)
  | [], u, h, _ => h
  | v :: us, u, h, hv => by
    rw [List.foldl_cons]
    refine fold_pick p f hf us _ ?_ (fun y hy => hv y (by simp [hy]))
    rcases hf u v with e | e
    · rw [e]; exact h
    · rw [e]; exact hv v (by simp)
theorem maxL_bd (vs : List Int) (m : Int) (hm : 0 ≤ m) (h : ∀ v ∈ vs, -m ≤ v ∧ v ≤ m) : -m ≤ maxL vs ∧ maxL vs ≤ m := by
  cases vs with
  | nil => simp [maxL]; omega
  | cons u us => exact fold_pick (fun v => -m ≤ v ∧ v ≤ m) _ (fun a n => by split <;> simp) us u (h u (by simp)) (fun v hv => h v (by simp [hv]))
theorem minL_bd (vs : List Int) (m : Int) (hm : 0 ≤ m) (h : ∀ v ∈ vs, -m ≤ v ∧ v ≤ m) : -m ≤ minL vs ∧ minL vs ≤ m := by
  cases vs with
  | nil => simp [minL]; omega
  | cons u us => exact fold_pick (fun v => -m ≤ v ∧ v ≤ m) _ (fun a n => by split <;> simp) us u (h u (by simp)) (fun v hv => h v (by simp [hv]))
end Go.Proofs.Ytmefgejggpimeaa.V
