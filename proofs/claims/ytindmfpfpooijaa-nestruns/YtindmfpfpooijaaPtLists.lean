/-
  Lists of lists of numbers: one that the call makes, one list behind the other.
-/
import Derived.Test.YtindmfpfpooijaaLsts
import Derived.Test.YtindmfpfpooijaaPtRow
namespace Go.Proofs.Ytindmfpfpooijaa.V
open Go.RowKit
set_option linter.unusedVariables false

theorem info_lists : (Try.prog.info? 22).map (fun i => (i.zero, i.size, i.bytes)) = some (some (.slice none 0 0), 1, 24) := by kernel_rfl
/-- It begins where its block does. -/
def Flush (a : Option Addr) : Prop := ∀ b o, a = some ⟨b, o, none⟩ → o = 0
/-- The values of a row of lists. -/
def VL (w : World) (vs : List Value) (L : List (List Int)) : Prop := vs.length = L.length ∧ ∀ i, i < L.length → ∃ a l c, vs[i]? = some (.slice a l c) ∧ Lst w a l c (L[i]?.getD []) ∧ Flush a
theorem VL.below {w w' : World} {vs : List Value} {L : List (List Int)} (h : VL w vs L) (hb : Below w.heap.size w w') : VL w' vs L := ⟨h.1, fun i hi => by obtain ⟨a, l, c, h1, h2, h3⟩ := h.2 i hi; exact ⟨a, l, c, h1, h2.below hb, h3⟩⟩
/-- A list of lists of the call's own. -/
def OutL (w : World) (B : Nat) (v : Value) (L : List (List Int)) : Prop := ∃ vs, w.ownsRow B 22 1 v L.length vs ∧ VL w vs L ∧ (v = .slice none 0 0 ∨ L ≠ [])
theorem OutL.nil (w : World) (B : Nat) : OutL w B (.slice none 0 0) [] := ⟨[], World.ownsRow_nil _ _ _ _, ⟨rfl, fun i hi => by simp at hi⟩, .inl rfl⟩
theorem OutL.below {w w' : World} {B : Nat} {v : Value} {L : List (List Int)} (h : OutL w B v L) (hb : Below w.heap.size w w') : OutL w' B v L := by
  obtain ⟨vs, h1, h2, h3⟩ := h
  exact ⟨vs, own_below h1 hb, h2.below hb, h3⟩
theorem ints_no_own {w : World} {a : Option Addr} {len B : Nat} {xs : List Int} {v : Value} {L : List (List Int)} {vs : List Value} (h : Ints w a len xs) (ha : Flush a) (ho : w.ownsRow B 22 1 v L.length vs) (hv : VL w vs L) (hn : v = .slice none 0 0 ∨ L ≠ []) (h0 : 0 < len) : ∃ b, a = some ⟨b, 0, none⟩ ∧ b < w.heap.size ∧ some b ≠ v.ownBlock := by
  obtain ⟨b, off, e, hb, hc⟩ := h.at h0
  obtain rfl := ha b off e
  refine ⟨b, e, hb, fun ev => ?_⟩
  rcases ho.2 with ⟨rfl, _⟩ | ⟨g', cap, cur, rfl, _, hbk, _, _, hsz, ht⟩
  · simp [Value.ownBlock] at ev
  · obtain rfl : b = g' := by simpa [Value.ownBlock] using ev
    rcases hn with hn | hn
    · cases hn
    have hL : 0 < L.length := by
      cases L with
      | nil => exact absurd rfl hn
      | cons x r => simp
    have h1 := hc 0 h0
    obtain ⟨a', l', c', h2, _⟩ := hv.2 0 hL
    rw [← ht] at h2
    have h3 : cur[0]? = some (.slice a' l' c') := by
      rw [List.getElem?_take] at h2
      split at h2
      · simpa using h2
      · cases h2
    simp [World.cell?, hbk, h3] at h1
theorem lst_kept {w w1 : World} {o : Obj} {a : Option Addr} {len c B : Nat} {xs : List Int} {v : Value} {L : List (List Int)} {vs : List Value} (h : Lst w a len c xs) (ha : Flush a) (ho : w.ownsRow B 22 1 v L.length vs) (hv : VL w vs L) (hn : v = .slice none 0 0 ∨ L ≠ []) (hg : (w.alloc o).grownBy w1 v.ownBlock) : Lst w1 a len c xs := by
  obtain ⟨⟨h1, h2, h3, h4⟩, h5, h6⟩ := h
  refine ⟨⟨h1, h2, h3, ?_⟩, h5, h6⟩
  by_cases h0 : len = 0
  · exact .inl h0
  · obtain ⟨b, e, hb, hne⟩ := ints_no_own ⟨h1, h2, h3, h4⟩ ha ho hv hn (by omega)
    rcases h4 with h4 | ⟨b', off, e', hc⟩
    · exact .inl h4
    · rw [e] at e'
      cases e'
      refine .inr ⟨b, 0, e, fun j hj => ?_⟩
      have k1 : w1.heap[b]? = (w.alloc o).heap[b]? := hg.block b (by simp; omega) hne
      have k2 : (w.alloc o).heap[b]? = w.heap[b]? := Below.heap_alloc _ _ _ hb
      exact (World.cell?_of_block (w := w) (k1.trans k2)).trans (hc j hj)
theorem OutL.snoc {w w1 : World} {o : Obj} {B : Nat} {v v' : Value} {L : List (List Int)} {vs : List Value} {a : Option Addr} {l c : Nat} {xs : List Int} (ho : w.ownsRow B 22 1 v L.length vs) (hv : VL w vs L) (hn : v = .slice none 0 0 ∨ L ≠ []) (hx : Lst w a l c xs) (ha : Flush a)
    (hown : w1.ownsRow B 22 1 v' (L.length + 1) (vs ++ [.slice a l c])) (hg : (w.alloc o).grownBy w1 v.ownBlock) : OutL w1 B v' (L ++ [xs]) := by
  refine ⟨vs ++ [.slice a l c], by rw [List.length_append]; exact hown, ⟨by simp [hv.1], fun i hi => ?_⟩, .inr (by simp)⟩
  by_cases hi' : i < L.length
  · obtain ⟨a', l', c', h1, h2, h3⟩ := hv.2 i hi'
    refine ⟨a', l', c', by rw [List.getElem?_append_left (by rw [hv.1]; exact hi')]; exact h1, ?_, h3⟩
    rw [List.getElem?_append_left hi']
    exact lst_kept h2 h3 ho hv hn hg
  · have e : i = L.length := by simp at hi; omega
    subst e
    refine ⟨a, l, c, by rw [List.getElem?_append_right (by rw [hv.1]; exact Nat.le_refl _)]; simp [hv.1], ?_, ha⟩
    rw [List.getElem?_append_right (Nat.le_refl _)]
    simp only [Nat.sub_self, List.getElem?_cons_zero, Option.getD_some]
    exact lst_kept hx ha ho hv hn hg
theorem OutL.grownB {w w1 wr : World} {o : Obj} {B : Nat} {v : Value} {n : Nat} {vs : List Value} (hB : Below B w wr) (hBs : B ≤ wr.heap.size) (ho : wr.ownsRow B 22 1 v n vs) (hg : (wr.alloc o).grownBy w1 v.ownBlock) : Below B w w1 :=
  (hB.alloc hBs o).grown hg (by simp; omega) (fun j e => (ho.lt j e).1)
/-- append(out, list): out of the call's own; the new list lies in a block of one cell. -/
theorem append_lists {w : World} {ops : Array Oper} {rest : List Oper} {op : Oper} {a : Act} {Q : Exit → Act → World → Prop} (hgd : op.guard = none) (s x : Operand)
    (ho : op.op = .call { callee := .builtin .append, args := #[s, x], argTypes := #[70, 70] }) (B : Nat)
    (v : Value) (L : List (List Int)) (hs : a.eval s = v) (X : Option Addr) (l c : Nat) (xs : List Int) (hout : OutL w B v L) (hX : Lst w X l c xs) (hf : Flush X)
    (hx : a.eval x = .slice (some ⟨w.heap.size, 0, none⟩) 1 1) (hbytes : (L.length + 1) * 24 ≤ 140737488355328) (hB : B ≤ w.heap.size)
    (h : ∀ v' w', OutL w' B v' (L ++ [xs]) → Below B w w' → wpList Try.prog ops Q rest (a.put op.dst v') w') :
    wpList Try.prog ops Q (op :: rest) a (w.alloc (.cells #[.slice X l c] 22)) := by
  obtain ⟨vs, h1, h2, h3⟩ := hout
  obtain ⟨i0, hi, hz0, hz1, hz2⟩ := info_parts info_lists
  refine wpList_append_own _ hgd s x 70 ho B 22 i0 (.slice none 0 0) 1 24 Try.underlying70 hi hz0 hz1 hz2 rfl (by decide) v L.length vs hs (h1.alloc _) ⟨w.heap.size, 0, none⟩ 1 1 [.slice X l c] hx rfl ?_ ?_ (by unfold maxLen; omega) hbytes (by simp; omega) (fun v' w' k1 k2 _ => h v' w' (OutL.snoc h1 h2 h3 hX hf k1 k2) (OutL.grownB (Below.refl _ _) hB h1 k2))
  · intro j u hj
    have hjl : j = 0 := by have := (List.getElem?_eq_some_iff.1 hj).1; simp at this; exact this
    subst hjl
    simp at hj
    rw [← hj, Go.WideShapes.add_plain]
    show (w.alloc (.cells #[.slice X l c] 22)).cell? ⟨w.heap.size, 0 + 0, none⟩ = _
    unfold World.cell?
    rw [World.alloc_heap_new w (.cells #[.slice X l c] 22)]
    rfl
  · intro u hu; simp at hu; subst hu; rfl
/-- What a caller reads of it. -/
def LL (w : World) (A : Option Addr) (n : Nat) (L : List (List Int)) : Prop := L.length = n ∧ (n = 0 ∨ ∃ b off, A = some ⟨b, off, none⟩ ∧ ∀ i, i < n → ∃ a l c, w.cell? ⟨b, off + i, none⟩ = some (.slice a l c) ∧ Lst w a l c (L[i]?.getD []) ∧ Flush a)
theorem LL.below {w w' : World} {A : Option Addr} {n : Nat} {L : List (List Int)} (h : LL w A n L) (hb : Below w.heap.size w w') : LL w' A n L := by
  obtain ⟨h1, h2⟩ := h
  refine ⟨h1, ?_⟩
  rcases h2 with h2 | ⟨b, off, e, h⟩
  · exact .inl h2
  · refine .inr ⟨b, off, e, fun i hi => ?_⟩
    obtain ⟨a, l, c, k1, k2, k3⟩ := h i hi
    exact ⟨a, l, c, (hb.cell (p := ⟨b, off + i, none⟩) (lt_of_cell k1)).trans k1, k2.below hb, k3⟩
theorem OutL.ll {w : World} {B : Nat} {v : Value} {L : List (List Int)} (h : OutL w B v L) : ∃ A c, v = .slice A L.length c ∧ LL w A L.length L ∧ L.length ≤ c := by
  obtain ⟨vs, h1, h2, h3⟩ := h
  have h1' := h1
  rcases h1.2 with ⟨e1, e2⟩ | ⟨g, cap, cur, rfl, _, _, hcap, _⟩
  · refine ⟨none, 0, by rw [e1, e2], ⟨rfl, .inl e2⟩, by omega⟩
  · refine ⟨_, cap, rfl, ⟨rfl, .inr ⟨g, 0, rfl, fun i hi => ?_⟩⟩, hcap⟩
    obtain ⟨a, l, c, k1, k2, k3⟩ := h2.2 i hi
    exact ⟨a, l, c, by rw [Nat.zero_add, h1'.cellAt i (by omega)]; exact k1, k2, k3⟩
theorem lst_of_own {w : World} {B : Nat} {v : Value} {n : Nat} {xs : List Int} (h : w.ownsRow B 3 1 v n (xs.map (Value.int .i64))) (hl : xs.length = n) (hm : n ≤ 9223372036854775807) (hb : ∀ x ∈ xs, -9223372036854775808 ≤ x ∧ x ≤ 9223372036854775807) : ∃ X c, v = .slice X n c ∧ Lst w X n c xs ∧ Flush X := by
  rcases h.2 with ⟨rfl, h2⟩ | ⟨g, cap, cur, rfl, h3, _, h4, _⟩
  · have e : xs = [] := by rw [← List.length_eq_zero_iff]; omega
    subst e
    exact ⟨none, 0, by rw [h2], ⟨⟨hl, hm, hb, .inl h2⟩, by omega, fun _ => rfl⟩, fun b o e => by cases e⟩
  · exact ⟨_, _, rfl, ⟨ints_of_own h hl hm hb, h4, fun e => by cases e⟩, fun b o e => by cases e; rfl⟩
theorem own_one (W : World) (B : Nat) (t : TypeId) (u : Value) (hB : B ≤ W.heap.size) : (W.alloc (.cells #[u] t)).ownsRow B t 1 (.slice (some ⟨W.heap.size, 0, none⟩) 1 1) 1 [u] :=
  ⟨rfl, .inr ⟨_, 1, #[u], rfl, hB, World.alloc_heap_new W _, Nat.le_refl _, by decide, rfl, rfl⟩⟩
theorem own_empty (W : World) (B : Nat) (t : TypeId) (hB : B ≤ W.heap.size) : (W.alloc (.cells #[] t)).ownsRow B t 1 (.slice (some ⟨W.heap.size, 0, none⟩) 0 0) 0 [] :=
  ⟨rfl, .inr ⟨_, 0, #[], rfl, hB, World.alloc_heap_new W _, Nat.le_refl _, by decide, rfl, rfl⟩⟩
theorem LL.at {w : World} {A : Option Addr} {n : Nat} {L : List (List Int)} (h : LL w A n L) (h0 : 0 < n) : ∃ b off, A = some ⟨b, off, none⟩ ∧ ∀ i, i < n → ∃ a l c, w.cell? ⟨b, off + i, none⟩ = some (.slice a l c) ∧ Lst w a l c (L[i]?.getD []) ∧ Flush a := by
  rcases h.2 with h2 | h2
  · omega
  · exact h2
end Go.Proofs.Ytindmfpfpooijaa.V
