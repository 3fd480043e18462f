/-
  Memory of a nest: arrays in blocks of their own.
-/
import Derived.Test.YtindmfpfpooijaaNeAt
import Derived.Test.YtindmfpfpooijaaFresh
namespace Go.Proofs.Ytindmfpfpooijaa.V
open Go.RowKit
set_option linter.unusedVariables false

/-- The first cells of a block hold numbers. -/
def RowN (W : World) (g c : Nat) (xs : List Int) : Prop := ∃ cur : Array Value, W.heap[g]? = some (.cells cur 2 (0, 0)) ∧ cur.size = c ∧ xs.length ≤ c ∧ ∀ j, j < xs.length → cur[j]? = some (.int .i64 (xs[j]?.getD 0))
theorem RowN.lt {W : World} {g c : Nat} {xs : List Int} (h : RowN W g c xs) : g < W.heap.size := by obtain ⟨cur, h, _⟩ := h; exact (Array.getElem?_eq_some_iff.1 h).1
theorem RowN.of_block {W W' : World} {g c : Nat} {xs : List Int} (h : RowN W g c xs) (e : W'.heap[g]? = W.heap[g]?) : RowN W' g c xs := by obtain ⟨cur, h1, h2⟩ := h; exact ⟨cur, e.trans h1, h2⟩
theorem RowN.below {W W' : World} {g c : Nat} {xs : List Int} (h : RowN W g c xs) (hb : Below W.heap.size W W') : RowN W' g c xs := h.of_block (hb.block _ h.lt)
theorem RowN.cell {W : World} {g c : Nat} {xs : List Int} (h : RowN W g c xs) {j : Nat} (hj : j < xs.length) : W.cell? ⟨g, j, none⟩ = some (.int .i64 (xs[j]?.getD 0)) := by
  obtain ⟨cur, h1, h2, h3, h4⟩ := h
  simp only [World.cell?, h1]
  exact h4 j hj
theorem RowN.frozen {W : World} {g c : Nat} {xs : List Int} (h : RowN W g c xs) (j : Nat) : W.frozen? ⟨g, j, none⟩ = false := by
  obtain ⟨cur, h1, _⟩ := h
  simp [World.frozen?, h1]
theorem RowN.set {W : World} {g c : Nat} {xs : List Int} (h : RowN W g c xs) (j : Nat) (v : Int) (hj : j < xs.length) : RowN (W.setCell ⟨g, j, none⟩ (.int .i64 v)) g c (xs.set j v) := by
  obtain ⟨cur, h1, h2, h3, h4⟩ := h
  refine ⟨cur.setIfInBounds j (.int .i64 v), ?_, by simp [h2], by simpa using h3, fun i hi => ?_⟩
  · simp [World.setCell, Array.getElem?_modify, h1]
  · have hi' : i < xs.length := by simpa using hi
    rw [Array.getElem?_setIfInBounds, List.getElem?_set]
    by_cases e : j = i
    · subst e
      rw [if_pos rfl, if_pos (by omega), if_pos rfl, if_pos hj]
      rfl
    · rw [if_neg e, if_neg e]
      exact h4 i hi'
theorem RowN.setO {W : World} {g c : Nat} {xs : List Int} (h : RowN W g c xs) {p : Addr} (hne : g ≠ p.block) (v : Value) : RowN (W.setCell p v) g c xs := h.of_block (Below.heap_setCell _ p _ g hne)
theorem RowN.ints {W : World} {g c : Nat} {xs : List Int} (h : RowN W g c xs) (hb : ∀ j : Nat, B64 (xs[j]?.getD 0)) (hm : xs.length ≤ 9223372036854775807) : Ints W (some ⟨g, 0, none⟩) xs.length xs := by
  refine ⟨rfl, hm, fun x hx => ?_, ?_⟩
  · obtain ⟨j, hj, e⟩ := List.getElem_of_mem hx
    have := hb j
    rw [List.getElem?_eq_getElem hj, e] at this
    exact this
  · by_cases h0 : xs.length = 0
    · exact .inl h0
    · exact .inr ⟨g, 0, rfl, fun j hj => by rw [Nat.zero_add]; exact h.cell hj⟩

/-- Memory: the list of arrays at a, each in a block of its own from N on. -/
structure Mems (W : World) (N : Nat) (a : Option Addr) (G C : Nat → Nat) (M : Mem) : Prop where
  head : M.length = 0 ∨ ∃ b off, a = some ⟨b, off, none⟩ ∧ ∀ k, k < M.length → W.cell? ⟨b, off + k, none⟩ = some (.slice (some ⟨G k, 0, none⟩) (arrM M k).length (C k)) ∧ G k ≠ b
  rows : ∀ k, k < M.length → RowN W (G k) (C k) (arrM M k)
  apart : ∀ i k, i < M.length → k < M.length → G i = G k → i = k
  lo : ∀ k, k < M.length → N ≤ G k
  bd : MemB M
  small : ∀ k, (arrM M k).length ≤ 65536
theorem Mems.of_blocks {W W' : World} {N : Nat} {a : Option Addr} {G C : Nat → Nat} {M : Mem} (h : Mems W N a G C M) (hb : ∀ (b : Nat) c t f, W.heap[b]? = some (Obj.cells c t f) → W'.heap[b]? = W.heap[b]?) : Mems W' N a G C M := by
  refine ⟨?_, fun k hk => ?_, h.apart, h.lo, h.bd, h.small⟩
  · rcases h.head with h0 | ⟨b, off, e, h1⟩
    · exact .inl h0
    · refine .inr ⟨b, off, e, fun k hk => ⟨?_, (h1 k hk).2⟩⟩
      have hc := (h1 k hk).1
      obtain ⟨o, ho, hcl⟩ := cells_of_cell hc
      refine (World.cell?_of_block (w := W) ?_).trans hc
      cases o with
      | cells c t f => exact hb b c t f ho
      | _ => cases hcl
  · obtain ⟨cur, h1, h2⟩ := h.rows k hk
    exact ⟨cur, (hb _ _ _ _ h1).trans h1, h2⟩
theorem Mems.below {W W' : World} {N : Nat} {a : Option Addr} {G C : Nat → Nat} {M : Mem} (h : Mems W N a G C M) (hb : Below W.heap.size W W') : Mems W' N a G C M :=
  h.of_blocks fun b c t f e => hb.block b (Array.getElem?_eq_some_iff.1 e).1
theorem Mems.at {W : World} {N : Nat} {a : Option Addr} {G C : Nat → Nat} {M : Mem} (h : Mems W N a G C M) {k : Nat} (hk : k < M.length) : ∃ b off, a = some ⟨b, off, none⟩ ∧ W.cell? ⟨b, off + k, none⟩ = some (.slice (some ⟨G k, 0, none⟩) (arrM M k).length (C k)) ∧ G k ≠ b := by
  rcases h.head with h0 | ⟨b, off, e, h1⟩
  · omega
  · exact ⟨b, off, e, h1 k hk⟩
theorem Mems.put {W : World} {N : Nat} {a : Option Addr} {G C : Nat → Nat} {M : Mem} (h : Mems W N a G C M) {k j : Nat} (hk : k < M.length) (hj : j < (arrM M k).length) {v : Int} (hv : B64 v) : Mems (W.setCell ⟨G k, j, none⟩ (.int .i64 v)) N a G C (putM M k j v) := by
  refine ⟨?_, fun i hi => ?_, fun i i' h1 h2 => ?_, fun i hi => ?_, putM_bd h.bd hv k j, fun i => by rw [arrM_put_len]; exact h.small i⟩
  · rw [putM_len]
    rcases h.head with h0 | ⟨b, off, e, h1⟩
    · exact .inl h0
    · refine .inr ⟨b, off, e, fun i hi => ⟨?_, (h1 i hi).2⟩⟩
      rw [arrM_put_len]
      exact (World.cell?_of_block (w := W) (Below.heap_setCell _ ⟨G k, j, none⟩ _ b (Ne.symm (h1 k hk).2))).trans (h1 i hi).1
  · rw [putM_len] at hi
    rw [arrM_put]
    by_cases e : i = k
    · subst e
      rw [if_pos ⟨rfl, hk⟩]
      exact (h.rows i hi).set j v hj
    · rw [if_neg (fun q => e q.1)]
      exact (h.rows i hi).setO (p := ⟨G k, j, none⟩) (fun q => e (h.apart i k hi hk q)) _
  · rw [putM_len] at h1 h2
    exact h.apart i i' h1 h2
  · rw [putM_len] at hi
    exact h.lo i hi

/-- What a step of a statement changes: at the most one block of memory. -/
def Chg (G : Nat → Nat) (n : Nat) (W W' : World) : Prop := ∃ row : Option Nat, W.grownBy W' row ∧ ∀ r, row = some r → ∃ k, k < n ∧ r = G k
theorem Chg.of_below {G : Nat → Nat} {n : Nat} {W W' : World} (h : Below W.heap.size W W') : Chg G n W W' := ⟨none, ⟨h.os, h.tape, h.output, h.size, fun k hk _ => h.block k hk⟩, fun r e => by cases e⟩
theorem Chg.size {G : Nat → Nat} {n : Nat} {W W' : World} (h : Chg G n W W') : W.heap.size ≤ W'.heap.size := by obtain ⟨row, h, _⟩ := h; exact h.size
theorem Chg.block {G : Nat → Nat} {n : Nat} {W W' : World} (h : Chg G n W W') {b : Nat} (hb : b < W.heap.size) (hn : ∀ k, k < n → b ≠ G k) : W'.heap[b]? = W.heap[b]? := by
  obtain ⟨row, h1, h2⟩ := h
  refine h1.block b hb (fun e => ?_)
  obtain ⟨k, hk, e2⟩ := h2 b e.symm
  exact hn k hk e2
theorem Chg.below {G : Nat → Nat} {n N : Nat} {w W W' : World} (h : Chg G n W W') (hN : ∀ k, k < n → N ≤ G k) (hB : Below N w W) (hs : N ≤ W.heap.size) : Below N w W' := by
  obtain ⟨row, h1, h2⟩ := h
  exact hB.grown h1 hs (fun j e => by obtain ⟨k, hk, e2⟩ := h2 j e; rw [e2]; exact hN k hk)
theorem Chg.set {G : Nat → Nat} {n : Nat} {W W' : World} (h : Below W.heap.size W W') {k : Nat} (hk : k < n) (j : Nat) (v : Value) : Chg G n W (W'.setCell ⟨G k, j, none⟩ v) := by
  refine ⟨some (G k), ⟨h.os, h.tape, h.output, by simpa using h.size, fun b hb hn => ?_⟩, fun r e => by cases e; exact ⟨k, hk, rfl⟩⟩
  exact (Below.heap_setCell _ ⟨G k, j, none⟩ _ b (fun e => hn (by simp only at e; rw [e]))).trans (h.block b hb)

/-- The arrays that are handed in. -/
def MemA (w : World) (a : Option Addr) (len : Nat) (L : Mem) : Prop := L.length = len ∧ len ≤ 9223372036854775807 ∧ (len = 0 ∨ ∃ b off, a = some ⟨b, off, none⟩ ∧ ∀ i, i < len → ∃ x l c, w.cell? ⟨b, off + i, none⟩ = some (.slice x l c) ∧ Lst w x l c (arrM L i))
theorem MemA.below {w w' : World} {a : Option Addr} {len : Nat} {L : Mem} (h : MemA w a len L) (hb : Below w.heap.size w w') : MemA w' a len L := by
  obtain ⟨h1, h2, h3⟩ := h
  refine ⟨h1, h2, ?_⟩
  rcases h3 with h3 | ⟨b, off, e, h⟩
  · exact .inl h3
  · refine .inr ⟨b, off, e, fun i hi => ?_⟩
    obtain ⟨x, l, c, k1, k2⟩ := h i hi
    exact ⟨x, l, c, (hb.cell (p := ⟨b, off + i, none⟩) (lt_of_cell k1)).trans k1, k2.below hb⟩
theorem MemA.at {w : World} {a : Option Addr} {len : Nat} {L : Mem} (h : MemA w a len L) (h0 : 0 < len) : ∃ b off, a = some ⟨b, off, none⟩ ∧ ∀ i, i < len → ∃ x l c, w.cell? ⟨b, off + i, none⟩ = some (.slice x l c) ∧ Lst w x l c (arrM L i) := by
  rcases h.2.2 with h3 | h3
  · omega
  · exact h3
theorem MemA.bd {w : World} {a : Option Addr} {len : Nat} {L : Mem} (h : MemA w a len L) : MemB L := by
  intro k j
  by_cases hk : k < len
  · obtain ⟨b, off, _, h1⟩ := h.at (by omega)
    obtain ⟨x, l, c, _, h2⟩ := h1 k hk
    by_cases hj : j < (arrM L k).length
    · exact h2.1.2.2.1 _ (mem_getD _ j hj)
    · rw [List.getElem?_eq_none (by omega)]; unfold B64; simp
  · have e : arrM L k = [] := by
      unfold arrM
      rw [List.getElem?_eq_none (by have := h.1; omega)]; rfl
    rw [e]; unfold B64; simp
/-- Does memory fit? -/
def fitsE (zs : List Int) (L : Mem) : Int := if L.length ≠ zs.length then 2 else if ((List.range L.length).any fun k => decide (((arrM L k).length : Int) ≠ zs[k]?.getD 0)) = true then 6 else 0
end Go.Proofs.Ytindmfpfpooijaa.V
