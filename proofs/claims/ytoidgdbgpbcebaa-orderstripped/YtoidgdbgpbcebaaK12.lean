/-
  Lists of lists of numbers: one that the call makes; each list's block is known to hold numbers. Contract: the document's Box. Contracts: the document's All, Count, Nth, same, Ahead. Contract: the document's Spots. Contracts: list.Fresh of int64, list.Each of arrays. Orders: another order does the same where no two that are in each other's way change places; times have a linear order.
-/
import Derived.Test.YtoidgdbgpbcebaaK10
import Derived.Test.YtoidgdbgpbcebaaK11
import Derived.Test.YtoidgdbgpbcebaaK7
import Derived.Test.YtoidgdbgpbcebaaK8
namespace Go.Proofs.Ytoidgdbgpbcebaa.V
open Go.RowKit
set_option linter.unusedVariables false

/-- It begins where its block does, which holds numbers. -/
def FlushT (w : World) (a : Option Addr) : Prop := ∀ b o, a = some ⟨b, o, none⟩ → o = 0 ∧ ∃ cur, w.heap[b]? = some (.cells cur 3 (0, 0))
theorem FlushT.below {w w' : World} {a : Option Addr} (h : FlushT w a) (hb : Below w.heap.size w w') : FlushT w' a := fun b o e => by
  obtain ⟨h1, cur, h2⟩ := h b o e
  exact ⟨h1, cur, (hb.block b (Array.getElem?_eq_some_iff.1 h2).1).trans h2⟩
theorem FlushT.cells {w w' : World} {a : Option Addr} (h : FlushT w a) (hb : ∀ (b : Nat) cur, w.heap[b]? = some (Obj.cells cur 3 (0, 0)) → w'.heap[b]? = w.heap[b]?) : FlushT w' a := fun b o e => by
  obtain ⟨h1, cur, h2⟩ := h b o e
  exact ⟨h1, cur, (hb b cur h2).trans h2⟩
theorem lst_cells {w w' : World} {a : Option Addr} {len c : Nat} {xs : List Int} (h : Lst w a len c xs) (hf : FlushT w a) (hb : ∀ (b : Nat) cur, w.heap[b]? = some (Obj.cells cur 3 (0, 0)) → w'.heap[b]? = w.heap[b]?) : Lst w' a len c xs := by
  obtain ⟨⟨h1, h2, h3, h4⟩, h5⟩ := h
  refine ⟨⟨h1, h2, h3, ?_⟩, h5⟩
  rcases h4 with h4 | ⟨b, off, e, hc⟩
  · exact .inl h4
  · obtain ⟨_, cur, h6⟩ := hf b off e
    exact .inr ⟨b, off, e, fun j hj => (World.cell?_of_block (w := w) (hb b cur h6)).trans (hc j hj)⟩
/-- What an append to a row of other things leaves: all blocks of numbers. -/
theorem ints_left {w w1 : World} {o : Obj} {B size n : Nat} {t : TypeId} {v : Value} {vs : List Value} {t' : TypeId} (ht : t ≠ t') (ho : w.ownsRow B t size v n vs) (hg : (w.alloc o).grownBy w1 v.ownBlock) (b : Nat) (cur : Array Value) (h : w.heap[b]? = some (Obj.cells cur t' (0, 0))) : w1.heap[b]? = w.heap[b]? := by
  have hb := (Array.getElem?_eq_some_iff.1 h).1
  refine (hg.block b (by simp; omega) (fun ev => ?_)).trans (Below.heap_alloc _ _ _ hb)
  rcases ho.2 with ⟨rfl, _⟩ | ⟨g', cap, cur', rfl, _, hbk, _⟩
  · simp [Value.ownBlock] at ev
  · obtain rfl : b = g' := by simpa [Value.ownBlock] using ev
    rw [hbk] at h
    cases h
    exact ht rfl
/-- The values of a row of lists. -/
def VLT (w : World) (vs : List Value) (L : List (List Int)) : Prop := vs.length = L.length ∧ ∀ i, i < L.length → ∃ a l c, vs[i]? = some (.slice a l c) ∧ Lst w a l c (L[i]?.getD []) ∧ FlushT w a
theorem VLT.below {w w' : World} {vs : List Value} {L : List (List Int)} (h : VLT w vs L) (hb : Below w.heap.size w w') : VLT w' vs L := ⟨h.1, fun i hi => by obtain ⟨a, l, c, h1, h2, h3⟩ := h.2 i hi; exact ⟨a, l, c, h1, h2.below hb, h3.below hb⟩⟩
/-- A list of lists of the call's own. -/
def OutLT (w : World) (B : Nat) (v : Value) (L : List (List Int)) : Prop := ∃ vs, w.ownsRow B 22 1 v L.length vs ∧ VLT w vs L ∧ (v = .slice none 0 0 ∨ L ≠ [])
theorem OutLT.nil (w : World) (B : Nat) : OutLT w B (.slice none 0 0) [] := ⟨[], World.ownsRow_nil _ _ _ _, ⟨rfl, fun i hi => by simp at hi⟩, .inl rfl⟩
theorem OutLT.below {w w' : World} {B : Nat} {v : Value} {L : List (List Int)} (h : OutLT w B v L) (hb : Below w.heap.size w w') : OutLT w' B v L := by
  obtain ⟨vs, h1, h2, h3⟩ := h
  exact ⟨vs, own_below h1 hb, h2.below hb, h3⟩
theorem OutLT.snoc {w w1 : World} {o : Obj} {B : Nat} {v v' : Value} {L : List (List Int)} {vs : List Value} {a : Option Addr} {l c : Nat} {xs : List Int} (ho : w.ownsRow B 22 1 v L.length vs) (hv : VLT w vs L) (hn : v = .slice none 0 0 ∨ L ≠ []) (hx : Lst w a l c xs) (ha : FlushT w a)
    (hown : w1.ownsRow B 22 1 v' (L.length + 1) (vs ++ [.slice a l c])) (hg : (w.alloc o).grownBy w1 v.ownBlock) : OutLT w1 B v' (L ++ [xs]) := by
  have hb := ints_left (t := 22) (t' := 3) (by decide) ho hg
  refine ⟨vs ++ [.slice a l c], by rw [List.length_append]; exact hown, ⟨by simp [hv.1], fun i hi => ?_⟩, .inr (by simp)⟩
  by_cases hi' : i < L.length
  · obtain ⟨a', l', c', h1, h2, h3⟩ := hv.2 i hi'
    refine ⟨a', l', c', by rw [List.getElem?_append_left (by rw [hv.1]; exact hi')]; exact h1, ?_, h3.cells hb⟩
    rw [List.getElem?_append_left hi']
    exact lst_cells h2 h3 hb
  · have e : i = L.length := by simp at hi; omega
    subst e
    refine ⟨a, l, c, by rw [List.getElem?_append_right (by rw [hv.1]; exact Nat.le_refl _)]; simp [hv.1], ?_, ha.cells hb⟩
    rw [List.getElem?_append_right (Nat.le_refl _)]
    simp only [Nat.sub_self, List.getElem?_cons_zero, Option.getD_some]
    exact lst_cells hx ha hb
/-- append(out, list): out of the call's own; the new list lies in a block of one cell. -/
theorem append_listsT {w : World} {ops : Array Oper} {rest : List Oper} {op : Oper} {a : Act} {Q : Exit → Act → World → Prop} (hgd : op.guard = none) (s x : Operand)
    (ho : op.op = .call { callee := .builtin .append, args := #[s, x], argTypes := #[112, 112] }) (B : Nat)
    (v : Value) (L : List (List Int)) (hs : a.eval s = v) (X : Option Addr) (l c : Nat) (xs : List Int) (hout : OutLT w B v L) (hX : Lst w X l c xs) (hf : FlushT w X)
    (hx : a.eval x = .slice (some ⟨w.heap.size, 0, none⟩) 1 1) (hbytes : (L.length + 1) * 24 ≤ 140737488355328) (hB : B ≤ w.heap.size)
    (h : ∀ v' w', OutLT w' B v' (L ++ [xs]) → Below B w w' → wpList Try.prog ops Q rest (a.put op.dst v') w') :
    wpList Try.prog ops Q (op :: rest) a (w.alloc (.cells #[.slice X l c] 22)) := by
  obtain ⟨vs, h1, h2, h3⟩ := hout
  obtain ⟨i0, hi, hz0, hz1, hz2⟩ := info_parts info_lists
  refine wpList_append_own _ hgd s x 112 ho B 22 i0 (.slice none 0 0) 1 24 Try.underlying112 hi hz0 hz1 hz2 rfl (by decide) v L.length vs hs (h1.alloc _) ⟨w.heap.size, 0, none⟩ 1 1 [.slice X l c] hx rfl ?_ ?_ (by unfold maxLen; omega) hbytes (by simp; omega) (fun v' w' k1 k2 _ => h v' w' (OutLT.snoc h1 h2 h3 hX hf k1 k2) (OutL.grownB (Below.refl _ _) hB h1 k2))
  · intro j u hj
    have hjl : j = 0 := by have := (List.getElem?_eq_some_iff.1 hj).1; simp at this; exact this
    subst hjl
    simp at hj
    rw [← hj, Go.WideShapes.add_plain]
    show (w.alloc (.cells #[.slice X l c] 22)).cell? ⟨w.heap.size, 0 + 0, none⟩ = _
    unfold World.cell?
    rw [World.alloc_heap_new w (.cells #[.slice X l c] 22)]
    rfl
  · intro u hu; simp at hu; subst hu; rfl
/-- What a caller reads of it. -/
def LLT (w : World) (A : Option Addr) (n : Nat) (L : List (List Int)) : Prop := L.length = n ∧ (n = 0 ∨ ∃ b off, A = some ⟨b, off, none⟩ ∧ (∃ cur, w.heap[b]? = some (Obj.cells cur 22 (0, 0))) ∧ ∀ i, i < n → ∃ a l c, w.cell? ⟨b, off + i, none⟩ = some (.slice a l c) ∧ Lst w a l c (L[i]?.getD []) ∧ FlushT w a)
theorem LLT.below {w w' : World} {A : Option Addr} {n : Nat} {L : List (List Int)} (h : LLT w A n L) (hb : Below w.heap.size w w') : LLT w' A n L := by
  obtain ⟨h1, h2⟩ := h
  refine ⟨h1, ?_⟩
  rcases h2 with h2 | ⟨b, off, e, ⟨cur, ht⟩, h⟩
  · exact .inl h2
  · refine .inr ⟨b, off, e, ⟨cur, (hb.block b (Array.getElem?_eq_some_iff.1 ht).1).trans ht⟩, fun i hi => ?_⟩
    obtain ⟨a, l, c, k1, k2, k3⟩ := h i hi
    exact ⟨a, l, c, (hb.cell (p := ⟨b, off + i, none⟩) (lt_of_cell k1)).trans k1, k2.below hb, k3.below hb⟩
theorem OutLT.ll {w : World} {B : Nat} {v : Value} {L : List (List Int)} (h : OutLT w B v L) : ∃ A c, v = .slice A L.length c ∧ LLT w A L.length L ∧ L.length ≤ c := by
  obtain ⟨vs, h1, h2, h3⟩ := h
  have h1' := h1
  rcases h1.2 with ⟨e1, e2⟩ | ⟨g, cap, cur, rfl, _, hbk, hcap, _⟩
  · refine ⟨none, 0, by rw [e1, e2], ⟨rfl, .inl e2⟩, by omega⟩
  · refine ⟨_, cap, rfl, ⟨rfl, .inr ⟨g, 0, rfl, ⟨cur, hbk⟩, fun i hi => ?_⟩⟩, hcap⟩
    obtain ⟨a, l, c, k1, k2, k3⟩ := h2.2 i hi
    exact ⟨a, l, c, by rw [Nat.zero_add, h1'.cellAt i (by omega)]; exact k1, k2, k3⟩
theorem lst_of_ownT {w : World} {B : Nat} {v : Value} {n : Nat} {xs : List Int} (h : w.ownsRow B 3 1 v n (xs.map (Value.int .i64))) (hl : xs.length = n) (hm : n ≤ 9223372036854775807) (hb : ∀ x ∈ xs, -9223372036854775808 ≤ x ∧ x ≤ 9223372036854775807) : ∃ X c, v = .slice X n c ∧ Lst w X n c xs ∧ FlushT w X := by
  rcases h.2 with ⟨rfl, h2⟩ | ⟨g, cap, cur, rfl, h3, hbk, h4, _⟩
  · have e : xs = [] := by rw [← List.length_eq_zero_iff]; omega
    subst e
    exact ⟨none, 0, by rw [h2], ⟨⟨hl, hm, hb, .inl h2⟩, by omega, fun _ => rfl⟩, fun b o e => by cases e⟩
  · exact ⟨_, _, rfl, ⟨ints_of_own h hl hm hb, h4, fun e => by cases e⟩, fun b o e => by cases e; exact ⟨rfl, _, hbk⟩⟩
theorem LLT.at {w : World} {A : Option Addr} {n : Nat} {L : List (List Int)} (h : LLT w A n L) (h0 : 0 < n) : ∃ b off, A = some ⟨b, off, none⟩ ∧ ∀ i, i < n → ∃ a l c, w.cell? ⟨b, off + i, none⟩ = some (.slice a l c) ∧ Lst w a l c (L[i]?.getD []) ∧ FlushT w a := by
  rcases h.2 with h2 | h2
  · omega
  · obtain ⟨b, off, e, _, h3⟩ := h2
    exact ⟨b, off, e, h3⟩
theorem LLT.cells {w w' : World} {A : Option Addr} {n : Nat} {L : List (List Int)} (h : LLT w A n L) (h1 : ∀ (b : Nat) cur, w.heap[b]? = some (Obj.cells cur 3 (0, 0)) → w'.heap[b]? = w.heap[b]?) (h2 : ∀ (b : Nat) cur, w.heap[b]? = some (Obj.cells cur 22 (0, 0)) → w'.heap[b]? = w.heap[b]?) : LLT w' A n L := by
  obtain ⟨g1, g2⟩ := h
  refine ⟨g1, ?_⟩
  rcases g2 with g2 | ⟨b, off, e, ⟨cur, ht⟩, h⟩
  · exact .inl g2
  · refine .inr ⟨b, off, e, ⟨cur, (h2 b cur ht).trans ht⟩, fun i hi => ?_⟩
    obtain ⟨a, l, c, k1, k2, k3⟩ := h i hi
    exact ⟨a, l, c, (World.cell?_of_block (w := w) (h2 b cur ht)).trans k1, lst_cells k2 k3 h1, k3.cells h1⟩
end Go.Proofs.Ytoidgdbgpbcebaa.V
namespace Go.Proofs.Ytoidgdbgpbcebaa.V
open Go.RowKit
set_option linter.unusedVariables false

set_option maxHeartbeats 1000000 in
theorem rbox_nilT (a : Option Addr) (cap : Nat) (w : World) :
    Calls Try.prog 84 #[.slice a 0 cap] w fun e w' => (∃ A c, e = .returned (.slice A (BL []).length c) ∧ LLT w' A (BL []).length (BL [])) ∧ Below w.heap.size w w' := by
  have e0 : BL [] = [[]] := by simp [BL, prod, indexV]
  have HE := hide e0
  clear e0
  go_enter Try.func84, Try.ntmps84
  go_wp2
  go_ret
  rw [HE.out]
  refine ⟨⟨some ⟨w.heap.size + 1, 0, none⟩, 1, rfl, rfl, .inr ⟨w.heap.size + 1, 0, rfl, ⟨_, by have := World.alloc_heap_new (w.alloc (.cells #[] 3)) (.cells #[.slice (some ⟨w.heap.size, 0, none⟩) 0 0] 22); rw [World.size_alloc] at this; exact this⟩, fun i hi => ?_⟩⟩, bl_on (bl_new _) (bl_new _)⟩
  obtain rfl : i = 0 := by simp at hi; exact hi
  refine ⟨some ⟨w.heap.size, 0, none⟩, 0, 0, ?_, ⟨⟨rfl, by omega, by simp, .inl rfl⟩, Nat.le_refl _, fun e => by cases e⟩, fun b o e => by cases e; exact ⟨rfl, _, (Below.heap_alloc _ _ _ (by simp)).trans (World.alloc_heap_new w _)⟩⟩
  have := (Boxed.new (w.alloc (.cells #[] 3)) 22 (.slice (some ⟨w.heap.size, 0, none⟩) 0 0)).cell
  rw [World.size_alloc] at this
  exact this

set_option maxRecDepth 100000 in
set_option maxHeartbeats 4000000 in
theorem rbox_snocT (a : Option Addr) (len cap : Nat) (ds : List Int) (d : Int) (w : World) (h : Lst w a (len + 1) cap (ds ++ [d])) (h4 : len ≤ 3) (hd : 0 ≤ d ∧ d ≤ 4096) (hds : ∀ x ∈ ds, 0 ≤ x ∧ x ≤ 4096) (hp0 : 0 ≤ prod ds) (hp1 : prod ds ≤ 68719476736) (hp : prod (ds ++ [d]) ≤ 68719476736)
    (ih : ∀ w1 : World, Lst w1 a len cap ds → Calls Try.prog 84 #[.slice a len cap] w1 fun e w' => (∃ A c, e = .returned (.slice A (BL ds).length c) ∧ LLT w' A (BL ds).length (BL ds)) ∧ Below w1.heap.size w1 w') :
    Calls Try.prog 84 #[.slice a (len + 1) cap] w fun e w' => (∃ A c, e = .returned (.slice A (BL (ds ++ [d])).length c) ∧ LLT w' A (BL (ds ++ [d])).length (BL (ds ++ [d]))) ∧ Below w.heap.size w w' := by
  have hl : ds.length = len := by have := h.1.1; simpa using this
  have hcap := h.2.1
  have hpre : Lst w a len cap ds := by
    obtain ⟨⟨h1, h2, h3, h4⟩, h5, h6⟩ := h
    refine ⟨⟨hl, by omega, fun x hx => h3 x (by simp [hx]), ?_⟩, by omega, h6⟩
    rcases h4 with h4 | ⟨b, off, e, hc⟩
    · omega
    · refine .inr ⟨b, off, e, fun j hj => ?_⟩
      have := hc j (by omega)
      rwa [List.getElem?_append_left (by omega)] at this
  obtain ⟨b, off, rfl, hb, hc⟩ := h.1.at (by omega)
  have hlast : w.cell? ⟨b, off + len, none⟩ = some (.int .i64 d) := by
    have := hc len (by omega)
    rw [List.getElem?_append_right (by omega), hl, Nat.sub_self] at this
    simpa using this
  obtain ⟨D, hD⟩ : ∃ D : Nat, d = (D : Int) := ⟨d.toNat, by omega⟩
  subst hD
  have eB : BL (ds ++ [(D : Int)]) = (BL ds).flatMap (fun x => more x D) := by
    have := BL_snoc ds (D : Int) hd.1 hp0
    simpa using this
  have hprod : (prod ds).toNat * D ≤ 68719476736 := by
    have : (prod (ds ++ [(D : Int)])).toNat = (prod ds).toNat * D := by
      rw [← BL_len, eB, box_flat_len, BL_len]
    omega
  have hn : (BL ds).length ≤ 68719476736 := by rw [BL_len]; omega
  have HPR : Hid ((BL ds).length * D ≤ 68719476736) := by rw [Hid, BL_len]; exact hprod
  have HEB := hide eB
  have HIH := hide (ih w hpre)
  have HDS := hide hds
  have hlt := lt_of_cell hlast
  simp only at hlt
  have HLAST := hide hlast
  have hD4 : D ≤ 4096 := by omega
  have HLL := hide hl
  clear h ih hds hp0 hp1 hp hd hpre hc eB hprod hl
  go_enter Try.func84, Try.ntmps84
  go_wp2_with fail
  refine HIH.out.mono ?_
  rintro e w1 ⟨⟨A, c, rfl, hLL⟩, hb1⟩
  obtain ⟨N, hN⟩ : ∃ N, N = (BL ds).length := ⟨_, rfl⟩
  rw [← hN] at hLL hn HPR
  rw [← hN]
  have HN := hide hN
  have HLS := hide hLL
  have HB1 := hide hb1
  have hl1 : w1.cell? ⟨b, off + len, none⟩ = some (.int .i64 (D : Int)) := (hb1.cell (p := ⟨b, off + len, none⟩) hb).trans hlast
  have hb' : b < w1.heap.size := Nat.lt_of_lt_of_le hb hb1.size
  have HL1 := hide hl1
  clear hLL hb1 hN hlast hlt HLAST hl1
  go_wp2_with fail
  go_loopw [3, 19] (fun out i wr => ∃ k : Nat, k ≤ N ∧ i = .int .i64 k ∧ OutLT wr w1.heap.size out (((BL ds).take k).flatMap (fun x => more x D)) ∧ Below w1.heap.size w1 wr) (fun _ i _ => N - (intOf i).toNat)
  case atStart => exact ⟨0, Nat.zero_le _, rfl, by simpa using OutLT.nil _ _, Below.refl _ _⟩
  case round =>
    obtain ⟨k, hk, rfl, hout, hB⟩ := hrel
    have HOUT := hide hout
    have HB := hide hB
    clear hout hB
    by_cases hlt : k < N
    · have hkl : k < (BL ds).length := by rw [← HN.out]; exact hlt
      obtain ⟨xb, xo, rfl, hat⟩ := HLS.out.at (by omega)
      obtain ⟨xa, xl, xc, x0, x2, x3⟩ := hat k hlt
      have x1 := (HB.out.cell (p := ⟨xb, xo + k, none⟩) (lt_of_cell x0)).trans x0
      clear x0
      have hmem : (BL ds)[k]?.getD [] ∈ BL ds := by simp [hkl]
      obtain ⟨x, hx⟩ : ∃ x, x = (BL ds)[k]?.getD [] := ⟨_, rfl⟩
      rw [← hx] at x2 hmem
      have hxl := BL_mem HDS.out hmem
      have hx4 : xl ≤ 3 := by have := x2.1.1; have := HLL.out; omega
      have HT := hide (take_succL (BL ds) k hkl)
      rw [← hx] at HT
      have z1 := lt_of_cell x1
      simp only at z1
      have HX := hide x2
      have HXF := hide x3
      have HXL := hide hxl
      obtain ⟨F, hF⟩ : ∃ F, F = ((BL ds).take k).flatMap (fun x => more x D) := ⟨_, rfl⟩
      rw [← hF] at HOUT
      have hFl : F.length = k * D := by rw [hF, box_flat_len, List.length_take]; congr 1; omega
      have hFl2 : F.length + D ≤ 68719476736 := by
        have h1 : (k + 1) * D ≤ N * D := Nat.mul_le_mul_right D hlt
        have h2 := HPR.out
        rw [Nat.succ_mul] at h1
        omega
      have HF := hide hF
      clear hat x2 x3 hmem hx hxl hkl hF hFl
      go_wp2_with fail
      go_loopw [3, 6] (fun out i wr' => ∃ r : Nat, r ≤ D ∧ i = .int .i64 r ∧ OutLT wr' w1.heap.size out (F ++ more x r) ∧ Below w1.heap.size w1 wr') (fun _ i _ => D - (intOf i).toNat)
      case atStart => exact ⟨0, Nat.zero_le _, rfl, by simpa [more] using HOUT.out, HB.out⟩
      case round =>
        clear HOUT HB x1 z1
        obtain ⟨r, hr, rfl, hout, hB⟩ := hrel
        have hX := HX.out.below hB
        have hlr : wr.cell? ⟨b, off + len, none⟩ = some (.int .i64 (D : Int)) := (hB.cell (p := ⟨b, off + len, none⟩) hb').trans HL1.out
        have hbr : b < wr.heap.size := Nat.lt_of_lt_of_le hb' hB.size
        have hwz := hB.size
        by_cases hlt2 : r < D
        · have B1 : Below wr.heap.size wr (wr.alloc (.cells #[] 3)) := bl_new _
          have HO1 := hide (own_empty wr wr.heap.size 3 (Nat.le_refl _))
          have HXr := hide (hX.below B1)
          have HB1' := hide B1
          have HOUT := hide hout
          have HB := hide hB
          have HBND : Hid (∀ z ∈ x ++ [(r : Int)], -9223372036854775808 ≤ z ∧ z ≤ 9223372036854775807) := fun z hz => by
            rcases List.mem_append.1 hz with hz | hz
            · have := HXL.out.2 z hz; omega
            · have : z = r := by simpa using hz
              omega
          have HXN := hide hX.1.1
          have HMS := hide (more_succ x r)
          clear hout hB hX B1
          go_wp2_with (first
            | (at_builtin; refine append_listsT rfl _ _ rfl w1.heap.size _ (F ++ more x r) rfl X3 (xl + 1) c3 (x ++ [(r : Int)]) (HOUT.out.below HB3.out) HX3.out HF3.out rfl (by rw [List.length_append, more_len]; omega) (by have := HB3.out.size; omega) ?_; intro v4 w4 hout4 hb4; have HO4 := hide hout4; have HB4 := hide hb4; clear hout4 hb4)
            | (at_builtin; refine append_list rfl _ _ rfl wr.heap.size _ (0 + xl) (x.map (Value.int .i64)) rfl (HO2.out.alloc _) _ 1 1 [(r : Int)] rfl (lst_one w2 (r : Int) (by omega) _) (by omega) (by have := HB2.out.size; simp; omega) ?_; intro v3 w3 hown hgrow; rw [← List.map_append] at hown; obtain ⟨X3, c3, rfl, hL3, hf3⟩ := lst_of_ownT hown (by rw [List.length_append, HXN.out]; simp) (by omega) HBND.out; rw [show 0 + xl + 1 = xl + 1 by omega] at hL3; have HX3 := hide hL3; have HF3 := hide hf3; have HB3 := hide ((HB2.out.alloc HB2.out.size _).grown hgrow (by have := HB2.out.size; simp; omega) (fun j e => (HO2.out.lt j e).1)); clear hown hgrow hL3 hf3)
            | (at_builtin; refine append_list rfl _ _ rfl wr.heap.size _ 0 [] rfl HO1.out xa xl xc x rfl HXr.out (by omega) (by simp) ?_; intro v2 w2 hown hgrow; rw [List.nil_append] at hown; have HO2 := hide hown; have HB2 := hide (HB1'.out.grown hgrow (by simp) (fun j e => (HO1.out.lt j e).1)); clear hown hgrow))
          go_roundw
          case rel =>
            refine ⟨r + 1, by omega, by go_num, ?_, HB.out.trans ((HB3.out.mono hwz).trans HB4.out)⟩
            rw [HMS.out, ← List.append_assoc]; exact HO4.out
          case measure => simp [intOf]; omega
        · obtain rfl : r = D := by omega
          have HOUT := hide hout
          have HB := hide hB
          clear hout hB hX
          go_wp2_with fail
          go_roundw
          case rel =>
            refine ⟨k + 1, by omega, by go_num, ?_, HB.out⟩
            rw [HT.out, List.flatMap_append, ← HF.out]
            simpa using HOUT.out
          case measure => simp [intOf]; omega
    · obtain rfl : k = N := by omega
      go_wp2_with fail
      go_ret
      have := HOUT.out
      rw [HN.out, List.take_length, ← HEB.out] at this
      obtain ⟨A', c', e, hl, _⟩ := this.ll
      subst e
      exact ⟨⟨A', c', rfl, hl⟩, bl_on HB1.out HB.out⟩

theorem rbox_anyT : ∀ (len : Nat) (a : Option Addr) (cap : Nat) (xs : List Int) (w : World), Lst w a len cap xs → len ≤ 4 → (∀ x ∈ xs, 0 ≤ x ∧ x ≤ 4096) → (∀ k, prod (xs.take k) ≤ 68719476736) →
    Calls Try.prog 84 #[.slice a len cap] w fun e w' => (∃ A c, e = .returned (.slice A (BL xs).length c) ∧ LLT w' A (BL xs).length (BL xs)) ∧ Below w.heap.size w w'
  | 0, a, cap, xs, w, h, _, _, _ => by
    obtain rfl : xs = [] := by rw [← List.length_eq_zero_iff]; exact h.1.1
    exact rbox_nilT a cap w
  | len + 1, a, cap, xs, w, h, h4, hd, hp => by
    have hne : xs ≠ [] := by intro e; have := h.1.1; rw [e] at this; simp at this
    obtain ⟨ds, d, rfl⟩ : ∃ ds d, xs = ds ++ [d] := ⟨xs.dropLast, xs.getLast hne, (List.dropLast_concat_getLast hne).symm⟩
    have hl : ds.length = len := by have := h.1.1; simpa using this
    have hds : ∀ x ∈ ds, 0 ≤ x ∧ x ≤ 4096 := fun x hx => hd x (by simp [hx])
    have hpd : ∀ k, prod (ds.take k) ≤ 68719476736 := fun k => by
      by_cases hk : k ≤ ds.length
      · have := hp k
        rwa [List.take_append_of_le_length hk] at this
      · rw [List.take_of_length_le (by omega)]
        have := hp ds.length
        rwa [List.take_left'] at this
        rfl
    have h0 := (prod_take_bd ds hds ds.length).1
    rw [List.take_length] at h0
    have h1 := hpd ds.length
    rw [List.take_length] at h1
    have h2 := hp (ds ++ [d]).length
    rw [List.take_length] at h2
    exact rbox_snocT a len cap ds d w h (by omega) (hd d (by simp)) hds h0 h1 h2 (fun w1 hw1 => rbox_anyT len a cap ds w1 hw1 (by omega) hds hpd)
theorem box_smallT {box : List Int} {rs : List (List Int × Int)} (ho : PtOk box rs) : ∀ k, prod (box.take k) ≤ 68719476736 := by
  intro k
  by_cases hk : k ≤ 3
  · have h1 := (prod_take_bd box ho.dims k).2
    have h2 : (4096 : Int) ^ k ≤ 68719476736 := by
      have : k = 0 ∨ k = 1 ∨ k = 2 ∨ k = 3 := by omega
      rcases this with e | e | e | e <;> rw [e] <;> decide
    omega
  · have h1 := ho.rank
    rw [List.take_of_length_le (by omega)]
    have := ho.size.1
    omega
end Go.Proofs.Ytoidgdbgpbcebaa.V
namespace Go.Proofs.Ytoidgdbgpbcebaa.V
open Go.RowKit
set_option linter.unusedVariables false

theorem aboveB_takeT (rs : List (List Int × Int)) (xs : List Int) (k : Nat) (h : k < rs.length) : aboveB (rs.take (k + 1)) xs = (aboveB (rs.take k) xs && decide (0 ≤ worthV (rs[k]?.getD ([], 0)) xs)) := by
  unfold aboveB
  rw [take_succR rs k h, List.all_append]
  simp
theorem filter_snocT (L : List (List Int)) (rs : List (List Int × Int)) (k : Nat) (h : k < L.length) : (L.take (k + 1)).filter (aboveB rs) = (L.take k).filter (aboveB rs) ++ (if aboveB rs (L[k]?.getD []) = true then [L[k]?.getD []] else []) := by
  rw [take_succL L k h, List.filter_append]
  congr 1
  simp only [List.filter_cons, List.filter_nil]
theorem rAll_lenT (L : List (List Int)) (rs : List (List Int × Int)) (k : Nat) : ((L.take k).filter (aboveB rs)).length ≤ k := by
  have h1 := List.length_filter_le (aboveB rs) (L.take k)
  have h2 : (L.take k).length ≤ k := by rw [List.length_take]; omega
  omega

set_option maxRecDepth 100000 in
set_option maxHeartbeats 4000000 in
theorem rAll_okT (ba : Option Addr) (bl bc : Nat) (box : List Int) (ra : Option Addr) (rl rc : Nat) (rs : List (List Int × Int)) (w : World) (h : Lst w ba bl bc box) (hr : Rws w ra rl rs) (ho : PtOk box rs) :
    Calls Try.prog 56 #[.agg #[.slice ba bl bc, .slice ra rl rc]] w fun e w' => (∃ A c, e = .returned (.slice A (pts box rs).length c) ∧ LLT w' A (pts box rs).length (pts box rs)) ∧ Below w.heap.size w w' := by
  have B1 : Below w.heap.size w (w.alloc (.cells #[.slice ba bl bc, .slice ra rl rc] 64)) := bl_new _
  have hbl : bl ≤ 4 := by have := h.1.1; have := ho.rank; omega
  have HBX := hide (rbox_anyT bl ba bc box _ (h.below B1) hbl ho.dims (box_smallT ho))
  have HP := hide (PtAt.new w ba bl bc ra rl rc)
  have HB := hide B1
  have HR := hide hr
  have HO := hide ho
  have hrl : rl ≤ 8 := by have := hr.1; have := ho.many; omega
  have HRL := hide hr.1
  have HBL := hide h.1.1
  clear h hr B1 ho
  go_enter Try.func56, Try.ntmps56
  go_wp2_with fail
  refine HBX.out.mono ?_
  rintro e w1 ⟨⟨A, c, rfl, hLL⟩, hb1⟩
  obtain ⟨N, hN⟩ : ∃ N, N = (BL box).length := ⟨_, rfl⟩
  have hN4 : N ≤ 4096 := by rw [hN, BL_len]; have := HO.out.size.1; omega
  rw [← hN] at hLL
  rw [← hN]
  have HN := hide hN
  have HLS := hide hLL
  have HB1 := hide (bl_on HB.out hb1)
  have P1 := HP.out.below hb1
  have HP1 := hide P1
  obtain ⟨p0, p1⟩ := P1.cells
  have zP := P1.lt
  clear hLL hb1 hN P1
  go_wp2_with fail
  go_loopw [3, 13] (fun out i wr => ∃ k : Nat, k ≤ N ∧ i = .int .i64 k ∧ OutLT wr w1.heap.size out (((BL box).take k).filter (aboveB rs)) ∧ Below w1.heap.size w1 wr) (fun _ i _ => N - (intOf i).toNat)
  case atStart => exact ⟨0, Nat.zero_le _, rfl, by simpa using OutLT.nil _ _, Below.refl _ _⟩
  case round =>
    obtain ⟨k, hk, rfl, hout, hB⟩ := hrel
    have HOUT := hide hout
    have HBr := hide hB
    clear hout hB p0 p1
    by_cases hlt : k < N
    · have hkl : k < (BL box).length := by rw [← HN.out]; exact hlt
      obtain ⟨xb, xo, rfl, hat⟩ := HLS.out.at (by omega)
      obtain ⟨xa, xl, xc, x0, x2, x3⟩ := hat k hlt
      have x1 := (HBr.out.cell (p := ⟨xb, xo + k, none⟩) (lt_of_cell x0)).trans x0
      have hmem : (BL box)[k]?.getD [] ∈ BL box := by simp [hkl]
      have HT := hide (filter_snocT (BL box) rs k hkl)
      obtain ⟨x, hx⟩ : ∃ x, x = (BL box)[k]?.getD [] := ⟨_, rfl⟩
      rw [← hx] at x2 hmem HT
      have hxl := BL_mem HO.out.dims hmem
      have z1 := lt_of_cell x1
      simp only at z1
      have HX := hide x2
      have HXF := hide x3
      have HXL := hide hxl
      have hxl2 : xl ≤ 4 := by have := x2.1.1; have := HBL.out; omega
      obtain ⟨p0, p1⟩ := (HP1.out.below HBr.out).cells
      have zP' := (HP1.out.below HBr.out).lt
      clear hat x0 x2 x3 hmem hx hxl hkl
      go_wp2_with fail
      obtain ⟨wo, hwo⟩ : ∃ wo, wo = wr := ⟨_, rfl⟩
      subst hwo
      go_loopw [6, 20] (fun ok i wr' => ∃ j : Nat, j ≤ rl ∧ i = .int .i64 j ∧ ok = .bool (aboveB (rs.take j) x) ∧ Below wo.heap.size wo wr') (fun _ i _ => rl - (intOf i).toNat)
      case atStart => exact ⟨0, Nat.zero_le _, rfl, rfl, Below.refl _ _⟩
      case round =>
        clear p0 p1 x1 z1
        obtain ⟨j, hj, rfl, rfl, hB2⟩ := hrel
        have HB2 := hide hB2
        have hsz := hB2.size
        clear hB2
        by_cases hlt2 : j < rl
        · have hjl : j < rs.length := by rw [HRL.out]; exact hlt2
          have HBa := hide (bl_on (bl_on HB1.out HBr.out) HB2.out)
          obtain ⟨rb, ro, rfl, hrat⟩ := (HR.out.below HBa.out).at (by omega)
          obtain ⟨a, l, c', k1, k2, k3, k4, k5⟩ := hrat j hlt2
          have z1 := lt_of_cell k1
          have z2 := lt_of_cell k2
          simp only at z1 z2
          have HAB := hide (aboveB_takeT rs x j hjl)
          have hrow := HO.out.rows _ (mem_getR rs j hjl)
          obtain ⟨q, hq⟩ : ∃ q, q = rs[j]?.getD ([], 0) := ⟨_, rfl⟩
          rw [← hq] at k2 k3 k5 HAB hrow
          obtain ⟨cs, K⟩ := q
          simp only at k2 k3 k5 hrow
          have B3 : Below wr.heap.size wr (wr.alloc (.cells #[.slice a l c', .int .i64 K] 66)) := bl_new _
          have hll : l = xl := by have := k3.1; have := HX.out.1.1; have := HXL.out.1; omega
          have HAT := hide (rAt_any a l c' cs K xa xl xc x (wr.alloc (.cells #[.slice a l c', .int .i64 K] 66)) (k3.below B3) (((HX.out.1.below HBr.out).below HB2.out).below B3) hll (by omega) hrow.2.1 hrow.2.2 HXL.out.2)
          have HB3 := hide B3
          clear hrat k3 k4 k5 hq hrow B3 hjl hll
          cases hab : aboveB (rs.take j) x with
          | true =>
            rw [hab] at HAB
            clear hab
            go_wp2_with (go_at_call 57; refine HAT.out.mono ?_; rintro e w5 ⟨rfl, hb⟩; have HB6 := hide (bl_on HB3.out hb); have HB5 := hide (bl_on HB2.out HB6.out); clear hb)
            go_roundw
            case rel => exact ⟨j + 1, by omega, by go_num, by rw [HAB.out, Bool.true_and], HB5.out⟩
            case measure => simp [intOf]; omega
          | false =>
            rw [hab] at HAB
            clear hab
            go_wp2_with fail
            go_roundw
            case rel => exact ⟨j + 1, by omega, by go_num, by rw [HAB.out, Bool.false_and], bl_on HB2.out HB3.out⟩
            case measure => simp [intOf]; omega
        · obtain rfl : j = rl := by omega
          have hall : rs.take j = rs := List.take_of_length_le (by rw [HRL.out]; exact Nat.le_refl _)
          rw [hall]
          clear hall
          have hwz := HBr.out.size
          have HFL := hide (rAll_lenT (BL box) rs k)
          cases hab : aboveB rs x with
          | true =>
            rw [hab] at HT
            clear hab
            have HOw := hide (HOUT.out.below HB2.out)
            go_wp2_with (at_builtin; refine append_listsT rfl (.tmp 33) (.tmp 35) rfl w1.heap.size _ (((BL box).take k).filter (aboveB rs)) rfl xa xl xc x HOw.out ((HX.out.below HBr.out).below HB2.out) ((HXF.out.below HBr.out).below HB2.out) rfl (by have := HFL.out; omega) (by omega) ?_; intro v4 w4 hout4 hb4; have HO4 := hide hout4; have HB4 := hide hb4; clear hout4 hb4)
            go_roundw
            case rel =>
              refine ⟨k + 1, by omega, by go_num, ?_, HBr.out.trans ((HB2.out.mono hwz).trans HB4.out)⟩
              rw [HT.out]
              simpa using HO4.out
            case measure => simp [intOf]; omega
          | false =>
            rw [hab] at HT
            clear hab
            go_wp2_with fail
            go_roundw
            case rel =>
              refine ⟨k + 1, by omega, by go_num, ?_, HBr.out.trans (HB2.out.mono hwz)⟩
              rw [HT.out]
              simpa using HOUT.out.below HB2.out
            case measure => simp [intOf]; omega
    · obtain rfl : k = N := by omega
      go_wp2_with fail
      go_ret
      have := HOUT.out
      rw [HN.out, List.take_length, ← BL_filter] at this
      obtain ⟨A', c', e, hl, _⟩ := this.ll
      subst e
      exact ⟨⟨A', c', rfl, hl⟩, bl_on HB1.out HBr.out⟩
end Go.Proofs.Ytoidgdbgpbcebaa.V
namespace Go.Proofs.Ytoidgdbgpbcebaa.V
open Go.RowKit
set_option linter.unusedVariables false

theorem ne_pts_len {box : List Int} {rs : List (List Int × Int)} (ho : PtOk box rs) : (pts box rs).length ≤ 4096 := by
  unfold pts upto
  have h1 := List.length_filter_le (aboveB rs) ((List.range (prod box).toNat).map fun p : Nat => indexV box p)
  have h2 : ((List.range (prod box).toNat).map fun p : Nat => indexV box p).length = (prod box).toNat := by simp
  have := ho.size.1
  omega
/-- The spots of a statement; of the first k statements. -/
def spS (i : Nat) (s : Stm) : List (Nat × List Int) := (pts s.box s.rows).map fun x => (i, x)
def spK (ss : List Stm) (k : Nat) : List (Nat × List Int) := (List.range k).flatMap fun i => spS i (ss[i]?.getD stmD)
theorem spK_succ (ss : List Stm) (k : Nat) : spK ss (k + 1) = spK ss k ++ spS k (ss[k]?.getD stmD) := by
  unfold spK; rw [List.range_succ, List.flatMap_append]; simp
theorem spK_len (ss : List Stm) (h : ∀ s ∈ ss, (pts s.box s.rows).length ≤ 4096) : ∀ k, k ≤ ss.length → (spK ss k).length ≤ 4096 * k
  | 0, _ => by simp [spK]
  | k + 1, hk => by
    have ih := spK_len ss h k (by omega)
    rw [spK_succ, List.length_append]
    have h1 : (spS k (ss[k]?.getD stmD)).length ≤ 4096 := by
      unfold spS
      rw [List.length_map]
      exact h _ (mem_getS ss k (by omega))
    omega
def spD : Nat × List Int := (0, [])
theorem info_spot : (Try.prog.info? 36).map (fun i => (i.zero, i.size, i.bytes)) = some (some (.agg #[.int .i64 0, .slice none 0 0]), 2, 32) := by kernel_rfl
/-- The values of a row of spots. -/
def VS (w : World) (vs : List Value) (S : List (Nat × List Int)) : Prop := vs.length = S.length * 2 ∧ ∀ i, i < S.length → ∃ a l c, vs[i * 2]? = some (.int .i64 ((S[i]?.getD spD).1 : Int)) ∧ vs[i * 2 + 1]? = some (.slice a l c) ∧ Lst w a l c (S[i]?.getD spD).2 ∧ FlushT w a
theorem VS.below {w w' : World} {vs : List Value} {S : List (Nat × List Int)} (h : VS w vs S) (hb : Below w.heap.size w w') : VS w' vs S := ⟨h.1, fun i hi => by obtain ⟨a, l, c, h1, h2, h3, h4⟩ := h.2 i hi; exact ⟨a, l, c, h1, h2, h3.below hb, h4.below hb⟩⟩
def OutS (w : World) (B : Nat) (v : Value) (S : List (Nat × List Int)) : Prop := ∃ vs, w.ownsRow B 36 2 v S.length vs ∧ VS w vs S
theorem OutS.nil (w : World) (B : Nat) : OutS w B (.slice none 0 0) [] := ⟨[], World.ownsRow_nil _ _ _ _, ⟨rfl, fun i hi => by simp at hi⟩⟩
theorem ownsRow2_below {W W' : World} {B n : Nat} {t : TypeId} {v : Value} {xs : List Value} (h : W.ownsRow B t 2 v n xs) (hb : Below W.heap.size W W') : W'.ownsRow B t 2 v n xs := by
  refine ⟨h.1, ?_⟩
  rcases h.2 with e | ⟨g, cap, cur, e1, e2, e3, e4⟩
  · exact .inl e
  · exact .inr ⟨g, cap, cur, e1, e2, (hb.block g (Array.getElem?_eq_some_iff.1 e3).1).trans e3, e4⟩
theorem OutS.below {w w' : World} {B : Nat} {v : Value} {S : List (Nat × List Int)} (h : OutS w B v S) (hb : Below w.heap.size w w') : OutS w' B v S := by
  obtain ⟨vs, h1, h2⟩ := h
  exact ⟨vs, ownsRow2_below h1 hb, h2.below hb⟩
/-- append(out, spot). -/
theorem append_spot {w : World} {ops : Array Oper} {rest : List Oper} {op : Oper} {a : Act} {Q : Exit → Act → World → Prop} (hgd : op.guard = none) (s x : Operand)
    (ho : op.op = .call { callee := .builtin .append, args := #[s, x], argTypes := #[77, 77] }) (B : Nat)
    (v : Value) (hs : a.eval s = v) (S : List (Nat × List Int)) (i : Nat) (X : Option Addr) (l c : Nat) (xs : List Int) (hout : OutS w B v S) (hX : Lst w X l c xs) (hF : FlushT w X)
    (hx : a.eval x = .slice (some ⟨w.heap.size, 0, none⟩) 1 1) (hbytes : (S.length + 1) * 32 ≤ 140737488355328) (hB : B ≤ w.heap.size)
    (h : ∀ v' w', OutS w' B v' (S ++ [(i, xs)]) → Below B w w' → (∀ (t : TypeId) (b : Nat) cur, t ≠ 36 → w.heap[b]? = some (Obj.cells cur t (0, 0)) → w'.heap[b]? = w.heap[b]?) → wpList Try.prog ops Q rest (a.put op.dst v') w') :
    wpList Try.prog ops Q (op :: rest) a (w.alloc (.cells #[.int .i64 (i : Int), .slice X l c] 36)) := by
  obtain ⟨i0, hi, hz0, hz1, hz2⟩ := info_parts info_spot
  obtain ⟨vs, h1, h2⟩ := hout
  refine wpList_append_own _ hgd s x 77 ho B 36 i0 (.agg #[.int .i64 0, .slice none 0 0]) 2 32 Try.underlying77 hi hz0 hz1 hz2 rfl (by decide) v S.length vs hs (h1.alloc _) ⟨w.heap.size, 0, none⟩ 1 1 [.int .i64 (i : Int), .slice X l c] hx rfl ?_ ?_ (by unfold maxLen; omega) hbytes (by simp; omega) (fun v' w' k1 k2 _ => h v' w' ⟨vs ++ [.int .i64 (i : Int), .slice X l c], ?_, ?_⟩ (((Below.refl B w).alloc hB _).grown k2 (by simp; omega) (fun j e => (h1.lt j e).1)) (fun t b cur ht hb => ints_left (t := 36) (fun e => ht e.symm) h1 k2 b cur hb))
  · intro j u hj
    have hjl : j = 0 ∨ j = 1 := by have := (List.getElem?_eq_some_iff.1 hj).1; simp at this; omega
    rw [Go.WideShapes.add_plain]
    show (w.alloc (.cells #[.int .i64 (i : Int), .slice X l c] 36)).cell? ⟨w.heap.size, 0 + j, none⟩ = _
    unfold World.cell?
    rw [World.alloc_heap_new w (.cells #[.int .i64 (i : Int), .slice X l c] 36)]
    rcases hjl with rfl | rfl <;> simpa using hj
  · intro u hu; simp at hu; rcases hu with rfl | rfl <;> rfl
  · rw [List.length_append]; exact k1
  · have hb := ints_left (t := 36) (t' := 3) (by decide) h1 k2
    refine ⟨by simp [h2.1]; omega, fun j hj => ?_⟩
    by_cases e : j < S.length
    · obtain ⟨a', l', c', g1, g2, g3, g4⟩ := h2.2 j e
      refine ⟨a', l', c', ?_, ?_, ?_, g4.cells hb⟩
      · rw [List.getElem?_append_left (by rw [h2.1]; omega), List.getElem?_append_left e]; exact g1
      · rw [List.getElem?_append_left (by rw [h2.1]; omega)]; exact g2
      · rw [List.getElem?_append_left e]; exact lst_cells g3 g4 hb
    · have e2 : j = S.length := by simp at hj; omega
      subst e2
      refine ⟨X, l, c, ?_, ?_, ?_, hF.cells hb⟩
      · rw [List.getElem?_append_right (by rw [h2.1]; omega), List.getElem?_append_right (Nat.le_refl _), h2.1]; simp
      · rw [List.getElem?_append_right (by rw [h2.1]; omega), h2.1]; simp [show S.length * 2 + 1 - S.length * 2 = 1 by omega]
      · rw [List.getElem?_append_right (Nat.le_refl _)]; simpa using lst_cells hX hF hb
/-- What a caller reads of it. -/
def SP (w : World) (A : Option Addr) (n : Nat) (S : List (Nat × List Int)) : Prop := S.length = n ∧ (n = 0 ∨ ∃ b off, A = some ⟨b, off, none⟩ ∧ (∃ cur, w.heap[b]? = some (Obj.cells cur 36 (0, 0))) ∧ ∀ i, i < n → ∃ a l c, w.cell? ⟨b, off + i * 2, none⟩ = some (.int .i64 ((S[i]?.getD spD).1 : Int)) ∧ w.cell? ⟨b, off + i * 2 + 1, none⟩ = some (.slice a l c) ∧ Lst w a l c (S[i]?.getD spD).2 ∧ FlushT w a)
theorem SP.cells {w w' : World} {A : Option Addr} {n : Nat} {S : List (Nat × List Int)} (h : SP w A n S) (h1 : ∀ (b : Nat) cur, w.heap[b]? = some (Obj.cells cur 3 (0, 0)) → w'.heap[b]? = w.heap[b]?) (h2 : ∀ (b : Nat) cur, w.heap[b]? = some (Obj.cells cur 36 (0, 0)) → w'.heap[b]? = w.heap[b]?) : SP w' A n S := by
  obtain ⟨g1, g2⟩ := h
  refine ⟨g1, ?_⟩
  rcases g2 with g2 | ⟨b, off, e, ⟨cur, ht⟩, h⟩
  · exact .inl g2
  · refine .inr ⟨b, off, e, ⟨cur, (h2 b cur ht).trans ht⟩, fun i hi => ?_⟩
    obtain ⟨a, l, c, k1, k2, k3, k4⟩ := h i hi
    exact ⟨a, l, c, (World.cell?_of_block (w := w) (h2 b cur ht)).trans k1, (World.cell?_of_block (w := w) (h2 b cur ht)).trans k2, lst_cells k3 k4 h1, k4.cells h1⟩
theorem SP.below {w w' : World} {A : Option Addr} {n : Nat} {S : List (Nat × List Int)} (h : SP w A n S) (hb : Below w.heap.size w w') : SP w' A n S :=
  h.cells (fun b cur e => hb.block b (Array.getElem?_eq_some_iff.1 e).1) (fun b cur e => hb.block b (Array.getElem?_eq_some_iff.1 e).1)
theorem SP.at {w : World} {A : Option Addr} {n : Nat} {S : List (Nat × List Int)} (h : SP w A n S) (h0 : 0 < n) : ∃ b off, A = some ⟨b, off, none⟩ ∧ ∀ i, i < n → ∃ a l c, w.cell? ⟨b, off + i * 2, none⟩ = some (.int .i64 ((S[i]?.getD spD).1 : Int)) ∧ w.cell? ⟨b, off + i * 2 + 1, none⟩ = some (.slice a l c) ∧ Lst w a l c (S[i]?.getD spD).2 := by
  rcases h.2 with h2 | ⟨b, off, e, _, h2⟩
  · omega
  · exact ⟨b, off, e, fun i hi => by obtain ⟨a, l, c, k1, k2, k3, _⟩ := h2 i hi; exact ⟨a, l, c, k1, k2, k3⟩⟩
theorem OutS.spc {w : World} {B : Nat} {v : Value} {S : List (Nat × List Int)} (h : OutS w B v S) : ∃ A c, v = .slice A S.length c ∧ S.length ≤ c ∧ SP w A S.length S := by
  obtain ⟨vs, h1, h2⟩ := h
  have h1' := h1
  rcases h1.2 with ⟨e1, e2⟩ | ⟨g, cap, cur, rfl, _, hbk, hcap, _, hsz, ht⟩
  · exact ⟨none, 0, by rw [e1, e2], by omega, rfl, .inl e2⟩
  · refine ⟨_, cap, rfl, hcap, rfl, .inr ⟨g, 0, rfl, ⟨cur, hbk⟩, fun i hi => ?_⟩⟩
    obtain ⟨a, l, c, k1, k2, k3, k4⟩ := h2.2 i hi
    have hc : ∀ j, j < S.length * 2 → cur[j]? = vs[j]? := fun j hj => by
      have := congrArg (fun l => l[j]?) ht
      simp only [List.getElem?_take, if_pos hj] at this
      simpa using this
    refine ⟨a, l, c, ?_, ?_, k3, k4⟩
    · simp only [World.cell?, hbk, Nat.zero_add]
      rw [hc (i * 2) (by omega)]; exact k1
    · simp only [World.cell?, hbk, Nat.zero_add]
      rw [hc (i * 2 + 1) (by omega)]; exact k2
theorem OutS.sp {w : World} {B : Nat} {v : Value} {S : List (Nat × List Int)} (h : OutS w B v S) : ∃ A c, v = .slice A S.length c ∧ SP w A S.length S := by
  obtain ⟨A, c, e, _, h2⟩ := h.spc
  exact ⟨A, c, e, h2⟩
/-- What is done spot by spot. -/
def spM (ss : List Stm) (M : Mem) (sp : Nat × List Int) : Mem := doM (ss[sp.1]?.getD stmD) M sp.2
theorem spM_run (ss : List Stm) (L : Mem) : ∀ k, k ≤ ss.length → (spK ss k).foldl (spM ss) L = runM (ss.take k) L
  | 0, _ => by simp [spK, runM]
  | k + 1, hk => by
    rw [spK_succ, List.foldl_append, spM_run ss L k (by omega), runM_take ss L k (by omega)]
    unfold spS stmM
    rw [List.foldl_map]
    rfl
theorem spM_arr_len (ss : List Stm) (S : List (Nat × List Int)) : ∀ (L : Mem), (∀ i, (arrM (S.foldl (spM ss) L) i).length = (arrM L i).length) ∧ (S.foldl (spM ss) L).length = L.length := by
  induction S with
  | nil => exact fun L => ⟨fun _ => rfl, rfl⟩
  | cons sp S ih =>
    intro L
    rw [List.foldl_cons]
    obtain ⟨h1, h2⟩ := ih (spM ss L sp)
    exact ⟨fun i => by rw [h1 i]; exact doM_arr_len _ _ _ _, by rw [h2]; exact doM_len _ _ _⟩
theorem sp_mem {ss : List Stm} {k : Nat} {sp : Nat × List Int} (h : sp ∈ spK ss k) : sp.1 < k ∧ sp.2 ∈ pts (ss[sp.1]?.getD stmD).box (ss[sp.1]?.getD stmD).rows := by
  unfold spK at h
  obtain ⟨i, hi, h2⟩ := List.mem_flatMap.1 h
  unfold spS at h2
  obtain ⟨x, hx, rfl⟩ := List.mem_map.1 h2
  exact ⟨List.mem_range.1 hi, hx⟩
theorem ne_pts_mem {box : List Int} {rs : List (List Int × Int)} (ho : PtOk box rs) {x : List Int} (h : x ∈ pts box rs) : (∀ y ∈ x, 0 ≤ y ∧ y ≤ 4096) ∧ x.length = box.length := by
  unfold pts upto at h
  obtain ⟨h1, _⟩ := List.mem_filter.1 h
  obtain ⟨p, hp, rfl⟩ := List.mem_map.1 h1
  exact index_bd ho (List.mem_range.1 hp)

set_option maxRecDepth 100000 in
set_option maxHeartbeats 4000000 in
theorem rSpots_cap (vz : Value) (ta : Option Addr) (tl tc : Nat) (ss : List Stm) (w : World) (hs : Stms w ta tl ss) (h256 : tl ≤ 256) (hok : ∀ s ∈ ss, PtOk s.box s.rows) :
    Calls Try.prog 25 #[.agg #[vz, .slice ta tl tc]] w fun e w' => (∃ A c, e = .returned (.slice A (spK ss tl).length c) ∧ (spK ss tl).length ≤ c ∧ SP w' A (spK ss tl).length (spK ss tl)) ∧ Below w.heap.size w w' := by
  have B1 : Below w.heap.size w (w.alloc (.cells #[vz, .slice ta tl tc] 25)) := bl_new _
  have N0 : (w.alloc (.cells #[vz, .slice ta tl tc] 25)).heap[w.heap.size]? = _ := World.alloc_heap_new w _
  have p1 : (w.alloc (.cells #[vz, .slice ta tl tc] 25)).cell? ⟨w.heap.size, 1, none⟩ = some (.slice ta tl tc) := by
    unfold World.cell?; rw [N0]; rfl
  have HS := hide hs
  have HSL := hide hs.1
  have HOK := hide hok
  have HB := hide B1
  have HKL := hide (spK_len ss (fun s h => ne_pts_len (hok s h)))
  clear hs hok B1 N0
  go_enter Try.func25, Try.ntmps25
  go_wp2_with fail
  clear p1
  go_loopw [3, 11] (fun v i wr => ∃ k : Nat, k ≤ tl ∧ i = .int .i64 k ∧ OutS wr w.heap.size v (spK ss k) ∧ Below w.heap.size w wr) (fun _ i _ => tl - (intOf i).toNat)
  case atStart => exact ⟨0, Nat.zero_le _, rfl, by simpa [spK] using OutS.nil _ _, HB.out⟩
  case round =>
    obtain ⟨k, hk, rfl, hout, hB⟩ := hrel
    have HOUT := hide hout
    have HBr := hide hB
    clear hout hB
    by_cases hlt : k < tl
    · have hkl : k < ss.length := by rw [HSL.out]; exact hlt
      obtain ⟨b, off, rfl, hat⟩ := (HS.out.below HBr.out).at (by omega)
      obtain ⟨q, hq, k0, k1, k2, k3, k4, k5, k6, k7⟩ := hat k hlt
      have z1 := lt_of_cell k0
      simp only at z1
      have B3 : Below wr.heap.size wr (wr.alloc (.cells q.cs 71)) := bl_new _
      obtain ⟨y0, y1, y2, y3, y4, y5, y6, y7⟩ := (SW.new q wr).cells
      have hptk := HOK.out _ (mem_getS ss k hkl)
      have HKS := hide (spK_succ ss k)
      have hkb := HKL.out k (by omega)
      obtain ⟨s, hs⟩ : ∃ s, s = ss[k]?.getD stmD := ⟨_, rfl⟩
      rw [← hs] at hq hptk HKS
      have h1 := hq.below B3
      have HALL := hide (rAll_okT q.ba q.bl q.bc s.box q.ra q.rl q.rc s.rows _ h1.box h1.rows hptk)
      have hn4 := ne_pts_len hptk
      have HB3 := hide B3
      obtain ⟨ba, bl, bc, ra, rl, rc, kd, va, ⟨parr, pca, pcl, pcc, pcon⟩, ga, gl, gc⟩ := q
      simp only [SW.cs] at *
      clear hat hq B3 hkl hs h1 hptk
      go_wp2_with fail
      refine HALL.out.mono ?_
      rintro e w2 ⟨⟨A, c, rfl, hLL⟩, hb⟩
      obtain ⟨n, hn⟩ : ∃ n, n = (pts s.box s.rows).length := ⟨_, rfl⟩
      rw [← hn] at hLL hn4
      rw [← hn]
      have HN := hide hn
      have HLL := hide hLL
      have HB2 := hide (bl_on HB3.out hb)
      have HO2 := hide (HOUT.out.below HB2.out)
      have hsz := HBr.out.size
      have hsz2 := HB2.out.size
      clear hb hLL hn k0 k1 k2 k3 k4 k5 k6 k7 y0 y1 y2 y3 y4 y5 y6 y7
      go_wp2_with fail
      go_loopw [3, 20] (fun v i wr2 => ∃ j : Nat, j ≤ n ∧ i = .int .i64 j ∧ OutS wr2 w.heap.size v (spK ss k ++ ((pts s.box s.rows).take j).map (fun x => (k, x))) ∧ Below w.heap.size w wr2 ∧ LLT wr2 A n (pts s.box s.rows)) (fun _ i _ => n - (intOf i).toNat)
      case atStart => exact ⟨0, Nat.zero_le _, rfl, by simpa using HO2.out, bl_on HBr.out HB2.out, HLL.out⟩
      case round =>
        obtain ⟨j, hj, rfl, hout, hB, hL⟩ := hrel
        have HOUT2 := hide hout
        have HBr2 := hide hB
        have HL2 := hide hL
        clear hout hB hL
        by_cases hlt2 : j < n
        · obtain ⟨xb, xo, rfl, hat⟩ := HL2.out.at (by omega)
          obtain ⟨xa, xl, xc, x1, x2, x3⟩ := hat j hlt2
          have z1 := lt_of_cell x1
          simp only at z1
          have hjl : j < (pts s.box s.rows).length := by rw [← HN.out]; exact hlt2
          have HT : Hid (((pts s.box s.rows).take (j + 1)).map (fun x => (k, x)) = ((pts s.box s.rows).take j).map (fun x => (k, x)) ++ [(k, (pts s.box s.rows)[j]?.getD [])]) := by
            rw [Hid, List.take_succ_eq_append_getElem hjl, List.map_append]; simp [hjl]
          have HLen : Hid ((spK ss k ++ ((pts s.box s.rows).take j).map (fun x => (k, x))).length ≤ 2097152) := by
            rw [Hid, List.length_append, List.length_map, List.length_take]
            omega
          obtain ⟨x, hx⟩ : ∃ x, x = (pts s.box s.rows)[j]?.getD [] := ⟨_, rfl⟩
          rw [← hx] at x2 HT
          have HX2 := hide x2
          have HX3 := hide x3
          have hsz3 := HBr2.out.size
          clear hat hx hjl x2 x3
          go_wp2_with (at_builtin; refine append_spot rfl (.tmp 24) (.tmp 28) rfl w.heap.size _ rfl (spK ss k ++ ((pts s.box s.rows).take j).map (fun x => (k, x))) k xa xl xc x HOUT2.out HX2.out HX3.out rfl (by have := HLen.out; omega) hsz3 ?_; intro v4 w4 hout4 hb4 hty4; have HO4 := hide hout4; have HB4 := hide hb4; have HTY4 := hide hty4; clear hout4 hb4 hty4)
          go_roundw
          case rel =>
            refine ⟨j + 1, by omega, by go_num, ?_, HBr2.out.trans HB4.out, ?_⟩
            · rw [HT.out, ← List.append_assoc]; exact HO4.out
            · exact HL2.out.cells (fun b cur h => HTY4.out _ b cur (by decide) h) (fun b cur h => HTY4.out _ b cur (by decide) h)
          case measure => simp [intOf]; omega
        · obtain rfl : n = j := by omega
          have hO := HOUT2.out
          rw [List.take_of_length_le (by rw [← HN.out]; exact Nat.le_refl _)] at hO
          have HO5 := hide hO
          clear hO
          go_wp2_with fail
          go_roundw
          case rel =>
            refine ⟨k + 1, by omega, by go_num, ?_, HBr2.out⟩
            rw [HKS.out]; exact HO5.out
          case measure => simp [intOf]; omega
    · obtain rfl : tl = k := by omega
      obtain ⟨A, c, hv, hc, hS⟩ := HOUT.out.spc
      subst hv
      have HSP := hide hS
      have HCP := hide hc
      clear hS hc
      go_wp2_with fail
      go_ret
      exact ⟨⟨A, c, rfl, HCP.out, HSP.out⟩, HBr.out⟩
theorem rSpots_any (vz : Value) (ta : Option Addr) (tl tc : Nat) (ss : List Stm) (w : World) (hs : Stms w ta tl ss) (h256 : tl ≤ 256) (hok : ∀ s ∈ ss, PtOk s.box s.rows) :
    Calls Try.prog 25 #[.agg #[vz, .slice ta tl tc]] w fun e w' => (∃ A c, e = .returned (.slice A (spK ss tl).length c) ∧ SP w' A (spK ss tl).length (spK ss tl)) ∧ Below w.heap.size w w' :=
  (rSpots_cap vz ta tl tc ss w hs h256 hok).mono (by rintro e w' ⟨⟨A, c, h1, _, h3⟩, h4⟩; exact ⟨⟨A, c, h1, h3⟩, h4⟩)
end Go.Proofs.Ytoidgdbgpbcebaa.V
namespace Go.Proofs.Ytoidgdbgpbcebaa.V
open Go.RowKit
set_option linter.unusedVariables false

theorem size_int64 : (Try.prog.info? 2).map (·.size) = some 1 := by kernel_rfl
theorem info_int64 : (Try.prog.info? 2).map (fun i => (i.zero, i.size, i.bytes)) = some (some (.int .i64 0), 1, 8) := by kernel_rfl
theorem info_arrs : (Try.prog.info? 82).map (fun i => (i.zero, i.size, i.bytes)) = some (some (.slice none 0 0), 1, 24) := by kernel_rfl
set_option maxHeartbeats 1000000 in
theorem fresh64_any (a : Option Addr) (len cap : Nat) (xs : List Int) (w : World) (h : Ints w a len xs) (h6 : len ≤ 65536) :
    Calls Try.prog 34 #[.slice a len cap] w fun e w' => (∃ g : Nat, e = .returned (.slice (some ⟨g, 0, none⟩) len len) ∧ w'.rowIs g 2 len (fun j => .int .i64 (xs[j]?.getD 0)) ∧ w.heap.size ≤ g) ∧ Below w.heap.size w w' := by
  have H := hide h
  have HL := hide h.1
  have hmk := run_make_row' (P := Try.prog) 82 2 (.int .i64 0) 8 Try.underlying82 info_int64 rfl .i64 .i64 len (by omega) (by omega)
  clear h
  obtain ⟨cs, hcs⟩ : ∃ cs : List Value, cs = xs.map (Value.int .i64) := ⟨_, rfl⟩
  have HCS := hide hcs
  have hlen : cs.length = len := by rw [hcs]; simp [HL.out]
  have HLEN := hide hlen
  clear hcs hlen
  go_enter Try.func34, Try.ntmps34
  go_wp2_with (refine wpList_copy_splice rfl (.tmp 7) (.tmp 8) 82 82 rfl 2 Try.underlying82 size_int64 (some ⟨w.heap.size, 0, none⟩) a len len len cap rfl rfl w.heap.size 0 (List.replicate len (.int .i64 0)) 2 ?hg cs ?hn ?hpos ?hfit ?h1 w.heap.size w ?hb (Nat.le_refl _) ?_)
  case hg =>
    have := World.alloc_heap_new w (.cells (madeCells #[.int .i64 0] len) 2)
    rw [this]
    rw [← toList_madeCells_one]
  case hn => rw [HLEN.out]; simp
  case hpos =>
    intro h0
    rw [HLEN.out] at h0
    obtain ⟨b, off, rfl, hb, hc⟩ := H.out.at h0
    refine ⟨_, rfl, fun j v hj => ?_⟩
    have hjl : j < len := by rw [← HLEN.out]; exact (List.getElem?_eq_some_iff.1 hj).1
    have h2 := hc j hjl
    have h3 : v = .int .i64 (xs[j]?.getD 0) := by
      rw [HCS.out] at hj
      simp [HL.out, hjl] at hj ⊢
      exact hj.symm
    rw [h3]
    have hb' : Below w.heap.size w (w.alloc (.cells (madeCells #[.int .i64 0] len) 2)) := (Below.refl _ _).alloc (Nat.le_refl _) _
    rw [Go.WideShapes.add_plain]
    exact (hb'.cell (p := ⟨b, off + j, none⟩) hb).trans h2
  case hfit => simp [HLEN.out]
  case h1 => intro v hv; rw [HCS.out] at hv; simp at hv; obtain ⟨x, _, rfl⟩ := hv; rfl
  case hb => exact (Below.refl _ _).alloc (Nat.le_refl _) _
  intro w' hrow hbel
  have HB := hide hbel
  clear hbel hmk
  go_wp2
  go_ret
  refine ⟨⟨_, rfl, ?_, Nat.le_refl _⟩, HB.out⟩
  refine ⟨_, hrow.out, by simp [splice, HLEN.out], fun i hi => ?_⟩
  have hs : splice (List.replicate len (Value.int .i64 0)) 0 cs = cs := by simp [splice, HLEN.out]
  rw [hs, HCS.out]
  simp [HL.out, hi]


theorem rowN_of {W : World} {g len : Nat} {xs : List Int} (h : W.rowIs g 2 len (fun j => .int .i64 (xs[j]?.getD 0))) (hl : xs.length = len) : RowN W g len xs := by
  obtain ⟨c, h1, h2, h3⟩ := h
  exact ⟨c, h1, h2, by omega, fun j hj => h3 j (by omega)⟩
/-- The first k arrays stand. -/
structure MemP (W : World) (N R len : Nat) (G : Nat → Nat) (L : Mem) (k : Nat) : Prop where
  head : ∃ f, W.rowIs R 82 len f ∧ ∀ j, j < k → f j = .slice (some ⟨G j, 0, none⟩) (arrM L j).length (arrM L j).length
  rows : ∀ j, j < k → RowN W (G j) (arrM L j).length (arrM L j)
  apart : ∀ i j, i < k → j < k → G i = G j → i = j
  lo : ∀ j, j < k → R < G j
theorem MemP.below {W W' : World} {N R len k : Nat} {G : Nat → Nat} {L : Mem} (h : MemP W N R len G L k) (hb : Below W.heap.size W W') : MemP W' N R len G L k := by
  obtain ⟨f, h1, h2⟩ := h.head
  exact ⟨⟨f, h1.of_block (hb.block _ h1.lt), h2⟩, fun j hj => (h.rows j hj).below hb, h.apart, h.lo⟩
theorem MemP.snoc {W : World} {N R len k : Nat} {G : Nat → Nat} {L : Mem} (h : MemP W N R len G L k) (g : Nat) (hg : RowN W g (arrM L k).length (arrM L k)) (hn : ∀ j, j < k → G j < g) (hR : R < g) : MemP (W.setCell ⟨R, k, none⟩ (.slice (some ⟨g, 0, none⟩) (arrM L k).length (arrM L k).length)) N R len (fun j => if j = k then g else G j) L (k + 1) := by
  obtain ⟨f, h1, h2⟩ := h.head
  refine ⟨⟨_, h1.set k _, fun j hj => ?_⟩, fun j hj => ?_, fun i j hi hj => ?_, fun j hj => ?_⟩
  · by_cases e : j = k
    · subst e; simp
    · simp only [if_neg e]; exact h2 j (by omega)
  · by_cases e : j = k
    · subst e; simp only [if_true]; exact hg.setO (p := ⟨R, j, none⟩) (by simp only; omega) _
    · simp only [if_neg e]; exact (h.rows j (by omega)).setO (p := ⟨R, k, none⟩) (by have := h.lo j (by omega); simp only; omega) _
  · by_cases e1 : i = k
    · by_cases e2 : j = k
      · omega
      · rw [if_pos e1, if_neg e2]
        intro e
        have := hn j (by omega)
        omega
    · by_cases e2 : j = k
      · rw [if_neg e1, if_pos e2]
        intro e
        have := hn i (by omega)
        omega
      · rw [if_neg e1, if_neg e2]
        exact h.apart i j (by omega) (by omega)
  · split
    · exact hR
    · exact h.lo j (by omega)
theorem MemP.mems {W : World} {N R : Nat} {G : Nat → Nat} {L : Mem} (h : MemP W N R L.length G L L.length) (hN : N ≤ R) (hb : MemB L) (hs : ∀ k, (arrM L k).length ≤ 65536) : Mems W N (some ⟨R, 0, none⟩) G (fun k => (arrM L k).length) L := by
  obtain ⟨f, h1, h2⟩ := h.head
  refine ⟨.inr ⟨R, 0, rfl, fun k hk => ⟨?_, by have := h.lo k hk; omega⟩⟩, h.rows, h.apart, fun k hk => by have := h.lo k hk; omega, hb, hs⟩
  rw [Nat.zero_add, h1.cell hk, h2 k hk]

set_option maxHeartbeats 4000000 in
theorem eachArr_any (a : Option Addr) (len cap : Nat) (L : Mem) (w : World) (h : MemA w a len L) (hb24 : 24 * len ≤ 281474976710656) (hs : ∀ k, (arrM L k).length ≤ 65536) :
    Calls Try.prog 33 #[.slice a len cap, .func (.func 34) #[] #[]] w fun e w' => (∃ (R : Nat) (G : Nat → Nat), e = .returned (.slice (some ⟨R, 0, none⟩) len len) ∧ w.heap.size ≤ R ∧ Mems w' w.heap.size (some ⟨R, 0, none⟩) G (fun k => (arrM L k).length) L ∧ ∀ k, k < len → R < G k) ∧ Below w.heap.size w w' := by
  have HA := hide h
  have HL := hide h.1
  have HBD := hide h.bd
  have HS := hide hs
  have hmk := run_make_row' (P := Try.prog) 28 82 (.slice none 0 0) 24 Try.underlying28 info_arrs rfl .i64 .i64 len hb24 (by omega)
  have hm := h.2.1
  have HROW : Hid (MemP (w.alloc (.cells (madeCells #[.slice none 0 0] len) 82)) w.heap.size w.heap.size len (fun _ => 0) L 0) := ⟨⟨fun _ => .slice none 0 0, ⟨_, World.alloc_heap_new _ _, size_madeCells _ _, fun i hi => by simp [madeCells, hi, Nat.mod_one]⟩, fun j hj => by omega⟩, fun j hj => by omega, fun i j hi => by omega, fun j hj => by omega⟩
  have HB0 : Hid (Below w.heap.size w (w.alloc (.cells (madeCells #[.slice none 0 0] len) 82))) := bl_new _
  clear h hs
  go_enter Try.func33, Try.ntmps33
  go_wp2_with fail
  clear hmk
  go_loopw [13] (fun i wr => ∃ k : Nat, k ≤ len ∧ i = .int .i64 k ∧ (∃ G, MemP wr w.heap.size w.heap.size len G L k) ∧ Below w.heap.size w wr) (fun i _ => len - (intOf i).toNat)
  case atStart => exact ⟨0, Nat.zero_le _, rfl, ⟨_, HROW.out⟩, HB0.out⟩
  case round =>
    obtain ⟨k, hk, rfl, ⟨G, hT⟩, hB⟩ := hrel
    have HT := hide hT
    have HB := hide hB
    clear HROW HB0 hT hB
    by_cases hlt : k < len
    · obtain ⟨b, off, rfl, hat⟩ := (HA.out.below HB.out).at (by omega)
      obtain ⟨x, l, c, c1, c2⟩ := hat k hlt
      have z1 := lt_of_cell c1
      simp only at z1
      have hl2 : (arrM L k).length = l := c2.1.1
      have HLL := hide hl2
      have HC := hide (fresh64_any x l c (arrM L k) wr c2.1 (by rw [← hl2]; exact HS.out k))
      clear hat c2 hl2
      go_wp2_with fail
      refine HC.out.mono ?_
      rintro e w2 ⟨⟨g, rfl, hr2, hg2⟩, hb2⟩
      have T2 := HT.out.below hb2
      obtain ⟨f, r1, r2⟩ := T2.head
      have d1 := r1.cell hlt
      have d3 := r1.frozen k
      have z3 := r1.lt
      have hsz := HB.out.size
      obtain ⟨f0, r0, _⟩ := HT.out.head
      have hR0 := r0.lt
      have HT2 := hide (T2.snoc g (rowN_of (by rw [HLL.out]; exact hr2) rfl) (fun j hj => by have := (HT.out.rows j hj).lt; omega) (by omega))
      rw [HLL.out] at HT2
      have HBb := hide (bl_on HB.out hb2)
      clear hb2 hr2 r1 r2 T2 r0
      go_wp2_with fail
      go_roundw
      case rel => exact ⟨k + 1, by omega, by go_num, ⟨_, HT2.out⟩, HBb.out.setCell (p := ⟨w.heap.size, k, none⟩) (Nat.le_refl _) _⟩
      case measure => simp [intOf]; omega
    · obtain rfl : len = k := by omega
      go_wp2_with fail
      go_ret
      have T := HT.out
      have hLn := HL.out
      subst hLn
      exact ⟨⟨w.heap.size, G, rfl, Nat.le_refl _, T.mems (Nat.le_refl _) HBD.out HS.out, T.lo⟩, HB.out⟩
end Go.Proofs.Ytoidgdbgpbcebaa.V
namespace Go.Proofs.Ytoidgdbgpbcebaa.V
open Go.RowKit
set_option linter.unusedVariables false

/-- All spots in another order: any two that change places commute. -/
theorem fold_perm {α β : Type} (f : β → α → β) (Good : β → Prop) (hG : ∀ b a, Good b → Good (f b a)) : ∀ (S' S : List α) (M : β), Good M → S'.Perm S → S.Nodup → (∀ a b, [b, a].Sublist S → [a, b].Sublist S' → ∀ N, Good N → f (f N b) a = f (f N a) b) → S.foldl f M = S'.foldl f M
  | [], S, M, hM, hp, _, _ => by
    have : S = [] := by have := hp.length_eq; simpa using this.symm
    rw [this]
  | a :: T, S, M, hM, hp, hn, h => by
    have ha : a ∈ S := hp.subset (by simp)
    obtain ⟨pre, post, hS⟩ := List.append_of_mem ha
    subst hS
    have hp2 : T.Perm (pre ++ post) := by
      have h1 : (pre ++ a :: post).Perm (a :: (pre ++ post)) := List.perm_middle
      exact (List.perm_cons a).1 (hp.trans h1)
    have hn2 : (a :: (pre ++ post)).Nodup := (List.perm_middle.nodup_iff).1 hn
    have hn3 := (List.nodup_cons.1 hn2)
    rw [fold_front f Good hG a post pre M hM (fun b hb N hN => ?_)]
    · rw [List.foldl_cons]
      refine fold_perm f Good hG T (pre ++ post) (f M a) (hG _ _ hM) hp2 hn3.2 (fun c b h1 h2 => h c b (h1.trans ?_) (h2.trans (List.sublist_cons_self a T)))
      exact List.Sublist.append (List.Sublist.refl pre) (List.sublist_cons_self a post)
    · refine h a b ?_ ?_ N hN
      · have h1 : [b].Sublist pre := List.singleton_sublist.2 hb
        have h2 : [a].Sublist (a :: post) := List.singleton_sublist.2 (by simp)
        exact List.Sublist.append h1 h2
      · have hbT : b ∈ T := hp2.symm.subset (by simp [hb])
        exact List.Sublist.cons_cons a (List.singleton_sublist.2 hbT)

/-- Times have a linear order. -/
theorem befN_irr (f : Nat → Int) : ∀ n k, befN f f n k = false
  | 0, _ => rfl
  | n + 1, k => by simp only [befN]; rw [if_neg (by simp)]; exact befN_irr f n (k + 1)
theorem befB_irr (f : Nat → Int) : befB f f = false := befN_irr f 8 0
theorem befN_tri (f g : Nat → Int) : ∀ n k, befN f g n k = true ∨ befN g f n k = true ∨ ∀ j, k ≤ j → j < k + n → f j = g j
  | 0, k => .inr (.inr fun j h1 h2 => by omega)
  | n + 1, k => by
    simp only [befN]
    by_cases e : f k = g k
    · rw [if_neg (by simpa using e), if_neg (by simpa using e.symm)]
      rcases befN_tri f g n (k + 1) with h | h | h
      · exact .inl h
      · exact .inr (.inl h)
      · refine .inr (.inr fun j h1 h2 => ?_)
        by_cases ej : j = k
        · subst ej; exact e
        · exact h j (by omega) (by omega)
    · rw [if_pos e, if_pos (fun h => e h.symm)]
      by_cases hl : f k < g k
      · exact .inl (by simpa using hl)
      · exact .inr (.inl (by simp; omega))
theorem befB_tri (f g : Nat → Int) : befB f g = true ∨ befB g f = true ∨ ∀ j, j < 8 → f j = g j := by
  rcases befN_tri f g 8 0 with h | h | h
  · exact .inl h
  · exact .inr (.inl h)
  · exact .inr (.inr fun j hj => h j (by omega) (by omega))
theorem befN_trans (f g h : Nat → Int) : ∀ n k, befN f g n k = true → befN g h n k = true → befN f h n k = true
  | 0, _, h1, _ => by simp [befN] at h1
  | n + 1, k, h1, h2 => by
    simp only [befN] at h1 h2 ⊢
    by_cases e1 : f k = g k
    · rw [if_neg (by simpa using e1)] at h1
      by_cases e2 : g k = h k
      · rw [if_neg (by simpa using e2)] at h2
        rw [if_neg (by simpa using e1.trans e2)]
        exact befN_trans f g h n (k + 1) h1 h2
      · rw [if_pos e2] at h2
        rw [if_pos (by rw [e1]; exact e2), e1]; exact h2
    · rw [if_pos e1] at h1
      have l1 : f k < g k := by simpa using h1
      by_cases e2 : g k = h k
      · rw [if_pos (by omega)]
        simp; omega
      · rw [if_pos e2] at h2
        have l2 : g k < h k := by simpa using h2
        rw [if_pos (by omega)]
        simp; omega
theorem befB_trans {f g h : Nat → Int} (h1 : befB f g = true) (h2 : befB g h = true) : befB f h = true := befN_trans f g h 8 0 h1 h2
theorem befB_asymm {f g : Nat → Int} (h : befB f g = true) : befB g f = false := by
  cases e : befB g f with
  | false => rfl
  | true => have := befB_trans h e; rw [befB_irr] at this; cases this
theorem befN_congr {f f' g g' : Nat → Int} : ∀ n k, (∀ j, k ≤ j → j < k + n → f j = f' j ∧ g j = g' j) → befN f g n k = befN f' g' n k
  | 0, _, _ => rfl
  | n + 1, k, h => by
    simp only [befN]
    rw [(h k (by omega) (by omega)).1, (h k (by omega) (by omega)).2, befN_congr n (k + 1) (fun j h1 h2 => h j (by omega) (by omega))]
theorem befB_congr {f f' g g' : Nat → Int} (h : ∀ j, j < 8 → f j = f' j ∧ g j = g' j) : befB f g = befB f' g' := befN_congr 8 0 (fun j _ h2 => h j (by omega))
/-- A spot's time. -/
def spT (T : List (List (List Int × Int))) (sp : Nat × List Int) : Nat → Int := timeV (T[sp.1]?.getD []) sp.2
/-- No two that are in each other's way change places. -/
def LegalN (ss : List Stm) (zs : Mem) (T : List (List (List Int × Int))) (S : List (Nat × List Int)) : Prop := ∀ i j : Nat, i < j → j < S.length → befB (spT T (S[j]?.getD (0, []))) (spT T (S[i]?.getD (0, []))) = true → ¬ clash zs (ss[(S[i]?.getD (0, [])).1]?.getD stmD) (ss[(S[j]?.getD (0, [])).1]?.getD stmD) (S[i]?.getD (0, [])).2 (S[j]?.getD (0, [])).2
/-- No two of one time are in each other's way. -/
def FreeN (ss : List Stm) (zs : Mem) (T : List (List (List Int × Int))) (S : List (Nat × List Int)) : Prop := ∀ i j : Nat, i < j → j < S.length → (∀ k, k < 8 → spT T (S[j]?.getD (0, [])) k = spT T (S[i]?.getD (0, [])) k) → ¬ clash zs (ss[(S[i]?.getD (0, [])).1]?.getD stmD) (ss[(S[j]?.getD (0, [])).1]?.getD stmD) (S[i]?.getD (0, [])).2 (S[j]?.getD (0, [])).2
theorem sublist_two {α : Type} {S : List α} {a b d : α} (h : [b, a].Sublist S) : ∃ i j : Nat, i < j ∧ j < S.length ∧ S[i]?.getD d = b ∧ S[j]?.getD d = a := by
  induction S with
  | nil => simp at h
  | cons c S ih =>
    cases h with
    | cons _ h =>
      obtain ⟨i, j, h1, h2, h3, h4⟩ := ih h
      exact ⟨i + 1, j + 1, by omega, by simp; omega, by simpa using h3, by simpa using h4⟩
    | cons_cons _ h =>
      have ha : a ∈ S := List.singleton_sublist.1 h
      obtain ⟨j, hj, e⟩ := List.getElem_of_mem ha
      exact ⟨0, j + 1, by omega, by simp; omega, rfl, by simp [hj, e]⟩
end Go.Proofs.Ytoidgdbgpbcebaa.V
