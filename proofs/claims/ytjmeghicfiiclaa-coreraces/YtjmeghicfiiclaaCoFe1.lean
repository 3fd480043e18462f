/-
  Rows of posts: append, and taking the first one.
-/
import Derived.Test.YtjmeghicfiiclaaCoFm
import Derived.Test.YtjmeghicfiiclaaFactsR
import Derived.Test.YtjmeghicfiiclaaCoRc1
namespace Go.Proofs.Ytjmeghicfiiclaa.V
open Go Go.RowKit
set_option linter.unusedVariables false

def ivsI (xs : List Int) : List Value := xs.map fun x => .int .i64 x
theorem ci_info : (Try.prog.info? 3).map (fun i => (i.zero, i.size, i.bytes)) = some (some (.int .i64 0), 1, 8) := by kernel_rfl
def fBxI (row : Option Nat) (n : Int) : Fact := ⟨fun v W => ∃ Bk : Nat, v = .slice (some ⟨Bk, 0, none⟩) 1 1 ∧ W.heap[Bk]? = some (.cells #[.int .i64 n] 3 (0, 0)) ∧ some Bk ≠ row, false⟩
theorem fBxI_good (row : Option Nat) (n : Int) : (fBxI row n).GoodR (fun a b => a.grownBy b row) false := ⟨fun _ _ _ ⟨Bk, h1, h2, h3⟩ hb => ⟨Bk, h1, (hb.block Bk (Array.getElem?_eq_some_iff.1 h2).1).trans h2, h3⟩, fun _ _ _ _ ⟨Bk, h1, h2, h3⟩ hg => ⟨Bk, h1, (hg.block Bk (Array.getElem?_eq_some_iff.1 h2).1 h3).trans h2, h3⟩, fun h => by cases h⟩
def fApI (N N0 : Nat) (row : Option Nat) (n : Int) (m : Nat) (cr : List Value) : Fact := ⟨fun v W => (⟨v, 3, 1, m + 1, cr ++ [.int .i64 n]⟩ : Mb).own W N ∧ (v.ownBlock = row ∨ ∀ g, v.ownBlock = some g → N0 ≤ g), false⟩
theorem fApI_good (N N0 : Nat) (row : Option Nat) (n : Int) (m : Nat) (cr : List Value) (R : World → World → Prop) : (fApI N N0 row n m cr).GoodR R true := ⟨fun _ _ _ ⟨h1, h2⟩ hb => ⟨h1.below hb, h2⟩, (fun h => by cases h), (fun h => by cases h)⟩
theorem ci_is_good (c : Value) (R : World → World → Prop) (b : Bool) : (fIs c).GoodR R b := ⟨fun _ _ _ h _ => h, fun _ _ _ _ h _ => h, fun h => by cases h⟩
/-- append(posts, number), in whatever order. -/
theorem wp_append_i {w : World} {o : Oper} {a : Act} {Kc : Act → World → Prop} {Q : Exit → Act → World → Prop} (s x : Operand) (ho : o.op = .call { callee := .builtin .append, args := #[s, x], argTypes := #[33, 33] })
    (B : Nat) (v : Value) (m : Nat) (cr : List Value) (hs : a.eval s = v) (hS : (⟨v, 3, 1, m, cr⟩ : Mb).own w B) (Bk : Nat) (n : Int) (hx : a.eval x = .slice (some ⟨Bk, 0, none⟩) 1 1) (hy : w.heap[Bk]? = some (.cells #[.int .i64 n] 3 (0, 0))) (h8 : m ≤ 1000000000) (hB : B ≤ w.heap.size)
    (h : ∀ v' w', (⟨v', 3, 1, m + 1, cr ++ [.int .i64 n]⟩ : Mb).own w' B → w.grownBy w' v.ownBlock → (v'.ownBlock = v.ownBlock ∨ v'.ownBlock = some w.heap.size) → Kc (a.put o.dst v') w') : o.wp Try.prog a w Kc Q := by
  obtain ⟨i0, hi, hz0, hz1, hz2⟩ := info_parts ci_info
  obtain ⟨v', w', hrun, q2, q3, _, q5⟩ := run_append_own_at (P := Try.prog) w B 33 o.type 3 i0 _ 1 8 Try.underlying33 hi hz0 hz1 hz2 rfl (by decide) v m cr hS ⟨Bk, 0, none⟩ 1 1 [.int .i64 n] rfl (fun j y hj => by
    rw [Go.WideShapes.add_plain, Nat.zero_add]
    simp only [World.cell?, hy]
    simpa using hj) (fun y hy2 => by
      simp at hy2
      rw [hy2]
      rfl) (by unfold maxLen; omega) (by omega) hB
  unfold Oper.wp execOp
  simp only [ho, resolve, invoke, builtin, Sem.run_bind, Sem.run_pure, Result.andThen_ok, List.map_toArray, List.map_cons, List.map_nil, hs, hx, hrun]
  exact h v' w' q2 q3 q5
/-- A queue: what is left of a row. -/
def QV (w : World) (A O : Nat) (v : Value) (xs : List Int) : Prop := ∃ a len cap, v = .slice a len cap ∧ xs.length = len ∧ len ≤ cap ∧ (len = 0 ∨ ∃ b off, a = some ⟨b, off, none⟩ ∧ b ≠ A ∧ b ≠ O ∧ ∀ i, i < len → w.cell? ⟨b, off + i, none⟩ = some (.int .i64 (xs[i]?.getD 0)))
theorem QV.keep {w w' : World} {A O : Nat} {v : Value} {xs : List Int} (h : QV w A O v xs) (hk : ∀ b, b ≠ A → b ≠ O → b < w.heap.size → w'.heap[b]? = w.heap[b]?) : QV w' A O v xs := by
  obtain ⟨a, len, cap, h1, h2, h3, h4⟩ := h
  refine ⟨a, len, cap, h1, h2, h3, ?_⟩
  rcases h4 with h4 | ⟨b, off, e, n1, n2, h5⟩
  · exact .inl h4
  · exact .inr ⟨b, off, e, n1, n2, fun i hi => (World.cell?_of_block (hk b n1 n2 (lt_of_cell (h5 i hi)))).trans (h5 i hi)⟩
theorem take_none (A s : Nat) (a : Option Addr) (cap : Nat) (no : Int) (w : World) (hc : w.cell? ⟨A, s, none⟩ = some (.slice a 0 cap)) : Calls Try.prog 30 #[.pointer (some ⟨A, s, none⟩), .int .i64 no] w fun r w' => r = .returned (.int .i64 no) ∧ w' = w := by
  have zc := lt_of_cell hc
  simp only at zc
  go_enter Try.func30, Try.ntmps30
  go_wp2
  go_ret
  exact ⟨rfl, rfl⟩
def tailV (b off len cap : Nat) : Value := .slice (if cap = 1 then some ⟨b, off, none⟩ else some ⟨b, off + 1, none⟩) (len - 1) (cap - 1)
theorem take_some (A s b off len cap : Nat) (x no : Int) (w : World) (hl : 0 < len) (hlc : len ≤ cap) (hm : len ≤ 1000000000) (hc : w.cell? ⟨A, s, none⟩ = some (.slice (some ⟨b, off, none⟩) len cap)) (hf : w.frozen? ⟨A, s, none⟩ = false) (hx : w.cell? ⟨b, off, none⟩ = some (.int .i64 x)) :
    Calls Try.prog 30 #[.pointer (some ⟨A, s, none⟩), .int .i64 no] w fun r w' => r = .returned (.int .i64 x) ∧ w' = w.setCell ⟨A, s, none⟩ (tailV b off len cap) := by
  have zc := lt_of_cell hc
  have zx := lt_of_cell hx
  simp only at zc zx
  have l0 : ((len : Int) == 0) = false := by simp; omega
  have l1 : (0 : Int) < (len : Int) := by omega
  have l2 : 1 ≤ len := hl
  have l3 : (1 : Int) ≤ (len : Int) := by omega
  have l4 : ¬ len = 0 := by omega
  unfold tailV
  by_cases h1 : cap = 1
  · subst h1
    go_enter Try.func30, Try.ntmps30
    go_wp2
    go_ret
    exact ⟨rfl, rfl⟩
  · rw [if_neg h1]
    go_enter Try.func30, Try.ntmps30
    go_wp2
    go_ret
    exact ⟨rfl, rfl⟩
end Go.Proofs.Ytjmeghicfiiclaa.V
