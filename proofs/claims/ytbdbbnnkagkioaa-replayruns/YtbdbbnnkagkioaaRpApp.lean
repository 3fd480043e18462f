/-
  append of one number to a list of the call's own; the costs, one behind the other.
-/
import Derived.Test.YtbdbbnnkagkioaaRpChart
import Derived.Laws.AppendOwn
import Derived.Laws.OwnMore
import Derived.Laws.AppendOwnNone
namespace Go.Proofs.Ytbdbbnnkagkioaa.V
open Go.RowKit
set_option linter.unusedVariables false

theorem infoI : (Try.prog.info? 3).map (fun i => (i.zero, i.size, i.bytes)) = some (some (.int .i64 0), 1, 8) := by kernel_rfl
theorem append_one {w : World} {ops : Array Oper} {rest : List Oper} {o : Oper} {a : Act} {Q : Exit → Act → World → Prop} (hgd : o.guard = none) (s x : Operand)
    (ho : o.op = .call { callee := .builtin .append, args := #[s, x], argTypes := #[22, 22] }) (base : Nat)
    (v : Value) (n : Nat) (xs : List Value) (hs : a.eval s = v) (hown : w.ownsRow base 3 1 v n xs)
    (g c : Nat) (y : Int) (hx : a.eval x = .slice (some ⟨g, 0, none⟩) 1 c) (hl : w.cell? ⟨g, 0, none⟩ = some (.int .i64 y)) (hbytes : (n + 1) * 8 ≤ 140737488355328) (hbase : base ≤ w.heap.size)
    (h : ∀ v' w', w'.ownsRow base 3 1 v' (n + 1) (xs ++ [.int .i64 y]) → w.grownBy w' v.ownBlock → wpList Try.prog ops Q rest (a.put o.dst v') w') : wpList Try.prog ops Q (o :: rest) a w := by
  obtain ⟨i0, hi, hz0, hz1, hz2⟩ := info_parts infoI
  refine wpList_append_own w hgd s x 22 ho base 3 i0 (.int .i64 0) 1 8 Try.underlying22 hi hz0 hz1 hz2 rfl (by decide) v n xs hs hown ⟨g, 0, none⟩ 1 c [.int .i64 y] hx rfl ?_ ?_ (by unfold maxLen; omega) hbytes hbase (fun v' w' h1 h2 _ => h v' w' h1 h2)
  · intro j u hj
    have hjl : j = 0 := by have := (List.getElem?_eq_some_iff.1 hj).1; simp at this; exact this
    subst hjl
    simp at hj
    rw [← hj, Go.WideShapes.add_plain]
    exact hl
  · intro u hu; simp at hu; subst hu; rfl
theorem grownOwn {w wr w2 : World} {t : TypeId} {n : Nat} {v : Value} {xs : List Value} (hB : Below w.heap.size w wr) (ho : wr.ownsRow w.heap.size t 1 v n xs) (hg : wr.grownBy w2 v.ownBlock) : Below w.heap.size w w2 :=
  hB.grown hg hB.size (fun j e => (ho.lt j e).1)
/-- A list of the call's own that is not empty. -/
theorem own_at {w : World} {B n : Nat} {v : Value} {xs : List Value} (h : w.ownsRow B 3 1 v n xs) (hn : 0 < n) : ∃ g cap, v = .slice (some ⟨g, 0, none⟩) n cap ∧ ∀ j, j < n → w.cell? ⟨g, j, none⟩ = xs[j]? := by
  have h' := h
  rcases h.2 with ⟨_, e⟩ | ⟨g, cap, cur, rfl, _⟩
  · omega
  · exact ⟨g, cap, rfl, fun j hj => h'.cellAt j (by omega)⟩

/-- The costs for fewer than m steps. -/
def costs (s m : Nat) : List Value := (List.range m).map fun j => .int .i64 (T s j : Nat)
theorem costs_succ (s m : Nat) : costs s (m + 1) = costs s m ++ [.int .i64 (T s m : Nat)] := by simp [costs, List.range_succ]
theorem costs_get (s m j : Nat) (h : j < m) : (costs s m)[j]? = some (.int .i64 (T s j : Nat)) := by simp [costs, h]
theorem costs_two (s : Nat) : costs s 2 = [.int .i64 0, .int .i64 0] := by
  rw [costs_succ, costs_succ, T_zero (.inr (by omega)), T_zero (.inr (by omega))]; rfl
/-- The costs with s slots. -/
def Bef (w : World) (v : Value) (s n : Nat) : Prop := (s = 0 ∧ v = .slice none 0 0) ∨ ∃ g cap, v = .slice (some ⟨g, 0, none⟩) (n + 1) cap ∧ ∀ j, j ≤ n → w.cell? ⟨g, j, none⟩ = some (.int .i64 (T s j : Nat))
theorem Bef.below {w w' : World} {v : Value} {s n : Nat} (h : Bef w v s n) (hb : Below w.heap.size w w') : Bef w' v s n := by
  rcases h with h | ⟨g, cap, h1, h2⟩
  · exact .inl h
  · exact .inr ⟨g, cap, h1, fun j hj => (hb.cell (p := ⟨g, j, none⟩) (lt_of_cell (h2 j hj))).trans (h2 j hj)⟩
theorem bef_own {w : World} {B n s : Nat} {v : Value} (h : w.ownsRow B 3 1 v (n + 1) (costs s (n + 1))) : Bef w v s n := by
  obtain ⟨g, cap, e, hc⟩ := own_at h (by omega)
  exact .inr ⟨g, cap, e, fun j hj => by rw [hc j (by omega), costs_get _ _ _ (by omega)]⟩
end Go.Proofs.Ytbdbbnnkagkioaa.V
