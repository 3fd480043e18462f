/-
  Contract: the function that Plan tells its moves to.
-/
import Derived.Test.YtdfpgpekilhelaaRpMoves
import Derived.Test.YtdfpgpekilhelaaRpWalkMath
namespace Go.Proofs.Ytdfpgpekilhelaa.V
open Go.RowKit
set_option linter.unusedVariables false

def flat (ms : List (Int × Int)) : List Value := ms.flatMap fun m => [.int .i64 m.1, .int .i64 m.2]
theorem flat_len (ms : List (Int × Int)) : (flat ms).length = ms.length * 2 := by
  induction ms with
  | nil => rfl
  | cons m r ih => simp only [flat, List.flatMap_cons, List.length_append, List.length_cons, List.length_nil] at *; omega
theorem flat_one (ms : List (Int × Int)) (d N : Int) : flat (ms ++ [(d, N)]) = flat ms ++ [.int .i64 d, .int .i64 N] := by simp [flat]
theorem flat_get : ∀ (ms : List (Int × Int)) (j : Nat), j < ms.length → (flat ms)[j * 2]? = some (.int .i64 (ms[j]?.getD (0, 0)).1) ∧ (flat ms)[j * 2 + 1]? = some (.int .i64 (ms[j]?.getD (0, 0)).2)
  | [], j, h => by simp at h
  | m :: r, 0, h => by simp [flat]
  | m :: r, j + 1, h => by
    have ih := flat_get r j (by simpa using h)
    have e : flat (m :: r) = .int .i64 m.1 :: .int .i64 m.2 :: flat r := by simp [flat]
    rw [e, show (j + 1) * 2 = j * 2 + 1 + 1 by omega]
    simpa using ih
theorem own_slice {w : World} {B n : Nat} {t : TypeId} {v : Value} {xs : List Value} (h : w.ownsRow B t 2 v n xs) (hn : 0 < n) : ∃ g cap, v = .slice (some ⟨g, 0, none⟩) n cap := by
  rcases h.2 with ⟨_, e⟩ | ⟨g, cap, cur, rfl, _⟩
  · omega
  · exact ⟨g, cap, rfl⟩
/-- What has been told. -/
def Acc (w : World) (tb B : Nat) (ms : List (Int × Int)) : Prop :=
  ∃ v, w.heap[tb]? = some (.cells #[v] 26 (0, 0)) ∧ w.ownsRow B 45 2 v ms.length (flat ms) ∧ tb < B ∧ B ≤ w.heap.size
theorem infoM : (Try.prog.info? 45).map (fun i => (i.zero, i.size, i.bytes)) = some (some (.agg #[.int .i64 0, .int .i64 0]), 2, 16) := by kernel_rfl
theorem append_move {w : World} {ops : Array Oper} {rest : List Oper} {o : Oper} {a : Act} {Q : Exit → Act → World → Prop} (hgd : o.guard = none) (s x : Operand)
    (ho : o.op = .call { callee := .builtin .append, args := #[s, x], argTypes := #[26, 26] }) (base : Nat)
    (v : Value) (n : Nat) (xs : List Value) (hs : a.eval s = v) (hown : w.ownsRow base 45 2 v n xs)
    (g c : Nat) (d N : Int) (hx : a.eval x = .slice (some ⟨g, 0, none⟩) 1 c) (hl : w.cell? ⟨g, 0, none⟩ = some (.int .i64 d)) (hl2 : w.cell? ⟨g, 1, none⟩ = some (.int .i64 N)) (hbytes : n ≤ 1000000) (hbase : base ≤ w.heap.size)
    (h : ∀ v' w', w'.ownsRow base 45 2 v' (n + 1) (xs ++ [.int .i64 d, .int .i64 N]) → w.grownBy w' v.ownBlock → wpList Try.prog ops Q rest (a.put o.dst v') w') : wpList Try.prog ops Q (o :: rest) a w := by
  obtain ⟨i, hi, hzz⟩ := Option.map_eq_some_iff.1 infoM
  simp only [Prod.mk.injEq] at hzz
  obtain ⟨hz0, hz1, hz2⟩ := hzz
  refine wpList_append_own w hgd s x 26 ho base 45 i _ 2 16 Try.underlying26 hi hz0 hz1 hz2 rfl (by decide) v n xs hs hown ⟨g, 0, none⟩ 1 c [.int .i64 d, .int .i64 N] hx rfl ?_ ?_ (by unfold maxLen; omega) (by omega) hbase (fun v' w' h1 h2 _ => h v' w' h1 h2)
  · intro j u hj
    have hjl : j = 0 ∨ j = 1 := by have := (List.getElem?_eq_some_iff.1 hj).1; simp at this; omega
    rw [Go.WideShapes.add_plain]
    rcases hjl with rfl | rfl
    · simp at hj; rw [← hj]; exact hl
    · simp at hj; rw [← hj]; exact hl2
  · intro u hu; simp at hu; rcases hu with rfl | rfl <;> rfl
theorem cells_new2 (w : World) (x y : Int) (t : TypeId) : (w.alloc (.cells #[.int .i64 x, .int .i64 y] t)).cell? ⟨w.heap.size, 0, none⟩ = some (.int .i64 x) ∧ (w.alloc (.cells #[.int .i64 x, .int .i64 y] t)).cell? ⟨w.heap.size, 1, none⟩ = some (.int .i64 y) := by
  unfold World.cell?
  rw [World.alloc_heap_new w (.cells #[.int .i64 x, .int .i64 y] t)]
  exact ⟨rfl, rfl⟩

set_option maxHeartbeats 1000000 in
theorem tell_any (tb B : Nat) (ms : List (Int × Int)) (d N : Int) (w : World) (h : Acc w tb B ms) (hl : ms.length ≤ 1000000) :
    Calls Try.prog 21 #[.agg #[.int .i64 d, .int .i64 N], .pointer (some ⟨tb, 0, none⟩)] w fun e w' => e = .returned (.tuple #[]) ∧ Acc w' tb B (ms ++ [(d, N)]) ∧ Below tb w w' := by
  obtain ⟨v, h1, h2, h3, h4⟩ := h
  have k1 : w.cell? ⟨tb, 0, none⟩ = some v := by simp [World.cell?, h1]
  have z := lt_of_cell k1
  obtain ⟨A, hA⟩ : ∃ A : Obj, A = .cells #[.int .i64 d, .int .i64 N] 45 := ⟨_, rfl⟩
  obtain ⟨c0, c1⟩ := cells_new2 (w.alloc A) d N 45
  simp only [World.size_alloc, ← hA] at c0 c1
  have O := (h2.alloc A).alloc A
  have hT : ((w.alloc A).alloc A).heap[tb]? = some (.cells #[v] 26 (0, 0)) := ((Below.heap_alloc _ _ _ (by simp; omega)).trans (Below.heap_alloc _ _ _ z)).trans h1
  have hB : Below tb w ((w.alloc A).alloc A) := ((Below.refl _ _).alloc (by omega) _).alloc (by simp; omega) _
  have G : ∀ v1 w1, ((w.alloc A).alloc A).grownBy w1 v.ownBlock → w1.ownsRow B 45 2 v1 (ms.length + 1) (flat ms ++ [.int .i64 d, .int .i64 N]) → (w1.cell? ⟨tb, 0, none⟩ = some v ∧ w1.frozen? ⟨tb, 0, none⟩ = false) ∧ Acc (w1.setCell ⟨tb, 0, none⟩ v1) tb B (ms ++ [(d, N)]) ∧ Below tb w (w1.setCell ⟨tb, 0, none⟩ v1) := by
    intro v1 w1 hg ho
    have hne : some tb ≠ v.ownBlock := fun e => by have := (h2.lt tb e.symm).1; omega
    have hT1 : w1.heap[tb]? = some (.cells #[v] 26 (0, 0)) := (hg.block tb (by simp; omega) hne).trans hT
    refine ⟨⟨by simp [World.cell?, hT1], by simp [World.frozen?, hT1]⟩, ⟨v1, ?_, ?_, h3, ?_⟩, ?_⟩
    · simp [World.setCell, Array.getElem?_modify, hT1]
    · have e : (ms ++ [(d, N)]).length = ms.length + 1 := by simp
      rw [flat_one, e]
      exact ownsRow_setCell_below ho (a := ⟨tb, 0, none⟩) h3 v1
    · have := hg.size
      simp at this ⊢
      omega
    · exact (hB.grown hg (by simp; omega) (fun k hk => by have := (h2.lt k hk).1; omega)).setCell (p := ⟨tb, 0, none⟩) (Nat.le_refl _) v1
  have C0 := hide c0
  have C1 := hide c1
  have OO := hide O
  have GG := hide G
  clear h1 h2 c0 c1 O hT hB G
  go_enter Try.func21, Try.ntmps21
  go_wp2_with (at_builtin; rw [← hA]; refine append_move (by rfl) (.tmp 3) (.tmp 5) (by rfl) B v ms.length (flat ms) (by rfl) OO.out (w.heap.size + 1) 1 d N (by rfl) C0.out C1.out hl (by simp; omega) ?_; intro v1 w1 hown1 hg1; obtain ⟨⟨q0, q1⟩, q2, q3⟩ := GG.out v1 w1 hg1 hown1; have Q2 := hide q2; have Q3 := hide q3; obtain ⟨g1, cap1, rfl⟩ := own_slice hown1 (by omega); clear hown1 hg1 q2 q3)
  exact bodyPost_end (v := .tuple #[]) (by simp [results, Try.results21, go_sem]) rfl ⟨rfl, Q2.out, Q3.out⟩
end Go.Proofs.Ytdfpgpekilhelaa.V
