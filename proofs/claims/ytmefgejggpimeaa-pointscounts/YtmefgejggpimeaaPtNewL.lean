/-
  Lists made in a drawn region: the facts; append onto an empty list.
-/
import Derived.Test.YtmefgejggpimeaaFacts
import Derived.Test.YtmefgejggpimeaaPtLists
import Derived.ArgAppend
namespace Go.Proofs.Ytmefgejggpimeaa.V
open Go.RowKit
set_option linter.unusedVariables false

/-- A list of one's own, at the beginning of its block. -/
def PtNewL (N : Nat) (xs : List Int) (v : Value) (w : World) : Prop := ∃ (G c : Nat) (f : Nat → Value), v = .slice (some ⟨G, 0, none⟩) xs.length c ∧ xs.length ≤ c ∧ N ≤ G ∧ w.rowIs G 3 c f ∧ ∀ j, j < xs.length → f j = .int .i64 (xs[j]?.getD 0)
def fPtNewL (N : Nat) (xs : List Int) : Fact := ⟨PtNewL N xs, true⟩
theorem fPtNewL_good (N : Nat) (xs : List Int) : (fPtNewL N xs).Good := ⟨fun _ _ _ ⟨G, c, f, h1, h2, h3, h4, h5⟩ hb => ⟨G, c, f, h1, h2, h3, h4.of_block (hb.block G h4.lt), h5⟩, fun _ v w b ⟨G, c, f, h1, _, _, h4, _⟩ hb => by
  subst h1
  simp [blk] at hb
  rw [← hb]
  exact h4.lt⟩
/-- append([]int{}, list...). -/
theorem pt_append_fresh {w : World} {o : Oper} {a : Act} {K : Act → World → Prop} {Q : Exit → Act → World → Prop} (s x : Operand) (ho : o.op = .call { callee := .builtin .append, args := #[s, x], argTypes := #[22, 22] })
    (N B q c : Nat) (X : Option Addr) (ys : List Int) (hs : a.eval s = .slice (some ⟨B, 0, none⟩) 0 0) (hx : a.eval x = .slice X q c) (hI : Ints w X q ys) (hq : 0 < q) (hq6 : q ≤ 1048576) (hN : N ≤ w.heap.size)
    (h : ∀ v w', PtNewL N ys v w' → Below w.heap.size w w' → (∀ b, blk v = some b → w.heap.size ≤ b) → K (a.put o.dst v) w') : o.wp Try.prog a w K Q := by
  obtain ⟨i, hi1, hz, hsz, hby⟩ := info_parts info_int
  obtain ⟨b, off, rfl, _, hc⟩ := hI.at hq
  have hl := hI.1
  obtain ⟨v', w', hr, r1, r2⟩ := run_append_arg_grows (P := Try.prog) w 22 o.type 3 i (.int .i64 0) 1 8 Try.underlying22 hi1 hz hsz hby rfl (by omega) ⟨B, 0, none⟩ 0 0 [] rfl (fun j u hj => by simp at hj) ⟨b, off, none⟩ q c (ys.map (Value.int .i64)) (by simp [hl]) (fun j u hj => by
      have hjl : j < q := by have := (List.getElem?_eq_some_iff.1 hj).1; simpa [hl] using this
      have h3 : u = .int .i64 (ys[j]?.getD 0) := by
        have : j < ys.length := by rw [hl]; exact hjl
        simp [this] at hj ⊢
        exact hj.symm
      rw [h3, Addr.add_lit]
      exact hc j hjl) (by omega) (by unfold maxLen; omega) (by omega)
  have hb : Below w.heap.size w w' := (Below.refl _ w).grown r2 (Nat.le_refl _) (fun k hk => by cases hk)
  rcases r1.2 with ⟨_, hv⟩ | ⟨g, cap, cur, rfl, hg1, hgc, hg2, _, hcs, htk⟩
  · omega
  · unfold Oper.wp
    simp [execOp, ho, resolve, invoke, builtin, hs, hx, hr, Result.andThen]
    have hcell : ∀ j, j < q → w'.cell? ⟨g, j, none⟩ = some (.int .i64 (ys[j]?.getD 0)) := fun j hj => by
      have e : w'.cell? ⟨g, j, none⟩ = ([] ++ ys.map (Value.int .i64))[j]? := by
        rw [← htk, List.getElem?_take_of_lt (by omega), Array.getElem?_toList]
        simp [World.cell?, hgc]
      have hj2 : j < ys.length := by omega
      rw [e]
      simp [hj2]
    refine h _ _ ⟨g, cap, fun j => cur[j]?.getD undef, by rw [hl], by omega, by omega, ⟨cur, hgc, by omega, fun j hj => ?_⟩, fun j hj => ?_⟩ hb (fun b hb => by simp [blk] at hb; omega)
    · have : j < cur.size := by omega
      simp [this]
    · have hc1 := hcell j (by omega)
      simp [World.cell?, hgc] at hc1
      simp [hc1]
/-- An empty list. -/
def fPtNo : Fact := ⟨fun v _ => ∃ B, v = .slice (some ⟨B, 0, none⟩) 0 0, false⟩
theorem fPtNo_good : fPtNo.Good := ⟨fun _ _ _ h _ => h, fun h => by cases h⟩
/-- An empty list, and its block. -/
def fPtVoid : Fact := ⟨fun v w => ∃ B, v = .slice (some ⟨B, 0, none⟩) 0 0 ∧ w.heap[B]? = some (.cells #[] 3 (0, 0)), false⟩
theorem fPtVoid_good : fPtVoid.Good := ⟨fun _ _ _ ⟨B, h1, h2⟩ hb => ⟨B, h1, (hb.block B (Array.getElem?_eq_some_iff.1 h2).1).trans h2⟩, fun h => by cases h⟩
/-- append([]int{}, list...), of an empty list. -/
theorem pt_append_none {w : World} {o : Oper} {a : Act} {K : Act → World → Prop} {Q : Exit → Act → World → Prop} (s x : Operand) (ho : o.op = .call { callee := .builtin .append, args := #[s, x], argTypes := #[22, 22] })
    (B c : Nat) (X : Option Addr) (hs : a.eval s = .slice (some ⟨B, 0, none⟩) 0 0) (hB : w.heap[B]? = some (.cells #[] 3 (0, 0))) (hx : a.eval x = .slice X 0 c) (h0 : X = none → c = 0)
    (h : ∀ w', Below w.heap.size w w' → K (a.put o.dst (.slice (some ⟨B, 0, none⟩) 0 0)) w') : o.wp Try.prog a w K Q := by
  obtain ⟨i, hi1, hz, hsz, hby⟩ := info_parts info_int
  have key : ∃ w', (Builtin.append_ #[22, 22] o.type #[.slice (some ⟨B, 0, none⟩) 0 0, .slice X 0 c]).run Try.prog w = .ok (.slice (some ⟨B, 0, none⟩) 0 0) w' ∧ Below w.heap.size w w' := by
    cases X with
    | none =>
      obtain rfl := h0 rfl
      have hr := run_append_owned_none (P := Try.prog) (w := w) 0 22 o.type 3 i 1 Try.underlying22 hi1 (.slice (some ⟨B, 0, none⟩) 0 0) 0 [] ⟨rfl, .inr ⟨B, 0, #[], rfl, Nat.zero_le _, hB, Nat.le_refl _, by unfold maxLen; omega, by simp, by simp⟩⟩
      exact ⟨w, hr, Below.refl _ _⟩
    | some ad =>
      have hr := run_append_room_cells (P := Try.prog) w 22 o.type 3 i Try.underlying22 hi1 B 0 0 0 ad 0 c [] (by simp) (by simp) (by simp) (Nat.le_refl _) (by simp) (by simp)
      exact ⟨_, hr, by simpa [World.setCells] using Below.refl _ w⟩
  obtain ⟨w', hr, hb⟩ := key
  unfold Oper.wp
  simp [execOp, ho, resolve, invoke, builtin, hs, hx, hr, Result.andThen]
  exact h _ hb
end Go.Proofs.Ytmefgejggpimeaa.V
