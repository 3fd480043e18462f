/-
  The document's Do: what each instruction does, as functions.
-/
import Derived.Test.YtoabffmiedbkkaaGreatRJ14
import Derived.Test.YtoabffmiedbkkaaGreatRJ15
import Derived.Test.YtoabffmiedbkkaaGreatRJ9
namespace Go.Proofs.YtoabffmiedbkkaaGreat.V
set_option maxRecDepth 20000
open Go Go.RowKit
set_option linter.unusedVariables false
set_option linter.unusedSimpArgs false

theorem wk_wrp (x : Int) : IntKind.i64.wrap x = wrp x := by
  rw [IntKind.wrap_i64]
  first | rfl | (unfold wrp; omega)
/-- What a word becomes, from the words that are read. -/
def newE (d ua ub uc um v : Int) : Int :=
  if d = 1 then um else if d = 5 then v else if d = 11 then (if ua ≠ 0 then ub else uc) else if d = 12 then wrp (ua + wrp (ub * uc)) else if d = 14 then wrp (ua + ub) else twoI d ub uc
theorem newW_E {x : In} (h13 : x.d ≠ 13) (p q : Int → Int) (k : Int) : newW x p q (x.a + k) = newE x.d (p (x.a + k)) (p (x.b + k)) (p (x.c + k)) (q (x.b + k * x.c)) x.v := by
  unfold newW newE
  rw [show x.a + k - x.a = k by omega]
  rw [if_neg h13]
/-- The pad behind k rounds. -/
def padS (x : In) (p q : Int → Int) (k : Nat) (w : Int) : Int := if x.a ≤ w ∧ w < x.a + (k : Int) then newW x p q w else p w
theorem padS_zero (x : In) (p q : Int → Int) (w : Int) : padS x p q 0 w = p w := by unfold padS; rw [if_neg (by omega)]
theorem padS_step {x : In} (h13 : x.d ≠ 13) (p q : Int → Int) (k ka : Nat) (hka : (ka : Int) = x.a + (k : Int)) (w : Int) : padS x p q (k + 1) w = if w = (ka : Int) then newE x.d (p (ka : Int)) (p (x.b + k)) (p (x.c + k)) (q (x.b + k * x.c)) x.v else padS x p q k w := by
  unfold padS
  by_cases e : w = (ka : Int)
  · rw [if_pos e, if_pos (by omega), e, hka, newW_E h13]
  · rw [if_neg e]
    by_cases h : x.a ≤ w ∧ w < x.a + (k : Int)
    · rw [if_pos h, if_pos (by omega)]
    · rw [if_neg h, if_neg (by omega)]
theorem padS_all {x : In} (hd : x.d = 1 ∨ 5 ≤ x.d ∧ x.d ≤ 12 ∨ x.d = 14) (p q : Int → Int) (N : Nat) (hN : x.n = (N : Int)) (w : Int) : padS x p q N w = doP x p q w := by
  have e : (tchV x).wr = ⟨x.a, x.n⟩ := by
    unfold tchV
    rw [if_neg (by omega)]
    by_cases h : x.d = 1 ∨ x.d = 5
    · rw [if_pos h]
    rw [if_neg h, if_neg (by omega)]
    by_cases h : x.d = 11 ∨ x.d = 12
    · rw [if_pos h]
    rw [if_neg h, if_neg (by omega)]
    by_cases h : x.d = 14
    · rw [if_pos h]
    rw [if_neg h]
  unfold padS doP inS
  rw [e]
  simp only [Bool.and_eq_true, decide_eq_true_eq, hN]
/-- Inner: the word behind k rounds. -/
def innP (x : In) (p : Int → Int) (k : Nat) (w : Int) : Int := if w = x.a then accI p x.b x.c k (p x.a) else p w
theorem innP_zero (x : In) (p : Int → Int) (w : Int) : innP x p 0 w = p w := by
  unfold innP accI
  split
  · rename_i h; rw [h]
  · rfl
theorem innP_step (x : In) (p : Int → Int) (k : Nat) (w : Int) : innP x p (k + 1) w = if w = x.a then wrp (innP x p k x.a + wrp (p (x.b + k) * p (x.c + k))) else innP x p k w := by
  unfold innP
  by_cases e : w = x.a
  · rw [if_pos e, if_pos e, if_pos rfl, accI]
  · rw [if_neg e, if_neg e, if_neg e]
theorem innP_all {x : In} (hd : x.d = 13) (p q : Int → Int) (N : Nat) (hN : x.n = (N : Int)) (w : Int) : innP x p N w = doP x p q w := by
  have e : (tchV x).wr = ⟨x.a, 1⟩ := by
    unfold tchV
    rw [if_neg (by omega), if_neg (by omega), if_neg (by omega), if_neg (by omega), if_pos hd]
  unfold innP doP inS
  rw [e]
  simp only [Bool.and_eq_true, decide_eq_true_eq]
  by_cases h : w = x.a
  · rw [if_pos h, if_pos (by omega), h]
    unfold newW
    rw [if_neg (by omega), if_neg (by omega), if_neg (by omega), if_neg (by omega), if_pos hd, hN]
    rfl
  · rw [if_neg h, if_neg (by omega)]
/-- An instruction in its box. -/
def InB (W : World) (ib : Nat) (d a b c n v : Int) : Prop := W.heap[ib]? = some (.cells #[.int .i64 d, .int .i64 a, .int .i64 b, .int .i64 c, .int .i64 n, .int .i64 v] 50 (0, 0))
theorem InB.below {W V : World} {ib : Nat} {d a b c n v : Int} (h : InB W ib d a b c n v) (hb : Below W.heap.size W V) : InB V ib d a b c n v := (hb.block ib (Array.getElem?_eq_some_iff.1 h).1).trans h
theorem InB.set {W : World} {ib : Nat} {d a b c n v : Int} (h : InB W ib d a b c n v) {p : Addr} (hp : ib ≠ p.block) (u : Value) : InB (W.setCell p u) ib d a b c n v := (Below.heap_setCell _ _ _ _ hp).trans h
theorem InB.cells {W : World} {ib : Nat} {d a b c n v : Int} (h : InB W ib d a b c n v) : W.cell? ⟨ib, 0, none⟩ = some (.int .i64 d) ∧ W.cell? ⟨ib, 1, none⟩ = some (.int .i64 a) ∧ W.cell? ⟨ib, 2, none⟩ = some (.int .i64 b) ∧ W.cell? ⟨ib, 3, none⟩ = some (.int .i64 c) ∧ W.cell? ⟨ib, 4, none⟩ = some (.int .i64 n) ∧ W.cell? ⟨ib, 5, none⟩ = some (.int .i64 v) := by
  unfold InB at h
  refine ⟨?_, ?_, ?_, ?_, ?_, ?_⟩
  all_goals simp only [World.cell?, h]
  all_goals rfl
theorem InB.lt {W : World} {ib : Nat} {d a b c n v : Int} (h : InB W ib d a b c n v) : ib < W.heap.size := (Array.getElem?_eq_some_iff.1 h).1
/-- What Do answers. -/
def DoAns (P M : Sw1) (gp op gm om : Nat) (p q : Int → Int) (W : World) (x : In) (e : Ending) (w' : World) : Prop := e = .returned (.tuple #[]) ∧ WrdAt w' P gp op (doP x p q) ∧ WrdAt w' M gm om (doMm x p q) ∧ WrB (fun b => b = gp ∨ b = gm) W w'
end Go.Proofs.YtoabffmiedbkkaaGreat.V
