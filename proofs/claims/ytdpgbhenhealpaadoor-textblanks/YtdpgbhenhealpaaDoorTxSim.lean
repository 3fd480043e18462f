/-
  What is read hangs on the tokens' texts alone, not on where they stand.
-/
import Derived.Test.YtdpgbhenhealpaaDoorTxGram
namespace Go.Proofs.YtdpgbhenhealpaaDoor.V
set_option maxRecDepth 20000
set_option linter.unusedVariables false

def Sim {α : Type} : Res α → Res α → Prop
  | .bad T _, .bad T' _ => T = T'
  | .ok a i, .ok b j => a = b ∧ i = j
  | _, _ => False
theorem Sim.bad {α : Type} (T : Int) (k k' : Nat) : Sim (α := α) (.bad T k) (.bad T k') := rfl
theorem Sim.ok {α : Type} (a : α) (i : Nat) : Sim (.ok a i) (.ok a i) := ⟨rfl, rfl⟩
theorem Sim.bind {α β : Type} {r r' : Res α} {f f' : α → Nat → Res β} (h : Sim r r') (hf : ∀ a i, Sim (f a i) (f' a i)) : Sim (r.bind f) (r'.bind f') := by
  cases r with
  | bad T k => cases r' with
    | bad T' k' => exact h
    | ok b j => exact h.elim
  | ok a i => cases r' with
    | bad T' k' => exact h.elim
    | ok b j => obtain ⟨rfl, rfl⟩ := h; exact hf a i
theorem Sim.ite {α : Type} {c : Prop} [Decidable c] {r r' s s' : Res α} (h1 : Sim r r') (h2 : Sim s s') : Sim (if c then r else s) (if c then r' else s') := by
  by_cases h : c
  · rw [if_pos h, if_pos h]; exact h1
  · rw [if_neg h, if_neg h]; exact h2

/-- The same texts, wherever they stand. -/
def SameT (X Y : Tks) : Prop := X.ts.length = Y.ts.length ∧ ∀ i, X.tx i = Y.tx i
section
variable {X Y : Tks} (h : SameT X Y)
include h
theorem sim_must (t : List UInt8) (i : Nat) : Sim (mustS X t i) (mustS Y t i) := by
  unfold mustS; rw [h.2 i]; exact Sim.ite (.ok _ _) (.bad _ _ _)
theorem sim_name (i : Nat) : Sim (nameS X i) (nameS Y i) := by
  unfold nameS; rw [h.2 i]; exact Sim.ite (.ok _ _) (.bad _ _ _)
theorem sim_num (i : Nat) : Sim (numS X i) (numS Y i) := by
  unfold numS; rw [h.2 i]; exact Sim.ite (.ok _ _) (.bad _ _ _)
theorem sim_shapeL : ∀ (f i : Nat) (ds : List (ByteArray × Int)), Sim (shapeL X f i ds) (shapeL Y f i ds)
  | 0, i, ds => .bad _ _ _
  | f + 1, i, ds => by
    rw [shapeL, shapeL, h.2 i]
    exact Sim.ite (.ok _ _) (Sim.ite (sim_shapeL f _ _) (Sim.ite (sim_shapeL f _ _) (.bad _ _ _)))
theorem sim_shape (i : Nat) : Sim (shapeS X i) (shapeS Y i) := by
  unfold shapeS; rw [h.1]; exact (sim_must h _ i).bind fun _ i => sim_shapeL h _ _ _
theorem sim_listL : ∀ (f i : Nat) (ds : List Int), Sim (listL X f i ds) (listL Y f i ds)
  | 0, i, ds => .bad _ _ _
  | f + 1, i, ds => by
    rw [listL, listL, h.2 i]
    exact Sim.ite (.ok _ _) (Sim.ite (sim_listL f _ _) (.bad _ _ _))
theorem sim_list (i : Nat) : Sim (listS X i) (listS Y i) := by
  unfold listS; rw [h.1]; exact (sim_must h _ i).bind fun _ i => sim_listL h _ _ _
theorem sim_listsL : ∀ (f i : Nat) (ls : List (List Int)), Sim (listsL X f i ls) (listsL Y f i ls)
  | 0, i, ds => .bad _ _ _
  | f + 1, i, ls => by
    rw [listsL, listsL, h.2 i]
    exact Sim.ite ((sim_list h i).bind fun l j => sim_listsL f _ _) (.ok _ _)
theorem sim_argsL {α : Type} {E E' : Nat → Res α} (hE : ∀ i, Sim (E i) (E' i)) : ∀ (f i : Nat) (us : List α), Sim (argsL X E f i us) (argsL Y E' f i us)
  | 0, i, ds => .bad _ _ _
  | f + 1, i, us => by
    rw [argsL, argsL, h.2 i]
    exact Sim.ite ((hE _).bind fun a j => sim_argsL hE f _ _) (Sim.ite (.ok _ _) (.bad _ _ _))
theorem sim_brack {α : Type} {E E' : Nat → Res α} (hE : ∀ i, Sim (E i) (E' i)) (i : Nat) : Sim (brackS X E i) (brackS Y E' i) := by
  unfold brackS
  refine (sim_must h _ i).bind fun _ i => ?_
  rw [h.2 i, h.1]
  exact Sim.ite (.ok _ _) ((hE i).bind fun a j => sim_argsL h hE _ _ _)
theorem sim_bound {E E' : Nat → Res Tr} (hE : ∀ i, Sim (E i) (E' i)) (kind num : Int) (word : List UInt8) (i : Nat) : Sim (boundS X E kind num word i) (boundS Y E' kind num word i) := by
  unfold boundS
  exact (sim_name h i).bind fun nm i => (sim_must h _ i).bind fun _ i => (hE i).bind fun a i => (sim_must h _ i).bind fun _ i => (hE i).bind fun b i => .ok _ _
theorem sim_chainL {P P' : Nat → Res Tr} (hP : ∀ i, Sim (P i) (P' i)) (sg : ByteArray → Bool) : ∀ (f i : Nat) (t : Tr), Sim (chainL X P sg f i t) (chainL Y P' sg f i t)
  | 0, i, t => by
    rw [chainL, chainL, h.2 i]
    exact Sim.ite (.bad _ _ _) (.ok _ _)
  | f + 1, i, t => by
    rw [chainL, chainL, h.2 i]
    exact Sim.ite ((hP _).bind fun b j => sim_chainL hP sg f _ _) (.ok _ _)
theorem sim_chain {P P' : Nat → Res Tr} (hP : ∀ i, Sim (P i) (P' i)) (sg : ByteArray → Bool) (i : Nat) : Sim (chainS X P sg i) (chainS Y P' sg i) := by
  unfold chainS
  exact (hP i).bind fun t j => sim_chainL h hP sg _ _ _
theorem sim_shaped (i : Nat) : Sim (shapedS X i) (shapedS Y i) := by
  unfold shapedS
  rw [h.2 i]
  exact Sim.ite ((sim_shape h i).bind fun ds j => .ok _ _) (.ok _ _)
theorem sim_call {E E' : Nat → Res Tr} (hE : ∀ i, Sim (E i) (E' i)) (nm : ByteArray) (i : Nat) : Sim (callS X E nm i) (callS Y E' nm i) := by
  unfold callS
  refine (sim_shaped h i).bind fun sh i => ?_
  rw [h.1]
  exact (sim_listsL h _ i []).bind fun ls i => (sim_brack h hE i).bind fun ks i => .ok _ _
theorem sim_factor {E E' : Nat → Res Tr} (hE : ∀ i, Sim (E i) (E' i)) (i : Nat) : Sim (factorS X E i) (factorS Y E' i) := by
  unfold factorS
  rw [h.2 i]
  refine Sim.ite ((hE _).bind fun t j => (sim_must h _ j).bind fun _ k => .ok _ _) (Sim.ite (.ok _ _) ((sim_name h i).bind fun nm j => ?_))
  rw [h.2 j]
  exact Sim.ite (sim_call h hE nm j) (.ok _ _)
theorem sim_expr : ∀ (d i : Nat), Sim (exprS X d i) (exprS Y d i)
  | 0, i => .bad _ _ _
  | d + 1, i => by
    rw [exprS, exprS, h.2 i]
    exact Sim.ite (sim_bound h (sim_expr d) _ _ _ _) (Sim.ite ((sim_num h _).bind fun n j => sim_bound h (sim_expr d) _ _ _ _) (sim_chain h (sim_chain h (sim_factor h (sim_expr d)) _) _ i))
theorem sim_given (i : Nat) : Sim (givenS X i) (givenS Y i) := by
  unfold givenS
  exact (sim_name h i).bind fun nm i => (sim_must h _ i).bind fun _ i => (sim_shape h i).bind fun ds i => .ok _ _
theorem sim_func (i : Nat) : Sim (funcS X i) (funcS Y i) := by
  unfold funcS
  exact (sim_must h _ i).bind fun _ i => (sim_name h i).bind fun nm i => (sim_brack h (sim_given h) i).bind fun gs i => (sim_must h _ i).bind fun _ i => (sim_expr h 64 i).bind fun b i => (sim_must h _ i).bind fun _ i => .ok _ _
theorem sim_progL : ∀ (f i : Nat) (fs : List FnT), Sim (progL X f i fs) (progL Y f i fs)
  | 0, i, fs => .bad _ _ _
  | f + 1, i, fs => by
    rw [progL, progL, h.1]
    exact Sim.ite ((sim_func h i).bind fun fn j => sim_progL f _ _) (.ok _ _)
theorem sim_prog : Sim (progS X) (progS Y) := by
  unfold progS; rw [h.1]; exact sim_progL h _ _ _
end
end Go.Proofs.YtdpgbhenhealpaaDoor.V
