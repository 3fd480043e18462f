/-
  A range over an iterator that tells lists of numbers, each in memory of its own, in a known order.
-/
import Derived.Test.YtindmfpfpooijaaInOrder
import Derived.Test.YtindmfpfpooijaaPtRow
namespace Go.Proofs.Ytindmfpfpooijaa.V
open Go Go.RowKit
set_option linter.unusedVariables false

/-- A list of numbers in a block of its own, from B on. -/
def Told (B gx len : Nat) (x : List Int) (W : World) : Prop := B ≤ gx ∧ W.rowIs gx 3 len (fun j => .int .i64 (x[j]?.getD 0)) ∧ x.length = len ∧ len ≤ 4 ∧ ∀ y ∈ x, 0 ≤ y ∧ y ≤ 4096
theorem Told.ints {B gx len : Nat} {x : List Int} {W : World} (h : Told B gx len x W) : Ints W (some ⟨gx, 0, none⟩) len x := by
  obtain ⟨h1, h2, h3, h4, h5⟩ := h
  refine ⟨h3, by omega, fun y hy => by have := h5 y hy; omega, ?_⟩
  by_cases h0 : len = 0
  · exact .inl h0
  · exact .inr ⟨gx, 0, rfl, fun j hj => by rw [Nat.zero_add]; exact h2.cell hj⟩
theorem Told.lt {B gx len : Nat} {x : List Int} {W : World} (h : Told B gx len x W) : gx < W.heap.size := h.2.1.lt
theorem Told.of_block {B gx len : Nat} {x : List Int} {W W' : World} (h : Told B gx len x W) (e : W'.heap[gx]? = W.heap[gx]?) : Told B gx len x W' := ⟨h.1, h.2.1.of_block e, h.2.2⟩
theorem Told.below {B gx len : Nat} {x : List Int} {W W' : World} (h : Told B gx len x W) (hb : Below W.heap.size W W') : Told B gx len x W' := h.of_block (hb.block _ h.lt)
theorem Told.mono {B B' gx len : Nat} {x : List Int} {W : World} (h : Told B gx len x W) (hB : B' ≤ B) : Told B' gx len x W := ⟨Nat.le_trans hB h.1, h.2⟩

/-- The iterator tells the lists of L, one behind the other. -/
def TellsIn (F : Fence) (n : Nat) (P : Program) (g : Nat) (lb : Array Value) (L : List (List Int)) (len : Nat) (Kp : World → World → Prop) (w : World) : Prop :=
  ∀ (l : Nat) (J : List (List Int) → World → Prop) (Jx : Unit → World → Prop) (W : World), Below w.heap.size w W → AbidesFrom W.heap.size J → AbidesFrom W.heap.size Jx →
    (∀ pre x post gx W1, L = pre ++ x :: post → J pre W1 → Told W.heap.size gx len x W1 → YieldAt F (n - 1) P l #[.slice (some ⟨gx, 0, none⟩) len len] W1 fun e W' => (e = .returned (.bool true) ∧ J (pre ++ [x]) W' ∧ Kp W1 W') ∨ (e = .returned (.bool false) ∧ Jx () W')) →
    J [] W → CallsIn F n P g (#[.func (.yield l) #[] #[]] ++ lb) W fun e W' => (∃ v, e = .returned v) ∧ (J L W' ∨ Jx () W')

variable {F : Fence} {n : Nat} {P : Program}

theorem rangeFunc_tells {g : Operand} {ps : Array Tmp} {assign body : Code} {Q : Exit → Act → World → Prop} {a : Act} {w : World}
    (hro : F.round = none) (h1 : 1 ≤ n) {gf : Nat} {lb : Array Value} (hg : a.eval g = .func (.func gf) #[] lb) (hFg : F.fn gf) (eg : ∀ args w, (callFunc gf args).run P w = .ok (.enter gf args) w)
    {L : List (List Int)} {len : Nat} {Kp : World → World → Prop} {w0 : World} (hseq : TellsIn F (n - 1) P gf lb L len Kp w0)
    (hKt : ∀ {A B C : World}, Kp A B → Kp B C → Kp A C) (hKb : ∀ (W : World) (l : Nat) (o o' : Obj), w.heap.size ≤ l → W.heap[l]? = some o → o.isCells = false → o.isWalk = false → Kp W (W.putObj l o'))
    (hb0 : Below w0.heap.size w0 w) (hps : ps.size = 1)
    (I : List (List Int) → World → Prop) (Ix : Code → World → Prop) (hI : OwnFrom w.heap.size I) (hIx : OwnFrom w.heap.size Ix) (h0 : I [] w) (a₁ : Nat → Act)
    (hassign : ∀ (l gx : Nat) (W : World) (K : Act → World → Prop), K (a₁ gx) W →
      assign.wpIn (F.inRound l) (n - 1 - 1) P (Exit.then K (fun _ _ _ => False)) { tmps := (ps.zip #[.slice (some ⟨gx, 0, none⟩) len len]).foldl (fun t (p, v) => t.setIfInBounds p v) a.tmps, defers := [] } W)
    (hbody : ∀ (l : Nat) (pre : List (List Int)) (x : List Int) (post : List (List Int)) (gx : Nat) (W : World), L = pre ++ x :: post → I pre W → Told w.heap.size gx len x W → body.wpIn (F.inRound l) (n - 1 - 1) P (leftBy w.heap.size Kp (I (pre ++ [x])) Ix W) (a₁ gx) W)
    (hdone : ∀ (D : Nat) (W : World), w.heap.size ≤ D → I L W → W.heap[D]? = some (.deferred (some [])) → Q .normal { a with defers := { target := .collected D, args := #[] } :: a.defers } W)
    (hstop : ∀ (D : Nat) (c : Code) (W : World), w.heap.size ≤ D → Ix c W → W.heap[D]? = some (.deferred (some [])) → c.wpIn F n P Q { a with defers := { target := .collected D, args := #[] } :: a.defers } W) :
    (Code.rangeFunc g ps assign body).wpIn F n P Q a w := by
  refine wpIn_rangeFunc fun fn hfn => ?_
  rw [hro]
  -- the world that the iterator begins in
  generalize hW1 : (w.alloc (.deferred (some []))).alloc (.loop (recOf w fn a ps assign body .ready none)) = W1
  have hB1 : Books w W1 (recOf w fn a ps assign body .ready none) := by
    rw [← hW1]
    refine ⟨?_, (Below.heap_alloc _ _ _ (by simp)).trans (World.alloc_heap_new w _)⟩
    have := World.alloc_heap_new (w.alloc (.deferred (some []))) (.loop (recOf w fn a ps assign body .ready none))
    rwa [World.size_alloc] at this
  have hs1 : W1.heap.size = w.heap.size + 2 := by rw [← hW1]; simp
  have hI1 : I [] W1 := by rw [← hW1]; exact hI.alloc _ (hI.alloc _ h0)
  have hbel : Below w0.heap.size w0 W1 := by
    rw [← hW1]
    have := hb0.size
    exact (hb0.alloc this _).alloc (by simp; omega) _
  -- what the law's own blocks do to the caller's words
  have hown : ∀ {β : Type} {X : β → World → Prop}, OwnFrom w.heap.size X → AbidesFrom W1.heap.size X := fun hX s A B row hs hgr hr =>
    hX s A B row hs hgr (fun r e => by
      obtain ⟨h1, o, ho, hw⟩ := hr r e
      exact ⟨by omega, o, ho, Obj.not_cells_of_walk hw⟩)
  have hput : ∀ {β : Type} {X : β → World → Prop} {s : β} {W : World} {r r' : Loop}, OwnFrom w.heap.size X → X s W → Books w W r → X s (W.putObj (w.heap.size + 1) (.loop r')) := fun hX hs hb => hX.putObj _ hs (by omega) hb.1 rfl
  have hkp : ∀ {W : World} {r r' : Loop}, Books w W r → Kp W (W.putObj (w.heap.size + 1) (.loop r')) := fun hb => hKb _ _ _ _ (by omega) hb.1 rfl rfl
  refine ⟨w.heap.size + 1, [{ target := .collected w.heap.size, args := #[] }], W1, { target := .fn (.func gf) lb, args := #[.func (.yield (w.heap.size + 1)) #[] #[]] }, W1, gf, #[.func (.yield (w.heap.size + 1)) #[] #[]] ++ lb, W1, ?_, ?_, ?_, ?_, fun _ => h1, ?_⟩
  · rw [← hW1]; exact run_enterLoop_outer _ _ _ _ _
  · simp only [resolve, hg]; simp [go_sem]
  · intro f' hf'
    simp [Target.leads] at hf'
    exact hf' ▸ hFg
  · simp [invoke, go_sem, eg]
  refine (hseq (w.heap.size + 1) (fun t W => I t W ∧ Books w W (recOf w fn a ps assign body .ready none)) (fun _ W => ∃ c, Ix c W ∧ Books w W (recOf w fn a ps assign body .done (some c))) W1 hbel ?_ ?_ ?_ ⟨hI1, hB1⟩).mono ?_
  · exact fun s A B row hs hgr hr => ⟨hown hI s A B row hs.1 hgr hr, hs.2.grown hgr (fun x e => (hr x e).2)⟩
  · rintro s A B row ⟨c, hc, hb⟩ hgr hr
    exact ⟨c, hown hIx c A B row hc hgr hr, hb.grown hgr (fun x e => (hr x e).2)⟩
  · rintro pre x post gx W hL ⟨hi, hb⟩ htold
    refine ⟨fn, _, assign, body, run_yield hb.1 (by simp [recOf, hps]), roundIn_of_wpIn hfn (hassign _ gx W _ ?_)⟩
    refine ⟨_, run_beginRound hb.1 rfl, ?_⟩
    have hb2 := hb.put { recOf w fn a ps assign body .ready none with state := .busy }
    have hne : gx ≠ w.heap.size + 1 := by have := htold.1; omega
    refine wpIn_mono (hbody _ pre x post gx _ hL (hput hI hi hb) ((htold.of_block (World.putObj_heap_other hne)).mono (by omega))) ?_
    -- the round's end: the record is put again
    have hend : ∀ (j : Option Code) (W3 : World), KeepsFrom w.heap.size (W.putObj (w.heap.size + 1) (.loop { recOf w fn a ps assign body .ready none with state := .busy })) W3 →
        (Instr.endRound (w.heap.size + 1) j).run P W3 = .ok (.bool j.isNone) (W3.putObj (w.heap.size + 1) (.loop (recOf w fn a ps assign body (if j.isNone then .ready else .done) j))) ∧
        Books w W3 { recOf w fn a ps assign body .ready none with state := .busy } := fun j W3 hk =>
      ⟨run_endRound j (hb2.from hk).1, hb2.from hk⟩
    intro e a3 W3 hp
    cases e with
    | normal =>
      obtain ⟨hk, hp2, hi3⟩ := hp
      obtain ⟨hr, hb3⟩ := hend none W3 hk
      exact ⟨_, _, hr, .inl ⟨rfl, ⟨hput hI hi3 hb3, hb3.put _⟩, hKt (hKt (hkp hb) hp2) (hkp hb3)⟩⟩
    | ret =>
      obtain ⟨hr, hb3⟩ := hend (some .ret) W3 hp.1
      exact ⟨_, _, hr, .inr ⟨rfl, _, hput hIx hp.2 hb3, hb3.put _⟩⟩
    | exit id =>
      obtain ⟨hr, hb3⟩ := hend (some (.exit id)) W3 hp.1
      exact ⟨_, _, hr, .inr ⟨rfl, _, hput hIx hp.2 hb3, hb3.put _⟩⟩
    | goto x =>
      obtain ⟨hr, hb3⟩ := hend (some (.goto x)) W3 hp.1
      exact ⟨_, _, hr, .inr ⟨rfl, _, hput hIx hp.2 hb3, hb3.put _⟩⟩
    | panic ch => exact hp.elim
    | outgrown => exact hp.elim
  · rintro e W2 ⟨⟨v, rfl⟩, ⟨hi, hb⟩ | ⟨c, hi, hb⟩⟩
    · exact ⟨none, _, run_endLoop hb.1 (by simp [recOf]), hdone _ _ (Nat.le_refl _) (hput hI hi hb) (hb.put _).2⟩
    · exact ⟨some c, _, run_endLoop hb.1 (by simp [recOf]), hstop _ c _ (Nat.le_refl _) (hput hIx hi hb) (hb.put _).2⟩
end Go.Proofs.Ytindmfpfpooijaa.V
