/-
  Ranges over functions within a loop: the marks that they leave; what stands while statements are done.
-/
import Derived.Test.YtindmfpfpooijaaNeDo
import Derived.Test.YtindmfpfpooijaaNeCopy
import Derived.Test.YtindmfpfpooijaaNeWrong
import Derived.Test.YtindmfpfpooijaaPtAllP
import Derived.Test.YtindmfpfpooijaaPtTell
import Derived.OwnWalkIn
namespace Go.Proofs.Ytindmfpfpooijaa.V
open Go Go.RowKit Go.Shelf
set_option linter.unusedVariables false

def mark (D : Nat) : Deferred := { target := .collected D, args := #[] }
structure Marks (N : Nat) (Ds : List Nat) (W : World) : Prop where
  nodup : Ds.Nodup
  here : ∀ D ∈ Ds, N ≤ D ∧ W.heap[D]? = some (.deferred (some []))
theorem Marks.nil (N : Nat) (W : World) : Marks N [] W := ⟨by simp, fun D h => by simp at h⟩
theorem leaves_marks {F : Fence} {n : Nat} {P : Program} {fn : Func} {tmps : Array Value} {R : Ending → World → Prop} (N : Nat) : ∀ (Ds : List Nat) (W : World), Marks N Ds W → N ≤ W.heap.size →
    (∀ W', Below N W W' → (∀ (b : Nat) c t f, W.heap[b]? = some (Obj.cells c t f) → W'.heap[b]? = W.heap[b]?) → LeavesIn F n P fn tmps R [] .returning W') →
    LeavesInM F n P fn tmps R (Ds.map mark) .returning W
  | [], W, _, _, h => h W (Below.refl _ _) (fun _ _ _ _ _ => rfl)
  | D :: Ds, W, hm, hN, h => by
    have h1 := hm.here D (by simp)
    have hn := List.nodup_cons.1 hm.nodup
    refine ⟨by simp, .inl ⟨D, W.putObj D (.deferred none), rfl, run_takeDeferred h1.2, ?_⟩⟩
    have hB : Below N W (W.putObj D (.deferred none)) := (Below.refl N W).grown (grownBy_putObj' W D _) hN (fun k e => by cases e; exact h1.1)
    refine leaves_marks N Ds _ ⟨hn.2, fun D' h' => ⟨(hm.here D' (by simp [h'])).1, ?_⟩⟩ (by simpa using hN) (fun W' b1 b2 => h W' (hB.trans b1) (fun b c t f e => ?_))
    · have hne : D' ≠ D := fun e => hn.1 (e ▸ h')
      rw [World.putObj_heap_other hne]
      exact (hm.here D' (by simp [h'])).2
    · have hne : b ≠ D := fun e' => by rw [e', h1.2] at e; cases e
      have e2 : (W.putObj D (.deferred none)).heap[b]? = W.heap[b]? := World.putObj_heap_other hne
      exact (b2 b c t f (e2.trans e)).trans e2

/-- All that stands while statements are done. -/
structure NInv (w : World) (za : Option Addr) (zl zc : Nat) (ta : Option Addr) (tl tc : Nat) (R B9 len : Nat) (G C : Nat → Nat) (Ds : List Nat) (M : Mem) (W : World) : Prop where
  below : Below w.heap.size w W
  ns : NsBlk W w.heap.size za zl zc ta tl tc
  box : Boxed W B9 34 (.slice (some ⟨R, 0, none⟩) len len)
  mem : Mems W w.heap.size (some ⟨R, 0, none⟩) G C M
  len : M.length = len
  marks : Marks (B9 + 1) Ds W
theorem NInv.of_blocks {w W W' : World} {za : Option Addr} {zl zc : Nat} {ta : Option Addr} {tl tc R B9 len : Nat} {G C : Nat → Nat} {Ds : List Nat} {M : Mem} (h : NInv w za zl zc ta tl tc R B9 len G C Ds M W) (hB : Below w.heap.size w W')
    (hc : ∀ (b : Nat) c t f, W.heap[b]? = some (Obj.cells c t f) → W'.heap[b]? = W.heap[b]?) (hd : ∀ D ∈ Ds, W'.heap[D]? = W.heap[D]?) : NInv w za zl zc ta tl tc R B9 len G C Ds M W' :=
  ⟨hB, (hc _ _ _ _ h.ns).trans h.ns, (hc _ _ _ _ h.box).trans h.box, h.mem.of_blocks hc, h.len, ⟨h.marks.nodup, fun D hD => ⟨(h.marks.here D hD).1, (hd D hD).trans (h.marks.here D hD).2⟩⟩⟩
theorem NInv.grow {w W W' : World} {za : Option Addr} {zl zc : Nat} {ta : Option Addr} {tl tc R B9 len : Nat} {G C : Nat → Nat} {Ds : List Nat} {M : Mem} (h : NInv w za zl zc ta tl tc R B9 len G C Ds M W) (hB : Below W.heap.size W W') : NInv w za zl zc ta tl tc R B9 len G C Ds M W' :=
  h.of_blocks (bl_on h.below hB) (fun b c t f e => hB.block b (Array.getElem?_eq_some_iff.1 e).1) (fun D hD => hB.block D (Array.getElem?_eq_some_iff.1 (h.marks.here D hD).2).1)
/-- With the statement that is done. -/
def NInvS (w : World) (za : Option Addr) (zl zc : Nat) (ta : Option Addr) (tl tc : Nat) (R B9 len : Nat) (G C : Nat → Nat) (Ds : List Nat) (M : Mem) (s : Stm) (q : SW) (B11 : Nat) (N1 M1 : Nat) (V : World) (pre : List (List Int)) (W : World) : Prop :=
  NInv w za zl zc ta tl tc R B9 len G C Ds (pre.foldl (doM s) M) W ∧ q.blk W B11 ∧ M1 ≤ W.heap.size ∧ ∀ b, N1 ≤ b → b < M1 → W.heap[b]? = V.heap[b]?
theorem NInvS.own {w : World} {za : Option Addr} {zl zc : Nat} {ta : Option Addr} {tl tc R B9 len : Nat} {G C : Nat → Nat} {Ds : List Nat} {M : Mem} {s : Stm} {q : SW} {B11 N1 M1 : Nat} {V : World} {B : Nat} (hw : w.heap.size ≤ B) (hD : ∀ D ∈ Ds, D < B) (hM1 : M1 ≤ B) :
    OwnFrom B (fun pre W => NInvS w za zl zc ta tl tc R B9 len G C Ds M s q B11 N1 M1 V pre W) := by
  rintro pre W W' row ⟨h, hq, hs, hk⟩ hg hr
  have hc : ∀ (b : Nat) c t f, W.heap[b]? = some (Obj.cells c t f) → W'.heap[b]? = W.heap[b]? := fun b c t f e => hg.block b (Array.getElem?_eq_some_iff.1 e).1 (fun e' => by
    obtain ⟨_, o, ho, hcl⟩ := hr b e'.symm
    rw [e] at ho
    cases ho
    cases hcl)
  refine ⟨h.of_blocks (h.below.grown hg h.below.size (fun k e => Nat.le_trans hw (hr k e).1)) hc (fun D hD' => ?_), (hc _ _ _ _ hq).trans hq, Nat.le_trans hs hg.size, fun b h1 h2 => (hg.block b (by omega) (fun e' => ?_)).trans (hk b h1 h2)⟩
  · refine hg.block D (Array.getElem?_eq_some_iff.1 (h.marks.here D hD').2).1 (fun e' => ?_)
    have h1 := (hr D e'.symm).1
    have h2 := hD D hD'
    omega
  · have h1 := (hr b e'.symm).1
    omega
/-- A statement at a point leaves all else. -/
theorem NInvS.step {w : World} {za : Option Addr} {zl zc : Nat} {ta : Option Addr} {tl tc R B9 len : Nat} {G C : Nat → Nat} {Ds : List Nat} {M : Mem} {s : Stm} {q : SW} {B11 N1 M1 : Nat} {V : World} {pre : List (List Int)} {x : List Int} {W W' : World}
    (h : NInvS w za zl zc ta tl tc R B9 len G C Ds M s q B11 N1 M1 V pre W) (hG : ∀ k, k < len → w.heap.size < G k ∧ G k < B9) (h9 : w.heap.size < B9) (h11 : B9 < B11) (hN1 : B9 < N1)
    (hm : Mems W' w.heap.size (some ⟨R, 0, none⟩) G C (doM s (pre.foldl (doM s) M) x)) (hc : Chg G (pre.foldl (doM s) M).length W W') :
    NInvS w za zl zc ta tl tc R B9 len G C Ds M s q B11 N1 M1 V (pre ++ [x]) W' ∧ KeepsOthers W W' ∧ (W.heap.size ≤ W'.heap.size ∧ ∀ b, N1 ≤ b → b < M1 → W'.heap[b]? = W.heap[b]?) := by
  obtain ⟨hi, hq, hs, hk⟩ := h
  have hl := hi.len
  have hc0 := hc
  rw [hl] at hc
  have hfar : ∀ b, (b = w.heap.size ∨ B9 ≤ b) → ∀ k, k < len → b ≠ G k := fun b hb k hk' e => by
    have := hG k hk'
    omega
  have hb : ∀ b, (b = w.heap.size ∨ B9 ≤ b) → b < W.heap.size → W'.heap[b]? = W.heap[b]? := fun b h1 h2 => hc.block h2 (hfar b h1)
  have e : (pre ++ [x]).foldl (doM s) M = doM s (pre.foldl (doM s) M) x := by simp
  refine ⟨⟨⟨?_, ?_, ?_, ?_, ?_, ⟨hi.marks.nodup, fun D hD => ?_⟩⟩, ?_, Nat.le_trans hs hc.size, fun b h1 h2 => ?_⟩, ?_, hc.size, fun b h1 h2 => hb b (.inr (by omega)) (by omega)⟩
  · exact hc.below (fun k hk' => Nat.le_of_lt (hG k hk').1) hi.below hi.below.size
  · exact (hb _ (.inl rfl) hi.ns.lt).trans hi.ns
  · exact (hb _ (.inr (Nat.le_refl _)) hi.box.lt).trans hi.box
  · rw [e]; exact hm
  · rw [e, doM_len]; exact hl
  · have := hi.marks.here D hD
    exact ⟨this.1, (hb D (.inr (by omega)) (Array.getElem?_eq_some_iff.1 this.2).1).trans this.2⟩
  · exact (hb _ (.inr (by omega)) hq.lt).trans hq
  · exact (hb b (.inr (by omega)) (by omega)).trans (hk b h1 h2)
  · obtain ⟨row, g1, g2⟩ := hc
    refine KeepsOthers.of_grownBy g1 (fun j o hj ho => ?_)
    obtain ⟨k, hk', rfl⟩ := g2 j hj
    obtain ⟨cur, c1, _⟩ := hi.mem.rows k (by omega)
    rw [c1] at ho
    cases ho
    rfl
end Go.Proofs.Ytindmfpfpooijaa.V
