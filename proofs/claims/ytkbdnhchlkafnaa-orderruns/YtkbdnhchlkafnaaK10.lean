/-
  What lies in blocks that a call has made: it stays, whatever is done to elder blocks. Contracts: list.Each of rows, of accesses, of statements, over whatever function. Memory of a nest: arrays in blocks of their own. Does memory fit a nest? Contract: the document's Spots. Contracts: list.Fresh of int64, list.Each of arrays. Contract: the document's SameMemory, of equal memories.
-/
import Derived.Test.YtkbdnhchlkafnaaK8
import Derived.Test.YtkbdnhchlkafnaaK9
import Derived.BigQuiet
namespace Go.Proofs.Ytkbdnhchlkafnaa.V
open Go.RowKit
set_option linter.unusedVariables false

/-- The types of blocks that are changed when others hang on what lies elsewhere. -/
def shiftyB (t : TypeId) : Bool := t == 25 || t == 63
/-- From block N on all that was is as it was; but for blocks that hold a nest or spots. -/
def KeepF (N : Nat) (W W' : World) : Prop := (∀ (b : Nat) (cur : Array Value) (t : TypeId), N ≤ b → shiftyB t = false → W.heap[b]? = some (.cells cur t (0, 0)) → W'.heap[b]? = W.heap[b]?) ∧ W.heap.size ≤ W'.heap.size
theorem KeepF.refl (N : Nat) (W : World) : KeepF N W W := ⟨fun _ _ _ _ _ _ => rfl, Nat.le_refl _⟩
theorem KeepF.trans {N : Nat} {W V U : World} (h : KeepF N W V) (k : KeepF N V U) : KeepF N W U := ⟨fun b cur t h1 h2 h3 => (k.1 b cur t h1 h2 ((h.1 b cur t h1 h2 h3).trans h3)).trans (h.1 b cur t h1 h2 h3), Nat.le_trans h.2 k.2⟩
theorem KeepF.below {N : Nat} {W V : World} (h : Below W.heap.size W V) : KeepF N W V := ⟨fun b _ _ _ _ hb => h.block b (Array.getElem?_eq_some_iff.1 hb).1, h.size⟩
theorem KeepF.set {N : Nat} {W : World} {p : Addr} (h : p.block < N) (v : Value) : KeepF N W (W.setCell p v) := ⟨fun b _ _ h1 _ _ => Below.heap_setCell _ p _ b (by omega), by rw [World.size_setCell]; exact Nat.le_refl _⟩
theorem KeepF.nest {N : Nat} {W : World} {p : Addr} {cur : Array Value} {fz : Nat × Nat} (h : W.heap[p.block]? = some (.cells cur 25 fz)) (v : Value) : KeepF N W (W.setCell p v) := ⟨fun b c t _ h2 h3 => Below.heap_setCell _ p _ b (fun e => by rw [e, h] at h3; cases h3; exact absurd h2 (by decide)), by rw [World.size_setCell]; exact Nat.le_refl _⟩
/-- A row of spots of the call's own has grown. -/
theorem KeepF.spots {N B n : Nat} {W V : World} {v : Value} {xs : List Value} (ho : W.ownsRow B 63 15 v n xs) (hg : W.grownBy V v.ownBlock) : KeepF N W V := ⟨fun b cur t _ h2 h3 => hg.block b (Array.getElem?_eq_some_iff.1 h3).1 (fun e => by
  rcases ho.2 with ⟨rfl, _⟩ | ⟨g, cap, c, rfl, _, hbk, _⟩
  · simp [Value.ownBlock] at e
  · obtain rfl : b = g := by simpa [Value.ownBlock] using e
    rw [hbk] at h3
    cases h3
    exact absurd h2 (by decide)), hg.size⟩
theorem KeepF.mono {N M : Nat} {W V : World} (h : KeepF N W V) (le : N ≤ M) : KeepF M W V := ⟨fun b cur t h1 h2 h3 => h.1 b cur t (Nat.le_trans le h1) h2 h3, h.2⟩
/-- It holds in whatever world has the blocks from N on. -/
def Lies (N : Nat) (P : World → Prop) (W : World) : Prop := ∀ W', KeepF N W W' → P W'
theorem Lies.out {N : Nat} {P : World → Prop} {W : World} (h : Lies N P W) : P W := h W (KeepF.refl N W)
theorem Lies.keep {N : Nat} {P : World → Prop} {W V : World} (h : Lies N P W) (k : KeepF N W V) : Lies N P V := fun U hU => h U (k.trans hU)
theorem Lies.below {N : Nat} {P : World → Prop} {W V : World} (h : Lies N P W) (k : Below W.heap.size W V) : Lies N P V := h.keep (KeepF.below k)
theorem Lies.set {N : Nat} {P : World → Prop} {W : World} (h : Lies N P W) {p : Addr} (hp : p.block < N) (v : Value) : Lies N P (W.setCell p v) := h.keep (KeepF.set hp v)
theorem Lies.mono {N M : Nat} {P : World → Prop} {W : World} (h : Lies M P W) (le : N ≤ M) : Lies N P W := fun U hU => h U (hU.mono le)
theorem Lies.imp {N : Nat} {P Q : World → Prop} {W : World} (h : Lies N P W) (i : ∀ V, P V → Q V) : Lies N Q W := fun U hU => i U (h U hU)
theorem Lies.and {N : Nat} {P Q : World → Prop} {W : World} (h : Lies N P W) (k : Lies N Q W) : Lies N (fun V => P V ∧ Q V) W := fun U hU => ⟨h U hU, k U hU⟩
theorem lies_row {N g l : Nat} {t : TypeId} {f : Nat → Value} {W : World} (h : W.rowIs g t l f) (hg : N ≤ g) (ht : shiftyB t = false := by decide) : Lies N (fun V => V.rowIs g t l f) W := fun U hU => by
  obtain ⟨c, h1, _⟩ := id h
  exact h.of_block (hU.1 g c t hg ht h1)
theorem lies_all {N k : Nat} {P : Nat → World → Prop} {W : World} (h : ∀ j, j < k → Lies N (P j) W) : Lies N (fun V => ∀ j, j < k → P j V) W := fun U hU j hj => h j hj U hU
theorem lies_pure {N : Nat} {p : Prop} (h : p) (W : World) : Lies N (fun _ => p) W := fun _ _ => h

/-- The words of a row. -/
structure RW where
  ca : Option Addr
  cl : Nat
  cc : Nat
  con : Int
def RW.v (q : RW) : Value := .agg #[.slice q.ca q.cl q.cc, .int .i64 q.con]
structure RG (w : World) (q : RW) (r : List Int × Int) : Prop where
  con : q.con = r.2
  coef : Ints w q.ca q.cl r.1
  cap : q.cl ≤ q.cc ∧ (q.ca = none → q.cc = 0)
  bd : B64 r.2
theorem RG.below {w w' : World} {q : RW} {r : List Int × Int} (h : RG w q r) (hb : Below w.heap.size w w') : RG w' q r := ⟨h.con, h.coef.below hb, h.cap, h.bd⟩
theorem RowAt.words {w : World} {b o : Nat} {r : List Int × Int} (h : RowAt w b o r) : ∃ q : RW, RG w q r ∧ w.cell? ⟨b, o, none⟩ = some (.slice q.ca q.cl q.cc) ∧ w.cell? ⟨b, o + 1, none⟩ = some (.int .i64 q.con) := by
  obtain ⟨a, l, c, h1, h2, h3, h4, h5⟩ := h
  exact ⟨⟨a, l, c, r.2⟩, ⟨rfl, h3, h4, h5⟩, h1, h2⟩
/-- Rows, words by words. -/
theorem rws_words {w : World} {a : Option Addr} {len : Nat} {rs : List (List Int × Int)} (h : Rws w a len rs) : ∃ qs : Nat → RW, (∀ j, j < len → RG w (qs j) (rs[j]?.getD ([], 0))) ∧ (len = 0 ∨ ∃ b off, a = some ⟨b, off, none⟩ ∧ ∀ j, j < len → w.cell? ⟨b, off + j * 2, none⟩ = some (.slice (qs j).ca (qs j).cl (qs j).cc) ∧ w.cell? ⟨b, off + j * 2 + 1, none⟩ = some (.int .i64 (qs j).con)) := by
  rcases h.2.2 with h0 | ⟨b, off, e, hat⟩
  · exact ⟨fun _ => ⟨none, 0, 0, 0⟩, fun j hj => by omega, .inl h0⟩
  · have hc : ∀ j, ∃ q : RW, j < len → RG w q (rs[j]?.getD ([], 0)) ∧ w.cell? ⟨b, off + j * 2, none⟩ = some (.slice q.ca q.cl q.cc) ∧ w.cell? ⟨b, off + j * 2 + 1, none⟩ = some (.int .i64 q.con) := fun j => by
      by_cases hj : j < len
      · obtain ⟨q, h1, h2⟩ := (hat j hj).words
        exact ⟨q, fun _ => ⟨h1, h2⟩⟩
      · exact ⟨⟨none, 0, 0, 0⟩, fun h => absurd h hj⟩
    obtain ⟨qs, hq⟩ := Classical.axiomOfChoice hc
    exact ⟨qs, fun j hj => (hq j hj).1, .inr ⟨b, off, e, fun j hj => (hq j hj).2⟩⟩
theorem accs_words {w : World} {a : Option Addr} {len : Nat} {gs : List Acc} (h : Accs w a len gs) : ∃ qs : Nat → AW, (∀ j, j < len → AG w (qs j) (gs[j]?.getD accD)) ∧ (len = 0 ∨ ∃ b off, a = some ⟨b, off, none⟩ ∧ ∀ j, j < len → w.cell? ⟨b, off + j * 3, none⟩ = some (.int .i64 (qs j).arr) ∧ w.cell? ⟨b, off + j * 3 + 1, none⟩ = some (.slice (qs j).ca (qs j).cl (qs j).cc) ∧ w.cell? ⟨b, off + j * 3 + 2, none⟩ = some (.int .i64 (qs j).con)) := by
  rcases h.2.2 with h0 | ⟨b, off, e, hat⟩
  · exact ⟨fun _ => ⟨0, none, 0, 0, 0⟩, fun j hj => by omega, .inl h0⟩
  · have hc : ∀ j, ∃ q : AW, j < len → AG w q (gs[j]?.getD accD) ∧ w.cell? ⟨b, off + j * 3, none⟩ = some (.int .i64 q.arr) ∧ w.cell? ⟨b, off + j * 3 + 1, none⟩ = some (.slice q.ca q.cl q.cc) ∧ w.cell? ⟨b, off + j * 3 + 2, none⟩ = some (.int .i64 q.con) := fun j => by
      by_cases hj : j < len
      · obtain ⟨q, h1, h2⟩ := (hat j hj).words
        exact ⟨q, fun _ => ⟨h1, h2⟩⟩
      · exact ⟨⟨0, none, 0, 0, 0⟩, fun h => absurd h hj⟩
    obtain ⟨qs, hq⟩ := Classical.axiomOfChoice hc
    exact ⟨qs, fun j hj => (hq j hj).1, .inr ⟨b, off, e, fun j hj => (hq j hj).2⟩⟩
def swD : SW := ⟨none, 0, 0, none, 0, 0, 0, 0, ⟨0, none, 0, 0, 0⟩, none, 0, 0⟩
/-- The cells of a statement from an offset on. -/
def SW.at (q : SW) (w : World) (b o : Nat) : Prop := w.cell? ⟨b, o, none⟩ = some (.slice q.ba q.bl q.bc) ∧ w.cell? ⟨b, o + 1, none⟩ = some (.slice q.ra q.rl q.rc) ∧ w.cell? ⟨b, o + 2, none⟩ = some (.int .i64 q.kd) ∧ w.cell? ⟨b, o + 3, none⟩ = some (.int .i64 q.va) ∧ w.cell? ⟨b, o + 4, none⟩ = some (.int .i64 q.pu.arr) ∧ w.cell? ⟨b, o + 5, none⟩ = some (.slice q.pu.ca q.pu.cl q.pu.cc) ∧ w.cell? ⟨b, o + 6, none⟩ = some (.int .i64 q.pu.con) ∧ w.cell? ⟨b, o + 7, none⟩ = some (.slice q.ga q.gl q.gc)
theorem stms_words {w : World} {a : Option Addr} {len : Nat} {ss : List Stm} (h : Stms w a len ss) : ∃ qs : Nat → SW, (∀ j, j < len → SG w (qs j) (ss[j]?.getD stmD)) ∧ (len = 0 ∨ ∃ b off, a = some ⟨b, off, none⟩ ∧ ∀ j, j < len → (qs j).at w b (off + j * 8)) := by
  rcases h.2.2 with h0 | ⟨b, off, e, hat⟩
  · exact ⟨fun _ => swD, fun j hj => by omega, .inl h0⟩
  · have hc : ∀ j, ∃ q : SW, j < len → SG w q (ss[j]?.getD stmD) ∧ q.at w b (off + j * 8) := fun j => by
      by_cases hj : j < len
      · obtain ⟨q, h1, h2⟩ := hat j hj
        exact ⟨q, fun _ => ⟨h1, h2⟩⟩
      · exact ⟨swD, fun h => absurd h hj⟩
    obtain ⟨qs, hq⟩ := Classical.axiomOfChoice hc
    exact ⟨qs, fun j hj => (hq j hj).1, .inr ⟨b, off, e, fun j hj => (hq j hj).2⟩⟩
end Go.Proofs.Ytkbdnhchlkafnaa.V
namespace Go.Proofs.Ytkbdnhchlkafnaa.V
open Go.RowKit
set_option linter.unusedVariables false

theorem info_R : (Try.prog.info? 51).map (fun i => (i.zero, i.size, i.bytes)) = some (some (.agg #[.slice none 0 0, .int .i64 0]), 2, 32) := by kernel_rfl
/-- The first k of what has been made, in a row of the call's own. -/
def OutR (W : World) (R len : Nat) (us : Nat → RW) (k : Nat) : Prop := ∃ f, W.rowIs R 51 (len * 2) f ∧ ∀ j, j < k → f (j * 2) = .slice (us j).ca (us j).cl (us j).cc ∧ f (j * 2 + 1) = .int .i64 (us j).con
theorem OutR.lt {W : World} {R len k : Nat} {us : Nat → RW} (h : OutR W R len us k) : R < W.heap.size := by
  obtain ⟨f, h1, _⟩ := h
  exact h1.lt
theorem OutR.below {W V : World} {R len k : Nat} {us : Nat → RW} (h : OutR W R len us k) (hb : Below W.heap.size W V) : OutR V R len us k := by
  obtain ⟨f, h1, h2⟩ := h
  exact ⟨f, h1.of_block (hb.block _ h1.lt), h2⟩
theorem OutR.lies {W : World} {R len k N : Nat} {us : Nat → RW} (h : OutR W R len us k) (hN : N ≤ R) : Lies N (fun V => OutR V R len us k) W := by
  obtain ⟨f, h1, h2⟩ := h
  exact (lies_row h1 hN).imp (fun V hV => ⟨f, hV, h2⟩)
theorem OutR.snoc {W : World} {R len k : Nat} {us : Nat → RW} (h : OutR W R len us k) (u : RW) : OutR ((W.setCell ⟨R, k * 2, none⟩ (.slice u.ca u.cl u.cc)).setCell ⟨R, k * 2 + 1, none⟩ (.int .i64 u.con)) R len (fun j => if j = k then u else us j) (k + 1) := by
  obtain ⟨f, h1, h2⟩ := h
  refine ⟨_, (h1.set (k * 2) _).set (k * 2 + 1) _, fun j hj => ?_⟩
  by_cases e : j = k
  · subst e
    simp only [if_true]
    refine ⟨?_, ?_⟩ <;> simp
  · obtain ⟨e0, e1⟩ := h2 j (by omega)
    simp only [if_neg e]
    refine ⟨by rw [if_neg (by omega)]; rw [if_neg (by omega)]; exact e0, by rw [if_neg (by omega)]; rw [if_neg (by omega)]; exact e1⟩
theorem info_A : (Try.prog.info? 72).map (fun i => (i.zero, i.size, i.bytes)) = some (some (.agg #[.int .i64 0, .slice none 0 0, .int .i64 0]), 3, 40) := by kernel_rfl
/-- The first k of what has been made, in a row of the call's own. -/
def OutA (W : World) (R len : Nat) (us : Nat → AW) (k : Nat) : Prop := ∃ f, W.rowIs R 72 (len * 3) f ∧ ∀ j, j < k → f (j * 3) = .int .i64 (us j).arr ∧ f (j * 3 + 1) = .slice (us j).ca (us j).cl (us j).cc ∧ f (j * 3 + 2) = .int .i64 (us j).con
theorem OutA.lt {W : World} {R len k : Nat} {us : Nat → AW} (h : OutA W R len us k) : R < W.heap.size := by
  obtain ⟨f, h1, _⟩ := h
  exact h1.lt
theorem OutA.below {W V : World} {R len k : Nat} {us : Nat → AW} (h : OutA W R len us k) (hb : Below W.heap.size W V) : OutA V R len us k := by
  obtain ⟨f, h1, h2⟩ := h
  exact ⟨f, h1.of_block (hb.block _ h1.lt), h2⟩
theorem OutA.lies {W : World} {R len k N : Nat} {us : Nat → AW} (h : OutA W R len us k) (hN : N ≤ R) : Lies N (fun V => OutA V R len us k) W := by
  obtain ⟨f, h1, h2⟩ := h
  exact (lies_row h1 hN).imp (fun V hV => ⟨f, hV, h2⟩)
theorem OutA.snoc {W : World} {R len k : Nat} {us : Nat → AW} (h : OutA W R len us k) (u : AW) : OutA (((W.setCell ⟨R, k * 3, none⟩ (.int .i64 u.arr)).setCell ⟨R, k * 3 + 1, none⟩ (.slice u.ca u.cl u.cc)).setCell ⟨R, k * 3 + 2, none⟩ (.int .i64 u.con)) R len (fun j => if j = k then u else us j) (k + 1) := by
  obtain ⟨f, h1, h2⟩ := h
  refine ⟨_, ((h1.set (k * 3) _).set (k * 3 + 1) _).set (k * 3 + 2) _, fun j hj => ?_⟩
  by_cases e : j = k
  · subst e
    simp only [if_true]
    refine ⟨?_, ?_, ?_⟩ <;> simp
  · obtain ⟨e0, e1, e2⟩ := h2 j (by omega)
    simp only [if_neg e]
    refine ⟨by rw [if_neg (by omega)]; rw [if_neg (by omega)]; rw [if_neg (by omega)]; exact e0, by rw [if_neg (by omega)]; rw [if_neg (by omega)]; rw [if_neg (by omega)]; exact e1, by rw [if_neg (by omega)]; rw [if_neg (by omega)]; rw [if_neg (by omega)]; exact e2⟩
theorem info_S : (Try.prog.info? 75).map (fun i => (i.zero, i.size, i.bytes)) = some (some (.agg #[.slice none 0 0, .slice none 0 0, .int .i64 0, .int .i64 0, .int .i64 0, .slice none 0 0, .int .i64 0, .slice none 0 0]), 8, 128) := by kernel_rfl
/-- The first k of what has been made, in a row of the call's own. -/
def OutS8 (W : World) (R len : Nat) (us : Nat → SW) (k : Nat) : Prop := ∃ f, W.rowIs R 75 (len * 8) f ∧ ∀ j, j < k → f (j * 8) = .slice (us j).ba (us j).bl (us j).bc ∧ f (j * 8 + 1) = .slice (us j).ra (us j).rl (us j).rc ∧ f (j * 8 + 2) = .int .i64 (us j).kd ∧ f (j * 8 + 3) = .int .i64 (us j).va ∧ f (j * 8 + 4) = .int .i64 (us j).pu.arr ∧ f (j * 8 + 5) = .slice (us j).pu.ca (us j).pu.cl (us j).pu.cc ∧ f (j * 8 + 6) = .int .i64 (us j).pu.con ∧ f (j * 8 + 7) = .slice (us j).ga (us j).gl (us j).gc
theorem OutS8.lt {W : World} {R len k : Nat} {us : Nat → SW} (h : OutS8 W R len us k) : R < W.heap.size := by
  obtain ⟨f, h1, _⟩ := h
  exact h1.lt
theorem OutS8.below {W V : World} {R len k : Nat} {us : Nat → SW} (h : OutS8 W R len us k) (hb : Below W.heap.size W V) : OutS8 V R len us k := by
  obtain ⟨f, h1, h2⟩ := h
  exact ⟨f, h1.of_block (hb.block _ h1.lt), h2⟩
theorem OutS8.lies {W : World} {R len k N : Nat} {us : Nat → SW} (h : OutS8 W R len us k) (hN : N ≤ R) : Lies N (fun V => OutS8 V R len us k) W := by
  obtain ⟨f, h1, h2⟩ := h
  exact (lies_row h1 hN).imp (fun V hV => ⟨f, hV, h2⟩)
theorem OutS8.snoc {W : World} {R len k : Nat} {us : Nat → SW} (h : OutS8 W R len us k) (u : SW) : OutS8 ((((((((W.setCell ⟨R, k * 8, none⟩ (.slice u.ba u.bl u.bc)).setCell ⟨R, k * 8 + 1, none⟩ (.slice u.ra u.rl u.rc)).setCell ⟨R, k * 8 + 2, none⟩ (.int .i64 u.kd)).setCell ⟨R, k * 8 + 3, none⟩ (.int .i64 u.va)).setCell ⟨R, k * 8 + 4, none⟩ (.int .i64 u.pu.arr)).setCell ⟨R, k * 8 + 5, none⟩ (.slice u.pu.ca u.pu.cl u.pu.cc)).setCell ⟨R, k * 8 + 6, none⟩ (.int .i64 u.pu.con)).setCell ⟨R, k * 8 + 7, none⟩ (.slice u.ga u.gl u.gc)) R len (fun j => if j = k then u else us j) (k + 1) := by
  obtain ⟨f, h1, h2⟩ := h
  refine ⟨_, (((((((h1.set (k * 8) _).set (k * 8 + 1) _).set (k * 8 + 2) _).set (k * 8 + 3) _).set (k * 8 + 4) _).set (k * 8 + 5) _).set (k * 8 + 6) _).set (k * 8 + 7) _, fun j hj => ?_⟩
  by_cases e : j = k
  · subst e
    simp only [if_true]
    refine ⟨?_, ?_, ?_, ?_, ?_, ?_, ?_, ?_⟩ <;> simp
  · obtain ⟨e0, e1, e2, e3, e4, e5, e6, e7⟩ := h2 j (by omega)
    simp only [if_neg e]
    refine ⟨by rw [if_neg (by omega)]; rw [if_neg (by omega)]; rw [if_neg (by omega)]; rw [if_neg (by omega)]; rw [if_neg (by omega)]; rw [if_neg (by omega)]; rw [if_neg (by omega)]; rw [if_neg (by omega)]; exact e0, by rw [if_neg (by omega)]; rw [if_neg (by omega)]; rw [if_neg (by omega)]; rw [if_neg (by omega)]; rw [if_neg (by omega)]; rw [if_neg (by omega)]; rw [if_neg (by omega)]; rw [if_neg (by omega)]; exact e1, by rw [if_neg (by omega)]; rw [if_neg (by omega)]; rw [if_neg (by omega)]; rw [if_neg (by omega)]; rw [if_neg (by omega)]; rw [if_neg (by omega)]; rw [if_neg (by omega)]; rw [if_neg (by omega)]; exact e2, by rw [if_neg (by omega)]; rw [if_neg (by omega)]; rw [if_neg (by omega)]; rw [if_neg (by omega)]; rw [if_neg (by omega)]; rw [if_neg (by omega)]; rw [if_neg (by omega)]; rw [if_neg (by omega)]; exact e3, by rw [if_neg (by omega)]; rw [if_neg (by omega)]; rw [if_neg (by omega)]; rw [if_neg (by omega)]; rw [if_neg (by omega)]; rw [if_neg (by omega)]; rw [if_neg (by omega)]; rw [if_neg (by omega)]; exact e4, by rw [if_neg (by omega)]; rw [if_neg (by omega)]; rw [if_neg (by omega)]; rw [if_neg (by omega)]; rw [if_neg (by omega)]; rw [if_neg (by omega)]; rw [if_neg (by omega)]; rw [if_neg (by omega)]; exact e5, by rw [if_neg (by omega)]; rw [if_neg (by omega)]; rw [if_neg (by omega)]; rw [if_neg (by omega)]; rw [if_neg (by omega)]; rw [if_neg (by omega)]; rw [if_neg (by omega)]; rw [if_neg (by omega)]; exact e6, by rw [if_neg (by omega)]; rw [if_neg (by omega)]; rw [if_neg (by omega)]; rw [if_neg (by omega)]; rw [if_neg (by omega)]; rw [if_neg (by omega)]; rw [if_neg (by omega)]; rw [if_neg (by omega)]; exact e7⟩
set_option maxRecDepth 100000 in
set_option maxHeartbeats 4000000 in
theorem eachRR (a : Option Addr) (len cap : Nat) (qs : Nat → RW) (g : Nat) (bs : Array Value) (eg : ∀ args w, (callFunc g args).run Try.prog w = .ok (.enter g args) w) (Q : Nat → RW → World → Prop) (w : World) (hlen : len * 32 ≤ 281474976710656)
    (hin : len = 0 ∨ ∃ b off, a = some ⟨b, off, none⟩ ∧ ∀ j, j < len → w.cell? ⟨b, off + j * 2, none⟩ = some (.slice (qs j).ca (qs j).cl (qs j).cc) ∧ w.cell? ⟨b, off + j * 2 + 1, none⟩ = some (.int .i64 (qs j).con))
    (hcall : ∀ (j : Nat) (W : World), j < len → Below w.heap.size w W → w.heap.size < W.heap.size → Calls Try.prog g (#[(qs j).v] ++ bs) W fun e w' => (∃ u : RW, e = .returned u.v ∧ Lies W.heap.size (Q j u) w') ∧ Below W.heap.size W w') :
    Calls Try.prog 110 #[.slice a len cap, .func (.func g) #[] bs] w fun e w' => (∃ us : Nat → RW, e = .returned (.slice (some ⟨w.heap.size, 0, none⟩) len len) ∧ OutR w' w.heap.size len us len ∧ ∀ j, j < len → Lies (w.heap.size + 1) (Q j (us j)) w') ∧ Below w.heap.size w w' := by
  have HIN := hide hin
  have HCALL := hide hcall
  obtain ⟨i0, hi, hz0, hz1, hz2⟩ := info_parts info_R
  have hmk : ∀ W : World, (Instr.makeSlice 48 (.int .i64 (len : Int)) (.int .i64 (len : Int))).run Try.prog W = .ok (.slice (some ⟨W.heap.size, 0, none⟩) len len) (W.alloc (.cells (madeCells #[.slice none 0 0, .int .i64 0] (len * 2)) 51)) := fun W => by
    have := run_make (P := Try.prog) W 48 51 i0 (.agg #[.slice none 0 0, .int .i64 0]) Try.underlying48 hi hz0 .i64 .i64 len len (by omega) (by omega) (by rw [hz2]; omega) (by omega)
    simpa [hz1, Value.cells] using this
  have HROW : Hid (OutR (w.alloc (.cells (madeCells #[.slice none 0 0, .int .i64 0] (len * 2)) 51)) w.heap.size len (fun _ => ⟨none, 0, 0, 0⟩) 0) := ⟨fun i => (#[.slice none 0 0, .int .i64 0] : Array Value)[i % 2]!, ⟨_, World.alloc_heap_new _ _, size_madeCells _ _, fun i hi => by simp [madeCells, hi]⟩, fun j hj => by omega⟩
  have HB0 : Hid (Below w.heap.size w (w.alloc (.cells (madeCells #[.slice none 0 0, .int .i64 0] (len * 2)) 51))) := bl_new _
  clear hin hcall hi hz0 hz1 hz2
  go_enter Try.func110, Try.ntmps110
  go_wp2_with fail
  clear hmk
  go_loopw [13] (fun i wr => ∃ k : Nat, k ≤ len ∧ i = .int .i64 k ∧ (∃ us, OutR wr w.heap.size len us k ∧ ∀ j, j < k → Lies (w.heap.size + 1) (Q j (us j)) wr) ∧ Below w.heap.size w wr) (fun i _ => len - (intOf i).toNat)
  case atStart => exact ⟨0, Nat.zero_le _, rfl, ⟨_, HROW.out, fun j hj => by omega⟩, HB0.out⟩
  case round =>
    obtain ⟨k, hk, rfl, ⟨us, hT, hL⟩, hB⟩ := hrel
    have HT := hide hT
    have HL := hide hL
    have HB := hide hB
    clear HROW HB0 hL
    by_cases hlt : k < len
    · obtain ⟨b, off, rfl, hat⟩ := HIN.out.resolve_left (by omega)
      obtain ⟨c0, c1⟩ := hat k hlt
      have HC0 := hide (HCALL.out k)
      obtain ⟨q, hq⟩ : ∃ q, q = qs k := ⟨_, rfl⟩
      rw [← hq] at HC0 c0 c1
      have c0' := (HB.out.cell (p := ⟨b, off + k * 2, none⟩) (lt_of_cell c0)).trans c0
      have z0 := lt_of_cell c0'
      have c1' := (HB.out.cell (p := ⟨b, off + k * 2 + 1, none⟩) (lt_of_cell c1)).trans c1
      have z1 := lt_of_cell c1'
      have hRl := hT.lt
      have B2 : Below wr.heap.size wr (wr.alloc (.cells #[.slice q.ca q.cl q.cc, .int .i64 q.con] 51)) := bl_new _
      have HC := hide (HC0.out (wr.alloc (.cells #[.slice q.ca q.cl q.cc, .int .i64 q.con] 51)) hlt (bl_on HB.out B2) (by rw [World.size_alloc]; omega))
      have HB2 := hide B2
      unfold RW.v  at HC
      clear hat hq B2 hT hB HC0 c0 c1
      go_wp2_with fail
      refine HC.out.mono ?_
      rintro e w2 ⟨⟨u, rfl, hl⟩, hb2⟩
      have T2 := HT.out.below (bl_on HB2.out hb2)
      obtain ⟨f, r1, r2⟩ := T2
      have d0 := r1.cell (i := k * 2) (by omega)
      have y0 := r1.frozen (k * 2)
      have d1 := r1.cell (i := k * 2 + 1) (by omega)
      have y1 := r1.frozen (k * 2 + 1)
      have z3 := r1.lt
      have hsz := HB.out.size
      have HT2 := hide (OutR.snoc ⟨f, r1, r2⟩ u)
      have HLn := hide (hl.mono (N := w.heap.size + 1) (by rw [World.size_alloc]; omega))
      have HLo := hide (fun j (hj : j < k) => (HL.out j hj).below (bl_on HB2.out hb2))
      have HBb := hide (bl_on HB.out (bl_on HB2.out hb2))
      clear hb2 r1 r2 hl
      try unfold RW.v 
      go_wp2_with fail
      go_roundw
      case rel =>
        refine ⟨k + 1, by omega, by go_num, ⟨_, HT2.out, fun j hj => ?_⟩, ((HBb.out.setCell (p := ⟨w.heap.size, k * 2, none⟩) (Nat.le_refl _) _).setCell (p := ⟨w.heap.size, k * 2 + 1, none⟩) (Nat.le_refl _) _)⟩
        by_cases e : k = j
        · subst e
          simp only [if_true]
          have hl := HLn.out
          exact (((hl).set (p := ⟨w.heap.size, k * 2, none⟩) (by simp only; omega) _).set (p := ⟨w.heap.size, k * 2 + 1, none⟩) (by simp only; omega) _)
        · simp only [if_neg (fun e' : j = k => e e'.symm)]
          have hl := HLo.out j (by omega)
          exact (((hl).set (p := ⟨w.heap.size, k * 2, none⟩) (by simp only; omega) _).set (p := ⟨w.heap.size, k * 2 + 1, none⟩) (by simp only; omega) _)
      case measure => simp [intOf]; omega
    · obtain rfl : k = len := by omega
      clear hT hB
      go_wp2_with fail
      go_ret
      exact ⟨⟨us, rfl, HT.out, HL.out⟩, HB.out⟩
set_option maxRecDepth 100000 in
set_option maxHeartbeats 4000000 in
theorem eachAA (a : Option Addr) (len cap : Nat) (qs : Nat → AW) (g : Nat) (bs : Array Value) (eg : ∀ args w, (callFunc g args).run Try.prog w = .ok (.enter g args) w) (Q : Nat → AW → World → Prop) (w : World) (hlen : len * 40 ≤ 281474976710656)
    (hin : len = 0 ∨ ∃ b off, a = some ⟨b, off, none⟩ ∧ ∀ j, j < len → w.cell? ⟨b, off + j * 3, none⟩ = some (.int .i64 (qs j).arr) ∧ w.cell? ⟨b, off + j * 3 + 1, none⟩ = some (.slice (qs j).ca (qs j).cl (qs j).cc) ∧ w.cell? ⟨b, off + j * 3 + 2, none⟩ = some (.int .i64 (qs j).con))
    (hcall : ∀ (j : Nat) (W : World), j < len → Below w.heap.size w W → w.heap.size < W.heap.size → Calls Try.prog g (#[(qs j).v] ++ bs) W fun e w' => (∃ u : AW, e = .returned u.v ∧ Lies W.heap.size (Q j u) w') ∧ Below W.heap.size W w') :
    Calls Try.prog 111 #[.slice a len cap, .func (.func g) #[] bs] w fun e w' => (∃ us : Nat → AW, e = .returned (.slice (some ⟨w.heap.size, 0, none⟩) len len) ∧ OutA w' w.heap.size len us len ∧ ∀ j, j < len → Lies (w.heap.size + 1) (Q j (us j)) w') ∧ Below w.heap.size w w' := by
  have HIN := hide hin
  have HCALL := hide hcall
  obtain ⟨i0, hi, hz0, hz1, hz2⟩ := info_parts info_A
  have hmk : ∀ W : World, (Instr.makeSlice 73 (.int .i64 (len : Int)) (.int .i64 (len : Int))).run Try.prog W = .ok (.slice (some ⟨W.heap.size, 0, none⟩) len len) (W.alloc (.cells (madeCells #[.int .i64 0, .slice none 0 0, .int .i64 0] (len * 3)) 72)) := fun W => by
    have := run_make (P := Try.prog) W 73 72 i0 (.agg #[.int .i64 0, .slice none 0 0, .int .i64 0]) Try.underlying73 hi hz0 .i64 .i64 len len (by omega) (by omega) (by rw [hz2]; omega) (by omega)
    simpa [hz1, Value.cells] using this
  have HROW : Hid (OutA (w.alloc (.cells (madeCells #[.int .i64 0, .slice none 0 0, .int .i64 0] (len * 3)) 72)) w.heap.size len (fun _ => ⟨0, none, 0, 0, 0⟩) 0) := ⟨fun i => (#[.int .i64 0, .slice none 0 0, .int .i64 0] : Array Value)[i % 3]!, ⟨_, World.alloc_heap_new _ _, size_madeCells _ _, fun i hi => by simp [madeCells, hi]⟩, fun j hj => by omega⟩
  have HB0 : Hid (Below w.heap.size w (w.alloc (.cells (madeCells #[.int .i64 0, .slice none 0 0, .int .i64 0] (len * 3)) 72))) := bl_new _
  clear hin hcall hi hz0 hz1 hz2
  go_enter Try.func111, Try.ntmps111
  go_wp2_with fail
  clear hmk
  go_loopw [13] (fun i wr => ∃ k : Nat, k ≤ len ∧ i = .int .i64 k ∧ (∃ us, OutA wr w.heap.size len us k ∧ ∀ j, j < k → Lies (w.heap.size + 1) (Q j (us j)) wr) ∧ Below w.heap.size w wr) (fun i _ => len - (intOf i).toNat)
  case atStart => exact ⟨0, Nat.zero_le _, rfl, ⟨_, HROW.out, fun j hj => by omega⟩, HB0.out⟩
  case round =>
    obtain ⟨k, hk, rfl, ⟨us, hT, hL⟩, hB⟩ := hrel
    have HT := hide hT
    have HL := hide hL
    have HB := hide hB
    clear HROW HB0 hL
    by_cases hlt : k < len
    · obtain ⟨b, off, rfl, hat⟩ := HIN.out.resolve_left (by omega)
      obtain ⟨c0, c1, c2⟩ := hat k hlt
      have HC0 := hide (HCALL.out k)
      obtain ⟨q, hq⟩ : ∃ q, q = qs k := ⟨_, rfl⟩
      rw [← hq] at HC0 c0 c1 c2
      have c0' := (HB.out.cell (p := ⟨b, off + k * 3, none⟩) (lt_of_cell c0)).trans c0
      have z0 := lt_of_cell c0'
      have c1' := (HB.out.cell (p := ⟨b, off + k * 3 + 1, none⟩) (lt_of_cell c1)).trans c1
      have z1 := lt_of_cell c1'
      have c2' := (HB.out.cell (p := ⟨b, off + k * 3 + 2, none⟩) (lt_of_cell c2)).trans c2
      have z2 := lt_of_cell c2'
      have hRl := hT.lt
      have B2 : Below wr.heap.size wr (wr.alloc (.cells #[.int .i64 q.arr, .slice q.ca q.cl q.cc, .int .i64 q.con] 72)) := bl_new _
      have HC := hide (HC0.out (wr.alloc (.cells #[.int .i64 q.arr, .slice q.ca q.cl q.cc, .int .i64 q.con] 72)) hlt (bl_on HB.out B2) (by rw [World.size_alloc]; omega))
      have HB2 := hide B2
      unfold AW.v  at HC
      clear hat hq B2 hT hB HC0 c0 c1 c2
      go_wp2_with fail
      refine HC.out.mono ?_
      rintro e w2 ⟨⟨u, rfl, hl⟩, hb2⟩
      have T2 := HT.out.below (bl_on HB2.out hb2)
      obtain ⟨f, r1, r2⟩ := T2
      have d0 := r1.cell (i := k * 3) (by omega)
      have y0 := r1.frozen (k * 3)
      have d1 := r1.cell (i := k * 3 + 1) (by omega)
      have y1 := r1.frozen (k * 3 + 1)
      have d2 := r1.cell (i := k * 3 + 2) (by omega)
      have y2 := r1.frozen (k * 3 + 2)
      have z3 := r1.lt
      have hsz := HB.out.size
      have HT2 := hide (OutA.snoc ⟨f, r1, r2⟩ u)
      have HLn := hide (hl.mono (N := w.heap.size + 1) (by rw [World.size_alloc]; omega))
      have HLo := hide (fun j (hj : j < k) => (HL.out j hj).below (bl_on HB2.out hb2))
      have HBb := hide (bl_on HB.out (bl_on HB2.out hb2))
      clear hb2 r1 r2 hl
      try unfold AW.v 
      go_wp2_with fail
      go_roundw
      case rel =>
        refine ⟨k + 1, by omega, by go_num, ⟨_, HT2.out, fun j hj => ?_⟩, (((HBb.out.setCell (p := ⟨w.heap.size, k * 3, none⟩) (Nat.le_refl _) _).setCell (p := ⟨w.heap.size, k * 3 + 1, none⟩) (Nat.le_refl _) _).setCell (p := ⟨w.heap.size, k * 3 + 2, none⟩) (Nat.le_refl _) _)⟩
        by_cases e : k = j
        · subst e
          simp only [if_true]
          have hl := HLn.out
          exact ((((hl).set (p := ⟨w.heap.size, k * 3, none⟩) (by simp only; omega) _).set (p := ⟨w.heap.size, k * 3 + 1, none⟩) (by simp only; omega) _).set (p := ⟨w.heap.size, k * 3 + 2, none⟩) (by simp only; omega) _)
        · simp only [if_neg (fun e' : j = k => e e'.symm)]
          have hl := HLo.out j (by omega)
          exact ((((hl).set (p := ⟨w.heap.size, k * 3, none⟩) (by simp only; omega) _).set (p := ⟨w.heap.size, k * 3 + 1, none⟩) (by simp only; omega) _).set (p := ⟨w.heap.size, k * 3 + 2, none⟩) (by simp only; omega) _)
      case measure => simp [intOf]; omega
    · obtain rfl : k = len := by omega
      clear hT hB
      go_wp2_with fail
      go_ret
      exact ⟨⟨us, rfl, HT.out, HL.out⟩, HB.out⟩
set_option maxRecDepth 100000 in
set_option maxHeartbeats 4000000 in
theorem eachSS (a : Option Addr) (len cap : Nat) (qs : Nat → SW) (g : Nat) (bs : Array Value) (eg : ∀ args w, (callFunc g args).run Try.prog w = .ok (.enter g args) w) (Q : Nat → SW → World → Prop) (w : World) (hlen : len * 128 ≤ 281474976710656)
    (hin : len = 0 ∨ ∃ b off, a = some ⟨b, off, none⟩ ∧ ∀ j, j < len → w.cell? ⟨b, off + j * 8, none⟩ = some (.slice (qs j).ba (qs j).bl (qs j).bc) ∧ w.cell? ⟨b, off + j * 8 + 1, none⟩ = some (.slice (qs j).ra (qs j).rl (qs j).rc) ∧ w.cell? ⟨b, off + j * 8 + 2, none⟩ = some (.int .i64 (qs j).kd) ∧ w.cell? ⟨b, off + j * 8 + 3, none⟩ = some (.int .i64 (qs j).va) ∧ w.cell? ⟨b, off + j * 8 + 4, none⟩ = some (.int .i64 (qs j).pu.arr) ∧ w.cell? ⟨b, off + j * 8 + 5, none⟩ = some (.slice (qs j).pu.ca (qs j).pu.cl (qs j).pu.cc) ∧ w.cell? ⟨b, off + j * 8 + 6, none⟩ = some (.int .i64 (qs j).pu.con) ∧ w.cell? ⟨b, off + j * 8 + 7, none⟩ = some (.slice (qs j).ga (qs j).gl (qs j).gc))
    (hcall : ∀ (j : Nat) (W : World), j < len → Below w.heap.size w W → w.heap.size < W.heap.size → Calls Try.prog g (#[(qs j).v] ++ bs) W fun e w' => (∃ u : SW, e = .returned u.v ∧ Lies W.heap.size (Q j u) w') ∧ Below W.heap.size W w') :
    Calls Try.prog 50 #[.slice a len cap, .func (.func g) #[] bs] w fun e w' => (∃ us : Nat → SW, e = .returned (.slice (some ⟨w.heap.size, 0, none⟩) len len) ∧ OutS8 w' w.heap.size len us len ∧ ∀ j, j < len → Lies (w.heap.size + 1) (Q j (us j)) w') ∧ Below w.heap.size w w' := by
  have HIN := hide hin
  have HCALL := hide hcall
  obtain ⟨i0, hi, hz0, hz1, hz2⟩ := info_parts info_S
  have hmk : ∀ W : World, (Instr.makeSlice 23 (.int .i64 (len : Int)) (.int .i64 (len : Int))).run Try.prog W = .ok (.slice (some ⟨W.heap.size, 0, none⟩) len len) (W.alloc (.cells (madeCells #[.slice none 0 0, .slice none 0 0, .int .i64 0, .int .i64 0, .int .i64 0, .slice none 0 0, .int .i64 0, .slice none 0 0] (len * 8)) 75)) := fun W => by
    have := run_make (P := Try.prog) W 23 75 i0 (.agg #[.slice none 0 0, .slice none 0 0, .int .i64 0, .int .i64 0, .int .i64 0, .slice none 0 0, .int .i64 0, .slice none 0 0]) Try.underlying23 hi hz0 .i64 .i64 len len (by omega) (by omega) (by rw [hz2]; omega) (by omega)
    simpa [hz1, Value.cells] using this
  have HROW : Hid (OutS8 (w.alloc (.cells (madeCells #[.slice none 0 0, .slice none 0 0, .int .i64 0, .int .i64 0, .int .i64 0, .slice none 0 0, .int .i64 0, .slice none 0 0] (len * 8)) 75)) w.heap.size len (fun _ => swD) 0) := ⟨fun i => (#[.slice none 0 0, .slice none 0 0, .int .i64 0, .int .i64 0, .int .i64 0, .slice none 0 0, .int .i64 0, .slice none 0 0] : Array Value)[i % 8]!, ⟨_, World.alloc_heap_new _ _, size_madeCells _ _, fun i hi => by simp [madeCells, hi]⟩, fun j hj => by omega⟩
  have HB0 : Hid (Below w.heap.size w (w.alloc (.cells (madeCells #[.slice none 0 0, .slice none 0 0, .int .i64 0, .int .i64 0, .int .i64 0, .slice none 0 0, .int .i64 0, .slice none 0 0] (len * 8)) 75))) := bl_new _
  clear hin hcall hi hz0 hz1 hz2
  go_enter Try.func50, Try.ntmps50
  go_wp2_with fail
  clear hmk
  go_loopw [13] (fun i wr => ∃ k : Nat, k ≤ len ∧ i = .int .i64 k ∧ (∃ us, OutS8 wr w.heap.size len us k ∧ ∀ j, j < k → Lies (w.heap.size + 1) (Q j (us j)) wr) ∧ Below w.heap.size w wr) (fun i _ => len - (intOf i).toNat)
  case atStart => exact ⟨0, Nat.zero_le _, rfl, ⟨_, HROW.out, fun j hj => by omega⟩, HB0.out⟩
  case round =>
    obtain ⟨k, hk, rfl, ⟨us, hT, hL⟩, hB⟩ := hrel
    have HT := hide hT
    have HL := hide hL
    have HB := hide hB
    clear HROW HB0 hL
    by_cases hlt : k < len
    · obtain ⟨b, off, rfl, hat⟩ := HIN.out.resolve_left (by omega)
      obtain ⟨c0, c1, c2, c3, c4, c5, c6, c7⟩ := hat k hlt
      have HC0 := hide (HCALL.out k)
      obtain ⟨q, hq⟩ : ∃ q, q = qs k := ⟨_, rfl⟩
      rw [← hq] at HC0 c0 c1 c2 c3 c4 c5 c6 c7
      have c0' := (HB.out.cell (p := ⟨b, off + k * 8, none⟩) (lt_of_cell c0)).trans c0
      have z0 := lt_of_cell c0'
      have c1' := (HB.out.cell (p := ⟨b, off + k * 8 + 1, none⟩) (lt_of_cell c1)).trans c1
      have z1 := lt_of_cell c1'
      have c2' := (HB.out.cell (p := ⟨b, off + k * 8 + 2, none⟩) (lt_of_cell c2)).trans c2
      have z2 := lt_of_cell c2'
      have c3' := (HB.out.cell (p := ⟨b, off + k * 8 + 3, none⟩) (lt_of_cell c3)).trans c3
      have z3 := lt_of_cell c3'
      have c4' := (HB.out.cell (p := ⟨b, off + k * 8 + 4, none⟩) (lt_of_cell c4)).trans c4
      have z4 := lt_of_cell c4'
      have c5' := (HB.out.cell (p := ⟨b, off + k * 8 + 5, none⟩) (lt_of_cell c5)).trans c5
      have z5 := lt_of_cell c5'
      have c6' := (HB.out.cell (p := ⟨b, off + k * 8 + 6, none⟩) (lt_of_cell c6)).trans c6
      have z6 := lt_of_cell c6'
      have c7' := (HB.out.cell (p := ⟨b, off + k * 8 + 7, none⟩) (lt_of_cell c7)).trans c7
      have z7 := lt_of_cell c7'
      have hRl := hT.lt
      have B2 : Below wr.heap.size wr (wr.alloc (.cells #[.slice q.ba q.bl q.bc, .slice q.ra q.rl q.rc, .int .i64 q.kd, .int .i64 q.va, .int .i64 q.pu.arr, .slice q.pu.ca q.pu.cl q.pu.cc, .int .i64 q.pu.con, .slice q.ga q.gl q.gc] 75)) := bl_new _
      have HC := hide (HC0.out (wr.alloc (.cells #[.slice q.ba q.bl q.bc, .slice q.ra q.rl q.rc, .int .i64 q.kd, .int .i64 q.va, .int .i64 q.pu.arr, .slice q.pu.ca q.pu.cl q.pu.cc, .int .i64 q.pu.con, .slice q.ga q.gl q.gc] 75)) hlt (bl_on HB.out B2) (by rw [World.size_alloc]; omega))
      have HB2 := hide B2
      unfold SW.v  SW.cs at HC
      clear hat hq B2 hT hB HC0 c0 c1 c2 c3 c4 c5 c6 c7
      go_wp2_with fail
      refine HC.out.mono ?_
      rintro e w2 ⟨⟨u, rfl, hl⟩, hb2⟩
      have T2 := HT.out.below (bl_on HB2.out hb2)
      obtain ⟨f, r1, r2⟩ := T2
      have d0 := r1.cell (i := k * 8) (by omega)
      have y0 := r1.frozen (k * 8)
      have d1 := r1.cell (i := k * 8 + 1) (by omega)
      have y1 := r1.frozen (k * 8 + 1)
      have d2 := r1.cell (i := k * 8 + 2) (by omega)
      have y2 := r1.frozen (k * 8 + 2)
      have d3 := r1.cell (i := k * 8 + 3) (by omega)
      have y3 := r1.frozen (k * 8 + 3)
      have d4 := r1.cell (i := k * 8 + 4) (by omega)
      have y4 := r1.frozen (k * 8 + 4)
      have d5 := r1.cell (i := k * 8 + 5) (by omega)
      have y5 := r1.frozen (k * 8 + 5)
      have d6 := r1.cell (i := k * 8 + 6) (by omega)
      have y6 := r1.frozen (k * 8 + 6)
      have d7 := r1.cell (i := k * 8 + 7) (by omega)
      have y7 := r1.frozen (k * 8 + 7)
      have z3 := r1.lt
      have hsz := HB.out.size
      have HT2 := hide (OutS8.snoc ⟨f, r1, r2⟩ u)
      have HLn := hide (hl.mono (N := w.heap.size + 1) (by rw [World.size_alloc]; omega))
      have HLo := hide (fun j (hj : j < k) => (HL.out j hj).below (bl_on HB2.out hb2))
      have HBb := hide (bl_on HB.out (bl_on HB2.out hb2))
      clear hb2 r1 r2 hl
      try unfold SW.v  SW.cs
      go_wp2_with fail
      go_roundw
      case rel =>
        refine ⟨k + 1, by omega, by go_num, ⟨_, HT2.out, fun j hj => ?_⟩, ((((((((HBb.out.setCell (p := ⟨w.heap.size, k * 8, none⟩) (Nat.le_refl _) _).setCell (p := ⟨w.heap.size, k * 8 + 1, none⟩) (Nat.le_refl _) _).setCell (p := ⟨w.heap.size, k * 8 + 2, none⟩) (Nat.le_refl _) _).setCell (p := ⟨w.heap.size, k * 8 + 3, none⟩) (Nat.le_refl _) _).setCell (p := ⟨w.heap.size, k * 8 + 4, none⟩) (Nat.le_refl _) _).setCell (p := ⟨w.heap.size, k * 8 + 5, none⟩) (Nat.le_refl _) _).setCell (p := ⟨w.heap.size, k * 8 + 6, none⟩) (Nat.le_refl _) _).setCell (p := ⟨w.heap.size, k * 8 + 7, none⟩) (Nat.le_refl _) _)⟩
        by_cases e : k = j
        · subst e
          simp only [if_true]
          have hl := HLn.out
          exact (((((((((hl).set (p := ⟨w.heap.size, k * 8, none⟩) (by simp only; omega) _).set (p := ⟨w.heap.size, k * 8 + 1, none⟩) (by simp only; omega) _).set (p := ⟨w.heap.size, k * 8 + 2, none⟩) (by simp only; omega) _).set (p := ⟨w.heap.size, k * 8 + 3, none⟩) (by simp only; omega) _).set (p := ⟨w.heap.size, k * 8 + 4, none⟩) (by simp only; omega) _).set (p := ⟨w.heap.size, k * 8 + 5, none⟩) (by simp only; omega) _).set (p := ⟨w.heap.size, k * 8 + 6, none⟩) (by simp only; omega) _).set (p := ⟨w.heap.size, k * 8 + 7, none⟩) (by simp only; omega) _)
        · simp only [if_neg (fun e' : j = k => e e'.symm)]
          have hl := HLo.out j (by omega)
          exact (((((((((hl).set (p := ⟨w.heap.size, k * 8, none⟩) (by simp only; omega) _).set (p := ⟨w.heap.size, k * 8 + 1, none⟩) (by simp only; omega) _).set (p := ⟨w.heap.size, k * 8 + 2, none⟩) (by simp only; omega) _).set (p := ⟨w.heap.size, k * 8 + 3, none⟩) (by simp only; omega) _).set (p := ⟨w.heap.size, k * 8 + 4, none⟩) (by simp only; omega) _).set (p := ⟨w.heap.size, k * 8 + 5, none⟩) (by simp only; omega) _).set (p := ⟨w.heap.size, k * 8 + 6, none⟩) (by simp only; omega) _).set (p := ⟨w.heap.size, k * 8 + 7, none⟩) (by simp only; omega) _)
      case measure => simp [intOf]; omega
    · obtain rfl : k = len := by omega
      clear hT hB
      go_wp2_with fail
      go_ret
      exact ⟨⟨us, rfl, HT.out, HL.out⟩, HB.out⟩
end Go.Proofs.Ytkbdnhchlkafnaa.V
namespace Go.Proofs.Ytkbdnhchlkafnaa.V
open Go.RowKit
set_option linter.unusedVariables false

/-- The first cells of a block hold numbers. -/
def RowN (W : World) (g c : Nat) (xs : List Int) : Prop := ∃ cur : Array Value, W.heap[g]? = some (.cells cur 2 (0, 0)) ∧ cur.size = c ∧ xs.length ≤ c ∧ ∀ j, j < xs.length → cur[j]? = some (.int .i64 (xs[j]?.getD 0))
theorem RowN.lt {W : World} {g c : Nat} {xs : List Int} (h : RowN W g c xs) : g < W.heap.size := by obtain ⟨cur, h, _⟩ := h; exact (Array.getElem?_eq_some_iff.1 h).1
theorem RowN.of_block {W W' : World} {g c : Nat} {xs : List Int} (h : RowN W g c xs) (e : W'.heap[g]? = W.heap[g]?) : RowN W' g c xs := by obtain ⟨cur, h1, h2⟩ := h; exact ⟨cur, e.trans h1, h2⟩
theorem RowN.below {W W' : World} {g c : Nat} {xs : List Int} (h : RowN W g c xs) (hb : Below W.heap.size W W') : RowN W' g c xs := h.of_block (hb.block _ h.lt)
theorem RowN.cell {W : World} {g c : Nat} {xs : List Int} (h : RowN W g c xs) {j : Nat} (hj : j < xs.length) : W.cell? ⟨g, j, none⟩ = some (.int .i64 (xs[j]?.getD 0)) := by
  obtain ⟨cur, h1, h2, h3, h4⟩ := h
  simp only [World.cell?, h1]
  exact h4 j hj
theorem RowN.frozen {W : World} {g c : Nat} {xs : List Int} (h : RowN W g c xs) (j : Nat) : W.frozen? ⟨g, j, none⟩ = false := by
  obtain ⟨cur, h1, _⟩ := h
  simp [World.frozen?, h1]
theorem RowN.set {W : World} {g c : Nat} {xs : List Int} (h : RowN W g c xs) (j : Nat) (v : Int) (hj : j < xs.length) : RowN (W.setCell ⟨g, j, none⟩ (.int .i64 v)) g c (xs.set j v) := by
  obtain ⟨cur, h1, h2, h3, h4⟩ := h
  refine ⟨cur.setIfInBounds j (.int .i64 v), ?_, by simp [h2], by simpa using h3, fun i hi => ?_⟩
  · simp [World.setCell, Array.getElem?_modify, h1]
  · have hi' : i < xs.length := by simpa using hi
    rw [Array.getElem?_setIfInBounds, List.getElem?_set]
    by_cases e : j = i
    · subst e
      rw [if_pos rfl, if_pos (by omega), if_pos rfl, if_pos hj]
      rfl
    · rw [if_neg e, if_neg e]
      exact h4 i hi'
theorem RowN.setO {W : World} {g c : Nat} {xs : List Int} (h : RowN W g c xs) {p : Addr} (hne : g ≠ p.block) (v : Value) : RowN (W.setCell p v) g c xs := h.of_block (Below.heap_setCell _ p _ g hne)
theorem RowN.ints {W : World} {g c : Nat} {xs : List Int} (h : RowN W g c xs) (hb : ∀ j : Nat, B64 (xs[j]?.getD 0)) (hm : xs.length ≤ 9223372036854775807) : Ints W (some ⟨g, 0, none⟩) xs.length xs := by
  refine ⟨rfl, hm, fun x hx => ?_, ?_⟩
  · obtain ⟨j, hj, e⟩ := List.getElem_of_mem hx
    have := hb j
    rw [List.getElem?_eq_getElem hj, e] at this
    exact this
  · by_cases h0 : xs.length = 0
    · exact .inl h0
    · exact .inr ⟨g, 0, rfl, fun j hj => by rw [Nat.zero_add]; exact h.cell hj⟩

/-- Memory: the list of arrays at a, each in a block of its own from N on. -/
structure Mems (W : World) (N : Nat) (a : Option Addr) (G C : Nat → Nat) (M : Mem) : Prop where
  head : M.length = 0 ∨ ∃ b off, a = some ⟨b, off, none⟩ ∧ ∀ k, k < M.length → W.cell? ⟨b, off + k, none⟩ = some (.slice (some ⟨G k, 0, none⟩) (arrM M k).length (C k)) ∧ G k ≠ b
  rows : ∀ k, k < M.length → RowN W (G k) (C k) (arrM M k)
  apart : ∀ i k, i < M.length → k < M.length → G i = G k → i = k
  lo : ∀ k, k < M.length → N ≤ G k
  bd : MemB M
  small : ∀ k, (arrM M k).length ≤ 65536
theorem Mems.of_blocks {W W' : World} {N : Nat} {a : Option Addr} {G C : Nat → Nat} {M : Mem} (h : Mems W N a G C M) (hb : ∀ (b : Nat) c t f, W.heap[b]? = some (Obj.cells c t f) → W'.heap[b]? = W.heap[b]?) : Mems W' N a G C M := by
  refine ⟨?_, fun k hk => ?_, h.apart, h.lo, h.bd, h.small⟩
  · rcases h.head with h0 | ⟨b, off, e, h1⟩
    · exact .inl h0
    · refine .inr ⟨b, off, e, fun k hk => ⟨?_, (h1 k hk).2⟩⟩
      have hc := (h1 k hk).1
      obtain ⟨o, ho, hcl⟩ := cells_of_cell hc
      refine (World.cell?_of_block (w := W) ?_).trans hc
      cases o with
      | cells c t f => exact hb b c t f ho
      | _ => cases hcl
  · obtain ⟨cur, h1, h2⟩ := h.rows k hk
    exact ⟨cur, (hb _ _ _ _ h1).trans h1, h2⟩
theorem Mems.below {W W' : World} {N : Nat} {a : Option Addr} {G C : Nat → Nat} {M : Mem} (h : Mems W N a G C M) (hb : Below W.heap.size W W') : Mems W' N a G C M :=
  h.of_blocks fun b c t f e => hb.block b (Array.getElem?_eq_some_iff.1 e).1
theorem Mems.at {W : World} {N : Nat} {a : Option Addr} {G C : Nat → Nat} {M : Mem} (h : Mems W N a G C M) {k : Nat} (hk : k < M.length) : ∃ b off, a = some ⟨b, off, none⟩ ∧ W.cell? ⟨b, off + k, none⟩ = some (.slice (some ⟨G k, 0, none⟩) (arrM M k).length (C k)) ∧ G k ≠ b := by
  rcases h.head with h0 | ⟨b, off, e, h1⟩
  · omega
  · exact ⟨b, off, e, h1 k hk⟩
theorem Mems.put {W : World} {N : Nat} {a : Option Addr} {G C : Nat → Nat} {M : Mem} (h : Mems W N a G C M) {k j : Nat} (hk : k < M.length) (hj : j < (arrM M k).length) {v : Int} (hv : B64 v) : Mems (W.setCell ⟨G k, j, none⟩ (.int .i64 v)) N a G C (putM M k j v) := by
  refine ⟨?_, fun i hi => ?_, fun i i' h1 h2 => ?_, fun i hi => ?_, putM_bd h.bd hv k j, fun i => by rw [arrM_put_len]; exact h.small i⟩
  · rw [putM_len]
    rcases h.head with h0 | ⟨b, off, e, h1⟩
    · exact .inl h0
    · refine .inr ⟨b, off, e, fun i hi => ⟨?_, (h1 i hi).2⟩⟩
      rw [arrM_put_len]
      exact (World.cell?_of_block (w := W) (Below.heap_setCell _ ⟨G k, j, none⟩ _ b (Ne.symm (h1 k hk).2))).trans (h1 i hi).1
  · rw [putM_len] at hi
    rw [arrM_put]
    by_cases e : i = k
    · subst e
      rw [if_pos ⟨rfl, hk⟩]
      exact (h.rows i hi).set j v hj
    · rw [if_neg (fun q => e q.1)]
      exact (h.rows i hi).setO (p := ⟨G k, j, none⟩) (fun q => e (h.apart i k hi hk q)) _
  · rw [putM_len] at h1 h2
    exact h.apart i i' h1 h2
  · rw [putM_len] at hi
    exact h.lo i hi

/-- What a step of a statement changes: at the most one block of memory. -/
def Chg (G : Nat → Nat) (n : Nat) (W W' : World) : Prop := ∃ row : Option Nat, W.grownBy W' row ∧ ∀ r, row = some r → ∃ k, k < n ∧ r = G k
theorem Chg.of_below {G : Nat → Nat} {n : Nat} {W W' : World} (h : Below W.heap.size W W') : Chg G n W W' := ⟨none, ⟨h.os, h.tape, h.output, h.size, fun k hk _ => h.block k hk⟩, fun r e => by cases e⟩
theorem Chg.size {G : Nat → Nat} {n : Nat} {W W' : World} (h : Chg G n W W') : W.heap.size ≤ W'.heap.size := by obtain ⟨row, h, _⟩ := h; exact h.size
theorem Chg.block {G : Nat → Nat} {n : Nat} {W W' : World} (h : Chg G n W W') {b : Nat} (hb : b < W.heap.size) (hn : ∀ k, k < n → b ≠ G k) : W'.heap[b]? = W.heap[b]? := by
  obtain ⟨row, h1, h2⟩ := h
  refine h1.block b hb (fun e => ?_)
  obtain ⟨k, hk, e2⟩ := h2 b e.symm
  exact hn k hk e2
theorem Chg.below {G : Nat → Nat} {n N : Nat} {w W W' : World} (h : Chg G n W W') (hN : ∀ k, k < n → N ≤ G k) (hB : Below N w W) (hs : N ≤ W.heap.size) : Below N w W' := by
  obtain ⟨row, h1, h2⟩ := h
  exact hB.grown h1 hs (fun j e => by obtain ⟨k, hk, e2⟩ := h2 j e; rw [e2]; exact hN k hk)
theorem Chg.set {G : Nat → Nat} {n : Nat} {W W' : World} (h : Below W.heap.size W W') {k : Nat} (hk : k < n) (j : Nat) (v : Value) : Chg G n W (W'.setCell ⟨G k, j, none⟩ v) := by
  refine ⟨some (G k), ⟨h.os, h.tape, h.output, by simpa using h.size, fun b hb hn => ?_⟩, fun r e => by cases e; exact ⟨k, hk, rfl⟩⟩
  exact (Below.heap_setCell _ ⟨G k, j, none⟩ _ b (fun e => hn (by simp only at e; rw [e]))).trans (h.block b hb)

/-- The arrays that are handed in. -/
def MemA (w : World) (a : Option Addr) (len : Nat) (L : Mem) : Prop := L.length = len ∧ len ≤ 9223372036854775807 ∧ (len = 0 ∨ ∃ b off, a = some ⟨b, off, none⟩ ∧ ∀ i, i < len → ∃ x l c, w.cell? ⟨b, off + i, none⟩ = some (.slice x l c) ∧ Lst w x l c (arrM L i))
theorem MemA.below {w w' : World} {a : Option Addr} {len : Nat} {L : Mem} (h : MemA w a len L) (hb : Below w.heap.size w w') : MemA w' a len L := by
  obtain ⟨h1, h2, h3⟩ := h
  refine ⟨h1, h2, ?_⟩
  rcases h3 with h3 | ⟨b, off, e, h⟩
  · exact .inl h3
  · refine .inr ⟨b, off, e, fun i hi => ?_⟩
    obtain ⟨x, l, c, k1, k2⟩ := h i hi
    exact ⟨x, l, c, (hb.cell (p := ⟨b, off + i, none⟩) (lt_of_cell k1)).trans k1, k2.below hb⟩
theorem MemA.at {w : World} {a : Option Addr} {len : Nat} {L : Mem} (h : MemA w a len L) (h0 : 0 < len) : ∃ b off, a = some ⟨b, off, none⟩ ∧ ∀ i, i < len → ∃ x l c, w.cell? ⟨b, off + i, none⟩ = some (.slice x l c) ∧ Lst w x l c (arrM L i) := by
  rcases h.2.2 with h3 | h3
  · omega
  · exact h3
theorem MemA.bd {w : World} {a : Option Addr} {len : Nat} {L : Mem} (h : MemA w a len L) : MemB L := by
  intro k j
  by_cases hk : k < len
  · obtain ⟨b, off, _, h1⟩ := h.at (by omega)
    obtain ⟨x, l, c, _, h2⟩ := h1 k hk
    by_cases hj : j < (arrM L k).length
    · exact h2.1.2.2.1 _ (mem_getD _ j hj)
    · rw [List.getElem?_eq_none (by omega)]; unfold B64; simp
  · have e : arrM L k = [] := by
      unfold arrM
      rw [List.getElem?_eq_none (by have := h.1; omega)]; rfl
    rw [e]; unfold B64; simp
/-- Does memory fit? -/
def fitsE (zs : List Int) (L : Mem) : Int := if L.length ≠ zs.length then 2 else if ((List.range L.length).any fun k => decide (((arrM L k).length : Int) ≠ zs[k]?.getD 0)) = true then 6 else 0
end Go.Proofs.Ytkbdnhchlkafnaa.V
namespace Go.Proofs.Ytkbdnhchlkafnaa.V
open Go.RowKit
set_option linter.unusedVariables false

theorem fits_len {zs : List Int} {L : Mem} (h : L.length ≠ zs.length) : fitsE zs L = 2 := by unfold fitsE; rw [if_pos h]
theorem fits_here {zs : List Int} {L : Mem} (h : L.length = zs.length) {k : Nat} (hk : k < L.length) (hn : ((arrM L k).length : Int) ≠ zs[k]?.getD 0) : fitsE zs L = 6 := by
  unfold fitsE
  rw [if_neg (by simpa using h), if_pos]
  rw [List.any_eq_true]
  exact ⟨k, by simpa using hk, by simpa using hn⟩
theorem fits_all {zs : List Int} {L : Mem} (h : L.length = zs.length) (ha : ∀ k, k < L.length → ((arrM L k).length : Int) = zs[k]?.getD 0) : fitsE zs L = 0 := by
  unfold fitsE
  rw [if_neg (by simpa using h), if_neg]
  intro hh
  rw [List.any_eq_true] at hh
  obtain ⟨k, hk, hn⟩ := hh
  simp at hk hn
  exact hn (ha k hk)
theorem fits_ok {zs : List Int} {L : Mem} (h : fitsE zs L = 0) : L.length = zs.length ∧ ∀ k, k < L.length → ((arrM L k).length : Int) = zs[k]?.getD 0 := by
  by_cases h1 : L.length = zs.length
  · refine ⟨h1, fun k hk => ?_⟩
    by_cases h2 : ((arrM L k).length : Int) = zs[k]?.getD 0
    · exact h2
    · rw [fits_here h1 hk h2] at h; omega
  · rw [fits_len h1] at h; omega
theorem fits_small {zs : List Int} {L : Mem} (h : fitsE zs L = 0) (hz : ∀ z ∈ zs, 0 ≤ z ∧ z ≤ 65536) (k : Nat) : (arrM L k).length ≤ 65536 := by
  obtain ⟨h1, h2⟩ := fits_ok h
  by_cases hk : k < L.length
  · have h3 := h2 k hk
    have h4 := hz _ (mem_getD zs k (by omega))
    omega
  · unfold arrM
    rw [List.getElem?_eq_none (by omega)]
    simp
/-- What is told of a nest and its memory. -/
def runE (zs : List Int) (ss : List Stm) (L : Mem) : Int := if nestE zs ss ≠ 0 then nestE zs ss else fitsE zs L
theorem foldl_take {α β : Type} (f : β → α → β) (b : β) (l : List α) (k : Nat) (h : k < l.length) (d : α) : (l.take (k + 1)).foldl f b = f ((l.take k).foldl f b) (l[k]?.getD d) := by
  rw [List.take_succ_eq_append_getElem h, List.foldl_append]
  simp [h]
theorem runM_take (ss : List Stm) (L : Mem) (k : Nat) (h : k < ss.length) : runM (ss.take (k + 1)) L = stmM (runM (ss.take k) L) (ss[k]?.getD stmD) := foldl_take stmM L ss k h stmD
theorem stmM_len (M : Mem) (s : Stm) : (stmM M s).length = M.length := by
  unfold stmM
  generalize pts s.box s.rows = P
  induction P generalizing M with
  | nil => rfl
  | cons x P ih => rw [List.foldl_cons, ih, doM_len]
theorem runM_len (ss : List Stm) (M : Mem) : (runM ss M).length = M.length := by
  unfold runM
  induction ss generalizing M with
  | nil => rfl
  | cons s ss ih => rw [List.foldl_cons, ih, stmM_len]
end Go.Proofs.Ytkbdnhchlkafnaa.V
namespace Go.Proofs.Ytkbdnhchlkafnaa.V
open Go.RowKit
set_option linter.unusedVariables false

theorem ne_pts_len {box : List Int} {rs : List (List Int × Int)} (ho : PtOk box rs) : (pts box rs).length ≤ 4096 := by
  unfold pts upto
  have h1 := List.length_filter_le (aboveB rs) ((List.range (prod box).toNat).map fun p : Nat => indexV box p)
  have h2 : ((List.range (prod box).toNat).map fun p : Nat => indexV box p).length = (prod box).toNat := by simp
  have := ho.size.1
  omega
/-- The spots of a statement; of the first k statements. -/
def spS (i : Nat) (s : Stm) : List (Nat × List Int) := (pts s.box s.rows).map fun x => (i, x)
def spK (ss : List Stm) (k : Nat) : List (Nat × List Int) := (List.range k).flatMap fun i => spS i (ss[i]?.getD stmD)
theorem spK_succ (ss : List Stm) (k : Nat) : spK ss (k + 1) = spK ss k ++ spS k (ss[k]?.getD stmD) := by
  unfold spK; rw [List.range_succ, List.flatMap_append]; simp
theorem spK_len (ss : List Stm) (h : ∀ s ∈ ss, (pts s.box s.rows).length ≤ 4096) : ∀ k, k ≤ ss.length → (spK ss k).length ≤ 4096 * k
  | 0, _ => by simp [spK]
  | k + 1, hk => by
    have ih := spK_len ss h k (by omega)
    rw [spK_succ, List.length_append]
    have h1 : (spS k (ss[k]?.getD stmD)).length ≤ 4096 := by
      unfold spS
      rw [List.length_map]
      exact h _ (mem_getS ss k (by omega))
    omega
def spD : Nat × List Int := (0, [])
theorem info_spot : (Try.prog.info? 29).map (fun i => (i.zero, i.size, i.bytes)) = some (some (.agg #[.int .i64 0, .slice none 0 0]), 2, 32) := by kernel_rfl
/-- The values of a row of spots. -/
def VS (w : World) (vs : List Value) (S : List (Nat × List Int)) : Prop := vs.length = S.length * 2 ∧ ∀ i, i < S.length → ∃ a l c, vs[i * 2]? = some (.int .i64 ((S[i]?.getD spD).1 : Int)) ∧ vs[i * 2 + 1]? = some (.slice a l c) ∧ Lst w a l c (S[i]?.getD spD).2 ∧ FlushT w a
theorem VS.below {w w' : World} {vs : List Value} {S : List (Nat × List Int)} (h : VS w vs S) (hb : Below w.heap.size w w') : VS w' vs S := ⟨h.1, fun i hi => by obtain ⟨a, l, c, h1, h2, h3, h4⟩ := h.2 i hi; exact ⟨a, l, c, h1, h2, h3.below hb, h4.below hb⟩⟩
def OutS (w : World) (B : Nat) (v : Value) (S : List (Nat × List Int)) : Prop := ∃ vs, w.ownsRow B 29 2 v S.length vs ∧ VS w vs S
theorem OutS.nil (w : World) (B : Nat) : OutS w B (.slice none 0 0) [] := ⟨[], World.ownsRow_nil _ _ _ _, ⟨rfl, fun i hi => by simp at hi⟩⟩
theorem ownsRow2_below {W W' : World} {B n : Nat} {t : TypeId} {v : Value} {xs : List Value} (h : W.ownsRow B t 2 v n xs) (hb : Below W.heap.size W W') : W'.ownsRow B t 2 v n xs := by
  refine ⟨h.1, ?_⟩
  rcases h.2 with e | ⟨g, cap, cur, e1, e2, e3, e4⟩
  · exact .inl e
  · exact .inr ⟨g, cap, cur, e1, e2, (hb.block g (Array.getElem?_eq_some_iff.1 e3).1).trans e3, e4⟩
theorem OutS.below {w w' : World} {B : Nat} {v : Value} {S : List (Nat × List Int)} (h : OutS w B v S) (hb : Below w.heap.size w w') : OutS w' B v S := by
  obtain ⟨vs, h1, h2⟩ := h
  exact ⟨vs, ownsRow2_below h1 hb, h2.below hb⟩
/-- append(out, spot). -/
theorem append_spot {w : World} {ops : Array Oper} {rest : List Oper} {op : Oper} {a : Act} {Q : Exit → Act → World → Prop} (hgd : op.guard = none) (s x : Operand)
    (ho : op.op = .call { callee := .builtin .append, args := #[s, x], argTypes := #[88, 88] }) (B : Nat)
    (v : Value) (hs : a.eval s = v) (S : List (Nat × List Int)) (i : Nat) (X : Option Addr) (l c : Nat) (xs : List Int) (hout : OutS w B v S) (hX : Lst w X l c xs) (hF : FlushT w X)
    (hx : a.eval x = .slice (some ⟨w.heap.size, 0, none⟩) 1 1) (hbytes : (S.length + 1) * 32 ≤ 140737488355328) (hB : B ≤ w.heap.size)
    (h : ∀ v' w', OutS w' B v' (S ++ [(i, xs)]) → Below B w w' → (∀ (t : TypeId) (b : Nat) cur, t ≠ 29 → w.heap[b]? = some (Obj.cells cur t (0, 0)) → w'.heap[b]? = w.heap[b]?) → wpList Try.prog ops Q rest (a.put op.dst v') w') :
    wpList Try.prog ops Q (op :: rest) a (w.alloc (.cells #[.int .i64 (i : Int), .slice X l c] 29)) := by
  obtain ⟨i0, hi, hz0, hz1, hz2⟩ := info_parts info_spot
  obtain ⟨vs, h1, h2⟩ := hout
  refine wpList_append_own _ hgd s x 88 ho B 29 i0 (.agg #[.int .i64 0, .slice none 0 0]) 2 32 Try.underlying88 hi hz0 hz1 hz2 rfl (by decide) v S.length vs hs (h1.alloc _) ⟨w.heap.size, 0, none⟩ 1 1 [.int .i64 (i : Int), .slice X l c] hx rfl ?_ ?_ (by unfold maxLen; omega) hbytes (by simp; omega) (fun v' w' k1 k2 _ => h v' w' ⟨vs ++ [.int .i64 (i : Int), .slice X l c], ?_, ?_⟩ (((Below.refl B w).alloc hB _).grown k2 (by simp; omega) (fun j e => (h1.lt j e).1)) (fun t b cur ht hb => ints_left (t := 29) (fun e => ht e.symm) h1 k2 b cur hb))
  · intro j u hj
    have hjl : j = 0 ∨ j = 1 := by have := (List.getElem?_eq_some_iff.1 hj).1; simp at this; omega
    rw [Go.WideShapes.add_plain]
    show (w.alloc (.cells #[.int .i64 (i : Int), .slice X l c] 29)).cell? ⟨w.heap.size, 0 + j, none⟩ = _
    unfold World.cell?
    rw [World.alloc_heap_new w (.cells #[.int .i64 (i : Int), .slice X l c] 29)]
    rcases hjl with rfl | rfl <;> simpa using hj
  · intro u hu; simp at hu; rcases hu with rfl | rfl <;> rfl
  · rw [List.length_append]; exact k1
  · have hb := ints_left (t := 29) (t' := 3) (by decide) h1 k2
    refine ⟨by simp [h2.1]; omega, fun j hj => ?_⟩
    by_cases e : j < S.length
    · obtain ⟨a', l', c', g1, g2, g3, g4⟩ := h2.2 j e
      refine ⟨a', l', c', ?_, ?_, ?_, g4.cells hb⟩
      · rw [List.getElem?_append_left (by rw [h2.1]; omega), List.getElem?_append_left e]; exact g1
      · rw [List.getElem?_append_left (by rw [h2.1]; omega)]; exact g2
      · rw [List.getElem?_append_left e]; exact lst_cells g3 g4 hb
    · have e2 : j = S.length := by simp at hj; omega
      subst e2
      refine ⟨X, l, c, ?_, ?_, ?_, hF.cells hb⟩
      · rw [List.getElem?_append_right (by rw [h2.1]; omega), List.getElem?_append_right (Nat.le_refl _), h2.1]; simp
      · rw [List.getElem?_append_right (by rw [h2.1]; omega), h2.1]; simp [show S.length * 2 + 1 - S.length * 2 = 1 by omega]
      · rw [List.getElem?_append_right (Nat.le_refl _)]; simpa using lst_cells hX hF hb
/-- What a caller reads of it. -/
def SP (w : World) (A : Option Addr) (n : Nat) (S : List (Nat × List Int)) : Prop := S.length = n ∧ (n = 0 ∨ ∃ b off, A = some ⟨b, off, none⟩ ∧ (∃ cur, w.heap[b]? = some (Obj.cells cur 29 (0, 0))) ∧ ∀ i, i < n → ∃ a l c, w.cell? ⟨b, off + i * 2, none⟩ = some (.int .i64 ((S[i]?.getD spD).1 : Int)) ∧ w.cell? ⟨b, off + i * 2 + 1, none⟩ = some (.slice a l c) ∧ Lst w a l c (S[i]?.getD spD).2 ∧ FlushT w a)
theorem SP.cells {w w' : World} {A : Option Addr} {n : Nat} {S : List (Nat × List Int)} (h : SP w A n S) (h1 : ∀ (b : Nat) cur, w.heap[b]? = some (Obj.cells cur 3 (0, 0)) → w'.heap[b]? = w.heap[b]?) (h2 : ∀ (b : Nat) cur, w.heap[b]? = some (Obj.cells cur 29 (0, 0)) → w'.heap[b]? = w.heap[b]?) : SP w' A n S := by
  obtain ⟨g1, g2⟩ := h
  refine ⟨g1, ?_⟩
  rcases g2 with g2 | ⟨b, off, e, ⟨cur, ht⟩, h⟩
  · exact .inl g2
  · refine .inr ⟨b, off, e, ⟨cur, (h2 b cur ht).trans ht⟩, fun i hi => ?_⟩
    obtain ⟨a, l, c, k1, k2, k3, k4⟩ := h i hi
    exact ⟨a, l, c, (World.cell?_of_block (w := w) (h2 b cur ht)).trans k1, (World.cell?_of_block (w := w) (h2 b cur ht)).trans k2, lst_cells k3 k4 h1, k4.cells h1⟩
theorem SP.below {w w' : World} {A : Option Addr} {n : Nat} {S : List (Nat × List Int)} (h : SP w A n S) (hb : Below w.heap.size w w') : SP w' A n S :=
  h.cells (fun b cur e => hb.block b (Array.getElem?_eq_some_iff.1 e).1) (fun b cur e => hb.block b (Array.getElem?_eq_some_iff.1 e).1)
theorem SP.at {w : World} {A : Option Addr} {n : Nat} {S : List (Nat × List Int)} (h : SP w A n S) (h0 : 0 < n) : ∃ b off, A = some ⟨b, off, none⟩ ∧ ∀ i, i < n → ∃ a l c, w.cell? ⟨b, off + i * 2, none⟩ = some (.int .i64 ((S[i]?.getD spD).1 : Int)) ∧ w.cell? ⟨b, off + i * 2 + 1, none⟩ = some (.slice a l c) ∧ Lst w a l c (S[i]?.getD spD).2 := by
  rcases h.2 with h2 | ⟨b, off, e, _, h2⟩
  · omega
  · exact ⟨b, off, e, fun i hi => by obtain ⟨a, l, c, k1, k2, k3, _⟩ := h2 i hi; exact ⟨a, l, c, k1, k2, k3⟩⟩
theorem OutS.spc {w : World} {B : Nat} {v : Value} {S : List (Nat × List Int)} (h : OutS w B v S) : ∃ A c, v = .slice A S.length c ∧ S.length ≤ c ∧ SP w A S.length S := by
  obtain ⟨vs, h1, h2⟩ := h
  have h1' := h1
  rcases h1.2 with ⟨e1, e2⟩ | ⟨g, cap, cur, rfl, _, hbk, hcap, _, hsz, ht⟩
  · exact ⟨none, 0, by rw [e1, e2], by omega, rfl, .inl e2⟩
  · refine ⟨_, cap, rfl, hcap, rfl, .inr ⟨g, 0, rfl, ⟨cur, hbk⟩, fun i hi => ?_⟩⟩
    obtain ⟨a, l, c, k1, k2, k3, k4⟩ := h2.2 i hi
    have hc : ∀ j, j < S.length * 2 → cur[j]? = vs[j]? := fun j hj => by
      have := congrArg (fun l => l[j]?) ht
      simp only [List.getElem?_take, if_pos hj] at this
      simpa using this
    refine ⟨a, l, c, ?_, ?_, k3, k4⟩
    · simp only [World.cell?, hbk, Nat.zero_add]
      rw [hc (i * 2) (by omega)]; exact k1
    · simp only [World.cell?, hbk, Nat.zero_add]
      rw [hc (i * 2 + 1) (by omega)]; exact k2
theorem OutS.sp {w : World} {B : Nat} {v : Value} {S : List (Nat × List Int)} (h : OutS w B v S) : ∃ A c, v = .slice A S.length c ∧ SP w A S.length S := by
  obtain ⟨A, c, e, _, h2⟩ := h.spc
  exact ⟨A, c, e, h2⟩
/-- What is done spot by spot. -/
def spM (ss : List Stm) (M : Mem) (sp : Nat × List Int) : Mem := doM (ss[sp.1]?.getD stmD) M sp.2
theorem spM_run (ss : List Stm) (L : Mem) : ∀ k, k ≤ ss.length → (spK ss k).foldl (spM ss) L = runM (ss.take k) L
  | 0, _ => by simp [spK, runM]
  | k + 1, hk => by
    rw [spK_succ, List.foldl_append, spM_run ss L k (by omega), runM_take ss L k (by omega)]
    unfold spS stmM
    rw [List.foldl_map]
    rfl
theorem spM_arr_len (ss : List Stm) (S : List (Nat × List Int)) : ∀ (L : Mem), (∀ i, (arrM (S.foldl (spM ss) L) i).length = (arrM L i).length) ∧ (S.foldl (spM ss) L).length = L.length := by
  induction S with
  | nil => exact fun L => ⟨fun _ => rfl, rfl⟩
  | cons sp S ih =>
    intro L
    rw [List.foldl_cons]
    obtain ⟨h1, h2⟩ := ih (spM ss L sp)
    exact ⟨fun i => by rw [h1 i]; exact doM_arr_len _ _ _ _, by rw [h2]; exact doM_len _ _ _⟩
theorem sp_mem {ss : List Stm} {k : Nat} {sp : Nat × List Int} (h : sp ∈ spK ss k) : sp.1 < k ∧ sp.2 ∈ pts (ss[sp.1]?.getD stmD).box (ss[sp.1]?.getD stmD).rows := by
  unfold spK at h
  obtain ⟨i, hi, h2⟩ := List.mem_flatMap.1 h
  unfold spS at h2
  obtain ⟨x, hx, rfl⟩ := List.mem_map.1 h2
  exact ⟨List.mem_range.1 hi, hx⟩
theorem ne_pts_mem {box : List Int} {rs : List (List Int × Int)} (ho : PtOk box rs) {x : List Int} (h : x ∈ pts box rs) : (∀ y ∈ x, 0 ≤ y ∧ y ≤ 4096) ∧ x.length = box.length := by
  unfold pts upto at h
  obtain ⟨h1, _⟩ := List.mem_filter.1 h
  obtain ⟨p, hp, rfl⟩ := List.mem_map.1 h1
  exact index_bd ho (List.mem_range.1 hp)

set_option maxRecDepth 100000 in
set_option maxHeartbeats 4000000 in
theorem rSpots_cap (vz : Value) (ta : Option Addr) (tl tc : Nat) (ss : List Stm) (w : World) (hs : Stms w ta tl ss) (h256 : tl ≤ 256) (hok : ∀ s ∈ ss, PtOk s.box s.rows) :
    Calls Try.prog 45 #[.agg #[vz, .slice ta tl tc]] w fun e w' => (∃ A c, e = .returned (.slice A (spK ss tl).length c) ∧ (spK ss tl).length ≤ c ∧ SP w' A (spK ss tl).length (spK ss tl)) ∧ Below w.heap.size w w' := by
  have B1 : Below w.heap.size w (w.alloc (.cells #[vz, .slice ta tl tc] 25)) := bl_new _
  have N0 : (w.alloc (.cells #[vz, .slice ta tl tc] 25)).heap[w.heap.size]? = _ := World.alloc_heap_new w _
  have p1 : (w.alloc (.cells #[vz, .slice ta tl tc] 25)).cell? ⟨w.heap.size, 1, none⟩ = some (.slice ta tl tc) := by
    unfold World.cell?; rw [N0]; rfl
  have HS := hide hs
  have HSL := hide hs.1
  have HOK := hide hok
  have HB := hide B1
  have HKL := hide (spK_len ss (fun s h => ne_pts_len (hok s h)))
  clear hs hok B1 N0
  go_enter Try.func45, Try.ntmps45
  go_wp2_with fail
  clear p1
  go_loopw [3, 11] (fun v i wr => ∃ k : Nat, k ≤ tl ∧ i = .int .i64 k ∧ OutS wr w.heap.size v (spK ss k) ∧ Below w.heap.size w wr) (fun _ i _ => tl - (intOf i).toNat)
  case atStart => exact ⟨0, Nat.zero_le _, rfl, by simpa [spK] using OutS.nil _ _, HB.out⟩
  case round =>
    obtain ⟨k, hk, rfl, hout, hB⟩ := hrel
    have HOUT := hide hout
    have HBr := hide hB
    clear hout hB
    by_cases hlt : k < tl
    · have hkl : k < ss.length := by rw [HSL.out]; exact hlt
      obtain ⟨b, off, rfl, hat⟩ := (HS.out.below HBr.out).at (by omega)
      obtain ⟨q, hq, k0, k1, k2, k3, k4, k5, k6, k7⟩ := hat k hlt
      have z1 := lt_of_cell k0
      simp only at z1
      have B3 : Below wr.heap.size wr (wr.alloc (.cells q.cs 75)) := bl_new _
      obtain ⟨y0, y1, y2, y3, y4, y5, y6, y7⟩ := (SW.new q wr).cells
      have hptk := HOK.out _ (mem_getS ss k hkl)
      have HKS := hide (spK_succ ss k)
      have hkb := HKL.out k (by omega)
      obtain ⟨s, hs⟩ : ∃ s, s = ss[k]?.getD stmD := ⟨_, rfl⟩
      rw [← hs] at hq hptk HKS
      have h1 := hq.below B3
      have HALL := hide (rAll_okT q.ba q.bl q.bc s.box q.ra q.rl q.rc s.rows _ h1.box h1.rows hptk)
      have hn4 := ne_pts_len hptk
      have HB3 := hide B3
      obtain ⟨ba, bl, bc, ra, rl, rc, kd, va, ⟨parr, pca, pcl, pcc, pcon⟩, ga, gl, gc⟩ := q
      simp only [SW.cs] at *
      clear hat hq B3 hkl hs h1 hptk
      go_wp2_with fail
      refine HALL.out.mono ?_
      rintro e w2 ⟨⟨A, c, rfl, hLL⟩, hb⟩
      obtain ⟨n, hn⟩ : ∃ n, n = (pts s.box s.rows).length := ⟨_, rfl⟩
      rw [← hn] at hLL hn4
      rw [← hn]
      have HN := hide hn
      have HLL := hide hLL
      have HB2 := hide (bl_on HB3.out hb)
      have HO2 := hide (HOUT.out.below HB2.out)
      have hsz := HBr.out.size
      have hsz2 := HB2.out.size
      clear hb hLL hn k0 k1 k2 k3 k4 k5 k6 k7 y0 y1 y2 y3 y4 y5 y6 y7
      go_wp2_with fail
      go_loopw [3, 20] (fun v i wr2 => ∃ j : Nat, j ≤ n ∧ i = .int .i64 j ∧ OutS wr2 w.heap.size v (spK ss k ++ ((pts s.box s.rows).take j).map (fun x => (k, x))) ∧ Below w.heap.size w wr2 ∧ LLT wr2 A n (pts s.box s.rows)) (fun _ i _ => n - (intOf i).toNat)
      case atStart => exact ⟨0, Nat.zero_le _, rfl, by simpa using HO2.out, bl_on HBr.out HB2.out, HLL.out⟩
      case round =>
        obtain ⟨j, hj, rfl, hout, hB, hL⟩ := hrel
        have HOUT2 := hide hout
        have HBr2 := hide hB
        have HL2 := hide hL
        clear hout hB hL
        by_cases hlt2 : j < n
        · obtain ⟨xb, xo, rfl, hat⟩ := HL2.out.at (by omega)
          obtain ⟨xa, xl, xc, x1, x2, x3⟩ := hat j hlt2
          have z1 := lt_of_cell x1
          simp only at z1
          have hjl : j < (pts s.box s.rows).length := by rw [← HN.out]; exact hlt2
          have HT : Hid (((pts s.box s.rows).take (j + 1)).map (fun x => (k, x)) = ((pts s.box s.rows).take j).map (fun x => (k, x)) ++ [(k, (pts s.box s.rows)[j]?.getD [])]) := by
            rw [Hid, List.take_succ_eq_append_getElem hjl, List.map_append]; simp [hjl]
          have HLen : Hid ((spK ss k ++ ((pts s.box s.rows).take j).map (fun x => (k, x))).length ≤ 2097152) := by
            rw [Hid, List.length_append, List.length_map, List.length_take]
            omega
          obtain ⟨x, hx⟩ : ∃ x, x = (pts s.box s.rows)[j]?.getD [] := ⟨_, rfl⟩
          rw [← hx] at x2 HT
          have HX2 := hide x2
          have HX3 := hide x3
          have hsz3 := HBr2.out.size
          clear hat hx hjl x2 x3
          go_wp2_with (at_builtin; refine append_spot rfl (.tmp 24) (.tmp 28) rfl w.heap.size _ rfl (spK ss k ++ ((pts s.box s.rows).take j).map (fun x => (k, x))) k xa xl xc x HOUT2.out HX2.out HX3.out rfl (by have := HLen.out; omega) hsz3 ?_; intro v4 w4 hout4 hb4 hty4; have HO4 := hide hout4; have HB4 := hide hb4; have HTY4 := hide hty4; clear hout4 hb4 hty4)
          go_roundw
          case rel =>
            refine ⟨j + 1, by omega, by go_num, ?_, HBr2.out.trans HB4.out, ?_⟩
            · rw [HT.out, ← List.append_assoc]; exact HO4.out
            · exact HL2.out.cells (fun b cur h => HTY4.out _ b cur (by decide) h) (fun b cur h => HTY4.out _ b cur (by decide) h)
          case measure => simp [intOf]; omega
        · obtain rfl : n = j := by omega
          have hO := HOUT2.out
          rw [List.take_of_length_le (by rw [← HN.out]; exact Nat.le_refl _)] at hO
          have HO5 := hide hO
          clear hO
          go_wp2_with fail
          go_roundw
          case rel =>
            refine ⟨k + 1, by omega, by go_num, ?_, HBr2.out⟩
            rw [HKS.out]; exact HO5.out
          case measure => simp [intOf]; omega
    · obtain rfl : tl = k := by omega
      obtain ⟨A, c, hv, hc, hS⟩ := HOUT.out.spc
      subst hv
      have HSP := hide hS
      have HCP := hide hc
      clear hS hc
      go_wp2_with fail
      go_ret
      exact ⟨⟨A, c, rfl, HCP.out, HSP.out⟩, HBr.out⟩
theorem rSpots_any (vz : Value) (ta : Option Addr) (tl tc : Nat) (ss : List Stm) (w : World) (hs : Stms w ta tl ss) (h256 : tl ≤ 256) (hok : ∀ s ∈ ss, PtOk s.box s.rows) :
    Calls Try.prog 45 #[.agg #[vz, .slice ta tl tc]] w fun e w' => (∃ A c, e = .returned (.slice A (spK ss tl).length c) ∧ SP w' A (spK ss tl).length (spK ss tl)) ∧ Below w.heap.size w w' :=
  (rSpots_cap vz ta tl tc ss w hs h256 hok).mono (by rintro e w' ⟨⟨A, c, h1, _, h3⟩, h4⟩; exact ⟨⟨A, c, h1, h3⟩, h4⟩)
end Go.Proofs.Ytkbdnhchlkafnaa.V
namespace Go.Proofs.Ytkbdnhchlkafnaa.V
open Go.RowKit
set_option linter.unusedVariables false

theorem size_int64 : (Try.prog.info? 2).map (·.size) = some 1 := by kernel_rfl
theorem info_int64 : (Try.prog.info? 2).map (fun i => (i.zero, i.size, i.bytes)) = some (some (.int .i64 0), 1, 8) := by kernel_rfl
theorem info_arrs : (Try.prog.info? 93).map (fun i => (i.zero, i.size, i.bytes)) = some (some (.slice none 0 0), 1, 24) := by kernel_rfl
set_option maxHeartbeats 1000000 in
theorem fresh64_any (a : Option Addr) (len cap : Nat) (xs : List Int) (w : World) (h : Ints w a len xs) (h6 : len ≤ 65536) :
    Calls Try.prog 61 #[.slice a len cap] w fun e w' => (∃ g : Nat, e = .returned (.slice (some ⟨g, 0, none⟩) len len) ∧ w'.rowIs g 2 len (fun j => .int .i64 (xs[j]?.getD 0)) ∧ w.heap.size ≤ g) ∧ Below w.heap.size w w' := by
  have H := hide h
  have HL := hide h.1
  have hmk := run_make_row' (P := Try.prog) 93 2 (.int .i64 0) 8 Try.underlying93 info_int64 rfl .i64 .i64 len (by omega) (by omega)
  clear h
  obtain ⟨cs, hcs⟩ : ∃ cs : List Value, cs = xs.map (Value.int .i64) := ⟨_, rfl⟩
  have HCS := hide hcs
  have hlen : cs.length = len := by rw [hcs]; simp [HL.out]
  have HLEN := hide hlen
  clear hcs hlen
  go_enter Try.func61, Try.ntmps61
  go_wp2_with (refine wpList_copy_splice rfl (.tmp 7) (.tmp 8) 93 93 rfl 2 Try.underlying93 size_int64 (some ⟨w.heap.size, 0, none⟩) a len len len cap rfl rfl w.heap.size 0 (List.replicate len (.int .i64 0)) 2 ?hg cs ?hn ?hpos ?hfit ?h1 w.heap.size w ?hb (Nat.le_refl _) ?_)
  case hg =>
    have := World.alloc_heap_new w (.cells (madeCells #[.int .i64 0] len) 2)
    rw [this]
    rw [← toList_madeCells_one]
  case hn => rw [HLEN.out]; simp
  case hpos =>
    intro h0
    rw [HLEN.out] at h0
    obtain ⟨b, off, rfl, hb, hc⟩ := H.out.at h0
    refine ⟨_, rfl, fun j v hj => ?_⟩
    have hjl : j < len := by rw [← HLEN.out]; exact (List.getElem?_eq_some_iff.1 hj).1
    have h2 := hc j hjl
    have h3 : v = .int .i64 (xs[j]?.getD 0) := by
      rw [HCS.out] at hj
      simp [HL.out, hjl] at hj ⊢
      exact hj.symm
    rw [h3]
    have hb' : Below w.heap.size w (w.alloc (.cells (madeCells #[.int .i64 0] len) 2)) := (Below.refl _ _).alloc (Nat.le_refl _) _
    rw [Go.WideShapes.add_plain]
    exact (hb'.cell (p := ⟨b, off + j, none⟩) hb).trans h2
  case hfit => simp [HLEN.out]
  case h1 => intro v hv; rw [HCS.out] at hv; simp at hv; obtain ⟨x, _, rfl⟩ := hv; rfl
  case hb => exact (Below.refl _ _).alloc (Nat.le_refl _) _
  intro w' hrow hbel
  have HB := hide hbel
  clear hbel hmk
  go_wp2
  go_ret
  refine ⟨⟨_, rfl, ?_, Nat.le_refl _⟩, HB.out⟩
  refine ⟨_, hrow.out, by simp [splice, HLEN.out], fun i hi => ?_⟩
  have hs : splice (List.replicate len (Value.int .i64 0)) 0 cs = cs := by simp [splice, HLEN.out]
  rw [hs, HCS.out]
  simp [HL.out, hi]


theorem rowN_of {W : World} {g len : Nat} {xs : List Int} (h : W.rowIs g 2 len (fun j => .int .i64 (xs[j]?.getD 0))) (hl : xs.length = len) : RowN W g len xs := by
  obtain ⟨c, h1, h2, h3⟩ := h
  exact ⟨c, h1, h2, by omega, fun j hj => h3 j (by omega)⟩
/-- The first k arrays stand. -/
structure MemP (W : World) (N R len : Nat) (G : Nat → Nat) (L : Mem) (k : Nat) : Prop where
  head : ∃ f, W.rowIs R 93 len f ∧ ∀ j, j < k → f j = .slice (some ⟨G j, 0, none⟩) (arrM L j).length (arrM L j).length
  rows : ∀ j, j < k → RowN W (G j) (arrM L j).length (arrM L j)
  apart : ∀ i j, i < k → j < k → G i = G j → i = j
  lo : ∀ j, j < k → R < G j
theorem MemP.below {W W' : World} {N R len k : Nat} {G : Nat → Nat} {L : Mem} (h : MemP W N R len G L k) (hb : Below W.heap.size W W') : MemP W' N R len G L k := by
  obtain ⟨f, h1, h2⟩ := h.head
  exact ⟨⟨f, h1.of_block (hb.block _ h1.lt), h2⟩, fun j hj => (h.rows j hj).below hb, h.apart, h.lo⟩
theorem MemP.snoc {W : World} {N R len k : Nat} {G : Nat → Nat} {L : Mem} (h : MemP W N R len G L k) (g : Nat) (hg : RowN W g (arrM L k).length (arrM L k)) (hn : ∀ j, j < k → G j < g) (hR : R < g) : MemP (W.setCell ⟨R, k, none⟩ (.slice (some ⟨g, 0, none⟩) (arrM L k).length (arrM L k).length)) N R len (fun j => if j = k then g else G j) L (k + 1) := by
  obtain ⟨f, h1, h2⟩ := h.head
  refine ⟨⟨_, h1.set k _, fun j hj => ?_⟩, fun j hj => ?_, fun i j hi hj => ?_, fun j hj => ?_⟩
  · by_cases e : j = k
    · subst e; simp
    · simp only [if_neg e]; exact h2 j (by omega)
  · by_cases e : j = k
    · subst e; simp only [if_true]; exact hg.setO (p := ⟨R, j, none⟩) (by simp only; omega) _
    · simp only [if_neg e]; exact (h.rows j (by omega)).setO (p := ⟨R, k, none⟩) (by have := h.lo j (by omega); simp only; omega) _
  · by_cases e1 : i = k
    · by_cases e2 : j = k
      · omega
      · rw [if_pos e1, if_neg e2]
        intro e
        have := hn j (by omega)
        omega
    · by_cases e2 : j = k
      · rw [if_neg e1, if_pos e2]
        intro e
        have := hn i (by omega)
        omega
      · rw [if_neg e1, if_neg e2]
        exact h.apart i j (by omega) (by omega)
  · split
    · exact hR
    · exact h.lo j (by omega)
theorem MemP.mems {W : World} {N R : Nat} {G : Nat → Nat} {L : Mem} (h : MemP W N R L.length G L L.length) (hN : N ≤ R) (hb : MemB L) (hs : ∀ k, (arrM L k).length ≤ 65536) : Mems W N (some ⟨R, 0, none⟩) G (fun k => (arrM L k).length) L := by
  obtain ⟨f, h1, h2⟩ := h.head
  refine ⟨.inr ⟨R, 0, rfl, fun k hk => ⟨?_, by have := h.lo k hk; omega⟩⟩, h.rows, h.apart, fun k hk => by have := h.lo k hk; omega, hb, hs⟩
  rw [Nat.zero_add, h1.cell hk, h2 k hk]

set_option maxHeartbeats 4000000 in
theorem eachArr_any (a : Option Addr) (len cap : Nat) (L : Mem) (w : World) (h : MemA w a len L) (hb24 : 24 * len ≤ 281474976710656) (hs : ∀ k, (arrM L k).length ≤ 65536) :
    Calls Try.prog 60 #[.slice a len cap, .func (.func 61) #[] #[]] w fun e w' => (∃ (R : Nat) (G : Nat → Nat), e = .returned (.slice (some ⟨R, 0, none⟩) len len) ∧ w.heap.size ≤ R ∧ Mems w' w.heap.size (some ⟨R, 0, none⟩) G (fun k => (arrM L k).length) L ∧ ∀ k, k < len → R < G k) ∧ Below w.heap.size w w' := by
  have HA := hide h
  have HL := hide h.1
  have HBD := hide h.bd
  have HS := hide hs
  have hmk := run_make_row' (P := Try.prog) 38 93 (.slice none 0 0) 24 Try.underlying38 info_arrs rfl .i64 .i64 len hb24 (by omega)
  have hm := h.2.1
  have HROW : Hid (MemP (w.alloc (.cells (madeCells #[.slice none 0 0] len) 93)) w.heap.size w.heap.size len (fun _ => 0) L 0) := ⟨⟨fun _ => .slice none 0 0, ⟨_, World.alloc_heap_new _ _, size_madeCells _ _, fun i hi => by simp [madeCells, hi, Nat.mod_one]⟩, fun j hj => by omega⟩, fun j hj => by omega, fun i j hi => by omega, fun j hj => by omega⟩
  have HB0 : Hid (Below w.heap.size w (w.alloc (.cells (madeCells #[.slice none 0 0] len) 93))) := bl_new _
  clear h hs
  go_enter Try.func60, Try.ntmps60
  go_wp2_with fail
  clear hmk
  go_loopw [13] (fun i wr => ∃ k : Nat, k ≤ len ∧ i = .int .i64 k ∧ (∃ G, MemP wr w.heap.size w.heap.size len G L k) ∧ Below w.heap.size w wr) (fun i _ => len - (intOf i).toNat)
  case atStart => exact ⟨0, Nat.zero_le _, rfl, ⟨_, HROW.out⟩, HB0.out⟩
  case round =>
    obtain ⟨k, hk, rfl, ⟨G, hT⟩, hB⟩ := hrel
    have HT := hide hT
    have HB := hide hB
    clear HROW HB0 hT hB
    by_cases hlt : k < len
    · obtain ⟨b, off, rfl, hat⟩ := (HA.out.below HB.out).at (by omega)
      obtain ⟨x, l, c, c1, c2⟩ := hat k hlt
      have z1 := lt_of_cell c1
      simp only at z1
      have hl2 : (arrM L k).length = l := c2.1.1
      have HLL := hide hl2
      have HC := hide (fresh64_any x l c (arrM L k) wr c2.1 (by rw [← hl2]; exact HS.out k))
      clear hat c2 hl2
      go_wp2_with fail
      refine HC.out.mono ?_
      rintro e w2 ⟨⟨g, rfl, hr2, hg2⟩, hb2⟩
      have T2 := HT.out.below hb2
      obtain ⟨f, r1, r2⟩ := T2.head
      have d1 := r1.cell hlt
      have d3 := r1.frozen k
      have z3 := r1.lt
      have hsz := HB.out.size
      obtain ⟨f0, r0, _⟩ := HT.out.head
      have hR0 := r0.lt
      have HT2 := hide (T2.snoc g (rowN_of (by rw [HLL.out]; exact hr2) rfl) (fun j hj => by have := (HT.out.rows j hj).lt; omega) (by omega))
      rw [HLL.out] at HT2
      have HBb := hide (bl_on HB.out hb2)
      clear hb2 hr2 r1 r2 T2 r0
      go_wp2_with fail
      go_roundw
      case rel => exact ⟨k + 1, by omega, by go_num, ⟨_, HT2.out⟩, HBb.out.setCell (p := ⟨w.heap.size, k, none⟩) (Nat.le_refl _) _⟩
      case measure => simp [intOf]; omega
    · obtain rfl : len = k := by omega
      go_wp2_with fail
      go_ret
      have T := HT.out
      have hLn := HL.out
      subst hLn
      exact ⟨⟨w.heap.size, G, rfl, Nat.le_refl _, T.mems (Nat.le_refl _) HBD.out HS.out, T.lo⟩, HB.out⟩
end Go.Proofs.Ytkbdnhchlkafnaa.V
namespace Go.Proofs.Ytkbdnhchlkafnaa.V
open Go.RowKit
set_option linter.unusedVariables false

theorem Mems.memA {W : World} {N : Nat} {a : Option Addr} {G C : Nat → Nat} {M : Mem} {len : Nat} (h : Mems W N a G C M) (hl : M.length = len) (hm : len ≤ 9223372036854775807) : MemA W a len M := by
  subst hl
  refine ⟨rfl, hm, ?_⟩
  rcases h.head with h0 | ⟨b, off, e, h1⟩
  · exact .inl h0
  · refine .inr ⟨b, off, e, fun k hk => ⟨_, _, _, (h1 k hk).1, (h.rows k hk).ints (h.bd k) (by have := h.small k; omega), ?_, fun e => by cases e⟩⟩
    obtain ⟨cur, _, _, h3, _⟩ := h.rows k hk
    exact h3

set_option maxRecDepth 100000 in
set_option maxHeartbeats 4000000 in
theorem sameMem_any (a : Option Addr) (cap : Nat) (a' : Option Addr) (cap' : Nat) (len : Nat) (M : Mem) (w : World) (h : MemA w a len M) (h' : MemA w a' len M) :
    Calls Try.prog 18 #[.slice a len cap, .slice a' len cap'] w fun e w' => e = .returned (.bool true) ∧ ∃ n, w' = w.drewN n := by
  have hm := h.2.1
  have H := hide h
  have H' := hide h'
  have q0 : ((len : Int) != (len : Int)) = false := by simp
  clear h h'
  go_enter Try.func18, Try.ntmps18
  go_wp2_with fail
  go_loopw [14] (fun i wr => ∃ k : Nat, k ≤ len ∧ i = .int .i64 k ∧ ∃ n, wr = w.drewN n) (fun i _ => len - (intOf i).toNat)
  case atStart => exact ⟨0, Nat.zero_le _, rfl, 0, rfl⟩
  case round =>
    obtain ⟨k, hk, rfl, nn, rfl⟩ := hrel
    by_cases hlt : k < len
    · obtain ⟨b, off, rfl, hat⟩ := H.out.at (by omega)
      obtain ⟨x, l, c, c1, c2⟩ := hat k hlt
      obtain ⟨b', off', rfl, hat'⟩ := H'.out.at (by omega)
      obtain ⟨x', l', c', c1', c2'⟩ := hat' k hlt
      obtain rfl : l = l' := by have := c2.1.1; have := c2'.1.1; omega
      have z1 := lt_of_cell c1
      have z1' := lt_of_cell c1'
      simp only at z1 z1'
      have hlm := c2.1.2.1
      have q1 : ((l : Int) != (l : Int)) = false := by simp
      have HX := hide c2.1
      have HX' := hide c2'.1
      have HC1 := hide c1
      have HC1' := hide c1'
      clear hat hat' c2 c2'
      go_wp2_with fail
      go_quiet (fail)
      go_wp2_with fail
      go_loopw [33] (fun i wr => ∃ j : Nat, j ≤ l ∧ i = .int .i64 j ∧ ∃ n, wr = w.drewN n) (fun i _ => l - (intOf i).toNat)
      case atStart => exact ⟨0, Nat.zero_le _, rfl, _, rfl⟩
      case round =>
        obtain ⟨j, hj, rfl, n2, rfl⟩ := hrel
        by_cases hlt2 : j < l
        · obtain ⟨y, yo, rfl, hy, hyc⟩ := HX.out.at (by omega)
          obtain ⟨y', yo', rfl, hy', hyc'⟩ := HX'.out.at (by omega)
          have d1 := hyc j hlt2
          have d1' := hyc' j hlt2
          obtain ⟨V, hV⟩ : ∃ V, V = (arrM M k)[j]?.getD 0 := ⟨_, rfl⟩
          rw [← hV] at d1 d1'
          have q2 : (V != V) = false := by simp
          clear hyc hyc' hV
          go_wp2_with fail
          go_quiet (fail)
          go_wp2_with fail
          go_roundw
          case rel => exact ⟨j + 1, by omega, by go_num, _, rfl⟩
          case measure => simp [intOf]; omega
        · go_wp2_with fail
          go_roundw
          case rel => exact ⟨k + 1, by omega, by go_num, _, rfl⟩
          case measure => simp [intOf]; omega
    · go_wp2_with fail
      go_ret
      exact ⟨rfl, _, rfl⟩
end Go.Proofs.Ytkbdnhchlkafnaa.V
