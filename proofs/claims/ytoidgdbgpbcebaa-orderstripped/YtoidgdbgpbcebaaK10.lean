/-
  Lists as values; append of a list to one of the call's own. Nests in memory. What lies in blocks that a call has made: it stays, whatever is done to elder blocks. Contracts: list.Each of rows, of accesses, of statements, over whatever function. Lists of lists of numbers: one that the call makes, one list behind the other.
-/
import Derived.Test.YtoidgdbgpbcebaaK9
import Derived.Laws.AppendOwnNone
import Derived.Test.YtoidgdbgpbcebaaK8
import Derived.Test.YtoidgdbgpbcebaaK7
namespace Go.Proofs.Ytoidgdbgpbcebaa.V
open Go.RowKit

/-- A list as a value. -/
def Lst (w : World) (X : Option Addr) (n c : Nat) (xs : List Int) : Prop := Ints w X n xs ∧ n ≤ c ∧ (X = none → c = 0)
theorem Lst.below {w w' : World} {X : Option Addr} {n c : Nat} {xs : List Int} (h : Lst w X n c xs) (hb : Below w.heap.size w w') : Lst w' X n c xs := ⟨h.1.below hb, h.2⟩
/-- append(out, list...), out of the call's own. -/
theorem append_list {w : World} {ops : Array Oper} {rest : List Oper} {o : Oper} {a : Act} {Q : Exit → Act → World → Prop} (hgd : o.guard = none) (s x : Operand)
    (ho : o.op = .call { callee := .builtin .append, args := #[s, x], argTypes := #[22, 22] }) (base : Nat)
    (v : Value) (n : Nat) (xs : List Value) (hs : a.eval s = v) (hown : w.ownsRow base 3 1 v n xs)
    (X : Option Addr) (m c : Nat) (ys : List Int) (hx : a.eval x = .slice X m c) (hl : Lst w X m c ys) (hbytes : (n + m) * 8 ≤ 140737488355328) (hbase : base ≤ w.heap.size)
    (h : ∀ v' w', w'.ownsRow base 3 1 v' (n + m) (xs ++ ys.map (Value.int .i64)) → w.grownBy w' v.ownBlock → wpList Try.prog ops Q rest (a.put o.dst v') w') : wpList Try.prog ops Q (o :: rest) a w := by
  obtain ⟨i0, hi, hz0, hz1, hz2⟩ := info_parts info_int
  obtain ⟨hI, hmc, hnc⟩ := hl
  cases X with
  | none =>
    have hm0 : m = 0 := by
      rcases hI.2.2.2 with e | ⟨b, off, e, _⟩
      · exact e
      · cases e
    obtain rfl := hm0
    obtain rfl := hnc rfl
    have hys : ys = [] := by rw [← List.length_eq_zero_iff]; exact hI.1
    subst hys
    refine wpList_append_own_none hgd s x 22 ho base 3 i0 1 Try.underlying22 hi v n xs hs hown hx ?_
    exact h v w (by simpa using hown) (World.grownBy.refl w _)
  | some ad =>
    refine wpList_append_own w hgd s x 22 ho base 3 i0 (.int .i64 0) 1 8 Try.underlying22 hi hz0 hz1 hz2 rfl (by decide) v n xs hs hown ad m c (ys.map (Value.int .i64)) hx (by simp [hI.1]) ?_ ?_ (by unfold maxLen; omega) hbytes hbase (fun v' w' h1 h2 _ => h v' w' h1 h2)
    · intro j u hj
      have hjl : j < m := by have := (List.getElem?_eq_some_iff.1 hj).1; simpa [hI.1] using this
      obtain ⟨b, off, e, _, hc⟩ := hI.at (by omega)
      cases e
      have h3 : u = .int .i64 (ys[j]?.getD 0) := by
        have : j < ys.length := by rw [hI.1]; exact hjl
        simp [this] at hj ⊢
        exact hj.symm
      rw [h3, Go.WideShapes.add_plain]
      exact hc j hjl
    · intro u hu; simp at hu; obtain ⟨y, _, rfl⟩ := hu; rfl
theorem grown_own {w wr w2 : World} {t : TypeId} {n : Nat} {v : Value} {xs : List Value} (hB : Below w.heap.size w wr) (ho : wr.ownsRow w.heap.size t 1 v n xs) (hg : wr.grownBy w2 v.ownBlock) : Below w.heap.size w w2 :=
  hB.grown hg hB.size (fun j e => (ho.lt j e).1)
theorem lst_one (w : World) (x : Int) (hb : -9223372036854775808 ≤ x ∧ x ≤ 9223372036854775807) (t : TypeId) : Lst (w.alloc (.cells #[.int .i64 x] t)) (some ⟨w.heap.size, 0, none⟩) 1 1 [x] := by
  refine ⟨⟨rfl, by omega, fun y hy => ?_, .inr ⟨_, _, rfl, fun j hj => ?_⟩⟩, Nat.le_refl _, fun e => by cases e⟩
  · have : y = x := by simpa using hy
    rw [this]; exact hb
  · have : j = 0 := by omega
    subst this
    show (w.alloc (.cells #[.int .i64 x] t)).cell? ⟨w.heap.size, 0, none⟩ = _
    unfold World.cell?
    rw [World.alloc_heap_new w (.cells #[.int .i64 x] t)]
    rfl
end Go.Proofs.Ytoidgdbgpbcebaa.V
namespace Go.Proofs.Ytoidgdbgpbcebaa.V
open Go.RowKit
set_option linter.unusedVariables false

/-- An access in memory: three cells. -/
def AccAt (w : World) (b o : Nat) (q : Acc) : Prop := w.cell? ⟨b, o, none⟩ = some (.int .i64 q.1) ∧ RowAt w b (o + 1) q.2 ∧ B64 q.1
theorem AccAt.below {w w' : World} {b o : Nat} {q : Acc} (h : AccAt w b o q) (hb : Below w.heap.size w w') : AccAt w' b o q :=
  ⟨(hb.cell (p := ⟨b, o, none⟩) (lt_of_cell h.1)).trans h.1, h.2.1.below hb, h.2.2⟩
/-- A list of accesses. -/
def Accs (w : World) (a : Option Addr) (len : Nat) (gs : List Acc) : Prop := gs.length = len ∧ len ≤ 9223372036854775807 ∧ (len = 0 ∨ ∃ b off, a = some ⟨b, off, none⟩ ∧ ∀ j, j < len → AccAt w b (off + j * 3) (gs[j]?.getD accD))
theorem Accs.below {w w' : World} {a : Option Addr} {len : Nat} {gs : List Acc} (h : Accs w a len gs) (hb : Below w.heap.size w w') : Accs w' a len gs := by
  obtain ⟨h1, h2, h3⟩ := h
  refine ⟨h1, h2, ?_⟩
  rcases h3 with h3 | ⟨b, off, e, h⟩
  · exact .inl h3
  · exact .inr ⟨b, off, e, fun j hj => (h j hj).below hb⟩
theorem Accs.at {w : World} {a : Option Addr} {len : Nat} {gs : List Acc} (h : Accs w a len gs) (h0 : 0 < len) : ∃ b off, a = some ⟨b, off, none⟩ ∧ ∀ j, j < len → AccAt w b (off + j * 3) (gs[j]?.getD accD) := by
  rcases h.2.2 with h3 | h3
  · omega
  · exact h3
theorem mem_getA (gs : List Acc) (k : Nat) (h : k < gs.length) : gs[k]?.getD accD ∈ gs := by simp [h]
theorem mem_getS (ss : List Stm) (k : Nat) (h : k < ss.length) : ss[k]?.getD stmD ∈ ss := by simp [h]

/-- The words of an access. -/
structure AW where
  arr : Int
  ca : Option Addr
  cl : Nat
  cc : Nat
  con : Int
def AW.v (q : AW) : Value := .agg #[.int .i64 q.arr, .slice q.ca q.cl q.cc, .int .i64 q.con]
def AW.blk (q : AW) (w : World) (b : Nat) : Prop := w.heap[b]? = some (.cells #[.int .i64 q.arr, .slice q.ca q.cl q.cc, .int .i64 q.con] 68 (0, 0))
structure AG (w : World) (q : AW) (a : Acc) : Prop where
  arr : q.arr = a.1
  con : q.con = a.2.2
  coef : Ints w q.ca q.cl a.2.1
  cap : q.cl ≤ q.cc ∧ (q.ca = none → q.cc = 0)
  bd : B64 a.1 ∧ B64 a.2.2
theorem AG.below {w w' : World} {q : AW} {a : Acc} (h : AG w q a) (hb : Below w.heap.size w w') : AG w' q a := ⟨h.arr, h.con, h.coef.below hb, h.cap, h.bd⟩
theorem AccAt.words {w : World} {b o : Nat} {a : Acc} (h : AccAt w b o a) : ∃ q : AW, AG w q a ∧ w.cell? ⟨b, o, none⟩ = some (.int .i64 q.arr) ∧ w.cell? ⟨b, o + 1, none⟩ = some (.slice q.ca q.cl q.cc) ∧ w.cell? ⟨b, o + 2, none⟩ = some (.int .i64 q.con) := by
  obtain ⟨h1, ⟨x, l, c, h2, h3, h4, h5, h6⟩, h7⟩ := h
  exact ⟨⟨a.1, x, l, c, a.2.2⟩, ⟨rfl, rfl, h4, h5, h7, h6⟩, h1, h2, h3⟩
theorem AW.blk.cells {q : AW} {w : World} {b : Nat} (h : q.blk w b) : w.cell? ⟨b, 0, none⟩ = some (.int .i64 q.arr) ∧ w.cell? ⟨b, 1, none⟩ = some (.slice q.ca q.cl q.cc) ∧ w.cell? ⟨b, 2, none⟩ = some (.int .i64 q.con) := by
  unfold AW.blk at h
  refine ⟨?_, ?_, ?_⟩ <;> simp [World.cell?, h]
theorem AW.blk.lt {q : AW} {w : World} {b : Nat} (h : q.blk w b) : b < w.heap.size := (Array.getElem?_eq_some_iff.1 h).1
theorem AW.blk.below {q : AW} {w w' : World} {b : Nat} (h : q.blk w b) (hb : Below w.heap.size w w') : q.blk w' b := (hb.block b h.lt).trans h
theorem AW.new (q : AW) (w : World) : q.blk (w.alloc (.cells #[.int .i64 q.arr, .slice q.ca q.cl q.cc, .int .i64 q.con] 68)) w.heap.size := World.alloc_heap_new w _

/-- The words of a statement. -/
structure SW where
  ba : Option Addr
  bl : Nat
  bc : Nat
  ra : Option Addr
  rl : Nat
  rc : Nat
  kd : Int
  va : Int
  pu : AW
  ga : Option Addr
  gl : Nat
  gc : Nat
def SW.cs (q : SW) : Array Value := #[.slice q.ba q.bl q.bc, .slice q.ra q.rl q.rc, .int .i64 q.kd, .int .i64 q.va, .int .i64 q.pu.arr, .slice q.pu.ca q.pu.cl q.pu.cc, .int .i64 q.pu.con, .slice q.ga q.gl q.gc]
def SW.v (q : SW) : Value := .agg q.cs
def SW.blk (q : SW) (w : World) (b : Nat) : Prop := w.heap[b]? = some (.cells q.cs 71 (0, 0))
structure SG (w : World) (q : SW) (s : Stm) : Prop where
  box : Lst w q.ba q.bl q.bc s.box
  rows : Rws w q.ra q.rl s.rows
  kd : q.kd = s.kind
  va : q.va = s.val
  put : AG w q.pu s.put
  gets : Accs w q.ga q.gl s.gets
  bd : B64 s.kind ∧ B64 s.val
theorem SG.below {w w' : World} {q : SW} {s : Stm} (h : SG w q s) (hb : Below w.heap.size w w') : SG w' q s := ⟨h.box.below hb, h.rows.below hb, h.kd, h.va, h.put.below hb, h.gets.below hb, h.bd⟩
theorem SW.blk.cells {q : SW} {w : World} {b : Nat} (h : q.blk w b) : w.cell? ⟨b, 0, none⟩ = some (.slice q.ba q.bl q.bc) ∧ w.cell? ⟨b, 1, none⟩ = some (.slice q.ra q.rl q.rc) ∧ w.cell? ⟨b, 2, none⟩ = some (.int .i64 q.kd) ∧ w.cell? ⟨b, 3, none⟩ = some (.int .i64 q.va) ∧ w.cell? ⟨b, 4, none⟩ = some (.int .i64 q.pu.arr) ∧ w.cell? ⟨b, 5, none⟩ = some (.slice q.pu.ca q.pu.cl q.pu.cc) ∧ w.cell? ⟨b, 6, none⟩ = some (.int .i64 q.pu.con) ∧ w.cell? ⟨b, 7, none⟩ = some (.slice q.ga q.gl q.gc) := by
  unfold SW.blk SW.cs at h
  refine ⟨?_, ?_, ?_, ?_, ?_, ?_, ?_, ?_⟩ <;> simp [World.cell?, h]
theorem SW.blk.lt {q : SW} {w : World} {b : Nat} (h : q.blk w b) : b < w.heap.size := (Array.getElem?_eq_some_iff.1 h).1
theorem SW.blk.below {q : SW} {w w' : World} {b : Nat} (h : q.blk w b) (hb : Below w.heap.size w w') : q.blk w' b := (hb.block b h.lt).trans h
theorem SW.new (q : SW) (w : World) : q.blk (w.alloc (.cells q.cs 71)) w.heap.size := World.alloc_heap_new w _
/-- A statement in memory: eight cells. -/
def StmAt (w : World) (b o : Nat) (s : Stm) : Prop := ∃ q : SW, SG w q s ∧ w.cell? ⟨b, o, none⟩ = some (.slice q.ba q.bl q.bc) ∧ w.cell? ⟨b, o + 1, none⟩ = some (.slice q.ra q.rl q.rc) ∧ w.cell? ⟨b, o + 2, none⟩ = some (.int .i64 q.kd) ∧ w.cell? ⟨b, o + 3, none⟩ = some (.int .i64 q.va) ∧ w.cell? ⟨b, o + 4, none⟩ = some (.int .i64 q.pu.arr) ∧ w.cell? ⟨b, o + 5, none⟩ = some (.slice q.pu.ca q.pu.cl q.pu.cc) ∧ w.cell? ⟨b, o + 6, none⟩ = some (.int .i64 q.pu.con) ∧ w.cell? ⟨b, o + 7, none⟩ = some (.slice q.ga q.gl q.gc)
theorem StmAt.below {w w' : World} {b o : Nat} {s : Stm} (h : StmAt w b o s) (hb : Below w.heap.size w w') : StmAt w' b o s := by
  obtain ⟨q, h, c0, c1, c2, c3, c4, c5, c6, c7⟩ := h
  exact ⟨q, h.below hb, (hb.cell (p := ⟨b, o, none⟩) (lt_of_cell c0)).trans c0, (hb.cell (p := ⟨b, o + 1, none⟩) (lt_of_cell c1)).trans c1, (hb.cell (p := ⟨b, o + 2, none⟩) (lt_of_cell c2)).trans c2, (hb.cell (p := ⟨b, o + 3, none⟩) (lt_of_cell c3)).trans c3, (hb.cell (p := ⟨b, o + 4, none⟩) (lt_of_cell c4)).trans c4, (hb.cell (p := ⟨b, o + 5, none⟩) (lt_of_cell c5)).trans c5, (hb.cell (p := ⟨b, o + 6, none⟩) (lt_of_cell c6)).trans c6, (hb.cell (p := ⟨b, o + 7, none⟩) (lt_of_cell c7)).trans c7⟩
/-- A list of statements. -/
def Stms (w : World) (a : Option Addr) (len : Nat) (ss : List Stm) : Prop := ss.length = len ∧ len ≤ 9223372036854775807 ∧ (len = 0 ∨ ∃ b off, a = some ⟨b, off, none⟩ ∧ ∀ j, j < len → StmAt w b (off + j * 8) (ss[j]?.getD stmD))
theorem Stms.below {w w' : World} {a : Option Addr} {len : Nat} {ss : List Stm} (h : Stms w a len ss) (hb : Below w.heap.size w w') : Stms w' a len ss := by
  obtain ⟨h1, h2, h3⟩ := h
  refine ⟨h1, h2, ?_⟩
  rcases h3 with h3 | ⟨b, off, e, h⟩
  · exact .inl h3
  · exact .inr ⟨b, off, e, fun j hj => (h j hj).below hb⟩
theorem Stms.at {w : World} {a : Option Addr} {len : Nat} {ss : List Stm} (h : Stms w a len ss) (h0 : 0 < len) : ∃ b off, a = some ⟨b, off, none⟩ ∧ ∀ j, j < len → StmAt w b (off + j * 8) (ss[j]?.getD stmD) := by
  rcases h.2.2 with h3 | h3
  · omega
  · exact h3
/-- A nest's two words in a block. -/
def NsBlk (w : World) (b : Nat) (za : Option Addr) (zl zc : Nat) (ta : Option Addr) (tl tc : Nat) : Prop := w.heap[b]? = some (.cells #[.slice za zl zc, .slice ta tl tc] 25 (0, 0))
theorem NsBlk.cells {w : World} {b : Nat} {za : Option Addr} {zl zc : Nat} {ta : Option Addr} {tl tc : Nat} (h : NsBlk w b za zl zc ta tl tc) : w.cell? ⟨b, 0, none⟩ = some (.slice za zl zc) ∧ w.cell? ⟨b, 1, none⟩ = some (.slice ta tl tc) := by
  unfold NsBlk at h
  refine ⟨?_, ?_⟩ <;> simp [World.cell?, h]
theorem NsBlk.lt {w : World} {b : Nat} {za : Option Addr} {zl zc : Nat} {ta : Option Addr} {tl tc : Nat} (h : NsBlk w b za zl zc ta tl tc) : b < w.heap.size := (Array.getElem?_eq_some_iff.1 h).1
theorem NsBlk.below {w w' : World} {b : Nat} {za : Option Addr} {zl zc : Nat} {ta : Option Addr} {tl tc : Nat} (h : NsBlk w b za zl zc ta tl tc) (hb : Below w.heap.size w w') : NsBlk w' b za zl zc ta tl tc := (hb.block b h.lt).trans h
theorem NsBlk.new (w : World) (za : Option Addr) (zl zc : Nat) (ta : Option Addr) (tl tc : Nat) : NsBlk (w.alloc (.cells #[.slice za zl zc, .slice ta tl tc] 25)) w.heap.size za zl zc ta tl tc := World.alloc_heap_new w _
end Go.Proofs.Ytoidgdbgpbcebaa.V
namespace Go.Proofs.Ytoidgdbgpbcebaa.V
open Go.RowKit
set_option linter.unusedVariables false

/-- The types of blocks that are changed when others hang on what lies elsewhere. -/
def shiftyB (t : TypeId) : Bool := t == 25 || t == 59
/-- From block N on all that was is as it was; but for blocks that hold a nest or spots. -/
def KeepF (N : Nat) (W W' : World) : Prop := (∀ (b : Nat) (cur : Array Value) (t : TypeId), N ≤ b → shiftyB t = false → W.heap[b]? = some (.cells cur t (0, 0)) → W'.heap[b]? = W.heap[b]?) ∧ W.heap.size ≤ W'.heap.size
theorem KeepF.refl (N : Nat) (W : World) : KeepF N W W := ⟨fun _ _ _ _ _ _ => rfl, Nat.le_refl _⟩
theorem KeepF.trans {N : Nat} {W V U : World} (h : KeepF N W V) (k : KeepF N V U) : KeepF N W U := ⟨fun b cur t h1 h2 h3 => (k.1 b cur t h1 h2 ((h.1 b cur t h1 h2 h3).trans h3)).trans (h.1 b cur t h1 h2 h3), Nat.le_trans h.2 k.2⟩
theorem KeepF.below {N : Nat} {W V : World} (h : Below W.heap.size W V) : KeepF N W V := ⟨fun b _ _ _ _ hb => h.block b (Array.getElem?_eq_some_iff.1 hb).1, h.size⟩
theorem KeepF.set {N : Nat} {W : World} {p : Addr} (h : p.block < N) (v : Value) : KeepF N W (W.setCell p v) := ⟨fun b _ _ h1 _ _ => Below.heap_setCell _ p _ b (by omega), by rw [World.size_setCell]; exact Nat.le_refl _⟩
theorem KeepF.nest {N : Nat} {W : World} {p : Addr} {cur : Array Value} {fz : Nat × Nat} (h : W.heap[p.block]? = some (.cells cur 25 fz)) (v : Value) : KeepF N W (W.setCell p v) := ⟨fun b c t _ h2 h3 => Below.heap_setCell _ p _ b (fun e => by rw [e, h] at h3; cases h3; exact absurd h2 (by decide)), by rw [World.size_setCell]; exact Nat.le_refl _⟩
/-- A row of spots of the call's own has grown. -/
theorem KeepF.spots {N B n : Nat} {W V : World} {v : Value} {xs : List Value} (ho : W.ownsRow B 59 15 v n xs) (hg : W.grownBy V v.ownBlock) : KeepF N W V := ⟨fun b cur t _ h2 h3 => hg.block b (Array.getElem?_eq_some_iff.1 h3).1 (fun e => by
  rcases ho.2 with ⟨rfl, _⟩ | ⟨g, cap, c, rfl, _, hbk, _⟩
  · simp [Value.ownBlock] at e
  · obtain rfl : b = g := by simpa [Value.ownBlock] using e
    rw [hbk] at h3
    cases h3
    exact absurd h2 (by decide)), hg.size⟩
theorem KeepF.mono {N M : Nat} {W V : World} (h : KeepF N W V) (le : N ≤ M) : KeepF M W V := ⟨fun b cur t h1 h2 h3 => h.1 b cur t (Nat.le_trans le h1) h2 h3, h.2⟩
/-- It holds in whatever world has the blocks from N on. -/
def Lies (N : Nat) (P : World → Prop) (W : World) : Prop := ∀ W', KeepF N W W' → P W'
theorem Lies.out {N : Nat} {P : World → Prop} {W : World} (h : Lies N P W) : P W := h W (KeepF.refl N W)
theorem Lies.keep {N : Nat} {P : World → Prop} {W V : World} (h : Lies N P W) (k : KeepF N W V) : Lies N P V := fun U hU => h U (k.trans hU)
theorem Lies.below {N : Nat} {P : World → Prop} {W V : World} (h : Lies N P W) (k : Below W.heap.size W V) : Lies N P V := h.keep (KeepF.below k)
theorem Lies.set {N : Nat} {P : World → Prop} {W : World} (h : Lies N P W) {p : Addr} (hp : p.block < N) (v : Value) : Lies N P (W.setCell p v) := h.keep (KeepF.set hp v)
theorem Lies.mono {N M : Nat} {P : World → Prop} {W : World} (h : Lies M P W) (le : N ≤ M) : Lies N P W := fun U hU => h U (hU.mono le)
theorem Lies.imp {N : Nat} {P Q : World → Prop} {W : World} (h : Lies N P W) (i : ∀ V, P V → Q V) : Lies N Q W := fun U hU => i U (h U hU)
theorem Lies.and {N : Nat} {P Q : World → Prop} {W : World} (h : Lies N P W) (k : Lies N Q W) : Lies N (fun V => P V ∧ Q V) W := fun U hU => ⟨h U hU, k U hU⟩
theorem lies_row {N g l : Nat} {t : TypeId} {f : Nat → Value} {W : World} (h : W.rowIs g t l f) (hg : N ≤ g) (ht : shiftyB t = false := by decide) : Lies N (fun V => V.rowIs g t l f) W := fun U hU => by
  obtain ⟨c, h1, _⟩ := id h
  exact h.of_block (hU.1 g c t hg ht h1)
theorem lies_all {N k : Nat} {P : Nat → World → Prop} {W : World} (h : ∀ j, j < k → Lies N (P j) W) : Lies N (fun V => ∀ j, j < k → P j V) W := fun U hU j hj => h j hj U hU
theorem lies_pure {N : Nat} {p : Prop} (h : p) (W : World) : Lies N (fun _ => p) W := fun _ _ => h

/-- The words of a row. -/
structure RW where
  ca : Option Addr
  cl : Nat
  cc : Nat
  con : Int
def RW.v (q : RW) : Value := .agg #[.slice q.ca q.cl q.cc, .int .i64 q.con]
structure RG (w : World) (q : RW) (r : List Int × Int) : Prop where
  con : q.con = r.2
  coef : Ints w q.ca q.cl r.1
  cap : q.cl ≤ q.cc ∧ (q.ca = none → q.cc = 0)
  bd : B64 r.2
theorem RG.below {w w' : World} {q : RW} {r : List Int × Int} (h : RG w q r) (hb : Below w.heap.size w w') : RG w' q r := ⟨h.con, h.coef.below hb, h.cap, h.bd⟩
theorem RowAt.words {w : World} {b o : Nat} {r : List Int × Int} (h : RowAt w b o r) : ∃ q : RW, RG w q r ∧ w.cell? ⟨b, o, none⟩ = some (.slice q.ca q.cl q.cc) ∧ w.cell? ⟨b, o + 1, none⟩ = some (.int .i64 q.con) := by
  obtain ⟨a, l, c, h1, h2, h3, h4, h5⟩ := h
  exact ⟨⟨a, l, c, r.2⟩, ⟨rfl, h3, h4, h5⟩, h1, h2⟩
/-- Rows, words by words. -/
theorem rws_words {w : World} {a : Option Addr} {len : Nat} {rs : List (List Int × Int)} (h : Rws w a len rs) : ∃ qs : Nat → RW, (∀ j, j < len → RG w (qs j) (rs[j]?.getD ([], 0))) ∧ (len = 0 ∨ ∃ b off, a = some ⟨b, off, none⟩ ∧ ∀ j, j < len → w.cell? ⟨b, off + j * 2, none⟩ = some (.slice (qs j).ca (qs j).cl (qs j).cc) ∧ w.cell? ⟨b, off + j * 2 + 1, none⟩ = some (.int .i64 (qs j).con)) := by
  rcases h.2.2 with h0 | ⟨b, off, e, hat⟩
  · exact ⟨fun _ => ⟨none, 0, 0, 0⟩, fun j hj => by omega, .inl h0⟩
  · have hc : ∀ j, ∃ q : RW, j < len → RG w q (rs[j]?.getD ([], 0)) ∧ w.cell? ⟨b, off + j * 2, none⟩ = some (.slice q.ca q.cl q.cc) ∧ w.cell? ⟨b, off + j * 2 + 1, none⟩ = some (.int .i64 q.con) := fun j => by
      by_cases hj : j < len
      · obtain ⟨q, h1, h2⟩ := (hat j hj).words
        exact ⟨q, fun _ => ⟨h1, h2⟩⟩
      · exact ⟨⟨none, 0, 0, 0⟩, fun h => absurd h hj⟩
    obtain ⟨qs, hq⟩ := Classical.axiomOfChoice hc
    exact ⟨qs, fun j hj => (hq j hj).1, .inr ⟨b, off, e, fun j hj => (hq j hj).2⟩⟩
theorem accs_words {w : World} {a : Option Addr} {len : Nat} {gs : List Acc} (h : Accs w a len gs) : ∃ qs : Nat → AW, (∀ j, j < len → AG w (qs j) (gs[j]?.getD accD)) ∧ (len = 0 ∨ ∃ b off, a = some ⟨b, off, none⟩ ∧ ∀ j, j < len → w.cell? ⟨b, off + j * 3, none⟩ = some (.int .i64 (qs j).arr) ∧ w.cell? ⟨b, off + j * 3 + 1, none⟩ = some (.slice (qs j).ca (qs j).cl (qs j).cc) ∧ w.cell? ⟨b, off + j * 3 + 2, none⟩ = some (.int .i64 (qs j).con)) := by
  rcases h.2.2 with h0 | ⟨b, off, e, hat⟩
  · exact ⟨fun _ => ⟨0, none, 0, 0, 0⟩, fun j hj => by omega, .inl h0⟩
  · have hc : ∀ j, ∃ q : AW, j < len → AG w q (gs[j]?.getD accD) ∧ w.cell? ⟨b, off + j * 3, none⟩ = some (.int .i64 q.arr) ∧ w.cell? ⟨b, off + j * 3 + 1, none⟩ = some (.slice q.ca q.cl q.cc) ∧ w.cell? ⟨b, off + j * 3 + 2, none⟩ = some (.int .i64 q.con) := fun j => by
      by_cases hj : j < len
      · obtain ⟨q, h1, h2⟩ := (hat j hj).words
        exact ⟨q, fun _ => ⟨h1, h2⟩⟩
      · exact ⟨⟨0, none, 0, 0, 0⟩, fun h => absurd h hj⟩
    obtain ⟨qs, hq⟩ := Classical.axiomOfChoice hc
    exact ⟨qs, fun j hj => (hq j hj).1, .inr ⟨b, off, e, fun j hj => (hq j hj).2⟩⟩
def swD : SW := ⟨none, 0, 0, none, 0, 0, 0, 0, ⟨0, none, 0, 0, 0⟩, none, 0, 0⟩
/-- The cells of a statement from an offset on. -/
def SW.at (q : SW) (w : World) (b o : Nat) : Prop := w.cell? ⟨b, o, none⟩ = some (.slice q.ba q.bl q.bc) ∧ w.cell? ⟨b, o + 1, none⟩ = some (.slice q.ra q.rl q.rc) ∧ w.cell? ⟨b, o + 2, none⟩ = some (.int .i64 q.kd) ∧ w.cell? ⟨b, o + 3, none⟩ = some (.int .i64 q.va) ∧ w.cell? ⟨b, o + 4, none⟩ = some (.int .i64 q.pu.arr) ∧ w.cell? ⟨b, o + 5, none⟩ = some (.slice q.pu.ca q.pu.cl q.pu.cc) ∧ w.cell? ⟨b, o + 6, none⟩ = some (.int .i64 q.pu.con) ∧ w.cell? ⟨b, o + 7, none⟩ = some (.slice q.ga q.gl q.gc)
theorem stms_words {w : World} {a : Option Addr} {len : Nat} {ss : List Stm} (h : Stms w a len ss) : ∃ qs : Nat → SW, (∀ j, j < len → SG w (qs j) (ss[j]?.getD stmD)) ∧ (len = 0 ∨ ∃ b off, a = some ⟨b, off, none⟩ ∧ ∀ j, j < len → (qs j).at w b (off + j * 8)) := by
  rcases h.2.2 with h0 | ⟨b, off, e, hat⟩
  · exact ⟨fun _ => swD, fun j hj => by omega, .inl h0⟩
  · have hc : ∀ j, ∃ q : SW, j < len → SG w q (ss[j]?.getD stmD) ∧ q.at w b (off + j * 8) := fun j => by
      by_cases hj : j < len
      · obtain ⟨q, h1, h2⟩ := hat j hj
        exact ⟨q, fun _ => ⟨h1, h2⟩⟩
      · exact ⟨swD, fun h => absurd h hj⟩
    obtain ⟨qs, hq⟩ := Classical.axiomOfChoice hc
    exact ⟨qs, fun j hj => (hq j hj).1, .inr ⟨b, off, e, fun j hj => (hq j hj).2⟩⟩
end Go.Proofs.Ytoidgdbgpbcebaa.V
namespace Go.Proofs.Ytoidgdbgpbcebaa.V
open Go.RowKit
set_option linter.unusedVariables false

theorem info_R : (Try.prog.info? 66).map (fun i => (i.zero, i.size, i.bytes)) = some (some (.agg #[.slice none 0 0, .int .i64 0]), 2, 32) := by kernel_rfl
/-- The first k of what has been made, in a row of the call's own. -/
def OutR (W : World) (R len : Nat) (us : Nat → RW) (k : Nat) : Prop := ∃ f, W.rowIs R 66 (len * 2) f ∧ ∀ j, j < k → f (j * 2) = .slice (us j).ca (us j).cl (us j).cc ∧ f (j * 2 + 1) = .int .i64 (us j).con
theorem OutR.lt {W : World} {R len k : Nat} {us : Nat → RW} (h : OutR W R len us k) : R < W.heap.size := by
  obtain ⟨f, h1, _⟩ := h
  exact h1.lt
theorem OutR.below {W V : World} {R len k : Nat} {us : Nat → RW} (h : OutR W R len us k) (hb : Below W.heap.size W V) : OutR V R len us k := by
  obtain ⟨f, h1, h2⟩ := h
  exact ⟨f, h1.of_block (hb.block _ h1.lt), h2⟩
theorem OutR.lies {W : World} {R len k N : Nat} {us : Nat → RW} (h : OutR W R len us k) (hN : N ≤ R) : Lies N (fun V => OutR V R len us k) W := by
  obtain ⟨f, h1, h2⟩ := h
  exact (lies_row h1 hN).imp (fun V hV => ⟨f, hV, h2⟩)
theorem OutR.snoc {W : World} {R len k : Nat} {us : Nat → RW} (h : OutR W R len us k) (u : RW) : OutR ((W.setCell ⟨R, k * 2, none⟩ (.slice u.ca u.cl u.cc)).setCell ⟨R, k * 2 + 1, none⟩ (.int .i64 u.con)) R len (fun j => if j = k then u else us j) (k + 1) := by
  obtain ⟨f, h1, h2⟩ := h
  refine ⟨_, (h1.set (k * 2) _).set (k * 2 + 1) _, fun j hj => ?_⟩
  by_cases e : j = k
  · subst e
    simp only [if_true]
    refine ⟨?_, ?_⟩ <;> simp
  · obtain ⟨e0, e1⟩ := h2 j (by omega)
    simp only [if_neg e]
    refine ⟨by rw [if_neg (by omega)]; rw [if_neg (by omega)]; exact e0, by rw [if_neg (by omega)]; rw [if_neg (by omega)]; exact e1⟩
theorem info_A : (Try.prog.info? 68).map (fun i => (i.zero, i.size, i.bytes)) = some (some (.agg #[.int .i64 0, .slice none 0 0, .int .i64 0]), 3, 40) := by kernel_rfl
/-- The first k of what has been made, in a row of the call's own. -/
def OutA (W : World) (R len : Nat) (us : Nat → AW) (k : Nat) : Prop := ∃ f, W.rowIs R 68 (len * 3) f ∧ ∀ j, j < k → f (j * 3) = .int .i64 (us j).arr ∧ f (j * 3 + 1) = .slice (us j).ca (us j).cl (us j).cc ∧ f (j * 3 + 2) = .int .i64 (us j).con
theorem OutA.lt {W : World} {R len k : Nat} {us : Nat → AW} (h : OutA W R len us k) : R < W.heap.size := by
  obtain ⟨f, h1, _⟩ := h
  exact h1.lt
theorem OutA.below {W V : World} {R len k : Nat} {us : Nat → AW} (h : OutA W R len us k) (hb : Below W.heap.size W V) : OutA V R len us k := by
  obtain ⟨f, h1, h2⟩ := h
  exact ⟨f, h1.of_block (hb.block _ h1.lt), h2⟩
theorem OutA.lies {W : World} {R len k N : Nat} {us : Nat → AW} (h : OutA W R len us k) (hN : N ≤ R) : Lies N (fun V => OutA V R len us k) W := by
  obtain ⟨f, h1, h2⟩ := h
  exact (lies_row h1 hN).imp (fun V hV => ⟨f, hV, h2⟩)
theorem OutA.snoc {W : World} {R len k : Nat} {us : Nat → AW} (h : OutA W R len us k) (u : AW) : OutA (((W.setCell ⟨R, k * 3, none⟩ (.int .i64 u.arr)).setCell ⟨R, k * 3 + 1, none⟩ (.slice u.ca u.cl u.cc)).setCell ⟨R, k * 3 + 2, none⟩ (.int .i64 u.con)) R len (fun j => if j = k then u else us j) (k + 1) := by
  obtain ⟨f, h1, h2⟩ := h
  refine ⟨_, ((h1.set (k * 3) _).set (k * 3 + 1) _).set (k * 3 + 2) _, fun j hj => ?_⟩
  by_cases e : j = k
  · subst e
    simp only [if_true]
    refine ⟨?_, ?_, ?_⟩ <;> simp
  · obtain ⟨e0, e1, e2⟩ := h2 j (by omega)
    simp only [if_neg e]
    refine ⟨by rw [if_neg (by omega)]; rw [if_neg (by omega)]; rw [if_neg (by omega)]; exact e0, by rw [if_neg (by omega)]; rw [if_neg (by omega)]; rw [if_neg (by omega)]; exact e1, by rw [if_neg (by omega)]; rw [if_neg (by omega)]; rw [if_neg (by omega)]; exact e2⟩
theorem info_S : (Try.prog.info? 71).map (fun i => (i.zero, i.size, i.bytes)) = some (some (.agg #[.slice none 0 0, .slice none 0 0, .int .i64 0, .int .i64 0, .int .i64 0, .slice none 0 0, .int .i64 0, .slice none 0 0]), 8, 128) := by kernel_rfl
/-- The first k of what has been made, in a row of the call's own. -/
def OutS8 (W : World) (R len : Nat) (us : Nat → SW) (k : Nat) : Prop := ∃ f, W.rowIs R 71 (len * 8) f ∧ ∀ j, j < k → f (j * 8) = .slice (us j).ba (us j).bl (us j).bc ∧ f (j * 8 + 1) = .slice (us j).ra (us j).rl (us j).rc ∧ f (j * 8 + 2) = .int .i64 (us j).kd ∧ f (j * 8 + 3) = .int .i64 (us j).va ∧ f (j * 8 + 4) = .int .i64 (us j).pu.arr ∧ f (j * 8 + 5) = .slice (us j).pu.ca (us j).pu.cl (us j).pu.cc ∧ f (j * 8 + 6) = .int .i64 (us j).pu.con ∧ f (j * 8 + 7) = .slice (us j).ga (us j).gl (us j).gc
theorem OutS8.lt {W : World} {R len k : Nat} {us : Nat → SW} (h : OutS8 W R len us k) : R < W.heap.size := by
  obtain ⟨f, h1, _⟩ := h
  exact h1.lt
theorem OutS8.below {W V : World} {R len k : Nat} {us : Nat → SW} (h : OutS8 W R len us k) (hb : Below W.heap.size W V) : OutS8 V R len us k := by
  obtain ⟨f, h1, h2⟩ := h
  exact ⟨f, h1.of_block (hb.block _ h1.lt), h2⟩
theorem OutS8.lies {W : World} {R len k N : Nat} {us : Nat → SW} (h : OutS8 W R len us k) (hN : N ≤ R) : Lies N (fun V => OutS8 V R len us k) W := by
  obtain ⟨f, h1, h2⟩ := h
  exact (lies_row h1 hN).imp (fun V hV => ⟨f, hV, h2⟩)
theorem OutS8.snoc {W : World} {R len k : Nat} {us : Nat → SW} (h : OutS8 W R len us k) (u : SW) : OutS8 ((((((((W.setCell ⟨R, k * 8, none⟩ (.slice u.ba u.bl u.bc)).setCell ⟨R, k * 8 + 1, none⟩ (.slice u.ra u.rl u.rc)).setCell ⟨R, k * 8 + 2, none⟩ (.int .i64 u.kd)).setCell ⟨R, k * 8 + 3, none⟩ (.int .i64 u.va)).setCell ⟨R, k * 8 + 4, none⟩ (.int .i64 u.pu.arr)).setCell ⟨R, k * 8 + 5, none⟩ (.slice u.pu.ca u.pu.cl u.pu.cc)).setCell ⟨R, k * 8 + 6, none⟩ (.int .i64 u.pu.con)).setCell ⟨R, k * 8 + 7, none⟩ (.slice u.ga u.gl u.gc)) R len (fun j => if j = k then u else us j) (k + 1) := by
  obtain ⟨f, h1, h2⟩ := h
  refine ⟨_, (((((((h1.set (k * 8) _).set (k * 8 + 1) _).set (k * 8 + 2) _).set (k * 8 + 3) _).set (k * 8 + 4) _).set (k * 8 + 5) _).set (k * 8 + 6) _).set (k * 8 + 7) _, fun j hj => ?_⟩
  by_cases e : j = k
  · subst e
    simp only [if_true]
    refine ⟨?_, ?_, ?_, ?_, ?_, ?_, ?_, ?_⟩ <;> simp
  · obtain ⟨e0, e1, e2, e3, e4, e5, e6, e7⟩ := h2 j (by omega)
    simp only [if_neg e]
    refine ⟨by rw [if_neg (by omega)]; rw [if_neg (by omega)]; rw [if_neg (by omega)]; rw [if_neg (by omega)]; rw [if_neg (by omega)]; rw [if_neg (by omega)]; rw [if_neg (by omega)]; rw [if_neg (by omega)]; exact e0, by rw [if_neg (by omega)]; rw [if_neg (by omega)]; rw [if_neg (by omega)]; rw [if_neg (by omega)]; rw [if_neg (by omega)]; rw [if_neg (by omega)]; rw [if_neg (by omega)]; rw [if_neg (by omega)]; exact e1, by rw [if_neg (by omega)]; rw [if_neg (by omega)]; rw [if_neg (by omega)]; rw [if_neg (by omega)]; rw [if_neg (by omega)]; rw [if_neg (by omega)]; rw [if_neg (by omega)]; rw [if_neg (by omega)]; exact e2, by rw [if_neg (by omega)]; rw [if_neg (by omega)]; rw [if_neg (by omega)]; rw [if_neg (by omega)]; rw [if_neg (by omega)]; rw [if_neg (by omega)]; rw [if_neg (by omega)]; rw [if_neg (by omega)]; exact e3, by rw [if_neg (by omega)]; rw [if_neg (by omega)]; rw [if_neg (by omega)]; rw [if_neg (by omega)]; rw [if_neg (by omega)]; rw [if_neg (by omega)]; rw [if_neg (by omega)]; rw [if_neg (by omega)]; exact e4, by rw [if_neg (by omega)]; rw [if_neg (by omega)]; rw [if_neg (by omega)]; rw [if_neg (by omega)]; rw [if_neg (by omega)]; rw [if_neg (by omega)]; rw [if_neg (by omega)]; rw [if_neg (by omega)]; exact e5, by rw [if_neg (by omega)]; rw [if_neg (by omega)]; rw [if_neg (by omega)]; rw [if_neg (by omega)]; rw [if_neg (by omega)]; rw [if_neg (by omega)]; rw [if_neg (by omega)]; rw [if_neg (by omega)]; exact e6, by rw [if_neg (by omega)]; rw [if_neg (by omega)]; rw [if_neg (by omega)]; rw [if_neg (by omega)]; rw [if_neg (by omega)]; rw [if_neg (by omega)]; rw [if_neg (by omega)]; rw [if_neg (by omega)]; exact e7⟩
set_option maxRecDepth 100000 in
set_option maxHeartbeats 4000000 in
theorem eachRR (a : Option Addr) (len cap : Nat) (qs : Nat → RW) (g : Nat) (bs : Array Value) (eg : ∀ args w, (callFunc g args).run Try.prog w = .ok (.enter g args) w) (Q : Nat → RW → World → Prop) (w : World) (hlen : len * 32 ≤ 281474976710656)
    (hin : len = 0 ∨ ∃ b off, a = some ⟨b, off, none⟩ ∧ ∀ j, j < len → w.cell? ⟨b, off + j * 2, none⟩ = some (.slice (qs j).ca (qs j).cl (qs j).cc) ∧ w.cell? ⟨b, off + j * 2 + 1, none⟩ = some (.int .i64 (qs j).con))
    (hcall : ∀ (j : Nat) (W : World), j < len → Below w.heap.size w W → w.heap.size < W.heap.size → Calls Try.prog g (#[(qs j).v] ++ bs) W fun e w' => (∃ u : RW, e = .returned u.v ∧ Lies W.heap.size (Q j u) w') ∧ Below W.heap.size W w') :
    Calls Try.prog 95 #[.slice a len cap, .func (.func g) #[] bs] w fun e w' => (∃ us : Nat → RW, e = .returned (.slice (some ⟨w.heap.size, 0, none⟩) len len) ∧ OutR w' w.heap.size len us len ∧ ∀ j, j < len → Lies (w.heap.size + 1) (Q j (us j)) w') ∧ Below w.heap.size w w' := by
  have HIN := hide hin
  have HCALL := hide hcall
  obtain ⟨i0, hi, hz0, hz1, hz2⟩ := info_parts info_R
  have hmk : ∀ W : World, (Instr.makeSlice 62 (.int .i64 (len : Int)) (.int .i64 (len : Int))).run Try.prog W = .ok (.slice (some ⟨W.heap.size, 0, none⟩) len len) (W.alloc (.cells (madeCells #[.slice none 0 0, .int .i64 0] (len * 2)) 66)) := fun W => by
    have := run_make (P := Try.prog) W 62 66 i0 (.agg #[.slice none 0 0, .int .i64 0]) Try.underlying62 hi hz0 .i64 .i64 len len (by omega) (by omega) (by rw [hz2]; omega) (by omega)
    simpa [hz1, Value.cells] using this
  have HROW : Hid (OutR (w.alloc (.cells (madeCells #[.slice none 0 0, .int .i64 0] (len * 2)) 66)) w.heap.size len (fun _ => ⟨none, 0, 0, 0⟩) 0) := ⟨fun i => (#[.slice none 0 0, .int .i64 0] : Array Value)[i % 2]!, ⟨_, World.alloc_heap_new _ _, size_madeCells _ _, fun i hi => by simp [madeCells, hi]⟩, fun j hj => by omega⟩
  have HB0 : Hid (Below w.heap.size w (w.alloc (.cells (madeCells #[.slice none 0 0, .int .i64 0] (len * 2)) 66))) := bl_new _
  clear hin hcall hi hz0 hz1 hz2
  go_enter Try.func95, Try.ntmps95
  go_wp2_with fail
  clear hmk
  go_loopw [13] (fun i wr => ∃ k : Nat, k ≤ len ∧ i = .int .i64 k ∧ (∃ us, OutR wr w.heap.size len us k ∧ ∀ j, j < k → Lies (w.heap.size + 1) (Q j (us j)) wr) ∧ Below w.heap.size w wr) (fun i _ => len - (intOf i).toNat)
  case atStart => exact ⟨0, Nat.zero_le _, rfl, ⟨_, HROW.out, fun j hj => by omega⟩, HB0.out⟩
  case round =>
    obtain ⟨k, hk, rfl, ⟨us, hT, hL⟩, hB⟩ := hrel
    have HT := hide hT
    have HL := hide hL
    have HB := hide hB
    clear HROW HB0 hL
    by_cases hlt : k < len
    · obtain ⟨b, off, rfl, hat⟩ := HIN.out.resolve_left (by omega)
      obtain ⟨c0, c1⟩ := hat k hlt
      have HC0 := hide (HCALL.out k)
      obtain ⟨q, hq⟩ : ∃ q, q = qs k := ⟨_, rfl⟩
      rw [← hq] at HC0 c0 c1
      have c0' := (HB.out.cell (p := ⟨b, off + k * 2, none⟩) (lt_of_cell c0)).trans c0
      have z0 := lt_of_cell c0'
      have c1' := (HB.out.cell (p := ⟨b, off + k * 2 + 1, none⟩) (lt_of_cell c1)).trans c1
      have z1 := lt_of_cell c1'
      have hRl := hT.lt
      have B2 : Below wr.heap.size wr (wr.alloc (.cells #[.slice q.ca q.cl q.cc, .int .i64 q.con] 66)) := bl_new _
      have HC := hide (HC0.out (wr.alloc (.cells #[.slice q.ca q.cl q.cc, .int .i64 q.con] 66)) hlt (bl_on HB.out B2) (by rw [World.size_alloc]; omega))
      have HB2 := hide B2
      unfold RW.v  at HC
      clear hat hq B2 hT hB HC0 c0 c1
      go_wp2_with fail
      refine HC.out.mono ?_
      rintro e w2 ⟨⟨u, rfl, hl⟩, hb2⟩
      have T2 := HT.out.below (bl_on HB2.out hb2)
      obtain ⟨f, r1, r2⟩ := T2
      have d0 := r1.cell (i := k * 2) (by omega)
      have y0 := r1.frozen (k * 2)
      have d1 := r1.cell (i := k * 2 + 1) (by omega)
      have y1 := r1.frozen (k * 2 + 1)
      have z3 := r1.lt
      have hsz := HB.out.size
      have HT2 := hide (OutR.snoc ⟨f, r1, r2⟩ u)
      have HLn := hide (hl.mono (N := w.heap.size + 1) (by rw [World.size_alloc]; omega))
      have HLo := hide (fun j (hj : j < k) => (HL.out j hj).below (bl_on HB2.out hb2))
      have HBb := hide (bl_on HB.out (bl_on HB2.out hb2))
      clear hb2 r1 r2 hl
      try unfold RW.v 
      go_wp2_with fail
      go_roundw
      case rel =>
        refine ⟨k + 1, by omega, by go_num, ⟨_, HT2.out, fun j hj => ?_⟩, ((HBb.out.setCell (p := ⟨w.heap.size, k * 2, none⟩) (Nat.le_refl _) _).setCell (p := ⟨w.heap.size, k * 2 + 1, none⟩) (Nat.le_refl _) _)⟩
        by_cases e : k = j
        · subst e
          simp only [if_true]
          have hl := HLn.out
          exact (((hl).set (p := ⟨w.heap.size, k * 2, none⟩) (by simp only; omega) _).set (p := ⟨w.heap.size, k * 2 + 1, none⟩) (by simp only; omega) _)
        · simp only [if_neg (fun e' : j = k => e e'.symm)]
          have hl := HLo.out j (by omega)
          exact (((hl).set (p := ⟨w.heap.size, k * 2, none⟩) (by simp only; omega) _).set (p := ⟨w.heap.size, k * 2 + 1, none⟩) (by simp only; omega) _)
      case measure => simp [intOf]; omega
    · obtain rfl : k = len := by omega
      clear hT hB
      go_wp2_with fail
      go_ret
      exact ⟨⟨us, rfl, HT.out, HL.out⟩, HB.out⟩
set_option maxRecDepth 100000 in
set_option maxHeartbeats 4000000 in
theorem eachAA (a : Option Addr) (len cap : Nat) (qs : Nat → AW) (g : Nat) (bs : Array Value) (eg : ∀ args w, (callFunc g args).run Try.prog w = .ok (.enter g args) w) (Q : Nat → AW → World → Prop) (w : World) (hlen : len * 40 ≤ 281474976710656)
    (hin : len = 0 ∨ ∃ b off, a = some ⟨b, off, none⟩ ∧ ∀ j, j < len → w.cell? ⟨b, off + j * 3, none⟩ = some (.int .i64 (qs j).arr) ∧ w.cell? ⟨b, off + j * 3 + 1, none⟩ = some (.slice (qs j).ca (qs j).cl (qs j).cc) ∧ w.cell? ⟨b, off + j * 3 + 2, none⟩ = some (.int .i64 (qs j).con))
    (hcall : ∀ (j : Nat) (W : World), j < len → Below w.heap.size w W → w.heap.size < W.heap.size → Calls Try.prog g (#[(qs j).v] ++ bs) W fun e w' => (∃ u : AW, e = .returned u.v ∧ Lies W.heap.size (Q j u) w') ∧ Below W.heap.size W w') :
    Calls Try.prog 98 #[.slice a len cap, .func (.func g) #[] bs] w fun e w' => (∃ us : Nat → AW, e = .returned (.slice (some ⟨w.heap.size, 0, none⟩) len len) ∧ OutA w' w.heap.size len us len ∧ ∀ j, j < len → Lies (w.heap.size + 1) (Q j (us j)) w') ∧ Below w.heap.size w w' := by
  have HIN := hide hin
  have HCALL := hide hcall
  obtain ⟨i0, hi, hz0, hz1, hz2⟩ := info_parts info_A
  have hmk : ∀ W : World, (Instr.makeSlice 69 (.int .i64 (len : Int)) (.int .i64 (len : Int))).run Try.prog W = .ok (.slice (some ⟨W.heap.size, 0, none⟩) len len) (W.alloc (.cells (madeCells #[.int .i64 0, .slice none 0 0, .int .i64 0] (len * 3)) 68)) := fun W => by
    have := run_make (P := Try.prog) W 69 68 i0 (.agg #[.int .i64 0, .slice none 0 0, .int .i64 0]) Try.underlying69 hi hz0 .i64 .i64 len len (by omega) (by omega) (by rw [hz2]; omega) (by omega)
    simpa [hz1, Value.cells] using this
  have HROW : Hid (OutA (w.alloc (.cells (madeCells #[.int .i64 0, .slice none 0 0, .int .i64 0] (len * 3)) 68)) w.heap.size len (fun _ => ⟨0, none, 0, 0, 0⟩) 0) := ⟨fun i => (#[.int .i64 0, .slice none 0 0, .int .i64 0] : Array Value)[i % 3]!, ⟨_, World.alloc_heap_new _ _, size_madeCells _ _, fun i hi => by simp [madeCells, hi]⟩, fun j hj => by omega⟩
  have HB0 : Hid (Below w.heap.size w (w.alloc (.cells (madeCells #[.int .i64 0, .slice none 0 0, .int .i64 0] (len * 3)) 68))) := bl_new _
  clear hin hcall hi hz0 hz1 hz2
  go_enter Try.func98, Try.ntmps98
  go_wp2_with fail
  clear hmk
  go_loopw [13] (fun i wr => ∃ k : Nat, k ≤ len ∧ i = .int .i64 k ∧ (∃ us, OutA wr w.heap.size len us k ∧ ∀ j, j < k → Lies (w.heap.size + 1) (Q j (us j)) wr) ∧ Below w.heap.size w wr) (fun i _ => len - (intOf i).toNat)
  case atStart => exact ⟨0, Nat.zero_le _, rfl, ⟨_, HROW.out, fun j hj => by omega⟩, HB0.out⟩
  case round =>
    obtain ⟨k, hk, rfl, ⟨us, hT, hL⟩, hB⟩ := hrel
    have HT := hide hT
    have HL := hide hL
    have HB := hide hB
    clear HROW HB0 hL
    by_cases hlt : k < len
    · obtain ⟨b, off, rfl, hat⟩ := HIN.out.resolve_left (by omega)
      obtain ⟨c0, c1, c2⟩ := hat k hlt
      have HC0 := hide (HCALL.out k)
      obtain ⟨q, hq⟩ : ∃ q, q = qs k := ⟨_, rfl⟩
      rw [← hq] at HC0 c0 c1 c2
      have c0' := (HB.out.cell (p := ⟨b, off + k * 3, none⟩) (lt_of_cell c0)).trans c0
      have z0 := lt_of_cell c0'
      have c1' := (HB.out.cell (p := ⟨b, off + k * 3 + 1, none⟩) (lt_of_cell c1)).trans c1
      have z1 := lt_of_cell c1'
      have c2' := (HB.out.cell (p := ⟨b, off + k * 3 + 2, none⟩) (lt_of_cell c2)).trans c2
      have z2 := lt_of_cell c2'
      have hRl := hT.lt
      have B2 : Below wr.heap.size wr (wr.alloc (.cells #[.int .i64 q.arr, .slice q.ca q.cl q.cc, .int .i64 q.con] 68)) := bl_new _
      have HC := hide (HC0.out (wr.alloc (.cells #[.int .i64 q.arr, .slice q.ca q.cl q.cc, .int .i64 q.con] 68)) hlt (bl_on HB.out B2) (by rw [World.size_alloc]; omega))
      have HB2 := hide B2
      unfold AW.v  at HC
      clear hat hq B2 hT hB HC0 c0 c1 c2
      go_wp2_with fail
      refine HC.out.mono ?_
      rintro e w2 ⟨⟨u, rfl, hl⟩, hb2⟩
      have T2 := HT.out.below (bl_on HB2.out hb2)
      obtain ⟨f, r1, r2⟩ := T2
      have d0 := r1.cell (i := k * 3) (by omega)
      have y0 := r1.frozen (k * 3)
      have d1 := r1.cell (i := k * 3 + 1) (by omega)
      have y1 := r1.frozen (k * 3 + 1)
      have d2 := r1.cell (i := k * 3 + 2) (by omega)
      have y2 := r1.frozen (k * 3 + 2)
      have z3 := r1.lt
      have hsz := HB.out.size
      have HT2 := hide (OutA.snoc ⟨f, r1, r2⟩ u)
      have HLn := hide (hl.mono (N := w.heap.size + 1) (by rw [World.size_alloc]; omega))
      have HLo := hide (fun j (hj : j < k) => (HL.out j hj).below (bl_on HB2.out hb2))
      have HBb := hide (bl_on HB.out (bl_on HB2.out hb2))
      clear hb2 r1 r2 hl
      try unfold AW.v 
      go_wp2_with fail
      go_roundw
      case rel =>
        refine ⟨k + 1, by omega, by go_num, ⟨_, HT2.out, fun j hj => ?_⟩, (((HBb.out.setCell (p := ⟨w.heap.size, k * 3, none⟩) (Nat.le_refl _) _).setCell (p := ⟨w.heap.size, k * 3 + 1, none⟩) (Nat.le_refl _) _).setCell (p := ⟨w.heap.size, k * 3 + 2, none⟩) (Nat.le_refl _) _)⟩
        by_cases e : k = j
        · subst e
          simp only [if_true]
          have hl := HLn.out
          exact ((((hl).set (p := ⟨w.heap.size, k * 3, none⟩) (by simp only; omega) _).set (p := ⟨w.heap.size, k * 3 + 1, none⟩) (by simp only; omega) _).set (p := ⟨w.heap.size, k * 3 + 2, none⟩) (by simp only; omega) _)
        · simp only [if_neg (fun e' : j = k => e e'.symm)]
          have hl := HLo.out j (by omega)
          exact ((((hl).set (p := ⟨w.heap.size, k * 3, none⟩) (by simp only; omega) _).set (p := ⟨w.heap.size, k * 3 + 1, none⟩) (by simp only; omega) _).set (p := ⟨w.heap.size, k * 3 + 2, none⟩) (by simp only; omega) _)
      case measure => simp [intOf]; omega
    · obtain rfl : k = len := by omega
      clear hT hB
      go_wp2_with fail
      go_ret
      exact ⟨⟨us, rfl, HT.out, HL.out⟩, HB.out⟩
set_option maxRecDepth 100000 in
set_option maxHeartbeats 4000000 in
theorem eachSS (a : Option Addr) (len cap : Nat) (qs : Nat → SW) (g : Nat) (bs : Array Value) (eg : ∀ args w, (callFunc g args).run Try.prog w = .ok (.enter g args) w) (Q : Nat → SW → World → Prop) (w : World) (hlen : len * 128 ≤ 281474976710656)
    (hin : len = 0 ∨ ∃ b off, a = some ⟨b, off, none⟩ ∧ ∀ j, j < len → w.cell? ⟨b, off + j * 8, none⟩ = some (.slice (qs j).ba (qs j).bl (qs j).bc) ∧ w.cell? ⟨b, off + j * 8 + 1, none⟩ = some (.slice (qs j).ra (qs j).rl (qs j).rc) ∧ w.cell? ⟨b, off + j * 8 + 2, none⟩ = some (.int .i64 (qs j).kd) ∧ w.cell? ⟨b, off + j * 8 + 3, none⟩ = some (.int .i64 (qs j).va) ∧ w.cell? ⟨b, off + j * 8 + 4, none⟩ = some (.int .i64 (qs j).pu.arr) ∧ w.cell? ⟨b, off + j * 8 + 5, none⟩ = some (.slice (qs j).pu.ca (qs j).pu.cl (qs j).pu.cc) ∧ w.cell? ⟨b, off + j * 8 + 6, none⟩ = some (.int .i64 (qs j).pu.con) ∧ w.cell? ⟨b, off + j * 8 + 7, none⟩ = some (.slice (qs j).ga (qs j).gl (qs j).gc))
    (hcall : ∀ (j : Nat) (W : World), j < len → Below w.heap.size w W → w.heap.size < W.heap.size → Calls Try.prog g (#[(qs j).v] ++ bs) W fun e w' => (∃ u : SW, e = .returned u.v ∧ Lies W.heap.size (Q j u) w') ∧ Below W.heap.size W w') :
    Calls Try.prog 39 #[.slice a len cap, .func (.func g) #[] bs] w fun e w' => (∃ us : Nat → SW, e = .returned (.slice (some ⟨w.heap.size, 0, none⟩) len len) ∧ OutS8 w' w.heap.size len us len ∧ ∀ j, j < len → Lies (w.heap.size + 1) (Q j (us j)) w') ∧ Below w.heap.size w w' := by
  have HIN := hide hin
  have HCALL := hide hcall
  obtain ⟨i0, hi, hz0, hz1, hz2⟩ := info_parts info_S
  have hmk : ∀ W : World, (Instr.makeSlice 23 (.int .i64 (len : Int)) (.int .i64 (len : Int))).run Try.prog W = .ok (.slice (some ⟨W.heap.size, 0, none⟩) len len) (W.alloc (.cells (madeCells #[.slice none 0 0, .slice none 0 0, .int .i64 0, .int .i64 0, .int .i64 0, .slice none 0 0, .int .i64 0, .slice none 0 0] (len * 8)) 71)) := fun W => by
    have := run_make (P := Try.prog) W 23 71 i0 (.agg #[.slice none 0 0, .slice none 0 0, .int .i64 0, .int .i64 0, .int .i64 0, .slice none 0 0, .int .i64 0, .slice none 0 0]) Try.underlying23 hi hz0 .i64 .i64 len len (by omega) (by omega) (by rw [hz2]; omega) (by omega)
    simpa [hz1, Value.cells] using this
  have HROW : Hid (OutS8 (w.alloc (.cells (madeCells #[.slice none 0 0, .slice none 0 0, .int .i64 0, .int .i64 0, .int .i64 0, .slice none 0 0, .int .i64 0, .slice none 0 0] (len * 8)) 71)) w.heap.size len (fun _ => swD) 0) := ⟨fun i => (#[.slice none 0 0, .slice none 0 0, .int .i64 0, .int .i64 0, .int .i64 0, .slice none 0 0, .int .i64 0, .slice none 0 0] : Array Value)[i % 8]!, ⟨_, World.alloc_heap_new _ _, size_madeCells _ _, fun i hi => by simp [madeCells, hi]⟩, fun j hj => by omega⟩
  have HB0 : Hid (Below w.heap.size w (w.alloc (.cells (madeCells #[.slice none 0 0, .slice none 0 0, .int .i64 0, .int .i64 0, .int .i64 0, .slice none 0 0, .int .i64 0, .slice none 0 0] (len * 8)) 71))) := bl_new _
  clear hin hcall hi hz0 hz1 hz2
  go_enter Try.func39, Try.ntmps39
  go_wp2_with fail
  clear hmk
  go_loopw [13] (fun i wr => ∃ k : Nat, k ≤ len ∧ i = .int .i64 k ∧ (∃ us, OutS8 wr w.heap.size len us k ∧ ∀ j, j < k → Lies (w.heap.size + 1) (Q j (us j)) wr) ∧ Below w.heap.size w wr) (fun i _ => len - (intOf i).toNat)
  case atStart => exact ⟨0, Nat.zero_le _, rfl, ⟨_, HROW.out, fun j hj => by omega⟩, HB0.out⟩
  case round =>
    obtain ⟨k, hk, rfl, ⟨us, hT, hL⟩, hB⟩ := hrel
    have HT := hide hT
    have HL := hide hL
    have HB := hide hB
    clear HROW HB0 hL
    by_cases hlt : k < len
    · obtain ⟨b, off, rfl, hat⟩ := HIN.out.resolve_left (by omega)
      obtain ⟨c0, c1, c2, c3, c4, c5, c6, c7⟩ := hat k hlt
      have HC0 := hide (HCALL.out k)
      obtain ⟨q, hq⟩ : ∃ q, q = qs k := ⟨_, rfl⟩
      rw [← hq] at HC0 c0 c1 c2 c3 c4 c5 c6 c7
      have c0' := (HB.out.cell (p := ⟨b, off + k * 8, none⟩) (lt_of_cell c0)).trans c0
      have z0 := lt_of_cell c0'
      have c1' := (HB.out.cell (p := ⟨b, off + k * 8 + 1, none⟩) (lt_of_cell c1)).trans c1
      have z1 := lt_of_cell c1'
      have c2' := (HB.out.cell (p := ⟨b, off + k * 8 + 2, none⟩) (lt_of_cell c2)).trans c2
      have z2 := lt_of_cell c2'
      have c3' := (HB.out.cell (p := ⟨b, off + k * 8 + 3, none⟩) (lt_of_cell c3)).trans c3
      have z3 := lt_of_cell c3'
      have c4' := (HB.out.cell (p := ⟨b, off + k * 8 + 4, none⟩) (lt_of_cell c4)).trans c4
      have z4 := lt_of_cell c4'
      have c5' := (HB.out.cell (p := ⟨b, off + k * 8 + 5, none⟩) (lt_of_cell c5)).trans c5
      have z5 := lt_of_cell c5'
      have c6' := (HB.out.cell (p := ⟨b, off + k * 8 + 6, none⟩) (lt_of_cell c6)).trans c6
      have z6 := lt_of_cell c6'
      have c7' := (HB.out.cell (p := ⟨b, off + k * 8 + 7, none⟩) (lt_of_cell c7)).trans c7
      have z7 := lt_of_cell c7'
      have hRl := hT.lt
      have B2 : Below wr.heap.size wr (wr.alloc (.cells #[.slice q.ba q.bl q.bc, .slice q.ra q.rl q.rc, .int .i64 q.kd, .int .i64 q.va, .int .i64 q.pu.arr, .slice q.pu.ca q.pu.cl q.pu.cc, .int .i64 q.pu.con, .slice q.ga q.gl q.gc] 71)) := bl_new _
      have HC := hide (HC0.out (wr.alloc (.cells #[.slice q.ba q.bl q.bc, .slice q.ra q.rl q.rc, .int .i64 q.kd, .int .i64 q.va, .int .i64 q.pu.arr, .slice q.pu.ca q.pu.cl q.pu.cc, .int .i64 q.pu.con, .slice q.ga q.gl q.gc] 71)) hlt (bl_on HB.out B2) (by rw [World.size_alloc]; omega))
      have HB2 := hide B2
      unfold SW.v  SW.cs at HC
      clear hat hq B2 hT hB HC0 c0 c1 c2 c3 c4 c5 c6 c7
      go_wp2_with fail
      refine HC.out.mono ?_
      rintro e w2 ⟨⟨u, rfl, hl⟩, hb2⟩
      have T2 := HT.out.below (bl_on HB2.out hb2)
      obtain ⟨f, r1, r2⟩ := T2
      have d0 := r1.cell (i := k * 8) (by omega)
      have y0 := r1.frozen (k * 8)
      have d1 := r1.cell (i := k * 8 + 1) (by omega)
      have y1 := r1.frozen (k * 8 + 1)
      have d2 := r1.cell (i := k * 8 + 2) (by omega)
      have y2 := r1.frozen (k * 8 + 2)
      have d3 := r1.cell (i := k * 8 + 3) (by omega)
      have y3 := r1.frozen (k * 8 + 3)
      have d4 := r1.cell (i := k * 8 + 4) (by omega)
      have y4 := r1.frozen (k * 8 + 4)
      have d5 := r1.cell (i := k * 8 + 5) (by omega)
      have y5 := r1.frozen (k * 8 + 5)
      have d6 := r1.cell (i := k * 8 + 6) (by omega)
      have y6 := r1.frozen (k * 8 + 6)
      have d7 := r1.cell (i := k * 8 + 7) (by omega)
      have y7 := r1.frozen (k * 8 + 7)
      have z3 := r1.lt
      have hsz := HB.out.size
      have HT2 := hide (OutS8.snoc ⟨f, r1, r2⟩ u)
      have HLn := hide (hl.mono (N := w.heap.size + 1) (by rw [World.size_alloc]; omega))
      have HLo := hide (fun j (hj : j < k) => (HL.out j hj).below (bl_on HB2.out hb2))
      have HBb := hide (bl_on HB.out (bl_on HB2.out hb2))
      clear hb2 r1 r2 hl
      try unfold SW.v  SW.cs
      go_wp2_with fail
      go_roundw
      case rel =>
        refine ⟨k + 1, by omega, by go_num, ⟨_, HT2.out, fun j hj => ?_⟩, ((((((((HBb.out.setCell (p := ⟨w.heap.size, k * 8, none⟩) (Nat.le_refl _) _).setCell (p := ⟨w.heap.size, k * 8 + 1, none⟩) (Nat.le_refl _) _).setCell (p := ⟨w.heap.size, k * 8 + 2, none⟩) (Nat.le_refl _) _).setCell (p := ⟨w.heap.size, k * 8 + 3, none⟩) (Nat.le_refl _) _).setCell (p := ⟨w.heap.size, k * 8 + 4, none⟩) (Nat.le_refl _) _).setCell (p := ⟨w.heap.size, k * 8 + 5, none⟩) (Nat.le_refl _) _).setCell (p := ⟨w.heap.size, k * 8 + 6, none⟩) (Nat.le_refl _) _).setCell (p := ⟨w.heap.size, k * 8 + 7, none⟩) (Nat.le_refl _) _)⟩
        by_cases e : k = j
        · subst e
          simp only [if_true]
          have hl := HLn.out
          exact (((((((((hl).set (p := ⟨w.heap.size, k * 8, none⟩) (by simp only; omega) _).set (p := ⟨w.heap.size, k * 8 + 1, none⟩) (by simp only; omega) _).set (p := ⟨w.heap.size, k * 8 + 2, none⟩) (by simp only; omega) _).set (p := ⟨w.heap.size, k * 8 + 3, none⟩) (by simp only; omega) _).set (p := ⟨w.heap.size, k * 8 + 4, none⟩) (by simp only; omega) _).set (p := ⟨w.heap.size, k * 8 + 5, none⟩) (by simp only; omega) _).set (p := ⟨w.heap.size, k * 8 + 6, none⟩) (by simp only; omega) _).set (p := ⟨w.heap.size, k * 8 + 7, none⟩) (by simp only; omega) _)
        · simp only [if_neg (fun e' : j = k => e e'.symm)]
          have hl := HLo.out j (by omega)
          exact (((((((((hl).set (p := ⟨w.heap.size, k * 8, none⟩) (by simp only; omega) _).set (p := ⟨w.heap.size, k * 8 + 1, none⟩) (by simp only; omega) _).set (p := ⟨w.heap.size, k * 8 + 2, none⟩) (by simp only; omega) _).set (p := ⟨w.heap.size, k * 8 + 3, none⟩) (by simp only; omega) _).set (p := ⟨w.heap.size, k * 8 + 4, none⟩) (by simp only; omega) _).set (p := ⟨w.heap.size, k * 8 + 5, none⟩) (by simp only; omega) _).set (p := ⟨w.heap.size, k * 8 + 6, none⟩) (by simp only; omega) _).set (p := ⟨w.heap.size, k * 8 + 7, none⟩) (by simp only; omega) _)
      case measure => simp [intOf]; omega
    · obtain rfl : k = len := by omega
      clear hT hB
      go_wp2_with fail
      go_ret
      exact ⟨⟨us, rfl, HT.out, HL.out⟩, HB.out⟩
end Go.Proofs.Ytoidgdbgpbcebaa.V
namespace Go.Proofs.Ytoidgdbgpbcebaa.V
open Go.RowKit
set_option linter.unusedVariables false

theorem info_lists : (Try.prog.info? 22).map (fun i => (i.zero, i.size, i.bytes)) = some (some (.slice none 0 0), 1, 24) := by kernel_rfl
/-- It begins where its block does. -/
def Flush (a : Option Addr) : Prop := ∀ b o, a = some ⟨b, o, none⟩ → o = 0
/-- The values of a row of lists. -/
def VL (w : World) (vs : List Value) (L : List (List Int)) : Prop := vs.length = L.length ∧ ∀ i, i < L.length → ∃ a l c, vs[i]? = some (.slice a l c) ∧ Lst w a l c (L[i]?.getD []) ∧ Flush a
theorem VL.below {w w' : World} {vs : List Value} {L : List (List Int)} (h : VL w vs L) (hb : Below w.heap.size w w') : VL w' vs L := ⟨h.1, fun i hi => by obtain ⟨a, l, c, h1, h2, h3⟩ := h.2 i hi; exact ⟨a, l, c, h1, h2.below hb, h3⟩⟩
/-- A list of lists of the call's own. -/
def OutL (w : World) (B : Nat) (v : Value) (L : List (List Int)) : Prop := ∃ vs, w.ownsRow B 22 1 v L.length vs ∧ VL w vs L ∧ (v = .slice none 0 0 ∨ L ≠ [])
theorem OutL.nil (w : World) (B : Nat) : OutL w B (.slice none 0 0) [] := ⟨[], World.ownsRow_nil _ _ _ _, ⟨rfl, fun i hi => by simp at hi⟩, .inl rfl⟩
theorem OutL.below {w w' : World} {B : Nat} {v : Value} {L : List (List Int)} (h : OutL w B v L) (hb : Below w.heap.size w w') : OutL w' B v L := by
  obtain ⟨vs, h1, h2, h3⟩ := h
  exact ⟨vs, own_below h1 hb, h2.below hb, h3⟩
theorem ints_no_own {w : World} {a : Option Addr} {len B : Nat} {xs : List Int} {v : Value} {L : List (List Int)} {vs : List Value} (h : Ints w a len xs) (ha : Flush a) (ho : w.ownsRow B 22 1 v L.length vs) (hv : VL w vs L) (hn : v = .slice none 0 0 ∨ L ≠ []) (h0 : 0 < len) : ∃ b, a = some ⟨b, 0, none⟩ ∧ b < w.heap.size ∧ some b ≠ v.ownBlock := by
  obtain ⟨b, off, e, hb, hc⟩ := h.at h0
  obtain rfl := ha b off e
  refine ⟨b, e, hb, fun ev => ?_⟩
  rcases ho.2 with ⟨rfl, _⟩ | ⟨g', cap, cur, rfl, _, hbk, _, _, hsz, ht⟩
  · simp [Value.ownBlock] at ev
  · obtain rfl : b = g' := by simpa [Value.ownBlock] using ev
    rcases hn with hn | hn
    · cases hn
    have hL : 0 < L.length := by
      cases L with
      | nil => exact absurd rfl hn
      | cons x r => simp
    have h1 := hc 0 h0
    obtain ⟨a', l', c', h2, _⟩ := hv.2 0 hL
    rw [← ht] at h2
    have h3 : cur[0]? = some (.slice a' l' c') := by
      rw [List.getElem?_take] at h2
      split at h2
      · simpa using h2
      · cases h2
    simp [World.cell?, hbk, h3] at h1
theorem lst_kept {w w1 : World} {o : Obj} {a : Option Addr} {len c B : Nat} {xs : List Int} {v : Value} {L : List (List Int)} {vs : List Value} (h : Lst w a len c xs) (ha : Flush a) (ho : w.ownsRow B 22 1 v L.length vs) (hv : VL w vs L) (hn : v = .slice none 0 0 ∨ L ≠ []) (hg : (w.alloc o).grownBy w1 v.ownBlock) : Lst w1 a len c xs := by
  obtain ⟨⟨h1, h2, h3, h4⟩, h5, h6⟩ := h
  refine ⟨⟨h1, h2, h3, ?_⟩, h5, h6⟩
  by_cases h0 : len = 0
  · exact .inl h0
  · obtain ⟨b, e, hb, hne⟩ := ints_no_own ⟨h1, h2, h3, h4⟩ ha ho hv hn (by omega)
    rcases h4 with h4 | ⟨b', off, e', hc⟩
    · exact .inl h4
    · rw [e] at e'
      cases e'
      refine .inr ⟨b, 0, e, fun j hj => ?_⟩
      have k1 : w1.heap[b]? = (w.alloc o).heap[b]? := hg.block b (by simp; omega) hne
      have k2 : (w.alloc o).heap[b]? = w.heap[b]? := Below.heap_alloc _ _ _ hb
      exact (World.cell?_of_block (w := w) (k1.trans k2)).trans (hc j hj)
theorem OutL.snoc {w w1 : World} {o : Obj} {B : Nat} {v v' : Value} {L : List (List Int)} {vs : List Value} {a : Option Addr} {l c : Nat} {xs : List Int} (ho : w.ownsRow B 22 1 v L.length vs) (hv : VL w vs L) (hn : v = .slice none 0 0 ∨ L ≠ []) (hx : Lst w a l c xs) (ha : Flush a)
    (hown : w1.ownsRow B 22 1 v' (L.length + 1) (vs ++ [.slice a l c])) (hg : (w.alloc o).grownBy w1 v.ownBlock) : OutL w1 B v' (L ++ [xs]) := by
  refine ⟨vs ++ [.slice a l c], by rw [List.length_append]; exact hown, ⟨by simp [hv.1], fun i hi => ?_⟩, .inr (by simp)⟩
  by_cases hi' : i < L.length
  · obtain ⟨a', l', c', h1, h2, h3⟩ := hv.2 i hi'
    refine ⟨a', l', c', by rw [List.getElem?_append_left (by rw [hv.1]; exact hi')]; exact h1, ?_, h3⟩
    rw [List.getElem?_append_left hi']
    exact lst_kept h2 h3 ho hv hn hg
  · have e : i = L.length := by simp at hi; omega
    subst e
    refine ⟨a, l, c, by rw [List.getElem?_append_right (by rw [hv.1]; exact Nat.le_refl _)]; simp [hv.1], ?_, ha⟩
    rw [List.getElem?_append_right (Nat.le_refl _)]
    simp only [Nat.sub_self, List.getElem?_cons_zero, Option.getD_some]
    exact lst_kept hx ha ho hv hn hg
theorem OutL.grownB {w w1 wr : World} {o : Obj} {B : Nat} {v : Value} {n : Nat} {vs : List Value} (hB : Below B w wr) (hBs : B ≤ wr.heap.size) (ho : wr.ownsRow B 22 1 v n vs) (hg : (wr.alloc o).grownBy w1 v.ownBlock) : Below B w w1 :=
  (hB.alloc hBs o).grown hg (by simp; omega) (fun j e => (ho.lt j e).1)
/-- append(out, list): out of the call's own; the new list lies in a block of one cell. -/
theorem append_lists {w : World} {ops : Array Oper} {rest : List Oper} {op : Oper} {a : Act} {Q : Exit → Act → World → Prop} (hgd : op.guard = none) (s x : Operand)
    (ho : op.op = .call { callee := .builtin .append, args := #[s, x], argTypes := #[112, 112] }) (B : Nat)
    (v : Value) (L : List (List Int)) (hs : a.eval s = v) (X : Option Addr) (l c : Nat) (xs : List Int) (hout : OutL w B v L) (hX : Lst w X l c xs) (hf : Flush X)
    (hx : a.eval x = .slice (some ⟨w.heap.size, 0, none⟩) 1 1) (hbytes : (L.length + 1) * 24 ≤ 140737488355328) (hB : B ≤ w.heap.size)
    (h : ∀ v' w', OutL w' B v' (L ++ [xs]) → Below B w w' → wpList Try.prog ops Q rest (a.put op.dst v') w') :
    wpList Try.prog ops Q (op :: rest) a (w.alloc (.cells #[.slice X l c] 22)) := by
  obtain ⟨vs, h1, h2, h3⟩ := hout
  obtain ⟨i0, hi, hz0, hz1, hz2⟩ := info_parts info_lists
  refine wpList_append_own _ hgd s x 112 ho B 22 i0 (.slice none 0 0) 1 24 Try.underlying112 hi hz0 hz1 hz2 rfl (by decide) v L.length vs hs (h1.alloc _) ⟨w.heap.size, 0, none⟩ 1 1 [.slice X l c] hx rfl ?_ ?_ (by unfold maxLen; omega) hbytes (by simp; omega) (fun v' w' k1 k2 _ => h v' w' (OutL.snoc h1 h2 h3 hX hf k1 k2) (OutL.grownB (Below.refl _ _) hB h1 k2))
  · intro j u hj
    have hjl : j = 0 := by have := (List.getElem?_eq_some_iff.1 hj).1; simp at this; exact this
    subst hjl
    simp at hj
    rw [← hj, Go.WideShapes.add_plain]
    show (w.alloc (.cells #[.slice X l c] 22)).cell? ⟨w.heap.size, 0 + 0, none⟩ = _
    unfold World.cell?
    rw [World.alloc_heap_new w (.cells #[.slice X l c] 22)]
    rfl
  · intro u hu; simp at hu; subst hu; rfl
/-- What a caller reads of it. -/
def LL (w : World) (A : Option Addr) (n : Nat) (L : List (List Int)) : Prop := L.length = n ∧ (n = 0 ∨ ∃ b off, A = some ⟨b, off, none⟩ ∧ ∀ i, i < n → ∃ a l c, w.cell? ⟨b, off + i, none⟩ = some (.slice a l c) ∧ Lst w a l c (L[i]?.getD []) ∧ Flush a)
theorem LL.below {w w' : World} {A : Option Addr} {n : Nat} {L : List (List Int)} (h : LL w A n L) (hb : Below w.heap.size w w') : LL w' A n L := by
  obtain ⟨h1, h2⟩ := h
  refine ⟨h1, ?_⟩
  rcases h2 with h2 | ⟨b, off, e, h⟩
  · exact .inl h2
  · refine .inr ⟨b, off, e, fun i hi => ?_⟩
    obtain ⟨a, l, c, k1, k2, k3⟩ := h i hi
    exact ⟨a, l, c, (hb.cell (p := ⟨b, off + i, none⟩) (lt_of_cell k1)).trans k1, k2.below hb, k3⟩
theorem OutL.ll {w : World} {B : Nat} {v : Value} {L : List (List Int)} (h : OutL w B v L) : ∃ A c, v = .slice A L.length c ∧ LL w A L.length L ∧ L.length ≤ c := by
  obtain ⟨vs, h1, h2, h3⟩ := h
  have h1' := h1
  rcases h1.2 with ⟨e1, e2⟩ | ⟨g, cap, cur, rfl, _, _, hcap, _⟩
  · refine ⟨none, 0, by rw [e1, e2], ⟨rfl, .inl e2⟩, by omega⟩
  · refine ⟨_, cap, rfl, ⟨rfl, .inr ⟨g, 0, rfl, fun i hi => ?_⟩⟩, hcap⟩
    obtain ⟨a, l, c, k1, k2, k3⟩ := h2.2 i hi
    exact ⟨a, l, c, by rw [Nat.zero_add, h1'.cellAt i (by omega)]; exact k1, k2, k3⟩
theorem lst_of_own {w : World} {B : Nat} {v : Value} {n : Nat} {xs : List Int} (h : w.ownsRow B 3 1 v n (xs.map (Value.int .i64))) (hl : xs.length = n) (hm : n ≤ 9223372036854775807) (hb : ∀ x ∈ xs, -9223372036854775808 ≤ x ∧ x ≤ 9223372036854775807) : ∃ X c, v = .slice X n c ∧ Lst w X n c xs ∧ Flush X := by
  rcases h.2 with ⟨rfl, h2⟩ | ⟨g, cap, cur, rfl, h3, _, h4, _⟩
  · have e : xs = [] := by rw [← List.length_eq_zero_iff]; omega
    subst e
    exact ⟨none, 0, by rw [h2], ⟨⟨hl, hm, hb, .inl h2⟩, by omega, fun _ => rfl⟩, fun b o e => by cases e⟩
  · exact ⟨_, _, rfl, ⟨ints_of_own h hl hm hb, h4, fun e => by cases e⟩, fun b o e => by cases e; rfl⟩
theorem own_one (W : World) (B : Nat) (t : TypeId) (u : Value) (hB : B ≤ W.heap.size) : (W.alloc (.cells #[u] t)).ownsRow B t 1 (.slice (some ⟨W.heap.size, 0, none⟩) 1 1) 1 [u] :=
  ⟨rfl, .inr ⟨_, 1, #[u], rfl, hB, World.alloc_heap_new W _, Nat.le_refl _, by decide, rfl, rfl⟩⟩
theorem own_empty (W : World) (B : Nat) (t : TypeId) (hB : B ≤ W.heap.size) : (W.alloc (.cells #[] t)).ownsRow B t 1 (.slice (some ⟨W.heap.size, 0, none⟩) 0 0) 0 [] :=
  ⟨rfl, .inr ⟨_, 0, #[], rfl, hB, World.alloc_heap_new W _, Nat.le_refl _, by decide, rfl, rfl⟩⟩
theorem LL.at {w : World} {A : Option Addr} {n : Nat} {L : List (List Int)} (h : LL w A n L) (h0 : 0 < n) : ∃ b off, A = some ⟨b, off, none⟩ ∧ ∀ i, i < n → ∃ a l c, w.cell? ⟨b, off + i, none⟩ = some (.slice a l c) ∧ Lst w a l c (L[i]?.getD []) ∧ Flush a := by
  rcases h.2 with h2 | h2
  · omega
  · exact h2
end Go.Proofs.Ytoidgdbgpbcebaa.V
