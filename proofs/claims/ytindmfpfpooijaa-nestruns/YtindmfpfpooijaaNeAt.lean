/-
  Nests in memory.
-/
import Derived.Test.YtindmfpfpooijaaNeMath
import Derived.Test.YtindmfpfpooijaaLsts
namespace Go.Proofs.Ytindmfpfpooijaa.V
open Go.RowKit
set_option linter.unusedVariables false

/-- An access in memory: three cells. -/
def AccAt (w : World) (b o : Nat) (q : Acc) : Prop := w.cell? ⟨b, o, none⟩ = some (.int .i64 q.1) ∧ RowAt w b (o + 1) q.2 ∧ B64 q.1
theorem AccAt.below {w w' : World} {b o : Nat} {q : Acc} (h : AccAt w b o q) (hb : Below w.heap.size w w') : AccAt w' b o q :=
  ⟨(hb.cell (p := ⟨b, o, none⟩) (lt_of_cell h.1)).trans h.1, h.2.1.below hb, h.2.2⟩
/-- A list of accesses. -/
def Accs (w : World) (a : Option Addr) (len : Nat) (gs : List Acc) : Prop := gs.length = len ∧ len ≤ 9223372036854775807 ∧ (len = 0 ∨ ∃ b off, a = some ⟨b, off, none⟩ ∧ ∀ j, j < len → AccAt w b (off + j * 3) (gs[j]?.getD accD))
theorem Accs.below {w w' : World} {a : Option Addr} {len : Nat} {gs : List Acc} (h : Accs w a len gs) (hb : Below w.heap.size w w') : Accs w' a len gs := by
  obtain ⟨h1, h2, h3⟩ := h
  refine ⟨h1, h2, ?_⟩
  rcases h3 with h3 | ⟨b, off, e, h⟩
  · exact .inl h3
  · exact .inr ⟨b, off, e, fun j hj => (h j hj).below hb⟩
theorem Accs.at {w : World} {a : Option Addr} {len : Nat} {gs : List Acc} (h : Accs w a len gs) (h0 : 0 < len) : ∃ b off, a = some ⟨b, off, none⟩ ∧ ∀ j, j < len → AccAt w b (off + j * 3) (gs[j]?.getD accD) := by
  rcases h.2.2 with h3 | h3
  · omega
  · exact h3
theorem mem_getA (gs : List Acc) (k : Nat) (h : k < gs.length) : gs[k]?.getD accD ∈ gs := by simp [h]
theorem mem_getS (ss : List Stm) (k : Nat) (h : k < ss.length) : ss[k]?.getD stmD ∈ ss := by simp [h]

/-- The words of an access. -/
structure AW where
  arr : Int
  ca : Option Addr
  cl : Nat
  cc : Nat
  con : Int
def AW.v (q : AW) : Value := .agg #[.int .i64 q.arr, .slice q.ca q.cl q.cc, .int .i64 q.con]
def AW.blk (q : AW) (w : World) (b : Nat) : Prop := w.heap[b]? = some (.cells #[.int .i64 q.arr, .slice q.ca q.cl q.cc, .int .i64 q.con] 43 (0, 0))
structure AG (w : World) (q : AW) (a : Acc) : Prop where
  arr : q.arr = a.1
  con : q.con = a.2.2
  coef : Ints w q.ca q.cl a.2.1
  cap : q.cl ≤ q.cc ∧ (q.ca = none → q.cc = 0)
  bd : B64 a.1 ∧ B64 a.2.2
theorem AG.below {w w' : World} {q : AW} {a : Acc} (h : AG w q a) (hb : Below w.heap.size w w') : AG w' q a := ⟨h.arr, h.con, h.coef.below hb, h.cap, h.bd⟩
theorem AccAt.words {w : World} {b o : Nat} {a : Acc} (h : AccAt w b o a) : ∃ q : AW, AG w q a ∧ w.cell? ⟨b, o, none⟩ = some (.int .i64 q.arr) ∧ w.cell? ⟨b, o + 1, none⟩ = some (.slice q.ca q.cl q.cc) ∧ w.cell? ⟨b, o + 2, none⟩ = some (.int .i64 q.con) := by
  obtain ⟨h1, ⟨x, l, c, h2, h3, h4, h5, h6⟩, h7⟩ := h
  exact ⟨⟨a.1, x, l, c, a.2.2⟩, ⟨rfl, rfl, h4, h5, h7, h6⟩, h1, h2, h3⟩
theorem AW.blk.cells {q : AW} {w : World} {b : Nat} (h : q.blk w b) : w.cell? ⟨b, 0, none⟩ = some (.int .i64 q.arr) ∧ w.cell? ⟨b, 1, none⟩ = some (.slice q.ca q.cl q.cc) ∧ w.cell? ⟨b, 2, none⟩ = some (.int .i64 q.con) := by
  unfold AW.blk at h
  refine ⟨?_, ?_, ?_⟩ <;> simp [World.cell?, h]
theorem AW.blk.lt {q : AW} {w : World} {b : Nat} (h : q.blk w b) : b < w.heap.size := (Array.getElem?_eq_some_iff.1 h).1
theorem AW.blk.below {q : AW} {w w' : World} {b : Nat} (h : q.blk w b) (hb : Below w.heap.size w w') : q.blk w' b := (hb.block b h.lt).trans h
theorem AW.new (q : AW) (w : World) : q.blk (w.alloc (.cells #[.int .i64 q.arr, .slice q.ca q.cl q.cc, .int .i64 q.con] 43)) w.heap.size := World.alloc_heap_new w _

/-- The words of a statement. -/
structure SW where
  ba : Option Addr
  bl : Nat
  bc : Nat
  ra : Option Addr
  rl : Nat
  rc : Nat
  kd : Int
  va : Int
  pu : AW
  ga : Option Addr
  gl : Nat
  gc : Nat
def SW.cs (q : SW) : Array Value := #[.slice q.ba q.bl q.bc, .slice q.ra q.rl q.rc, .int .i64 q.kd, .int .i64 q.va, .int .i64 q.pu.arr, .slice q.pu.ca q.pu.cl q.pu.cc, .int .i64 q.pu.con, .slice q.ga q.gl q.gc]
def SW.v (q : SW) : Value := .agg q.cs
def SW.blk (q : SW) (w : World) (b : Nat) : Prop := w.heap[b]? = some (.cells q.cs 46 (0, 0))
structure SG (w : World) (q : SW) (s : Stm) : Prop where
  box : Lst w q.ba q.bl q.bc s.box
  rows : Rws w q.ra q.rl s.rows
  kd : q.kd = s.kind
  va : q.va = s.val
  put : AG w q.pu s.put
  gets : Accs w q.ga q.gl s.gets
  bd : B64 s.kind ∧ B64 s.val
theorem SG.below {w w' : World} {q : SW} {s : Stm} (h : SG w q s) (hb : Below w.heap.size w w') : SG w' q s := ⟨h.box.below hb, h.rows.below hb, h.kd, h.va, h.put.below hb, h.gets.below hb, h.bd⟩
theorem SW.blk.cells {q : SW} {w : World} {b : Nat} (h : q.blk w b) : w.cell? ⟨b, 0, none⟩ = some (.slice q.ba q.bl q.bc) ∧ w.cell? ⟨b, 1, none⟩ = some (.slice q.ra q.rl q.rc) ∧ w.cell? ⟨b, 2, none⟩ = some (.int .i64 q.kd) ∧ w.cell? ⟨b, 3, none⟩ = some (.int .i64 q.va) ∧ w.cell? ⟨b, 4, none⟩ = some (.int .i64 q.pu.arr) ∧ w.cell? ⟨b, 5, none⟩ = some (.slice q.pu.ca q.pu.cl q.pu.cc) ∧ w.cell? ⟨b, 6, none⟩ = some (.int .i64 q.pu.con) ∧ w.cell? ⟨b, 7, none⟩ = some (.slice q.ga q.gl q.gc) := by
  unfold SW.blk SW.cs at h
  refine ⟨?_, ?_, ?_, ?_, ?_, ?_, ?_, ?_⟩ <;> simp [World.cell?, h]
theorem SW.blk.lt {q : SW} {w : World} {b : Nat} (h : q.blk w b) : b < w.heap.size := (Array.getElem?_eq_some_iff.1 h).1
theorem SW.blk.below {q : SW} {w w' : World} {b : Nat} (h : q.blk w b) (hb : Below w.heap.size w w') : q.blk w' b := (hb.block b h.lt).trans h
theorem SW.new (q : SW) (w : World) : q.blk (w.alloc (.cells q.cs 46)) w.heap.size := World.alloc_heap_new w _
/-- A statement in memory: eight cells. -/
def StmAt (w : World) (b o : Nat) (s : Stm) : Prop := ∃ q : SW, SG w q s ∧ w.cell? ⟨b, o, none⟩ = some (.slice q.ba q.bl q.bc) ∧ w.cell? ⟨b, o + 1, none⟩ = some (.slice q.ra q.rl q.rc) ∧ w.cell? ⟨b, o + 2, none⟩ = some (.int .i64 q.kd) ∧ w.cell? ⟨b, o + 3, none⟩ = some (.int .i64 q.va) ∧ w.cell? ⟨b, o + 4, none⟩ = some (.int .i64 q.pu.arr) ∧ w.cell? ⟨b, o + 5, none⟩ = some (.slice q.pu.ca q.pu.cl q.pu.cc) ∧ w.cell? ⟨b, o + 6, none⟩ = some (.int .i64 q.pu.con) ∧ w.cell? ⟨b, o + 7, none⟩ = some (.slice q.ga q.gl q.gc)
theorem StmAt.below {w w' : World} {b o : Nat} {s : Stm} (h : StmAt w b o s) (hb : Below w.heap.size w w') : StmAt w' b o s := by
  obtain ⟨q, h, c0, c1, c2, c3, c4, c5, c6, c7⟩ := h
  exact ⟨q, h.below hb, (hb.cell (p := ⟨b, o, none⟩) (lt_of_cell c0)).trans c0, (hb.cell (p := ⟨b, o + 1, none⟩) (lt_of_cell c1)).trans c1, (hb.cell (p := ⟨b, o + 2, none⟩) (lt_of_cell c2)).trans c2, (hb.cell (p := ⟨b, o + 3, none⟩) (lt_of_cell c3)).trans c3, (hb.cell (p := ⟨b, o + 4, none⟩) (lt_of_cell c4)).trans c4, (hb.cell (p := ⟨b, o + 5, none⟩) (lt_of_cell c5)).trans c5, (hb.cell (p := ⟨b, o + 6, none⟩) (lt_of_cell c6)).trans c6, (hb.cell (p := ⟨b, o + 7, none⟩) (lt_of_cell c7)).trans c7⟩
/-- A list of statements. -/
def Stms (w : World) (a : Option Addr) (len : Nat) (ss : List Stm) : Prop := ss.length = len ∧ len ≤ 9223372036854775807 ∧ (len = 0 ∨ ∃ b off, a = some ⟨b, off, none⟩ ∧ ∀ j, j < len → StmAt w b (off + j * 8) (ss[j]?.getD stmD))
theorem Stms.below {w w' : World} {a : Option Addr} {len : Nat} {ss : List Stm} (h : Stms w a len ss) (hb : Below w.heap.size w w') : Stms w' a len ss := by
  obtain ⟨h1, h2, h3⟩ := h
  refine ⟨h1, h2, ?_⟩
  rcases h3 with h3 | ⟨b, off, e, h⟩
  · exact .inl h3
  · exact .inr ⟨b, off, e, fun j hj => (h j hj).below hb⟩
theorem Stms.at {w : World} {a : Option Addr} {len : Nat} {ss : List Stm} (h : Stms w a len ss) (h0 : 0 < len) : ∃ b off, a = some ⟨b, off, none⟩ ∧ ∀ j, j < len → StmAt w b (off + j * 8) (ss[j]?.getD stmD) := by
  rcases h.2.2 with h3 | h3
  · omega
  · exact h3
/-- A nest's two words in a block. -/
def NsBlk (w : World) (b : Nat) (za : Option Addr) (zl zc : Nat) (ta : Option Addr) (tl tc : Nat) : Prop := w.heap[b]? = some (.cells #[.slice za zl zc, .slice ta tl tc] 25 (0, 0))
theorem NsBlk.cells {w : World} {b : Nat} {za : Option Addr} {zl zc : Nat} {ta : Option Addr} {tl tc : Nat} (h : NsBlk w b za zl zc ta tl tc) : w.cell? ⟨b, 0, none⟩ = some (.slice za zl zc) ∧ w.cell? ⟨b, 1, none⟩ = some (.slice ta tl tc) := by
  unfold NsBlk at h
  refine ⟨?_, ?_⟩ <;> simp [World.cell?, h]
theorem NsBlk.lt {w : World} {b : Nat} {za : Option Addr} {zl zc : Nat} {ta : Option Addr} {tl tc : Nat} (h : NsBlk w b za zl zc ta tl tc) : b < w.heap.size := (Array.getElem?_eq_some_iff.1 h).1
theorem NsBlk.below {w w' : World} {b : Nat} {za : Option Addr} {zl zc : Nat} {ta : Option Addr} {tl tc : Nat} (h : NsBlk w b za zl zc ta tl tc) (hb : Below w.heap.size w w') : NsBlk w' b za zl zc ta tl tc := (hb.block b h.lt).trans h
theorem NsBlk.new (w : World) (za : Option Addr) (zl zc : Nat) (ta : Option Addr) (tl tc : Nat) : NsBlk (w.alloc (.cells #[.slice za zl zc, .slice ta tl tc] 25)) w.heap.size za zl zc ta tl tc := World.alloc_heap_new w _
end Go.Proofs.Ytindmfpfpooijaa.V
