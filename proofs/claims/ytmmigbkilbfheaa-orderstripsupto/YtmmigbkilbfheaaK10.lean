/-
  Lists as values; append of a list to one of the call's own. Nests in memory. Several rows and boxes of the call's own, no two in one block. Memory of a nest: arrays in blocks of their own. Does memory fit a nest? Orders: what Strip tells; strips change nothing. What lies in blocks that a call has made: it stays, whatever is done to elder blocks. The cells of rows. Lists of lists of numbers: one that the call makes, one list behind the other.
-/
import Derived.Test.YtmmigbkilbfheaaK9
import Derived.Laws.AppendOwnNone
import Derived.Test.YtmmigbkilbfheaaK8
import Derived.Test.YtmmigbkilbfheaaK3
import Derived.Maps.AppendAt
import Derived.Test.YtmmigbkilbfheaaK7
namespace Go.Proofs.Ytmmigbkilbfheaa.V
open Go.RowKit

/-- A list as a value. -/
def Lst (w : World) (X : Option Addr) (n c : Nat) (xs : List Int) : Prop := Ints w X n xs ∧ n ≤ c ∧ (X = none → c = 0)
theorem Lst.below {w w' : World} {X : Option Addr} {n c : Nat} {xs : List Int} (h : Lst w X n c xs) (hb : Below w.heap.size w w') : Lst w' X n c xs := ⟨h.1.below hb, h.2⟩
/-- append(out, list...), out of the call's own. -/
theorem append_list {w : World} {ops : Array Oper} {rest : List Oper} {o : Oper} {a : Act} {Q : Exit → Act → World → Prop} (hgd : o.guard = none) (s x : Operand)
    (ho : o.op = .call { callee := .builtin .append, args := #[s, x], argTypes := #[22, 22] }) (base : Nat)
    (v : Value) (n : Nat) (xs : List Value) (hs : a.eval s = v) (hown : w.ownsRow base 3 1 v n xs)
    (X : Option Addr) (m c : Nat) (ys : List Int) (hx : a.eval x = .slice X m c) (hl : Lst w X m c ys) (hbytes : (n + m) * 8 ≤ 140737488355328) (hbase : base ≤ w.heap.size)
    (h : ∀ v' w', w'.ownsRow base 3 1 v' (n + m) (xs ++ ys.map (Value.int .i64)) → w.grownBy w' v.ownBlock → wpList Try.prog ops Q rest (a.put o.dst v') w') : wpList Try.prog ops Q (o :: rest) a w := by
  obtain ⟨i0, hi, hz0, hz1, hz2⟩ := info_parts info_int
  obtain ⟨hI, hmc, hnc⟩ := hl
  cases X with
  | none =>
    have hm0 : m = 0 := by
      rcases hI.2.2.2 with e | ⟨b, off, e, _⟩
      · exact e
      · cases e
    obtain rfl := hm0
    obtain rfl := hnc rfl
    have hys : ys = [] := by rw [← List.length_eq_zero_iff]; exact hI.1
    subst hys
    refine wpList_append_own_none hgd s x 22 ho base 3 i0 1 Try.underlying22 hi v n xs hs hown hx ?_
    exact h v w (by simpa using hown) (World.grownBy.refl w _)
  | some ad =>
    refine wpList_append_own w hgd s x 22 ho base 3 i0 (.int .i64 0) 1 8 Try.underlying22 hi hz0 hz1 hz2 rfl (by decide) v n xs hs hown ad m c (ys.map (Value.int .i64)) hx (by simp [hI.1]) ?_ ?_ (by unfold maxLen; omega) hbytes hbase (fun v' w' h1 h2 _ => h v' w' h1 h2)
    · intro j u hj
      have hjl : j < m := by have := (List.getElem?_eq_some_iff.1 hj).1; simpa [hI.1] using this
      obtain ⟨b, off, e, _, hc⟩ := hI.at (by omega)
      cases e
      have h3 : u = .int .i64 (ys[j]?.getD 0) := by
        have : j < ys.length := by rw [hI.1]; exact hjl
        simp [this] at hj ⊢
        exact hj.symm
      rw [h3, Go.WideShapes.add_plain]
      exact hc j hjl
    · intro u hu; simp at hu; obtain ⟨y, _, rfl⟩ := hu; rfl
theorem grown_own {w wr w2 : World} {t : TypeId} {n : Nat} {v : Value} {xs : List Value} (hB : Below w.heap.size w wr) (ho : wr.ownsRow w.heap.size t 1 v n xs) (hg : wr.grownBy w2 v.ownBlock) : Below w.heap.size w w2 :=
  hB.grown hg hB.size (fun j e => (ho.lt j e).1)
theorem lst_one (w : World) (x : Int) (hb : -9223372036854775808 ≤ x ∧ x ≤ 9223372036854775807) (t : TypeId) : Lst (w.alloc (.cells #[.int .i64 x] t)) (some ⟨w.heap.size, 0, none⟩) 1 1 [x] := by
  refine ⟨⟨rfl, by omega, fun y hy => ?_, .inr ⟨_, _, rfl, fun j hj => ?_⟩⟩, Nat.le_refl _, fun e => by cases e⟩
  · have : y = x := by simpa using hy
    rw [this]; exact hb
  · have : j = 0 := by omega
    subst this
    show (w.alloc (.cells #[.int .i64 x] t)).cell? ⟨w.heap.size, 0, none⟩ = _
    unfold World.cell?
    rw [World.alloc_heap_new w (.cells #[.int .i64 x] t)]
    rfl
end Go.Proofs.Ytmmigbkilbfheaa.V
namespace Go.Proofs.Ytmmigbkilbfheaa.V
open Go.RowKit
set_option linter.unusedVariables false

/-- An access in memory: three cells. -/
def AccAt (w : World) (b o : Nat) (q : Acc) : Prop := w.cell? ⟨b, o, none⟩ = some (.int .i64 q.1) ∧ RowAt w b (o + 1) q.2 ∧ B64 q.1
theorem AccAt.below {w w' : World} {b o : Nat} {q : Acc} (h : AccAt w b o q) (hb : Below w.heap.size w w') : AccAt w' b o q :=
  ⟨(hb.cell (p := ⟨b, o, none⟩) (lt_of_cell h.1)).trans h.1, h.2.1.below hb, h.2.2⟩
/-- A list of accesses. -/
def Accs (w : World) (a : Option Addr) (len : Nat) (gs : List Acc) : Prop := gs.length = len ∧ len ≤ 9223372036854775807 ∧ (len = 0 ∨ ∃ b off, a = some ⟨b, off, none⟩ ∧ ∀ j, j < len → AccAt w b (off + j * 3) (gs[j]?.getD accD))
theorem Accs.below {w w' : World} {a : Option Addr} {len : Nat} {gs : List Acc} (h : Accs w a len gs) (hb : Below w.heap.size w w') : Accs w' a len gs := by
  obtain ⟨h1, h2, h3⟩ := h
  refine ⟨h1, h2, ?_⟩
  rcases h3 with h3 | ⟨b, off, e, h⟩
  · exact .inl h3
  · exact .inr ⟨b, off, e, fun j hj => (h j hj).below hb⟩
theorem Accs.at {w : World} {a : Option Addr} {len : Nat} {gs : List Acc} (h : Accs w a len gs) (h0 : 0 < len) : ∃ b off, a = some ⟨b, off, none⟩ ∧ ∀ j, j < len → AccAt w b (off + j * 3) (gs[j]?.getD accD) := by
  rcases h.2.2 with h3 | h3
  · omega
  · exact h3
theorem mem_getA (gs : List Acc) (k : Nat) (h : k < gs.length) : gs[k]?.getD accD ∈ gs := by simp [h]
theorem mem_getS (ss : List Stm) (k : Nat) (h : k < ss.length) : ss[k]?.getD stmD ∈ ss := by simp [h]

/-- The words of an access. -/
structure AW where
  arr : Int
  ca : Option Addr
  cl : Nat
  cc : Nat
  con : Int
def AW.v (q : AW) : Value := .agg #[.int .i64 q.arr, .slice q.ca q.cl q.cc, .int .i64 q.con]
def AW.blk (q : AW) (w : World) (b : Nat) : Prop := w.heap[b]? = some (.cells #[.int .i64 q.arr, .slice q.ca q.cl q.cc, .int .i64 q.con] 71 (0, 0))
structure AG (w : World) (q : AW) (a : Acc) : Prop where
  arr : q.arr = a.1
  con : q.con = a.2.2
  coef : Ints w q.ca q.cl a.2.1
  cap : q.cl ≤ q.cc ∧ (q.ca = none → q.cc = 0)
  bd : B64 a.1 ∧ B64 a.2.2
theorem AG.below {w w' : World} {q : AW} {a : Acc} (h : AG w q a) (hb : Below w.heap.size w w') : AG w' q a := ⟨h.arr, h.con, h.coef.below hb, h.cap, h.bd⟩
theorem AccAt.words {w : World} {b o : Nat} {a : Acc} (h : AccAt w b o a) : ∃ q : AW, AG w q a ∧ w.cell? ⟨b, o, none⟩ = some (.int .i64 q.arr) ∧ w.cell? ⟨b, o + 1, none⟩ = some (.slice q.ca q.cl q.cc) ∧ w.cell? ⟨b, o + 2, none⟩ = some (.int .i64 q.con) := by
  obtain ⟨h1, ⟨x, l, c, h2, h3, h4, h5, h6⟩, h7⟩ := h
  exact ⟨⟨a.1, x, l, c, a.2.2⟩, ⟨rfl, rfl, h4, h5, h7, h6⟩, h1, h2, h3⟩
theorem AW.blk.cells {q : AW} {w : World} {b : Nat} (h : q.blk w b) : w.cell? ⟨b, 0, none⟩ = some (.int .i64 q.arr) ∧ w.cell? ⟨b, 1, none⟩ = some (.slice q.ca q.cl q.cc) ∧ w.cell? ⟨b, 2, none⟩ = some (.int .i64 q.con) := by
  unfold AW.blk at h
  refine ⟨?_, ?_, ?_⟩ <;> simp [World.cell?, h]
theorem AW.blk.lt {q : AW} {w : World} {b : Nat} (h : q.blk w b) : b < w.heap.size := (Array.getElem?_eq_some_iff.1 h).1
theorem AW.blk.below {q : AW} {w w' : World} {b : Nat} (h : q.blk w b) (hb : Below w.heap.size w w') : q.blk w' b := (hb.block b h.lt).trans h
theorem AW.new (q : AW) (w : World) : q.blk (w.alloc (.cells #[.int .i64 q.arr, .slice q.ca q.cl q.cc, .int .i64 q.con] 71)) w.heap.size := World.alloc_heap_new w _

/-- The words of a statement. -/
structure SW where
  ba : Option Addr
  bl : Nat
  bc : Nat
  ra : Option Addr
  rl : Nat
  rc : Nat
  kd : Int
  va : Int
  pu : AW
  ga : Option Addr
  gl : Nat
  gc : Nat
def SW.cs (q : SW) : Array Value := #[.slice q.ba q.bl q.bc, .slice q.ra q.rl q.rc, .int .i64 q.kd, .int .i64 q.va, .int .i64 q.pu.arr, .slice q.pu.ca q.pu.cl q.pu.cc, .int .i64 q.pu.con, .slice q.ga q.gl q.gc]
def SW.v (q : SW) : Value := .agg q.cs
def SW.blk (q : SW) (w : World) (b : Nat) : Prop := w.heap[b]? = some (.cells q.cs 74 (0, 0))
structure SG (w : World) (q : SW) (s : Stm) : Prop where
  box : Lst w q.ba q.bl q.bc s.box
  rows : Rws w q.ra q.rl s.rows
  kd : q.kd = s.kind
  va : q.va = s.val
  put : AG w q.pu s.put
  gets : Accs w q.ga q.gl s.gets
  bd : B64 s.kind ∧ B64 s.val
theorem SG.below {w w' : World} {q : SW} {s : Stm} (h : SG w q s) (hb : Below w.heap.size w w') : SG w' q s := ⟨h.box.below hb, h.rows.below hb, h.kd, h.va, h.put.below hb, h.gets.below hb, h.bd⟩
theorem SW.blk.cells {q : SW} {w : World} {b : Nat} (h : q.blk w b) : w.cell? ⟨b, 0, none⟩ = some (.slice q.ba q.bl q.bc) ∧ w.cell? ⟨b, 1, none⟩ = some (.slice q.ra q.rl q.rc) ∧ w.cell? ⟨b, 2, none⟩ = some (.int .i64 q.kd) ∧ w.cell? ⟨b, 3, none⟩ = some (.int .i64 q.va) ∧ w.cell? ⟨b, 4, none⟩ = some (.int .i64 q.pu.arr) ∧ w.cell? ⟨b, 5, none⟩ = some (.slice q.pu.ca q.pu.cl q.pu.cc) ∧ w.cell? ⟨b, 6, none⟩ = some (.int .i64 q.pu.con) ∧ w.cell? ⟨b, 7, none⟩ = some (.slice q.ga q.gl q.gc) := by
  unfold SW.blk SW.cs at h
  refine ⟨?_, ?_, ?_, ?_, ?_, ?_, ?_, ?_⟩ <;> simp [World.cell?, h]
theorem SW.blk.lt {q : SW} {w : World} {b : Nat} (h : q.blk w b) : b < w.heap.size := (Array.getElem?_eq_some_iff.1 h).1
theorem SW.blk.below {q : SW} {w w' : World} {b : Nat} (h : q.blk w b) (hb : Below w.heap.size w w') : q.blk w' b := (hb.block b h.lt).trans h
theorem SW.new (q : SW) (w : World) : q.blk (w.alloc (.cells q.cs 74)) w.heap.size := World.alloc_heap_new w _
/-- A statement in memory: eight cells. -/
def StmAt (w : World) (b o : Nat) (s : Stm) : Prop := ∃ q : SW, SG w q s ∧ w.cell? ⟨b, o, none⟩ = some (.slice q.ba q.bl q.bc) ∧ w.cell? ⟨b, o + 1, none⟩ = some (.slice q.ra q.rl q.rc) ∧ w.cell? ⟨b, o + 2, none⟩ = some (.int .i64 q.kd) ∧ w.cell? ⟨b, o + 3, none⟩ = some (.int .i64 q.va) ∧ w.cell? ⟨b, o + 4, none⟩ = some (.int .i64 q.pu.arr) ∧ w.cell? ⟨b, o + 5, none⟩ = some (.slice q.pu.ca q.pu.cl q.pu.cc) ∧ w.cell? ⟨b, o + 6, none⟩ = some (.int .i64 q.pu.con) ∧ w.cell? ⟨b, o + 7, none⟩ = some (.slice q.ga q.gl q.gc)
theorem StmAt.below {w w' : World} {b o : Nat} {s : Stm} (h : StmAt w b o s) (hb : Below w.heap.size w w') : StmAt w' b o s := by
  obtain ⟨q, h, c0, c1, c2, c3, c4, c5, c6, c7⟩ := h
  exact ⟨q, h.below hb, (hb.cell (p := ⟨b, o, none⟩) (lt_of_cell c0)).trans c0, (hb.cell (p := ⟨b, o + 1, none⟩) (lt_of_cell c1)).trans c1, (hb.cell (p := ⟨b, o + 2, none⟩) (lt_of_cell c2)).trans c2, (hb.cell (p := ⟨b, o + 3, none⟩) (lt_of_cell c3)).trans c3, (hb.cell (p := ⟨b, o + 4, none⟩) (lt_of_cell c4)).trans c4, (hb.cell (p := ⟨b, o + 5, none⟩) (lt_of_cell c5)).trans c5, (hb.cell (p := ⟨b, o + 6, none⟩) (lt_of_cell c6)).trans c6, (hb.cell (p := ⟨b, o + 7, none⟩) (lt_of_cell c7)).trans c7⟩
/-- A list of statements. -/
def Stms (w : World) (a : Option Addr) (len : Nat) (ss : List Stm) : Prop := ss.length = len ∧ len ≤ 9223372036854775807 ∧ (len = 0 ∨ ∃ b off, a = some ⟨b, off, none⟩ ∧ ∀ j, j < len → StmAt w b (off + j * 8) (ss[j]?.getD stmD))
theorem Stms.below {w w' : World} {a : Option Addr} {len : Nat} {ss : List Stm} (h : Stms w a len ss) (hb : Below w.heap.size w w') : Stms w' a len ss := by
  obtain ⟨h1, h2, h3⟩ := h
  refine ⟨h1, h2, ?_⟩
  rcases h3 with h3 | ⟨b, off, e, h⟩
  · exact .inl h3
  · exact .inr ⟨b, off, e, fun j hj => (h j hj).below hb⟩
theorem Stms.at {w : World} {a : Option Addr} {len : Nat} {ss : List Stm} (h : Stms w a len ss) (h0 : 0 < len) : ∃ b off, a = some ⟨b, off, none⟩ ∧ ∀ j, j < len → StmAt w b (off + j * 8) (ss[j]?.getD stmD) := by
  rcases h.2.2 with h3 | h3
  · omega
  · exact h3
/-- A nest's two words in a block. -/
def NsBlk (w : World) (b : Nat) (za : Option Addr) (zl zc : Nat) (ta : Option Addr) (tl tc : Nat) : Prop := w.heap[b]? = some (.cells #[.slice za zl zc, .slice ta tl tc] 25 (0, 0))
theorem NsBlk.cells {w : World} {b : Nat} {za : Option Addr} {zl zc : Nat} {ta : Option Addr} {tl tc : Nat} (h : NsBlk w b za zl zc ta tl tc) : w.cell? ⟨b, 0, none⟩ = some (.slice za zl zc) ∧ w.cell? ⟨b, 1, none⟩ = some (.slice ta tl tc) := by
  unfold NsBlk at h
  refine ⟨?_, ?_⟩ <;> simp [World.cell?, h]
theorem NsBlk.lt {w : World} {b : Nat} {za : Option Addr} {zl zc : Nat} {ta : Option Addr} {tl tc : Nat} (h : NsBlk w b za zl zc ta tl tc) : b < w.heap.size := (Array.getElem?_eq_some_iff.1 h).1
theorem NsBlk.below {w w' : World} {b : Nat} {za : Option Addr} {zl zc : Nat} {ta : Option Addr} {tl tc : Nat} (h : NsBlk w b za zl zc ta tl tc) (hb : Below w.heap.size w w') : NsBlk w' b za zl zc ta tl tc := (hb.block b h.lt).trans h
theorem NsBlk.new (w : World) (za : Option Addr) (zl zc : Nat) (ta : Option Addr) (tl tc : Nat) : NsBlk (w.alloc (.cells #[.slice za zl zc, .slice ta tl tc] 25)) w.heap.size za zl zc ta tl tc := World.alloc_heap_new w _
end Go.Proofs.Ytmmigbkilbfheaa.V
namespace Go.Proofs.Ytmmigbkilbfheaa.V
open Go Go.RowKit
set_option linter.unusedVariables false

def upF {α : Type} (f : Nat → α) (k : Nat) (x : α) : Nat → α := fun i => if i = k then x else f i
theorem upF_ne {α : Type} {f : Nat → α} {k i : Nat} {x : α} (h : i ≠ k) : upF f k x i = f i := if_neg h
theorem upF_eq {α : Type} {f : Nat → α} {k : Nat} {x : α} : upF f k x k = x := if_pos rfl
/-- A member: its value, the type of its block, how many cells an element has, how many elements there are, its cells. -/
structure Mb where
  v : Value
  t : TypeId
  z : Nat
  m : Nat
  c : List Value
def Mb.own (w : World) (B : Nat) (x : Mb) : Prop := w.ownsRow B x.t x.z x.v x.m x.c
structure Fm (w : World) (B n : Nat) (M : Nat → Mb) : Prop where
  row : ∀ i, i < n → (M i).own w B
  apart : ∀ i j g, i < n → j < n → (M i).v.ownBlock = some g → (M j).v.ownBlock = some g → i = j
theorem Mb.own.keep {w w1 : World} {B : Nat} {x : Mb} (h : x.own w B) (hk : ∀ g, x.v.ownBlock = some g → g < w.heap.size → w1.heap[g]? = w.heap[g]?) : x.own w1 B := by
  refine ⟨h.1, ?_⟩
  rcases h.2 with h2 | ⟨g, cap, cur, e, h4, h5, h6⟩
  · exact .inl h2
  · exact .inr ⟨g, cap, cur, e, h4, (hk g (by rw [e]; rfl) (Array.getElem?_eq_some_iff.1 h5).1).trans h5, h6⟩
theorem Mb.own.at {w : World} {B g : Nat} {x : Mb} (h : x.own w B) (e : x.v.ownBlock = some g) : B ≤ g ∧ g < w.heap.size := by
  rcases h.2 with ⟨h1, _⟩ | ⟨g', cap, cur, h1, h4, h5, h6⟩
  · rw [h1] at e; cases e
  · rw [h1] at e
    cases e
    exact ⟨h4, (Array.getElem?_eq_some_iff.1 h5).1⟩
theorem Mb.own.below {w w1 : World} {B : Nat} {x : Mb} (h : x.own w B) (hb : Below w.heap.size w w1) : x.own w1 B := h.keep fun g _ hg => hb.block g hg
theorem Mb.own.slice {w : World} {B : Nat} {x : Mb} (h : x.own w B) (h0 : 0 < x.m) : ∃ g cap, x.v = .slice (some ⟨g, 0, none⟩) x.m cap := by
  rcases h.2 with ⟨_, h1⟩ | ⟨g', cap, cur, h1, _⟩
  · omega
  · exact ⟨g', cap, h1⟩
theorem Fm.below {w w1 : World} {B n : Nat} {M : Nat → Mb} (h : Fm w B n M) (hb : Below w.heap.size w w1) : Fm w1 B n M := ⟨fun i hi => (h.row i hi).below hb, h.apart⟩
theorem Fm.congr {w : World} {B n : Nat} {M M' : Nat → Mb} (h : Fm w B n M) (he : ∀ i, i < n → M' i = M i) : Fm w B n M' :=
  ⟨fun i hi => by rw [he i hi]; exact h.row i hi, fun i j g hi hj e1 e2 => h.apart i j g hi hj (he i hi ▸ e1) (he j hj ▸ e2)⟩
theorem Fm.put {w w1 : World} {B n k : Nat} {M : Nat → Mb} {x : Mb} (h : Fm w B n M) (hk : k < n) (hg : w.grownBy w1 (M k).v.ownBlock) (hr : x.own w1 B) (ho : x.v.ownBlock = (M k).v.ownBlock ∨ ∀ g, x.v.ownBlock = some g → w.heap.size ≤ g) : Fm w1 B n (upF M k x) := by
  have key : ∀ j g, j < n → j ≠ k → x.v.ownBlock = some g → (M j).v.ownBlock = some g → False := fun j g hj hne e1 e2 => by
    rcases ho with ho | ho
    · exact hne (h.apart j k g hj hk e2 (ho ▸ e1))
    · have := ho g e1
      have := ((h.row j hj).at e2).2
      omega
  refine ⟨fun i hi => ?_, fun i j g hi hj e1 e2 => ?_⟩
  · by_cases e : i = k
    · subst e
      rw [upF_eq]
      exact hr
    · rw [upF_ne e]
      exact (h.row i hi).keep fun g hgg hlt => hg.block g hlt fun ee => e (h.apart i k g hi hk hgg ee.symm)
  · by_cases c1 : i = k
    · by_cases c2 : j = k
      · rw [c1, c2]
      · subst c1
        rw [upF_eq] at e1
        rw [upF_ne c2] at e2
        exact (key j g hj c2 e1 e2).elim
    · by_cases c2 : j = k
      · subst c2
        rw [upF_eq] at e2
        rw [upF_ne c1] at e1
        exact (key i g hi c1 e2 e1).elim
      · rw [upF_ne c1] at e1
        rw [upF_ne c2] at e2
        exact h.apart i j g hi hj e1 e2
theorem Fm.add {w w0 : World} {B n : Nat} {M : Nat → Mb} {x : Mb} (h0 : Fm w0 B n M) (h : Fm w B n M) (hr : x.own w B) (hf : ∀ g, x.v.ownBlock = some g → w0.heap.size ≤ g) : Fm w B (n + 1) (upF M n x) := by
  have hN : ∀ i g, i < n → (M i).v.ownBlock = some g → g < w0.heap.size := fun i g hi e => ((h0.row i hi).at e).2
  refine ⟨fun i hi => ?_, fun i j g hi hj e1 e2 => ?_⟩
  · by_cases e : i = n
    · subst e
      rw [upF_eq]
      exact hr
    · rw [upF_ne e]
      exact h.row i (by omega)
  · by_cases c1 : i = n
    · by_cases c2 : j = n
      · rw [c1, c2]
      · subst c1
        rw [upF_eq] at e1
        rw [upF_ne c2] at e2
        have := hN j g (by omega) e2
        have := hf g e1
        omega
    · by_cases c2 : j = n
      · subst c2
        rw [upF_eq] at e2
        rw [upF_ne c1] at e1
        have := hN i g (by omega) e1
        have := hf g e2
        omega
      · rw [upF_ne c1] at e1
        rw [upF_ne c2] at e2
        exact h.apart i j g (by omega) (by omega) e1 e2
/-- A box that is new. -/
def boxM (g : Nat) (t : TypeId) (c : List Value) : Mb := ⟨.slice (some ⟨g, 0, none⟩) 1 1, t, c.length, 1, c⟩
theorem box_own {w : World} {B g : Nat} {t : TypeId} {c : Array Value} (h : w.heap[g]? = some (.cells c t (0, 0))) (hB : B ≤ g) : (boxM g t c.toList).own w B := by
  refine ⟨by simp [boxM], .inr ⟨g, 1, c, rfl, hB, h, Nat.le_refl _, by unfold maxLen; omega, by simp [boxM], ?_⟩⟩
  simp only [boxM, Nat.one_mul]
  exact List.take_length
theorem boxM.blk {w : World} {B g : Nat} {t : TypeId} {c : List Value} (h : (boxM g t c).own w B) : ∃ cur : Array Value, w.heap[g]? = some (.cells cur t (0, 0)) ∧ cur.toList = c := by
  rcases h.2 with ⟨h1, _⟩ | ⟨g', cap, cur, h1, h4, h5, h6, h7, h8, h9⟩
  · cases h1
  · simp only [boxM, Value.slice.injEq, Option.some.injEq, Addr.mk.injEq] at h1
    obtain ⟨⟨rfl, _⟩, _, rfl⟩ := h1
    refine ⟨cur, h5, ?_⟩
    simp only [boxM] at h8 h9
    rw [List.take_of_length_le (by rw [Array.length_toList, h8]; exact Nat.le_refl _)] at h9
    exact h9
theorem boxM.cells {w : World} {B g : Nat} {t : TypeId} {c : List Value} (h : (boxM g t c).own w B) (i : Nat) : w.cell? ⟨g, i, none⟩ = c[i]? ∧ w.frozen? ⟨g, i, none⟩ = false ∧ g < w.heap.size := by
  obtain ⟨cur, h1, h2⟩ := boxM.blk h
  refine ⟨?_, by simp [World.frozen?, h1], (Array.getElem?_eq_some_iff.1 h1).1⟩
  rw [← h2]
  simp [World.cell?, h1]
/-- A store into a box. -/
theorem Fm.store {w : World} {B n k g i : Nat} {M : Nat → Mb} {t : TypeId} {c : List Value} {x : Value} (h : Fm w B n M) (hk : k < n) (e : M k = boxM g t c) : Fm (w.setCell ⟨g, i, none⟩ x) B n (upF M k (boxM g t (c.set i x))) := by
  have hr := h.row k hk
  rw [e] at hr
  obtain ⟨cur, h1, h2⟩ := boxM.blk hr
  have h3 := heap_setCell_same w g i cur t x h1
  refine h.put hk ?_ ?_ (.inl (by rw [e]; rfl))
  · rw [e]
    exact ⟨rfl, rfl, rfl, by simp, fun b hb hne => heap_setCell_other _ _ _ _ (fun ee => hne (by rw [ee]; rfl))⟩
  · have := box_own (B := B) h3 (by have := (hr.at (g := g) rfl).1; exact this)
    rw [show (cur.setIfInBounds i x).toList = c.set i x by rw [← h2]; simp] at this
    exact this
/-- append(row, thing), at the operation: the thing lies in the newest block. -/
theorem append_fm {w : World} {ops : Array Oper} {rest : List Oper} {op : Oper} {a : Act} {Q : Exit → Act → World → Prop} (hgd : op.guard = none) (s x : Operand) (sl e : TypeId) (zr : Value) (size bytes : Nat)
    (ho : op.op = .call { callee := .builtin .append, args := #[s, x], argTypes := #[sl, sl] }) (hul : Try.prog.underlying sl = some (.slice e)) (hinf : (Try.prog.info? e).map (fun i => (i.zero, i.size, i.bytes)) = some (some zr, size, bytes)) (hzs : zr.cells.size = size) (hsz : 0 < size) (hby : bytes ≤ 64)
    (B n : Nat) (M : Nat → Mb) (F : Fm w B n M) (k : Nat) (hk : k < n) (X : Mb) (hX : M k = X) (ht : X.t = e) (hz : X.z = size) (hs : a.eval s = X.v) (us : Array Value) (cnt : Nat) (hcnt : us.size = cnt * size) (hu : ∀ u ∈ us, u.oneCell' = true)
    (hx : a.eval x = .slice (some ⟨w.heap.size, 0, none⟩) cnt cnt) (hl : X.m + cnt ≤ 1000000000) (hB : B ≤ w.heap.size)
    (h : ∀ v' w', Fm w' B n (upF M k ⟨v', e, size, X.m + cnt, X.c ++ us.toList⟩) → Below B w w' → wpList Try.prog ops Q rest (a.put op.dst v') w') :
    wpList Try.prog ops Q (op :: rest) a (w.alloc (.cells us e)) := by
  obtain ⟨i0, hi, hz0, hz1, hz2⟩ := info_parts hinf
  have F2 := F.below (bl_new (.cells us e))
  have hown := F2.row k hk
  rw [hX] at hown
  unfold Mb.own at hown
  rw [ht, hz] at hown
  have hsz2 : (w.alloc (.cells us e)).heap.size = w.heap.size + 1 := by simp
  obtain ⟨v', w', hrun, q2, q3, _, q5⟩ := run_append_own_at (P := Try.prog) (w.alloc (.cells us e)) B sl op.type e i0 zr size bytes hul hi hz0 hz1 hz2 hzs hsz X.v X.m X.c hown ⟨w.heap.size, 0, none⟩ cnt cnt us.toList (by simpa using hcnt) (fun j y hj => by
      rw [Go.WideShapes.add_plain, Nat.zero_add]
      unfold World.cell?
      rw [World.alloc_heap_new w (.cells us e)]
      simpa using hj) (by simpa using hu) (by unfold maxLen; omega) (Nat.le_trans (Nat.mul_le_mul_left _ hby) (by omega)) (by rw [hsz2]; omega)
  refine wpList_plain hgd fun K hK => ?_
  unfold Oper.wp execOp
  simp only [ho, resolve, invoke, builtin, Sem.run_bind, Sem.run_pure, Result.andThen_ok, List.map_toArray, List.map_cons, List.map_nil, hs, hx, hrun]
  refine hK _ _ (h v' w' (F2.put hk (by rw [hX]; exact q3) (x := ⟨v', e, size, X.m + cnt, X.c ++ us.toList⟩) q2 ?_) ?_)
  · rcases q5 with q5 | q5
    · exact .inl (by rw [hX]; exact q5)
    · refine .inr fun g hg => ?_
      have hg2 : v'.ownBlock = some g := hg
      rw [q5] at hg2
      cases hg2
      exact Nat.le_refl _
  · have hXo := F2.row k hk
    rw [hX] at hXo
    exact ((Below.refl B w).alloc hB _).grown q3 (by rw [hsz2]; omega) (fun j e => (hXo.at e).1)
end Go.Proofs.Ytmmigbkilbfheaa.V
namespace Go.Proofs.Ytmmigbkilbfheaa.V
open Go.RowKit
set_option linter.unusedVariables false

/-- The first cells of a block hold numbers. -/
def RowN (W : World) (g c : Nat) (xs : List Int) : Prop := ∃ cur : Array Value, W.heap[g]? = some (.cells cur 2 (0, 0)) ∧ cur.size = c ∧ xs.length ≤ c ∧ ∀ j, j < xs.length → cur[j]? = some (.int .i64 (xs[j]?.getD 0))
theorem RowN.lt {W : World} {g c : Nat} {xs : List Int} (h : RowN W g c xs) : g < W.heap.size := by obtain ⟨cur, h, _⟩ := h; exact (Array.getElem?_eq_some_iff.1 h).1
theorem RowN.of_block {W W' : World} {g c : Nat} {xs : List Int} (h : RowN W g c xs) (e : W'.heap[g]? = W.heap[g]?) : RowN W' g c xs := by obtain ⟨cur, h1, h2⟩ := h; exact ⟨cur, e.trans h1, h2⟩
theorem RowN.below {W W' : World} {g c : Nat} {xs : List Int} (h : RowN W g c xs) (hb : Below W.heap.size W W') : RowN W' g c xs := h.of_block (hb.block _ h.lt)
theorem RowN.cell {W : World} {g c : Nat} {xs : List Int} (h : RowN W g c xs) {j : Nat} (hj : j < xs.length) : W.cell? ⟨g, j, none⟩ = some (.int .i64 (xs[j]?.getD 0)) := by
  obtain ⟨cur, h1, h2, h3, h4⟩ := h
  simp only [World.cell?, h1]
  exact h4 j hj
theorem RowN.frozen {W : World} {g c : Nat} {xs : List Int} (h : RowN W g c xs) (j : Nat) : W.frozen? ⟨g, j, none⟩ = false := by
  obtain ⟨cur, h1, _⟩ := h
  simp [World.frozen?, h1]
theorem RowN.set {W : World} {g c : Nat} {xs : List Int} (h : RowN W g c xs) (j : Nat) (v : Int) (hj : j < xs.length) : RowN (W.setCell ⟨g, j, none⟩ (.int .i64 v)) g c (xs.set j v) := by
  obtain ⟨cur, h1, h2, h3, h4⟩ := h
  refine ⟨cur.setIfInBounds j (.int .i64 v), ?_, by simp [h2], by simpa using h3, fun i hi => ?_⟩
  · simp [World.setCell, Array.getElem?_modify, h1]
  · have hi' : i < xs.length := by simpa using hi
    rw [Array.getElem?_setIfInBounds, List.getElem?_set]
    by_cases e : j = i
    · subst e
      rw [if_pos rfl, if_pos (by omega), if_pos rfl, if_pos hj]
      rfl
    · rw [if_neg e, if_neg e]
      exact h4 i hi'
theorem RowN.setO {W : World} {g c : Nat} {xs : List Int} (h : RowN W g c xs) {p : Addr} (hne : g ≠ p.block) (v : Value) : RowN (W.setCell p v) g c xs := h.of_block (Below.heap_setCell _ p _ g hne)
theorem RowN.ints {W : World} {g c : Nat} {xs : List Int} (h : RowN W g c xs) (hb : ∀ j : Nat, B64 (xs[j]?.getD 0)) (hm : xs.length ≤ 9223372036854775807) : Ints W (some ⟨g, 0, none⟩) xs.length xs := by
  refine ⟨rfl, hm, fun x hx => ?_, ?_⟩
  · obtain ⟨j, hj, e⟩ := List.getElem_of_mem hx
    have := hb j
    rw [List.getElem?_eq_getElem hj, e] at this
    exact this
  · by_cases h0 : xs.length = 0
    · exact .inl h0
    · exact .inr ⟨g, 0, rfl, fun j hj => by rw [Nat.zero_add]; exact h.cell hj⟩

/-- Memory: the list of arrays at a, each in a block of its own from N on. -/
structure Mems (W : World) (N : Nat) (a : Option Addr) (G C : Nat → Nat) (M : Mem) : Prop where
  head : M.length = 0 ∨ ∃ b off, a = some ⟨b, off, none⟩ ∧ ∀ k, k < M.length → W.cell? ⟨b, off + k, none⟩ = some (.slice (some ⟨G k, 0, none⟩) (arrM M k).length (C k)) ∧ G k ≠ b
  rows : ∀ k, k < M.length → RowN W (G k) (C k) (arrM M k)
  apart : ∀ i k, i < M.length → k < M.length → G i = G k → i = k
  lo : ∀ k, k < M.length → N ≤ G k
  bd : MemB M
  small : ∀ k, (arrM M k).length ≤ 65536
theorem Mems.of_blocks {W W' : World} {N : Nat} {a : Option Addr} {G C : Nat → Nat} {M : Mem} (h : Mems W N a G C M) (hb : ∀ (b : Nat) c t f, W.heap[b]? = some (Obj.cells c t f) → W'.heap[b]? = W.heap[b]?) : Mems W' N a G C M := by
  refine ⟨?_, fun k hk => ?_, h.apart, h.lo, h.bd, h.small⟩
  · rcases h.head with h0 | ⟨b, off, e, h1⟩
    · exact .inl h0
    · refine .inr ⟨b, off, e, fun k hk => ⟨?_, (h1 k hk).2⟩⟩
      have hc := (h1 k hk).1
      obtain ⟨o, ho, hcl⟩ := cells_of_cell hc
      refine (World.cell?_of_block (w := W) ?_).trans hc
      cases o with
      | cells c t f => exact hb b c t f ho
      | _ => cases hcl
  · obtain ⟨cur, h1, h2⟩ := h.rows k hk
    exact ⟨cur, (hb _ _ _ _ h1).trans h1, h2⟩
theorem Mems.below {W W' : World} {N : Nat} {a : Option Addr} {G C : Nat → Nat} {M : Mem} (h : Mems W N a G C M) (hb : Below W.heap.size W W') : Mems W' N a G C M :=
  h.of_blocks fun b c t f e => hb.block b (Array.getElem?_eq_some_iff.1 e).1
theorem Mems.at {W : World} {N : Nat} {a : Option Addr} {G C : Nat → Nat} {M : Mem} (h : Mems W N a G C M) {k : Nat} (hk : k < M.length) : ∃ b off, a = some ⟨b, off, none⟩ ∧ W.cell? ⟨b, off + k, none⟩ = some (.slice (some ⟨G k, 0, none⟩) (arrM M k).length (C k)) ∧ G k ≠ b := by
  rcases h.head with h0 | ⟨b, off, e, h1⟩
  · omega
  · exact ⟨b, off, e, h1 k hk⟩
theorem Mems.put {W : World} {N : Nat} {a : Option Addr} {G C : Nat → Nat} {M : Mem} (h : Mems W N a G C M) {k j : Nat} (hk : k < M.length) (hj : j < (arrM M k).length) {v : Int} (hv : B64 v) : Mems (W.setCell ⟨G k, j, none⟩ (.int .i64 v)) N a G C (putM M k j v) := by
  refine ⟨?_, fun i hi => ?_, fun i i' h1 h2 => ?_, fun i hi => ?_, putM_bd h.bd hv k j, fun i => by rw [arrM_put_len]; exact h.small i⟩
  · rw [putM_len]
    rcases h.head with h0 | ⟨b, off, e, h1⟩
    · exact .inl h0
    · refine .inr ⟨b, off, e, fun i hi => ⟨?_, (h1 i hi).2⟩⟩
      rw [arrM_put_len]
      exact (World.cell?_of_block (w := W) (Below.heap_setCell _ ⟨G k, j, none⟩ _ b (Ne.symm (h1 k hk).2))).trans (h1 i hi).1
  · rw [putM_len] at hi
    rw [arrM_put]
    by_cases e : i = k
    · subst e
      rw [if_pos ⟨rfl, hk⟩]
      exact (h.rows i hi).set j v hj
    · rw [if_neg (fun q => e q.1)]
      exact (h.rows i hi).setO (p := ⟨G k, j, none⟩) (fun q => e (h.apart i k hi hk q)) _
  · rw [putM_len] at h1 h2
    exact h.apart i i' h1 h2
  · rw [putM_len] at hi
    exact h.lo i hi

/-- What a step of a statement changes: at the most one block of memory. -/
def Chg (G : Nat → Nat) (n : Nat) (W W' : World) : Prop := ∃ row : Option Nat, W.grownBy W' row ∧ ∀ r, row = some r → ∃ k, k < n ∧ r = G k
theorem Chg.of_below {G : Nat → Nat} {n : Nat} {W W' : World} (h : Below W.heap.size W W') : Chg G n W W' := ⟨none, ⟨h.os, h.tape, h.output, h.size, fun k hk _ => h.block k hk⟩, fun r e => by cases e⟩
theorem Chg.size {G : Nat → Nat} {n : Nat} {W W' : World} (h : Chg G n W W') : W.heap.size ≤ W'.heap.size := by obtain ⟨row, h, _⟩ := h; exact h.size
theorem Chg.block {G : Nat → Nat} {n : Nat} {W W' : World} (h : Chg G n W W') {b : Nat} (hb : b < W.heap.size) (hn : ∀ k, k < n → b ≠ G k) : W'.heap[b]? = W.heap[b]? := by
  obtain ⟨row, h1, h2⟩ := h
  refine h1.block b hb (fun e => ?_)
  obtain ⟨k, hk, e2⟩ := h2 b e.symm
  exact hn k hk e2
theorem Chg.below {G : Nat → Nat} {n N : Nat} {w W W' : World} (h : Chg G n W W') (hN : ∀ k, k < n → N ≤ G k) (hB : Below N w W) (hs : N ≤ W.heap.size) : Below N w W' := by
  obtain ⟨row, h1, h2⟩ := h
  exact hB.grown h1 hs (fun j e => by obtain ⟨k, hk, e2⟩ := h2 j e; rw [e2]; exact hN k hk)
theorem Chg.set {G : Nat → Nat} {n : Nat} {W W' : World} (h : Below W.heap.size W W') {k : Nat} (hk : k < n) (j : Nat) (v : Value) : Chg G n W (W'.setCell ⟨G k, j, none⟩ v) := by
  refine ⟨some (G k), ⟨h.os, h.tape, h.output, by simpa using h.size, fun b hb hn => ?_⟩, fun r e => by cases e; exact ⟨k, hk, rfl⟩⟩
  exact (Below.heap_setCell _ ⟨G k, j, none⟩ _ b (fun e => hn (by simp only at e; rw [e]))).trans (h.block b hb)

/-- The arrays that are handed in. -/
def MemA (w : World) (a : Option Addr) (len : Nat) (L : Mem) : Prop := L.length = len ∧ len ≤ 9223372036854775807 ∧ (len = 0 ∨ ∃ b off, a = some ⟨b, off, none⟩ ∧ ∀ i, i < len → ∃ x l c, w.cell? ⟨b, off + i, none⟩ = some (.slice x l c) ∧ Lst w x l c (arrM L i))
theorem MemA.below {w w' : World} {a : Option Addr} {len : Nat} {L : Mem} (h : MemA w a len L) (hb : Below w.heap.size w w') : MemA w' a len L := by
  obtain ⟨h1, h2, h3⟩ := h
  refine ⟨h1, h2, ?_⟩
  rcases h3 with h3 | ⟨b, off, e, h⟩
  · exact .inl h3
  · refine .inr ⟨b, off, e, fun i hi => ?_⟩
    obtain ⟨x, l, c, k1, k2⟩ := h i hi
    exact ⟨x, l, c, (hb.cell (p := ⟨b, off + i, none⟩) (lt_of_cell k1)).trans k1, k2.below hb⟩
theorem MemA.at {w : World} {a : Option Addr} {len : Nat} {L : Mem} (h : MemA w a len L) (h0 : 0 < len) : ∃ b off, a = some ⟨b, off, none⟩ ∧ ∀ i, i < len → ∃ x l c, w.cell? ⟨b, off + i, none⟩ = some (.slice x l c) ∧ Lst w x l c (arrM L i) := by
  rcases h.2.2 with h3 | h3
  · omega
  · exact h3
theorem MemA.bd {w : World} {a : Option Addr} {len : Nat} {L : Mem} (h : MemA w a len L) : MemB L := by
  intro k j
  by_cases hk : k < len
  · obtain ⟨b, off, _, h1⟩ := h.at (by omega)
    obtain ⟨x, l, c, _, h2⟩ := h1 k hk
    by_cases hj : j < (arrM L k).length
    · exact h2.1.2.2.1 _ (mem_getD _ j hj)
    · rw [List.getElem?_eq_none (by omega)]; unfold B64; simp
  · have e : arrM L k = [] := by
      unfold arrM
      rw [List.getElem?_eq_none (by have := h.1; omega)]; rfl
    rw [e]; unfold B64; simp
/-- Does memory fit? -/
def fitsE (zs : List Int) (L : Mem) : Int := if L.length ≠ zs.length then 2 else if ((List.range L.length).any fun k => decide (((arrM L k).length : Int) ≠ zs[k]?.getD 0)) = true then 6 else 0
end Go.Proofs.Ytmmigbkilbfheaa.V
namespace Go.Proofs.Ytmmigbkilbfheaa.V
open Go.RowKit
set_option linter.unusedVariables false

theorem fits_len {zs : List Int} {L : Mem} (h : L.length ≠ zs.length) : fitsE zs L = 2 := by unfold fitsE; rw [if_pos h]
theorem fits_here {zs : List Int} {L : Mem} (h : L.length = zs.length) {k : Nat} (hk : k < L.length) (hn : ((arrM L k).length : Int) ≠ zs[k]?.getD 0) : fitsE zs L = 6 := by
  unfold fitsE
  rw [if_neg (by simpa using h), if_pos]
  rw [List.any_eq_true]
  exact ⟨k, by simpa using hk, by simpa using hn⟩
theorem fits_all {zs : List Int} {L : Mem} (h : L.length = zs.length) (ha : ∀ k, k < L.length → ((arrM L k).length : Int) = zs[k]?.getD 0) : fitsE zs L = 0 := by
  unfold fitsE
  rw [if_neg (by simpa using h), if_neg]
  intro hh
  rw [List.any_eq_true] at hh
  obtain ⟨k, hk, hn⟩ := hh
  simp at hk hn
  exact hn (ha k hk)
theorem fits_ok {zs : List Int} {L : Mem} (h : fitsE zs L = 0) : L.length = zs.length ∧ ∀ k, k < L.length → ((arrM L k).length : Int) = zs[k]?.getD 0 := by
  by_cases h1 : L.length = zs.length
  · refine ⟨h1, fun k hk => ?_⟩
    by_cases h2 : ((arrM L k).length : Int) = zs[k]?.getD 0
    · exact h2
    · rw [fits_here h1 hk h2] at h; omega
  · rw [fits_len h1] at h; omega
theorem fits_small {zs : List Int} {L : Mem} (h : fitsE zs L = 0) (hz : ∀ z ∈ zs, 0 ≤ z ∧ z ≤ 65536) (k : Nat) : (arrM L k).length ≤ 65536 := by
  obtain ⟨h1, h2⟩ := fits_ok h
  by_cases hk : k < L.length
  · have h3 := h2 k hk
    have h4 := hz _ (mem_getD zs k (by omega))
    omega
  · unfold arrM
    rw [List.getElem?_eq_none (by omega)]
    simp
/-- What is told of a nest and its memory. -/
def runE (zs : List Int) (ss : List Stm) (L : Mem) : Int := if nestE zs ss ≠ 0 then nestE zs ss else fitsE zs L
theorem foldl_take {α β : Type} (f : β → α → β) (b : β) (l : List α) (k : Nat) (h : k < l.length) (d : α) : (l.take (k + 1)).foldl f b = f ((l.take k).foldl f b) (l[k]?.getD d) := by
  rw [List.take_succ_eq_append_getElem h, List.foldl_append]
  simp [h]
theorem runM_take (ss : List Stm) (L : Mem) (k : Nat) (h : k < ss.length) : runM (ss.take (k + 1)) L = stmM (runM (ss.take k) L) (ss[k]?.getD stmD) := foldl_take stmM L ss k h stmD
theorem stmM_len (M : Mem) (s : Stm) : (stmM M s).length = M.length := by
  unfold stmM
  generalize pts s.box s.rows = P
  induction P generalizing M with
  | nil => rfl
  | cons x P ih => rw [List.foldl_cons, ih, doM_len]
theorem runM_len (ss : List Stm) (M : Mem) : (runM ss M).length = M.length := by
  unfold runM
  induction ss generalizing M with
  | nil => rfl
  | cons s ss ih => rw [List.foldl_cons, ih, stmM_len]
end Go.Proofs.Ytmmigbkilbfheaa.V
namespace Go.Proofs.Ytmmigbkilbfheaa.V
open Go.RowKit
set_option linter.unusedVariables false

/-- How many strips of a size it takes. -/
def ceilN (b n : Nat) : Nat := (b + n - 1) / n
theorem ceilN_ge (b n : Nat) (h : 0 < n) : b ≤ ceilN b n * n := by
  unfold ceilN
  have h1 := Nat.div_add_mod (b + n - 1) n
  have h2 := Nat.mod_lt (b + n - 1) h
  rw [Nat.mul_comm] at h1
  omega
/-- The statement in strips. -/
def stripS (s : Stm) (k n : Nat) : Stm :=
  ⟨s.box.take k ++ (ceilN (s.box[k]?.getD 0).toNat n : Int) :: (n : Int) :: s.box.drop (k + 1), s.rows.map (stripR k n) ++ [lastR (s.box.take k) (s.box.drop (k + 1)) (s.box[k]?.getD 0) n], s.kind, s.val, stripA k n s.put, s.gets.map (stripA k n)⟩
/-- What is wrong with what is to be stripped. -/
def stripE (zs : List Int) (ss : List Stm) (i k n : Int) : Int :=
  if nestE zs ss ≠ 0 then nestE zs ss
  else if i < 0 ∨ (ss.length : Int) ≤ i then 4
  else if k < 0 ∨ ((ss[i.toNat]?.getD stmD).box.length : Int) ≤ k then 6
  else if n < 1 ∨ 4096 < n then 4
  else nestE zs (ss.set i.toNat (stripS (ss[i.toNat]?.getD stmD) k.toNat n.toNat))
structure StripOk (zs : List Int) (ss : List Stm) (i k n : Int) : Prop where
  nest : nestE zs ss = 0
  stm : 0 ≤ i ∧ i < (ss.length : Int)
  num : 0 ≤ k ∧ k < ((ss[i.toNat]?.getD stmD).box.length : Int)
  size : 1 ≤ n ∧ n ≤ 4096
  new : nestE zs (ss.set i.toNat (stripS (ss[i.toNat]?.getD stmD) k.toNat n.toNat)) = 0
theorem stripE_ok {zs : List Int} {ss : List Stm} {i k n : Int} (h : stripE zs ss i k n = 0) : StripOk zs ss i k n := by
  unfold stripE at h
  by_cases h1 : nestE zs ss ≠ 0
  · rw [if_pos h1] at h; exact absurd h h1
  rw [if_neg h1] at h
  by_cases h2 : i < 0 ∨ (ss.length : Int) ≤ i
  · rw [if_pos h2] at h; omega
  rw [if_neg h2] at h
  by_cases h3 : k < 0 ∨ ((ss[i.toNat]?.getD stmD).box.length : Int) ≤ k
  · rw [if_pos h3] at h; omega
  rw [if_neg h3] at h
  by_cases h4 : n < 1 ∨ 4096 < n
  · rw [if_pos h4] at h; omega
  rw [if_neg h4] at h
  exact ⟨by simpa using h1, by omega, by omega, by omega, h⟩
theorem strip_same {n : Nat} {s : Stm} {l : Nat} (ho : StmOk l s) {k : Nat} (hk : k < s.box.length) (hn : 0 < n) (M : Mem) : stmM M (stripS s k n) = stmM M s := by
  have hp := ptE_ok ho.pt
  have hb0 := (hp.dims (s.box[k]?.getD 0) (by simp [hk])).1
  have hsb : s.box = s.box.take k ++ ((s.box[k]?.getD 0).toNat : Int) :: s.box.drop (k + 1) := by
    have e : ((s.box[k]?.getD 0).toNat : Int) = s.box[k] := by rw [Int.toNat_of_nonneg hb0]; simp [hk]
    rw [e]
    simp
  have hlt : (s.box.take k).length = k := by rw [List.length_take]; omega
  have e2 : ((s.box[k]?.getD 0).toNat : Int) = s.box[k]?.getD 0 := Int.toNat_of_nonneg hb0
  refine strip_stm s (stripS s k n) (s.box.take k) (s.box.drop (k + 1)) (ceilN (s.box[k]?.getD 0).toNat n) (s.box[k]?.getD 0).toNat n hn (ceilN_ge _ _ hn) (fun x hx => (hp.dims x (List.mem_of_mem_take hx)).1) (fun x hx => (hp.dims x (List.mem_of_mem_drop hx)).1) hsb rfl (fun r hr => (hp.rows r hr).1) ?_ rfl rfl ho.put.len ?_ (fun g hg => (ho.gets g hg).len) ?_ M
  · rw [hlt, e2]; rfl
  · rw [hlt]; rfl
  · rw [hlt]; rfl
theorem runM_set (ss : List Stm) (i : Nat) (t : Stm) (hi : i < ss.length) (h : ∀ M, stmM M t = stmM M (ss[i]?.getD stmD)) (L : Mem) : runM (ss.set i t) L = runM ss L := by
  have e1 : ss = ss.take i ++ (ss[i]?.getD stmD) :: ss.drop (i + 1) := by simp [hi]
  have e2 : ss.set i t = ss.take i ++ t :: ss.drop (i + 1) := by rw [List.set_eq_take_append_cons_drop, if_pos hi]
  rw [e2]
  conv => rhs; rw [e1]
  unfold runM
  rw [List.foldl_append, List.foldl_append, List.foldl_cons, List.foldl_cons, h]
/-- STRIPS CHANGE NOTHING. -/
theorem strip_run {zs : List Int} {ss : List Stm} {i k n : Int} (h : StripOk zs ss i k n) (L : Mem) : runM (ss.set i.toNat (stripS (ss[i.toNat]?.getD stmD) k.toNat n.toNat)) L = runM ss L ∧ runE zs (ss.set i.toNat (stripS (ss[i.toNat]?.getD stmD) k.toNat n.toNat)) L = runE zs ss L := by
  have h1 := h.stm
  have h2 := h.num
  have h3 := h.size
  have hi : i.toNat < ss.length := by omega
  refine ⟨runM_set ss _ _ hi (fun M => strip_same ((nestE_ok h.nest).stms _ (mem_getS ss _ hi)) (by omega) (by omega) M) L, ?_⟩
  unfold runE
  rw [if_neg (by simpa using h.new), if_neg (by simpa using h.nest)]
end Go.Proofs.Ytmmigbkilbfheaa.V
namespace Go.Proofs.Ytmmigbkilbfheaa.V
open Go.RowKit
set_option linter.unusedVariables false

/-- The types of blocks that are changed when others hang on what lies elsewhere. -/
def shiftyB (t : TypeId) : Bool := t == 25 || t == 62
/-- From block N on all that was is as it was; but for blocks that hold a nest or spots. -/
def KeepF (N : Nat) (W W' : World) : Prop := (∀ (b : Nat) (cur : Array Value) (t : TypeId), N ≤ b → shiftyB t = false → W.heap[b]? = some (.cells cur t (0, 0)) → W'.heap[b]? = W.heap[b]?) ∧ W.heap.size ≤ W'.heap.size
theorem KeepF.refl (N : Nat) (W : World) : KeepF N W W := ⟨fun _ _ _ _ _ _ => rfl, Nat.le_refl _⟩
theorem KeepF.trans {N : Nat} {W V U : World} (h : KeepF N W V) (k : KeepF N V U) : KeepF N W U := ⟨fun b cur t h1 h2 h3 => (k.1 b cur t h1 h2 ((h.1 b cur t h1 h2 h3).trans h3)).trans (h.1 b cur t h1 h2 h3), Nat.le_trans h.2 k.2⟩
theorem KeepF.below {N : Nat} {W V : World} (h : Below W.heap.size W V) : KeepF N W V := ⟨fun b _ _ _ _ hb => h.block b (Array.getElem?_eq_some_iff.1 hb).1, h.size⟩
theorem KeepF.set {N : Nat} {W : World} {p : Addr} (h : p.block < N) (v : Value) : KeepF N W (W.setCell p v) := ⟨fun b _ _ h1 _ _ => Below.heap_setCell _ p _ b (by omega), by rw [World.size_setCell]; exact Nat.le_refl _⟩
theorem KeepF.nest {N : Nat} {W : World} {p : Addr} {cur : Array Value} {fz : Nat × Nat} (h : W.heap[p.block]? = some (.cells cur 25 fz)) (v : Value) : KeepF N W (W.setCell p v) := ⟨fun b c t _ h2 h3 => Below.heap_setCell _ p _ b (fun e => by rw [e, h] at h3; cases h3; exact absurd h2 (by decide)), by rw [World.size_setCell]; exact Nat.le_refl _⟩
/-- A row of spots of the call's own has grown. -/
theorem KeepF.spots {N B n : Nat} {W V : World} {v : Value} {xs : List Value} (ho : W.ownsRow B 62 15 v n xs) (hg : W.grownBy V v.ownBlock) : KeepF N W V := ⟨fun b cur t _ h2 h3 => hg.block b (Array.getElem?_eq_some_iff.1 h3).1 (fun e => by
  rcases ho.2 with ⟨rfl, _⟩ | ⟨g, cap, c, rfl, _, hbk, _⟩
  · simp [Value.ownBlock] at e
  · obtain rfl : b = g := by simpa [Value.ownBlock] using e
    rw [hbk] at h3
    cases h3
    exact absurd h2 (by decide)), hg.size⟩
theorem KeepF.mono {N M : Nat} {W V : World} (h : KeepF N W V) (le : N ≤ M) : KeepF M W V := ⟨fun b cur t h1 h2 h3 => h.1 b cur t (Nat.le_trans le h1) h2 h3, h.2⟩
/-- It holds in whatever world has the blocks from N on. -/
def Lies (N : Nat) (P : World → Prop) (W : World) : Prop := ∀ W', KeepF N W W' → P W'
theorem Lies.out {N : Nat} {P : World → Prop} {W : World} (h : Lies N P W) : P W := h W (KeepF.refl N W)
theorem Lies.keep {N : Nat} {P : World → Prop} {W V : World} (h : Lies N P W) (k : KeepF N W V) : Lies N P V := fun U hU => h U (k.trans hU)
theorem Lies.below {N : Nat} {P : World → Prop} {W V : World} (h : Lies N P W) (k : Below W.heap.size W V) : Lies N P V := h.keep (KeepF.below k)
theorem Lies.set {N : Nat} {P : World → Prop} {W : World} (h : Lies N P W) {p : Addr} (hp : p.block < N) (v : Value) : Lies N P (W.setCell p v) := h.keep (KeepF.set hp v)
theorem Lies.mono {N M : Nat} {P : World → Prop} {W : World} (h : Lies M P W) (le : N ≤ M) : Lies N P W := fun U hU => h U (hU.mono le)
theorem Lies.imp {N : Nat} {P Q : World → Prop} {W : World} (h : Lies N P W) (i : ∀ V, P V → Q V) : Lies N Q W := fun U hU => i U (h U hU)
theorem Lies.and {N : Nat} {P Q : World → Prop} {W : World} (h : Lies N P W) (k : Lies N Q W) : Lies N (fun V => P V ∧ Q V) W := fun U hU => ⟨h U hU, k U hU⟩
theorem lies_row {N g l : Nat} {t : TypeId} {f : Nat → Value} {W : World} (h : W.rowIs g t l f) (hg : N ≤ g) (ht : shiftyB t = false := by decide) : Lies N (fun V => V.rowIs g t l f) W := fun U hU => by
  obtain ⟨c, h1, _⟩ := id h
  exact h.of_block (hU.1 g c t hg ht h1)
theorem lies_all {N k : Nat} {P : Nat → World → Prop} {W : World} (h : ∀ j, j < k → Lies N (P j) W) : Lies N (fun V => ∀ j, j < k → P j V) W := fun U hU j hj => h j hj U hU
theorem lies_pure {N : Nat} {p : Prop} (h : p) (W : World) : Lies N (fun _ => p) W := fun _ _ => h

/-- The words of a row. -/
structure RW where
  ca : Option Addr
  cl : Nat
  cc : Nat
  con : Int
def RW.v (q : RW) : Value := .agg #[.slice q.ca q.cl q.cc, .int .i64 q.con]
structure RG (w : World) (q : RW) (r : List Int × Int) : Prop where
  con : q.con = r.2
  coef : Ints w q.ca q.cl r.1
  cap : q.cl ≤ q.cc ∧ (q.ca = none → q.cc = 0)
  bd : B64 r.2
theorem RG.below {w w' : World} {q : RW} {r : List Int × Int} (h : RG w q r) (hb : Below w.heap.size w w') : RG w' q r := ⟨h.con, h.coef.below hb, h.cap, h.bd⟩
theorem RowAt.words {w : World} {b o : Nat} {r : List Int × Int} (h : RowAt w b o r) : ∃ q : RW, RG w q r ∧ w.cell? ⟨b, o, none⟩ = some (.slice q.ca q.cl q.cc) ∧ w.cell? ⟨b, o + 1, none⟩ = some (.int .i64 q.con) := by
  obtain ⟨a, l, c, h1, h2, h3, h4, h5⟩ := h
  exact ⟨⟨a, l, c, r.2⟩, ⟨rfl, h3, h4, h5⟩, h1, h2⟩
/-- Rows, words by words. -/
theorem rws_words {w : World} {a : Option Addr} {len : Nat} {rs : List (List Int × Int)} (h : Rws w a len rs) : ∃ qs : Nat → RW, (∀ j, j < len → RG w (qs j) (rs[j]?.getD ([], 0))) ∧ (len = 0 ∨ ∃ b off, a = some ⟨b, off, none⟩ ∧ ∀ j, j < len → w.cell? ⟨b, off + j * 2, none⟩ = some (.slice (qs j).ca (qs j).cl (qs j).cc) ∧ w.cell? ⟨b, off + j * 2 + 1, none⟩ = some (.int .i64 (qs j).con)) := by
  rcases h.2.2 with h0 | ⟨b, off, e, hat⟩
  · exact ⟨fun _ => ⟨none, 0, 0, 0⟩, fun j hj => by omega, .inl h0⟩
  · have hc : ∀ j, ∃ q : RW, j < len → RG w q (rs[j]?.getD ([], 0)) ∧ w.cell? ⟨b, off + j * 2, none⟩ = some (.slice q.ca q.cl q.cc) ∧ w.cell? ⟨b, off + j * 2 + 1, none⟩ = some (.int .i64 q.con) := fun j => by
      by_cases hj : j < len
      · obtain ⟨q, h1, h2⟩ := (hat j hj).words
        exact ⟨q, fun _ => ⟨h1, h2⟩⟩
      · exact ⟨⟨none, 0, 0, 0⟩, fun h => absurd h hj⟩
    obtain ⟨qs, hq⟩ := Classical.axiomOfChoice hc
    exact ⟨qs, fun j hj => (hq j hj).1, .inr ⟨b, off, e, fun j hj => (hq j hj).2⟩⟩
theorem accs_words {w : World} {a : Option Addr} {len : Nat} {gs : List Acc} (h : Accs w a len gs) : ∃ qs : Nat → AW, (∀ j, j < len → AG w (qs j) (gs[j]?.getD accD)) ∧ (len = 0 ∨ ∃ b off, a = some ⟨b, off, none⟩ ∧ ∀ j, j < len → w.cell? ⟨b, off + j * 3, none⟩ = some (.int .i64 (qs j).arr) ∧ w.cell? ⟨b, off + j * 3 + 1, none⟩ = some (.slice (qs j).ca (qs j).cl (qs j).cc) ∧ w.cell? ⟨b, off + j * 3 + 2, none⟩ = some (.int .i64 (qs j).con)) := by
  rcases h.2.2 with h0 | ⟨b, off, e, hat⟩
  · exact ⟨fun _ => ⟨0, none, 0, 0, 0⟩, fun j hj => by omega, .inl h0⟩
  · have hc : ∀ j, ∃ q : AW, j < len → AG w q (gs[j]?.getD accD) ∧ w.cell? ⟨b, off + j * 3, none⟩ = some (.int .i64 q.arr) ∧ w.cell? ⟨b, off + j * 3 + 1, none⟩ = some (.slice q.ca q.cl q.cc) ∧ w.cell? ⟨b, off + j * 3 + 2, none⟩ = some (.int .i64 q.con) := fun j => by
      by_cases hj : j < len
      · obtain ⟨q, h1, h2⟩ := (hat j hj).words
        exact ⟨q, fun _ => ⟨h1, h2⟩⟩
      · exact ⟨⟨0, none, 0, 0, 0⟩, fun h => absurd h hj⟩
    obtain ⟨qs, hq⟩ := Classical.axiomOfChoice hc
    exact ⟨qs, fun j hj => (hq j hj).1, .inr ⟨b, off, e, fun j hj => (hq j hj).2⟩⟩
def swD : SW := ⟨none, 0, 0, none, 0, 0, 0, 0, ⟨0, none, 0, 0, 0⟩, none, 0, 0⟩
/-- The cells of a statement from an offset on. -/
def SW.at (q : SW) (w : World) (b o : Nat) : Prop := w.cell? ⟨b, o, none⟩ = some (.slice q.ba q.bl q.bc) ∧ w.cell? ⟨b, o + 1, none⟩ = some (.slice q.ra q.rl q.rc) ∧ w.cell? ⟨b, o + 2, none⟩ = some (.int .i64 q.kd) ∧ w.cell? ⟨b, o + 3, none⟩ = some (.int .i64 q.va) ∧ w.cell? ⟨b, o + 4, none⟩ = some (.int .i64 q.pu.arr) ∧ w.cell? ⟨b, o + 5, none⟩ = some (.slice q.pu.ca q.pu.cl q.pu.cc) ∧ w.cell? ⟨b, o + 6, none⟩ = some (.int .i64 q.pu.con) ∧ w.cell? ⟨b, o + 7, none⟩ = some (.slice q.ga q.gl q.gc)
theorem stms_words {w : World} {a : Option Addr} {len : Nat} {ss : List Stm} (h : Stms w a len ss) : ∃ qs : Nat → SW, (∀ j, j < len → SG w (qs j) (ss[j]?.getD stmD)) ∧ (len = 0 ∨ ∃ b off, a = some ⟨b, off, none⟩ ∧ ∀ j, j < len → (qs j).at w b (off + j * 8)) := by
  rcases h.2.2 with h0 | ⟨b, off, e, hat⟩
  · exact ⟨fun _ => swD, fun j hj => by omega, .inl h0⟩
  · have hc : ∀ j, ∃ q : SW, j < len → SG w q (ss[j]?.getD stmD) ∧ q.at w b (off + j * 8) := fun j => by
      by_cases hj : j < len
      · obtain ⟨q, h1, h2⟩ := hat j hj
        exact ⟨q, fun _ => ⟨h1, h2⟩⟩
      · exact ⟨swD, fun h => absurd h hj⟩
    obtain ⟨qs, hq⟩ := Classical.axiomOfChoice hc
    exact ⟨qs, fun j hj => (hq j hj).1, .inr ⟨b, off, e, fun j hj => (hq j hj).2⟩⟩
end Go.Proofs.Ytmmigbkilbfheaa.V
namespace Go.Proofs.Ytmmigbkilbfheaa.V
open Go.RowKit
set_option linter.unusedVariables false

/-- The cells of rows. -/
def rowCs (us : Nat → RW) (l : Nat) : List Value := (List.range (l * 2)).map fun i => if i % 2 = 0 then .slice (us (i / 2)).ca (us (i / 2)).cl (us (i / 2)).cc else .int .i64 (us (i / 2)).con
theorem rowCs_len (us : Nat → RW) (l : Nat) : (rowCs us l).length = l * 2 := by simp [rowCs]
theorem rowCs_at (us : Nat → RW) (l j : Nat) (hj : j < l) : (rowCs us l)[j * 2]? = some (.slice (us j).ca (us j).cl (us j).cc) ∧ (rowCs us l)[j * 2 + 1]? = some (.int .i64 (us j).con) := by
  have e1 : j * 2 / 2 = j := by omega
  have e2 : (j * 2 + 1) / 2 = j := by omega
  have e3 : (j * 2 + 1) % 2 = 1 := by omega
  have h1 : j * 2 < l * 2 := by omega
  have h2 : j * 2 + 1 < l * 2 := by omega
  constructor
  · simp [rowCs, h1, e1]
  · simp [rowCs, h2, e2, e3]
end Go.Proofs.Ytmmigbkilbfheaa.V
namespace Go.Proofs.Ytmmigbkilbfheaa.V
open Go.RowKit
set_option linter.unusedVariables false

theorem info_lists : (Try.prog.info? 22).map (fun i => (i.zero, i.size, i.bytes)) = some (some (.slice none 0 0), 1, 24) := by kernel_rfl
/-- It begins where its block does. -/
def Flush (a : Option Addr) : Prop := ∀ b o, a = some ⟨b, o, none⟩ → o = 0
/-- The values of a row of lists. -/
def VL (w : World) (vs : List Value) (L : List (List Int)) : Prop := vs.length = L.length ∧ ∀ i, i < L.length → ∃ a l c, vs[i]? = some (.slice a l c) ∧ Lst w a l c (L[i]?.getD []) ∧ Flush a
theorem VL.below {w w' : World} {vs : List Value} {L : List (List Int)} (h : VL w vs L) (hb : Below w.heap.size w w') : VL w' vs L := ⟨h.1, fun i hi => by obtain ⟨a, l, c, h1, h2, h3⟩ := h.2 i hi; exact ⟨a, l, c, h1, h2.below hb, h3⟩⟩
/-- A list of lists of the call's own. -/
def OutL (w : World) (B : Nat) (v : Value) (L : List (List Int)) : Prop := ∃ vs, w.ownsRow B 22 1 v L.length vs ∧ VL w vs L ∧ (v = .slice none 0 0 ∨ L ≠ [])
theorem OutL.nil (w : World) (B : Nat) : OutL w B (.slice none 0 0) [] := ⟨[], World.ownsRow_nil _ _ _ _, ⟨rfl, fun i hi => by simp at hi⟩, .inl rfl⟩
theorem OutL.below {w w' : World} {B : Nat} {v : Value} {L : List (List Int)} (h : OutL w B v L) (hb : Below w.heap.size w w') : OutL w' B v L := by
  obtain ⟨vs, h1, h2, h3⟩ := h
  exact ⟨vs, own_below h1 hb, h2.below hb, h3⟩
theorem ints_no_own {w : World} {a : Option Addr} {len B : Nat} {xs : List Int} {v : Value} {L : List (List Int)} {vs : List Value} (h : Ints w a len xs) (ha : Flush a) (ho : w.ownsRow B 22 1 v L.length vs) (hv : VL w vs L) (hn : v = .slice none 0 0 ∨ L ≠ []) (h0 : 0 < len) : ∃ b, a = some ⟨b, 0, none⟩ ∧ b < w.heap.size ∧ some b ≠ v.ownBlock := by
  obtain ⟨b, off, e, hb, hc⟩ := h.at h0
  obtain rfl := ha b off e
  refine ⟨b, e, hb, fun ev => ?_⟩
  rcases ho.2 with ⟨rfl, _⟩ | ⟨g', cap, cur, rfl, _, hbk, _, _, hsz, ht⟩
  · simp [Value.ownBlock] at ev
  · obtain rfl : b = g' := by simpa [Value.ownBlock] using ev
    rcases hn with hn | hn
    · cases hn
    have hL : 0 < L.length := by
      cases L with
      | nil => exact absurd rfl hn
      | cons x r => simp
    have h1 := hc 0 h0
    obtain ⟨a', l', c', h2, _⟩ := hv.2 0 hL
    rw [← ht] at h2
    have h3 : cur[0]? = some (.slice a' l' c') := by
      rw [List.getElem?_take] at h2
      split at h2
      · simpa using h2
      · cases h2
    simp [World.cell?, hbk, h3] at h1
theorem lst_kept {w w1 : World} {o : Obj} {a : Option Addr} {len c B : Nat} {xs : List Int} {v : Value} {L : List (List Int)} {vs : List Value} (h : Lst w a len c xs) (ha : Flush a) (ho : w.ownsRow B 22 1 v L.length vs) (hv : VL w vs L) (hn : v = .slice none 0 0 ∨ L ≠ []) (hg : (w.alloc o).grownBy w1 v.ownBlock) : Lst w1 a len c xs := by
  obtain ⟨⟨h1, h2, h3, h4⟩, h5, h6⟩ := h
  refine ⟨⟨h1, h2, h3, ?_⟩, h5, h6⟩
  by_cases h0 : len = 0
  · exact .inl h0
  · obtain ⟨b, e, hb, hne⟩ := ints_no_own ⟨h1, h2, h3, h4⟩ ha ho hv hn (by omega)
    rcases h4 with h4 | ⟨b', off, e', hc⟩
    · exact .inl h4
    · rw [e] at e'
      cases e'
      refine .inr ⟨b, 0, e, fun j hj => ?_⟩
      have k1 : w1.heap[b]? = (w.alloc o).heap[b]? := hg.block b (by simp; omega) hne
      have k2 : (w.alloc o).heap[b]? = w.heap[b]? := Below.heap_alloc _ _ _ hb
      exact (World.cell?_of_block (w := w) (k1.trans k2)).trans (hc j hj)
theorem OutL.snoc {w w1 : World} {o : Obj} {B : Nat} {v v' : Value} {L : List (List Int)} {vs : List Value} {a : Option Addr} {l c : Nat} {xs : List Int} (ho : w.ownsRow B 22 1 v L.length vs) (hv : VL w vs L) (hn : v = .slice none 0 0 ∨ L ≠ []) (hx : Lst w a l c xs) (ha : Flush a)
    (hown : w1.ownsRow B 22 1 v' (L.length + 1) (vs ++ [.slice a l c])) (hg : (w.alloc o).grownBy w1 v.ownBlock) : OutL w1 B v' (L ++ [xs]) := by
  refine ⟨vs ++ [.slice a l c], by rw [List.length_append]; exact hown, ⟨by simp [hv.1], fun i hi => ?_⟩, .inr (by simp)⟩
  by_cases hi' : i < L.length
  · obtain ⟨a', l', c', h1, h2, h3⟩ := hv.2 i hi'
    refine ⟨a', l', c', by rw [List.getElem?_append_left (by rw [hv.1]; exact hi')]; exact h1, ?_, h3⟩
    rw [List.getElem?_append_left hi']
    exact lst_kept h2 h3 ho hv hn hg
  · have e : i = L.length := by simp at hi; omega
    subst e
    refine ⟨a, l, c, by rw [List.getElem?_append_right (by rw [hv.1]; exact Nat.le_refl _)]; simp [hv.1], ?_, ha⟩
    rw [List.getElem?_append_right (Nat.le_refl _)]
    simp only [Nat.sub_self, List.getElem?_cons_zero, Option.getD_some]
    exact lst_kept hx ha ho hv hn hg
theorem OutL.grownB {w w1 wr : World} {o : Obj} {B : Nat} {v : Value} {n : Nat} {vs : List Value} (hB : Below B w wr) (hBs : B ≤ wr.heap.size) (ho : wr.ownsRow B 22 1 v n vs) (hg : (wr.alloc o).grownBy w1 v.ownBlock) : Below B w w1 :=
  (hB.alloc hBs o).grown hg (by simp; omega) (fun j e => (ho.lt j e).1)
/-- append(out, list): out of the call's own; the new list lies in a block of one cell. -/
theorem append_lists {w : World} {ops : Array Oper} {rest : List Oper} {op : Oper} {a : Act} {Q : Exit → Act → World → Prop} (hgd : op.guard = none) (s x : Operand)
    (ho : op.op = .call { callee := .builtin .append, args := #[s, x], argTypes := #[131, 131] }) (B : Nat)
    (v : Value) (L : List (List Int)) (hs : a.eval s = v) (X : Option Addr) (l c : Nat) (xs : List Int) (hout : OutL w B v L) (hX : Lst w X l c xs) (hf : Flush X)
    (hx : a.eval x = .slice (some ⟨w.heap.size, 0, none⟩) 1 1) (hbytes : (L.length + 1) * 24 ≤ 140737488355328) (hB : B ≤ w.heap.size)
    (h : ∀ v' w', OutL w' B v' (L ++ [xs]) → Below B w w' → wpList Try.prog ops Q rest (a.put op.dst v') w') :
    wpList Try.prog ops Q (op :: rest) a (w.alloc (.cells #[.slice X l c] 22)) := by
  obtain ⟨vs, h1, h2, h3⟩ := hout
  obtain ⟨i0, hi, hz0, hz1, hz2⟩ := info_parts info_lists
  refine wpList_append_own _ hgd s x 131 ho B 22 i0 (.slice none 0 0) 1 24 Try.underlying131 hi hz0 hz1 hz2 rfl (by decide) v L.length vs hs (h1.alloc _) ⟨w.heap.size, 0, none⟩ 1 1 [.slice X l c] hx rfl ?_ ?_ (by unfold maxLen; omega) hbytes (by simp; omega) (fun v' w' k1 k2 _ => h v' w' (OutL.snoc h1 h2 h3 hX hf k1 k2) (OutL.grownB (Below.refl _ _) hB h1 k2))
  · intro j u hj
    have hjl : j = 0 := by have := (List.getElem?_eq_some_iff.1 hj).1; simp at this; exact this
    subst hjl
    simp at hj
    rw [← hj, Go.WideShapes.add_plain]
    show (w.alloc (.cells #[.slice X l c] 22)).cell? ⟨w.heap.size, 0 + 0, none⟩ = _
    unfold World.cell?
    rw [World.alloc_heap_new w (.cells #[.slice X l c] 22)]
    rfl
  · intro u hu; simp at hu; subst hu; rfl
/-- What a caller reads of it. -/
def LL (w : World) (A : Option Addr) (n : Nat) (L : List (List Int)) : Prop := L.length = n ∧ (n = 0 ∨ ∃ b off, A = some ⟨b, off, none⟩ ∧ ∀ i, i < n → ∃ a l c, w.cell? ⟨b, off + i, none⟩ = some (.slice a l c) ∧ Lst w a l c (L[i]?.getD []) ∧ Flush a)
theorem LL.below {w w' : World} {A : Option Addr} {n : Nat} {L : List (List Int)} (h : LL w A n L) (hb : Below w.heap.size w w') : LL w' A n L := by
  obtain ⟨h1, h2⟩ := h
  refine ⟨h1, ?_⟩
  rcases h2 with h2 | ⟨b, off, e, h⟩
  · exact .inl h2
  · refine .inr ⟨b, off, e, fun i hi => ?_⟩
    obtain ⟨a, l, c, k1, k2, k3⟩ := h i hi
    exact ⟨a, l, c, (hb.cell (p := ⟨b, off + i, none⟩) (lt_of_cell k1)).trans k1, k2.below hb, k3⟩
theorem OutL.ll {w : World} {B : Nat} {v : Value} {L : List (List Int)} (h : OutL w B v L) : ∃ A c, v = .slice A L.length c ∧ LL w A L.length L ∧ L.length ≤ c := by
  obtain ⟨vs, h1, h2, h3⟩ := h
  have h1' := h1
  rcases h1.2 with ⟨e1, e2⟩ | ⟨g, cap, cur, rfl, _, _, hcap, _⟩
  · refine ⟨none, 0, by rw [e1, e2], ⟨rfl, .inl e2⟩, by omega⟩
  · refine ⟨_, cap, rfl, ⟨rfl, .inr ⟨g, 0, rfl, fun i hi => ?_⟩⟩, hcap⟩
    obtain ⟨a, l, c, k1, k2, k3⟩ := h2.2 i hi
    exact ⟨a, l, c, by rw [Nat.zero_add, h1'.cellAt i (by omega)]; exact k1, k2, k3⟩
theorem lst_of_own {w : World} {B : Nat} {v : Value} {n : Nat} {xs : List Int} (h : w.ownsRow B 3 1 v n (xs.map (Value.int .i64))) (hl : xs.length = n) (hm : n ≤ 9223372036854775807) (hb : ∀ x ∈ xs, -9223372036854775808 ≤ x ∧ x ≤ 9223372036854775807) : ∃ X c, v = .slice X n c ∧ Lst w X n c xs ∧ Flush X := by
  rcases h.2 with ⟨rfl, h2⟩ | ⟨g, cap, cur, rfl, h3, _, h4, _⟩
  · have e : xs = [] := by rw [← List.length_eq_zero_iff]; omega
    subst e
    exact ⟨none, 0, by rw [h2], ⟨⟨hl, hm, hb, .inl h2⟩, by omega, fun _ => rfl⟩, fun b o e => by cases e⟩
  · exact ⟨_, _, rfl, ⟨ints_of_own h hl hm hb, h4, fun e => by cases e⟩, fun b o e => by cases e; rfl⟩
theorem own_one (W : World) (B : Nat) (t : TypeId) (u : Value) (hB : B ≤ W.heap.size) : (W.alloc (.cells #[u] t)).ownsRow B t 1 (.slice (some ⟨W.heap.size, 0, none⟩) 1 1) 1 [u] :=
  ⟨rfl, .inr ⟨_, 1, #[u], rfl, hB, World.alloc_heap_new W _, Nat.le_refl _, by decide, rfl, rfl⟩⟩
theorem own_empty (W : World) (B : Nat) (t : TypeId) (hB : B ≤ W.heap.size) : (W.alloc (.cells #[] t)).ownsRow B t 1 (.slice (some ⟨W.heap.size, 0, none⟩) 0 0) 0 [] :=
  ⟨rfl, .inr ⟨_, 0, #[], rfl, hB, World.alloc_heap_new W _, Nat.le_refl _, by decide, rfl, rfl⟩⟩
theorem LL.at {w : World} {A : Option Addr} {n : Nat} {L : List (List Int)} (h : LL w A n L) (h0 : 0 < n) : ∃ b off, A = some ⟨b, off, none⟩ ∧ ∀ i, i < n → ∃ a l c, w.cell? ⟨b, off + i, none⟩ = some (.slice a l c) ∧ Lst w a l c (L[i]?.getD []) ∧ Flush a := by
  rcases h.2 with h2 | h2
  · omega
  · exact h2
end Go.Proofs.Ytmmigbkilbfheaa.V
