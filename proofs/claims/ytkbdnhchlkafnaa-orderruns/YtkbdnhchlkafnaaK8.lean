/-
  Lists as values; append of a list to one of the call's own. Nests in memory. Lists of lists of numbers: one that the call makes, one list behind the other. Contracts: the document's Row, Wrong, At. Contracts: the document's Time, Before. Contracts: the document's Takes, access. Contract: the document's Wrong of a nest. Lists of lists of numbers: one that the call makes; each list's block is known to hold numbers. Contract: the document's Box. Contracts: the document's All, Count, Nth, same, Ahead. Contracts: what is wrong with a nest. Contracts: what is wrong with a statement, with a nest. Contract: nest.Wrong. Orders: another order does the same where no two that are in each other's way change places; times have a linear order.
-/
import Derived.Test.YtkbdnhchlkafnaaK7
import Derived.Laws.AppendOwnNone
import Derived.Test.YtkbdnhchlkafnaaK6
import Derived.BigRegion
import Derived.BigQuiet
namespace Go.Proofs.Ytkbdnhchlkafnaa.V
open Go.RowKit

/-- A list as a value. -/
def Lst (w : World) (X : Option Addr) (n c : Nat) (xs : List Int) : Prop := Ints w X n xs ∧ n ≤ c ∧ (X = none → c = 0)
theorem Lst.below {w w' : World} {X : Option Addr} {n c : Nat} {xs : List Int} (h : Lst w X n c xs) (hb : Below w.heap.size w w') : Lst w' X n c xs := ⟨h.1.below hb, h.2⟩
/-- append(out, list...), out of the call's own. -/
theorem append_list {w : World} {ops : Array Oper} {rest : List Oper} {o : Oper} {a : Act} {Q : Exit → Act → World → Prop} (hgd : o.guard = none) (s x : Operand)
    (ho : o.op = .call { callee := .builtin .append, args := #[s, x], argTypes := #[22, 22] }) (base : Nat)
    (v : Value) (n : Nat) (xs : List Value) (hs : a.eval s = v) (hown : w.ownsRow base 3 1 v n xs)
    (X : Option Addr) (m c : Nat) (ys : List Int) (hx : a.eval x = .slice X m c) (hl : Lst w X m c ys) (hbytes : (n + m) * 8 ≤ 140737488355328) (hbase : base ≤ w.heap.size)
    (h : ∀ v' w', w'.ownsRow base 3 1 v' (n + m) (xs ++ ys.map (Value.int .i64)) → w.grownBy w' v.ownBlock → wpList Try.prog ops Q rest (a.put o.dst v') w') : wpList Try.prog ops Q (o :: rest) a w := by
  obtain ⟨i0, hi, hz0, hz1, hz2⟩ := info_parts info_int
  obtain ⟨hI, hmc, hnc⟩ := hl
  cases X with
  | none =>
    have hm0 : m = 0 := by
      rcases hI.2.2.2 with e | ⟨b, off, e, _⟩
      · exact e
      · cases e
    obtain rfl := hm0
    obtain rfl := hnc rfl
    have hys : ys = [] := by rw [← List.length_eq_zero_iff]; exact hI.1
    subst hys
    refine wpList_append_own_none hgd s x 22 ho base 3 i0 1 Try.underlying22 hi v n xs hs hown hx ?_
    exact h v w (by simpa using hown) (World.grownBy.refl w _)
  | some ad =>
    refine wpList_append_own w hgd s x 22 ho base 3 i0 (.int .i64 0) 1 8 Try.underlying22 hi hz0 hz1 hz2 rfl (by decide) v n xs hs hown ad m c (ys.map (Value.int .i64)) hx (by simp [hI.1]) ?_ ?_ (by unfold maxLen; omega) hbytes hbase (fun v' w' h1 h2 _ => h v' w' h1 h2)
    · intro j u hj
      have hjl : j < m := by have := (List.getElem?_eq_some_iff.1 hj).1; simpa [hI.1] using this
      obtain ⟨b, off, e, _, hc⟩ := hI.at (by omega)
      cases e
      have h3 : u = .int .i64 (ys[j]?.getD 0) := by
        have : j < ys.length := by rw [hI.1]; exact hjl
        simp [this] at hj ⊢
        exact hj.symm
      rw [h3, Go.WideShapes.add_plain]
      exact hc j hjl
    · intro u hu; simp at hu; obtain ⟨y, _, rfl⟩ := hu; rfl
theorem grown_own {w wr w2 : World} {t : TypeId} {n : Nat} {v : Value} {xs : List Value} (hB : Below w.heap.size w wr) (ho : wr.ownsRow w.heap.size t 1 v n xs) (hg : wr.grownBy w2 v.ownBlock) : Below w.heap.size w w2 :=
  hB.grown hg hB.size (fun j e => (ho.lt j e).1)
theorem lst_one (w : World) (x : Int) (hb : -9223372036854775808 ≤ x ∧ x ≤ 9223372036854775807) (t : TypeId) : Lst (w.alloc (.cells #[.int .i64 x] t)) (some ⟨w.heap.size, 0, none⟩) 1 1 [x] := by
  refine ⟨⟨rfl, by omega, fun y hy => ?_, .inr ⟨_, _, rfl, fun j hj => ?_⟩⟩, Nat.le_refl _, fun e => by cases e⟩
  · have : y = x := by simpa using hy
    rw [this]; exact hb
  · have : j = 0 := by omega
    subst this
    show (w.alloc (.cells #[.int .i64 x] t)).cell? ⟨w.heap.size, 0, none⟩ = _
    unfold World.cell?
    rw [World.alloc_heap_new w (.cells #[.int .i64 x] t)]
    rfl
end Go.Proofs.Ytkbdnhchlkafnaa.V
namespace Go.Proofs.Ytkbdnhchlkafnaa.V
open Go.RowKit
set_option linter.unusedVariables false

/-- An access in memory: three cells. -/
def AccAt (w : World) (b o : Nat) (q : Acc) : Prop := w.cell? ⟨b, o, none⟩ = some (.int .i64 q.1) ∧ RowAt w b (o + 1) q.2 ∧ B64 q.1
theorem AccAt.below {w w' : World} {b o : Nat} {q : Acc} (h : AccAt w b o q) (hb : Below w.heap.size w w') : AccAt w' b o q :=
  ⟨(hb.cell (p := ⟨b, o, none⟩) (lt_of_cell h.1)).trans h.1, h.2.1.below hb, h.2.2⟩
/-- A list of accesses. -/
def Accs (w : World) (a : Option Addr) (len : Nat) (gs : List Acc) : Prop := gs.length = len ∧ len ≤ 9223372036854775807 ∧ (len = 0 ∨ ∃ b off, a = some ⟨b, off, none⟩ ∧ ∀ j, j < len → AccAt w b (off + j * 3) (gs[j]?.getD accD))
theorem Accs.below {w w' : World} {a : Option Addr} {len : Nat} {gs : List Acc} (h : Accs w a len gs) (hb : Below w.heap.size w w') : Accs w' a len gs := by
  obtain ⟨h1, h2, h3⟩ := h
  refine ⟨h1, h2, ?_⟩
  rcases h3 with h3 | ⟨b, off, e, h⟩
  · exact .inl h3
  · exact .inr ⟨b, off, e, fun j hj => (h j hj).below hb⟩
theorem Accs.at {w : World} {a : Option Addr} {len : Nat} {gs : List Acc} (h : Accs w a len gs) (h0 : 0 < len) : ∃ b off, a = some ⟨b, off, none⟩ ∧ ∀ j, j < len → AccAt w b (off + j * 3) (gs[j]?.getD accD) := by
  rcases h.2.2 with h3 | h3
  · omega
  · exact h3
theorem mem_getA (gs : List Acc) (k : Nat) (h : k < gs.length) : gs[k]?.getD accD ∈ gs := by simp [h]
theorem mem_getS (ss : List Stm) (k : Nat) (h : k < ss.length) : ss[k]?.getD stmD ∈ ss := by simp [h]

/-- The words of an access. -/
structure AW where
  arr : Int
  ca : Option Addr
  cl : Nat
  cc : Nat
  con : Int
def AW.v (q : AW) : Value := .agg #[.int .i64 q.arr, .slice q.ca q.cl q.cc, .int .i64 q.con]
def AW.blk (q : AW) (w : World) (b : Nat) : Prop := w.heap[b]? = some (.cells #[.int .i64 q.arr, .slice q.ca q.cl q.cc, .int .i64 q.con] 72 (0, 0))
structure AG (w : World) (q : AW) (a : Acc) : Prop where
  arr : q.arr = a.1
  con : q.con = a.2.2
  coef : Ints w q.ca q.cl a.2.1
  cap : q.cl ≤ q.cc ∧ (q.ca = none → q.cc = 0)
  bd : B64 a.1 ∧ B64 a.2.2
theorem AG.below {w w' : World} {q : AW} {a : Acc} (h : AG w q a) (hb : Below w.heap.size w w') : AG w' q a := ⟨h.arr, h.con, h.coef.below hb, h.cap, h.bd⟩
theorem AccAt.words {w : World} {b o : Nat} {a : Acc} (h : AccAt w b o a) : ∃ q : AW, AG w q a ∧ w.cell? ⟨b, o, none⟩ = some (.int .i64 q.arr) ∧ w.cell? ⟨b, o + 1, none⟩ = some (.slice q.ca q.cl q.cc) ∧ w.cell? ⟨b, o + 2, none⟩ = some (.int .i64 q.con) := by
  obtain ⟨h1, ⟨x, l, c, h2, h3, h4, h5, h6⟩, h7⟩ := h
  exact ⟨⟨a.1, x, l, c, a.2.2⟩, ⟨rfl, rfl, h4, h5, h7, h6⟩, h1, h2, h3⟩
theorem AW.blk.cells {q : AW} {w : World} {b : Nat} (h : q.blk w b) : w.cell? ⟨b, 0, none⟩ = some (.int .i64 q.arr) ∧ w.cell? ⟨b, 1, none⟩ = some (.slice q.ca q.cl q.cc) ∧ w.cell? ⟨b, 2, none⟩ = some (.int .i64 q.con) := by
  unfold AW.blk at h
  refine ⟨?_, ?_, ?_⟩ <;> simp [World.cell?, h]
theorem AW.blk.lt {q : AW} {w : World} {b : Nat} (h : q.blk w b) : b < w.heap.size := (Array.getElem?_eq_some_iff.1 h).1
theorem AW.blk.below {q : AW} {w w' : World} {b : Nat} (h : q.blk w b) (hb : Below w.heap.size w w') : q.blk w' b := (hb.block b h.lt).trans h
theorem AW.new (q : AW) (w : World) : q.blk (w.alloc (.cells #[.int .i64 q.arr, .slice q.ca q.cl q.cc, .int .i64 q.con] 72)) w.heap.size := World.alloc_heap_new w _

/-- The words of a statement. -/
structure SW where
  ba : Option Addr
  bl : Nat
  bc : Nat
  ra : Option Addr
  rl : Nat
  rc : Nat
  kd : Int
  va : Int
  pu : AW
  ga : Option Addr
  gl : Nat
  gc : Nat
def SW.cs (q : SW) : Array Value := #[.slice q.ba q.bl q.bc, .slice q.ra q.rl q.rc, .int .i64 q.kd, .int .i64 q.va, .int .i64 q.pu.arr, .slice q.pu.ca q.pu.cl q.pu.cc, .int .i64 q.pu.con, .slice q.ga q.gl q.gc]
def SW.v (q : SW) : Value := .agg q.cs
def SW.blk (q : SW) (w : World) (b : Nat) : Prop := w.heap[b]? = some (.cells q.cs 75 (0, 0))
structure SG (w : World) (q : SW) (s : Stm) : Prop where
  box : Lst w q.ba q.bl q.bc s.box
  rows : Rws w q.ra q.rl s.rows
  kd : q.kd = s.kind
  va : q.va = s.val
  put : AG w q.pu s.put
  gets : Accs w q.ga q.gl s.gets
  bd : B64 s.kind ∧ B64 s.val
theorem SG.below {w w' : World} {q : SW} {s : Stm} (h : SG w q s) (hb : Below w.heap.size w w') : SG w' q s := ⟨h.box.below hb, h.rows.below hb, h.kd, h.va, h.put.below hb, h.gets.below hb, h.bd⟩
theorem SW.blk.cells {q : SW} {w : World} {b : Nat} (h : q.blk w b) : w.cell? ⟨b, 0, none⟩ = some (.slice q.ba q.bl q.bc) ∧ w.cell? ⟨b, 1, none⟩ = some (.slice q.ra q.rl q.rc) ∧ w.cell? ⟨b, 2, none⟩ = some (.int .i64 q.kd) ∧ w.cell? ⟨b, 3, none⟩ = some (.int .i64 q.va) ∧ w.cell? ⟨b, 4, none⟩ = some (.int .i64 q.pu.arr) ∧ w.cell? ⟨b, 5, none⟩ = some (.slice q.pu.ca q.pu.cl q.pu.cc) ∧ w.cell? ⟨b, 6, none⟩ = some (.int .i64 q.pu.con) ∧ w.cell? ⟨b, 7, none⟩ = some (.slice q.ga q.gl q.gc) := by
  unfold SW.blk SW.cs at h
  refine ⟨?_, ?_, ?_, ?_, ?_, ?_, ?_, ?_⟩ <;> simp [World.cell?, h]
theorem SW.blk.lt {q : SW} {w : World} {b : Nat} (h : q.blk w b) : b < w.heap.size := (Array.getElem?_eq_some_iff.1 h).1
theorem SW.blk.below {q : SW} {w w' : World} {b : Nat} (h : q.blk w b) (hb : Below w.heap.size w w') : q.blk w' b := (hb.block b h.lt).trans h
theorem SW.new (q : SW) (w : World) : q.blk (w.alloc (.cells q.cs 75)) w.heap.size := World.alloc_heap_new w _
/-- A statement in memory: eight cells. -/
def StmAt (w : World) (b o : Nat) (s : Stm) : Prop := ∃ q : SW, SG w q s ∧ w.cell? ⟨b, o, none⟩ = some (.slice q.ba q.bl q.bc) ∧ w.cell? ⟨b, o + 1, none⟩ = some (.slice q.ra q.rl q.rc) ∧ w.cell? ⟨b, o + 2, none⟩ = some (.int .i64 q.kd) ∧ w.cell? ⟨b, o + 3, none⟩ = some (.int .i64 q.va) ∧ w.cell? ⟨b, o + 4, none⟩ = some (.int .i64 q.pu.arr) ∧ w.cell? ⟨b, o + 5, none⟩ = some (.slice q.pu.ca q.pu.cl q.pu.cc) ∧ w.cell? ⟨b, o + 6, none⟩ = some (.int .i64 q.pu.con) ∧ w.cell? ⟨b, o + 7, none⟩ = some (.slice q.ga q.gl q.gc)
theorem StmAt.below {w w' : World} {b o : Nat} {s : Stm} (h : StmAt w b o s) (hb : Below w.heap.size w w') : StmAt w' b o s := by
  obtain ⟨q, h, c0, c1, c2, c3, c4, c5, c6, c7⟩ := h
  exact ⟨q, h.below hb, (hb.cell (p := ⟨b, o, none⟩) (lt_of_cell c0)).trans c0, (hb.cell (p := ⟨b, o + 1, none⟩) (lt_of_cell c1)).trans c1, (hb.cell (p := ⟨b, o + 2, none⟩) (lt_of_cell c2)).trans c2, (hb.cell (p := ⟨b, o + 3, none⟩) (lt_of_cell c3)).trans c3, (hb.cell (p := ⟨b, o + 4, none⟩) (lt_of_cell c4)).trans c4, (hb.cell (p := ⟨b, o + 5, none⟩) (lt_of_cell c5)).trans c5, (hb.cell (p := ⟨b, o + 6, none⟩) (lt_of_cell c6)).trans c6, (hb.cell (p := ⟨b, o + 7, none⟩) (lt_of_cell c7)).trans c7⟩
/-- A list of statements. -/
def Stms (w : World) (a : Option Addr) (len : Nat) (ss : List Stm) : Prop := ss.length = len ∧ len ≤ 9223372036854775807 ∧ (len = 0 ∨ ∃ b off, a = some ⟨b, off, none⟩ ∧ ∀ j, j < len → StmAt w b (off + j * 8) (ss[j]?.getD stmD))
theorem Stms.below {w w' : World} {a : Option Addr} {len : Nat} {ss : List Stm} (h : Stms w a len ss) (hb : Below w.heap.size w w') : Stms w' a len ss := by
  obtain ⟨h1, h2, h3⟩ := h
  refine ⟨h1, h2, ?_⟩
  rcases h3 with h3 | ⟨b, off, e, h⟩
  · exact .inl h3
  · exact .inr ⟨b, off, e, fun j hj => (h j hj).below hb⟩
theorem Stms.at {w : World} {a : Option Addr} {len : Nat} {ss : List Stm} (h : Stms w a len ss) (h0 : 0 < len) : ∃ b off, a = some ⟨b, off, none⟩ ∧ ∀ j, j < len → StmAt w b (off + j * 8) (ss[j]?.getD stmD) := by
  rcases h.2.2 with h3 | h3
  · omega
  · exact h3
/-- A nest's two words in a block. -/
def NsBlk (w : World) (b : Nat) (za : Option Addr) (zl zc : Nat) (ta : Option Addr) (tl tc : Nat) : Prop := w.heap[b]? = some (.cells #[.slice za zl zc, .slice ta tl tc] 25 (0, 0))
theorem NsBlk.cells {w : World} {b : Nat} {za : Option Addr} {zl zc : Nat} {ta : Option Addr} {tl tc : Nat} (h : NsBlk w b za zl zc ta tl tc) : w.cell? ⟨b, 0, none⟩ = some (.slice za zl zc) ∧ w.cell? ⟨b, 1, none⟩ = some (.slice ta tl tc) := by
  unfold NsBlk at h
  refine ⟨?_, ?_⟩ <;> simp [World.cell?, h]
theorem NsBlk.lt {w : World} {b : Nat} {za : Option Addr} {zl zc : Nat} {ta : Option Addr} {tl tc : Nat} (h : NsBlk w b za zl zc ta tl tc) : b < w.heap.size := (Array.getElem?_eq_some_iff.1 h).1
theorem NsBlk.below {w w' : World} {b : Nat} {za : Option Addr} {zl zc : Nat} {ta : Option Addr} {tl tc : Nat} (h : NsBlk w b za zl zc ta tl tc) (hb : Below w.heap.size w w') : NsBlk w' b za zl zc ta tl tc := (hb.block b h.lt).trans h
theorem NsBlk.new (w : World) (za : Option Addr) (zl zc : Nat) (ta : Option Addr) (tl tc : Nat) : NsBlk (w.alloc (.cells #[.slice za zl zc, .slice ta tl tc] 25)) w.heap.size za zl zc ta tl tc := World.alloc_heap_new w _
end Go.Proofs.Ytkbdnhchlkafnaa.V
namespace Go.Proofs.Ytkbdnhchlkafnaa.V
open Go.RowKit
set_option linter.unusedVariables false

theorem info_lists : (Try.prog.info? 22).map (fun i => (i.zero, i.size, i.bytes)) = some (some (.slice none 0 0), 1, 24) := by kernel_rfl
/-- It begins where its block does. -/
def Flush (a : Option Addr) : Prop := ∀ b o, a = some ⟨b, o, none⟩ → o = 0
/-- The values of a row of lists. -/
def VL (w : World) (vs : List Value) (L : List (List Int)) : Prop := vs.length = L.length ∧ ∀ i, i < L.length → ∃ a l c, vs[i]? = some (.slice a l c) ∧ Lst w a l c (L[i]?.getD []) ∧ Flush a
theorem VL.below {w w' : World} {vs : List Value} {L : List (List Int)} (h : VL w vs L) (hb : Below w.heap.size w w') : VL w' vs L := ⟨h.1, fun i hi => by obtain ⟨a, l, c, h1, h2, h3⟩ := h.2 i hi; exact ⟨a, l, c, h1, h2.below hb, h3⟩⟩
/-- A list of lists of the call's own. -/
def OutL (w : World) (B : Nat) (v : Value) (L : List (List Int)) : Prop := ∃ vs, w.ownsRow B 22 1 v L.length vs ∧ VL w vs L ∧ (v = .slice none 0 0 ∨ L ≠ [])
theorem OutL.nil (w : World) (B : Nat) : OutL w B (.slice none 0 0) [] := ⟨[], World.ownsRow_nil _ _ _ _, ⟨rfl, fun i hi => by simp at hi⟩, .inl rfl⟩
theorem OutL.below {w w' : World} {B : Nat} {v : Value} {L : List (List Int)} (h : OutL w B v L) (hb : Below w.heap.size w w') : OutL w' B v L := by
  obtain ⟨vs, h1, h2, h3⟩ := h
  exact ⟨vs, own_below h1 hb, h2.below hb, h3⟩
theorem ints_no_own {w : World} {a : Option Addr} {len B : Nat} {xs : List Int} {v : Value} {L : List (List Int)} {vs : List Value} (h : Ints w a len xs) (ha : Flush a) (ho : w.ownsRow B 22 1 v L.length vs) (hv : VL w vs L) (hn : v = .slice none 0 0 ∨ L ≠ []) (h0 : 0 < len) : ∃ b, a = some ⟨b, 0, none⟩ ∧ b < w.heap.size ∧ some b ≠ v.ownBlock := by
  obtain ⟨b, off, e, hb, hc⟩ := h.at h0
  obtain rfl := ha b off e
  refine ⟨b, e, hb, fun ev => ?_⟩
  rcases ho.2 with ⟨rfl, _⟩ | ⟨g', cap, cur, rfl, _, hbk, _, _, hsz, ht⟩
  · simp [Value.ownBlock] at ev
  · obtain rfl : b = g' := by simpa [Value.ownBlock] using ev
    rcases hn with hn | hn
    · cases hn
    have hL : 0 < L.length := by
      cases L with
      | nil => exact absurd rfl hn
      | cons x r => simp
    have h1 := hc 0 h0
    obtain ⟨a', l', c', h2, _⟩ := hv.2 0 hL
    rw [← ht] at h2
    have h3 : cur[0]? = some (.slice a' l' c') := by
      rw [List.getElem?_take] at h2
      split at h2
      · simpa using h2
      · cases h2
    simp [World.cell?, hbk, h3] at h1
theorem lst_kept {w w1 : World} {o : Obj} {a : Option Addr} {len c B : Nat} {xs : List Int} {v : Value} {L : List (List Int)} {vs : List Value} (h : Lst w a len c xs) (ha : Flush a) (ho : w.ownsRow B 22 1 v L.length vs) (hv : VL w vs L) (hn : v = .slice none 0 0 ∨ L ≠ []) (hg : (w.alloc o).grownBy w1 v.ownBlock) : Lst w1 a len c xs := by
  obtain ⟨⟨h1, h2, h3, h4⟩, h5, h6⟩ := h
  refine ⟨⟨h1, h2, h3, ?_⟩, h5, h6⟩
  by_cases h0 : len = 0
  · exact .inl h0
  · obtain ⟨b, e, hb, hne⟩ := ints_no_own ⟨h1, h2, h3, h4⟩ ha ho hv hn (by omega)
    rcases h4 with h4 | ⟨b', off, e', hc⟩
    · exact .inl h4
    · rw [e] at e'
      cases e'
      refine .inr ⟨b, 0, e, fun j hj => ?_⟩
      have k1 : w1.heap[b]? = (w.alloc o).heap[b]? := hg.block b (by simp; omega) hne
      have k2 : (w.alloc o).heap[b]? = w.heap[b]? := Below.heap_alloc _ _ _ hb
      exact (World.cell?_of_block (w := w) (k1.trans k2)).trans (hc j hj)
theorem OutL.snoc {w w1 : World} {o : Obj} {B : Nat} {v v' : Value} {L : List (List Int)} {vs : List Value} {a : Option Addr} {l c : Nat} {xs : List Int} (ho : w.ownsRow B 22 1 v L.length vs) (hv : VL w vs L) (hn : v = .slice none 0 0 ∨ L ≠ []) (hx : Lst w a l c xs) (ha : Flush a)
    (hown : w1.ownsRow B 22 1 v' (L.length + 1) (vs ++ [.slice a l c])) (hg : (w.alloc o).grownBy w1 v.ownBlock) : OutL w1 B v' (L ++ [xs]) := by
  refine ⟨vs ++ [.slice a l c], by rw [List.length_append]; exact hown, ⟨by simp [hv.1], fun i hi => ?_⟩, .inr (by simp)⟩
  by_cases hi' : i < L.length
  · obtain ⟨a', l', c', h1, h2, h3⟩ := hv.2 i hi'
    refine ⟨a', l', c', by rw [List.getElem?_append_left (by rw [hv.1]; exact hi')]; exact h1, ?_, h3⟩
    rw [List.getElem?_append_left hi']
    exact lst_kept h2 h3 ho hv hn hg
  · have e : i = L.length := by simp at hi; omega
    subst e
    refine ⟨a, l, c, by rw [List.getElem?_append_right (by rw [hv.1]; exact Nat.le_refl _)]; simp [hv.1], ?_, ha⟩
    rw [List.getElem?_append_right (Nat.le_refl _)]
    simp only [Nat.sub_self, List.getElem?_cons_zero, Option.getD_some]
    exact lst_kept hx ha ho hv hn hg
theorem OutL.grownB {w w1 wr : World} {o : Obj} {B : Nat} {v : Value} {n : Nat} {vs : List Value} (hB : Below B w wr) (hBs : B ≤ wr.heap.size) (ho : wr.ownsRow B 22 1 v n vs) (hg : (wr.alloc o).grownBy w1 v.ownBlock) : Below B w w1 :=
  (hB.alloc hBs o).grown hg (by simp; omega) (fun j e => (ho.lt j e).1)
/-- append(out, list): out of the call's own; the new list lies in a block of one cell. -/
theorem append_lists {w : World} {ops : Array Oper} {rest : List Oper} {op : Oper} {a : Act} {Q : Exit → Act → World → Prop} (hgd : op.guard = none) (s x : Operand)
    (ho : op.op = .call { callee := .builtin .append, args := #[s, x], argTypes := #[132, 132] }) (B : Nat)
    (v : Value) (L : List (List Int)) (hs : a.eval s = v) (X : Option Addr) (l c : Nat) (xs : List Int) (hout : OutL w B v L) (hX : Lst w X l c xs) (hf : Flush X)
    (hx : a.eval x = .slice (some ⟨w.heap.size, 0, none⟩) 1 1) (hbytes : (L.length + 1) * 24 ≤ 140737488355328) (hB : B ≤ w.heap.size)
    (h : ∀ v' w', OutL w' B v' (L ++ [xs]) → Below B w w' → wpList Try.prog ops Q rest (a.put op.dst v') w') :
    wpList Try.prog ops Q (op :: rest) a (w.alloc (.cells #[.slice X l c] 22)) := by
  obtain ⟨vs, h1, h2, h3⟩ := hout
  obtain ⟨i0, hi, hz0, hz1, hz2⟩ := info_parts info_lists
  refine wpList_append_own _ hgd s x 132 ho B 22 i0 (.slice none 0 0) 1 24 Try.underlying132 hi hz0 hz1 hz2 rfl (by decide) v L.length vs hs (h1.alloc _) ⟨w.heap.size, 0, none⟩ 1 1 [.slice X l c] hx rfl ?_ ?_ (by unfold maxLen; omega) hbytes (by simp; omega) (fun v' w' k1 k2 _ => h v' w' (OutL.snoc h1 h2 h3 hX hf k1 k2) (OutL.grownB (Below.refl _ _) hB h1 k2))
  · intro j u hj
    have hjl : j = 0 := by have := (List.getElem?_eq_some_iff.1 hj).1; simp at this; exact this
    subst hjl
    simp at hj
    rw [← hj, Go.WideShapes.add_plain]
    show (w.alloc (.cells #[.slice X l c] 22)).cell? ⟨w.heap.size, 0 + 0, none⟩ = _
    unfold World.cell?
    rw [World.alloc_heap_new w (.cells #[.slice X l c] 22)]
    rfl
  · intro u hu; simp at hu; subst hu; rfl
/-- What a caller reads of it. -/
def LL (w : World) (A : Option Addr) (n : Nat) (L : List (List Int)) : Prop := L.length = n ∧ (n = 0 ∨ ∃ b off, A = some ⟨b, off, none⟩ ∧ ∀ i, i < n → ∃ a l c, w.cell? ⟨b, off + i, none⟩ = some (.slice a l c) ∧ Lst w a l c (L[i]?.getD []) ∧ Flush a)
theorem LL.below {w w' : World} {A : Option Addr} {n : Nat} {L : List (List Int)} (h : LL w A n L) (hb : Below w.heap.size w w') : LL w' A n L := by
  obtain ⟨h1, h2⟩ := h
  refine ⟨h1, ?_⟩
  rcases h2 with h2 | ⟨b, off, e, h⟩
  · exact .inl h2
  · refine .inr ⟨b, off, e, fun i hi => ?_⟩
    obtain ⟨a, l, c, k1, k2, k3⟩ := h i hi
    exact ⟨a, l, c, (hb.cell (p := ⟨b, off + i, none⟩) (lt_of_cell k1)).trans k1, k2.below hb, k3⟩
theorem OutL.ll {w : World} {B : Nat} {v : Value} {L : List (List Int)} (h : OutL w B v L) : ∃ A c, v = .slice A L.length c ∧ LL w A L.length L ∧ L.length ≤ c := by
  obtain ⟨vs, h1, h2, h3⟩ := h
  have h1' := h1
  rcases h1.2 with ⟨e1, e2⟩ | ⟨g, cap, cur, rfl, _, _, hcap, _⟩
  · refine ⟨none, 0, by rw [e1, e2], ⟨rfl, .inl e2⟩, by omega⟩
  · refine ⟨_, cap, rfl, ⟨rfl, .inr ⟨g, 0, rfl, fun i hi => ?_⟩⟩, hcap⟩
    obtain ⟨a, l, c, k1, k2, k3⟩ := h2.2 i hi
    exact ⟨a, l, c, by rw [Nat.zero_add, h1'.cellAt i (by omega)]; exact k1, k2, k3⟩
theorem lst_of_own {w : World} {B : Nat} {v : Value} {n : Nat} {xs : List Int} (h : w.ownsRow B 3 1 v n (xs.map (Value.int .i64))) (hl : xs.length = n) (hm : n ≤ 9223372036854775807) (hb : ∀ x ∈ xs, -9223372036854775808 ≤ x ∧ x ≤ 9223372036854775807) : ∃ X c, v = .slice X n c ∧ Lst w X n c xs ∧ Flush X := by
  rcases h.2 with ⟨rfl, h2⟩ | ⟨g, cap, cur, rfl, h3, _, h4, _⟩
  · have e : xs = [] := by rw [← List.length_eq_zero_iff]; omega
    subst e
    exact ⟨none, 0, by rw [h2], ⟨⟨hl, hm, hb, .inl h2⟩, by omega, fun _ => rfl⟩, fun b o e => by cases e⟩
  · exact ⟨_, _, rfl, ⟨ints_of_own h hl hm hb, h4, fun e => by cases e⟩, fun b o e => by cases e; rfl⟩
theorem own_one (W : World) (B : Nat) (t : TypeId) (u : Value) (hB : B ≤ W.heap.size) : (W.alloc (.cells #[u] t)).ownsRow B t 1 (.slice (some ⟨W.heap.size, 0, none⟩) 1 1) 1 [u] :=
  ⟨rfl, .inr ⟨_, 1, #[u], rfl, hB, World.alloc_heap_new W _, Nat.le_refl _, by decide, rfl, rfl⟩⟩
theorem own_empty (W : World) (B : Nat) (t : TypeId) (hB : B ≤ W.heap.size) : (W.alloc (.cells #[] t)).ownsRow B t 1 (.slice (some ⟨W.heap.size, 0, none⟩) 0 0) 0 [] :=
  ⟨rfl, .inr ⟨_, 0, #[], rfl, hB, World.alloc_heap_new W _, Nat.le_refl _, by decide, rfl, rfl⟩⟩
theorem LL.at {w : World} {A : Option Addr} {n : Nat} {L : List (List Int)} (h : LL w A n L) (h0 : 0 < n) : ∃ b off, A = some ⟨b, off, none⟩ ∧ ∀ i, i < n → ∃ a l c, w.cell? ⟨b, off + i, none⟩ = some (.slice a l c) ∧ Lst w a l c (L[i]?.getD []) ∧ Flush a := by
  rcases h.2 with h2 | h2
  · omega
  · exact h2
end Go.Proofs.Ytkbdnhchlkafnaa.V
namespace Go.Proofs.Ytkbdnhchlkafnaa.V
open Go.RowKit
set_option linter.unusedVariables false

theorem any_far_cons (K : Int) (cs : List Int) : (K :: cs).any ptFar = (ptFar K || cs.any ptFar) := rfl
set_option maxHeartbeats 2000000 in
theorem rRow_any (a : Option Addr) (l c : Nat) (cs : List Int) (K : Int) (many : Nat) (w : World) (h : Lst w a l c cs) (hK : -9223372036854775808 ≤ K ∧ K ≤ 9223372036854775807) (h4 : many ≤ 4) :
    Calls Try.prog 35 #[.agg #[.slice a l c, .int .i64 K], .int .i64 many] w fun e w' => e = .returned (.int .i64 (rowE (cs, K) many)) ∧ Below w.heap.size w w' := by
  have hm := h.1.2.1
  by_cases c1 : l = many
  · subst c1
    have e1 : rowE (cs, K) l = if (K :: cs).any ptFar = true then 4 else 0 := by unfold rowE; rw [if_neg (by simp [h.1.1])]; rfl
    have E1 := hide e1
    clear e1
    have B1 : Below w.heap.size w ((w.alloc (.cells #[.slice a l c, .int .i64 K] 51)).alloc (.cells #[.int .i64 K] 3)) := bl_on (bl_new _) (bl_new _)
    have O1 := own_one (w.alloc (.cells #[.slice a l c, .int .i64 K] 51)) w.heap.size 3 (.int .i64 K) (by simp)
    rw [World.size_alloc] at O1
    have HB := hide B1
    have HO := hide O1
    have H := hide (h.below B1)
    have HLC := hide h.1.1
    have HKB := hide (show ∀ x ∈ K :: cs, -9223372036854775808 ≤ x ∧ x ≤ 9223372036854775807 from fun x hx => by
      rcases List.mem_cons.1 hx with rfl | hx
      · exact hK
      · exact h.1.2.2.1 x hx)
    clear h B1 O1
    go_enter Try.func35, Try.ntmps35
    go_wp2_with (at_builtin; refine append_list rfl _ _ rfl w.heap.size _ 1 [.int .i64 K] rfl HO.out a l c cs rfl H.out (by omega) (by simp; omega) ?_; intro v' w2 hown hgrow; obtain ⟨X, c2, rfl, hL2, _⟩ := lst_of_own (xs := K :: cs) hown (by simp [HLC.out]; omega) (by omega) HKB.out; have HL2 := hide hL2; have HB2 := hide (HB.out.grown hgrow (by simp; omega) (fun j e => (HO.out.lt j e).1)); clear hown hgrow hL2)
    go_loop [19] (fun i => ∃ k : Nat, k ≤ 1 + l ∧ i = .int .i64 k ∧ ((K :: cs).take k).any ptFar = false) (fun i => 1 + l - (intOf i).toNat)
    case atStart => exact ⟨0, Nat.zero_le _, rfl, by simp⟩
    case round =>
      obtain ⟨k, hk, rfl, hn⟩ := hrel
      have HN := hide hn
      clear hn
      by_cases hlt : k < 1 + l
      · obtain ⟨b, off, rfl, hb, hc⟩ := HL2.out.1.at (by omega)
        have hck := hc k hlt
        have HKL : Hid (k < (K :: cs).length) := by rw [Hid, HL2.out.1.1]; exact hlt
        obtain ⟨q, hq⟩ : ∃ q, q = (K :: cs)[k]?.getD 0 := ⟨_, rfl⟩
        rw [← hq] at hck
        have HQ := hide hq
        clear hc hq
        by_cases h1 : 1048576 < q
        · go_wp2
          go_ret
          rw [E1.out, any_of_getD (K :: cs) k HKL.out (by rw [← HQ.out]; simp [ptFar, h1])]
          exact ⟨rfl, HB2.out⟩
        · by_cases h2 : q < -1048576
          · go_wp2
            go_ret
            rw [E1.out, any_of_getD (K :: cs) k HKL.out (by rw [← HQ.out]; simp [ptFar, h2])]
            exact ⟨rfl, HB2.out⟩
          · go_wp2
            go_round
            case rel => exact ⟨k + 1, by omega, by go_num, not_mem_take_succ (K :: cs) k HKL.out HN.out (by rw [← HQ.out]; simp [ptFar]; omega)⟩
            case measure => simp [intOf]; omega
      · go_wp2
        go_ret
        have := HN.out
        rw [take_all HL2.out.1.1 hlt] at this
        rw [E1.out, this]
        exact ⟨rfl, HB2.out⟩
  · have e1 : rowE (cs, K) many = 6 := by unfold rowE; rw [if_pos (by rw [h.1.1]; exact c1)]
    rw [e1]
    have c2 : ((l : Int) != (many : Int)) = true := by simp; omega
    have HB := hide (bl_new (w := w) (.cells #[.slice a l c, .int .i64 K] 51))
    clear e1 h c1
    go_enter Try.func35, Try.ntmps35
    go_wp2
    go_ret
    exact ⟨rfl, HB.out⟩

set_option maxHeartbeats 4000000 in
theorem rptWrong_any (ba : Option Addr) (bl bc : Nat) (box : List Int) (ra : Option Addr) (rl rc : Nat) (rs : List (List Int × Int)) (w : World) (h : Ints w ba bl box) (hr : Rws w ra rl rs) :
    Calls Try.prog 57 #[.agg #[.slice ba bl bc, .slice ra rl rc]] w fun e w' => e = .returned (.int .i64 (ptE box rs)) ∧ Below w.heap.size w w' := by
  have hm := h.2.1
  have hm2 := hr.2.1
  have B1 : Below w.heap.size w (w.alloc (.cells #[.slice ba bl bc, .slice ra rl rc] 70)) := bl_new _
  have H := hide (h.below B1)
  have HR := hide hr
  have HB := hide B1
  have HL1 := hide h.1
  have HL2 := hide hr.1
  have HP0 := hide (PtAt.new w ba bl bc ra rl rc)
  by_cases c0 : 4 < bl
  · have e1 : ptE box rs = 3 := by
      have : boxE box = 3 := by unfold boxE; rw [if_pos (by rw [h.1]; exact c0)]
      unfold ptE; rw [if_pos (by rw [this]; decide), this]
    rw [e1]
    clear h hr e1 B1
    go_enter Try.func57, Try.ntmps57
    go_wp2
    go_ret
    exact ⟨rfl, HB.out⟩
  have hbl : bl ≤ 4 := by omega
  have eb : boxE box = if box.any badDim = true then 4 else if 4096 < prod box then 5 else 0 := by unfold boxE; rw [if_neg (by rw [h.1]; exact c0)]
  have EB := hide eb
  clear h hr B1 eb c0
  go_enter Try.func57, Try.ntmps57
  go_wp2
  go_loop [3, 16] (fun s i => ∃ k : Nat, k ≤ bl ∧ i = .int .i64 k ∧ s = .int .i64 (prod (box.take k)) ∧ (box.take k).any badDim = false) (fun _ i => bl - (intOf i).toNat)
  case atStart => exact ⟨0, Nat.zero_le _, rfl, by simp [prod], by simp⟩
  case round =>
    obtain ⟨k, hk, rfl, rfl, hn⟩ := hrel
    have HN := hide hn
    clear hn
    by_cases hlt : k < bl
    · obtain ⟨b, off, rfl, hb, hc⟩ := H.out.at (by omega)
      have hck := hc k hlt
      have hkl : k < box.length := by rw [HL1.out]; exact hlt
      have HKL := hide hkl
      obtain ⟨q, hq⟩ : ∃ q, q = box[k]?.getD 0 := ⟨_, rfl⟩
      rw [← hq] at hck
      have HQ := hide hq
      clear hc hq hkl
      by_cases h1 : q < 0
      · have e1 : ptE box rs = 4 := by
          have : boxE box = 4 := by rw [EB.out, if_pos (any_of_getD box k HKL.out (by rw [← HQ.out]; simp [badDim, h1]))]
          unfold ptE; rw [if_pos (by rw [this]; decide), this]
        have E1 := hide e1
        clear e1
        go_wp2
        go_ret
        rw [E1.out]
        exact ⟨rfl, HB.out⟩
      · by_cases h2 : 4096 < q
        · have e1 : ptE box rs = 4 := by
            have : boxE box = 4 := by rw [EB.out, if_pos (any_of_getD box k HKL.out (by rw [← HQ.out]; simp [badDim, h2]))]
            unfold ptE; rw [if_pos (by rw [this]; decide), this]
          have E1 := hide e1
          clear e1
          go_wp2
          go_ret
          rw [E1.out]
          exact ⟨rfl, HB.out⟩
        · have HP := hide (prod_take_succ box k HKL.out)
          have hd : ∀ x ∈ box.take (k + 1), 0 ≤ x ∧ x ≤ 4096 := by
            intro x hx
            rw [take_succ_getD box k HKL.out, List.mem_append] at hx
            rcases hx with hx | hx
            · have := List.any_eq_false.1 HN.out x hx
              simp [badDim] at this
              omega
            · have : x = q := by rw [HQ.out]; simpa using hx
              omega
          have hq := prod_take_bd (box.take (k + 1)) hd (k + 1)
          rw [List.take_take, Nat.min_self, HP.out, ← HQ.out] at hq
          have q3 : (4096 : Int) ^ (k + 1) ≤ 281474976710656 := by
            have : k + 1 = 1 ∨ k + 1 = 2 ∨ k + 1 = 3 ∨ k + 1 = 4 := by omega
            rcases this with e | e | e | e <;> rw [e] <;> decide
          have q4 : prod (box.take k) * q ≤ 281474976710656 := Int.le_trans hq.2 q3
          have q5 := hq.1
          have hn' := hide (not_mem_take_succ box k HKL.out HN.out (by rw [← HQ.out]; simp [badDim]; omega))
          clear hd hq q3
          go_wp2
          go_round
          case rel => exact ⟨k + 1, by omega, by go_num, by rw [HP.out, ← HQ.out], hn'.out⟩
          case measure => simp [intOf]; omega
    · obtain rfl : k = bl := by omega
      have hall : box.take k = box := take_all HL1.out hlt
      rw [hall]
      have hna : box.any badDim = false := by have := HN.out; rwa [hall] at this
      have eb : boxE box = if 4096 < prod box then 5 else 0 := by rw [EB.out, if_neg (by simp [hna])]
      have EB2 := hide eb
      clear hall hna eb hlt HN
      by_cases c5 : 4096 < prod box
      · have e1 : ptE box rs = 5 := by
          have : boxE box = 5 := by rw [EB2.out, if_pos c5]
          unfold ptE; rw [if_pos (by rw [this]; decide), this]
        have E1 := hide e1
        clear e1
        go_wp2
        go_ret
        rw [E1.out]
        exact ⟨rfl, HB.out⟩
      · have c1 : boxE box = 0 := by rw [EB2.out, if_neg c5]
        by_cases c3 : 8 < rl
        · have e1 : ptE box rs = 2 := by unfold ptE; rw [if_neg (by rw [c1]; decide), if_pos (by rw [HL2.out]; exact c3)]
          have E1 := hide e1
          clear e1 c1
          go_wp2
          go_ret
          rw [E1.out]
          exact ⟨rfl, HB.out⟩
        · have e1 : ptE box rs = rowsE rs k := by unfold ptE; rw [if_neg (by rw [c1]; decide), if_neg (by rw [HL2.out]; exact c3), HL1.out]
          have E1 := hide e1
          clear e1 c1
          go_wp2
          go_loopw [39] (fun i wr => ∃ j : Nat, j ≤ rl ∧ i = .int .i64 j ∧ rowsE (rs.take j) k = 0 ∧ Below w.heap.size w wr ∧ PtAt wr w.heap.size ba k bc ra rl rc) (fun i _ => rl - (intOf i).toNat)
          case atStart => exact ⟨0, Nat.zero_le _, rfl, by simp [rowsE], HB.out, HP0.out⟩
          case round =>
            obtain ⟨j, hj, rfl, hn, hB, hP⟩ := hrel
            have HN := hide hn
            have HBr := hide hB
            have HP := hide hP
            clear hn hB
            by_cases hlt : j < rl
            · have hkl : j < rs.length := by rw [HL2.out]; exact hlt
              obtain ⟨b, off, rfl, hat⟩ := (HR.out.below HBr.out).at (by omega)
              obtain ⟨a, l, c, k1, k2, k3, k4, k5⟩ := hat j hlt
              have z1 := lt_of_cell k1
              have z2 := lt_of_cell k2
              simp only at z1 z2
              obtain ⟨q, hq⟩ : ∃ q, q = rs[j]?.getD ([], 0) := ⟨_, rfl⟩
              rw [← hq] at k2 k3 k5
              have HQ := hide hq
              obtain ⟨cs, K⟩ := q
              simp only at k2 k3 k5
              have B2 : Below wr.heap.size wr (wr.alloc (.cells #[.slice a l c, .int .i64 K] 51)) := bl_new _
              obtain ⟨p0, p1⟩ := (hP.below B2).cells
              obtain ⟨p2, p3⟩ := hP.cells
              have pz := hP.lt
              have HC := hide (rRow_any a l c cs K k (wr.alloc (.cells #[.slice a l c, .int .i64 K] 51)) (Lst.below ⟨k3, k4⟩ B2) k5 hbl)
              have HKL := hide hkl
              have HB2 := hide B2
              clear hat k3 k4 k5 hq hkl B2 hP
              go_wp2_with (go_at_call 35; refine HC.out.mono ?_; rintro e w2 ⟨rfl, hb⟩; have HB3 := hide (bl_on HB2.out hb); clear hb)
              · have hx : rowE (cs, K) k ≠ 0 := by simpa using (by assumption : (rowE (cs, K) k != 0) = true)
                go_ret
                refine ⟨?_, bl_on HBr.out HB3.out⟩
                rw [E1.out, rowsE_here rs k j HKL.out HN.out (by rw [← HQ.out]; exact hx), ← HQ.out]; rfl
              · have hx : rowE (cs, K) k = 0 := by simpa using (by assumption : (rowE (cs, K) k != 0) = false)
                go_roundw
                case rel => exact ⟨j + 1, by omega, by go_num, rowsE_take rs k j HKL.out HN.out (by rw [← HQ.out]; exact hx), bl_on HBr.out HB3.out, HP.out.below HB3.out⟩
                case measure => simp [intOf]; omega
            · go_wp2
              go_ret
              have := HN.out
              rw [List.take_of_length_le (by rw [HL2.out]; omega)] at this
              exact ⟨by rw [E1.out, this]; rfl, HBr.out⟩
set_option maxHeartbeats 1000000 in
theorem rAt_any (a : Option Addr) (l c : Nat) (cs : List Int) (K : Int) (xa : Option Addr) (xl xc : Nat) (xs : List Int) (w : World) (h : Ints w a l cs) (hx : Ints w xa xl xs) (hl : l = xl) (h4 : l ≤ 4)
    (hK : -1048576 ≤ K ∧ K ≤ 1048576) (hc : ∀ c ∈ cs, -1048576 ≤ c ∧ c ≤ 1048576) (hb : ∀ x ∈ xs, 0 ≤ x ∧ x ≤ 4096) :
    Calls Try.prog 84 #[.agg #[.slice a l c, .int .i64 K], .slice xa xl xc] w fun e w' => e = .returned (.int .i64 (worthV (cs, K) xs)) ∧ Below w.heap.size w w' := by
  have B1 : Below w.heap.size w (w.alloc (.cells #[.slice a l c, .int .i64 K] 51)) := bl_new _
  have H := hide (h.below B1)
  have HX := hide (hx.below B1)
  have HL1 := hide h.1
  have HL2 := hide hx.1
  have HC := hide hc
  have HB := hide hb
  have HB1 := hide B1
  subst hl
  clear h hx hc hb B1
  go_enter Try.func84, Try.ntmps84
  go_wp2
  go_loopw [5, 12] (fun s i wr => ∃ k : Nat, k ≤ l ∧ i = .int .i64 k ∧ (∃ n, wr = (w.alloc (.cells #[.slice a l c, .int .i64 K] 51)).drewN n) ∧ s = .int .i64 (K + dotV (cs.take k) (xs.take k))) (fun _ i _ => l - (intOf i).toNat)
  case atStart => exact ⟨0, Nat.zero_le _, rfl, ⟨0, rfl⟩, by simp [dotV]⟩
  case round =>
    obtain ⟨k, hk, rfl, ⟨nn, rfl⟩, rfl⟩ := hrel
    by_cases hlt : k < l
    · obtain ⟨b, off, rfl, hb, hcc⟩ := H.out.at (by omega)
      obtain ⟨b', off', rfl, hb', hcc'⟩ := HX.out.at (by omega)
      have hck := hcc k hlt
      have hck' := hcc' k hlt
      have k1 : k < cs.length := by rw [HL1.out]; exact hlt
      have k2 : k < xs.length := by rw [HL2.out]; exact hlt
      have m1 := pt_mul_bd (HC.out _ (mem_getD cs k k1)) (HB.out _ (mem_getD xs k k2))
      have m2 := dotV_bd (cs.take k) (xs.take k) (fun c hc => HC.out c (List.mem_of_mem_take hc)) (fun x hx => HB.out x (List.mem_of_mem_take hx))
      have m3 : (cs.take k).length ≤ 4 := by rw [List.length_take]; omega
      have HD := hide (dotV_take cs xs k k1 k2)
      obtain ⟨S, hS⟩ : ∃ S, S = dotV (cs.take k) (xs.take k) := ⟨_, rfl⟩
      rw [← hS] at m2 ⊢
      have HS := hide hS
      have m4 : -17179869184 ≤ S ∧ S ≤ 17179869184 := by omega
      obtain ⟨x1, hx1⟩ : ∃ x, x = cs[k]?.getD 0 := ⟨_, rfl⟩
      obtain ⟨x2, hx2⟩ : ∃ x, x = xs[k]?.getD 0 := ⟨_, rfl⟩
      rw [← hx1] at hck m1
      rw [← hx2] at hck' m1
      have HX1 := hide hx1
      have HX2 := hide hx2
      have HM := hide (And.intro k1 k2)
      clear hcc hcc' k1 k2 m2 m3 hS hx1 hx2
      have cz := (Boxed.new w 3 (.int .i64 0)).lt
      go_wp2
      go_quiet (fail)
      go_wp2
      go_roundw
      case rel => exact ⟨k + 1, by omega, by go_num, ⟨_, rfl⟩, by rw [HD.out, ← HS.out, ← HX1.out, ← HX2.out]; go_num⟩
      case measure => simp [intOf]; omega
    · go_wp2
      go_ret
      refine ⟨?_, HB1.out.trans (below_drewN _ nn)⟩
      rw [take_all HL1.out hlt, take_all HL2.out hlt]
      rfl

end Go.Proofs.Ytkbdnhchlkafnaa.V
namespace Go.Proofs.Ytkbdnhchlkafnaa.V
open Go.RowKit
set_option linter.unusedVariables false

/-- An array of eight numbers. -/
def arr8 (f : Nat → Int) : Value := .agg #[.int .i64 (f 0), .int .i64 (f 1), .int .i64 (f 2), .int .i64 (f 3), .int .i64 (f 4), .int .i64 (f 5), .int .i64 (f 6), .int .i64 (f 7)]
def cs8 (f : Nat → Int) : Array Value := #[.int .i64 (f 0), .int .i64 (f 1), .int .i64 (f 2), .int .i64 (f 3), .int .i64 (f 4), .int .i64 (f 5), .int .i64 (f 6), .int .i64 (f 7)]
theorem cs8_at (f : Nat → Int) (i : Nat) (hi : i < 8) : (cs8 f)[i]? = some (.int .i64 (f i)) := by
  have : i = 0 ∨ i = 1 ∨ i = 2 ∨ i = 3 ∨ i = 4 ∨ i = 5 ∨ i = 6 ∨ i = 7 := by omega
  rcases this with rfl | rfl | rfl | rfl | rfl | rfl | rfl | rfl <;> rfl
theorem row8 {w : World} {b : Nat} {t : TypeId} (f : Nat → Int) (h : w.heap[b]? = some (.cells (cs8 f) t (0, 0))) : w.rowIs b t 8 (fun j => .int .i64 (f j)) := ⟨_, h, rfl, fun i hi => cs8_at f i hi⟩
/-- The time of a spot: noughts behind the rows' numbers. -/
def timeV (rows : List (List Int × Int)) (x : List Int) (k : Nat) : Int := if k < rows.length then worthV (rows[k]?.getD ([], 0)) x else 0
/-- Is one time ahead of another? From place k on, n places. -/
def befN (f g : Nat → Int) : Nat → Nat → Bool
  | 0, _ => false
  | n + 1, k => if f k ≠ g k then decide (f k < g k) else befN f g n (k + 1)
def befB (f g : Nat → Int) : Bool := befN f g 8 0
theorem befN_skip (f g : Nat → Int) : ∀ (n k : Nat), (∀ j, j < k → f j = g j) → befN f g (k + n) 0 = befN f g n k
  | n, 0, _ => by rw [Nat.zero_add]
  | n, k + 1, h => by
    have e := befN_skip f g (n + 1) k (fun j hj => h j (by omega))
    rw [show k + 1 + n = k + (n + 1) by omega, e]
    simp only [befN]
    rw [if_neg (by simpa using h k (by omega))]
theorem befB_here {f g : Nat → Int} {k : Nat} (hk : k < 8) (h : ∀ j, j < k → f j = g j) (hn : f k ≠ g k) : befB f g = decide (f k < g k) := by
  unfold befB
  rw [show 8 = k + ((7 - k) + 1) by omega, befN_skip f g _ k h]
  simp only [befN]
  rw [if_pos hn]
theorem befB_same {f g : Nat → Int} (h : ∀ j, j < 8 → f j = g j) : befB f g = false := by
  unfold befB
  have := befN_skip f g 0 8 h
  rw [Nat.add_zero] at this
  rw [this]
  rfl

set_option maxRecDepth 100000 in
set_option maxHeartbeats 2000000 in
theorem rBefore_any (f g : Nat → Int) (w : World) : Calls Try.prog 46 #[arr8 f, arr8 g] w fun e w' => e = .returned (.bool (befB f g)) ∧ Below w.heap.size w w' := by
  have B1 : Below w.heap.size w ((w.alloc (.cells (cs8 f) 58)).alloc (.cells (cs8 g) 58)) := bl_on (bl_new _) (bl_new _)
  have R1 := (row8 (w := (w.alloc (.cells (cs8 f) 58)).alloc (.cells (cs8 g) 58)) (b := w.heap.size) (t := 58) f ((Below.heap_alloc _ _ _ (by simp)).trans (World.alloc_heap_new w _)))
  have R2 := (row8 (w := (w.alloc (.cells (cs8 f) 58)).alloc (.cells (cs8 g) 58)) (b := w.heap.size + 1) (t := 58) g (by have := World.alloc_heap_new (w.alloc (.cells (cs8 f) 58)) (.cells (cs8 g) 58); rw [World.size_alloc] at this; exact this))
  obtain ⟨W, hW⟩ : ∃ W, W = (w.alloc (.cells (cs8 f) 58)).alloc (.cells (cs8 g) 58) := ⟨_, rfl⟩
  rw [← hW] at B1 R1 R2
  have HB := hide B1
  have HR1 := hide R1
  have HR2 := hide R2
  have HW := hide hW
  have z1 := R1.lt
  have z2 := R2.lt
  clear hW B1 R1 R2
  simp only [arr8]
  unfold cs8 at HW
  go_enter Try.func46, Try.ntmps46
  go_wp2_with fail
  rw [← HW.out]
  go_loopw [6] (fun i wr => ∃ k : Nat, k ≤ 8 ∧ i = .int .i64 k ∧ (∀ j, j < k → f j = g j) ∧ ∃ n, wr = W.drewN n) (fun i _ => 8 - (intOf i).toNat)
  case atStart => exact ⟨0, Nat.zero_le _, rfl, fun j hj => by omega, 0, rfl⟩
  case round =>
    obtain ⟨k, hk, rfl, hE, n, rfl⟩ := hrel
    have HE := hide hE
    clear hE
    by_cases hlt : k < 8
    · have c1 := HR1.out.cell hlt
      have c2 := HR2.out.cell hlt
      have HH := hide (fun hn => befB_here (f := f) (g := g) hlt HE.out hn)
      have HS : Hid (f k = g k → ∀ j, j < k + 1 → f j = g j) := fun e j hj => by
        by_cases ej : j = k
        · subst ej; exact e
        · exact HE.out j (by omega)
      obtain ⟨a, ha⟩ : ∃ a, a = f k := ⟨_, rfl⟩
      obtain ⟨b, hb⟩ : ∃ b, b = g k := ⟨_, rfl⟩
      rw [← ha] at c1 HH HS
      rw [← hb] at c2 HH HS
      clear ha hb
      by_cases q : a = b
      · have q1 : (a != b) = false := by simpa using q
        have HS2 := hide (HS.out q)
        clear q HS HH
        go_wp2_with fail
        go_quiet (fail)
        go_wp2_with fail
        go_roundw
        case rel => exact ⟨k + 1, by omega, by go_num, HS2.out, _, rfl⟩
        case measure => simp [intOf]; omega
      · have q1 : (a != b) = true := by simpa using q
        have HH2 := hide (HH.out q)
        clear q HS HH
        go_wp2_with fail
        go_quiet (fail)
        go_wp2_with fail
        go_quiet (fail)
        go_wp2_with fail
        go_ret
        exact ⟨by rw [HH2.out]; rfl, bl_on HB.out (bl_on (below_drewN _ n) (bl_on (below_drewN _ _) (below_drewN _ _)))⟩
    · have HH : Hid (befB f g = false) := befB_same (fun j hj => HE.out j (by omega))
      go_wp2_with fail
      go_ret
      exact ⟨by rw [HH.out]; rfl, bl_on HB.out (below_drewN _ _)⟩
/-- The words of a spot in a block. -/
def SpBlk (w : World) (b : Nat) (i : Nat) (xa : Option Addr) (xl xc : Nat) : Prop := w.heap[b]? = some (.cells #[.int .i64 (i : Int), .slice xa xl xc] 29 (0, 0))
theorem SpBlk.cells {w : World} {b i : Nat} {xa : Option Addr} {xl xc : Nat} (h : SpBlk w b i xa xl xc) : w.cell? ⟨b, 0, none⟩ = some (.int .i64 (i : Int)) ∧ w.cell? ⟨b, 1, none⟩ = some (.slice xa xl xc) := by
  unfold SpBlk at h
  refine ⟨?_, ?_⟩ <;> simp [World.cell?, h]
theorem SpBlk.lt {w : World} {b i : Nat} {xa : Option Addr} {xl xc : Nat} (h : SpBlk w b i xa xl xc) : b < w.heap.size := (Array.getElem?_eq_some_iff.1 h).1
theorem SpBlk.below {w w' : World} {b i : Nat} {xa : Option Addr} {xl xc : Nat} (h : SpBlk w b i xa xl xc) (hb : Below w.heap.size w w') : SpBlk w' b i xa xl xc := (hb.block b h.lt).trans h

/-- Times in memory. -/
def TimesA (w : World) (a : Option Addr) (len : Nat) (T : List (List (List Int × Int))) : Prop := T.length = len ∧ len ≤ 9223372036854775807 ∧ (len = 0 ∨ ∃ b off, a = some ⟨b, off, none⟩ ∧ ∀ i, i < len → ∃ x l c, w.cell? ⟨b, off + i, none⟩ = some (.slice x l c) ∧ Rws w x l (T[i]?.getD []))
theorem TimesA.below {w w' : World} {a : Option Addr} {len : Nat} {T : List (List (List Int × Int))} (h : TimesA w a len T) (hb : Below w.heap.size w w') : TimesA w' a len T := by
  obtain ⟨h1, h2, h3⟩ := h
  refine ⟨h1, h2, ?_⟩
  rcases h3 with h3 | ⟨b, off, e, h⟩
  · exact .inl h3
  · refine .inr ⟨b, off, e, fun i hi => ?_⟩
    obtain ⟨x, l, c, k1, k2⟩ := h i hi
    exact ⟨x, l, c, (hb.cell (p := ⟨b, off + i, none⟩) (lt_of_cell k1)).trans k1, k2.below hb⟩
theorem TimesA.at {w : World} {a : Option Addr} {len : Nat} {T : List (List (List Int × Int))} (h : TimesA w a len T) (h0 : 0 < len) : ∃ b off, a = some ⟨b, off, none⟩ ∧ ∀ i, i < len → ∃ x l c, w.cell? ⟨b, off + i, none⟩ = some (.slice x l c) ∧ Rws w x l (T[i]?.getD []) := by
  rcases h.2.2 with h3 | h3
  · omega
  · exact h3

/-- Eight stores. -/
def put8 (w : World) (b : Nat) (f : Nat → Value) : World := (((((((w.setCell ⟨b, 0, none⟩ (f 0)).setCell ⟨b, 1, none⟩ (f 1)).setCell ⟨b, 2, none⟩ (f 2)).setCell ⟨b, 3, none⟩ (f 3)).setCell ⟨b, 4, none⟩ (f 4)).setCell ⟨b, 5, none⟩ (f 5)).setCell ⟨b, 6, none⟩ (f 6)).setCell ⟨b, 7, none⟩ (f 7)
theorem set8 {w : World} {b : Nat} {t : TypeId} {g : Nat → Value} (h : w.rowIs b t 8 g) (f : Nat → Value) : (put8 w b f).rowIs b t 8 f := by
  refine ((((((((h.set 0 (f 0)).set 1 (f 1)).set 2 (f 2)).set 3 (f 3)).set 4 (f 4)).set 5 (f 5)).set 6 (f 6)).set 7 (f 7)).congr (fun j hj => ?_)
  have : j = 0 ∨ j = 1 ∨ j = 2 ∨ j = 3 ∨ j = 4 ∨ j = 5 ∨ j = 6 ∨ j = 7 := by omega
  rcases this with rfl | rfl | rfl | rfl | rfl | rfl | rfl | rfl <;> rfl
theorem below8 {N : Nat} {w0 w : World} (h : Below N w0 w) {b : Nat} (hb : N ≤ b) (f : Nat → Value) : Below N w0 (put8 w b f) :=
  (((((((h.setCell (p := ⟨b, 0, none⟩) hb _).setCell (p := ⟨b, 1, none⟩) hb _).setCell (p := ⟨b, 2, none⟩) hb _).setCell (p := ⟨b, 3, none⟩) hb _).setCell (p := ⟨b, 4, none⟩) hb _).setCell (p := ⟨b, 5, none⟩) hb _).setCell (p := ⟨b, 6, none⟩) hb _).setCell (p := ⟨b, 7, none⟩) hb _

set_option maxRecDepth 100000 in
set_option maxHeartbeats 4000000 in
theorem rTime_any (ta : Option Addr) (tl tc : Nat) (T : List (List (List Int × Int))) (i : Nat) (xa : Option Addr) (xl xc : Nat) (x : List Int) (w : World) (hT : TimesA w ta tl T) (hi : i < tl) (hx : Ints w xa xl x) (hx4 : xl ≤ 4) (hxb : ∀ y ∈ x, 0 ≤ y ∧ y ≤ 4096) (h8 : (T[i]?.getD []).length ≤ 8)
    (hr : ∀ r ∈ T[i]?.getD [], r.1.length = xl ∧ (-1048576 ≤ r.2 ∧ r.2 ≤ 1048576) ∧ ∀ c ∈ r.1, -1048576 ≤ c ∧ c ≤ 1048576) :
    Calls Try.prog 47 #[.slice ta tl tc, .agg #[.int .i64 (i : Int), .slice xa xl xc]] w fun e w' => e = .returned (arr8 (timeV (T[i]?.getD []) x)) ∧ Below w.heap.size w w' := by
  have HT := hide hT
  have HX := hide hx
  have HXB := hide hxb
  have HR := hide hr
  have hm := hT.2.1
  obtain ⟨tb, to, rfl, hat⟩ := hT.at (by omega)
  obtain ⟨ra, rl, rc, r1, r2⟩ := hat i hi
  obtain ⟨rows, hrows⟩ : ∃ rows, rows = T[i]?.getD [] := ⟨_, rfl⟩
  rw [← hrows] at h8 r2 HR
  rw [← hrows]
  have HRW := hide r2
  have HRL := hide r2.1
  have hrl8 : rl ≤ 8 := by have := r2.1; omega
  obtain ⟨W, hW⟩ : ∃ W, W = ((w.alloc (.cells #[.int .i64 (i : Int), .slice xa xl xc] 29)).alloc (.cells (cs8 fun _ => 0) 58)).alloc (.cells (cs8 fun _ => 0) 58) := ⟨_, rfl⟩
  have BW : Below w.heap.size w W := by rw [hW]; exact bl_on (bl_new _) (bl_on (bl_new _) (bl_new _))
  have SB : SpBlk W w.heap.size i xa xl xc := by
    rw [hW]
    exact (Below.heap_alloc _ _ _ (by simp; omega)).trans ((Below.heap_alloc _ _ _ (by simp)).trans (World.alloc_heap_new w _))
  have R4 : W.rowIs (w.heap.size + 1) 58 8 (fun j => .int .i64 0) := by
    refine row8 (fun _ => 0) ?_
    rw [hW]
    refine (Below.heap_alloc _ _ _ (by simp)).trans ?_
    have := World.alloc_heap_new (w.alloc (.cells #[.int .i64 (i : Int), .slice xa xl xc] 29)) (.cells (cs8 fun _ => 0) 58)
    rw [World.size_alloc] at this
    exact this
  have R5 : W.rowIs (w.heap.size + 1 + 1) 58 8 (fun j => .int .i64 (if j < 0 then timeV rows x j else 0)) := by
    refine (row8 (fun _ => 0) ?_).congr (fun j hj => by simp)
    rw [hW]
    have := World.alloc_heap_new ((w.alloc (.cells #[.int .i64 (i : Int), .slice xa xl xc] 29)).alloc (.cells (cs8 fun _ => 0) 58)) (.cells (cs8 fun _ => 0) 58)
    rw [World.size_alloc, World.size_alloc] at this
    exact this
  obtain ⟨s0, s1⟩ := SB.cells
  have zS := SB.lt
  have r1' := (BW.cell (p := ⟨tb, to + i, none⟩) (lt_of_cell r1)).trans r1
  have zr := lt_of_cell r1'
  simp only at zr
  have HW := hide hW
  have HBW := hide BW
  have HSB := hide SB
  have HR4 := hide R4
  have HR5 := hide R5
  unfold cs8 at HW
  clear hT hx hxb hr hat hrows r2 hW BW SB R4 R5 r1 h8
  rw [HW.out] at r1' s0 s1 zr zS
  go_enter Try.func47, Try.ntmps47
  go_wp2_with fail
  rw [← HW.out]
  clear s0 s1 r1' zr
  go_loopw [14] (fun i' wr => ∃ k : Nat, k ≤ rl ∧ i' = .int .i64 k ∧ Below w.heap.size w wr ∧ SpBlk wr w.heap.size i xa xl xc ∧ wr.rowIs (w.heap.size + 1) 58 8 (fun j => .int .i64 0) ∧ wr.rowIs (w.heap.size + 1 + 1) 58 8 (fun j => .int .i64 (if j < k then timeV rows x j else 0))) (fun i' _ => rl - (intOf i').toNat)
  case atStart => exact ⟨0, Nat.zero_le _, rfl, HBW.out, HSB.out, HR4.out, HR5.out⟩
  case round =>
    clear HBW HSB HR4 HR5
    obtain ⟨k, hk, rfl, hB, hS, hR4, hR5⟩ := hrel
    have HB := hide hB
    have HS := hide hS
    have HR4 := hide hR4
    have HR5 := hide hR5
    have zS := hS.lt
    have z5 := hR5.lt
    have z4 := hR4.lt
    clear hB hS hR4 hR5
    by_cases hlt : k < rl
    · have hkl : k < rows.length := by rw [HRL.out]; exact hlt
      obtain ⟨b, off, rfl, hat⟩ := (HRW.out.below HB.out).at (by omega)
      obtain ⟨ca, cl, cc, k1, k2, k3, k4, k5⟩ := hat k hlt
      have y1 := lt_of_cell k1
      have y2 := lt_of_cell k2
      simp only at y1 y2
      have hrow := HR.out _ (mem_getR rows k hkl)
      have HTV : Hid (timeV rows x k = worthV (rows[k]?.getD ([], 0)) x) := by unfold Hid timeV; rw [if_pos hkl]
      obtain ⟨q, hq⟩ : ∃ q, q = rows[k]?.getD ([], 0) := ⟨_, rfl⟩
      rw [← hq] at k2 k3 k5 hrow HTV
      obtain ⟨cs, K⟩ := q
      simp only at k2 k3 k5 hrow
      have B3 : Below wr.heap.size wr (wr.alloc (.cells #[.slice ca cl cc, .int .i64 K] 51)) := bl_new _
      have hll : cl = xl := by have := k3.1; omega
      have HAT := hide (rAt_any ca cl cc cs K xa xl xc x _ (k3.below B3) ((HX.out.below HB.out).below B3) hll (by omega) hrow.2.1 hrow.2.2 HXB.out)
      obtain ⟨s0, s1⟩ := (HS.out.below B3).cells
      have HB3 := hide B3
      obtain rfl := hll.symm
      clear hat k3 k4 k5 hq hrow B3 hkl
      go_wp2_with fail
      refine HAT.out.mono ?_
      rintro e w2 ⟨rfl, hb⟩
      have HB4 := hide (bl_on HB3.out hb)
      have R5 : w2.rowIs (w.heap.size + 1 + 1) 58 8 (fun j => .int .i64 (if j < k then timeV rows x j else 0)) := HR5.out.of_block (HB4.out.block _ z5)
      have c5 := R5.cell (i := k) (by omega)
      have f5 := R5.frozen k
      have z52 := R5.lt
      have HR52 := hide R5
      obtain ⟨V, hV⟩ : ∃ V, V = worthV (cs, K) x := ⟨_, rfl⟩
      rw [← hV] at HTV
      rw [← hV]
      have hk8 : k < 8 := by omega
      clear hb R5 hV k1 k2
      go_wp2_with fail
      go_roundw
      case rel =>
        refine ⟨k + 1, by omega, by go_num, (bl_on HB.out HB4.out).setCell (p := ⟨w.heap.size + 1 + 1, k, none⟩) (by simp only; omega) _, ?_, ?_, ?_⟩
        · exact (Below.heap_setCell _ ⟨w.heap.size + 1 + 1, k, none⟩ _ w.heap.size (by simp only; omega)).trans ((HB4.out.block _ zS).trans HS.out)
        · exact (World.rowIs.of_block HR4.out (HB4.out.block _ z4)).setOther (a := ⟨w.heap.size + 1 + 1, k, none⟩) (by simp only; omega) _
        · refine (HR52.out.set k _).congr (fun j hj => ?_)
          by_cases e : j = k
          · subst e; simp [HTV.out]
          · rw [if_neg e]
            congr 1
            by_cases e2 : j < k
            · rw [if_pos e2, if_pos (by omega)]
            · rw [if_neg e2, if_neg (by omega)]
      case measure => simp [intOf]; omega
    · obtain rfl : rl = k := by omega
      have R5 : wr.rowIs (w.heap.size + 1 + 1) 58 8 (fun j => .int .i64 (timeV rows x j)) := HR5.out.congr (fun j hj => by
        by_cases e : j < rl
        · rw [if_pos e]
        · rw [if_neg e]; unfold timeV; rw [if_neg (by rw [HRL.out]; exact e)])
      have c0 := R5.cell (i := 0) (by omega)
      have c1 := R5.cell (i := 1) (by omega)
      have c2 := R5.cell (i := 2) (by omega)
      have c3 := R5.cell (i := 3) (by omega)
      have c4 := R5.cell (i := 4) (by omega)
      have c5 := R5.cell (i := 5) (by omega)
      have c6 := R5.cell (i := 6) (by omega)
      have c7 := R5.cell (i := 7) (by omega)
      have d0 := HR4.out.cell (i := 0) (by omega)
      have d1 := HR4.out.cell (i := 1) (by omega)
      have d2 := HR4.out.cell (i := 2) (by omega)
      have d3 := HR4.out.cell (i := 3) (by omega)
      have d4 := HR4.out.cell (i := 4) (by omega)
      have d5 := HR4.out.cell (i := 5) (by omega)
      have d6 := HR4.out.cell (i := 6) (by omega)
      have d7 := HR4.out.cell (i := 7) (by omega)
      have e0 := HR4.out.frozen 0
      have e1 := HR4.out.frozen 1
      have e2 := HR4.out.frozen 2
      have e3 := HR4.out.frozen 3
      have e4 := HR4.out.frozen 4
      have e5 := HR4.out.frozen 5
      have e6 := HR4.out.frozen 6
      have e7 := HR4.out.frozen 7
      clear R5
      go_wp2_with fail
      have RF := set8 HR4.out (fun j => .int .i64 (timeV rows x j))
      have BF := below8 HB.out (b := w.heap.size + 1) (by omega) (fun j => .int .i64 (timeV rows x j))
      have hput : ((((((((wr.setCell ⟨w.heap.size + 1, 0, none⟩ (Value.int .i64 (timeV rows x 0))).setCell ⟨w.heap.size + 1, 1, none⟩ (Value.int .i64 (timeV rows x 1))).setCell ⟨w.heap.size + 1, 2, none⟩ (Value.int .i64 (timeV rows x 2))).setCell ⟨w.heap.size + 1, 3, none⟩ (Value.int .i64 (timeV rows x 3))).setCell ⟨w.heap.size + 1, 4, none⟩ (Value.int .i64 (timeV rows x 4))).setCell ⟨w.heap.size + 1, 5, none⟩ (Value.int .i64 (timeV rows x 5))).setCell ⟨w.heap.size + 1, 6, none⟩ (Value.int .i64 (timeV rows x 6))).setCell ⟨w.heap.size + 1, 7, none⟩ (Value.int .i64 (timeV rows x 7))) = put8 wr (w.heap.size + 1) (fun j => .int .i64 (timeV rows x j)) := rfl
      rw [hput]
      clear hput
      generalize put8 wr (w.heap.size + 1) (fun j => .int .i64 (timeV rows x j)) = wf at RF BF ⊢
      have HBF := hide BF
      clear BF
      have g0 := RF.cell (i := 0) (by omega)
      have g1 := RF.cell (i := 1) (by omega)
      have g2 := RF.cell (i := 2) (by omega)
      have g3 := RF.cell (i := 3) (by omega)
      have g4 := RF.cell (i := 4) (by omega)
      have g5 := RF.cell (i := 5) (by omega)
      have g6 := RF.cell (i := 6) (by omega)
      have g7 := RF.cell (i := 7) (by omega)
      refine bodyPost_ret (v := arr8 (timeV rows x)) (by simp [results, Try.results47, go_sem, arr8, g0, g1, g2, g3, g4, g5, g6, g7]) rfl ⟨rfl, ?_⟩
      exact HBF.out
end Go.Proofs.Ytkbdnhchlkafnaa.V
namespace Go.Proofs.Ytkbdnhchlkafnaa.V
open Go.RowKit
set_option linter.unusedVariables false

set_option maxHeartbeats 1000000 in
theorem rTakes_any (k : Int) (w : World) : Calls Try.prog 58 #[.int .i64 k] w fun e w' => e = .returned (.int .i64 (takesV k)) ∧ w' = w := by
  rcases kind_cases k with h | h | h | h | h | h | h | h | h | h | h
  case inr.inr.inr.inr.inr.inr.inr.inr.inr.inr =>
    rw [takes_none h]
    obtain ⟨h1, h2, h3, h4, h5, h6, h7, h8, h9, h10⟩ := h
    have k1 : (k == 1) = false := by simpa using h1
    have k2 : (k == 2) = false := by simpa using h2
    have k3 : (k == 3) = false := by simpa using h3
    have k4 : (k == 4) = false := by simpa using h4
    have k5 : (k == 5) = false := by simpa using h5
    have k6 : (k == 6) = false := by simpa using h6
    have k7 : (k == 7) = false := by simpa using h7
    have k8 : (k == 8) = false := by simpa using h8
    have k9 : (k == 9) = false := by simpa using h9
    have k10 : (k == 10) = false := by simpa using h10
    go_enter Try.func58, Try.ntmps58
    go_wp2
    go_ret
    exact ⟨rfl, rfl⟩
  all_goals
    subst h
    go_enter Try.func58, Try.ntmps58
    go_wp2
    go_ret
    exact ⟨rfl, rfl⟩

set_option maxHeartbeats 1000000 in
theorem rAccess_any (za : Option Addr) (zl zc : Nat) (vt : Value) (q : AW) (a : Acc) (vars : Nat) (w : World) (h : AG w q a) (hn : zl ≤ 9223372036854775807) (h4 : vars ≤ 4) :
    Calls Try.prog 59 #[.agg #[.slice za zl zc, vt], q.v, .int .i64 vars] w fun e w' => e = .returned (.int .i64 (accE zl a vars)) ∧ Below w.heap.size w w' := by
  have B0 : Below w.heap.size w (w.alloc (.cells #[.slice za zl zc, vt] 25)) := bl_new _
  have N0 : (w.alloc (.cells #[.slice za zl zc, vt] 25)).heap[w.heap.size]? = _ := World.alloc_heap_new w _
  obtain ⟨W, hW⟩ : ∃ W, W = w.alloc (.cells #[.slice za zl zc, vt] 25) := ⟨_, rfl⟩
  have hs : W.heap.size = w.heap.size + 1 := by rw [hW]; simp
  rw [← hW] at B0 N0
  have B1 : Below W.heap.size W (W.alloc (.cells #[.int .i64 q.arr, .slice q.ca q.cl q.cc, .int .i64 q.con] 72)) := bl_new _
  have P1 := AW.new q W
  have n0 : (W.alloc (.cells #[.int .i64 q.arr, .slice q.ca q.cl q.cc, .int .i64 q.con] 72)).cell? ⟨w.heap.size, 0, none⟩ = some (.slice za zl zc) := by
    rw [B1.cell (p := ⟨w.heap.size, 0, none⟩) (by simp only; omega)]
    simp [World.cell?, N0]
  obtain ⟨p0, p1, p2⟩ := P1.cells
  have h1 := (h.below B0).below B1
  have HC := hide (rRow_any q.ca q.cl q.cc a.2.1 a.2.2 vars _ ⟨h1.coef, h.cap⟩ h.bd.2 h4)
  have ha := h.arr
  have hk := h.con
  have hb1 := h.bd.1.1
  have hb2 := h.bd.1.2
  have HB := hide (bl_on B0 B1)
  have HW := hide hW
  rw [hs] at p0 p1 p2
  obtain ⟨arr, ca, cl, cc, con⟩ := q
  obtain ⟨aa, cs, ak⟩ := a
  simp only [AW.v] at *
  subst ha
  subst hk
  clear h h1 B1 P1 B0 N0 hs hW
  by_cases c1 : arr < 0
  · have e1 : accE zl (arr, cs, con) vars = 4 := by unfold accE; rw [if_pos (.inl c1)]
    rw [e1]
    clear e1
    rw [HW.out] at p0 p1 p2 n0 HB
    go_enter Try.func59, Try.ntmps59
    go_wp2_with fail
    go_ret
    exact ⟨rfl, HB.out⟩
  by_cases c2 : (zl : Int) ≤ arr
  · have e1 : accE zl (arr, cs, con) vars = 4 := by unfold accE; rw [if_pos (.inr c2)]
    rw [e1]
    clear e1
    rw [HW.out] at p0 p1 p2 n0 HB
    go_enter Try.func59, Try.ntmps59
    go_wp2_with fail
    go_ret
    exact ⟨rfl, HB.out⟩
  have e1 : accE zl (arr, cs, con) vars = rowE (cs, con) vars := by unfold accE; rw [if_neg (by simp only; omega)]
  rw [e1]
  clear e1
  rw [HW.out] at p0 p1 p2 n0 HB HC
  go_enter Try.func59, Try.ntmps59
  go_wp2_with (go_at_call 35; refine HC.out.mono ?_; rintro e w2 ⟨rfl, hb⟩; have HB2 := hide (bl_on HB.out hb); clear hb)
  go_ret
  exact ⟨rfl, HB2.out⟩
end Go.Proofs.Ytkbdnhchlkafnaa.V
namespace Go.Proofs.Ytkbdnhchlkafnaa.V
open Go.RowKit
set_option linter.unusedVariables false

set_option maxRecDepth 100000 in
set_option maxHeartbeats 8000000 in
theorem rNestWrong_any (za : Option Addr) (zl zc : Nat) (zs : List Int) (ta : Option Addr) (tl tc : Nat) (ss : List Stm) (w : World) (hz : Ints w za zl zs) (hs : Stms w ta tl ss) :
    Calls Try.prog 24 #[.agg #[.slice za zl zc, .slice ta tl tc]] w fun e w' => e = .returned (.int .i64 (nestE zs ss)) ∧ Below w.heap.size w w' := by
  have B1 : Below w.heap.size w (w.alloc (.cells #[.slice za zl zc, .slice ta tl tc] 25)) := bl_new _
  have P0 := NsBlk.new w za zl zc ta tl tc
  obtain ⟨p0, p1⟩ := P0.cells
  have HZI := hide (hz.below B1)
  have HS := hide hs
  have HB := hide B1
  have HP := hide P0
  have hm1 := hz.2.1
  have hm2 := hs.2.1
  have HZL := hide hz.1
  have HSL := hide hs.1
  by_cases c1 : 256 < tl
  · have e1 : nestE zs ss = 2 := by unfold nestE; rw [if_pos (by rw [hs.1]; exact c1)]
    rw [e1]
    clear hz hs e1 B1 P0
    go_enter Try.func24, Try.ntmps24
    go_wp2_with fail
    go_ret
    exact ⟨rfl, HB.out⟩
  have e1 : nestE zs ss = if zs.any badSize = true then 4 else stmsE zl ss := by unfold nestE; rw [if_neg (by rw [hs.1]; exact c1), hz.1]
  have E0 := hide e1
  clear hz hs e1 B1 P0
  go_enter Try.func24, Try.ntmps24
  go_wp2_with fail
  go_loop [19] (fun i => ∃ k : Nat, k ≤ zl ∧ i = .int .i64 k ∧ (zs.take k).any badSize = false) (fun i => zl - (intOf i).toNat)
  case atStart => exact ⟨0, Nat.zero_le _, rfl, by simp⟩
  case round =>
    obtain ⟨k, hk, rfl, hn⟩ := hrel
    have HN := hide hn
    clear hn
    by_cases hlt : k < zl
    · obtain ⟨b, off, rfl, hb, hc⟩ := HZI.out.at (by omega)
      have hck := hc k hlt
      clear hc
      have hkl : k < zs.length := by rw [HZL.out]; exact hlt
      have HKL := hide hkl
      clear hkl
      obtain ⟨x, hx⟩ : ∃ x, x = zs[k]?.getD 0 := ⟨_, rfl⟩
      rw [← hx] at hck
      by_cases h1 : x < 0
      · have HX : Hid (badSize (zs[k]?.getD 0) = true) := by rw [Hid, ← hx]; simp [badSize, h1]
        clear hx
        go_wp2_with fail
        go_ret
        exact ⟨by rw [E0.out, if_pos (any_of_getD zs k HKL.out HX.out)]; rfl, HB.out⟩
      · by_cases h2 : 65536 < x
        · have HX : Hid (badSize (zs[k]?.getD 0) = true) := by rw [Hid, ← hx]; simp [badSize, h2]
          clear hx
          go_wp2_with fail
          go_ret
          exact ⟨by rw [E0.out, if_pos (any_of_getD zs k HKL.out HX.out)]; rfl, HB.out⟩
        · have HX : Hid (badSize (zs[k]?.getD 0) = false) := by rw [Hid, ← hx]; simp [badSize]; omega
          clear hx
          go_wp2_with fail
          go_round
          case rel => exact ⟨k + 1, by omega, by go_num, not_mem_take_succ zs k HKL.out HN.out HX.out⟩
          case measure => simp [intOf]; omega
    · have c2 := HN.out
      rw [take_all HZL.out hlt] at c2
      have E2 : Hid (nestE zs ss = stmsE zl ss) := by rw [Hid, E0.out, if_neg (by simp [c2])]
      clear HN HZI c2
      go_wp2_with fail
      clear hlt hk
      go_loopw [33] (fun i wr => ∃ k : Nat, k ≤ tl ∧ i = .int .i64 k ∧ stmsE zl (ss.take k) = 0 ∧ Below w.heap.size w wr ∧ NsBlk wr w.heap.size za zl zc ta tl tc) (fun i _ => tl - (intOf i).toNat)
      case atStart => exact ⟨0, Nat.zero_le _, rfl, by simp [stmsE], HB.out, HP.out⟩
      case round =>
        obtain ⟨k, hk, rfl, hz, hB, hP⟩ := hrel
        have HZ := hide hz
        have HBr := hide hB
        have HP3 := hide hP
        obtain ⟨p0, p1⟩ := hP.cells
        have zP3 := hP.lt
        clear hz hB hP
        by_cases hlt : k < tl
        · have hkl : k < ss.length := by rw [HSL.out]; exact hlt
          obtain ⟨b, off, rfl, hat⟩ := (HS.out.below HBr.out).at (by omega)
          obtain ⟨q, hq, k0, k1, k2, k3, k4, k5, k6, k7⟩ := hat k hlt
          have z1 := lt_of_cell k0
          simp only at z1
          have B3 : Below wr.heap.size wr (wr.alloc (.cells q.cs 75)) := bl_new _
          obtain ⟨y0, y1, y2, y3, y4, y5, y6, y7⟩ := (SW.new q wr).cells
          have HP4 := hide (SW.new q wr)
          obtain ⟨r0, r1⟩ := (HP3.out.below B3).cells
          have HN4 := hide (HP3.out.below B3)
          have HB3 := hide B3
          have HKL := hide hkl
          obtain ⟨s, hs⟩ : ∃ s, s = ss[k]?.getD stmD := ⟨_, rfl⟩
          rw [← hs] at hq
          have HQ := hide hs
          have h1 := hq.below B3
          have HPW := hide (rptWrong_any q.ba q.bl q.bc s.box q.ra q.rl q.rc s.rows _ h1.box.1 h1.rows)
          have HAC := hide (fun (h4 : q.bl ≤ 4) (W : World) (hb : Below wr.heap.size wr W) => rAccess_any za zl zc (.slice (some ⟨b, off, none⟩) tl tc) q.pu s.put q.bl W (hq.put.below hb) hm1 h4)
          have HGE := hide hq.gets
          have hbl := hq.box.1.1
          have hgl := hq.gets.1
          have hgm := hq.gets.2.1
          have hkd := hq.kd
          have hbm := hq.box.1.2.1
          have hb1 := hq.bd.1.1
          have hb2 := hq.bd.1.2
          obtain ⟨ba, bl, bc, ra, rl, rc, kd, va, ⟨parr, pca, pcl, pcc, pcon⟩, ga, gl, gc⟩ := q
          obtain ⟨box, rows, kind, val, put, gets⟩ := s
          simp only [SW.cs, AW.v] at *
          subst hkd
          clear hat hq B3 hkl hs h1
          by_cases c1 : ptE box rows ≠ 0
          · have E1 : Hid (stmE zl ⟨box, rows, kd, val, put, gets⟩ = ptE box rows) := by unfold Hid stmE; simp only; rw [if_pos c1]
            have C1 := hide c1
            have c2 : (ptE box rows != 0) = true := by simpa using c1
            clear c1
            go_wp2_with (go_at_call 57; refine HPW.out.mono ?_; rintro e w1 ⟨rfl, hb⟩; have HB1 := hide (bl_on HB3.out hb); have P1 := HP4.out.below hb; obtain ⟨p0, p1, p2, p3, p4, p5, p6, p7⟩ := P1.cells; have zP := P1.lt; have HP1 := hide P1; have N1 := HN4.out.below hb; obtain ⟨n0, n1⟩ := N1.cells; have zN := N1.lt; have HN1 := hide N1; simp only at p0 p1 p2 p3 p4 p5 p6 p7; clear hb P1 N1)
            go_ret
            refine ⟨?_, bl_on HBr.out HB1.out⟩
            rw [E2.out, stmsE_here zl ss k HKL.out HZ.out (by rw [← HQ.out, E1.out]; exact C1.out), ← HQ.out, E1.out]; rfl
          have c1' : ptE box rows = 0 := by simpa using c1
          have C1 := hide c1'
          have h4 : bl ≤ 4 := by have := (ptE_ok c1').rank; omega
          have HAC := hide (fun W hb => HAC.out h4 W hb)
          have tb := takes_bd kd
          obtain ⟨T, hT⟩ : ∃ T, T = takesV kd := ⟨_, rfl⟩
          have HT := hide hT
          by_cases c2 : takesV kd < 0
          · have E1 : Hid (stmE zl ⟨box, rows, kd, val, put, gets⟩ = 1) := by unfold Hid stmE; simp only; rw [if_neg c1, if_pos c2]
            have c3 : T < 0 := by omega
            clear c1 c1' c2 hT
            go_wp2_with (first | (go_at_call 57; refine HPW.out.mono ?_; rintro e w1 ⟨rfl, hb⟩; rw [C1.out]; have HB1 := hide (bl_on HB3.out hb); have P1 := HP4.out.below hb; obtain ⟨p0, p1, p2, p3, p4, p5, p6, p7⟩ := P1.cells; have zP := P1.lt; have HP1 := hide P1; have N1 := HN4.out.below hb; obtain ⟨n0, n1⟩ := N1.cells; have zN := N1.lt; have HN1 := hide N1; simp only at p0 p1 p2 p3 p4 p5 p6 p7; clear hb P1 N1) | (go_at_call 58; refine (rTakes_any _ _).mono ?_; rintro e w' ⟨rfl, hw'⟩; obtain rfl := hw'.symm; rw [← HT.out]))
            go_ret
            refine ⟨?_, bl_on HBr.out HB1.out⟩
            rw [E2.out, stmsE_here zl ss k HKL.out HZ.out (by rw [← HQ.out, E1.out]; decide), ← HQ.out, E1.out]; rfl
          have c3 : ¬ T < 0 := by omega
          by_cases c4 : takesV kd ≠ (gets.length : Int)
          · have E1 : Hid (stmE zl ⟨box, rows, kd, val, put, gets⟩ = 2) := by unfold Hid stmE; simp only; rw [if_neg c1, if_neg c2, if_pos c4]
            have c5 : (T != (gl : Int)) = true := by simp; omega
            clear c1 c1' c2 c4 hT tb
            go_wp2_with (first | (go_at_call 57; refine HPW.out.mono ?_; rintro e w1 ⟨rfl, hb⟩; rw [C1.out]; have HB1 := hide (bl_on HB3.out hb); have P1 := HP4.out.below hb; obtain ⟨p0, p1, p2, p3, p4, p5, p6, p7⟩ := P1.cells; have zP := P1.lt; have HP1 := hide P1; have N1 := HN4.out.below hb; obtain ⟨n0, n1⟩ := N1.cells; have zN := N1.lt; have HN1 := hide N1; simp only at p0 p1 p2 p3 p4 p5 p6 p7; clear hb P1 N1) | (go_at_call 58; refine (rTakes_any _ _).mono ?_; rintro e w' ⟨rfl, hw'⟩; obtain rfl := hw'.symm; rw [← HT.out]))
            go_quiet ((go_at_call 58; refine (rTakes_any _ _).mono ?_; rintro e w' ⟨rfl, rfl⟩; rw [← HT.out]; exact ⟨rfl, _, rfl⟩))
            go_wp2_with fail
            go_ret
            refine ⟨?_, bl_on HBr.out (bl_on HB1.out (below_drewN _ _))⟩
            rw [E2.out, stmsE_here zl ss k HKL.out HZ.out (by rw [← HQ.out, E1.out]; decide), ← HQ.out, E1.out]; rfl
          have c4' : takesV kd = (gets.length : Int) := by simpa using c4
          have c5 : (T != (gl : Int)) = false := by simp; omega
          have hg3 : gl ≤ 3 := by omega
          by_cases c6 : accE zl put box.length ≠ 0
          · have E1 : Hid (stmE zl ⟨box, rows, kd, val, put, gets⟩ = accE zl put bl) := by unfold Hid stmE; simp only; rw [if_neg c1, if_neg c2, if_neg c4, if_pos c6, hbl]
            have C6 : Hid (accE zl put bl ≠ 0) := by rw [Hid, ← hbl]; exact c6
            have c7 : (accE zl put bl != 0) = true := by rw [← hbl]; simpa using c6
            clear c1 c1' c2 c4 hT tb c6 c4'
            go_wp2_with (first | (go_at_call 57; refine HPW.out.mono ?_; rintro e w1 ⟨rfl, hb⟩; rw [C1.out]; have HB1 := hide (bl_on HB3.out hb); have P1 := HP4.out.below hb; obtain ⟨p0, p1, p2, p3, p4, p5, p6, p7⟩ := P1.cells; have zP := P1.lt; have HP1 := hide P1; have N1 := HN4.out.below hb; obtain ⟨n0, n1⟩ := N1.cells; have zN := N1.lt; have HN1 := hide N1; simp only at p0 p1 p2 p3 p4 p5 p6 p7; clear hb P1 N1) | (go_at_call 58; refine (rTakes_any _ _).mono ?_; rintro e w' ⟨rfl, hw'⟩; obtain rfl := hw'.symm; rw [← HT.out]))
            go_quiet ((go_at_call 58; refine (rTakes_any _ _).mono ?_; rintro e w' ⟨rfl, rfl⟩; rw [← HT.out]; exact ⟨rfl, _, rfl⟩))
            go_wp2_with (go_at_call 59; refine (HAC.out (w1.drewN nq) (bl_on HB1.out (below_drewN _ _))).mono ?_; rintro e w2 ⟨rfl, hb⟩; have HB2 := hide (bl_on (bl_on HB1.out (below_drewN _ nq)) hb); have P2 := (HP1.out.below (below_drewN _ nq)).below hb; obtain ⟨p0, p1, p2, p3, p4, p5, p6, p7⟩ := P2.cells; have zP := P2.lt; have HP2 := hide P2; have N2 := (HN1.out.below (below_drewN _ nq)).below hb; obtain ⟨n0, n1⟩ := N2.cells; have zN := N2.lt; have HN2 := hide N2; simp only at p0 p1 p2 p3 p4 p5 p6 p7; clear hb P2 N2)
            go_ret
            refine ⟨?_, bl_on HBr.out HB2.out⟩
            rw [E2.out, stmsE_here zl ss k HKL.out HZ.out (by rw [← HQ.out, E1.out]; exact C6.out), ← HQ.out, E1.out]; rfl
          have E1 : Hid (stmE zl ⟨box, rows, kd, val, put, gets⟩ = accsE zl gets bl) := by unfold Hid stmE; simp only; rw [if_neg c1, if_neg c2, if_neg c4, if_neg c6, hbl]
          have c7 : accE zl put bl = 0 := by rw [← hbl]; simpa using c6
          have C7 := hide c7
          have HGL := hide hgl
          clear c1 c1' c2 c4 hT tb c6 c4' c7
          go_wp2_with (first | (go_at_call 57; refine HPW.out.mono ?_; rintro e w1 ⟨rfl, hb⟩; rw [C1.out]; have HB1 := hide (bl_on HB3.out hb); have P1 := HP4.out.below hb; obtain ⟨p0, p1, p2, p3, p4, p5, p6, p7⟩ := P1.cells; have zP := P1.lt; have HP1 := hide P1; have N1 := HN4.out.below hb; obtain ⟨n0, n1⟩ := N1.cells; have zN := N1.lt; have HN1 := hide N1; simp only at p0 p1 p2 p3 p4 p5 p6 p7; clear hb P1 N1) | (go_at_call 58; refine (rTakes_any _ _).mono ?_; rintro e w' ⟨rfl, hw'⟩; obtain rfl := hw'.symm; rw [← HT.out]))
          go_quiet ((go_at_call 58; refine (rTakes_any _ _).mono ?_; rintro e w' ⟨rfl, rfl⟩; rw [← HT.out]; exact ⟨rfl, _, rfl⟩))
          go_wp2_with (go_at_call 59; refine (HAC.out (w1.drewN nq) (bl_on HB1.out (below_drewN _ _))).mono ?_; rintro e w2 ⟨rfl, hb⟩; rw [C7.out]; have HB2 := hide (bl_on (bl_on HB1.out (below_drewN _ nq)) hb); have P2 := (HP1.out.below (below_drewN _ nq)).below hb; obtain ⟨p0, p1, p2, p3, p4, p5, p6, p7⟩ := P2.cells; have zP := P2.lt; have HP2 := hide P2; have N2 := (HN1.out.below (below_drewN _ nq)).below hb; obtain ⟨n0, n1⟩ := N2.cells; have zN := N2.lt; have HN2 := hide N2; simp only at p0 p1 p2 p3 p4 p5 p6 p7; clear hb P2 N2)
          clear HPW HAC p0 p1 p2 p3 p4 p5 p6 p7 n0 n1 y0 y1 y2 y3 y4 y5 y6 y7 r0 r1 k0 k1 k2 k3 k4 k5 k6 k7
          go_loopw [68] (fun i wr2 => ∃ j : Nat, j ≤ gl ∧ i = .int .i64 j ∧ accsE zl (gets.take j) bl = 0 ∧ Below w2.heap.size w2 wr2) (fun i _ => gl - (intOf i).toNat)
          case atStart => exact ⟨0, Nat.zero_le _, rfl, by simp [accsE], Below.refl _ _⟩
          case round =>
            rename_i wr2
            obtain ⟨j, hj, rfl, hz, hB⟩ := hrel
            have HZ2 := hide hz
            have HBr2 := hide hB
            have P3 := HP2.out.below hB
            obtain ⟨p0, p1, p2, p3, p4, p5, p6, p7⟩ := P3.cells
            have zP3 := P3.lt
            have HP3 := hide P3
            have N3 := HN2.out.below hB
            obtain ⟨n0, n1⟩ := N3.cells
            have zN3 := N3.lt
            have HN3 := hide N3
            clear hz hB P3 N3
            simp only at p0 p1 p2 p3 p4 p5 p6 p7
            by_cases hlt2 : j < gl
            · have hjl : j < gets.length := by rw [HGL.out]; exact hlt2
              obtain ⟨gb, go, rfl, hat⟩ := (HGE.out.below (bl_on HB2.out HBr2.out)).at (by omega)
              obtain ⟨q, hq, k1, k2, k3⟩ := (hat j hlt2).words
              have z1 := lt_of_cell k1
              simp only at z1
              have B3 := bl_new (w := wr) (.cells #[.int .i64 q.arr, .slice q.ca q.cl q.cc, .int .i64 q.con] 72)
              have HC := hide (rAccess_any za zl zc (.slice (some ⟨b, off, none⟩) tl tc) q _ bl _ (hq.below B3) hm1 h4)
              obtain ⟨y0, y1, y2⟩ := (AW.new q wr).cells
              obtain ⟨r0, r1, r2, r3, r4, r5, r6, r7⟩ := (HP3.out.below B3).cells
              obtain ⟨s0, s1⟩ := (HN3.out.below B3).cells
              have HB3 := hide B3
              have HJL := hide hjl
              obtain ⟨aq, haq⟩ : ∃ aq, aq = gets[j]?.getD accD := ⟨_, rfl⟩
              rw [← haq] at HC
              have HAQ := hide haq
              obtain ⟨arr, ca, cl, cc, con⟩ := q
              simp only [AW.v] at *
              clear hat hq B3 hjl haq
              go_wp2_with (go_at_call 59; refine HC.out.mono ?_; rintro e w3 ⟨rfl, hb⟩; have HB4 := hide (bl_on HB3.out hb); clear hb)
              · have hx : accE zl aq bl ≠ 0 := by simpa using (by assumption : (accE zl aq bl != 0) = true)
                go_ret
                refine ⟨?_, bl_on HBr.out (bl_on HB2.out (bl_on HBr2.out HB4.out))⟩
                have e := accsE_here zl gets bl j HJL.out HZ2.out (by rw [← HAQ.out]; exact hx)
                rw [E2.out, stmsE_here zl ss k HKL.out HZ.out (by rw [← HQ.out, E1.out, e, ← HAQ.out]; exact hx), ← HQ.out, E1.out, e, ← HAQ.out]; rfl
              · have hx : accE zl aq bl = 0 := by simpa using (by assumption : (accE zl aq bl != 0) = false)
                go_roundw
                case rel => exact ⟨j + 1, by omega, by go_num, accsE_take zl gets bl j HJL.out HZ2.out (by rw [← HAQ.out]; exact hx), bl_on HBr2.out HB4.out⟩
                case measure => simp [intOf]; omega
            · go_wp2_with fail
              have e := HZ2.out
              rw [List.take_of_length_le (by rw [HGL.out]; omega)] at e
              have HE := hide e
              clear e
              go_roundw
              case rel => exact ⟨k + 1, by omega, by go_num, stmsE_take zl ss k HKL.out HZ.out (by rw [← HQ.out, E1.out, HE.out]), bl_on HBr.out (bl_on HB2.out HBr2.out), HN3.out⟩
              case measure => simp [intOf]; omega
        · go_wp2_with fail
          go_ret
          have := HZ.out
          rw [List.take_of_length_le (by rw [HSL.out]; omega)] at this
          exact ⟨by rw [E2.out, this]; rfl, HBr.out⟩
end Go.Proofs.Ytkbdnhchlkafnaa.V
namespace Go.Proofs.Ytkbdnhchlkafnaa.V
open Go.RowKit
set_option linter.unusedVariables false

/-- It begins where its block does, which holds numbers. -/
def FlushT (w : World) (a : Option Addr) : Prop := ∀ b o, a = some ⟨b, o, none⟩ → o = 0 ∧ ∃ cur, w.heap[b]? = some (.cells cur 3 (0, 0))
theorem FlushT.below {w w' : World} {a : Option Addr} (h : FlushT w a) (hb : Below w.heap.size w w') : FlushT w' a := fun b o e => by
  obtain ⟨h1, cur, h2⟩ := h b o e
  exact ⟨h1, cur, (hb.block b (Array.getElem?_eq_some_iff.1 h2).1).trans h2⟩
theorem FlushT.cells {w w' : World} {a : Option Addr} (h : FlushT w a) (hb : ∀ (b : Nat) cur, w.heap[b]? = some (Obj.cells cur 3 (0, 0)) → w'.heap[b]? = w.heap[b]?) : FlushT w' a := fun b o e => by
  obtain ⟨h1, cur, h2⟩ := h b o e
  exact ⟨h1, cur, (hb b cur h2).trans h2⟩
theorem lst_cells {w w' : World} {a : Option Addr} {len c : Nat} {xs : List Int} (h : Lst w a len c xs) (hf : FlushT w a) (hb : ∀ (b : Nat) cur, w.heap[b]? = some (Obj.cells cur 3 (0, 0)) → w'.heap[b]? = w.heap[b]?) : Lst w' a len c xs := by
  obtain ⟨⟨h1, h2, h3, h4⟩, h5⟩ := h
  refine ⟨⟨h1, h2, h3, ?_⟩, h5⟩
  rcases h4 with h4 | ⟨b, off, e, hc⟩
  · exact .inl h4
  · obtain ⟨_, cur, h6⟩ := hf b off e
    exact .inr ⟨b, off, e, fun j hj => (World.cell?_of_block (w := w) (hb b cur h6)).trans (hc j hj)⟩
/-- What an append to a row of other things leaves: all blocks of numbers. -/
theorem ints_left {w w1 : World} {o : Obj} {B size n : Nat} {t : TypeId} {v : Value} {vs : List Value} {t' : TypeId} (ht : t ≠ t') (ho : w.ownsRow B t size v n vs) (hg : (w.alloc o).grownBy w1 v.ownBlock) (b : Nat) (cur : Array Value) (h : w.heap[b]? = some (Obj.cells cur t' (0, 0))) : w1.heap[b]? = w.heap[b]? := by
  have hb := (Array.getElem?_eq_some_iff.1 h).1
  refine (hg.block b (by simp; omega) (fun ev => ?_)).trans (Below.heap_alloc _ _ _ hb)
  rcases ho.2 with ⟨rfl, _⟩ | ⟨g', cap, cur', rfl, _, hbk, _⟩
  · simp [Value.ownBlock] at ev
  · obtain rfl : b = g' := by simpa [Value.ownBlock] using ev
    rw [hbk] at h
    cases h
    exact ht rfl
/-- The values of a row of lists. -/
def VLT (w : World) (vs : List Value) (L : List (List Int)) : Prop := vs.length = L.length ∧ ∀ i, i < L.length → ∃ a l c, vs[i]? = some (.slice a l c) ∧ Lst w a l c (L[i]?.getD []) ∧ FlushT w a
theorem VLT.below {w w' : World} {vs : List Value} {L : List (List Int)} (h : VLT w vs L) (hb : Below w.heap.size w w') : VLT w' vs L := ⟨h.1, fun i hi => by obtain ⟨a, l, c, h1, h2, h3⟩ := h.2 i hi; exact ⟨a, l, c, h1, h2.below hb, h3.below hb⟩⟩
/-- A list of lists of the call's own. -/
def OutLT (w : World) (B : Nat) (v : Value) (L : List (List Int)) : Prop := ∃ vs, w.ownsRow B 22 1 v L.length vs ∧ VLT w vs L ∧ (v = .slice none 0 0 ∨ L ≠ [])
theorem OutLT.nil (w : World) (B : Nat) : OutLT w B (.slice none 0 0) [] := ⟨[], World.ownsRow_nil _ _ _ _, ⟨rfl, fun i hi => by simp at hi⟩, .inl rfl⟩
theorem OutLT.below {w w' : World} {B : Nat} {v : Value} {L : List (List Int)} (h : OutLT w B v L) (hb : Below w.heap.size w w') : OutLT w' B v L := by
  obtain ⟨vs, h1, h2, h3⟩ := h
  exact ⟨vs, own_below h1 hb, h2.below hb, h3⟩
theorem OutLT.snoc {w w1 : World} {o : Obj} {B : Nat} {v v' : Value} {L : List (List Int)} {vs : List Value} {a : Option Addr} {l c : Nat} {xs : List Int} (ho : w.ownsRow B 22 1 v L.length vs) (hv : VLT w vs L) (hn : v = .slice none 0 0 ∨ L ≠ []) (hx : Lst w a l c xs) (ha : FlushT w a)
    (hown : w1.ownsRow B 22 1 v' (L.length + 1) (vs ++ [.slice a l c])) (hg : (w.alloc o).grownBy w1 v.ownBlock) : OutLT w1 B v' (L ++ [xs]) := by
  have hb := ints_left (t := 22) (t' := 3) (by decide) ho hg
  refine ⟨vs ++ [.slice a l c], by rw [List.length_append]; exact hown, ⟨by simp [hv.1], fun i hi => ?_⟩, .inr (by simp)⟩
  by_cases hi' : i < L.length
  · obtain ⟨a', l', c', h1, h2, h3⟩ := hv.2 i hi'
    refine ⟨a', l', c', by rw [List.getElem?_append_left (by rw [hv.1]; exact hi')]; exact h1, ?_, h3.cells hb⟩
    rw [List.getElem?_append_left hi']
    exact lst_cells h2 h3 hb
  · have e : i = L.length := by simp at hi; omega
    subst e
    refine ⟨a, l, c, by rw [List.getElem?_append_right (by rw [hv.1]; exact Nat.le_refl _)]; simp [hv.1], ?_, ha.cells hb⟩
    rw [List.getElem?_append_right (Nat.le_refl _)]
    simp only [Nat.sub_self, List.getElem?_cons_zero, Option.getD_some]
    exact lst_cells hx ha hb
/-- append(out, list): out of the call's own; the new list lies in a block of one cell. -/
theorem append_listsT {w : World} {ops : Array Oper} {rest : List Oper} {op : Oper} {a : Act} {Q : Exit → Act → World → Prop} (hgd : op.guard = none) (s x : Operand)
    (ho : op.op = .call { callee := .builtin .append, args := #[s, x], argTypes := #[132, 132] }) (B : Nat)
    (v : Value) (L : List (List Int)) (hs : a.eval s = v) (X : Option Addr) (l c : Nat) (xs : List Int) (hout : OutLT w B v L) (hX : Lst w X l c xs) (hf : FlushT w X)
    (hx : a.eval x = .slice (some ⟨w.heap.size, 0, none⟩) 1 1) (hbytes : (L.length + 1) * 24 ≤ 140737488355328) (hB : B ≤ w.heap.size)
    (h : ∀ v' w', OutLT w' B v' (L ++ [xs]) → Below B w w' → wpList Try.prog ops Q rest (a.put op.dst v') w') :
    wpList Try.prog ops Q (op :: rest) a (w.alloc (.cells #[.slice X l c] 22)) := by
  obtain ⟨vs, h1, h2, h3⟩ := hout
  obtain ⟨i0, hi, hz0, hz1, hz2⟩ := info_parts info_lists
  refine wpList_append_own _ hgd s x 132 ho B 22 i0 (.slice none 0 0) 1 24 Try.underlying132 hi hz0 hz1 hz2 rfl (by decide) v L.length vs hs (h1.alloc _) ⟨w.heap.size, 0, none⟩ 1 1 [.slice X l c] hx rfl ?_ ?_ (by unfold maxLen; omega) hbytes (by simp; omega) (fun v' w' k1 k2 _ => h v' w' (OutLT.snoc h1 h2 h3 hX hf k1 k2) (OutL.grownB (Below.refl _ _) hB h1 k2))
  · intro j u hj
    have hjl : j = 0 := by have := (List.getElem?_eq_some_iff.1 hj).1; simp at this; exact this
    subst hjl
    simp at hj
    rw [← hj, Go.WideShapes.add_plain]
    show (w.alloc (.cells #[.slice X l c] 22)).cell? ⟨w.heap.size, 0 + 0, none⟩ = _
    unfold World.cell?
    rw [World.alloc_heap_new w (.cells #[.slice X l c] 22)]
    rfl
  · intro u hu; simp at hu; subst hu; rfl
/-- What a caller reads of it. -/
def LLT (w : World) (A : Option Addr) (n : Nat) (L : List (List Int)) : Prop := L.length = n ∧ (n = 0 ∨ ∃ b off, A = some ⟨b, off, none⟩ ∧ (∃ cur, w.heap[b]? = some (Obj.cells cur 22 (0, 0))) ∧ ∀ i, i < n → ∃ a l c, w.cell? ⟨b, off + i, none⟩ = some (.slice a l c) ∧ Lst w a l c (L[i]?.getD []) ∧ FlushT w a)
theorem LLT.below {w w' : World} {A : Option Addr} {n : Nat} {L : List (List Int)} (h : LLT w A n L) (hb : Below w.heap.size w w') : LLT w' A n L := by
  obtain ⟨h1, h2⟩ := h
  refine ⟨h1, ?_⟩
  rcases h2 with h2 | ⟨b, off, e, ⟨cur, ht⟩, h⟩
  · exact .inl h2
  · refine .inr ⟨b, off, e, ⟨cur, (hb.block b (Array.getElem?_eq_some_iff.1 ht).1).trans ht⟩, fun i hi => ?_⟩
    obtain ⟨a, l, c, k1, k2, k3⟩ := h i hi
    exact ⟨a, l, c, (hb.cell (p := ⟨b, off + i, none⟩) (lt_of_cell k1)).trans k1, k2.below hb, k3.below hb⟩
theorem OutLT.ll {w : World} {B : Nat} {v : Value} {L : List (List Int)} (h : OutLT w B v L) : ∃ A c, v = .slice A L.length c ∧ LLT w A L.length L ∧ L.length ≤ c := by
  obtain ⟨vs, h1, h2, h3⟩ := h
  have h1' := h1
  rcases h1.2 with ⟨e1, e2⟩ | ⟨g, cap, cur, rfl, _, hbk, hcap, _⟩
  · refine ⟨none, 0, by rw [e1, e2], ⟨rfl, .inl e2⟩, by omega⟩
  · refine ⟨_, cap, rfl, ⟨rfl, .inr ⟨g, 0, rfl, ⟨cur, hbk⟩, fun i hi => ?_⟩⟩, hcap⟩
    obtain ⟨a, l, c, k1, k2, k3⟩ := h2.2 i hi
    exact ⟨a, l, c, by rw [Nat.zero_add, h1'.cellAt i (by omega)]; exact k1, k2, k3⟩
theorem lst_of_ownT {w : World} {B : Nat} {v : Value} {n : Nat} {xs : List Int} (h : w.ownsRow B 3 1 v n (xs.map (Value.int .i64))) (hl : xs.length = n) (hm : n ≤ 9223372036854775807) (hb : ∀ x ∈ xs, -9223372036854775808 ≤ x ∧ x ≤ 9223372036854775807) : ∃ X c, v = .slice X n c ∧ Lst w X n c xs ∧ FlushT w X := by
  rcases h.2 with ⟨rfl, h2⟩ | ⟨g, cap, cur, rfl, h3, hbk, h4, _⟩
  · have e : xs = [] := by rw [← List.length_eq_zero_iff]; omega
    subst e
    exact ⟨none, 0, by rw [h2], ⟨⟨hl, hm, hb, .inl h2⟩, by omega, fun _ => rfl⟩, fun b o e => by cases e⟩
  · exact ⟨_, _, rfl, ⟨ints_of_own h hl hm hb, h4, fun e => by cases e⟩, fun b o e => by cases e; exact ⟨rfl, _, hbk⟩⟩
theorem LLT.at {w : World} {A : Option Addr} {n : Nat} {L : List (List Int)} (h : LLT w A n L) (h0 : 0 < n) : ∃ b off, A = some ⟨b, off, none⟩ ∧ ∀ i, i < n → ∃ a l c, w.cell? ⟨b, off + i, none⟩ = some (.slice a l c) ∧ Lst w a l c (L[i]?.getD []) ∧ FlushT w a := by
  rcases h.2 with h2 | h2
  · omega
  · obtain ⟨b, off, e, _, h3⟩ := h2
    exact ⟨b, off, e, h3⟩
theorem LLT.cells {w w' : World} {A : Option Addr} {n : Nat} {L : List (List Int)} (h : LLT w A n L) (h1 : ∀ (b : Nat) cur, w.heap[b]? = some (Obj.cells cur 3 (0, 0)) → w'.heap[b]? = w.heap[b]?) (h2 : ∀ (b : Nat) cur, w.heap[b]? = some (Obj.cells cur 22 (0, 0)) → w'.heap[b]? = w.heap[b]?) : LLT w' A n L := by
  obtain ⟨g1, g2⟩ := h
  refine ⟨g1, ?_⟩
  rcases g2 with g2 | ⟨b, off, e, ⟨cur, ht⟩, h⟩
  · exact .inl g2
  · refine .inr ⟨b, off, e, ⟨cur, (h2 b cur ht).trans ht⟩, fun i hi => ?_⟩
    obtain ⟨a, l, c, k1, k2, k3⟩ := h i hi
    exact ⟨a, l, c, (World.cell?_of_block (w := w) (h2 b cur ht)).trans k1, lst_cells k2 k3 h1, k3.cells h1⟩
end Go.Proofs.Ytkbdnhchlkafnaa.V
namespace Go.Proofs.Ytkbdnhchlkafnaa.V
open Go.RowKit
set_option linter.unusedVariables false

set_option maxHeartbeats 1000000 in
theorem rbox_nilT (a : Option Addr) (cap : Nat) (w : World) :
    Calls Try.prog 108 #[.slice a 0 cap] w fun e w' => (∃ A c, e = .returned (.slice A (BL []).length c) ∧ LLT w' A (BL []).length (BL [])) ∧ Below w.heap.size w w' := by
  have e0 : BL [] = [[]] := by simp [BL, prod, indexV]
  have HE := hide e0
  clear e0
  go_enter Try.func108, Try.ntmps108
  go_wp2
  go_ret
  rw [HE.out]
  refine ⟨⟨some ⟨w.heap.size + 1, 0, none⟩, 1, rfl, rfl, .inr ⟨w.heap.size + 1, 0, rfl, ⟨_, by have := World.alloc_heap_new (w.alloc (.cells #[] 3)) (.cells #[.slice (some ⟨w.heap.size, 0, none⟩) 0 0] 22); rw [World.size_alloc] at this; exact this⟩, fun i hi => ?_⟩⟩, bl_on (bl_new _) (bl_new _)⟩
  obtain rfl : i = 0 := by simp at hi; exact hi
  refine ⟨some ⟨w.heap.size, 0, none⟩, 0, 0, ?_, ⟨⟨rfl, by omega, by simp, .inl rfl⟩, Nat.le_refl _, fun e => by cases e⟩, fun b o e => by cases e; exact ⟨rfl, _, (Below.heap_alloc _ _ _ (by simp)).trans (World.alloc_heap_new w _)⟩⟩
  have := (Boxed.new (w.alloc (.cells #[] 3)) 22 (.slice (some ⟨w.heap.size, 0, none⟩) 0 0)).cell
  rw [World.size_alloc] at this
  exact this

set_option maxRecDepth 100000 in
set_option maxHeartbeats 4000000 in
theorem rbox_snocT (a : Option Addr) (len cap : Nat) (ds : List Int) (d : Int) (w : World) (h : Lst w a (len + 1) cap (ds ++ [d])) (h4 : len ≤ 3) (hd : 0 ≤ d ∧ d ≤ 4096) (hds : ∀ x ∈ ds, 0 ≤ x ∧ x ≤ 4096) (hp0 : 0 ≤ prod ds) (hp1 : prod ds ≤ 68719476736) (hp : prod (ds ++ [d]) ≤ 68719476736)
    (ih : ∀ w1 : World, Lst w1 a len cap ds → Calls Try.prog 108 #[.slice a len cap] w1 fun e w' => (∃ A c, e = .returned (.slice A (BL ds).length c) ∧ LLT w' A (BL ds).length (BL ds)) ∧ Below w1.heap.size w1 w') :
    Calls Try.prog 108 #[.slice a (len + 1) cap] w fun e w' => (∃ A c, e = .returned (.slice A (BL (ds ++ [d])).length c) ∧ LLT w' A (BL (ds ++ [d])).length (BL (ds ++ [d]))) ∧ Below w.heap.size w w' := by
  have hl : ds.length = len := by have := h.1.1; simpa using this
  have hcap := h.2.1
  have hpre : Lst w a len cap ds := by
    obtain ⟨⟨h1, h2, h3, h4⟩, h5, h6⟩ := h
    refine ⟨⟨hl, by omega, fun x hx => h3 x (by simp [hx]), ?_⟩, by omega, h6⟩
    rcases h4 with h4 | ⟨b, off, e, hc⟩
    · omega
    · refine .inr ⟨b, off, e, fun j hj => ?_⟩
      have := hc j (by omega)
      rwa [List.getElem?_append_left (by omega)] at this
  obtain ⟨b, off, rfl, hb, hc⟩ := h.1.at (by omega)
  have hlast : w.cell? ⟨b, off + len, none⟩ = some (.int .i64 d) := by
    have := hc len (by omega)
    rw [List.getElem?_append_right (by omega), hl, Nat.sub_self] at this
    simpa using this
  obtain ⟨D, hD⟩ : ∃ D : Nat, d = (D : Int) := ⟨d.toNat, by omega⟩
  subst hD
  have eB : BL (ds ++ [(D : Int)]) = (BL ds).flatMap (fun x => more x D) := by
    have := BL_snoc ds (D : Int) hd.1 hp0
    simpa using this
  have hprod : (prod ds).toNat * D ≤ 68719476736 := by
    have : (prod (ds ++ [(D : Int)])).toNat = (prod ds).toNat * D := by
      rw [← BL_len, eB, box_flat_len, BL_len]
    omega
  have hn : (BL ds).length ≤ 68719476736 := by rw [BL_len]; omega
  have HPR : Hid ((BL ds).length * D ≤ 68719476736) := by rw [Hid, BL_len]; exact hprod
  have HEB := hide eB
  have HIH := hide (ih w hpre)
  have HDS := hide hds
  have hlt := lt_of_cell hlast
  simp only at hlt
  have HLAST := hide hlast
  have hD4 : D ≤ 4096 := by omega
  have HLL := hide hl
  clear h ih hds hp0 hp1 hp hd hpre hc eB hprod hl
  go_enter Try.func108, Try.ntmps108
  go_wp2_with fail
  refine HIH.out.mono ?_
  rintro e w1 ⟨⟨A, c, rfl, hLL⟩, hb1⟩
  obtain ⟨N, hN⟩ : ∃ N, N = (BL ds).length := ⟨_, rfl⟩
  rw [← hN] at hLL hn HPR
  rw [← hN]
  have HN := hide hN
  have HLS := hide hLL
  have HB1 := hide hb1
  have hl1 : w1.cell? ⟨b, off + len, none⟩ = some (.int .i64 (D : Int)) := (hb1.cell (p := ⟨b, off + len, none⟩) hb).trans hlast
  have hb' : b < w1.heap.size := Nat.lt_of_lt_of_le hb hb1.size
  have HL1 := hide hl1
  clear hLL hb1 hN hlast hlt HLAST hl1
  go_wp2_with fail
  go_loopw [3, 19] (fun out i wr => ∃ k : Nat, k ≤ N ∧ i = .int .i64 k ∧ OutLT wr w1.heap.size out (((BL ds).take k).flatMap (fun x => more x D)) ∧ Below w1.heap.size w1 wr) (fun _ i _ => N - (intOf i).toNat)
  case atStart => exact ⟨0, Nat.zero_le _, rfl, by simpa using OutLT.nil _ _, Below.refl _ _⟩
  case round =>
    obtain ⟨k, hk, rfl, hout, hB⟩ := hrel
    have HOUT := hide hout
    have HB := hide hB
    clear hout hB
    by_cases hlt : k < N
    · have hkl : k < (BL ds).length := by rw [← HN.out]; exact hlt
      obtain ⟨xb, xo, rfl, hat⟩ := HLS.out.at (by omega)
      obtain ⟨xa, xl, xc, x0, x2, x3⟩ := hat k hlt
      have x1 := (HB.out.cell (p := ⟨xb, xo + k, none⟩) (lt_of_cell x0)).trans x0
      clear x0
      have hmem : (BL ds)[k]?.getD [] ∈ BL ds := by simp [hkl]
      obtain ⟨x, hx⟩ : ∃ x, x = (BL ds)[k]?.getD [] := ⟨_, rfl⟩
      rw [← hx] at x2 hmem
      have hxl := BL_mem HDS.out hmem
      have hx4 : xl ≤ 3 := by have := x2.1.1; have := HLL.out; omega
      have HT := hide (take_succL (BL ds) k hkl)
      rw [← hx] at HT
      have z1 := lt_of_cell x1
      simp only at z1
      have HX := hide x2
      have HXF := hide x3
      have HXL := hide hxl
      obtain ⟨F, hF⟩ : ∃ F, F = ((BL ds).take k).flatMap (fun x => more x D) := ⟨_, rfl⟩
      rw [← hF] at HOUT
      have hFl : F.length = k * D := by rw [hF, box_flat_len, List.length_take]; congr 1; omega
      have hFl2 : F.length + D ≤ 68719476736 := by
        have h1 : (k + 1) * D ≤ N * D := Nat.mul_le_mul_right D hlt
        have h2 := HPR.out
        rw [Nat.succ_mul] at h1
        omega
      have HF := hide hF
      clear hat x2 x3 hmem hx hxl hkl hF hFl
      go_wp2_with fail
      go_loopw [3, 6] (fun out i wr' => ∃ r : Nat, r ≤ D ∧ i = .int .i64 r ∧ OutLT wr' w1.heap.size out (F ++ more x r) ∧ Below w1.heap.size w1 wr') (fun _ i _ => D - (intOf i).toNat)
      case atStart => exact ⟨0, Nat.zero_le _, rfl, by simpa [more] using HOUT.out, HB.out⟩
      case round =>
        clear HOUT HB x1 z1
        obtain ⟨r, hr, rfl, hout, hB⟩ := hrel
        have hX := HX.out.below hB
        have hlr : wr.cell? ⟨b, off + len, none⟩ = some (.int .i64 (D : Int)) := (hB.cell (p := ⟨b, off + len, none⟩) hb').trans HL1.out
        have hbr : b < wr.heap.size := Nat.lt_of_lt_of_le hb' hB.size
        have hwz := hB.size
        by_cases hlt2 : r < D
        · have B1 : Below wr.heap.size wr (wr.alloc (.cells #[] 3)) := bl_new _
          have HO1 := hide (own_empty wr wr.heap.size 3 (Nat.le_refl _))
          have HXr := hide (hX.below B1)
          have HB1' := hide B1
          have HOUT := hide hout
          have HB := hide hB
          have HBND : Hid (∀ z ∈ x ++ [(r : Int)], -9223372036854775808 ≤ z ∧ z ≤ 9223372036854775807) := fun z hz => by
            rcases List.mem_append.1 hz with hz | hz
            · have := HXL.out.2 z hz; omega
            · have : z = r := by simpa using hz
              omega
          have HXN := hide hX.1.1
          have HMS := hide (more_succ x r)
          clear hout hB hX B1
          go_wp2_with (first
            | (at_builtin; refine append_listsT rfl _ _ rfl w1.heap.size _ (F ++ more x r) rfl X3 (xl + 1) c3 (x ++ [(r : Int)]) (HOUT.out.below HB3.out) HX3.out HF3.out rfl (by rw [List.length_append, more_len]; omega) (by have := HB3.out.size; omega) ?_; intro v4 w4 hout4 hb4; have HO4 := hide hout4; have HB4 := hide hb4; clear hout4 hb4)
            | (at_builtin; refine append_list rfl _ _ rfl wr.heap.size _ (0 + xl) (x.map (Value.int .i64)) rfl (HO2.out.alloc _) _ 1 1 [(r : Int)] rfl (lst_one w2 (r : Int) (by omega) _) (by omega) (by have := HB2.out.size; simp; omega) ?_; intro v3 w3 hown hgrow; rw [← List.map_append] at hown; obtain ⟨X3, c3, rfl, hL3, hf3⟩ := lst_of_ownT hown (by rw [List.length_append, HXN.out]; simp) (by omega) HBND.out; rw [show 0 + xl + 1 = xl + 1 by omega] at hL3; have HX3 := hide hL3; have HF3 := hide hf3; have HB3 := hide ((HB2.out.alloc HB2.out.size _).grown hgrow (by have := HB2.out.size; simp; omega) (fun j e => (HO2.out.lt j e).1)); clear hown hgrow hL3 hf3)
            | (at_builtin; refine append_list rfl _ _ rfl wr.heap.size _ 0 [] rfl HO1.out xa xl xc x rfl HXr.out (by omega) (by simp) ?_; intro v2 w2 hown hgrow; rw [List.nil_append] at hown; have HO2 := hide hown; have HB2 := hide (HB1'.out.grown hgrow (by simp) (fun j e => (HO1.out.lt j e).1)); clear hown hgrow))
          go_roundw
          case rel =>
            refine ⟨r + 1, by omega, by go_num, ?_, HB.out.trans ((HB3.out.mono hwz).trans HB4.out)⟩
            rw [HMS.out, ← List.append_assoc]; exact HO4.out
          case measure => simp [intOf]; omega
        · obtain rfl : r = D := by omega
          have HOUT := hide hout
          have HB := hide hB
          clear hout hB hX
          go_wp2_with fail
          go_roundw
          case rel =>
            refine ⟨k + 1, by omega, by go_num, ?_, HB.out⟩
            rw [HT.out, List.flatMap_append, ← HF.out]
            simpa using HOUT.out
          case measure => simp [intOf]; omega
    · obtain rfl : k = N := by omega
      go_wp2_with fail
      go_ret
      have := HOUT.out
      rw [HN.out, List.take_length, ← HEB.out] at this
      obtain ⟨A', c', e, hl, _⟩ := this.ll
      subst e
      exact ⟨⟨A', c', rfl, hl⟩, bl_on HB1.out HB.out⟩

theorem rbox_anyT : ∀ (len : Nat) (a : Option Addr) (cap : Nat) (xs : List Int) (w : World), Lst w a len cap xs → len ≤ 4 → (∀ x ∈ xs, 0 ≤ x ∧ x ≤ 4096) → (∀ k, prod (xs.take k) ≤ 68719476736) →
    Calls Try.prog 108 #[.slice a len cap] w fun e w' => (∃ A c, e = .returned (.slice A (BL xs).length c) ∧ LLT w' A (BL xs).length (BL xs)) ∧ Below w.heap.size w w'
  | 0, a, cap, xs, w, h, _, _, _ => by
    obtain rfl : xs = [] := by rw [← List.length_eq_zero_iff]; exact h.1.1
    exact rbox_nilT a cap w
  | len + 1, a, cap, xs, w, h, h4, hd, hp => by
    have hne : xs ≠ [] := by intro e; have := h.1.1; rw [e] at this; simp at this
    obtain ⟨ds, d, rfl⟩ : ∃ ds d, xs = ds ++ [d] := ⟨xs.dropLast, xs.getLast hne, (List.dropLast_concat_getLast hne).symm⟩
    have hl : ds.length = len := by have := h.1.1; simpa using this
    have hds : ∀ x ∈ ds, 0 ≤ x ∧ x ≤ 4096 := fun x hx => hd x (by simp [hx])
    have hpd : ∀ k, prod (ds.take k) ≤ 68719476736 := fun k => by
      by_cases hk : k ≤ ds.length
      · have := hp k
        rwa [List.take_append_of_le_length hk] at this
      · rw [List.take_of_length_le (by omega)]
        have := hp ds.length
        rwa [List.take_left'] at this
        rfl
    have h0 := (prod_take_bd ds hds ds.length).1
    rw [List.take_length] at h0
    have h1 := hpd ds.length
    rw [List.take_length] at h1
    have h2 := hp (ds ++ [d]).length
    rw [List.take_length] at h2
    exact rbox_snocT a len cap ds d w h (by omega) (hd d (by simp)) hds h0 h1 h2 (fun w1 hw1 => rbox_anyT len a cap ds w1 hw1 (by omega) hds hpd)
theorem box_smallT {box : List Int} {rs : List (List Int × Int)} (ho : PtOk box rs) : ∀ k, prod (box.take k) ≤ 68719476736 := by
  intro k
  by_cases hk : k ≤ 3
  · have h1 := (prod_take_bd box ho.dims k).2
    have h2 : (4096 : Int) ^ k ≤ 68719476736 := by
      have : k = 0 ∨ k = 1 ∨ k = 2 ∨ k = 3 := by omega
      rcases this with e | e | e | e <;> rw [e] <;> decide
    omega
  · have h1 := ho.rank
    rw [List.take_of_length_le (by omega)]
    have := ho.size.1
    omega
end Go.Proofs.Ytkbdnhchlkafnaa.V
namespace Go.Proofs.Ytkbdnhchlkafnaa.V
open Go.RowKit
set_option linter.unusedVariables false

theorem aboveB_takeT (rs : List (List Int × Int)) (xs : List Int) (k : Nat) (h : k < rs.length) : aboveB (rs.take (k + 1)) xs = (aboveB (rs.take k) xs && decide (0 ≤ worthV (rs[k]?.getD ([], 0)) xs)) := by
  unfold aboveB
  rw [take_succR rs k h, List.all_append]
  simp
theorem filter_snocT (L : List (List Int)) (rs : List (List Int × Int)) (k : Nat) (h : k < L.length) : (L.take (k + 1)).filter (aboveB rs) = (L.take k).filter (aboveB rs) ++ (if aboveB rs (L[k]?.getD []) = true then [L[k]?.getD []] else []) := by
  rw [take_succL L k h, List.filter_append]
  congr 1
  simp only [List.filter_cons, List.filter_nil]
theorem rAll_lenT (L : List (List Int)) (rs : List (List Int × Int)) (k : Nat) : ((L.take k).filter (aboveB rs)).length ≤ k := by
  have h1 := List.length_filter_le (aboveB rs) (L.take k)
  have h2 : (L.take k).length ≤ k := by rw [List.length_take]; omega
  omega

set_option maxRecDepth 100000 in
set_option maxHeartbeats 4000000 in
theorem rAll_okT (ba : Option Addr) (bl bc : Nat) (box : List Int) (ra : Option Addr) (rl rc : Nat) (rs : List (List Int × Int)) (w : World) (h : Lst w ba bl bc box) (hr : Rws w ra rl rs) (ho : PtOk box rs) :
    Calls Try.prog 83 #[.agg #[.slice ba bl bc, .slice ra rl rc]] w fun e w' => (∃ A c, e = .returned (.slice A (pts box rs).length c) ∧ LLT w' A (pts box rs).length (pts box rs)) ∧ Below w.heap.size w w' := by
  have B1 : Below w.heap.size w (w.alloc (.cells #[.slice ba bl bc, .slice ra rl rc] 70)) := bl_new _
  have hbl : bl ≤ 4 := by have := h.1.1; have := ho.rank; omega
  have HBX := hide (rbox_anyT bl ba bc box _ (h.below B1) hbl ho.dims (box_smallT ho))
  have HP := hide (PtAt.new w ba bl bc ra rl rc)
  have HB := hide B1
  have HR := hide hr
  have HO := hide ho
  have hrl : rl ≤ 8 := by have := hr.1; have := ho.many; omega
  have HRL := hide hr.1
  have HBL := hide h.1.1
  clear h hr B1 ho
  go_enter Try.func83, Try.ntmps83
  go_wp2_with fail
  refine HBX.out.mono ?_
  rintro e w1 ⟨⟨A, c, rfl, hLL⟩, hb1⟩
  obtain ⟨N, hN⟩ : ∃ N, N = (BL box).length := ⟨_, rfl⟩
  have hN4 : N ≤ 4096 := by rw [hN, BL_len]; have := HO.out.size.1; omega
  rw [← hN] at hLL
  rw [← hN]
  have HN := hide hN
  have HLS := hide hLL
  have HB1 := hide (bl_on HB.out hb1)
  have P1 := HP.out.below hb1
  have HP1 := hide P1
  obtain ⟨p0, p1⟩ := P1.cells
  have zP := P1.lt
  clear hLL hb1 hN P1
  go_wp2_with fail
  go_loopw [3, 13] (fun out i wr => ∃ k : Nat, k ≤ N ∧ i = .int .i64 k ∧ OutLT wr w1.heap.size out (((BL box).take k).filter (aboveB rs)) ∧ Below w1.heap.size w1 wr) (fun _ i _ => N - (intOf i).toNat)
  case atStart => exact ⟨0, Nat.zero_le _, rfl, by simpa using OutLT.nil _ _, Below.refl _ _⟩
  case round =>
    obtain ⟨k, hk, rfl, hout, hB⟩ := hrel
    have HOUT := hide hout
    have HBr := hide hB
    clear hout hB p0 p1
    by_cases hlt : k < N
    · have hkl : k < (BL box).length := by rw [← HN.out]; exact hlt
      obtain ⟨xb, xo, rfl, hat⟩ := HLS.out.at (by omega)
      obtain ⟨xa, xl, xc, x0, x2, x3⟩ := hat k hlt
      have x1 := (HBr.out.cell (p := ⟨xb, xo + k, none⟩) (lt_of_cell x0)).trans x0
      have hmem : (BL box)[k]?.getD [] ∈ BL box := by simp [hkl]
      have HT := hide (filter_snocT (BL box) rs k hkl)
      obtain ⟨x, hx⟩ : ∃ x, x = (BL box)[k]?.getD [] := ⟨_, rfl⟩
      rw [← hx] at x2 hmem HT
      have hxl := BL_mem HO.out.dims hmem
      have z1 := lt_of_cell x1
      simp only at z1
      have HX := hide x2
      have HXF := hide x3
      have HXL := hide hxl
      have hxl2 : xl ≤ 4 := by have := x2.1.1; have := HBL.out; omega
      obtain ⟨p0, p1⟩ := (HP1.out.below HBr.out).cells
      have zP' := (HP1.out.below HBr.out).lt
      clear hat x0 x2 x3 hmem hx hxl hkl
      go_wp2_with fail
      obtain ⟨wo, hwo⟩ : ∃ wo, wo = wr := ⟨_, rfl⟩
      subst hwo
      go_loopw [6, 20] (fun ok i wr' => ∃ j : Nat, j ≤ rl ∧ i = .int .i64 j ∧ ok = .bool (aboveB (rs.take j) x) ∧ Below wo.heap.size wo wr') (fun _ i _ => rl - (intOf i).toNat)
      case atStart => exact ⟨0, Nat.zero_le _, rfl, rfl, Below.refl _ _⟩
      case round =>
        clear p0 p1 x1 z1
        obtain ⟨j, hj, rfl, rfl, hB2⟩ := hrel
        have HB2 := hide hB2
        have hsz := hB2.size
        clear hB2
        by_cases hlt2 : j < rl
        · have hjl : j < rs.length := by rw [HRL.out]; exact hlt2
          have HBa := hide (bl_on (bl_on HB1.out HBr.out) HB2.out)
          obtain ⟨rb, ro, rfl, hrat⟩ := (HR.out.below HBa.out).at (by omega)
          obtain ⟨a, l, c', k1, k2, k3, k4, k5⟩ := hrat j hlt2
          have z1 := lt_of_cell k1
          have z2 := lt_of_cell k2
          simp only at z1 z2
          have HAB := hide (aboveB_takeT rs x j hjl)
          have hrow := HO.out.rows _ (mem_getR rs j hjl)
          obtain ⟨q, hq⟩ : ∃ q, q = rs[j]?.getD ([], 0) := ⟨_, rfl⟩
          rw [← hq] at k2 k3 k5 HAB hrow
          obtain ⟨cs, K⟩ := q
          simp only at k2 k3 k5 hrow
          have B3 : Below wr.heap.size wr (wr.alloc (.cells #[.slice a l c', .int .i64 K] 51)) := bl_new _
          have hll : l = xl := by have := k3.1; have := HX.out.1.1; have := HXL.out.1; omega
          have HAT := hide (rAt_any a l c' cs K xa xl xc x (wr.alloc (.cells #[.slice a l c', .int .i64 K] 51)) (k3.below B3) (((HX.out.1.below HBr.out).below HB2.out).below B3) hll (by omega) hrow.2.1 hrow.2.2 HXL.out.2)
          have HB3 := hide B3
          clear hrat k3 k4 k5 hq hrow B3 hjl hll
          cases hab : aboveB (rs.take j) x with
          | true =>
            rw [hab] at HAB
            clear hab
            go_wp2_with (go_at_call 84; refine HAT.out.mono ?_; rintro e w5 ⟨rfl, hb⟩; have HB6 := hide (bl_on HB3.out hb); have HB5 := hide (bl_on HB2.out HB6.out); clear hb)
            go_roundw
            case rel => exact ⟨j + 1, by omega, by go_num, by rw [HAB.out, Bool.true_and], HB5.out⟩
            case measure => simp [intOf]; omega
          | false =>
            rw [hab] at HAB
            clear hab
            go_wp2_with fail
            go_roundw
            case rel => exact ⟨j + 1, by omega, by go_num, by rw [HAB.out, Bool.false_and], bl_on HB2.out HB3.out⟩
            case measure => simp [intOf]; omega
        · obtain rfl : j = rl := by omega
          have hall : rs.take j = rs := List.take_of_length_le (by rw [HRL.out]; exact Nat.le_refl _)
          rw [hall]
          clear hall
          have hwz := HBr.out.size
          have HFL := hide (rAll_lenT (BL box) rs k)
          cases hab : aboveB rs x with
          | true =>
            rw [hab] at HT
            clear hab
            have HOw := hide (HOUT.out.below HB2.out)
            go_wp2_with (at_builtin; refine append_listsT rfl (.tmp 33) (.tmp 35) rfl w1.heap.size _ (((BL box).take k).filter (aboveB rs)) rfl xa xl xc x HOw.out ((HX.out.below HBr.out).below HB2.out) ((HXF.out.below HBr.out).below HB2.out) rfl (by have := HFL.out; omega) (by omega) ?_; intro v4 w4 hout4 hb4; have HO4 := hide hout4; have HB4 := hide hb4; clear hout4 hb4)
            go_roundw
            case rel =>
              refine ⟨k + 1, by omega, by go_num, ?_, HBr.out.trans ((HB2.out.mono hwz).trans HB4.out)⟩
              rw [HT.out]
              simpa using HO4.out
            case measure => simp [intOf]; omega
          | false =>
            rw [hab] at HT
            clear hab
            go_wp2_with fail
            go_roundw
            case rel =>
              refine ⟨k + 1, by omega, by go_num, ?_, HBr.out.trans (HB2.out.mono hwz)⟩
              rw [HT.out]
              simpa using HOUT.out.below HB2.out
            case measure => simp [intOf]; omega
    · obtain rfl : k = N := by omega
      go_wp2_with fail
      go_ret
      have := HOUT.out
      rw [HN.out, List.take_length, ← BL_filter] at this
      obtain ⟨A', c', e, hl, _⟩ := this.ll
      subst e
      exact ⟨⟨A', c', rfl, hl⟩, bl_on HB1.out HBr.out⟩
end Go.Proofs.Ytkbdnhchlkafnaa.V
namespace Go.Proofs.Ytkbdnhchlkafnaa.V
open Go.RowKit
set_option linter.unusedVariables false

set_option maxHeartbeats 400000 in
theorem indexSize_any (a : Option Addr) (len cap : Nat) (xs : List Int) (w : World) (h : Ints w a len xs) :
    Calls Try.prog 101 #[.slice a len cap, .func (.func 69) #[] #[]] w fun e w' => (∃ r : Int, e = .returned (.int .i64 r) ∧ decide (0 ≤ r) = xs.any badSize) ∧ w' = w := by
  have hl := h.1
  have hm := h.2.1
  have HL : Hid (xs.length = len) := hl
  go_enter Try.func101, Try.ntmps101
  go_wp2
  go_loop [8] (fun i => ∃ k : Nat, k ≤ len ∧ i = .int .i64 k ∧ (xs.take k).any badSize = false) (fun i => len - (intOf i).toNat)
  case atStart => exact ⟨0, Nat.zero_le _, rfl, by simp⟩
  case round =>
    obtain ⟨k, hk, rfl, hn⟩ := hrel
    have HN : Hid ((xs.take k).any badSize = false) := hn
    clear hn hl
    by_cases hlt : k < len
    · obtain ⟨b, off, rfl, hb, hc⟩ := h.at (by omega)
      have hck := hc k hlt
      clear hc h
      by_cases h1 : xs[k]?.getD 0 < 0
      · go_wp2
        go_ret
        exact ⟨⟨_, rfl, by rw [any_of_getD xs k (by rw [HL.out]; exact hlt) (by simp [badSize, h1])]; simp⟩, rfl⟩
      · by_cases h2 : 65536 < xs[k]?.getD 0
        · go_wp2
          go_ret
          exact ⟨⟨_, rfl, by rw [any_of_getD xs k (by rw [HL.out]; exact hlt) (by simp [badSize, h2])]; simp⟩, rfl⟩
        · go_wp2
          go_round
          case rel => exact ⟨k + 1, by omega, by go_num, not_mem_take_succ xs k (by rw [HL.out]; exact hlt) HN.out (by simp [badSize]; omega)⟩
          case measure => simp [intOf]; omega
    · go_wp2
      go_ret
      refine ⟨⟨_, rfl, ?_⟩, rfl⟩
      have := HN.out
      rw [take_all HL.out hlt] at this
      rw [this]; decide
theorem containsSize_any (a : Option Addr) (len cap : Nat) (xs : List Int) (w : World) (h : Ints w a len xs) :
    Calls Try.prog 68 #[.slice a len cap, .func (.func 69) #[] #[]] w fun e w' => e = .returned (.bool (xs.any badSize)) ∧ w' = w := by
  have H : Hid (Ints w a len xs) := h
  clear h
  go_enter Try.func68, Try.ntmps68
  go_wp2_with (go_at_call 101; refine (indexSize_any _ _ _ _ _ H.out).mono ?_; rintro e w' ⟨⟨r, rfl, hr⟩, rfl⟩; have HR := hide hr; clear hr)
  go_ret
  exact ⟨by rw [← HR.out]; rfl, rfl⟩

set_option maxHeartbeats 1000000 in
theorem gets_any (k : Int) (w : World) : Calls Try.prog 102 #[.int .i64 k] w fun e w' => e = .returned (.tuple #[.int .i64 (if takesV k < 0 then 0 else takesV k), .bool (decide (0 ≤ takesV k))]) ∧ w' = w := by
  rcases kind_cases k with h | h | h | h | h | h | h | h | h | h | h
  case inr.inr.inr.inr.inr.inr.inr.inr.inr.inr =>
    rw [takes_none h]
    obtain ⟨h1, h2, h3, h4, h5, h6, h7, h8, h9, h10⟩ := h
    have k1 : (k == 1) = false := by simpa using h1
    have k2 : (k == 2) = false := by simpa using h2
    have k3 : (k == 3) = false := by simpa using h3
    have k4 : (k == 4) = false := by simpa using h4
    have k5 : (k == 5) = false := by simpa using h5
    have k6 : (k == 6) = false := by simpa using h6
    have k7 : (k == 7) = false := by simpa using h7
    have k8 : (k == 8) = false := by simpa using h8
    have k9 : (k == 9) = false := by simpa using h9
    have k10 : (k == 10) = false := by simpa using h10
    go_enter Try.func102, Try.ntmps102
    go_wp2
    go_ret2
    exact ⟨rfl, rfl⟩
  all_goals
    subst h
    go_enter Try.func102, Try.ntmps102
    go_wp2
    go_ret2
    exact ⟨rfl, rfl⟩

set_option maxHeartbeats 1000000 in
theorem wrongAccess_any (q : AW) (a : Acc) (n vars : Nat) (w : World) (h : AG w q a) (hn : n ≤ 9223372036854775807) (h4 : vars ≤ 4) :
    Calls Try.prog 103 #[q.v, .int .i64 n, .int .i64 vars] w fun e w' => e = .returned (.int .i64 (accE n a vars)) ∧ Below w.heap.size w w' := by
  have B1 : Below w.heap.size w (w.alloc (.cells #[.int .i64 q.arr, .slice q.ca q.cl q.cc, .int .i64 q.con] 72)) := bl_new _
  have P1 := AW.new q w
  obtain ⟨p0, p1, p2⟩ := P1.cells
  have h1 := h.below B1
  have HC := hide (wrongRow_any q.ca q.cl q.cc a.2.1 a.2.2 vars _ h1.coef h.bd.2 h4)
  have ha := h.arr
  have hk := h.con
  have hb1 := h.bd.1.1
  have hb2 := h.bd.1.2
  have HB := hide B1
  obtain ⟨arr, ca, cl, cc, con⟩ := q
  obtain ⟨aa, cs, ak⟩ := a
  simp only [AW.v] at *
  subst ha
  subst hk
  clear h h1 B1 P1
  by_cases c1 : arr < 0
  · have e1 : accE n (arr, cs, con) vars = 4 := by unfold accE; rw [if_pos (.inl c1)]
    rw [e1]
    clear e1
    go_enter Try.func103, Try.ntmps103
    go_wp2_with fail
    go_ret
    exact ⟨rfl, HB.out⟩
  by_cases c2 : (n : Int) ≤ arr
  · have e1 : accE n (arr, cs, con) vars = 4 := by unfold accE; rw [if_pos (.inr c2)]
    rw [e1]
    clear e1
    go_enter Try.func103, Try.ntmps103
    go_wp2_with fail
    go_ret
    exact ⟨rfl, HB.out⟩
  have e1 : accE n (arr, cs, con) vars = rowE (cs, con) vars := by unfold accE; rw [if_neg (by simp only; omega)]
  rw [e1]
  clear e1
  go_enter Try.func103, Try.ntmps103
  go_wp2_with (go_at_call 34; refine HC.out.mono ?_; rintro e w2 ⟨rfl, hb⟩; have HB2 := hide (bl_on HB.out hb); clear hb)
  go_ret
  exact ⟨rfl, HB2.out⟩
end Go.Proofs.Ytkbdnhchlkafnaa.V
namespace Go.Proofs.Ytkbdnhchlkafnaa.V
open Go.RowKit
set_option linter.unusedVariables false

set_option maxHeartbeats 4000000 in
theorem wrongStmt_any (q : SW) (s : Stm) (n : Nat) (w : World) (h : SG w q s) (hn : n ≤ 9223372036854775807) :
    Calls Try.prog 70 #[q.v, .int .i64 n] w fun e w' => e = .returned (.int .i64 (stmE n s)) ∧ Below w.heap.size w w' := by
  have B1 : Below w.heap.size w (w.alloc (.cells q.cs 75)) := bl_new _
  have P0 := SW.new q w
  obtain ⟨p0, p1, p2, p3, p4, p5, p6, p7⟩ := P0.cells
  have h1 := h.below B1
  have HPW := hide (ptWrong_any q.ba q.bl q.bc s.box q.ra q.rl q.rc s.rows _ h1.box.1 h1.rows)
  have HAC := hide (fun (h4 : q.bl ≤ 4) (W : World) (hb : Below w.heap.size w W) => wrongAccess_any q.pu s.put n q.bl W (h.put.below hb) hn h4)
  have HGE := hide h.gets
  have HB := hide B1
  have HP := hide P0
  have hbl := h.box.1.1
  have hgl := h.gets.1
  have hgm := h.gets.2.1
  have hkd := h.kd
  have hbm := h.box.1.2.1
  have hb1 := h.bd.1.1
  have hb2 := h.bd.1.2
  obtain ⟨ba, bl, bc, ra, rl, rc, kd, va, ⟨parr, pca, pcl, pcc, pcon⟩, ga, gl, gc⟩ := q
  obtain ⟨box, rows, kind, val, put, gets⟩ := s
  simp only [SW.v, SW.cs, AW.v] at *
  subst hkd
  clear h h1 B1 P0
  by_cases c1 : ptE box rows ≠ 0
  · have e1 : stmE n ⟨box, rows, kd, val, put, gets⟩ = ptE box rows := by unfold stmE; simp only; rw [if_pos c1]
    have c2 : (ptE box rows != 0) = true := by simpa using c1
    rw [e1]
    clear e1 c1
    go_enter Try.func70, Try.ntmps70
    go_wp2_with (go_at_call 93; refine HPW.out.mono ?_; rintro e w1 ⟨rfl, hb⟩; have HB1 := hide (bl_on HB.out hb); have P1 := HP.out.below hb; obtain ⟨p0, p1, p2, p3, p4, p5, p6, p7⟩ := P1.cells; have zP := P1.lt; have HP1 := hide P1; clear hb P1)
    go_ret
    exact ⟨rfl, HB1.out⟩
  have c1' : ptE box rows = 0 := by simpa using c1
  have C1 := hide c1'
  have h4 : bl ≤ 4 := by have := (ptE_ok c1').rank; omega
  have HAC := hide (HAC.out h4)
  by_cases c2 : takesV kd < 0
  · have e1 : stmE n ⟨box, rows, kd, val, put, gets⟩ = 1 := by unfold stmE; simp only; rw [if_neg c1, if_pos c2]
    have c3 : decide (0 ≤ takesV kd) = false := by simp; omega
    rw [e1]
    have C3 := hide c3
    clear e1 c1 c1' c3
    go_enter Try.func70, Try.ntmps70
    go_wp2_with (first | (go_at_call 93; refine HPW.out.mono ?_; rintro e w1 ⟨rfl, hb⟩; rw [C1.out]; have HB1 := hide (bl_on HB.out hb); have P1 := HP.out.below hb; obtain ⟨p0, p1, p2, p3, p4, p5, p6, p7⟩ := P1.cells; have zP := P1.lt; have HP1 := hide P1; clear hb P1) | (go_at_call 102; refine (gets_any _ _).mono ?_; rintro e w' ⟨rfl, hw'⟩; obtain rfl := hw'.symm; rw [C3.out]))
    go_ret
    exact ⟨rfl, HB1.out⟩
  have c3 : decide (0 ≤ takesV kd) = true := by simp; omega
  have tb := takes_bd kd
  have C3 := hide c3
  obtain ⟨T, hT⟩ : ∃ T, T = takesV kd := ⟨_, rfl⟩
  have E0 : Hid ((if takesV kd < 0 then 0 else takesV kd) = T) := by rw [Hid, if_neg c2, hT]
  by_cases c4 : takesV kd ≠ (gets.length : Int)
  · have e1 : stmE n ⟨box, rows, kd, val, put, gets⟩ = 2 := by unfold stmE; simp only; rw [if_neg c1, if_neg c2, if_pos c4]
    have c5 : ((gl : Int) != T) = true := by simp; omega
    rw [e1]
    clear e1 c1 c1' c3 c2 c4 tb hT
    go_enter Try.func70, Try.ntmps70
    go_wp2_with (first | (go_at_call 93; refine HPW.out.mono ?_; rintro e w1 ⟨rfl, hb⟩; rw [C1.out]; have HB1 := hide (bl_on HB.out hb); have P1 := HP.out.below hb; obtain ⟨p0, p1, p2, p3, p4, p5, p6, p7⟩ := P1.cells; have zP := P1.lt; have HP1 := hide P1; clear hb P1) | (go_at_call 102; refine (gets_any _ _).mono ?_; rintro e w' ⟨rfl, hw'⟩; obtain rfl := hw'.symm; rw [C3.out, E0.out]))
    go_ret
    exact ⟨rfl, HB1.out⟩
  have c4' : takesV kd = (gets.length : Int) := by simpa using c4
  have c5 : ((gl : Int) != T) = false := by simp; omega
  have hg3 : gl ≤ 3 := by omega
  by_cases c6 : accE n put box.length ≠ 0
  · have e1 : stmE n ⟨box, rows, kd, val, put, gets⟩ = accE n put bl := by unfold stmE; simp only; rw [if_neg c1, if_neg c2, if_neg c4, if_pos c6, hbl]
    have c7 : (accE n put bl != 0) = true := by rw [← hbl]; simpa using c6
    rw [e1]
    clear e1 c1 c1' c3 c2 c4 tb hT c6 c4'
    go_enter Try.func70, Try.ntmps70
    go_wp2_with (first | (go_at_call 93; refine HPW.out.mono ?_; rintro e w1 ⟨rfl, hb⟩; rw [C1.out]; have HB1 := hide (bl_on HB.out hb); have P1 := HP.out.below hb; obtain ⟨p0, p1, p2, p3, p4, p5, p6, p7⟩ := P1.cells; have zP := P1.lt; have HP1 := hide P1; clear hb P1) | (go_at_call 102; refine (gets_any _ _).mono ?_; rintro e w' ⟨rfl, hw'⟩; obtain rfl := hw'.symm; rw [C3.out, E0.out]) | (go_at_call 103; refine (HAC.out w1 HB1.out).mono ?_; rintro e w2 ⟨rfl, hb⟩; have HB2 := hide (bl_on HB1.out hb); have P2 := HP1.out.below hb; obtain ⟨p0, p1, p2, p3, p4, p5, p6, p7⟩ := P2.cells; have zP := P2.lt; have HP2 := hide P2; clear hb P2))
    go_ret
    exact ⟨rfl, HB2.out⟩
  have e1 : stmE n ⟨box, rows, kd, val, put, gets⟩ = accsE n gets bl := by unfold stmE; simp only; rw [if_neg c1, if_neg c2, if_neg c4, if_neg c6, hbl]
  have c7 : accE n put bl = 0 := by rw [← hbl]; simpa using c6
  have C7 := hide c7
  have HGL := hide hgl
  rw [e1]
  clear e1 c1 c1' c3 c2 c4 tb hT c6 c4' c7
  go_enter Try.func70, Try.ntmps70
  go_wp2_with (first | (go_at_call 93; refine HPW.out.mono ?_; rintro e w1 ⟨rfl, hb⟩; rw [C1.out]; have HB1 := hide (bl_on HB.out hb); have P1 := HP.out.below hb; obtain ⟨p0, p1, p2, p3, p4, p5, p6, p7⟩ := P1.cells; have zP := P1.lt; have HP1 := hide P1; clear hb P1) | (go_at_call 102; refine (gets_any _ _).mono ?_; rintro e w' ⟨rfl, hw'⟩; obtain rfl := hw'.symm; rw [C3.out, E0.out]) | (go_at_call 103; refine (HAC.out w1 HB1.out).mono ?_; rintro e w2 ⟨rfl, hb⟩; rw [C7.out]; have HB2 := hide (bl_on HB1.out hb); have P2 := HP1.out.below hb; obtain ⟨p0, p1, p2, p3, p4, p5, p6, p7⟩ := P2.cells; have zP := P2.lt; have HP2 := hide P2; clear hb P2))
  go_loopw [45] (fun i wr => ∃ k : Nat, k ≤ gl ∧ i = .int .i64 k ∧ accsE n (gets.take k) bl = 0 ∧ Below w2.heap.size w2 wr) (fun i _ => gl - (intOf i).toNat)
  case atStart => exact ⟨0, Nat.zero_le _, rfl, by simp [accsE], Below.refl _ _⟩
  case round =>
    obtain ⟨k, hk, rfl, hz, hB⟩ := hrel
    have HZ := hide hz
    have HBr := hide hB
    have P3 := HP2.out.below hB
    obtain ⟨p0, p1, p2, p3, p4, p5, p6, p7⟩ := P3.cells
    have zP3 := P3.lt
    have HP3 := hide P3
    clear hz hB P3
    simp only at p0 p1 p2 p3 p4 p5 p6 p7
    by_cases hlt : k < gl
    · have hkl : k < gets.length := by rw [HGL.out]; exact hlt
      obtain ⟨b, off, rfl, hat⟩ := (HGE.out.below (bl_on HB2.out HBr.out)).at (by omega)
      obtain ⟨q, hq, k1, k2, k3⟩ := (hat k hlt).words
      have z1 := lt_of_cell k1
      simp only at z1
      have B3 : Below wr.heap.size wr (wr.alloc (.cells #[.int .i64 q.arr, .slice q.ca q.cl q.cc, .int .i64 q.con] 72)) := bl_new _
      have HC := hide (wrongAccess_any q _ n bl _ (hq.below B3) hn h4)
      obtain ⟨y0, y1, y2⟩ := (AW.new q wr).cells
      obtain ⟨r0, r1, r2, r3, r4, r5, r6, r7⟩ := (HP3.out.below B3).cells
      have HP4 := hide (HP3.out.below B3)
      have HB3 := hide B3
      have HKL := hide hkl
      obtain ⟨aq, haq⟩ : ∃ aq, aq = gets[k]?.getD accD := ⟨_, rfl⟩
      rw [← haq] at HC
      have HAQ := hide haq
      obtain ⟨arr, ca, cl, cc, con⟩ := q
      simp only [AW.v] at *
      clear hat hq B3 hkl haq
      go_wp2_with (go_at_call 103; refine HC.out.mono ?_; rintro e w3 ⟨rfl, hb⟩; have HB4 := hide (bl_on HB3.out hb); clear hb)
      · have hx : accE n aq bl ≠ 0 := by simpa using (by assumption : (accE n aq bl != 0) = true)
        go_ret
        refine ⟨?_, bl_on HB2.out (bl_on HBr.out HB4.out)⟩
        rw [accsE_here n gets bl k HKL.out HZ.out (by rw [← HAQ.out]; exact hx), ← HAQ.out]; rfl
      · have hx : accE n aq bl = 0 := by simpa using (by assumption : (accE n aq bl != 0) = false)
        go_roundw
        case rel => exact ⟨k + 1, by omega, by go_num, accsE_take n gets bl k HKL.out HZ.out (by rw [← HAQ.out]; exact hx), bl_on HBr.out HB4.out⟩
        case measure => simp [intOf]; omega
    · go_wp2_with fail
      go_ret
      have := HZ.out
      rw [List.take_of_length_le (by rw [HGL.out]; omega)] at this
      exact ⟨by rw [this]; rfl, bl_on HB2.out HBr.out⟩
end Go.Proofs.Ytkbdnhchlkafnaa.V
namespace Go.Proofs.Ytkbdnhchlkafnaa.V
open Go.RowKit
set_option linter.unusedVariables false

set_option maxHeartbeats 4000000 in
theorem nestWrong_any (za : Option Addr) (zl zc : Nat) (zs : List Int) (ta : Option Addr) (tl tc : Nat) (ss : List Stm) (w : World) (hz : Ints w za zl zs) (hs : Stms w ta tl ss) :
    Calls Try.prog 33 #[.agg #[.slice za zl zc, .slice ta tl tc]] w fun e w' => e = .returned (.int .i64 (nestE zs ss)) ∧ Below w.heap.size w w' := by
  have B1 : Below w.heap.size w (w.alloc (.cells #[.slice za zl zc, .slice ta tl tc] 25)) := bl_new _
  have P0 := NsBlk.new w za zl zc ta tl tc
  obtain ⟨p0, p1⟩ := P0.cells
  have HCS := hide (containsSize_any za zl zc zs _ (hz.below B1))
  have HS := hide hs
  have HB := hide B1
  have HP := hide P0
  have hm1 := hz.2.1
  have hm2 := hs.2.1
  have HZL := hide hz.1
  have HSL := hide hs.1
  by_cases c1 : 256 < tl
  · have e1 : nestE zs ss = 2 := by unfold nestE; rw [if_pos (by rw [hs.1]; exact c1)]
    rw [e1]
    clear hz hs e1 B1 P0
    go_enter Try.func33, Try.ntmps33
    go_wp2_with fail
    go_ret
    exact ⟨rfl, HB.out⟩
  cases c2 : zs.any badSize with
  | true =>
    have e1 : nestE zs ss = 4 := by unfold nestE; rw [if_neg (by rw [hs.1]; exact c1), if_pos c2]
    rw [e1]
    have C2 := hide c2
    clear hz hs e1 B1 P0 c2
    go_enter Try.func33, Try.ntmps33
    go_wp2_with (go_at_call 68; refine HCS.out.mono ?_; rintro e w' ⟨rfl, hw'⟩; obtain rfl := hw'.symm; rw [C2.out])
    go_ret
    exact ⟨rfl, HB.out⟩
  | false =>
    have e1 : nestE zs ss = stmsE zl ss := by unfold nestE; rw [if_neg (by rw [hs.1]; exact c1), if_neg (by simp [c2]), hz.1]
    rw [e1]
    have C2 := hide c2
    clear hz hs e1 B1 P0 c2
    go_enter Try.func33, Try.ntmps33
    go_wp2_with (go_at_call 68; refine HCS.out.mono ?_; rintro e w' ⟨rfl, hw'⟩; obtain rfl := hw'.symm; rw [C2.out])
    go_loopw [16] (fun i wr => ∃ k : Nat, k ≤ tl ∧ i = .int .i64 k ∧ stmsE zl (ss.take k) = 0 ∧ Below w.heap.size w wr ∧ NsBlk wr w.heap.size za zl zc ta tl tc) (fun i _ => tl - (intOf i).toNat)
    case atStart => exact ⟨0, Nat.zero_le _, rfl, by simp [stmsE], HB.out, HP.out⟩
    case round =>
      obtain ⟨k, hk, rfl, hz, hB, hP⟩ := hrel
      have HZ := hide hz
      have HBr := hide hB
      have HP3 := hide hP
      obtain ⟨p0, p1⟩ := hP.cells
      have zP3 := hP.lt
      clear hz hB hP
      by_cases hlt : k < tl
      · have hkl : k < ss.length := by rw [HSL.out]; exact hlt
        obtain ⟨b, off, rfl, hat⟩ := (HS.out.below HBr.out).at (by omega)
        obtain ⟨q, hq, k0, k1, k2, k3, k4, k5, k6, k7⟩ := hat k hlt
        have z1 := lt_of_cell k0
        simp only at z1
        have B3 : Below wr.heap.size wr (wr.alloc (.cells q.cs 75)) := bl_new _
        have HC := hide (wrongStmt_any q _ zl _ (hq.below B3) hm1)
        obtain ⟨y0, y1, y2, y3, y4, y5, y6, y7⟩ := (SW.new q wr).cells
        obtain ⟨r0, r1⟩ := (HP3.out.below B3).cells
        have HP4 := hide (HP3.out.below B3)
        have HB3 := hide B3
        have HKL := hide hkl
        obtain ⟨aq, haq⟩ : ∃ aq, aq = ss[k]?.getD stmD := ⟨_, rfl⟩
        rw [← haq] at HC
        have HAQ := hide haq
        obtain ⟨ba, bl, bc, ra, rl, rc, kd, va, ⟨parr, pca, pcl, pcc, pcon⟩, ga, gl, gc⟩ := q
        simp only [SW.v, SW.cs] at *
        clear hat hq B3 hkl haq
        go_wp2_with (go_at_call 70; refine HC.out.mono ?_; rintro e w3 ⟨rfl, hb⟩; have HB4 := hide (bl_on HB3.out hb); have HP5 := hide (HP4.out.below hb); clear hb)
        · have hx : stmE zl aq ≠ 0 := by simpa using (by assumption : (stmE zl aq != 0) = true)
          go_ret
          refine ⟨?_, bl_on HBr.out HB4.out⟩
          rw [stmsE_here zl ss k HKL.out HZ.out (by rw [← HAQ.out]; exact hx), ← HAQ.out]; rfl
        · have hx : stmE zl aq = 0 := by simpa using (by assumption : (stmE zl aq != 0) = false)
          go_roundw
          case rel => exact ⟨k + 1, by omega, by go_num, stmsE_take zl ss k HKL.out HZ.out (by rw [← HAQ.out]; exact hx), bl_on HBr.out HB4.out, HP5.out⟩
          case measure => simp [intOf]; omega
      · go_wp2_with fail
        go_ret
        have := HZ.out
        rw [List.take_of_length_le (by rw [HSL.out]; omega)] at this
        exact ⟨by rw [this]; rfl, HBr.out⟩
end Go.Proofs.Ytkbdnhchlkafnaa.V
namespace Go.Proofs.Ytkbdnhchlkafnaa.V
open Go.RowKit
set_option linter.unusedVariables false

/-- All spots in another order: any two that change places commute. -/
theorem fold_perm {α β : Type} (f : β → α → β) (Good : β → Prop) (hG : ∀ b a, Good b → Good (f b a)) : ∀ (S' S : List α) (M : β), Good M → S'.Perm S → S.Nodup → (∀ a b, [b, a].Sublist S → [a, b].Sublist S' → ∀ N, Good N → f (f N b) a = f (f N a) b) → S.foldl f M = S'.foldl f M
  | [], S, M, hM, hp, _, _ => by
    have : S = [] := by have := hp.length_eq; simpa using this.symm
    rw [this]
  | a :: T, S, M, hM, hp, hn, h => by
    have ha : a ∈ S := hp.subset (by simp)
    obtain ⟨pre, post, hS⟩ := List.append_of_mem ha
    subst hS
    have hp2 : T.Perm (pre ++ post) := by
      have h1 : (pre ++ a :: post).Perm (a :: (pre ++ post)) := List.perm_middle
      exact (List.perm_cons a).1 (hp.trans h1)
    have hn2 : (a :: (pre ++ post)).Nodup := (List.perm_middle.nodup_iff).1 hn
    have hn3 := (List.nodup_cons.1 hn2)
    rw [fold_front f Good hG a post pre M hM (fun b hb N hN => ?_)]
    · rw [List.foldl_cons]
      refine fold_perm f Good hG T (pre ++ post) (f M a) (hG _ _ hM) hp2 hn3.2 (fun c b h1 h2 => h c b (h1.trans ?_) (h2.trans (List.sublist_cons_self a T)))
      exact List.Sublist.append (List.Sublist.refl pre) (List.sublist_cons_self a post)
    · refine h a b ?_ ?_ N hN
      · have h1 : [b].Sublist pre := List.singleton_sublist.2 hb
        have h2 : [a].Sublist (a :: post) := List.singleton_sublist.2 (by simp)
        exact List.Sublist.append h1 h2
      · have hbT : b ∈ T := hp2.symm.subset (by simp [hb])
        exact List.Sublist.cons_cons a (List.singleton_sublist.2 hbT)

/-- Times have a linear order. -/
theorem befN_irr (f : Nat → Int) : ∀ n k, befN f f n k = false
  | 0, _ => rfl
  | n + 1, k => by simp only [befN]; rw [if_neg (by simp)]; exact befN_irr f n (k + 1)
theorem befB_irr (f : Nat → Int) : befB f f = false := befN_irr f 8 0
theorem befN_tri (f g : Nat → Int) : ∀ n k, befN f g n k = true ∨ befN g f n k = true ∨ ∀ j, k ≤ j → j < k + n → f j = g j
  | 0, k => .inr (.inr fun j h1 h2 => by omega)
  | n + 1, k => by
    simp only [befN]
    by_cases e : f k = g k
    · rw [if_neg (by simpa using e), if_neg (by simpa using e.symm)]
      rcases befN_tri f g n (k + 1) with h | h | h
      · exact .inl h
      · exact .inr (.inl h)
      · refine .inr (.inr fun j h1 h2 => ?_)
        by_cases ej : j = k
        · subst ej; exact e
        · exact h j (by omega) (by omega)
    · rw [if_pos e, if_pos (fun h => e h.symm)]
      by_cases hl : f k < g k
      · exact .inl (by simpa using hl)
      · exact .inr (.inl (by simp; omega))
theorem befB_tri (f g : Nat → Int) : befB f g = true ∨ befB g f = true ∨ ∀ j, j < 8 → f j = g j := by
  rcases befN_tri f g 8 0 with h | h | h
  · exact .inl h
  · exact .inr (.inl h)
  · exact .inr (.inr fun j hj => h j (by omega) (by omega))
theorem befN_trans (f g h : Nat → Int) : ∀ n k, befN f g n k = true → befN g h n k = true → befN f h n k = true
  | 0, _, h1, _ => by simp [befN] at h1
  | n + 1, k, h1, h2 => by
    simp only [befN] at h1 h2 ⊢
    by_cases e1 : f k = g k
    · rw [if_neg (by simpa using e1)] at h1
      by_cases e2 : g k = h k
      · rw [if_neg (by simpa using e2)] at h2
        rw [if_neg (by simpa using e1.trans e2)]
        exact befN_trans f g h n (k + 1) h1 h2
      · rw [if_pos e2] at h2
        rw [if_pos (by rw [e1]; exact e2), e1]; exact h2
    · rw [if_pos e1] at h1
      have l1 : f k < g k := by simpa using h1
      by_cases e2 : g k = h k
      · rw [if_pos (by omega)]
        simp; omega
      · rw [if_pos e2] at h2
        have l2 : g k < h k := by simpa using h2
        rw [if_pos (by omega)]
        simp; omega
theorem befB_trans {f g h : Nat → Int} (h1 : befB f g = true) (h2 : befB g h = true) : befB f h = true := befN_trans f g h 8 0 h1 h2
theorem befB_asymm {f g : Nat → Int} (h : befB f g = true) : befB g f = false := by
  cases e : befB g f with
  | false => rfl
  | true => have := befB_trans h e; rw [befB_irr] at this; cases this
theorem befN_congr {f f' g g' : Nat → Int} : ∀ n k, (∀ j, k ≤ j → j < k + n → f j = f' j ∧ g j = g' j) → befN f g n k = befN f' g' n k
  | 0, _, _ => rfl
  | n + 1, k, h => by
    simp only [befN]
    rw [(h k (by omega) (by omega)).1, (h k (by omega) (by omega)).2, befN_congr n (k + 1) (fun j h1 h2 => h j (by omega) (by omega))]
theorem befB_congr {f f' g g' : Nat → Int} (h : ∀ j, j < 8 → f j = f' j ∧ g j = g' j) : befB f g = befB f' g' := befN_congr 8 0 (fun j _ h2 => h j (by omega))
/-- A spot's time. -/
def spT (T : List (List (List Int × Int))) (sp : Nat × List Int) : Nat → Int := timeV (T[sp.1]?.getD []) sp.2
/-- No two that are in each other's way change places. -/
def LegalN (ss : List Stm) (zs : Mem) (T : List (List (List Int × Int))) (S : List (Nat × List Int)) : Prop := ∀ i j : Nat, i < j → j < S.length → befB (spT T (S[j]?.getD (0, []))) (spT T (S[i]?.getD (0, []))) = true → ¬ clash zs (ss[(S[i]?.getD (0, [])).1]?.getD stmD) (ss[(S[j]?.getD (0, [])).1]?.getD stmD) (S[i]?.getD (0, [])).2 (S[j]?.getD (0, [])).2
/-- No two of one time are in each other's way. -/
def FreeN (ss : List Stm) (zs : Mem) (T : List (List (List Int × Int))) (S : List (Nat × List Int)) : Prop := ∀ i j : Nat, i < j → j < S.length → (∀ k, k < 8 → spT T (S[j]?.getD (0, [])) k = spT T (S[i]?.getD (0, [])) k) → ¬ clash zs (ss[(S[i]?.getD (0, [])).1]?.getD stmD) (ss[(S[j]?.getD (0, [])).1]?.getD stmD) (S[i]?.getD (0, [])).2 (S[j]?.getD (0, [])).2
theorem sublist_two {α : Type} {S : List α} {a b d : α} (h : [b, a].Sublist S) : ∃ i j : Nat, i < j ∧ j < S.length ∧ S[i]?.getD d = b ∧ S[j]?.getD d = a := by
  induction S with
  | nil => simp at h
  | cons c S ih =>
    cases h with
    | cons _ h =>
      obtain ⟨i, j, h1, h2, h3, h4⟩ := ih h
      exact ⟨i + 1, j + 1, by omega, by simp; omega, by simpa using h3, by simpa using h4⟩
    | cons_cons _ h =>
      have ha : a ∈ S := List.singleton_sublist.1 h
      obtain ⟨j, hj, e⟩ := List.getElem_of_mem ha
      exact ⟨0, j + 1, by omega, by simp; omega, rfl, by simp [hj, e]⟩
end Go.Proofs.Ytkbdnhchlkafnaa.V
