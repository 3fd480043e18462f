/-
  The document's Strip. The document's Strip: the statement that was made. The document's Strip: statements copied.
-/
import Derived.Test.YtmmigbkilbfheaaK13
import Derived.Test.YtmmigbkilbfheaaK11
import Derived.Test.YtmmigbkilbfheaaK26
import Derived.Test.YtmmigbkilbfheaaK16
import Derived.Deep.DeepCutAuto
import Derived.Deep.RegionHeld3
namespace Go.Proofs.Ytmmigbkilbfheaa.V
open Go Go.RowKit Go.Shelf
set_option linter.unusedVariables false

/-- The statement is begun: its box, and the numbers of where it puts. -/
structure T0 (W : World) (gt : Nat) (kd va arr con : Int) (u : Value) (lp : List Int) (wx : World) : Prop where
  box : wx.heap[gt]? = some (.cells #[.slice none 0 0, .slice none 0 0, .int .i64 kd, .int .i64 va, .int .i64 arr, u, .int .i64 con, .slice none 0 0] 74 (0, 0))
  put : (⟨u, 3, 1, lp.length, ivs lp⟩ : Mb).own wx W.heap.size
  ge : W.heap.size ≤ gt
  bel : Below W.heap.size W wx
def fPutR (N : Nat) (con : Int) (lp : List Int) : Fact := ⟨fun v w => ∃ u : Value, v = .agg #[u, .int .i64 con] ∧ (⟨u, 3, 1, lp.length, ivs lp⟩ : Mb).own w N, false⟩
theorem fPutR_good (N : Nat) (con : Int) (lp : List Int) : (fPutR N con lp).Good := ⟨fun _ _ _ ⟨u, h1, h2⟩ hb => ⟨u, h1, h2.below hb⟩, fun h => by cases h⟩
def fAccR (N : Nat) (arr con : Int) (lp : List Int) : Fact := ⟨fun v w => ∃ u : Value, v = .agg #[.int .i64 arr, u, .int .i64 con] ∧ (⟨u, 3, 1, lp.length, ivs lp⟩ : Mb).own w N, false⟩
theorem fAccR_good (N : Nat) (arr con : Int) (lp : List Int) : (fAccR N arr con lp).Good := ⟨fun _ _ _ ⟨u, h1, h2⟩ hb => ⟨u, h1, h2.below hb⟩, fun h => by cases h⟩
def fStmR (N : Nat) (kd va arr con : Int) (lp : List Int) : Fact := ⟨fun v w => ∃ u : Value, v = .agg #[.slice none 0 0, .slice none 0 0, .int .i64 kd, .int .i64 va, .int .i64 arr, u, .int .i64 con, .slice none 0 0] ∧ (⟨u, 3, 1, lp.length, ivs lp⟩ : Mb).own w N, false⟩
theorem fStmR_good (N : Nat) (kd va arr con : Int) (lp : List Int) : (fStmR N kd va arr con lp).Good := ⟨fun _ _ _ ⟨u, h1, h2⟩ hb => ⟨u, h1, h2.below hb⟩, fun h => by cases h⟩
abbrev zeroS : Array Value := #[.slice none 0 0, .slice none 0 0, .int .i64 0, .int .i64 0, .int .i64 0, .slice none 0 0, .int .i64 0, .slice none 0 0]
def fNewS (N : Nat) : Fact := ⟨fun v w => ∃ g : Nat, v = .pointer (some ⟨g, 0, none⟩) ∧ w.heap[g]? = some (.cells zeroS 74 (0, 0)) ∧ N ≤ g, false⟩
theorem fNewS_good (N : Nat) : (fNewS N).Good := ⟨fun _ _ _ ⟨g, h1, h2, h3⟩ hb => ⟨g, h1, (hb.block g (Array.getElem?_eq_some_iff.1 h2).1).trans h2, h3⟩, fun h => by cases h⟩
theorem zero8 {w : World} {g : Nat} (h : w.heap[g]? = some (.cells zeroS 74 (0, 0))) : (w.cell? ⟨g, 0, none⟩ = some (.slice none 0 0) ∧ w.cell? ⟨g, 1, none⟩ = some (.slice none 0 0) ∧ w.cell? ⟨g, 2, none⟩ = some (.int .i64 0) ∧ w.cell? ⟨g, 3, none⟩ = some (.int .i64 0) ∧ w.cell? ⟨g, 4, none⟩ = some (.int .i64 0) ∧ w.cell? ⟨g, 5, none⟩ = some (.slice none 0 0) ∧ w.cell? ⟨g, 6, none⟩ = some (.int .i64 0) ∧ w.cell? ⟨g, 7, none⟩ = some (.slice none 0 0)) ∧ (∀ i, w.frozen? ⟨g, i, none⟩ = false) ∧ g < w.heap.size := by
  refine ⟨⟨?_, ?_, ?_, ?_, ?_, ?_, ?_, ?_⟩, fun i => ?_, (Array.getElem?_eq_some_iff.1 h).1⟩ <;> simp [World.cell?, World.frozen?, h]
def nilV : Value := .slice none 0 0
def tV0 : TV := ⟨.slice none 0 0, [], .slice none 0 0, [], .slice none 0 0, 0, [], .slice none 0 0, 0, [], fun _ => ⟨.slice none 0 0, 3, 1, 0, []⟩⟩
theorem tM_start {W3 : World} {B : Nat} (F : TF) (hbox : W3.heap[F.gt]? = some (.cells #[.slice none 0 0, .slice none 0 0, .int .i64 F.kd, .int .i64 F.va, .int .i64 F.arr, F.up, .int .i64 F.con, .slice none 0 0] 74 (0, 0))) (hput : (⟨F.up, 3, 1, F.lp.length, ivs F.lp⟩ : Mb).own W3 B) (hge : B ≤ F.gt) (hgl : F.gl = W3.heap.size) (hB : B ≤ W3.heap.size) :
    Fm (W3.alloc (.cells #[.slice none 0 0, .int .i64 F.cb] 51)) B 7 (tM F tV0) := by
  have hb := bl_new (w := W3) (.cells #[.slice none 0 0, .int .i64 F.cb] 51)
  have hgt := (Array.getElem?_eq_some_iff.1 hbox).1
  have h0 : (tM F tV0 0).own (W3.alloc (.cells #[.slice none 0 0, .int .i64 F.cb] 51)) B := box_own ((hb.block F.gt hgt).trans hbox) hge
  have h1 : (tM F tV0 1).own (W3.alloc (.cells #[.slice none 0 0, .int .i64 F.cb] 51)) B := hput.below hb
  have h2 : (tM F tV0 2).own (W3.alloc (.cells #[.slice none 0 0, .int .i64 F.cb] 51)) B := by
    have := box_own (B := B) (World.alloc_heap_new W3 (.cells #[.slice none 0 0, .int .i64 F.cb] 51)) hB
    rw [← hgl] at this
    exact this
  have hne : ∀ g, F.up.ownBlock = some g → g ≠ F.gt := fun g e ee => by
    rcases hput.2 with ⟨e1, _⟩ | ⟨g', cap, cur, e1, _, e3, _⟩
    · simp only at e1; rw [e1] at e; cases e
    · simp only at e1
      rw [e1] at e
      have e4 : g' = F.gt := (by simpa [Value.ownBlock] using e : g' = g).trans ee
      rw [e4, hbox] at e3
      simp only [Option.some.injEq, Obj.cells.injEq] at e3
      exact absurd e3.2.1 (by decide)
  refine ⟨fun i hi => ?_, fun i j g hi hj e1 e2 => ?_⟩
  · match i, hi with
    | 0, _ => exact h0
    | 1, _ => exact h1
    | 2, _ => exact h2
    | 3, _ => exact World.ownsRow_nil _ _ _ _
    | 4, _ => exact World.ownsRow_nil _ _ _ _
    | 5, _ => exact World.ownsRow_nil _ _ _ _
    | 6, _ => exact World.ownsRow_nil _ _ _ _
  · have k3 : ∀ i, 3 ≤ i → i < 7 → (tM F tV0 i).v.ownBlock = none := fun i h1 h2 => by
      have : i = 3 ∨ i = 4 ∨ i = 5 ∨ i = 6 := by omega
      rcases this with rfl | rfl | rfl | rfl <;> rfl
    have k1 : ∀ g, (tM F tV0 1).v.ownBlock = some g → g ≠ F.gt ∧ g ≠ F.gl := fun g e => ⟨hne g e, fun ee => by have := (hput.at e).2; omega⟩
    have hlg : F.gt ≠ F.gl := by omega
    have three : ∀ i g, i < 7 → (tM F tV0 i).v.ownBlock = some g → (i = 0 ∧ g = F.gt) ∨ (i = 1 ∧ g ≠ F.gt ∧ g ≠ F.gl) ∨ (i = 2 ∧ g = F.gl) := fun i g hi e => by
      by_cases h3 : 3 ≤ i
      · rw [k3 i h3 hi] at e; cases e
      · have : i = 0 ∨ i = 1 ∨ i = 2 := by omega
        rcases this with rfl | rfl | rfl
        · exact .inl ⟨rfl, (Option.some.inj e).symm⟩
        · exact .inr (.inl ⟨rfl, k1 g e⟩)
        · exact .inr (.inr ⟨rfl, (Option.some.inj e).symm⟩)
    have a := three i g hi e1
    have b := three j g hj e2
    omega
theorem stored8 {w : World} {g : Nat} (h : w.heap[g]? = some (.cells zeroS 74 (0, 0))) (v0 v1 v2 v3 v4 v5 v6 v7 : Value) : ((((((((w.setCell ⟨g, 0, none⟩ v0).setCell ⟨g, 1, none⟩ v1).setCell ⟨g, 2, none⟩ v2).setCell ⟨g, 3, none⟩ v3).setCell ⟨g, 4, none⟩ v4).setCell ⟨g, 5, none⟩ v5).setCell ⟨g, 6, none⟩ v6).setCell ⟨g, 7, none⟩ v7).heap[g]? = some (.cells #[v0, v1, v2, v3, v4, v5, v6, v7] 74 (0, 0)) := by
  unfold zeroS at h
  simp [World.setCell, Array.getElem?_modify, h]
theorem stored8_oth {w : World} {g : Nat} (v0 v1 v2 v3 v4 v5 v6 v7 : Value) (b : Nat) (hb : b ≠ g) : ((((((((w.setCell ⟨g, 0, none⟩ v0).setCell ⟨g, 1, none⟩ v1).setCell ⟨g, 2, none⟩ v2).setCell ⟨g, 3, none⟩ v3).setCell ⟨g, 4, none⟩ v4).setCell ⟨g, 5, none⟩ v5).setCell ⟨g, 6, none⟩ v6).setCell ⟨g, 7, none⟩ v7).heap[b]? = w.heap[b]? := by
  simp [World.setCell, Array.getElem?_modify, hb.symm]
/-- The first j numbers, others in the place of one. -/
def gTo (k : Nat) (mid xs : List Int) : Nat → List Int
  | 0 => []
  | j + 1 => gTo k mid xs j ++ (if j = k then mid else [xs[j]?.getD 0])
theorem gTo_le (k : Nat) (mid xs : List Int) : ∀ j, j ≤ k → j ≤ xs.length → gTo k mid xs j = xs.take j
  | 0, _, _ => by simp [gTo]
  | j + 1, h1, h2 => by
    rw [gTo, gTo_le k mid xs j (by omega) (by omega), if_neg (by omega), List.take_succ_eq_append_getElem (by omega)]
    simp [show j < xs.length by omega]
theorem gTo_gt (k : Nat) (mid xs : List Int) : ∀ j, k < j → j ≤ xs.length → gTo k mid xs j = xs.take k ++ (mid ++ (xs.drop (k + 1)).take (j - (k + 1)))
  | 0, h, _ => by omega
  | j + 1, h1, h2 => by
    by_cases e : j = k
    · subst e
      rw [gTo, gTo_le j mid xs j (Nat.le_refl _) (by omega), if_pos rfl]
      simp
    · rw [gTo, gTo_gt k mid xs j (by omega) (by omega), if_neg e]
      have e1 : j + 1 - (k + 1) = (j - (k + 1)) + 1 := by omega
      rw [e1, List.take_succ_eq_append_getElem (by simp; omega)]
      have e2 : (k + 1 + (j - (k + 1))) = j := by omega
      simp [e2, show j < xs.length by omega]
theorem gTo_all {k : Nat} {mid xs : List Int} (h : k < xs.length) : gTo k mid xs xs.length = xs.take k ++ (mid ++ xs.drop (k + 1)) := by
  rw [gTo_gt k mid xs xs.length h (Nat.le_refl _)]
  have e : (xs.drop (k + 1)).take (xs.length - (k + 1)) = xs.drop (k + 1) := List.take_of_length_le (by simp)
  rw [e]
theorem gTo_len {k : Nat} {mid xs : List Int} (hm : mid.length = 2) : ∀ j, (gTo k mid xs j).length ≤ j * 2
  | 0 => by simp [gTo]
  | j + 1 => by
    have := gTo_len (k := k) (mid := mid) (xs := xs) hm j
    rw [gTo, List.length_append]
    split <;> simp <;> omega
theorem ceil_is {b M t : Nat} (hM : 0 < M) (h1 : b ≤ t * M) (h2 : t = 0 ∨ (t - 1) * M < b) : t = ceilN b M := by
  unfold ceilN
  rcases h2 with rfl | h2
  · have : b = 0 := by omega
    subst this
    rw [Nat.div_eq_of_lt (by omega)]
  · obtain ⟨u, rfl⟩ : ∃ u, t = u + 1 := ⟨t - 1, by
      cases t with
      | zero => simp at h1; omega
      | succ n => omega⟩
    rw [Nat.add_sub_cancel] at h2
    rw [Nat.succ_mul] at h1
    symm
    refine (Nat.div_eq_iff hM).2 ⟨?_, ?_⟩
    · rw [Nat.succ_mul]; omega
    · rw [Nat.succ_mul]; omega
/-- While the box is gone through. -/
structure BLs (W : World) (F : TF) (K : Nat) (mid : List Int) (M : Int) (bs : List Int) (j : Nat) (V : TV) (wr : World) : Prop where
  lb : V.lb = gTo K mid bs j
  lc : V.lc = gTo K [-M, -1] (bs.map fun _ => 0) j
  ur : V.ur = .slice none 0 0 ∧ V.nr = 0 ∧ V.cr = []
  ug : V.ug = .slice none 0 0 ∧ V.ng = 0 ∧ V.cg = []
  fam : Fm wr W.heap.size 7 (tM F V)
  bel : Below W.heap.size W wr
theorem Mb.own.base0 {w : World} {B g : Nat} {t : TypeId} {c : List Value} (h : (boxM g t c).own w B) : B ≤ g := (h.at (g := g) rfl).1
def Stq (p : Prop) : Prop := p
theorem stq {p : Prop} (h : Stq p) : p := h
theorem append_fmN {w : World} {ops : Array Oper} {rest : List Oper} {op : Oper} {a : Act} {Q : Exit → Act → World → Prop} (hgd : op.guard = none) (s x : Operand) (sl e : TypeId) (zr : Value) (size bytes : Nat)
    (ho : op.op = .call { callee := .builtin .append, args := #[s, x], argTypes := #[sl, sl] }) (hul : Try.prog.underlying sl = some (.slice e)) (hinf : (Try.prog.info? e).map (fun i => (i.zero, i.size, i.bytes)) = some (some zr, size, bytes)) (hzs : zr.cells.size = size) (hsz : 0 < size) (hby : bytes ≤ 64)
    (B n : Nat) (M : Nat → Mb) (F : Fm w B n M) (k : Nat) (hk : k < n) (X : Mb) (hX : M k = X) (ht : X.t = e) (hz : X.z = size) (hs : a.eval s = X.v) (us : Array Value) (cnt : Nat) (hcnt : us.size = cnt * size) (hu : ∀ u ∈ us, u.oneCell' = true)
    (N : Nat) (hN : w.heap.size = N) (hx : a.eval x = .slice (some ⟨N, 0, none⟩) cnt cnt) (hl : X.m + cnt ≤ 1000000000) (hB : B ≤ w.heap.size)
    (h : ∀ v' w', Fm w' B n (upF M k ⟨v', e, size, X.m + cnt, X.c ++ us.toList⟩) → Below B w w' → wpList Try.prog ops Q rest (a.put op.dst v') w') :
    wpList Try.prog ops Q (op :: rest) a (w.alloc (.cells us e)) := by
  subst hN
  exact append_fm hgd s x sl e zr size bytes ho hul hinf hzs hsz hby B n M F k hk X hX ht hz hs us cnt hcnt hu hx hl hB h
theorem Fm.add2 {w : World} {B n : Nat} {M : Nat → Mb} {x : Mb} (h : Fm w B n M) (hr : x.own w B) (hf : ∀ i g, i < n → x.v.ownBlock = some g → (M i).v.ownBlock ≠ some g) : Fm w B (n + 1) (upF M n x) := by
  refine ⟨fun i hi => ?_, fun i j g hi hj e1 e2 => ?_⟩
  · by_cases e : i = n
    · subst e
      rw [upF_eq]
      exact hr
    · rw [upF_ne e]
      exact h.row i (by omega)
  · by_cases c1 : i = n
    · by_cases c2 : j = n
      · rw [c1, c2]
      · subst c1
        rw [upF_eq] at e1
        rw [upF_ne c2] at e2
        exact absurd e2 (hf j g (by omega) e1)
    · by_cases c2 : j = n
      · subst c2
        rw [upF_eq] at e2
        rw [upF_ne c1] at e1
        exact absurd e1 (hf i g (by omega) e2)
      · rw [upF_ne c1] at e1
        rw [upF_ne c2] at e2
        exact h.apart i j g (by omega) (by omega) e1 e2
def frU (N0 : Nat) (row : Option Nat) (u : Value) : Prop := ∀ g, u.ownBlock = some g → N0 ≤ g ∧ some g ≠ row
def fStr (N N0 : Nat) (row : Option Nat) (con : Int) (l : List Int) : Fact := ⟨fun v W => ∃ u : Value, v = .agg #[u, .int .i64 con] ∧ (⟨u, 3, 1, l.length, ivs l⟩ : Mb).own W N ∧ frU N0 row u, false⟩
theorem fStr_good (N N0 : Nat) (row : Option Nat) (con : Int) (l : List Int) : (fStr N N0 row con l).GoodR (fun a b => a.grownBy b row) false := ⟨fun _ _ _ ⟨u, h1, h2, h3⟩ hb => ⟨u, h1, h2.below hb, h3⟩, fun _ _ _ _ ⟨u, h1, h2, h3⟩ hg => ⟨u, h1, h2.keep (fun g e hlt => hg.block g hlt (h3 g e).2), h3⟩, fun h => by cases h⟩
def fBxR (N N0 : Nat) (row : Option Nat) (con : Int) (l : List Int) : Fact := ⟨fun v W => ∃ (Bk : Nat) (u : Value), v = .slice (some ⟨Bk, 0, none⟩) 1 1 ∧ W.heap[Bk]? = some (.cells #[u, .int .i64 con] 51 (0, 0)) ∧ some Bk ≠ row ∧ (⟨u, 3, 1, l.length, ivs l⟩ : Mb).own W N ∧ frU N0 row u, false⟩
theorem fBxR_good (N N0 : Nat) (row : Option Nat) (con : Int) (l : List Int) : (fBxR N N0 row con l).GoodR (fun a b => a.grownBy b row) false := ⟨fun _ _ _ ⟨Bk, u, h1, h2, h3, h4, h5⟩ hb => ⟨Bk, u, h1, (hb.block Bk (Array.getElem?_eq_some_iff.1 h2).1).trans h2, h3, h4.below hb, h5⟩, fun _ _ _ _ ⟨Bk, u, h1, h2, h3, h4, h5⟩ hg => ⟨Bk, u, h1, (hg.block Bk (Array.getElem?_eq_some_iff.1 h2).1 h3).trans h2, h3, h4.keep (fun g e hlt => hg.block g hlt (h5 g e).2), h5⟩, fun h => by cases h⟩
def fApR (N N0 : Nat) (row : Option Nat) (con : Int) (l : List Int) (nr : Nat) (cr : List Value) : Fact := ⟨fun v W => ∃ u : Value, (⟨v, 51, 2, nr + 1, cr ++ [u, .int .i64 con]⟩ : Mb).own W N ∧ (v.ownBlock = row ∨ ∀ g, v.ownBlock = some g → N0 ≤ g) ∧ (⟨u, 3, 1, l.length, ivs l⟩ : Mb).own W N ∧ frU N0 row u, false⟩
theorem fApR_good (N N0 : Nat) (row : Option Nat) (con : Int) (l : List Int) (nr : Nat) (cr : List Value) (R : World → World → Prop) : (fApR N N0 row con l nr cr).GoodR R true := ⟨fun _ _ _ ⟨u, h1, h2, h3, h4⟩ hb => ⟨u, h1.below hb, h2, h3.below hb, h4⟩, (fun h => by cases h), (fun h => by cases h)⟩
theorem or_is_good (c : Value) (R : World → World → Prop) (b : Bool) : (fIs c).GoodR R b := ⟨fun _ _ _ h _ => h, fun _ _ _ _ h _ => h, fun h => by cases h⟩
theorem or_grown_trans {row : Option Nat} (w w' w'' : World) (h : w.grownBy w' row) (k : w'.grownBy w'' row) : w.grownBy w'' row :=
  ⟨k.os.trans h.os, k.tape.trans h.tape, k.output.trans h.output, Nat.le_trans h.size k.size, fun i hi hne => (k.block i (Nat.lt_of_lt_of_le hi h.size) hne).trans (h.block i hi hne)⟩
theorem or_grown_of {row : Option Nat} (w w' : World) (h : Below w.heap.size w w') : w.grownBy w' row := ⟨h.os, h.tape, h.output, h.size, fun i hi _ => h.block i hi⟩
/-- append(rows, row), in whatever order. -/
theorem wp_append_rw {w : World} {o : Oper} {a : Act} {Kc : Act → World → Prop} {Q : Exit → Act → World → Prop} (s x : Operand) (ho : o.op = .call { callee := .builtin .append, args := #[s, x], argTypes := #[48, 48] })
    (B : Nat) (v : Value) (nr : Nat) (cr : List Value) (hs : a.eval s = v) (hS : (⟨v, 51, 2, nr, cr⟩ : Mb).own w B) (Bk : Nat) (u : Value) (con : Int) (hx : a.eval x = .slice (some ⟨Bk, 0, none⟩) 1 1) (hy : w.heap[Bk]? = some (.cells #[u, .int .i64 con] 51 (0, 0))) (hu : u.oneCell' = true) (h8 : nr ≤ 65536) (hB : B ≤ w.heap.size)
    (h : ∀ v' w', (⟨v', 51, 2, nr + 1, cr ++ [u, .int .i64 con]⟩ : Mb).own w' B → w.grownBy w' v.ownBlock → (v'.ownBlock = v.ownBlock ∨ v'.ownBlock = some w.heap.size) → Kc (a.put o.dst v') w') : o.wp Try.prog a w Kc Q := by
  obtain ⟨i0, hi, hz0, hz1, hz2⟩ := info_parts info_R
  obtain ⟨v', w', hrun, q2, q3, _, q5⟩ := run_append_own_at (P := Try.prog) w B 48 o.type 51 i0 _ 2 32 Try.underlying48 hi hz0 hz1 hz2 rfl (by decide) v nr cr hS ⟨Bk, 0, none⟩ 1 1 [u, .int .i64 con] rfl (fun j y hj => by
    rw [Go.WideShapes.add_plain, Nat.zero_add]
    simp only [World.cell?, hy]
    simpa using hj) (fun y hy2 => by
      simp at hy2
      rcases hy2 with rfl | rfl
      · exact hu
      · rfl) (by unfold maxLen; omega) (by omega) hB
  unfold Oper.wp execOp
  simp only [ho, resolve, invoke, builtin, Sem.run_bind, Sem.run_pure, Result.andThen_ok, List.map_toArray, List.map_cons, List.map_nil, hs, hx, hrun]
  exact h v' w' q2 q3 q5
theorem flatV_congr {f g : Nat → List Value} : ∀ (l : List Nat), (∀ i ∈ l, f i = g i) → l.flatMap f = l.flatMap g
  | [], _ => rfl
  | x :: l, h => by rw [List.flatMap_cons, List.flatMap_cons, h x (by simp), flatV_congr l fun i hi => h i (by simp [hi])]
/-- While rows are stripped. -/
structure RLs (W : World) (F : TF) (lb lc : List Int) (K M : Nat) (rs : List (List Int × Int)) (j : Nat) (V : TV) (wr : World) : Prop where
  lb : V.lb = lb
  lc : V.lc = lc
  nr : V.nr = j
  cr : V.cr = (List.range j).flatMap fun i => [(V.ex i).v, .int .i64 (rs[i]?.getD ([], 0)).2]
  ex : ∀ i, i < j → V.ex i = ⟨(V.ex i).v, 3, 1, (stripR K M (rs[i]?.getD ([], 0))).1.length, ivs (stripR K M (rs[i]?.getD ([], 0))).1⟩
  ug : V.ug = .slice none 0 0 ∧ V.ng = 0 ∧ V.cg = []
  fam : Fm wr W.heap.size (7 + j) (tM F V)
  bel : Below W.heap.size W wr
/-- A row more. -/
theorem RLs.next {W : World} {F : TF} {lb lc : List Int} {K M : Nat} {rs : List (List Int × Int)} {j : Nat} {V : TV} {wr wz : World} {u : Value} {g c : Nat} (h : RLs W F lb lc K M rs j V wr) (hg : wr.grownBy wz V.ur.ownBlock)
    (ha : (⟨.slice (some ⟨g, 0, none⟩) (j + 1) c, 51, 2, j + 1, V.cr ++ [u, .int .i64 (rs[j]?.getD ([], 0)).2]⟩ : Mb).own wz W.heap.size) (ho : some g = V.ur.ownBlock ∨ wr.heap.size ≤ g) (hu : (⟨u, 3, 1, (stripR K M (rs[j]?.getD ([], 0))).1.length, ivs (stripR K M (rs[j]?.getD ([], 0))).1⟩ : Mb).own wz W.heap.size) (hf : frU wr.heap.size V.ur.ownBlock u) :
    ∃ V', RLs W F lb lc K M rs (j + 1) V' (wz.setCell ⟨F.gt, 1, none⟩ (.slice (some ⟨g, 0, none⟩) (j + 1) c)) := by
  have h1 := h.fam.put (k := 5) (x := ⟨.slice (some ⟨g, 0, none⟩) (j + 1) c, 51, 2, j + 1, V.cr ++ [u, .int .i64 (rs[j]?.getD ([], 0)).2]⟩) (by omega) hg ha (by
    rcases ho with ho | ho
    · exact .inl ho
    · exact .inr fun g' e => by
        have : g = g' := by simpa [Value.ownBlock] using e
        omega)
  have h2 := h1.store (k := 0) (g := F.gt) (i := 1) (x := .slice (some ⟨g, 0, none⟩) (j + 1) c) (by omega) rfl
  have h3 := h2.congr fun i _ => tM_row F V (.slice (some ⟨g, 0, none⟩) (j + 1) c) [u, .int .i64 (rs[j]?.getD ([], 0)).2] (j + 1) i
  have hgt : W.heap.size ≤ F.gt := (h.fam.row 0 (by omega) : (boxM F.gt 74 (tCs F V)).own wr W.heap.size).base0
  have hgtl : F.gt < wr.heap.size := (tM_cells h.fam (by omega) 0).2.2
  have hu2 := hu.keep (w1 := wz.setCell ⟨F.gt, 1, none⟩ (.slice (some ⟨g, 0, none⟩) (j + 1) c)) fun x e _ => heap_setCell_other _ _ _ _ (by have := (hf x e).1; simp; omega)
  have h4 := h3.add2 hu2 fun i x hi e1 e2 => by
    have hx := hf x e1
    by_cases e5 : i = 5
    · subst e5
      have e6 : g = x := by
        have e7 : (Value.slice (some ⟨g, 0, none⟩) (j + 1) c).ownBlock = some x := e2
        simpa [Value.ownBlock] using e7
      subst e6
      rcases ha.2 with ⟨q1, _⟩ | ⟨g1, cap1, cur1, q1, _, q3, _⟩
      · cases q1
      · rcases hu.2 with ⟨q4, _⟩ | ⟨g2, cap2, cur2, q4, _, q6, _⟩
        · simp only at q4; rw [q4] at e1; cases e1
        · simp only [Value.slice.injEq, Option.some.injEq, Addr.mk.injEq] at q1
          simp only at q4
          rw [q4] at e1
          have q7 : g2 = g := by simpa [Value.ownBlock] using e1
          rw [← q1.1.1] at q3
          rw [q7, q3] at q6
          simp only [Option.some.injEq, Obj.cells.injEq] at q6
          exact absurd q6.2.1 (by decide)
    · have e8 : (tM F V i).v.ownBlock = some x ∨ i = 0 := by
        by_cases e0 : i = 0
        · exact .inr e0
        · left
          have e9 := tM_row F V (.slice (some ⟨g, 0, none⟩) (j + 1) c) [u, .int .i64 (rs[j]?.getD ([], 0)).2] (j + 1) i
          rw [e9, upF_ne e0, upF_ne e5] at e2
          exact e2
      rcases e8 with e8 | e8
      · have := ((h.fam.row i (by omega)).at e8).2
        omega
      · subst e8
        have e10 : F.gt = x := Option.some.inj e2
        omega
  have h5 := h4.congr fun i _ => tM_ex F { V with ur := .slice (some ⟨g, 0, none⟩) (j + 1) c, nr := j + 1, cr := V.cr ++ [u, .int .i64 (rs[j]?.getD ([], 0)).2] } j ⟨u, 3, 1, (stripR K M (rs[j]?.getD ([], 0))).1.length, ivs (stripR K M (rs[j]?.getD ([], 0))).1⟩ i
  refine ⟨{ V with ur := .slice (some ⟨g, 0, none⟩) (j + 1) c, nr := j + 1, cr := V.cr ++ [u, .int .i64 (rs[j]?.getD ([], 0)).2], ex := upF V.ex j ⟨u, 3, 1, (stripR K M (rs[j]?.getD ([], 0))).1.length, ivs (stripR K M (rs[j]?.getD ([], 0))).1⟩ }, h.lb, h.lc, rfl, ?_, fun i hi => ?_, h.ug, ?_, ?_⟩
  rotate_left 2
  · exact h5
  rotate_left 1
  · show V.cr ++ _ = _
    rw [List.range_succ, List.flatMap_append, h.cr]
    congr 1
    · refine flatV_congr _ fun i hi => ?_
      have hi2 : i < j := by simpa using hi
      simp only [upF_ne (show i ≠ j by omega)]
    · simp [upF]
  · by_cases e : i = j
    · subst e
      simp only [upF_eq]
    · simp only [upF_ne e]
      exact h.ex i (by omega)
  · refine (h.bel.grown hg h.bel.size fun x e => ?_).setCell (p := ⟨F.gt, 1, none⟩) hgt _
    exact ((h.fam.row 5 (by omega)).at e).1
theorem RLs.below {W : World} {F : TF} {lb lc : List Int} {K M : Nat} {rs : List (List Int × Int)} {j : Nat} {V : TV} {wr wz : World} (h : RLs W F lb lc K M rs j V wr) (hb : Below wr.heap.size wr wz) : RLs W F lb lc K M rs j V wz := ⟨h.lb, h.lc, h.nr, h.cr, h.ex, h.ug, h.fam.below hb, bl_on h.bel hb⟩
theorem RLs.keep {W : World} {F : TF} {lb lc : List Int} {K M : Nat} {rs : List (List Int × Int)} {j : Nat} {V : TV} {wr wz : World} (h : RLs W F lb lc K M rs j V wr) (hg : wr.grownBy wz V.ur.ownBlock) : wz.cell? ⟨F.gt, 1, none⟩ = some V.ur ∧ wz.frozen? ⟨F.gt, 1, none⟩ = false ∧ F.gt < wz.heap.size ∧ Below W.heap.size W wz := by
  obtain ⟨c1, c2, c3⟩ := tM_cells h.fam (by omega) 1
  have hne : some F.gt ≠ V.ur.ownBlock := fun e => by
    have := h.fam.apart 0 5 F.gt (by omega) (by omega) rfl e.symm
    omega
  have hk := hg.block F.gt c3 hne
  refine ⟨(World.cell?_of_block hk).trans c1, ?_, Nat.lt_of_lt_of_le c3 hg.size, h.bel.grown hg h.bel.size fun x e => ((h.fam.row 5 (by omega)).at e).1⟩
  obtain ⟨cur, q1, _⟩ := boxM.blk (h.fam.row 0 (by omega) : (boxM F.gt 74 (tCs F V)).own wr W.heap.size)
  simp [World.frozen?, hk, q1]
theorem own_base {w : World} {B B' : Nat} {u : Value} {l : List Int} (h : w.ownsRow B' 3 1 u l.length (ivs l)) (hB : B ≤ B') : (⟨u, 3, 1, l.length, ivs l⟩ : Mb).own w B := by
  refine ⟨h.1, ?_⟩
  rcases h.2 with h1 | ⟨g, cap, cur, e1, e2, e3⟩
  · exact .inl h1
  · exact .inr ⟨g, cap, cur, e1, by omega, e3⟩
theorem fr_of {W : World} {F : TF} {lb lc : List Int} {K M : Nat} {rs : List (List Int × Int)} {j : Nat} {V : TV} {wr w2 : World} {N : Nat} {u : Value} {l : List Int} (h : w2.ownsRow N 3 1 u l.length (ivs l)) (hN : wr.heap.size ≤ N) (hR : RLs W F lb lc K M rs j V wr) : frU wr.heap.size V.ur.ownBlock u := fun g e => by
  have h1 : N ≤ g := by
    rcases h.2 with ⟨q, _⟩ | ⟨g', cap, cur, q, q2, _⟩
    · rw [q] at e; cases e
    · rw [q] at e
      have : g' = g := by simpa [Value.ownBlock] using e
      omega
  refine ⟨by omega, fun e2 => ?_⟩
  have := ((hR.fam.row 5 (by omega)).at e2.symm).2
  omega
/-- While gets are stripped. -/
structure GLs (W : World) (F : TF) (V0 : TV) (rl K M : Nat) (gs : List Acc) (j : Nat) (V : TV) (wr : World) : Prop where
  ub : V.ub = V0.ub ∧ V.lb = V0.lb
  uc : V.uc = V0.uc ∧ V.lc = V0.lc
  ur : V.ur = V0.ur ∧ V.nr = V0.nr ∧ V.cr = V0.cr
  ex0 : ∀ i, i < rl → V.ex i = V0.ex i
  ng : V.ng = j
  cg : V.cg = (List.range j).flatMap fun i => [.int .i64 (gs[i]?.getD accD).1, (V.ex (rl + i)).v, .int .i64 (gs[i]?.getD accD).2.2]
  ex : ∀ i, i < j → V.ex (rl + i) = ⟨(V.ex (rl + i)).v, 3, 1, (stripR K M (gs[i]?.getD accD).2).1.length, ivs (stripR K M (gs[i]?.getD accD).2).1⟩
  fam : Fm wr W.heap.size (7 + (rl + j)) (tM F V)
  bel : Below W.heap.size W wr
/-- A get more. -/
theorem GLs.next {W : World} {F : TF} {V0 : TV} {rl K M : Nat} {gs : List Acc} {j : Nat} {V : TV} {wr wz : World} {u : Value} {g c : Nat} (h : GLs W F V0 rl K M gs j V wr) (hg : wr.grownBy wz V.ug.ownBlock)
    (ha : (⟨.slice (some ⟨g, 0, none⟩) (j + 1) c, 71, 3, j + 1, V.cg ++ [.int .i64 (gs[j]?.getD accD).1, u, .int .i64 (gs[j]?.getD accD).2.2]⟩ : Mb).own wz W.heap.size) (ho : some g = V.ug.ownBlock ∨ wr.heap.size ≤ g) (hu : (⟨u, 3, 1, (stripR K M (gs[j]?.getD accD).2).1.length, ivs (stripR K M (gs[j]?.getD accD).2).1⟩ : Mb).own wz W.heap.size) (hf : frU wr.heap.size V.ug.ownBlock u) :
    ∃ V', GLs W F V0 rl K M gs (j + 1) V' (wz.setCell ⟨F.gt, 7, none⟩ (.slice (some ⟨g, 0, none⟩) (j + 1) c)) := by
  have h1 := h.fam.put (k := 6) (x := ⟨.slice (some ⟨g, 0, none⟩) (j + 1) c, 71, 3, j + 1, V.cg ++ [.int .i64 (gs[j]?.getD accD).1, u, .int .i64 (gs[j]?.getD accD).2.2]⟩) (by omega) hg ha (by
    rcases ho with ho | ho
    · exact .inl ho
    · exact .inr fun g' e => by
        have : g = g' := by simpa [Value.ownBlock] using e
        omega)
  have h2 := h1.store (k := 0) (g := F.gt) (i := 7) (x := .slice (some ⟨g, 0, none⟩) (j + 1) c) (by omega) rfl
  have h3 := h2.congr fun i _ => tM_get F V (.slice (some ⟨g, 0, none⟩) (j + 1) c) [.int .i64 (gs[j]?.getD accD).1, u, .int .i64 (gs[j]?.getD accD).2.2] (j + 1) i
  have hgt : W.heap.size ≤ F.gt := (h.fam.row 0 (by omega) : (boxM F.gt 74 (tCs F V)).own wr W.heap.size).base0
  have hgtl : F.gt < wr.heap.size := (tM_cells h.fam (by omega) 0).2.2
  have hu2 := hu.keep (w1 := wz.setCell ⟨F.gt, 7, none⟩ (.slice (some ⟨g, 0, none⟩) (j + 1) c)) fun x e _ => heap_setCell_other _ _ _ _ (by have := (hf x e).1; simp; omega)
  have h4 := h3.add2 hu2 fun i x hi e1 e2 => by
    have hx := hf x e1
    by_cases e5 : i = 6
    · subst e5
      have e6 : g = x := by
        have e7 : (Value.slice (some ⟨g, 0, none⟩) (j + 1) c).ownBlock = some x := e2
        simpa [Value.ownBlock] using e7
      subst e6
      rcases ha.2 with ⟨q1, _⟩ | ⟨g1, cap1, cur1, q1, _, q3, _⟩
      · cases q1
      · rcases hu.2 with ⟨q4, _⟩ | ⟨g2, cap2, cur2, q4, _, q6, _⟩
        · simp only at q4; rw [q4] at e1; cases e1
        · simp only [Value.slice.injEq, Option.some.injEq, Addr.mk.injEq] at q1
          simp only at q4
          rw [q4] at e1
          have q7 : g2 = g := by simpa [Value.ownBlock] using e1
          rw [← q1.1.1] at q3
          rw [q7, q3] at q6
          simp only [Option.some.injEq, Obj.cells.injEq] at q6
          exact absurd q6.2.1 (by decide)
    · have e8 : (tM F V i).v.ownBlock = some x ∨ i = 0 := by
        by_cases e0 : i = 0
        · exact .inr e0
        · left
          have e9 := tM_get F V (.slice (some ⟨g, 0, none⟩) (j + 1) c) [.int .i64 (gs[j]?.getD accD).1, u, .int .i64 (gs[j]?.getD accD).2.2] (j + 1) i
          rw [e9, upF_ne e0, upF_ne e5] at e2
          exact e2
      rcases e8 with e8 | e8
      · have := ((h.fam.row i (by omega)).at e8).2
        omega
      · subst e8
        have e10 : F.gt = x := Option.some.inj e2
        omega
  have h5 := h4.congr fun i _ => tM_ex F { V with ug := .slice (some ⟨g, 0, none⟩) (j + 1) c, ng := j + 1, cg := V.cg ++ [.int .i64 (gs[j]?.getD accD).1, u, .int .i64 (gs[j]?.getD accD).2.2] } (rl + j) ⟨u, 3, 1, (stripR K M (gs[j]?.getD accD).2).1.length, ivs (stripR K M (gs[j]?.getD accD).2).1⟩ i
  refine ⟨{ V with ug := .slice (some ⟨g, 0, none⟩) (j + 1) c, ng := j + 1, cg := V.cg ++ [.int .i64 (gs[j]?.getD accD).1, u, .int .i64 (gs[j]?.getD accD).2.2], ex := upF V.ex (rl + j) ⟨u, 3, 1, (stripR K M (gs[j]?.getD accD).2).1.length, ivs (stripR K M (gs[j]?.getD accD).2).1⟩ }, h.ub, h.uc, h.ur, fun i hi => ?_, rfl, ?_, fun i hi => ?_, ?_, ?_⟩
  · simp only [upF_ne (show i ≠ rl + j by omega)]
    exact h.ex0 i hi
  · show V.cg ++ _ = _
    rw [List.range_succ, List.flatMap_append, h.cg]
    congr 1
    · refine flatV_congr _ fun i hi => ?_
      have hi2 : i < j := by simpa using hi
      simp only [upF_ne (show rl + i ≠ rl + j by omega)]
    · simp [upF]
  · by_cases e : i = j
    · subst e
      simp only [upF_eq]
    · simp only [upF_ne (show rl + i ≠ rl + j by omega)]
      exact h.ex i (by omega)
  · exact h5
  · refine (h.bel.grown hg h.bel.size fun x e => ?_).setCell (p := ⟨F.gt, 7, none⟩) hgt _
    exact ((h.fam.row 6 (by omega)).at e).1
theorem info_Ac : (Try.prog.info? 71).map (fun i => (i.zero, i.size, i.bytes)) = some (some (.agg #[.int .i64 0, .slice none 0 0, .int .i64 0]), 3, 40) := by kernel_rfl
def fAcG (N N0 : Nat) (row : Option Nat) (arr con : Int) (l : List Int) : Fact := ⟨fun v W => ∃ u : Value, v = .agg #[.int .i64 arr, u, .int .i64 con] ∧ (⟨u, 3, 1, l.length, ivs l⟩ : Mb).own W N ∧ frU N0 row u, false⟩
theorem fAcG_good (N N0 : Nat) (row : Option Nat) (arr con : Int) (l : List Int) : (fAcG N N0 row arr con l).GoodR (fun a b => a.grownBy b row) false := ⟨fun _ _ _ ⟨u, h1, h2, h3⟩ hb => ⟨u, h1, h2.below hb, h3⟩, fun _ _ _ _ ⟨u, h1, h2, h3⟩ hg => ⟨u, h1, h2.keep (fun g e hlt => hg.block g hlt (h3 g e).2), h3⟩, fun h => by cases h⟩
def fBxA (N N0 : Nat) (row : Option Nat) (arr con : Int) (l : List Int) : Fact := ⟨fun v W => ∃ (Bk : Nat) (u : Value), v = .slice (some ⟨Bk, 0, none⟩) 1 1 ∧ W.heap[Bk]? = some (.cells #[.int .i64 arr, u, .int .i64 con] 71 (0, 0)) ∧ some Bk ≠ row ∧ (⟨u, 3, 1, l.length, ivs l⟩ : Mb).own W N ∧ frU N0 row u, false⟩
theorem fBxA_good (N N0 : Nat) (row : Option Nat) (arr con : Int) (l : List Int) : (fBxA N N0 row arr con l).GoodR (fun a b => a.grownBy b row) false := ⟨fun _ _ _ ⟨Bk, u, h1, h2, h3, h4, h5⟩ hb => ⟨Bk, u, h1, (hb.block Bk (Array.getElem?_eq_some_iff.1 h2).1).trans h2, h3, h4.below hb, h5⟩, fun _ _ _ _ ⟨Bk, u, h1, h2, h3, h4, h5⟩ hg => ⟨Bk, u, h1, (hg.block Bk (Array.getElem?_eq_some_iff.1 h2).1 h3).trans h2, h3, h4.keep (fun g e hlt => hg.block g hlt (h5 g e).2), h5⟩, fun h => by cases h⟩
def fApA (N N0 : Nat) (row : Option Nat) (arr con : Int) (l : List Int) (nr : Nat) (cr : List Value) : Fact := ⟨fun v W => ∃ u : Value, (⟨v, 71, 3, nr + 1, cr ++ [.int .i64 arr, u, .int .i64 con]⟩ : Mb).own W N ∧ (v.ownBlock = row ∨ ∀ g, v.ownBlock = some g → N0 ≤ g) ∧ (⟨u, 3, 1, l.length, ivs l⟩ : Mb).own W N ∧ frU N0 row u, false⟩
theorem fApA_good (N N0 : Nat) (row : Option Nat) (arr con : Int) (l : List Int) (nr : Nat) (cr : List Value) (R : World → World → Prop) : (fApA N N0 row arr con l nr cr).GoodR R true := ⟨fun _ _ _ ⟨u, h1, h2, h3, h4⟩ hb => ⟨u, h1.below hb, h2, h3.below hb, h4⟩, (fun h => by cases h), (fun h => by cases h)⟩
/-- append(gets, get), in whatever order. -/
theorem wp_append_ac {w : World} {o : Oper} {a : Act} {Kc : Act → World → Prop} {Q : Exit → Act → World → Prop} (s x : Operand) (ho : o.op = .call { callee := .builtin .append, args := #[s, x], argTypes := #[72, 72] })
    (B : Nat) (v : Value) (nr : Nat) (cr : List Value) (hs : a.eval s = v) (hS : (⟨v, 71, 3, nr, cr⟩ : Mb).own w B) (Bk : Nat) (u : Value) (arr con : Int) (hx : a.eval x = .slice (some ⟨Bk, 0, none⟩) 1 1) (hy : w.heap[Bk]? = some (.cells #[.int .i64 arr, u, .int .i64 con] 71 (0, 0))) (hu : u.oneCell' = true) (h8 : nr ≤ 65536) (hB : B ≤ w.heap.size)
    (h : ∀ v' w', (⟨v', 71, 3, nr + 1, cr ++ [.int .i64 arr, u, .int .i64 con]⟩ : Mb).own w' B → w.grownBy w' v.ownBlock → (v'.ownBlock = v.ownBlock ∨ v'.ownBlock = some w.heap.size) → Kc (a.put o.dst v') w') : o.wp Try.prog a w Kc Q := by
  obtain ⟨i0, hi, hz0, hz1, hz2⟩ := info_parts info_Ac
  obtain ⟨v', w', hrun, q2, q3, _, q5⟩ := run_append_own_at (P := Try.prog) w B 72 o.type 71 i0 _ 3 40 Try.underlying72 hi hz0 hz1 hz2 rfl (by decide) v nr cr hS ⟨Bk, 0, none⟩ 1 1 [.int .i64 arr, u, .int .i64 con] rfl (fun j y hj => by
    rw [Go.WideShapes.add_plain, Nat.zero_add]
    simp only [World.cell?, hy]
    simpa using hj) (fun y hy2 => by
      simp at hy2
      rcases hy2 with rfl | rfl | rfl
      · rfl
      · exact hu
      · rfl) (by unfold maxLen; omega) (by omega) hB
  unfold Oper.wp execOp
  simp only [ho, resolve, invoke, builtin, Sem.run_bind, Sem.run_pure, Result.andThen_ok, List.map_toArray, List.map_cons, List.map_nil, hs, hx, hrun]
  exact h v' w' q2 q3 q5
theorem GLs.below {W : World} {F : TF} {V0 : TV} {rl K M : Nat} {gs : List Acc} {j : Nat} {V : TV} {wr wz : World} (h : GLs W F V0 rl K M gs j V wr) (hb : Below wr.heap.size wr wz) : GLs W F V0 rl K M gs j V wz := ⟨h.ub, h.uc, h.ur, h.ex0, h.ng, h.cg, h.ex, h.fam.below hb, bl_on h.bel hb⟩
theorem GLs.keep {W : World} {F : TF} {V0 : TV} {rl K M : Nat} {gs : List Acc} {j : Nat} {V : TV} {wr wz : World} (h : GLs W F V0 rl K M gs j V wr) (hg : wr.grownBy wz V.ug.ownBlock) : wz.cell? ⟨F.gt, 7, none⟩ = some V.ug ∧ wz.frozen? ⟨F.gt, 7, none⟩ = false ∧ F.gt < wz.heap.size ∧ Below W.heap.size W wz := by
  obtain ⟨c1, c2, c3⟩ := tM_cells h.fam (by omega) 7
  have hne : some F.gt ≠ V.ug.ownBlock := fun e => by
    have := h.fam.apart 0 6 F.gt (by omega) (by omega) rfl e.symm
    omega
  have hk := hg.block F.gt c3 hne
  refine ⟨(World.cell?_of_block hk).trans c1, ?_, Nat.lt_of_lt_of_le c3 hg.size, h.bel.grown hg h.bel.size fun x e => ((h.fam.row 6 (by omega)).at e).1⟩
  obtain ⟨cur, q1, _⟩ := boxM.blk (h.fam.row 0 (by omega) : (boxM F.gt 74 (tCs F V)).own wr W.heap.size)
  simp [World.frozen?, hk, q1]
theorem fr_ofG {W : World} {F : TF} {V0 : TV} {rl K M : Nat} {gs : List Acc} {j : Nat} {V : TV} {wr w2 : World} {N : Nat} {u : Value} {l : List Int} (h : w2.ownsRow N 3 1 u l.length (ivs l)) (hN : wr.heap.size ≤ N) (hR : GLs W F V0 rl K M gs j V wr) : frU wr.heap.size V.ug.ownBlock u := fun g e => by
  have h1 : N ≤ g := by
    rcases h.2 with ⟨q, _⟩ | ⟨g', cap, cur, q, q2, _⟩
    · rw [q] at e; cases e
    · rw [q] at e
      have : g' = g := by simpa [Value.ownBlock] using e
      omega
  refine ⟨by omega, fun e2 => ?_⟩
  have := ((hR.fam.row 6 (by omega)).at e2.symm).2
  omega
theorem takes_few (k : Int) : takesV k ≤ 16 := by
  unfold takesV
  repeat' split
  all_goals omega
end Go.Proofs.Ytmmigbkilbfheaa.V
namespace Go.Proofs.Ytmmigbkilbfheaa.V
open Go Go.RowKit Go.Shelf
set_option linter.unusedVariables false

theorem Fm.keepB {w w1 : World} {B n : Nat} {M : Nat → Mb} (h : Fm w B n M) (hk : ∀ g, B ≤ g → g < w.heap.size → w1.heap[g]? = w.heap[g]?) : Fm w1 B n M :=
  ⟨fun i hi => (h.row i hi).keep fun g e hlt => hk g ((h.row i hi).at e).1 hlt, h.apart⟩
/-- What the family is a statement of. -/
structure TE (F : TF) (V : TV) (n : Nat) (t : Stm) : Prop where
  n7 : 7 ≤ n
  lb : V.lb = t.box
  put : F.lp = t.put.2.1 ∧ F.arr = t.put.1 ∧ F.con = t.put.2.2
  kd : F.kd = t.kind ∧ F.va = t.val
  rows : ∃ vs : Nat → Value, V.nr = t.rows.length ∧ V.cr = ((List.range t.rows.length).flatMap fun j => [vs j, .int .i64 (t.rows[j]?.getD ([], 0)).2]) ∧ ∀ j, j < t.rows.length → ∃ i, i < n ∧ tM F V i = ⟨vs j, 3, 1, (t.rows[j]?.getD ([], 0)).1.length, ivs (t.rows[j]?.getD ([], 0)).1⟩
  gets : ∃ vs : Nat → Value, V.ng = t.gets.length ∧ V.cg = ((List.range t.gets.length).flatMap fun j => [.int .i64 (t.gets[j]?.getD accD).1, vs j, .int .i64 (t.gets[j]?.getD accD).2.2]) ∧ ∀ j, j < t.gets.length → ∃ i, i < n ∧ tM F V i = ⟨vs j, 3, 1, (t.gets[j]?.getD accD).2.1.length, ivs (t.gets[j]?.getD accD).2.1⟩
  bbox : t.box.length ≤ 1000000000 ∧ ∀ x ∈ t.box, B64 x
  brows : t.rows.length ≤ 1000000000 ∧ ∀ r ∈ t.rows, B64 r.2 ∧ r.1.length ≤ 1000000000 ∧ ∀ c ∈ r.1, B64 c
  bgets : t.gets.length ≤ 1000000000 ∧ ∀ r ∈ t.gets, B64 r.1 ∧ B64 r.2.2 ∧ r.2.1.length ≤ 1000000000 ∧ ∀ c ∈ r.2.1, B64 c
  bput : B64 t.put.1 ∧ B64 t.put.2.2 ∧ t.put.2.1.length ≤ 1000000000 ∧ ∀ c ∈ t.put.2.1, B64 c
  bkd : B64 t.kind ∧ B64 t.val
/-- The words of it. -/
structure TWd (F : TF) (V : TV) (sw : SW) : Prop where
  ub : V.ub = .slice sw.ba sw.bl sw.bc
  ur : V.ur = .slice sw.ra sw.rl sw.rc
  kd : F.kd = sw.kd
  va : F.va = sw.va
  arr : F.arr = sw.pu.arr
  up : F.up = .slice sw.pu.ca sw.pu.cl sw.pu.cc
  con : F.con = sw.pu.con
  ug : V.ug = .slice sw.ga sw.gl sw.gc
theorem slice_inj {a a' : Option Addr} {l l' c c' : Nat} (h : Value.slice a l c = .slice a' l' c') : a = a' ∧ l = l' ∧ c = c' := by
  simp only [Value.slice.injEq] at h
  exact h
theorem TE.parts {F : TF} {V : TV} {n : Nat} {t : Stm} (h : TE F V n t) {w : World} {B : Nat} (hf : Fm w B n (tM F V)) :
    (∃ a c, V.ub = .slice a t.box.length c ∧ Lst w a t.box.length c t.box) ∧ (∃ a c, V.ur = .slice a t.rows.length c ∧ Rws w a t.rows.length t.rows) ∧ (∃ a c, V.ug = .slice a t.gets.length c ∧ Accs w a t.gets.length t.gets) ∧ (∃ a c, F.up = .slice a t.put.2.1.length c ∧ Lst w a t.put.2.1.length c t.put.2.1) := by
  have h7 := h.n7
  refine ⟨?_, ?_, ?_, ?_⟩
  · have h3 : (⟨V.ub, 3, 1, V.lb.length, ivs V.lb⟩ : Mb).own w B := hf.row 3 (by omega)
    rw [h.lb] at h3
    exact ints_of_mb h3 h.bbox.2 (by have := h.bbox.1; omega)
  · obtain ⟨vs, e1, e2, e3⟩ := h.rows
    have h5 : (⟨V.ur, 51, 2, V.nr, V.cr⟩ : Mb).own w B := hf.row 5 (by omega)
    rw [e1, e2] at h5
    refine rws_of_mb vs h5 (fun j hj => ?_) h.brows.2 h.brows.1
    obtain ⟨i, hi, e⟩ := e3 j hj
    rw [← e]
    exact hf.row i hi
  · obtain ⟨vs, e1, e2, e3⟩ := h.gets
    have h5 : (⟨V.ug, 71, 3, V.ng, V.cg⟩ : Mb).own w B := hf.row 6 (by omega)
    rw [e1, e2] at h5
    refine accs_of_mb vs h5 (fun j hj => ?_) h.bgets.2 h.bgets.1
    obtain ⟨i, hi, e⟩ := e3 j hj
    rw [← e]
    exact hf.row i hi
  · have h3 : (⟨F.up, 3, 1, F.lp.length, ivs F.lp⟩ : Mb).own w B := hf.row 1 (by omega)
    rw [h.put.1] at h3
    exact ints_of_mb h3 h.bput.2.2.2 (by have := h.bput.2.2.1; omega)
theorem TE.words {F : TF} {V : TV} {n : Nat} {t : Stm} (h : TE F V n t) {w : World} {B : Nat} (hf : Fm w B n (tM F V)) : ∃ sw : SW, TWd F V sw := by
  obtain ⟨⟨a1, c1, e1, _⟩, ⟨a2, c2, e2, _⟩, ⟨a3, c3, e3, _⟩, ⟨a4, c4, e4, _⟩⟩ := h.parts hf
  exact ⟨⟨a1, _, c1, a2, _, c2, F.kd, F.va, ⟨F.arr, a4, _, c4, F.con⟩, a3, _, c3⟩, e1, e2, rfl, rfl, rfl, e4, rfl, e3⟩
theorem TE.sg {F : TF} {V : TV} {n : Nat} {t : Stm} (h : TE F V n t) {sw : SW} (hw : TWd F V sw) {w : World} {B : Nat} (hf : Fm w B n (tM F V)) : SG w sw t := by
  obtain ⟨⟨a1, c1, e1, p1⟩, ⟨a2, c2, e2, p2⟩, ⟨a3, c3, e3, p3⟩, ⟨a4, c4, e4, p4⟩⟩ := h.parts hf
  obtain ⟨x1, x2, x3⟩ := slice_inj (hw.ub.symm.trans e1)
  obtain ⟨y1, y2, y3⟩ := slice_inj (hw.ur.symm.trans e2)
  obtain ⟨z1, z2, z3⟩ := slice_inj (hw.ug.symm.trans e3)
  obtain ⟨u1, u2, u3⟩ := slice_inj (hw.up.symm.trans e4)
  refine ⟨?_, ?_, hw.kd.symm.trans h.kd.1, hw.va.symm.trans h.kd.2, ⟨hw.arr.symm.trans h.put.2.1, hw.con.symm.trans h.put.2.2, ?_, ?_, h.bput.1, h.bput.2.1⟩, ?_, h.bkd⟩
  · rw [x1, x2, x3]; exact p1
  · rw [y1, y2]; exact p2
  · rw [u1, u2]; exact p4.1
  · rw [u1, u2, u3]; exact p4.2
  · rw [z1, z2]; exact p3
theorem TWd.cells {F : TF} {V : TV} {sw : SW} (h : TWd F V sw) : tCs F V = sw.cs.toList := by
  unfold tCs SW.cs
  rw [h.ub, h.ur, h.kd, h.va, h.arr, h.up, h.con, h.ug]
theorem stripR_bd {K M : Nat} {r : List Int × Int} (hK : K < r.1.length) (hl : r.1.length ≤ 4) (hM : M ≤ 4096) (hc : ∀ c ∈ r.1, -1048576 ≤ c ∧ c ≤ 1048576) : (stripR K M r).1.length ≤ 5 ∧ ∀ c ∈ (stripR K M r).1, B64 c := by
  have hk : r.1[K]?.getD 0 ∈ r.1 := by simp [hK]
  have hb := hc _ hk
  unfold stripR
  refine ⟨by simp; omega, fun c h => ?_⟩
  simp only [List.mem_append, List.mem_cons] at h
  unfold B64
  rcases h with h | h | h | h
  · have := hc c (List.mem_of_mem_take h); omega
  · have h1 : (M : Int) ≤ 4096 := by omega
    have h0 : (0 : Int) ≤ M := by omega
    have h2 : r.1[K]?.getD 0 * (M : Int) ≤ 1048576 * 4096 := by
      have a1 : r.1[K]?.getD 0 * (M : Int) ≤ 1048576 * (M : Int) := Int.mul_le_mul_of_nonneg_right hb.2 h0
      have a2 : (1048576 : Int) * M ≤ 1048576 * 4096 := Int.mul_le_mul_of_nonneg_left h1 (by omega)
      omega
    have h3 : -(1048576 * 4096) ≤ r.1[K]?.getD 0 * (M : Int) := by
      have a1 : -1048576 * (M : Int) ≤ r.1[K]?.getD 0 * (M : Int) := Int.mul_le_mul_of_nonneg_right hb.1 h0
      have a2 : (1048576 : Int) * M ≤ 1048576 * 4096 := Int.mul_le_mul_of_nonneg_left h1 (by omega)
      omega
    omega
  · omega
  · have := hc c (List.mem_of_mem_drop h); omega
/-- All has been gone through: the family is the statement in strips. -/
theorem te_of {W : World} {F : TF} {V0 V1 V : TV} {K M : Nat} {s : Stm} {nz : Nat} {LB LC : List Int} {wr0 wr : World} {mid : List Int} {ur uc : Value}
    (hr : RLs W F LB LC K M s.rows s.rows.length V0 wr0) (hv : V1 = { V0 with ur := ur, nr := V0.nr + 1, cr := V0.cr ++ [uc, .int .i64 F.cb] }) (huc : V0.uc = uc) (hg : GLs W F V1 s.rows.length K M s.gets s.gets.length V wr)
    (hLB : LB = gTo K mid s.box s.box.length) (hLC : LC = gTo K [-(M : Int), -1] (s.box.map fun _ => 0) s.box.length) (hmid : mid = [(ceilN (s.box[K]?.getD 0).toNat M : Int), (M : Int)]) (hcb : F.cb = s.box[K]?.getD 0 - 1)
    (hlp : F.lp = (stripR K M s.put.2).1) (harr : F.arr = s.put.1 ∧ F.con = s.put.2.2) (hkd : F.kd = s.kind ∧ F.va = s.val) (hK : K < s.box.length) (hM : 1 ≤ M ∧ M ≤ 4096) (hok : StmOk nz s) (hn : nz ≤ 9223372036854775807) (hbd : B64 s.kind ∧ B64 s.val) :
    TE F V (7 + (s.rows.length + s.gets.length)) (stripS s K M) := by
  have hp := ptE_ok hok.pt
  have hgl : s.gets.length ≤ 16 := by have h1 := hok.takes; have h3 := takes_few s.kind; omega
  have hbK : 0 ≤ s.box[K]?.getD 0 ∧ s.box[K]?.getD 0 ≤ 4096 := hp.dims _ (by simp [hK])
  have hLB2 : LB = s.box.take K ++ (ceilN (s.box[K]?.getD 0).toNat M : Int) :: (M : Int) :: s.box.drop (K + 1) := by
    rw [hLB, gTo_all hK, hmid]; rfl
  have hLC2 : LC = (lastR (s.box.take K) (s.box.drop (K + 1)) (s.box[K]?.getD 0) M).1 := by
    have e : s.box.length = (s.box.map fun _ => (0 : Int)).length := by simp
    rw [hLC, e, gTo_all (by simpa using hK)]
    unfold lastR
    simp [List.map_take, List.map_drop]
  have hrow : ∀ j, j < s.rows.length → (stripS s K M).rows[j]?.getD ([], 0) = stripR K M (s.rows[j]?.getD ([], 0)) := fun j hj => by
    unfold stripS
    simp only
    rw [List.getElem?_append_left (by simpa using hj)]
    simp [hj]
  have hrowL : (stripS s K M).rows[s.rows.length]?.getD ([], 0) = lastR (s.box.take K) (s.box.drop (K + 1)) (s.box[K]?.getD 0) M := by
    unfold stripS
    simp
  have hrl : (stripS s K M).rows.length = s.rows.length + 1 := by unfold stripS; simp
  have hgt : ∀ j, j < s.gets.length → (stripS s K M).gets[j]?.getD accD = stripA K M (s.gets[j]?.getD accD) := fun j hj => by
    unfold stripS
    simp [hj]
  have hgll : (stripS s K M).gets.length = s.gets.length := by unfold stripS; simp
  have hceil : (ceilN (s.box[K]?.getD 0).toNat M : Int) ≤ 10000 := by
    have : ceilN (s.box[K]?.getD 0).toNat M ≤ 10000 := by
      unfold ceilN
      refine Nat.le_trans (Nat.div_le_self _ _) ?_
      omega
    omega
  have hc0 : V1.cr = V0.cr ++ [uc, .int .i64 F.cb] ∧ V1.nr = V0.nr + 1 ∧ V1.lb = V0.lb ∧ V1.lc = V0.lc ∧ V1.uc = V0.uc ∧ V1.ex = V0.ex := by rw [hv]; exact ⟨rfl, rfl, rfl, rfl, rfl, rfl⟩
  refine ⟨by omega, ?_, ⟨hlp, harr⟩, hkd, ⟨fun j => if j < s.rows.length then (V0.ex j).v else uc, ?_, ?_, fun j hj => ?_⟩, ⟨fun j => (V.ex (s.rows.length + j)).v, ?_, ?_, fun j hj => ?_⟩, ⟨?_, ?_⟩, ⟨?_, ?_⟩, ⟨?_, ?_⟩, ⟨?_, ?_, ?_⟩, hbd⟩
  · rw [hg.ub.2, hc0.2.2.1, hr.lb, hLB2]; rfl
  · rw [hg.ur.2.1, hc0.2.1, hr.nr, hrl]
  · rw [hg.ur.2.2, hc0.1, hr.cr, hrl, List.range_succ, List.flatMap_append]
    congr 1
    · refine flatV_congr _ fun i hi => ?_
      have hi2 : i < s.rows.length := by simpa using hi
      simp only [if_pos hi2]
      rw [hrow i hi2]
      rfl
    · simp only [List.flatMap_cons, List.flatMap_nil, List.append_nil, Nat.lt_irrefl, if_false]
      rw [hrowL, hcb]
      rfl
  · rw [hrl] at hj
    by_cases hj2 : j < s.rows.length
    · refine ⟨7 + j, by omega, ?_⟩
      simp only [if_pos hj2]
      rw [hrow j hj2, show 7 + j = j + 7 by omega]
      show V.ex j = _
      rw [hg.ex0 j hj2, hc0.2.2.2.2.2]
      exact hr.ex j hj2
    · have hj3 : j = s.rows.length := by omega
      subst hj3
      refine ⟨4, by omega, ?_⟩
      simp only [Nat.lt_irrefl, if_false]
      rw [hrowL, ← hLC2]
      show (⟨V.uc, 3, 1, V.lc.length, ivs V.lc⟩ : Mb) = _
      rw [hg.uc.1, hg.uc.2, hc0.2.2.2.1, hc0.2.2.2.2.1, hr.lc, huc]
  · rw [hg.ng, hgll]
  · rw [hg.cg, hgll]
    refine flatV_congr _ fun i hi => ?_
    have hi2 : i < s.gets.length := by simpa using hi
    rw [hgt i hi2]
    rfl
  · rw [hgll] at hj
    refine ⟨7 + (s.rows.length + j), by omega, ?_⟩
    rw [hgt j hj, show 7 + (s.rows.length + j) = (s.rows.length + j) + 7 by omega]
    exact hg.ex j hj
  · show (s.box.take K ++ (ceilN (s.box[K]?.getD 0).toNat M : Int) :: (M : Int) :: s.box.drop (K + 1)).length ≤ _
    have := hp.rank
    simp
    omega
  · intro x hx
    have hx : x ∈ (s.box.take K ++ (ceilN (s.box[K]?.getD 0).toNat M : Int) :: (M : Int) :: s.box.drop (K + 1)) := hx
    simp only [List.mem_append, List.mem_cons] at hx
    unfold B64
    rcases hx with h | h | h | h
    · have := hp.dims x (List.mem_of_mem_take h); omega
    · omega
    · omega
    · have := hp.dims x (List.mem_of_mem_drop h); omega
  · rw [hrl]; have := hp.many; omega
  · intro r hr2
    have hr3 : r ∈ s.rows.map (stripR K M) ++ [lastR (s.box.take K) (s.box.drop (K + 1)) (s.box[K]?.getD 0) M] := hr2
    simp only [List.mem_append, List.mem_map, List.mem_singleton] at hr3
    rcases hr3 with ⟨r0, h0, rfl⟩ | rfl
    · have h1 := hp.rows r0 h0
      have h2 := stripR_bd (K := K) (M := M) (r := r0) (by omega) (by have := hp.rank; omega) hM.2 h1.2.2
      exact ⟨by show B64 r0.2; unfold B64; omega, by omega, h2.2⟩
    · refine ⟨by show B64 (_ - 1); unfold B64; omega, ?_, ?_⟩
      · have := hp.rank
        unfold lastR
        simp
        omega
      · intro c hc
        unfold lastR at hc
        simp only [List.mem_append, List.mem_cons, List.mem_map] at hc
        unfold B64
        rcases hc with ⟨_, _, rfl⟩ | rfl | rfl | ⟨_, _, rfl⟩ <;> omega
  · rw [hgll]; omega
  · intro r hr2
    have hr3 : r ∈ s.gets.map (stripA K M) := hr2
    simp only [List.mem_map] at hr3
    obtain ⟨r0, h0, rfl⟩ := hr3
    have h1 := hok.gets r0 h0
    have h2 := stripR_bd (K := K) (M := M) (r := r0.2) (by have := h1.len; omega) (by have := h1.len; have := hp.rank; omega) hM.2 h1.coef
    have h3 := h1.arr
    have h4 := h1.con
    exact ⟨by show B64 r0.1; unfold B64; omega, by show B64 r0.2.2; unfold B64; omega, by show (stripR K M r0.2).1.length ≤ _; omega, h2.2⟩
  · show B64 s.put.1
    have h3 := hok.put.arr
    unfold B64
    omega
  · show B64 s.put.2.2
    have h3 := hok.put.con
    unfold B64
    omega
  · have h2 := stripR_bd (K := K) (M := M) (r := s.put.2) (by have := hok.put.len; omega) (by have := hok.put.len; have := hp.rank; omega) hM.2 hok.put.coef
    exact ⟨by show (stripR K M s.put.2).1.length ≤ _; omega, h2.2⟩
end Go.Proofs.Ytmmigbkilbfheaa.V
namespace Go.Proofs.Ytmmigbkilbfheaa.V
open Go Go.RowKit Go.Shelf
set_option linter.unusedVariables false

theorem OutS8.putK {W : World} {R len k i : Nat} {us : Nat → SW} (h : OutS8 W R len us k) (hi : i < k) (u : SW) : OutS8 (putS W R i u) R len (fun j => if j = i then u else us j) k := by
  obtain ⟨f, h1, h2⟩ := h
  unfold putS
  refine ⟨_, (((((((h1.set (i * 8) _).set (i * 8 + 1) _).set (i * 8 + 2) _).set (i * 8 + 3) _).set (i * 8 + 4) _).set (i * 8 + 5) _).set (i * 8 + 6) _).set (i * 8 + 7) _, fun j hj => ?_⟩
  by_cases e : j = i
  · subst e
    simp only [if_true]
    refine ⟨?_, ?_, ?_, ?_, ?_, ?_, ?_, ?_⟩ <;> simp
  · obtain ⟨e0, e1, e2, e3, e4, e5, e6, e7⟩ := h2 j hj
    simp only [if_neg e]
    refine ⟨by rw [if_neg (by omega)]; rw [if_neg (by omega)]; rw [if_neg (by omega)]; rw [if_neg (by omega)]; rw [if_neg (by omega)]; rw [if_neg (by omega)]; rw [if_neg (by omega)]; rw [if_neg (by omega)]; exact e0, by rw [if_neg (by omega)]; rw [if_neg (by omega)]; rw [if_neg (by omega)]; rw [if_neg (by omega)]; rw [if_neg (by omega)]; rw [if_neg (by omega)]; rw [if_neg (by omega)]; rw [if_neg (by omega)]; exact e1, by rw [if_neg (by omega)]; rw [if_neg (by omega)]; rw [if_neg (by omega)]; rw [if_neg (by omega)]; rw [if_neg (by omega)]; rw [if_neg (by omega)]; rw [if_neg (by omega)]; rw [if_neg (by omega)]; exact e2, by rw [if_neg (by omega)]; rw [if_neg (by omega)]; rw [if_neg (by omega)]; rw [if_neg (by omega)]; rw [if_neg (by omega)]; rw [if_neg (by omega)]; rw [if_neg (by omega)]; rw [if_neg (by omega)]; exact e3, by rw [if_neg (by omega)]; rw [if_neg (by omega)]; rw [if_neg (by omega)]; rw [if_neg (by omega)]; rw [if_neg (by omega)]; rw [if_neg (by omega)]; rw [if_neg (by omega)]; rw [if_neg (by omega)]; exact e4, by rw [if_neg (by omega)]; rw [if_neg (by omega)]; rw [if_neg (by omega)]; rw [if_neg (by omega)]; rw [if_neg (by omega)]; rw [if_neg (by omega)]; rw [if_neg (by omega)]; rw [if_neg (by omega)]; exact e5, by rw [if_neg (by omega)]; rw [if_neg (by omega)]; rw [if_neg (by omega)]; rw [if_neg (by omega)]; rw [if_neg (by omega)]; rw [if_neg (by omega)]; rw [if_neg (by omega)]; rw [if_neg (by omega)]; exact e6, by rw [if_neg (by omega)]; rw [if_neg (by omega)]; rw [if_neg (by omega)]; rw [if_neg (by omega)]; rw [if_neg (by omega)]; rw [if_neg (by omega)]; rw [if_neg (by omega)]; rw [if_neg (by omega)]; exact e7⟩
theorem stms_outK {V : World} {R cap len : Nat} {us : Nat → SW} {ss : List Stm} (h : OutS8 V R cap us len) (hk : len ≤ cap) (hl : ss.length = len) (hm : len ≤ 9223372036854775807) (hg : ∀ j, j < len → SG V (us j) (ss[j]?.getD stmD)) : Stms V (some ⟨R, 0, none⟩) len ss := by
  obtain ⟨f, h1, h2⟩ := h
  refine ⟨hl, hm, .inr ⟨R, 0, rfl, fun j hj => ?_⟩⟩
  obtain ⟨e0, e1, e2, e3, e4, e5, e6, e7⟩ := h2 j hj
  have cc : ∀ i, i < 8 → V.cell? ⟨R, 0 + j * 8 + i, none⟩ = some (f (j * 8 + i)) := fun i hi => by rw [Nat.zero_add]; exact h1.cell (by omega)
  refine ⟨us j, hg j hj, ?_, ?_, ?_, ?_, ?_, ?_, ?_, ?_⟩
  · rw [← e0]; exact cc 0 (by omega)
  · rw [← e1]; exact cc 1 (by omega)
  · rw [← e2]; exact cc 2 (by omega)
  · rw [← e3]; exact cc 3 (by omega)
  · rw [← e4]; exact cc 4 (by omega)
  · rw [← e5]; exact cc 5 (by omega)
  · rw [← e6]; exact cc 6 (by omega)
  · rw [← e7]; exact cc 7 (by omega)

def swV (qs : Nat → SW) (n : Nat) : List Value := (List.range n).flatMap fun j => (qs j).cs.toList
theorem swV_len (qs : Nat → SW) : ∀ n, (swV qs n).length = n * 8
  | 0 => rfl
  | n + 1 => by
    unfold swV
    rw [List.range_succ, List.flatMap_append, List.length_append]
    have := swV_len qs n
    unfold swV at this
    rw [this]
    simp [SW.cs]
    omega
theorem swV_at {qs : Nat → SW} {n x : Nat} (h : x < n * 8) : (swV qs n)[x]? = (qs (x / 8)).cs.toList[x % 8]? := by
  have h1 : x / 8 < n := by omega
  have := flat_get (z := 8) (fun j => (qs j).cs.toList) (fun _ => rfl) n (x / 8) (x % 8) h1 (by omega)
  rw [show x / 8 * 8 + x % 8 = x by omega] at this
  exact this
theorem SW.at.cell {q : SW} {w : World} {b o i : Nat} {u : Value} (h : q.at w b o) (hu : q.cs.toList[i]? = some u) : w.cell? ⟨b, o + i, none⟩ = some u := by
  obtain ⟨h0, h1, h2, h3, h4, h5, h6, h7⟩ := h
  have hi : i < 8 := by have := (List.getElem?_eq_some_iff.1 hu).1; simpa [SW.cs] using this
  unfold SW.cs at hu
  match i, hi with
  | 0, _ => simp at hu; rw [← hu]; exact h0
  | 1, _ => simp at hu; rw [← hu]; exact h1
  | 2, _ => simp at hu; rw [← hu]; exact h2
  | 3, _ => simp at hu; rw [← hu]; exact h3
  | 4, _ => simp at hu; rw [← hu]; exact h4
  | 5, _ => simp at hu; rw [← hu]; exact h5
  | 6, _ => simp at hu; rw [← hu]; exact h6
  | 7, _ => simp at hu; rw [← hu]; exact h7
theorem SW.at.below {q : SW} {w w' : World} {b o : Nat} (h : q.at w b o) (hb : Below w.heap.size w w') : q.at w' b o := by
  obtain ⟨h0, h1, h2, h3, h4, h5, h6, h7⟩ := h
  have cc : ∀ i u, w.cell? ⟨b, i, none⟩ = some u → w'.cell? ⟨b, i, none⟩ = some u := fun i u e => (hb.cell (p := ⟨b, i, none⟩) (lt_of_cell e)).trans e
  exact ⟨cc _ _ h0, cc _ _ h1, cc _ _ h2, cc _ _ h3, cc _ _ h4, cc _ _ h5, cc _ _ h6, cc _ _ h7⟩
/-- append([]Stmt{}, list...), at the operation. -/
theorem stms_fresh {w : World} {o : Oper} {a : Act} {K : Act → World → Prop} {Q : Exit → Act → World → Prop} (s x : Operand) (ho : o.op = .call { callee := .builtin .append, args := #[s, x], argTypes := #[23, 23] })
    (B b off n c : Nat) (qs : Nat → SW) (hs : a.eval s = .slice (some ⟨B, 0, none⟩) 0 0) (hx : a.eval x = .slice (some ⟨b, off, none⟩) n c) (hq : ∀ j, j < n → (qs j).at w b (off + j * 8)) (h0 : 0 < n) (hn : n ≤ 1048576)
    (h : ∀ R cap w', OutS8 w' R cap qs n → n ≤ cap → w.heap.size ≤ R → Below w.heap.size w w' → K (a.put o.dst (.slice (some ⟨R, 0, none⟩) n cap)) w') : o.wp Try.prog a w K Q := by
  obtain ⟨i, hi1, hz, hsz, hby⟩ := info_parts info_S
  obtain ⟨v', w', hr, r1, r2⟩ := run_append_arg_grows (P := Try.prog) w 23 o.type 74 i _ 8 128 Try.underlying23 hi1 hz hsz hby rfl (by omega) ⟨B, 0, none⟩ 0 0 [] rfl (fun j u hj => by simp at hj) ⟨b, off, none⟩ n c (swV qs n) (swV_len qs n) (fun j u hj => by
    rw [Go.WideShapes.add_plain]
    have hj2 : j < n * 8 := by rw [← swV_len qs n]; exact (List.getElem?_eq_some_iff.1 hj).1
    rw [swV_at hj2] at hj
    have := (hq (j / 8) (by omega)).cell hj
    rw [show off + j / 8 * 8 + j % 8 = off + j by omega] at this
    exact this) (by omega) (by unfold maxLen; omega) (by omega)
  have hb : Below w.heap.size w w' := (Below.refl _ w).grown r2 (Nat.le_refl _) (fun k hk => by cases hk)
  rcases r1.2 with ⟨_, e⟩ | ⟨g, cap, cur, e1, e2, e3, e4, e5, e6, e7⟩
  · omega
  · rw [Nat.zero_add] at e1 e4 e7
    subst e1
    unfold Oper.wp
    simp [execOp, ho, resolve, invoke, builtin, hs, hx, hr, Result.andThen]
    refine h g cap w' ⟨fun x => cur[x]?.getD (.int .i64 0), ⟨cur, e3, e6, fun x hx => ?_⟩, fun j hj => ?_⟩ e4 e2 hb
    · simp [show x < cur.size by omega]
    · have hc : ∀ i, i < 8 → cur[j * 8 + i]? = (qs j).cs.toList[i]? := fun i hi => by
        have h9 : (cur.toList.take (n * 8))[j * 8 + i]? = (swV qs n)[j * 8 + i]? := by rw [e7]; simp
        rw [List.getElem?_take_of_lt (by omega), Array.getElem?_toList, swV_at (by omega), show (j * 8 + i) / 8 = j by omega, show (j * 8 + i) % 8 = i by omega] at h9
        exact h9
      have c0 := hc 0 (by omega)
      have c1 := hc 1 (by omega)
      have c2 := hc 2 (by omega)
      have c3 := hc 3 (by omega)
      have c4 := hc 4 (by omega)
      have c5 := hc 5 (by omega)
      have c6 := hc 6 (by omega)
      have c7 := hc 7 (by omega)
      rw [Nat.add_zero] at c0
      refine ⟨?_, ?_, ?_, ?_, ?_, ?_, ?_, ?_⟩
      · simp only; rw [c0]; rfl
      · simp only; rw [c1]; rfl
      · simp only; rw [c2]; rfl
      · simp only; rw [c3]; rfl
      · simp only; rw [c4]; rfl
      · simp only; rw [c5]; rfl
      · simp only; rw [c6]; rfl
      · simp only; rw [c7]; rfl
theorem putS_belowN {w W : World} {N R : Nat} (hb : Below N w W) (h : N ≤ R) (i : Nat) (u : SW) : Below N w (putS W R i u) := by
  unfold putS
  exact ((((((((hb.setCell (p := ⟨R, i * 8, none⟩) h _).setCell (p := ⟨R, i * 8 + 1, none⟩) h _).setCell (p := ⟨R, i * 8 + 2, none⟩) h _).setCell (p := ⟨R, i * 8 + 3, none⟩) h _).setCell (p := ⟨R, i * 8 + 4, none⟩) h _).setCell (p := ⟨R, i * 8 + 5, none⟩) h _).setCell (p := ⟨R, i * 8 + 6, none⟩) h _).setCell (p := ⟨R, i * 8 + 7, none⟩) h _)
def fEmp : Fact := ⟨fun v w => ∃ B : Nat, v = .slice (some ⟨B, 0, none⟩) 0 0, false⟩
theorem fEmp_good : fEmp.Good := ⟨fun _ _ _ h _ => h, fun h => by cases h⟩
def fStC (N n : Nat) (qs : Nat → SW) : Fact := ⟨fun v w => ∃ R cap, v = .slice (some ⟨R, 0, none⟩) n cap ∧ OutS8 w R cap qs n ∧ n ≤ cap ∧ N ≤ R, false⟩
theorem fStC_good (N n : Nat) (qs : Nat → SW) : (fStC N n qs).Good := ⟨fun _ _ _ ⟨R, cap, h1, h2, h3⟩ hb => ⟨R, cap, h1, h2.below hb, h3⟩, fun h => by cases h⟩
def fNsC (N n : Nat) (qs : Nat → SW) (za : Option Addr) (zl zc : Nat) : Fact := ⟨fun v w => ∃ R cap, v = .agg #[.slice za zl zc, .slice (some ⟨R, 0, none⟩) n cap] ∧ OutS8 w R cap qs n ∧ n ≤ cap ∧ N ≤ R, false⟩
theorem fNsC_good (N n : Nat) (qs : Nat → SW) (za : Option Addr) (zl zc : Nat) : (fNsC N n qs za zl zc).Good := ⟨fun _ _ _ ⟨R, cap, h1, h2, h3⟩ hb => ⟨R, cap, h1, h2.below hb, h3⟩, fun h => by cases h⟩
theorem OutS8.oth {W V : World} {R len k : Nat} {us : Nat → SW} (h : OutS8 W R len us k) (he : V.heap[R]? = W.heap[R]?) : OutS8 V R len us k := by
  obtain ⟨f, h1, h2⟩ := h
  exact ⟨f, h1.of_block he, h2⟩
end Go.Proofs.Ytmmigbkilbfheaa.V
