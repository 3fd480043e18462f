/-
  Contract: order.remade, over whatever functions. Spots of the program: their words; contracts: order.lead, the closure that leads. A map from places to two lists. A map from places to two lists: an entry is put. order.asItStands. order.Plain: its contract.
-/
import Derived.Test.YtkbdnhchlkafnabK15
import Derived.Deep.DeepCutAuto
import Derived.Test.YtkbdnhchlkafnabK11
import Derived.Test.YtkbdnhchlkafnabK6
import Derived.Test.YtkbdnhchlkafnabK9
import Derived.Laws.StructEq
import Derived.MapKept
import Derived.Test.YtkbdnhchlkafnabK16
namespace Go.Proofs.Ytkbdnhchlkafnab.V
open Go.RowKit
set_option linter.unusedVariables false

def fBox (N : Nat) (box : List Int) : Fact := ⟨fun v w => ∃ a l c, v = .slice a l c ∧ Lies N (fun V => Lst V a l c box) w, false⟩
theorem fBox_good (N : Nat) (box : List Int) : (fBox N box).Good := ⟨fun _ _ _ ⟨a, l, c, h1, h2⟩ hb => ⟨a, l, c, h1, h2.below hb⟩, fun h => by cases h⟩
/-- Rows in a block, with their words. -/
structure RwsX (V : World) (R : Nat) (us : Nat → RW) (l : Nat) (rs : List (List Int × Int)) : Prop where
  out : OutR V R l us l
  good : ∀ j, j < l → RG V (us j) (rs[j]?.getD ([], 0))
  len : rs.length = l
  big : l ≤ 9223372036854775807
def fRws (N : Nat) (rs : List (List Int × Int)) : Fact := ⟨fun v w => ∃ R us l, v = .slice (some ⟨R, 0, none⟩) l l ∧ Lies N (fun V => RwsX V R us l rs) w, false⟩
theorem fRws_good (N : Nat) (rs : List (List Int × Int)) : (fRws N rs).Good := ⟨fun _ _ _ ⟨R, us, l, h1, h2⟩ hb => ⟨R, us, l, h1, h2.below hb⟩, fun h => by cases h⟩
def fPts (N : Nat) (box : List Int) (rs : List (List Int × Int)) : Fact := ⟨fun v w => ∃ a l c R us m, v = .agg #[.slice a l c, .slice (some ⟨R, 0, none⟩) m m] ∧ Lies N (fun V => Lst V a l c box ∧ RwsX V R us m rs) w, false⟩
theorem fPts_good (N : Nat) (box : List Int) (rs : List (List Int × Int)) : (fPts N box rs).Good := ⟨fun _ _ _ ⟨a, l, c, R, us, m, h1, h2⟩ hb => ⟨a, l, c, R, us, m, h1, h2.below hb⟩, fun h => by cases h⟩
def fAccs (N : Nat) (gs : List Acc) : Fact := ⟨fun v w => ∃ a l c, v = .slice a l c ∧ Lies N (fun V => Accs V a l gs) w, false⟩
theorem fAccs_good (N : Nat) (gs : List Acc) : (fAccs N gs).Good := ⟨fun _ _ _ ⟨a, l, c, h1, h2⟩ hb => ⟨a, l, c, h1, h2.below hb⟩, fun h => by cases h⟩
def fAG (N : Nat) (y : Acc) : Fact := ⟨fun v w => ∃ u : AW, v = u.v ∧ Lies N (fun V => AG V u y) w, false⟩
theorem fAG_good (N : Nat) (y : Acc) : (fAG N y).Good := ⟨fun _ _ _ ⟨u, h1, h2⟩ hb => ⟨u, h1, h2.below hb⟩, fun h => by cases h⟩
/-- The rows that have been made. -/
theorem rws_out {V : World} {R len : Nat} {us : Nat → RW} {rs : List (List Int × Int)} (h : OutR V R len us len) (hl : rs.length = len) (hm : len ≤ 9223372036854775807) (hg : ∀ j, j < len → RG V (us j) (rs[j]?.getD ([], 0))) : Rws V (some ⟨R, 0, none⟩) len rs := by
  obtain ⟨f, h1, h2⟩ := h
  refine ⟨hl, hm, .inr ⟨R, 0, rfl, fun j hj => ?_⟩⟩
  obtain ⟨e0, e1⟩ := h2 j hj
  have g := hg j hj
  have c0 := h1.cell (i := j * 2) (by omega)
  have c1 := h1.cell (i := j * 2 + 1) (by omega)
  rw [e0] at c0
  rw [e1, g.con] at c1
  exact ⟨_, _, _, by rw [Nat.zero_add]; exact c0, by rw [Nat.zero_add]; exact c1, g.coef, g.cap, g.bd⟩
theorem accs_out {V : World} {R len : Nat} {us : Nat → AW} {gs : List Acc} (h : OutA V R len us len) (hl : gs.length = len) (hm : len ≤ 9223372036854775807) (hg : ∀ j, j < len → AG V (us j) (gs[j]?.getD accD)) : Accs V (some ⟨R, 0, none⟩) len gs := by
  obtain ⟨f, h1, h2⟩ := h
  refine ⟨hl, hm, .inr ⟨R, 0, rfl, fun j hj => ?_⟩⟩
  obtain ⟨e0, e1, e2⟩ := h2 j hj
  have g := hg j hj
  have c0 := h1.cell (i := j * 3) (by omega)
  have c1 := h1.cell (i := j * 3 + 1) (by omega)
  have c2 := h1.cell (i := j * 3 + 2) (by omega)
  rw [e0, g.arr] at c0
  rw [e1] at c1
  rw [e2, g.con] at c2
  exact ⟨by rw [Nat.zero_add]; exact c0, ⟨_, _, _, by rw [Nat.zero_add]; exact c1, by rw [Nat.zero_add]; exact c2, g.coef, g.cap, g.bd.2⟩, g.bd.1⟩
theorem stms_out {V : World} {R len : Nat} {us : Nat → SW} {ss : List Stm} (h : OutS8 V R len us len) (hl : ss.length = len) (hm : len ≤ 9223372036854775807) (hg : ∀ j, j < len → SG V (us j) (ss[j]?.getD stmD)) : Stms V (some ⟨R, 0, none⟩) len ss := by
  obtain ⟨f, h1, h2⟩ := h
  refine ⟨hl, hm, .inr ⟨R, 0, rfl, fun j hj => ?_⟩⟩
  obtain ⟨e0, e1, e2, e3, e4, e5, e6, e7⟩ := h2 j hj
  have cc : ∀ i, i < 8 → V.cell? ⟨R, 0 + j * 8 + i, none⟩ = some (f (j * 8 + i)) := fun i hi => by rw [Nat.zero_add]; exact h1.cell (by omega)
  refine ⟨us j, hg j hj, ?_, ?_, ?_, ?_, ?_, ?_, ?_, ?_⟩
  · rw [← e0]; exact cc 0 (by omega)
  · rw [← e1]; exact cc 1 (by omega)
  · rw [← e2]; exact cc 2 (by omega)
  · rw [← e3]; exact cc 3 (by omega)
  · rw [← e4]; exact cc 4 (by omega)
  · rw [← e5]; exact cc 5 (by omega)
  · rw [← e6]; exact cc 6 (by omega)
  · rw [← e7]; exact cc 7 (by omega)
theorem RwsX.rws {V : World} {R : Nat} {us : Nat → RW} {l : Nat} {rs : List (List Int × Int)} (h : RwsX V R us l rs) : Rws V (some ⟨R, 0, none⟩) l rs := rws_out h.out h.len h.big h.good
/-- list.Each of rows. -/
theorem eachRows (a : Option Addr) (len cap : Nat) (rs : List (List Int × Int)) (f : List Int × Int → List Int × Int) (go : Nat) (bo : Array Value) (eg : ∀ args w, (callFunc go args).run Try.prog w = .ok (.enter go args) w) (w : World) (hr : Rws w a len rs) (hlen : len * 32 ≤ 281474976710656)
    (hf : ∀ q x, x ∈ rs → RG w q x → RowFn go bo q (f x) w) :
    Calls Try.prog 62 #[.slice a len cap, .func (.func go) #[] bo] w fun e w' => (∃ R us l, e = .returned (.slice (some ⟨R, 0, none⟩) l l) ∧ Lies w.heap.size (fun V => RwsX V R us l (rs.map f)) w') ∧ Below w.heap.size w w' := by
  obtain ⟨qs, hq, hin⟩ := rws_words hr
  refine (eachRR a len cap qs go bo eg (fun j u V => RG V u (f (rs[j]?.getD ([], 0)))) w hlen hin (fun j W hj hb _ => hf (qs j) _ (mem_getR rs j (by rw [hr.1]; exact hj)) (hq j hj) W hb)).mono ?_
  rintro e w' ⟨⟨us, rfl, ho, hl⟩, hb⟩
  refine ⟨⟨w.heap.size, us, len, rfl, ?_⟩, hb⟩
  have h1 := ho.lies (Nat.le_refl _)
  have h2 := lies_all (N := w.heap.size) (fun j hj => (hl j hj).mono (Nat.le_succ _))
  refine (h1.and h2).imp (fun V hV => ⟨hV.1, fun j hj => ?_, by rw [List.length_map]; exact hr.1, by have := hr.2.1; omega⟩)
  have hjl : j < rs.length := by rw [hr.1]; exact hj
  have := hV.2 j hj
  simpa [hjl] using this
/-- What becomes of a statement. -/
def remS (s : Stm) (box : List Int) (f : List Int × Int → List Int × Int) : Stm := ⟨box, s.rows.map f, s.kind, s.val, (s.put.1, f s.put.2), s.gets.map fun a => (a.1, f a.2)⟩
/-- It is that, in blocks from N on; its rows are just there. -/
def RemP (N : Nat) (u : SW) (s : Stm) (box : List Int) (f : List Int × Int → List Int × Int) (w : World) : Prop := ∃ (R : Nat) (us : Nat → RW), u.ra = some ⟨R, 0, none⟩ ∧ u.rc = u.rl ∧ Lies N (fun V => SG V u (remS s box f) ∧ RwsX V R us u.rl (s.rows.map f)) w
theorem sw_set {q : SW} {W : World} {b : Nat} (h : q.blk W b) (a : Option Addr) (l c : Nat) (a' : Option Addr) (l' c' : Nat) : (⟨a, l, c, a', l', c', q.kd, q.va, q.pu, q.ga, q.gl, q.gc⟩ : SW).blk ((W.setCell ⟨b, 0, none⟩ (.slice a l c)).setCell ⟨b, 1, none⟩ (.slice a' l' c')) b := by
  unfold SW.blk SW.cs at h ⊢
  simp [World.setCell, Array.getElem?_modify, h]
theorem sw_set2 {q : SW} {W : World} {b : Nat} (h : q.blk W b) (u : AW) (a' : Option Addr) (l' c' : Nat) : (⟨q.ba, q.bl, q.bc, q.ra, q.rl, q.rc, q.kd, q.va, u, a', l', c'⟩ : SW).blk ((((W.setCell ⟨b, 4, none⟩ (.int .i64 u.arr)).setCell ⟨b, 5, none⟩ (.slice u.ca u.cl u.cc)).setCell ⟨b, 6, none⟩ (.int .i64 u.con)).setCell ⟨b, 7, none⟩ (.slice a' l' c')) b := by
  unfold SW.blk SW.cs at h ⊢
  simp [World.setCell, Array.getElem?_modify, h]
def putS8 (W : World) (b : Nat) (q : SW) : World := (((((((W.setCell ⟨b, 0, none⟩ (.slice q.ba q.bl q.bc)).setCell ⟨b, 1, none⟩ (.slice q.ra q.rl q.rc)).setCell ⟨b, 2, none⟩ (.int .i64 q.kd)).setCell ⟨b, 3, none⟩ (.int .i64 q.va)).setCell ⟨b, 4, none⟩ (.int .i64 q.pu.arr)).setCell ⟨b, 5, none⟩ (.slice q.pu.ca q.pu.cl q.pu.cc)).setCell ⟨b, 6, none⟩ (.int .i64 q.pu.con)).setCell ⟨b, 7, none⟩ (.slice q.ga q.gl q.gc)
theorem putS8_blk {q u : SW} {W : World} {b : Nat} (h : q.blk W b) : u.blk (putS8 W b u) b := by
  unfold SW.blk SW.cs putS8 at *
  simp [World.setCell, Array.getElem?_modify, h]
theorem putS8_size (W : World) (b : Nat) (q : SW) : (putS8 W b q).heap.size = W.heap.size := by simp [putS8]
theorem putS8_keep {N : Nat} {W : World} {b : Nat} (h : b < N) (q : SW) : KeepF N W (putS8 W b q) := by
  refine ⟨fun j _ _ h1 _ _ => ?_, by rw [putS8_size]; exact Nat.le_refl _⟩
  unfold putS8
  have hne : j ≠ b := by omega
  simp [World.setCell, Array.getElem?_modify, hne.symm]
theorem putS8_below {w W : World} {b : Nat} (hb : Below w.heap.size w W) (h : w.heap.size ≤ b) (q : SW) : Below w.heap.size w (putS8 W b q) := by
  unfold putS8
  exact ((((((((hb.setCell (p := ⟨b, 0, none⟩) h _).setCell (p := ⟨b, 1, none⟩) h _).setCell (p := ⟨b, 2, none⟩) h _).setCell (p := ⟨b, 3, none⟩) h _).setCell (p := ⟨b, 4, none⟩) h _).setCell (p := ⟨b, 5, none⟩) h _).setCell (p := ⟨b, 6, none⟩) h _).setCell (p := ⟨b, 7, none⟩) h _)
theorem SW.blk.free {q : SW} {w : World} {b : Nat} (h : q.blk w b) (i : Nat) : w.frozen? ⟨b, i, none⟩ = false := by
  unfold SW.blk at h
  simp [World.frozen?, h]
end Go.Proofs.Ytkbdnhchlkafnab.V
namespace Go.Proofs.Ytkbdnhchlkafnab.V
open Go.RowKit
set_option linter.unusedVariables false

/-- A place: the array, where in it. -/
structure PW where
  arr : Int
  pos : Int
def PW.v (q : PW) : Value := .agg #[.int .i64 q.arr, .int .i64 q.pos]
/-- To where an access leads. -/
def leadV (zs : List Int) (a : Acc) (x : List Int) : PW := ⟨a.1, if worthV a.2 x < 0 ∨ zs[a.1.toNat]?.getD 0 ≤ worthV a.2 x then -1 else worthV a.2 x⟩
/-- The words of a spot. -/
structure TW where
  stm : Int
  xa : Option Addr
  xl : Nat
  xc : Nat
  tm : Nat → Int
  kd : Int
  va : Int
  pu : PW
  ga : Option Addr
  gl : Nat
  gc : Nat
def TW.cs (q : TW) : Array Value := #[.int .i64 q.stm, .slice q.xa q.xl q.xc, .int .i64 (q.tm 0), .int .i64 (q.tm 1), .int .i64 (q.tm 2), .int .i64 (q.tm 3), .int .i64 (q.tm 4), .int .i64 (q.tm 5), .int .i64 (q.tm 6), .int .i64 (q.tm 7), .int .i64 q.kd, .int .i64 q.va, .int .i64 q.pu.arr, .int .i64 q.pu.pos, .slice q.ga q.gl q.gc]
def TW.v (q : TW) : Value := .agg q.cs
def twD : TW := ⟨0, none, 0, 0, fun _ => 0, 0, 0, ⟨0, 0⟩, none, 0, 0⟩
/-- A spot with all that is known of it. -/
structure Sp where
  stm : Nat
  pt : List Int
  tm : Nat → Int
  kd : Int
  va : Int
  put : PW
  gets : List PW
def spDD : Sp := ⟨0, [], fun _ => 0, 0, 0, ⟨0, 0⟩, []⟩
def spOf (zs : List Int) (ss : List Stm) (T : Tms) (p : Nat × List Int) : Sp := ⟨p.1, p.2, timeV (T[p.1]?.getD []) p.2, (ss[p.1]?.getD stmD).kind, (ss[p.1]?.getD stmD).val, leadV zs (ss[p.1]?.getD stmD).put p.2, (ss[p.1]?.getD stmD).gets.map fun a => leadV zs a p.2⟩
/-- A list of places. -/
def PlsAt (w : World) (a : Option Addr) (len : Nat) (ps : List PW) : Prop := ps.length = len ∧ len ≤ 9223372036854775807 ∧ (len = 0 ∨ ∃ b off, a = some ⟨b, off, none⟩ ∧ ∀ j, j < len → w.cell? ⟨b, off + j * 2, none⟩ = some (.int .i64 (ps[j]?.getD ⟨0, 0⟩).arr) ∧ w.cell? ⟨b, off + j * 2 + 1, none⟩ = some (.int .i64 (ps[j]?.getD ⟨0, 0⟩).pos))
structure TG (w : World) (q : TW) (p : Sp) : Prop where
  stm : q.stm = (p.stm : Int)
  pt : Lst w q.xa q.xl q.xc p.pt
  tm : q.tm = p.tm
  kd : q.kd = p.kd
  va : q.va = p.va
  put : q.pu = p.put
  gets : PlsAt w q.ga q.gl p.gets
  cap : q.gl ≤ q.gc
  num : ∀ b o, q.xa = some ⟨b, o, none⟩ → ∃ cur fz, w.heap[b]? = some (.cells cur 3 fz)
theorem info_P : (Try.prog.info? 59).map (fun i => (i.zero, i.size, i.bytes)) = some (some (.agg #[.int .i64 0, .int .i64 0]), 2, 16) := by kernel_rfl
/-- The first k of what has been made, in a row of the call's own. -/
def OutP (W : World) (R len : Nat) (us : Nat → PW) (k : Nat) : Prop := ∃ f, W.rowIs R 59 (len * 2) f ∧ ∀ j, j < k → f (j * 2) = .int .i64 (us j).arr ∧ f (j * 2 + 1) = .int .i64 (us j).pos
theorem OutP.lt {W : World} {R len k : Nat} {us : Nat → PW} (h : OutP W R len us k) : R < W.heap.size := by
  obtain ⟨f, h1, _⟩ := h
  exact h1.lt
theorem OutP.below {W V : World} {R len k : Nat} {us : Nat → PW} (h : OutP W R len us k) (hb : Below W.heap.size W V) : OutP V R len us k := by
  obtain ⟨f, h1, h2⟩ := h
  exact ⟨f, h1.of_block (hb.block _ h1.lt), h2⟩
theorem OutP.lies {W : World} {R len k N : Nat} {us : Nat → PW} (h : OutP W R len us k) (hN : N ≤ R) : Lies N (fun V => OutP V R len us k) W := by
  obtain ⟨f, h1, h2⟩ := h
  exact (lies_row h1 hN).imp (fun V hV => ⟨f, hV, h2⟩)
theorem OutP.snoc {W : World} {R len k : Nat} {us : Nat → PW} (h : OutP W R len us k) (u : PW) : OutP ((W.setCell ⟨R, k * 2, none⟩ (.int .i64 u.arr)).setCell ⟨R, k * 2 + 1, none⟩ (.int .i64 u.pos)) R len (fun j => if j = k then u else us j) (k + 1) := by
  obtain ⟨f, h1, h2⟩ := h
  refine ⟨_, (h1.set (k * 2) _).set (k * 2 + 1) _, fun j hj => ?_⟩
  by_cases e : j = k
  · subst e
    simp only [if_true]
    refine ⟨?_, ?_⟩ <;> simp
  · obtain ⟨e0, e1⟩ := h2 j (by omega)
    simp only [if_neg e]
    refine ⟨by rw [if_neg (by omega)]; rw [if_neg (by omega)]; exact e0, by rw [if_neg (by omega)]; rw [if_neg (by omega)]; exact e1⟩
set_option maxRecDepth 100000 in
set_option maxHeartbeats 4000000 in
theorem eachAP (a : Option Addr) (len cap : Nat) (qs : Nat → AW) (g : Nat) (bs : Array Value) (eg : ∀ args w, (callFunc g args).run Try.prog w = .ok (.enter g args) w) (Q : Nat → PW → World → Prop) (w : World) (hlen : len * 16 ≤ 281474976710656)
    (hin : len = 0 ∨ ∃ b off, a = some ⟨b, off, none⟩ ∧ ∀ j, j < len → w.cell? ⟨b, off + j * 3, none⟩ = some (.int .i64 (qs j).arr) ∧ w.cell? ⟨b, off + j * 3 + 1, none⟩ = some (.slice (qs j).ca (qs j).cl (qs j).cc) ∧ w.cell? ⟨b, off + j * 3 + 2, none⟩ = some (.int .i64 (qs j).con))
    (hcall : ∀ (j : Nat) (W : World), j < len → Below w.heap.size w W → w.heap.size < W.heap.size → Calls Try.prog g (#[(qs j).v] ++ bs) W fun e w' => (∃ u : PW, e = .returned u.v ∧ Lies W.heap.size (Q j u) w') ∧ Below W.heap.size W w') :
    Calls Try.prog 41 #[.slice a len cap, .func (.func g) #[] bs] w fun e w' => (∃ us : Nat → PW, e = .returned (.slice (some ⟨w.heap.size, 0, none⟩) len len) ∧ OutP w' w.heap.size len us len ∧ ∀ j, j < len → Lies (w.heap.size + 1) (Q j (us j)) w') ∧ Below w.heap.size w w' := by
  have HIN := hide hin
  have HCALL := hide hcall
  obtain ⟨i0, hi, hz0, hz1, hz2⟩ := info_parts info_P
  have hmk : ∀ W : World, (Instr.makeSlice 60 (.int .i64 (len : Int)) (.int .i64 (len : Int))).run Try.prog W = .ok (.slice (some ⟨W.heap.size, 0, none⟩) len len) (W.alloc (.cells (madeCells #[.int .i64 0, .int .i64 0] (len * 2)) 59)) := fun W => by
    have := run_make (P := Try.prog) W 60 59 i0 (.agg #[.int .i64 0, .int .i64 0]) Try.underlying60 hi hz0 .i64 .i64 len len (by omega) (by omega) (by rw [hz2]; omega) (by omega)
    simpa [hz1, Value.cells] using this
  have HROW : Hid (OutP (w.alloc (.cells (madeCells #[.int .i64 0, .int .i64 0] (len * 2)) 59)) w.heap.size len (fun _ => ⟨0, 0⟩) 0) := ⟨fun i => (#[.int .i64 0, .int .i64 0] : Array Value)[i % 2]!, ⟨_, World.alloc_heap_new _ _, size_madeCells _ _, fun i hi => by simp [madeCells, hi]⟩, fun j hj => by omega⟩
  have HB0 : Hid (Below w.heap.size w (w.alloc (.cells (madeCells #[.int .i64 0, .int .i64 0] (len * 2)) 59))) := bl_new _
  clear hin hcall hi hz0 hz1 hz2
  go_enter Try.func41, Try.ntmps41
  go_wp2_with fail
  clear hmk
  go_loopw [13] (fun i wr => ∃ k : Nat, k ≤ len ∧ i = .int .i64 k ∧ (∃ us, OutP wr w.heap.size len us k ∧ ∀ j, j < k → Lies (w.heap.size + 1) (Q j (us j)) wr) ∧ Below w.heap.size w wr) (fun i _ => len - (intOf i).toNat)
  case atStart => exact ⟨0, Nat.zero_le _, rfl, ⟨_, HROW.out, fun j hj => by omega⟩, HB0.out⟩
  case round =>
    obtain ⟨k, hk, rfl, ⟨us, hT, hL⟩, hB⟩ := hrel
    have HT := hide hT
    have HL := hide hL
    have HB := hide hB
    clear HROW HB0 hL
    by_cases hlt : k < len
    · obtain ⟨b, off, rfl, hat⟩ := HIN.out.resolve_left (by omega)
      obtain ⟨c0, c1, c2⟩ := hat k hlt
      have HC0 := hide (HCALL.out k)
      obtain ⟨q, hq⟩ : ∃ q, q = qs k := ⟨_, rfl⟩
      rw [← hq] at HC0 c0 c1 c2
      have c0' := (HB.out.cell (p := ⟨b, off + k * 3, none⟩) (lt_of_cell c0)).trans c0
      have z0 := lt_of_cell c0'
      have c1' := (HB.out.cell (p := ⟨b, off + k * 3 + 1, none⟩) (lt_of_cell c1)).trans c1
      have z1 := lt_of_cell c1'
      have c2' := (HB.out.cell (p := ⟨b, off + k * 3 + 2, none⟩) (lt_of_cell c2)).trans c2
      have z2 := lt_of_cell c2'
      have hRl := hT.lt
      have B2 : Below wr.heap.size wr (wr.alloc (.cells #[.int .i64 q.arr, .slice q.ca q.cl q.cc, .int .i64 q.con] 49)) := bl_new _
      have HC := hide (HC0.out (wr.alloc (.cells #[.int .i64 q.arr, .slice q.ca q.cl q.cc, .int .i64 q.con] 49)) hlt (bl_on HB.out B2) (by rw [World.size_alloc]; omega))
      have HB2 := hide B2
      unfold AW.v  at HC
      clear hat hq B2 hT hB HC0 c0 c1 c2
      go_wp2_with fail
      refine HC.out.mono ?_
      rintro e w2 ⟨⟨u, rfl, hl⟩, hb2⟩
      have T2 := HT.out.below (bl_on HB2.out hb2)
      obtain ⟨f, r1, r2⟩ := T2
      have d0 := r1.cell (i := k * 2) (by omega)
      have y0 := r1.frozen (k * 2)
      have d1 := r1.cell (i := k * 2 + 1) (by omega)
      have y1 := r1.frozen (k * 2 + 1)
      have z3 := r1.lt
      have hsz := HB.out.size
      have HT2 := hide (OutP.snoc ⟨f, r1, r2⟩ u)
      have HLn := hide (hl.mono (N := w.heap.size + 1) (by rw [World.size_alloc]; omega))
      have HLo := hide (fun j (hj : j < k) => (HL.out j hj).below (bl_on HB2.out hb2))
      have HBb := hide (bl_on HB.out (bl_on HB2.out hb2))
      clear hb2 r1 r2 hl
      try unfold PW.v 
      go_wp2_with fail
      go_roundw
      case rel =>
        refine ⟨k + 1, by omega, by go_num, ⟨_, HT2.out, fun j hj => ?_⟩, ((HBb.out.setCell (p := ⟨w.heap.size, k * 2, none⟩) (Nat.le_refl _) _).setCell (p := ⟨w.heap.size, k * 2 + 1, none⟩) (Nat.le_refl _) _)⟩
        by_cases e : k = j
        · subst e
          simp only [if_true]
          have hl := HLn.out
          exact (((hl).set (p := ⟨w.heap.size, k * 2, none⟩) (by simp only; omega) _).set (p := ⟨w.heap.size, k * 2 + 1, none⟩) (by simp only; omega) _)
        · simp only [if_neg (fun e' : j = k => e e'.symm)]
          have hl := HLo.out j (by omega)
          exact (((hl).set (p := ⟨w.heap.size, k * 2, none⟩) (by simp only; omega) _).set (p := ⟨w.heap.size, k * 2 + 1, none⟩) (by simp only; omega) _)
      case measure => simp [intOf]; omega
    · obtain rfl : k = len := by omega
      clear hT hB
      go_wp2_with fail
      go_ret
      exact ⟨⟨us, rfl, HT.out, HL.out⟩, HB.out⟩
theorem pls_out {V : World} {R len : Nat} {us : Nat → PW} {ps : List PW} (h : OutP V R len us len) (hl : ps.length = len) (hm : len ≤ 9223372036854775807) (hg : ∀ j, j < len → us j = ps[j]?.getD ⟨0, 0⟩) : PlsAt V (some ⟨R, 0, none⟩) len ps := by
  obtain ⟨f, h1, h2⟩ := h
  refine ⟨hl, hm, .inr ⟨R, 0, rfl, fun j hj => ?_⟩⟩
  obtain ⟨e0, e1⟩ := h2 j hj
  have c0 := h1.cell (i := j * 2) (by omega)
  have c1 := h1.cell (i := j * 2 + 1) (by omega)
  rw [e0, hg j hj] at c0
  rw [e1, hg j hj] at c1
  exact ⟨by rw [Nat.zero_add]; exact c0, by rw [Nat.zero_add]; exact c1⟩
set_option maxRecDepth 100000 in
set_option maxHeartbeats 4000000 in
theorem lead_any (q : AW) (a : Acc) (xa : Option Addr) (xl xc : Nat) (x : List Int) (za : Option Addr) (zl zc : Nat) (zs : List Int) (w : World) (hq : AG w q a) (hx : Ints w xa xl x) (hz : Ints w za zl zs) (ho : AccOk zs.length a x.length) (h4 : x.length ≤ 4) (hxb : ∀ y ∈ x, 0 ≤ y ∧ y ≤ 4096) :
    Calls Try.prog 40 #[q.v, .slice xa xl xc, .slice za zl zc] w fun e w' => e = .returned (leadV zs a x).v ∧ Below w.heap.size w w' := by
  have B0 : Below w.heap.size w ((w.alloc (.cells #[.int .i64 q.arr, .slice q.ca q.cl q.cc, .int .i64 q.con] 49)).alloc (.cells #[.int .i64 0, .int .i64 0] 59)) := bl_on (bl_new _) (bl_new _)
  have P0 := (q.new w).below (bl_new (.cells #[.int .i64 0, .int .i64 0] 59))
  have PZ : ((w.alloc (.cells #[.int .i64 q.arr, .slice q.ca q.cl q.cc, .int .i64 q.con] 49)).alloc (.cells #[.int .i64 0, .int .i64 0] 59)).heap[w.heap.size + 1]? = some (.cells #[.int .i64 0, .int .i64 0] 59 (0, 0)) := by have := World.alloc_heap_new (w.alloc (.cells #[.int .i64 q.arr, .slice q.ca q.cl q.cc, .int .i64 q.con] 49)) (.cells #[.int .i64 0, .int .i64 0] 59); simpa using this
  obtain ⟨W, hW⟩ : ∃ W, W = (w.alloc (.cells #[.int .i64 q.arr, .slice q.ca q.cl q.cc, .int .i64 q.con] 49)).alloc (.cells #[.int .i64 0, .int .i64 0] 59) := ⟨_, rfl⟩
  rw [← hW] at B0 P0 PZ
  have hxl := hx.1
  have hol := ho.len
  have hcl := hq.coef.1
  have HC := hide (worth_any q.ca q.cl q.cc a.2.1 q.con xa xl xc x W (hq.coef.below B0) (hx.below B0) (by omega) (by omega) (by rw [hq.con]; exact ho.con) ho.coef hxb)
  rw [hq.con] at HC
  obtain ⟨V, hV⟩ : ∃ V, V = worthV a.2 x := ⟨_, rfl⟩
  have e2 : worthV (a.2.1, a.2.2) x = V := by rw [hV]
  rw [e2] at HC
  obtain ⟨K, hK⟩ : ∃ K : Nat, a.1 = (K : Int) := ⟨a.1.toNat, by have := ho.arr; omega⟩
  have hKl : K < zl := by have := ho.arr; have := hz.1; omega
  obtain ⟨zb, zo, rfl, hzb, hzc⟩ := hz.at (by omega)
  have cz0 := hzc K hKl
  have HLV : Hid (worthV a.2 x = V ∧ zs[a.1.toNat]?.getD 0 = zs[K]?.getD 0) := ⟨hV.symm, by rw [hK, Int.toNat_natCast]⟩
  obtain ⟨Z, hZ⟩ : ∃ Z, Z = zs[K]?.getD 0 := ⟨_, rfl⟩
  rw [← hZ] at cz0 HLV
  have HAR : Hid (a.1 = q.arr) := hq.arr.symm
  have HQA : Hid (q.arr = (K : Int)) := by rw [Hid, hq.arr, hK]
  have HB := hide B0
  have HP := hide P0
  have HZ0 := hide PZ
  have HW := hide hW
  have HCZ := hide cz0
  have HCON : Hid (q.con = a.2.2) := hq.con
  have hKz : (K : Int) < (zl : Int) := by omega
  clear hq hx hz ho B0 P0 PZ hW hzc hV e2 hK hZ cz0 hxl hol hcl
  unfold AW.v
  obtain ⟨p0, p1, p2⟩ := HP.out.cells
  have zp := HP.out.lt
  rw [HCON.out] at p2
  go_enter Try.func40, Try.ntmps40
  go_upto_region 1 with fail
  rw [← HW.out]
  go_wp2_with fail
  refine HC.out.mono ?_
  rintro e w1 ⟨rfl, hb⟩
  have HB1 := hide (bl_on HB.out hb)
  have HP1 := hide (HP.out.below hb)
  have HZ2 : Hid (w1.heap[w.heap.size + 1]? = some (.cells #[.int .i64 0, .int .i64 0] 59 (0, 0))) := (hb.block _ (Array.getElem?_eq_some_iff.1 HZ0.out).1).trans HZ0.out
  have cz := (HB1.out.cell (p := ⟨zb, zo + K, none⟩) hzb).trans HCZ.out
  have zcz := lt_of_cell cz
  clear p0 p1 p2 zp hb HP HZ0
  obtain ⟨p0, p1, p2⟩ := HP1.out.cells
  rw [HQA.out] at p0
  have zp := HP1.out.lt
  have HLE : Hid (leadV zs a x = ⟨(K : Int), if V < 0 ∨ Z ≤ V then -1 else V⟩) := by
    rw [Hid, leadV, HLV.out.1, HLV.out.2, HAR.out, HQA.out]
  by_cases c1 : V < 0
  · have HV : Hid (leadV zs a x = ⟨(K : Int), -1⟩) := by rw [Hid, HLE.out, if_pos (.inl c1)]
    have P5 := HZ2.out
    have y0 : w1.cell? ⟨w.heap.size + 1, 0, none⟩ = some (.int .i64 0) := by simp only [World.cell?, P5]; rfl
    have y1 : w1.cell? ⟨w.heap.size + 1, 1, none⟩ = some (.int .i64 0) := by simp only [World.cell?, P5]; rfl
    have g0 : w1.frozen? ⟨w.heap.size + 1, 0, none⟩ = false := by simp [World.frozen?, P5]
    have g1 : w1.frozen? ⟨w.heap.size + 1, 1, none⟩ = false := by simp [World.frozen?, P5]
    have z5 := (Array.getElem?_eq_some_iff.1 P5).1
    clear P5
    go_wp2_with fail
    have P6 : ((w1.setCell ⟨w.heap.size + 1, 0, none⟩ (.int .i64 (K : Int))).setCell ⟨w.heap.size + 1, 1, none⟩ (.int .i64 (-1))).heap[w.heap.size + 1]? = some (.cells #[.int .i64 (K : Int), .int .i64 (-1)] 59 (0, 0)) := by
      simp [World.setCell, Array.getElem?_modify, HZ2.out]
    have x0 := cells_two P6
    refine bodyPost_ret (v := .agg #[.int .i64 (K : Int), .int .i64 (-1)]) (by simp [results, Try.results40, go_sem, x0.1, x0.2]) rfl ⟨by rw [HV.out]; rfl, ?_⟩
    exact (HB1.out.setCell (p := ⟨w.heap.size + 1, 0, none⟩) (by simp only; omega) _).setCell (p := ⟨w.heap.size + 1, 1, none⟩) (by simp only; omega) _
  · by_cases c2 : Z ≤ V
    · have HV : Hid (leadV zs a x = ⟨(K : Int), -1⟩) := by rw [Hid, HLE.out, if_pos (.inr c2)]
      have P5 := HZ2.out
      have y0 : w1.cell? ⟨w.heap.size + 1, 0, none⟩ = some (.int .i64 0) := by simp only [World.cell?, P5]; rfl
      have y1 : w1.cell? ⟨w.heap.size + 1, 1, none⟩ = some (.int .i64 0) := by simp only [World.cell?, P5]; rfl
      have g0 : w1.frozen? ⟨w.heap.size + 1, 0, none⟩ = false := by simp [World.frozen?, P5]
      have g1 : w1.frozen? ⟨w.heap.size + 1, 1, none⟩ = false := by simp [World.frozen?, P5]
      have z5 := (Array.getElem?_eq_some_iff.1 P5).1
      clear P5
      go_wp2_with fail
      have P6 : ((w1.setCell ⟨w.heap.size + 1, 0, none⟩ (.int .i64 (K : Int))).setCell ⟨w.heap.size + 1, 1, none⟩ (.int .i64 (-1))).heap[w.heap.size + 1]? = some (.cells #[.int .i64 (K : Int), .int .i64 (-1)] 59 (0, 0)) := by
        simp [World.setCell, Array.getElem?_modify, HZ2.out]
      have x0 := cells_two P6
      refine bodyPost_ret (v := .agg #[.int .i64 (K : Int), .int .i64 (-1)]) (by simp [results, Try.results40, go_sem, x0.1, x0.2]) rfl ⟨by rw [HV.out]; rfl, ?_⟩
      exact (HB1.out.setCell (p := ⟨w.heap.size + 1, 0, none⟩) (by simp only; omega) _).setCell (p := ⟨w.heap.size + 1, 1, none⟩) (by simp only; omega) _
    · have HV : Hid (leadV zs a x = ⟨(K : Int), V⟩) := by rw [Hid, HLE.out, if_neg (by omega)]
      have P5 := HZ2.out
      have y0 : w1.cell? ⟨w.heap.size + 1, 0, none⟩ = some (.int .i64 0) := by simp only [World.cell?, P5]; rfl
      have y1 : w1.cell? ⟨w.heap.size + 1, 1, none⟩ = some (.int .i64 0) := by simp only [World.cell?, P5]; rfl
      have g0 : w1.frozen? ⟨w.heap.size + 1, 0, none⟩ = false := by simp [World.frozen?, P5]
      have g1 : w1.frozen? ⟨w.heap.size + 1, 1, none⟩ = false := by simp [World.frozen?, P5]
      have z5 := (Array.getElem?_eq_some_iff.1 P5).1
      clear P5
      go_wp2_with fail
      have P6 : ((w1.setCell ⟨w.heap.size + 1, 0, none⟩ (.int .i64 (K : Int))).setCell ⟨w.heap.size + 1, 1, none⟩ (.int .i64 (V))).heap[w.heap.size + 1]? = some (.cells #[.int .i64 (K : Int), .int .i64 (V)] 59 (0, 0)) := by
        simp [World.setCell, Array.getElem?_modify, HZ2.out]
      have x0 := cells_two P6
      refine bodyPost_ret (v := .agg #[.int .i64 (K : Int), .int .i64 (V)]) (by simp [results, Try.results40, go_sem, x0.1, x0.2]) rfl ⟨by rw [HV.out]; rfl, ?_⟩
      exact (HB1.out.setCell (p := ⟨w.heap.size + 1, 0, none⟩) (by simp only; omega) _).setCell (p := ⟨w.heap.size + 1, 1, none⟩) (by simp only; omega) _
set_option maxRecDepth 100000 in
set_option maxHeartbeats 4000000 in
theorem to_any (q : AW) (a : Acc) (Bx Bn : Nat) (xa : Option Addr) (xl xc : Nat) (x : List Int) (za : Option Addr) (zl zc : Nat) (zs : List Int) (w : World) (hq : AG w q a) (cx : w.cell? ⟨Bx, 0, none⟩ = some (.slice xa xl xc)) (cn : w.cell? ⟨Bn, 0, none⟩ = some (.slice za zl zc)) (hx : Ints w xa xl x) (hz : Ints w za zl zs) (ho : AccOk zs.length a x.length) (h4 : x.length ≤ 4) (hxb : ∀ y ∈ x, 0 ≤ y ∧ y ≤ 4096) :
    Calls Try.prog 39 #[q.v, .pointer (some ⟨Bx, 0, none⟩), .pointer (some ⟨Bn, 0, none⟩)] w fun e w' => e = .returned (leadV zs a x).v ∧ Below w.heap.size w w' := by
  have B0 : Below w.heap.size w ((w.alloc (.cells #[.int .i64 q.arr, .slice q.ca q.cl q.cc, .int .i64 q.con] 49)).alloc (.cells #[.int .i64 0, .int .i64 0] 59)) := bl_on (bl_new _) (bl_new _)
  have P0 := (q.new w).below (bl_new (.cells #[.int .i64 0, .int .i64 0] 59))
  have PZ : ((w.alloc (.cells #[.int .i64 q.arr, .slice q.ca q.cl q.cc, .int .i64 q.con] 49)).alloc (.cells #[.int .i64 0, .int .i64 0] 59)).heap[w.heap.size + 1]? = some (.cells #[.int .i64 0, .int .i64 0] 59 (0, 0)) := by have := World.alloc_heap_new (w.alloc (.cells #[.int .i64 q.arr, .slice q.ca q.cl q.cc, .int .i64 q.con] 49)) (.cells #[.int .i64 0, .int .i64 0] 59); simpa using this
  obtain ⟨W, hW⟩ : ∃ W, W = (w.alloc (.cells #[.int .i64 q.arr, .slice q.ca q.cl q.cc, .int .i64 q.con] 49)).alloc (.cells #[.int .i64 0, .int .i64 0] 59) := ⟨_, rfl⟩
  rw [← hW] at B0 P0 PZ
  have HC := hide (lead_any q a xa xl xc x za zl zc zs W (hq.below B0) (hx.below B0) (hz.below B0) ho h4 hxb)
  have c1 := (B0.cell (p := ⟨Bx, 0, none⟩) (lt_of_cell cx)).trans cx
  have c2 := (B0.cell (p := ⟨Bn, 0, none⟩) (lt_of_cell cn)).trans cn
  have z1 := lt_of_cell c1
  have z2 := lt_of_cell c2
  obtain ⟨p0, p1, p2⟩ := P0.cells
  have zp := P0.lt
  have HB := hide B0
  have HZ0 := hide PZ
  have HW := hide hW
  obtain ⟨u, hu⟩ : ∃ u, u = leadV zs a x := ⟨_, rfl⟩
  rw [← hu] at HC ⊢
  clear hq hx hz ho B0 P0 PZ hW hu h4 hxb cx cn
  unfold AW.v PW.v at HC
  unfold AW.v PW.v
  go_enter Try.func39, Try.ntmps39
  go_upto_region 1 with fail
  rw [← HW.out]
  go_wp2_with fail
  refine HC.out.mono ?_
  rintro e w1 ⟨rfl, hb⟩
  have HB1 := hide (bl_on HB.out hb)
  have HZ2 : Hid (w1.heap[w.heap.size + 1]? = some (.cells #[.int .i64 0, .int .i64 0] 59 (0, 0))) := (hb.block _ (Array.getElem?_eq_some_iff.1 HZ0.out).1).trans HZ0.out
  clear p0 p1 p2 zp hb HZ0 c1 c2 z1 z2
  have P5 := HZ2.out
  have y0 : w1.cell? ⟨w.heap.size + 1, 0, none⟩ = some (.int .i64 0) := by simp only [World.cell?, P5]; rfl
  have y1 : w1.cell? ⟨w.heap.size + 1, 1, none⟩ = some (.int .i64 0) := by simp only [World.cell?, P5]; rfl
  have g0 : w1.frozen? ⟨w.heap.size + 1, 0, none⟩ = false := by simp [World.frozen?, P5]
  have g1 : w1.frozen? ⟨w.heap.size + 1, 1, none⟩ = false := by simp [World.frozen?, P5]
  have z5 := (Array.getElem?_eq_some_iff.1 P5).1
  clear P5
  go_wp2_with fail
  have P6 : ((w1.setCell ⟨w.heap.size + 1, 0, none⟩ (.int .i64 u.arr)).setCell ⟨w.heap.size + 1, 1, none⟩ (.int .i64 u.pos)).heap[w.heap.size + 1]? = some (.cells #[.int .i64 u.arr, .int .i64 u.pos] 59 (0, 0)) := by
    simp [World.setCell, Array.getElem?_modify, HZ2.out]
  have x0 := cells_two P6
  refine bodyPost_ret (v := .agg #[.int .i64 u.arr, .int .i64 u.pos]) (by simp [results, Try.results39, go_sem, x0.1, x0.2]) rfl ⟨rfl, ?_⟩
  exact (HB1.out.setCell (p := ⟨w.heap.size + 1, 0, none⟩) (by simp only; omega) _).setCell (p := ⟨w.heap.size + 1, 1, none⟩) (by simp only; omega) _
/-- list.Each of accesses: to where they lead. -/
theorem eachTo (a : Option Addr) (len cap : Nat) (gs : List Acc) (Bx Bn : Nat) (xa : Option Addr) (xl xc : Nat) (x : List Int) (za : Option Addr) (zl zc : Nat) (zs : List Int) (w : World) (hr : Accs w a len gs) (hlen : len ≤ 1000) (cx : w.cell? ⟨Bx, 0, none⟩ = some (.slice xa xl xc)) (cn : w.cell? ⟨Bn, 0, none⟩ = some (.slice za zl zc)) (hx : Ints w xa xl x) (hz : Ints w za zl zs) (ho : ∀ a ∈ gs, AccOk zs.length a x.length) (h4 : x.length ≤ 4) (hxb : ∀ y ∈ x, 0 ≤ y ∧ y ≤ 4096) :
    Calls Try.prog 41 #[.slice a len cap, .func (.func 39) #[] #[.pointer (some ⟨Bx, 0, none⟩), .pointer (some ⟨Bn, 0, none⟩)]] w fun e w' => (∃ R : Nat, e = .returned (.slice (some ⟨R, 0, none⟩) len len) ∧ Lies w.heap.size (fun V => PlsAt V (some ⟨R, 0, none⟩) len (gs.map fun a => leadV zs a x)) w') ∧ Below w.heap.size w w' := by
  obtain ⟨qs, hq, hin⟩ := accs_words hr
  refine (eachAP a len cap qs 39 #[.pointer (some ⟨Bx, 0, none⟩), .pointer (some ⟨Bn, 0, none⟩)] (enters_of Try.func39 (by kernel_rfl) rfl) (fun j u V => u = leadV zs (gs[j]?.getD accD) x) w (by omega) hin (fun j W hj hb _ => ?_)).mono ?_
  · refine (to_any (qs j) (gs[j]?.getD accD) Bx Bn xa xl xc x za zl zc zs W ((hq j hj).below hb) ((hb.cell (p := ⟨Bx, 0, none⟩) (lt_of_cell cx)).trans cx) ((hb.cell (p := ⟨Bn, 0, none⟩) (lt_of_cell cn)).trans cn) (hx.below hb) (hz.below hb) (ho _ (mem_getA gs j (by rw [hr.1]; exact hj))) h4 hxb).mono ?_
    rintro e w' ⟨rfl, hb'⟩
    exact ⟨⟨_, rfl, lies_pure rfl _⟩, hb'⟩
  rintro e w' ⟨⟨us, rfl, h1, h2⟩, hb⟩
  refine ⟨⟨_, rfl, (h1.lies (Nat.le_refl _)).imp (fun V hV => pls_out hV (by rw [List.length_map]; exact hr.1) (by omega) (fun j hj => ?_))⟩, hb⟩
  have hjl : j < gs.length := by rw [hr.1]; exact hj
  rw [(h2 j hj).out]
  simp [hjl]
end Go.Proofs.Ytkbdnhchlkafnab.V
namespace Go.Proofs.Ytkbdnhchlkafnab.V
open Go Go.RowKit
set_option linter.unusedVariables false

/-- What a place was touched by: two lists' words. -/
structure Ent where
  key : PW
  pa : Option Addr
  pl : Nat
  pc : Nat
  ga : Option Addr
  gl : Nat
  gc : Nat
def Ent.vv (e : Ent) : Value := .agg #[.slice e.pa e.pl e.pc, .slice e.ga e.gl e.gc]
def entZ (k : PW) : Ent := ⟨k, none, 0, 0, none, 0, 0⟩
theorem pw_ext {a b : PW} : a = b ↔ a.arr = b.arr ∧ a.pos = b.pos := by
  cases a
  cases b
  simp
instance : DecidableEq PW := fun a b => decidable_of_iff _ pw_ext.symm
theorem run_eq_place (a b : PW) (w : World) : (Op.equal 59 a.v b.v).run Try.prog w = .ok (decide (a = b)) w := by
  have u3 := Try.underlying3
  have a3 := Try.isAgg3
  have z3 := Try.sizeOf3
  have hS : Try.prog.underlying 59 = some (.struct (Try.prog.fieldsOf 59)) := by kernel_rfl
  have hp : Try.prog.stoodInHeld 59 = false := by kernel_rfl
  unfold PW.v Op.equal Op.maxDepth
  rw [show (10000 : Nat) = 9999 + 1 from rfl, run_equalIn_struct w 9999 59 _ _ hS hp]
  simp only [Program.fieldsOf, Try.underlying59]
  go_simp
  by_cases h1 : a.arr = b.arr <;> by_cases h2 : a.pos = b.pos <;> simp [h1, h2, pw_ext]
theorem run_check_place (e : Bool) (a : PW) (w : World) : (Instr.checkKey e 10000 59 a.v).run Try.prog w = .ok () w := by
  have a3 := Try.isAgg3
  have z3 := Try.sizeOf3
  have hk : ∀ (n : Int) (W : World), (Instr.checkKey e (9998 + 1) 3 (.int .i64 n)).run Try.prog W = .ok () W := fun n W => MapKept.run_checkKey Try.underlying3 (by simp [MapKept.IsKey]) e 9998
  unfold PW.v
  rw [show (10000 : Nat) = 9998 + 1 + 1 from rfl, Instr.checkKey]
  simp only [Sem.run_bind, run_underlying Try.underlying59, Result.andThen_ok]
  rw [← Array.forIn_toList]
  generalize 9998 + 1 = n at hk ⊢
  simp only [List.forIn_cons, List.forIn_nil, Sem.run_bind, Sem.run_ite]
  go_simp
/-- The entry of a place. -/
def findE (k : PW) : List Ent → Nat → Option (Nat × Ent)
  | [], _ => none
  | e :: M, i => if k = e.key then some (i, e) else findE k M (i + 1)
def EntsOf (l : List MapEntry) (M : List Ent) : Prop := l.map (fun e => (e.key, e.val)) = M.map (fun e => (e.key.v, e.vv))
theorem run_find (k : PW) (w : World) : ∀ (M : List Ent) (l : List MapEntry) (i : Nat), EntsOf l M → (Instr.findAsking 59 k.v l i).run Try.prog w = .ok ((findE k M i).map fun p => (p.1, p.2.vv)) w
  | [], l, i, h => by
    have : l = [] := by simpa [EntsOf] using h
    subst this
    simp [Instr.findAsking, findE]
  | e :: M, l, i, h => by
    cases l with
    | nil => simp [EntsOf] at h
    | cons x l =>
      simp only [EntsOf, List.map_cons, List.cons.injEq, Prod.mk.injEq] at h
      obtain ⟨⟨h1, h2⟩, h3⟩ := h
      simp only [Instr.findAsking, Sem.run_bind, h1, run_eq_place, Result.andThen_ok, Sem.run_ite]
      by_cases hk : k = e.key
      · simp [hk, findE, h2]
      · have ih := run_find k w M l (i + 1) h3
        simp [hk, findE, ih]
theorem run_findKey (k : PW) (w : World) (M : List Ent) (l : List MapEntry) (h : EntsOf l M) : (Instr.findKey 59 k.v l).run Try.prog w = .ok ((findE k M 0).map fun p => (p.1, p.2.vv)) w := by
  have hf := run_find k w M l 0 h
  unfold Instr.findKey
  simp only [Sem.run_bind, run_underlying Try.underlying59, Result.andThen_ok]
  cases l with
  | nil =>
    have : M = [] := by
      have := congrArg List.length h
      simpa using this.symm
    subst this
    simp [Instr.findNow, findE]
  | cons x l =>
    have : ∀ v, Instr.sameNow (.struct v) k.v x.key = none := fun v => by unfold PW.v; rfl
    simp only [Instr.findNow, this]
    exact hf
/-- The map's block. -/
def MapAt (W : World) (b : Nat) (M : List Ent) : Prop := ∃ es clock, W.heap[b]? = some (.map es clock) ∧ EntsOf es.toList M
def lookE (k : PW) (M : List Ent) : Ent := ((findE k M 0).map (·.2)).getD (entZ k)
theorem run_look {W : World} {b : Nat} {M : List Ent} (h : MapAt W b M) (k : PW) : (Instr.lookup 85 (.map (some b)) k.v false).run Try.prog W = .ok (lookE k M).vv W := by
  obtain ⟨es, clock, hb, he⟩ := h
  have hz : (zeroValue 115).run Try.prog W = .ok (entZ k).vv W := by
    simp [entZ, Ent.vv, Try.zeroValue115]
  unfold Instr.lookup lookE
  simp only [Sem.run_bind, run_underlying Try.underlying85, Result.andThen_ok, MapKept.run_getObj_map hb, Sem.run_pure, run_check_place, run_findKey k W M es.toList he]
  cases findE k M 0 with
  | none => simp [hz]
  | some p => simp
end Go.Proofs.Ytkbdnhchlkafnab.V
namespace Go.Proofs.Ytkbdnhchlkafnab.V
open Go Go.RowKit
set_option linter.unusedVariables false

/-- An entry is put. -/
def putR (e : Ent) : List Ent → List Ent
  | [] => [e]
  | x :: M => if e.key = x.key then e :: M else x :: putR e M
theorem find_put (e : Ent) : ∀ (M : List Ent) (i : Nat), (∀ j x, findE e.key M i = some (j, x) → i ≤ j ∧ j - i < M.length ∧ (M[j - i]?.map (·.key)) = some e.key ∧ putR e M = M.set (j - i) e) ∧ (findE e.key M i = none → putR e M = M ++ [e])
  | [], i => ⟨fun j x h => by simp [findE] at h, fun _ => rfl⟩
  | y :: M, i => by
    obtain ⟨h1, h2⟩ := find_put e M (i + 1)
    unfold findE putR
    by_cases hk : e.key = y.key
    · rw [if_pos hk, if_pos hk]
      refine ⟨fun j x h => ?_, fun h => by cases h⟩
      cases h
      refine ⟨Nat.le_refl _, by simp, ?_, ?_⟩
      · simp [hk]
      · simp
    · rw [if_neg hk, if_neg hk]
      refine ⟨fun j x h => ?_, fun h => by rw [h2 h]; rfl⟩
      obtain ⟨g1, g2, g3, g4⟩ := h1 j x h
      have e1 : j - i = (j - (i + 1)) + 1 := by omega
      rw [e1]
      refine ⟨by omega, by simp; omega, ?_, ?_⟩
      · simpa using g3
      · rw [g4]; rfl
theorem find_shift (k : PW) : ∀ (M : List Ent) (i j : Nat), (findE k M i).map (·.2) = (findE k M j).map (·.2)
  | [], _, _ => rfl
  | x :: M, i, j => by
    unfold findE
    by_cases h : k = x.key
    · simp [h]
    · rw [if_neg h, if_neg h]; exact find_shift k M _ _
theorem lookE_cons (k : PW) (x : Ent) (M : List Ent) : lookE k (x :: M) = if k = x.key then x else lookE k M := by
  unfold lookE
  conv => lhs; unfold findE
  by_cases h : k = x.key
  · simp [h]
  · rw [if_neg h, if_neg h, find_shift k M 1 0]
theorem lookE_put (k : PW) (e : Ent) : ∀ M : List Ent, lookE k (putR e M) = if k = e.key then e else lookE k M
  | [] => by unfold putR; rw [lookE_cons]
  | x :: M => by
    unfold putR
    by_cases h : e.key = x.key
    · rw [if_pos h, lookE_cons, lookE_cons]
      by_cases hk : k = e.key
      · simp [hk]
      · rw [if_neg hk, if_neg hk, if_neg (fun h' => hk (h'.trans h.symm))]
    · rw [if_neg h, lookE_cons, lookE_cons, lookE_put k e M]
      by_cases hk : k = e.key
      · rw [if_pos hk, if_pos hk, if_neg (fun h' => h (hk.symm.trans h'))]
      · rw [if_neg hk, if_neg hk]
theorem same_key (k : PW) : Instr.sameBits 10000 k.v k.v = true := by
  unfold PW.v
  rw [show (10000 : Nat) = 9999 + 1 from rfl]
  simp [Instr.sameBits]
theorem run_stays (k : PW) (w : World) : (Instr.keyThatStays k.v k.v).run Try.prog w = .ok k.v w := by
  simp [Instr.keyThatStays, same_key]
theorem run_put {W : World} {b : Nat} {M : List Ent} (h : MapAt W b M) (e : Ent) : ∃ o : Obj, (Instr.mapUpdate 85 (.map (some b)) e.key.v e.vv).run Try.prog W = .ok () { W with heap := W.heap.setIfInBounds b o } ∧ MapAt { W with heap := W.heap.setIfInBounds b o } b (putR e M) := by
  obtain ⟨es, clock, hb, he⟩ := h
  have hlt := (Array.getElem?_eq_some_iff.1 hb).1
  have hf := run_findKey e.key W M es.toList he
  obtain ⟨p1, p2⟩ := find_put e M 0
  have hlen : es.toList.length = M.length := by have := congrArg List.length he; simpa using this
  cases hfe : findE e.key M 0 with
  | none =>
    rw [hfe] at hf
    refine ⟨.map (es.push { key := e.key.v, val := e.vv, born := clock }) (clock + 1), ?_, es.push { key := e.key.v, val := e.vv, born := clock }, clock + 1, ?_, ?_⟩
    · unfold Instr.mapUpdate
      simp only [Sem.run_bind, run_underlying Try.underlying85, Result.andThen_ok, MapKept.run_getObj_map hb, run_check_place, hf, Option.map_none, MapKept.run_setObj_map _ hb]
    · simp [hlt]
    · rw [p2 hfe]
      unfold EntsOf at he ⊢
      simp [he]
  | some q =>
    obtain ⟨j, x⟩ := q
    obtain ⟨_, g2, g3, g4⟩ := p1 j x hfe
    rw [Nat.sub_zero] at g2 g3 g4
    rw [hfe] at hf
    have h0 : es.size = M.length := by simpa using hlen
    have hj : j < es.size := by omega
    have hkey : es[j].key = e.key.v := by
      have h1 := congrArg (fun l => (l[j]?).map (·.1)) he
      simp only [List.getElem?_map] at h1
      have h2 : es.toList[j]? = some es[j] := by simp [hj]
      rw [h2] at h1
      have h3 : M[j]? = some (M[j]'g2) := by simp [g2]
      rw [h3] at h1 g3
      simp at h1 g3
      rw [h1, g3]
    refine ⟨.map (es.modify j fun y => { y with key := e.key.v, val := e.vv }) clock, ?_, es.modify j fun y => { y with key := e.key.v, val := e.vv }, clock, ?_, ?_⟩
    · unfold Instr.mapUpdate
      have hold : ((es[j]?).map (·.key)).getD e.key.v = e.key.v := by simp [hj, hkey]
      simp only [Sem.run_bind, run_underlying Try.underlying85, Result.andThen_ok, MapKept.run_getObj_map hb, run_check_place, hf, Option.map_some, hold, run_stays, MapKept.run_setObj_map _ hb]
    · simp [hlt]
    · rw [g4]
      unfold EntsOf at he ⊢
      rw [List.map_set, ← he, Array.toList_modify]
      apply List.ext_getElem?
      intro i
      simp only [List.getElem?_map, List.getElem?_modify, List.getElem?_set]
      by_cases e1 : j = i
      · subst e1
        simp [hj]
      · simp [e1]
end Go.Proofs.Ytkbdnhchlkafnab.V
namespace Go.Proofs.Ytkbdnhchlkafnab.V
open Go Go.RowKit Go.Shelf
set_option linter.unusedVariables false

def asC (j x : Nat) : Int := if j = 0 then 0 else if x = j - 1 then 1 else 0
def asU (m i : Nat) (Cs : Nat → Nat) (j : Nat) : RW := ⟨some ⟨Cs j, 0, none⟩, m, m, if j = 0 then (i : Int) else 0⟩
theorem rowCs_congr {us vs : Nat → RW} : ∀ {l : Nat}, (∀ j, j < l → us j = vs j) → rowCs us l = rowCs vs l := fun {l} h => by
  unfold rowCs
  refine List.map_congr_left fun x hx => ?_
  have hx' : x < l * 2 := by simpa using hx
  rw [h (x / 2) (by omega)]
theorem rowCs_succ (us : Nat → RW) (l : Nat) : rowCs us (l + 1) = rowCs us l ++ [.slice (us l).ca (us l).cl (us l).cc, .int .i64 (us l).con] := by
  unfold rowCs
  have e : (l + 1) * 2 = l * 2 + 2 := by omega
  rw [e, List.range_add, List.map_append]
  congr 1
  have e1 : (l * 2 + 1) / 2 = l := by omega
  have e2 : (l * 2 + 1) % 2 = 1 := by omega
  simp [List.range_succ, e1, e2]
/-- The first rows, in blocks from N on. -/
def OutPR (W : World) (N : Nat) (v : Value) (m i n : Nat) (Cs : Nat → Nat) : Prop := W.ownsRow N 47 2 v n (rowCs (asU m i Cs) n) ∧ ∀ j, j < n → N ≤ Cs j ∧ W.rowIs (Cs j) 3 m (fun x => .int .i64 (asC j x))
theorem OutPR.apart {W : World} {N m i n : Nat} {v : Value} {Cs : Nat → Nat} (h : OutPR W N v m i n Cs) {b : Nat} (hb : v.ownBlock = some b) {j : Nat} (hj : j < n) : b ≠ Cs j := by
  intro e
  obtain ⟨c, h1, _⟩ := (h.2 j hj).2
  rcases h.1.2 with ⟨rfl, _⟩ | ⟨g, cap, cur, rfl, _, hg, _⟩
  · cases hb
  · have e2 : g = b := by simpa [Value.ownBlock] using hb
    rw [e2, e, h1] at hg
    simp only [Option.some.injEq, Obj.cells.injEq] at hg
    exact absurd hg.2.1 (by decide)
theorem OutPR.keep {W V : World} {N m i n : Nat} {v : Value} {Cs : Nat → Nat} (h : OutPR W N v m i n Cs) (hk : ∀ b, N ≤ b → b < W.heap.size → V.heap[b]? = W.heap[b]?) : OutPR V N v m i n Cs := by
  refine ⟨⟨h.1.1, ?_⟩, fun j hj => ⟨(h.2 j hj).1, (h.2 j hj).2.of_block (hk _ (h.2 j hj).1 (h.2 j hj).2.lt)⟩⟩
  rcases h.1.2 with e | ⟨g, cap, cur, h1, h2, h3, h4⟩
  · exact .inl e
  · exact .inr ⟨g, cap, cur, h1, h2, (hk g h2 (Array.getElem?_eq_some_iff.1 h3).1).trans h3, h4⟩
theorem OutPR.next {W w' : World} {N m i n C : Nat} {v v' : Value} {Cs : Nat → Nat} (h : OutPR W N v m i n Cs) (hn : 0 < n) (hC : N ≤ C) (hr : W.rowIs C 3 m (fun x => .int .i64 (asC n x))) (hne : ∀ j, j < n → Cs j ≠ C)
    (ho : w'.ownsRow N 47 2 v' (n + 1) (rowCs (asU m i Cs) n ++ [.slice (some ⟨C, 0, none⟩) m m, .int .i64 0])) (hg : (W.alloc (.cells #[.slice (some ⟨C, 0, none⟩) m m, .int .i64 0] 47)).grownBy w' v.ownBlock) :
    OutPR w' N v' m i (n + 1) (fun j => if j = n then C else Cs j) := by
  have hkeep : ∀ b, b < W.heap.size → v.ownBlock ≠ some b → w'.heap[b]? = W.heap[b]? := fun b hb hne => by
    refine (hg.block b (by simp; omega) (fun e => hne e.symm)).trans (Below.heap_alloc _ _ _ hb)
  refine ⟨?_, fun j hj => ?_⟩
  · rw [rowCs_succ]
    have e1 : rowCs (asU m i fun j => if j = n then C else Cs j) n = rowCs (asU m i Cs) n := rowCs_congr fun j hj => by
      have e : (if j = n then C else Cs j) = Cs j := if_neg (by omega)
      simp only [asU, e]
    have e2 : asU m i (fun j => if j = n then C else Cs j) n = ⟨some ⟨C, 0, none⟩, m, m, 0⟩ := by
      have e : n ≠ 0 := by omega
      simp [asU, e]
    rw [e1, e2]
    exact ho
  · by_cases e : j = n
    · subst e
      simp only [if_pos]
      refine ⟨hC, hr.of_block (hkeep C hr.lt (fun e => ?_))⟩
      obtain ⟨c, h1, _⟩ := hr
      rcases h.1.2 with ⟨rfl, _⟩ | ⟨g, cap, cur, rfl, _, hg, _⟩
      · cases e
      · have e2 : g = C := by simpa [Value.ownBlock] using e
        rw [e2, h1] at hg
        simp only [Option.some.injEq, Obj.cells.injEq] at hg
        exact absurd hg.2.1 (by decide)
    · have hj' : j < n := by omega
      simp only [if_neg e]
      refine ⟨(h.2 j hj').1, (h.2 j hj').2.of_block (hkeep _ (h.2 j hj').2.lt (fun e => h.apart e hj' rfl))⟩
theorem plainR_at (m i j : Nat) (hj : j < m + 1) : (plainR m i)[j]?.getD ([], 0) = ((List.range m).map (asC j), if j = 0 then (i : Int) else 0) := by
  unfold plainR
  cases j with
  | zero =>
    simp only [List.getElem?_cons_zero, Option.getD_some]
    refine Prod.ext ?_ (by simp)
    refine List.ext_getElem (by simp) (fun x h1 h2 => by simp [asC])
  | succ j =>
    rw [List.getElem?_cons_succ, List.getElem?_map, List.getElem?_range (by omega)]
    simp only [Option.map_some, Option.getD_some]
    refine Prod.ext ?_ (by simp)
    refine List.ext_getElem (by simp [unitR]) (fun x h1 h2 => by simp [asC, unitR])
theorem OutPR.rws {W : World} {N m i : Nat} {v : Value} {Cs : Nat → Nat} (h : OutPR W N v m i (m + 1) Cs) (hm : m ≤ 1000) (hi : i ≤ 1000000) : ∃ g c, v = .slice (some ⟨g, 0, none⟩) (m + 1) c ∧ Lies N (fun V => Rws V (some ⟨g, 0, none⟩) (m + 1) (plainR m i)) W := by
  rcases h.1.2 with ⟨_, e⟩ | ⟨g, cap, cur, rfl, hb, hg, hcap, _, hsz, ht⟩
  · omega
  refine ⟨g, cap, rfl, fun V hV => ?_⟩
  have hV2 : OutPR V N (.slice (some ⟨g, 0, none⟩) (m + 1) cap) m i (m + 1) Cs := by
    refine ⟨⟨h.1.1, .inr ⟨g, cap, cur, rfl, hb, (hV.1 g cur _ hb (by decide) hg).trans hg, hcap, ‹_›, hsz, ht⟩⟩, fun j hj => ?_⟩
    obtain ⟨k1, k2⟩ := h.2 j hj
    obtain ⟨c, h1, h2⟩ := k2
    exact ⟨k1, c, (hV.1 _ c _ k1 (by decide) h1).trans h1, h2⟩
  refine ⟨by simp [plainR], by omega, .inr ⟨g, 0, rfl, fun j hj => ?_⟩⟩
  obtain ⟨k0, k1⟩ := rowCs_at (asU m i Cs) (m + 1) j hj
  have c0 := hV2.1.cellAt (j * 2) (by omega)
  have c1 := hV2.1.cellAt (j * 2 + 1) (by omega)
  rw [k0] at c0
  rw [k1] at c1
  rw [plainR_at m i j hj]
  have hr := (hV2.2 j hj).2
  refine ⟨_, _, _, by rw [Nat.zero_add]; exact c0, by rw [Nat.zero_add]; exact c1, ⟨by simp [asU], by simp only [asU]; omega, fun x hx => ?_, ?_⟩, ⟨Nat.le_refl _, fun e => by cases e⟩, ?_⟩
  · simp only [List.mem_map] at hx
    obtain ⟨y, _, rfl⟩ := hx
    unfold asC
    split
    · omega
    · split <;> omega
  · refine .inr ⟨Cs j, 0, rfl, fun x hx => ?_⟩
    have hx' : x < m := hx
    rw [Nat.zero_add, hr.cell hx']
    simp [hx']
  · simp only
    split <;> omega
set_option maxRecDepth 100000 in
set_option maxHeartbeats 2000000 in
theorem asIt_any (i m : Nat) (hi : i ≤ 1000000) (hm : m ≤ 1000) (w : World) : Calls Try.prog 12 #[.int .i64 i, .int .i64 m] w fun e w' => (∃ g c, e = .returned (.slice (some ⟨g, 0, none⟩) (m + 1) c) ∧ Lies w.heap.size (fun V => Rws V (some ⟨g, 0, none⟩) (m + 1) (plainR m i)) w') ∧ Below w.heap.size w w' := by
  have hmk := run_make_row' (P := Try.prog) 22 3 (.int .i64 0) 8 Try.underlying22 info_int rfl .i64 .i64 m (by omega) (by omega)
  obtain ⟨i0, hi0, hz0, hz1, hz2⟩ := info_parts info_R
  go_enter Try.func12, Try.ntmps12
  go_wp2_with fail
  obtain ⟨W0, hW0⟩ : ∃ W0, W0 = (w.alloc (.cells (madeCells #[.int .i64 0] m) 3)).alloc (.cells #[.slice (some ⟨w.heap.size, 0, none⟩) m m, .int .i64 i] 47) := ⟨_, rfl⟩
  have HB0 : Hid (Below w.heap.size w W0) := by rw [Hid, hW0]; exact bl_on (bl_new _) (bl_new _)
  have HA0 : Hid (OutPR W0 w.heap.size (.slice (some ⟨w.heap.size + 1, 0, none⟩) 1 1) m i 1 (fun _ => w.heap.size)) := by
    rw [Hid, hW0]
    refine ⟨?_, fun j hj => ⟨Nat.le_refl _, ?_⟩⟩
    · have := World.ownsRow_lit (base := w.heap.size) (size := 2) (e := 47) (w.alloc (.cells (madeCells #[.int .i64 0] m) 3)) #[.slice (some ⟨w.heap.size, 0, none⟩) m m, .int .i64 i] 1 (by simp) (by unfold maxLen; omega) rfl
      rw [World.size_alloc] at this
      exact this
    · obtain rfl : j = 0 := by omega
      exact (World.rowIs_made w (.int .i64 0) m 3).alloc _
  rw [← hW0]
  clear hW0
  go_loopw [5, 14] (fun va vk wr => ∃ (v : Value) (k : Nat) (Cs : Nat → Nat), v = va ∧ vk = .int .i64 k ∧ k ≤ m ∧ OutPR wr w.heap.size v m i (k + 1) Cs ∧ Below w.heap.size w wr) (fun _ vk _ => m - (intOf vk).toNat)
  case atStart => exact ⟨_, 0, _, rfl, rfl, by omega, HA0.out, HB0.out⟩
  case round =>
    clear HA0 HB0
    obtain ⟨va, k, Cs, hva, rfl, hkm, hA, hB⟩ := hrel
    subst hva
    have HA := hide hA
    have HB := hide hB
    clear hA hB
    by_cases hlt : k < m
    · have hltz : (k : Int) < (m : Int) := by omega
      obtain ⟨V2, hV2⟩ : ∃ V2, V2 = wr.alloc (.cells ((madeCells #[.int .i64 0] m).setIfInBounds k (.int .i64 1)) 3) := ⟨_, rfl⟩
      have hB2 : Below wr.heap.size wr V2 := by rw [hV2]; exact bl_new _
      have HA2 : Hid (OutPR V2 w.heap.size va m i (k + 1) Cs) := HA.out.keep fun b _ hb => hB2.block b hb
      have HR2 : Hid (V2.rowIs wr.heap.size 3 m (fun x => .int .i64 (asC (k + 1) x))) := by
        rw [Hid, hV2]
        have h1 := World.rowIs_alloc wr ((madeCells #[.int .i64 0] m).setIfInBounds k (.int .i64 1)) 3 (fun x => .int .i64 (asC (k + 1) x)) (fun x hx => by
          have hx' : x < m := by simpa [size_madeCells] using hx
          have e : asC (k + 1) x = if x = k then 1 else 0 := by
            unfold asC
            rw [if_neg (by omega : ¬ k + 1 = 0), Nat.add_sub_cancel]
          rw [e, Array.getElem?_setIfInBounds]
          by_cases c : k = x
          · subst c
            simp [size_madeCells, hx']
          · rw [if_neg c, if_neg (fun h => c h.symm)]
            simp [madeCells, hx', Nat.mod_one])
        simpa [size_madeCells] using h1
      have HBV := hide (bl_on HB.out hB2)
      have hszw := HB.out.size
      have hszv := hB2.size
      have HNE : Hid (∀ j, j < k + 1 → Cs j ≠ wr.heap.size) := fun j hj => by have := (HA.out.2 j hj).2.lt; omega
      have HV2 := hide hV2
      have HV2s : Hid (V2.heap.size = wr.heap.size + 1) := by rw [Hid, hV2]; simp
      clear hB2 hV2 hszv
      have hmc : (madeCells #[Value.int .i64 0] m)[k]? = some (.int .i64 0) := by simp [madeCells, hlt, Nat.mod_one]
      go_wp2_with (first | (at_builtin; rw [← HV2.out]; refine wpList_append_own _ (by rfl) (.tmp 22) (.tmp 25) 43 (by rfl) w.heap.size 47 i0 (.agg #[.slice none 0 0, .int .i64 0]) 2 32 Try.underlying43 hi0 hz0 hz1 hz2 rfl (by decide) va (k + 1) (rowCs (asU m i Cs) (k + 1)) (by rfl) (HA2.out.1.alloc _) ⟨wr.heap.size + 1, 0, none⟩ 1 1 [.slice (some ⟨wr.heap.size, 0, none⟩) m m, .int .i64 0] (by rfl) rfl ?_ ?_ (by unfold maxLen; omega) (by omega) (by simp; have := HV2s.out; omega) ?_) | fail)
      · intro j u hj
        have hjl : j = 0 ∨ j = 1 := by have := (List.getElem?_eq_some_iff.1 hj).1; simp at this; omega
        rw [Go.WideShapes.add_plain, ← HV2s.out]
        show (V2.alloc (.cells #[.slice (some ⟨wr.heap.size, 0, none⟩) m m, .int .i64 0] 47)).cell? ⟨V2.heap.size, 0 + j, none⟩ = _
        unfold World.cell?
        rw [World.alloc_heap_new V2 (.cells #[.slice (some ⟨wr.heap.size, 0, none⟩) m m, .int .i64 0] 47)]
        rcases hjl with rfl | rfl <;> simpa using hj
      · intro u hu
        simp at hu
        rcases hu with rfl | rfl <;> rfl
      · intro v' w' ho hg _
        have HN := hide (HA2.out.next (by omega) (by omega) HR2.out HNE.out ho hg)
        have HBW : Hid (Below w.heap.size w w') := by
          have := HV2s.out
          exact (HBV.out.trans ((bl_new _).mono (by omega))).grown hg (by simp; omega) (fun b e => (HA2.out.1.lt b e).1)
        clear ho hg
        go_wp2
        go_roundw
        case rel => exact ⟨_, k + 1, _, rfl, by go_num, by omega, HN.out, HBW.out⟩
        case measure => simp [intOf]; omega
    · have hltz : ¬ (k : Int) < (m : Int) := by omega
      obtain rfl : k = m := by omega
      obtain ⟨g, c, rfl, hL⟩ := HA.out.rws hm hi
      have HL := hide hL
      clear hL
      go_wp2
      go_ret
      exact ⟨⟨g, ⟨c, rfl⟩, HL.out⟩, HB.out⟩
end Go.Proofs.Ytkbdnhchlkafnab.V
namespace Go.Proofs.Ytkbdnhchlkafnab.V
open Go Go.RowKit Go.Shelf
set_option linter.unusedVariables false

/-- The times of the first k statements have been laid. -/
def PlInv (w : World) (ss : List Stm) (R tl k : Nat) (W : World) : Prop := ∃ f : Nat → Value, W.rowIs R 43 tl f ∧ (∀ j, j < k → ∃ g c, f j = .slice (some ⟨g, 0, none⟩) ((ss[j]?.getD stmD).box.length + 1) c ∧ Lies (R + 1) (fun V => Rws V (some ⟨g, 0, none⟩) ((ss[j]?.getD stmD).box.length + 1) (plainR (ss[j]?.getD stmD).box.length j)) W) ∧ Below w.heap.size w W
theorem PlInv.step {w W W2 : World} {ss : List Stm} {R tl k g c : Nat} (h : PlInv w ss R tl k W) (hw : w.heap.size ≤ R) (hb : Below W.heap.size W W2) (hl : Lies W.heap.size (fun V => Rws V (some ⟨g, 0, none⟩) ((ss[k]?.getD stmD).box.length + 1) (plainR (ss[k]?.getD stmD).box.length k)) W2) :
    PlInv w ss R tl (k + 1) (W2.setCell ⟨R, k, none⟩ (.slice (some ⟨g, 0, none⟩) ((ss[k]?.getD stmD).box.length + 1) c)) := by
  obtain ⟨f, h1, h2, h3⟩ := h
  have hR := h1.lt
  refine ⟨_, (h1.of_block (hb.block R hR)).set k _, fun j hj => ?_, (bl_on h3 hb).setCell (p := ⟨R, k, none⟩) (by simpa using hw) _⟩
  by_cases e : j = k
  · subst e
    exact ⟨g, c, by rw [if_pos rfl], (hl.mono (by omega)).set (by simp) _⟩
  · obtain ⟨g', c', e1, e2⟩ := h2 j (by omega)
    exact ⟨g', c', by rw [if_neg e]; exact e1, (e2.below hb).set (by simp) _⟩
theorem PlInv.times {w W : World} {ss : List Stm} {R tl : Nat} (h : PlInv w ss R tl tl W) (hl : ss.length = tl) (hm : tl ≤ 9223372036854775807) : TimesA W (some ⟨R, 0, none⟩) tl (plainT ss) := by
  obtain ⟨f, h1, h2, h3⟩ := h
  refine ⟨by simp [plainT, hl], hm, .inr ⟨R, 0, rfl, fun j hj => ?_⟩⟩
  obtain ⟨g, c, e1, e2⟩ := h2 j hj
  refine ⟨_, _, _, by rw [Nat.zero_add, h1.cell hj, e1], ?_⟩
  have e : (plainT ss)[j]?.getD [] = plainR (ss[j]?.getD stmD).box.length j := by
    have hj' : j < ss.length := by omega
    simp [plainT, hj']
  rw [e]
  exact e2.out
set_option maxRecDepth 100000 in
set_option maxHeartbeats 2000000 in
theorem oPlain_any (za : Option Addr) (zl zc : Nat) (zs : List Int) (ta : Option Addr) (tl tc : Nat) (ss : List Stm) (w : World) (hz : Ints w za zl zs) (hs : Stms w ta tl ss) (htb : tl * 24 ≤ 140737488355328) :
    Calls Try.prog 5 #[.agg #[.slice za zl zc, .slice ta tl tc]] w fun e w' => (∃ ma ml mc T, e = .returned (.slice ma ml mc) ∧ TimesA w' ma ml T ∧ (nestE zs ss = 0 → T = plainT ss)) ∧ Below w.heap.size w w' := by
  have hmk := run_make_row' (P := Try.prog) 29 43 (.slice none 0 0) 24 Try.underlying29 (by kernel_rfl) rfl .i64 .i64 tl (by omega) (by omega)
  obtain ⟨W, hW⟩ : ∃ W, W = (w.alloc (.cells #[.slice za zl zc, .slice ta tl tc] 25)).alloc (.cells (madeCells #[.slice none 0 0] tl) 43) := ⟨_, rfl⟩
  have BW : Below w.heap.size w W := by rw [hW]; exact bl_on (bl_new _) (bl_new _)
  have hr0 : W.rowIs (w.heap.size + 1) 43 tl (fun _ => .slice none 0 0) := by
    have := World.rowIs_made (w.alloc (.cells #[.slice za zl zc, .slice ta tl tc] 25)) (.slice none 0 0) tl 43
    rw [World.size_alloc] at this
    rw [hW]
    exact this
  have hn0 : NsBlk W w.heap.size za zl zc ta tl tc := by rw [hW]; exact (Below.heap_alloc _ _ _ (by simp)).trans (NsBlk.new w za zl zc ta tl tc)
  have HWR := hide (nestWrong_any za zl zc zs ta tl tc ss W (hz.below BW) (hs.below BW))
  have HBW := hide BW
  have HR0 := hide hr0
  have HN0 := hide hn0
  have HS := hide hs
  have HW := hide hW
  have hsl : ss.length = tl := hs.1
  have htl := hs.2.1
  clear hz hs BW hr0 hn0 hW
  go_enter Try.func5, Try.ntmps5
  go_wp2_with fail
  rw [← HW.out]
  refine HWR.out.mono ?_
  rintro e w1 ⟨rfl, hb1⟩
  have HB1 := hide (bl_on HBW.out hb1)
  have HR1 := hide (HR0.out.of_block (hb1.block _ HR0.out.lt))
  have HN1 := hide (HN0.out.below hb1)
  clear hb1 HWR HR0 HN0 HBW HW
  by_cases hE : nestE zs ss = 0
  · obtain ⟨n0, n1⟩ := HN1.out.cells
    have zn := HN1.out.lt
    have HOK := hide (nestE_ok hE)
    rw [hE]
    go_wp2_with fail
    have HI1 : Hid (PlInv w ss (w.heap.size + 1) tl 0 w1) := ⟨_, HR1.out, fun j hj => by omega, HB1.out⟩
    clear HR1 HB1 n0 n1 zn
    go_loopw [17] (fun vk wr => ∃ k : Nat, vk = .int .i64 k ∧ k ≤ tl ∧ PlInv w ss (w.heap.size + 1) tl k wr) (fun vk _ => tl - (intOf vk).toNat)
    case atStart => exact ⟨0, rfl, by omega, HI1.out⟩
    case round =>
      clear HI1
      obtain ⟨k, rfl, hkl, hI⟩ := hrel
      have HI := hide hI
      clear hI
      by_cases hlt : k < tl
      · have hltz : (k : Int) < (tl : Int) := by omega
        have hBw : Below w.heap.size w wr := by obtain ⟨_, _, _, h⟩ := HI.out; exact h
        have hsz := hBw.size
        obtain ⟨b, off, rfl, hst⟩ := HS.out.2.2.resolve_left (by omega)
        obtain ⟨q, hq, c0, c1, c2, c3, c4, c5, c6, c7⟩ := (hst k hlt).below hBw
        have hbx : q.bl = (ss[k]?.getD stmD).box.length := hq.box.1.1.symm
        have hso := HOK.out.stms (ss[k]?.getD stmD) (by have : k < ss.length := by omega
                                                        simp [this])
        have hfew := HOK.out.many
        have hb4 : q.bl ≤ 1000 := by have := (ptE_ok hso.pt).rank; omega
        obtain ⟨W2, hW2⟩ : ∃ W2, W2 = wr.alloc (.cells q.cs 52) := ⟨_, rfl⟩
        have B2 : Below wr.heap.size wr W2 := by rw [hW2]; exact bl_new _
        have HAS := hide (asIt_any k q.bl (by omega) hb4 W2)
        have HB2 := hide B2
        have HW2 := hide hW2
        have HBX := hide hbx
        unfold SW.cs at HW2
        clear hq hst B2 hW2 hbx hso hfew hBw
        go_wp2_with fail
        rw [← HW2.out]
        refine HAS.out.mono ?_
        rintro e w3 ⟨⟨g, c, rfl, hl⟩, hb3⟩
        have hb := bl_on HB2.out hb3
        have hIr := HI.out
        obtain ⟨f, hr, _, _⟩ := hIr
        have hr3 := hr.of_block (hb.block _ hr.lt)
        have cR := hr3.cell hlt
        have fR := hr3.frozen k
        have zR := hr3.lt
        rw [HBX.out] at hl
        have HN := hide (HI.out.step (c := c) (by omega) hb (hl.mono HB2.out.size))
        rw [← HBX.out] at HN
        clear hl hb3 hb hr hr3 HAS
        go_wp2_with fail
        go_roundw
        case rel => exact ⟨k + 1, by go_num, by omega, HN.out⟩
        case measure => simp [intOf]; omega
      · have hltz : ¬ (k : Int) < (tl : Int) := by omega
        obtain rfl : k = tl := by omega
        have HT := hide (HI.out.times hsl htl)
        have HBB : Hid (Below w.heap.size w wr) := by obtain ⟨_, _, _, h⟩ := HI.out; exact h
        clear HI
        go_wp2_with fail
        go_ret
        exact ⟨⟨_, _, ⟨_, rfl⟩, HT.out⟩, HBB.out⟩
  · have hEb : (nestE zs ss != 0) = true := by simpa using hE
    obtain ⟨E, hEE⟩ : ∃ E, E = nestE zs ss := ⟨_, rfl⟩
    rw [← hEE] at hEb ⊢
    go_wp2_with fail
    go_ret
    refine ⟨⟨_, tl, tl, List.replicate tl [], rfl, ⟨by simp, htl, ?_⟩, fun h => absurd h hE⟩, HB1.out⟩
    by_cases h0 : tl = 0
    · exact .inl h0
    · refine .inr ⟨_, 0, rfl, fun j hj => ⟨none, 0, 0, ?_, ?_⟩⟩
      · rw [Nat.zero_add]
        exact HR1.out.cell hj
      · simp only [List.getElem?_replicate, hj, if_true, Option.getD_some]
        exact ⟨rfl, by omega, .inl rfl⟩
end Go.Proofs.Ytkbdnhchlkafnab.V
