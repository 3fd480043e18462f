/-
  Spots of the program: their words; contracts: order.lead, the closure that leads. A map from places to two lists. A map from places to two lists: an entry is put.
-/
import Derived.Test.YtoidgdbgpbcebaaK10
import Derived.Test.YtoidgdbgpbcebaaK7
import Derived.Test.YtoidgdbgpbcebaaK11
import Derived.Test.YtoidgdbgpbcebaaK18
import Derived.Deep.DeepCutAuto
import Derived.Laws.StructEq
import Derived.MapKept
namespace Go.Proofs.Ytoidgdbgpbcebaa.V
open Go.RowKit
set_option linter.unusedVariables false

/-- A place: the array, where in it. -/
structure PW where
  arr : Int
  pos : Int
def PW.v (q : PW) : Value := .agg #[.int .i64 q.arr, .int .i64 q.pos]
/-- To where an access leads. -/
def leadV (zs : List Int) (a : Acc) (x : List Int) : PW := ⟨a.1, if worthV a.2 x < 0 ∨ zs[a.1.toNat]?.getD 0 ≤ worthV a.2 x then -1 else worthV a.2 x⟩
/-- The words of a spot. -/
structure TW where
  stm : Int
  xa : Option Addr
  xl : Nat
  xc : Nat
  tm : Nat → Int
  kd : Int
  va : Int
  pu : PW
  ga : Option Addr
  gl : Nat
  gc : Nat
def TW.cs (q : TW) : Array Value := #[.int .i64 q.stm, .slice q.xa q.xl q.xc, .int .i64 (q.tm 0), .int .i64 (q.tm 1), .int .i64 (q.tm 2), .int .i64 (q.tm 3), .int .i64 (q.tm 4), .int .i64 (q.tm 5), .int .i64 (q.tm 6), .int .i64 (q.tm 7), .int .i64 q.kd, .int .i64 q.va, .int .i64 q.pu.arr, .int .i64 q.pu.pos, .slice q.ga q.gl q.gc]
def TW.v (q : TW) : Value := .agg q.cs
def twD : TW := ⟨0, none, 0, 0, fun _ => 0, 0, 0, ⟨0, 0⟩, none, 0, 0⟩
/-- A spot with all that is known of it. -/
structure Sp where
  stm : Nat
  pt : List Int
  tm : Nat → Int
  kd : Int
  va : Int
  put : PW
  gets : List PW
def spDD : Sp := ⟨0, [], fun _ => 0, 0, 0, ⟨0, 0⟩, []⟩
def spOf (zs : List Int) (ss : List Stm) (T : Tms) (p : Nat × List Int) : Sp := ⟨p.1, p.2, timeV (T[p.1]?.getD []) p.2, (ss[p.1]?.getD stmD).kind, (ss[p.1]?.getD stmD).val, leadV zs (ss[p.1]?.getD stmD).put p.2, (ss[p.1]?.getD stmD).gets.map fun a => leadV zs a p.2⟩
/-- A list of places. -/
def PlsAt (w : World) (a : Option Addr) (len : Nat) (ps : List PW) : Prop := ps.length = len ∧ len ≤ 9223372036854775807 ∧ (len = 0 ∨ ∃ b off, a = some ⟨b, off, none⟩ ∧ ∀ j, j < len → w.cell? ⟨b, off + j * 2, none⟩ = some (.int .i64 (ps[j]?.getD ⟨0, 0⟩).arr) ∧ w.cell? ⟨b, off + j * 2 + 1, none⟩ = some (.int .i64 (ps[j]?.getD ⟨0, 0⟩).pos))
structure TG (w : World) (q : TW) (p : Sp) : Prop where
  stm : q.stm = (p.stm : Int)
  pt : Lst w q.xa q.xl q.xc p.pt
  tm : q.tm = p.tm
  kd : q.kd = p.kd
  va : q.va = p.va
  put : q.pu = p.put
  gets : PlsAt w q.ga q.gl p.gets
  cap : q.gl ≤ q.gc
  num : ∀ b o, q.xa = some ⟨b, o, none⟩ → ∃ cur fz, w.heap[b]? = some (.cells cur 3 fz)
theorem info_P : (Try.prog.info? 56).map (fun i => (i.zero, i.size, i.bytes)) = some (some (.agg #[.int .i64 0, .int .i64 0]), 2, 16) := by kernel_rfl
/-- The first k of what has been made, in a row of the call's own. -/
def OutP (W : World) (R len : Nat) (us : Nat → PW) (k : Nat) : Prop := ∃ f, W.rowIs R 56 (len * 2) f ∧ ∀ j, j < k → f (j * 2) = .int .i64 (us j).arr ∧ f (j * 2 + 1) = .int .i64 (us j).pos
theorem OutP.lt {W : World} {R len k : Nat} {us : Nat → PW} (h : OutP W R len us k) : R < W.heap.size := by
  obtain ⟨f, h1, _⟩ := h
  exact h1.lt
theorem OutP.below {W V : World} {R len k : Nat} {us : Nat → PW} (h : OutP W R len us k) (hb : Below W.heap.size W V) : OutP V R len us k := by
  obtain ⟨f, h1, h2⟩ := h
  exact ⟨f, h1.of_block (hb.block _ h1.lt), h2⟩
theorem OutP.lies {W : World} {R len k N : Nat} {us : Nat → PW} (h : OutP W R len us k) (hN : N ≤ R) : Lies N (fun V => OutP V R len us k) W := by
  obtain ⟨f, h1, h2⟩ := h
  exact (lies_row h1 hN).imp (fun V hV => ⟨f, hV, h2⟩)
theorem OutP.snoc {W : World} {R len k : Nat} {us : Nat → PW} (h : OutP W R len us k) (u : PW) : OutP ((W.setCell ⟨R, k * 2, none⟩ (.int .i64 u.arr)).setCell ⟨R, k * 2 + 1, none⟩ (.int .i64 u.pos)) R len (fun j => if j = k then u else us j) (k + 1) := by
  obtain ⟨f, h1, h2⟩ := h
  refine ⟨_, (h1.set (k * 2) _).set (k * 2 + 1) _, fun j hj => ?_⟩
  by_cases e : j = k
  · subst e
    simp only [if_true]
    refine ⟨?_, ?_⟩ <;> simp
  · obtain ⟨e0, e1⟩ := h2 j (by omega)
    simp only [if_neg e]
    refine ⟨by rw [if_neg (by omega)]; rw [if_neg (by omega)]; exact e0, by rw [if_neg (by omega)]; rw [if_neg (by omega)]; exact e1⟩
set_option maxRecDepth 100000 in
set_option maxHeartbeats 4000000 in
theorem eachAP (a : Option Addr) (len cap : Nat) (qs : Nat → AW) (g : Nat) (bs : Array Value) (eg : ∀ args w, (callFunc g args).run Try.prog w = .ok (.enter g args) w) (Q : Nat → PW → World → Prop) (w : World) (hlen : len * 16 ≤ 281474976710656)
    (hin : len = 0 ∨ ∃ b off, a = some ⟨b, off, none⟩ ∧ ∀ j, j < len → w.cell? ⟨b, off + j * 3, none⟩ = some (.int .i64 (qs j).arr) ∧ w.cell? ⟨b, off + j * 3 + 1, none⟩ = some (.slice (qs j).ca (qs j).cl (qs j).cc) ∧ w.cell? ⟨b, off + j * 3 + 2, none⟩ = some (.int .i64 (qs j).con))
    (hcall : ∀ (j : Nat) (W : World), j < len → Below w.heap.size w W → w.heap.size < W.heap.size → Calls Try.prog g (#[(qs j).v] ++ bs) W fun e w' => (∃ u : PW, e = .returned u.v ∧ Lies W.heap.size (Q j u) w') ∧ Below W.heap.size W w') :
    Calls Try.prog 46 #[.slice a len cap, .func (.func g) #[] bs] w fun e w' => (∃ us : Nat → PW, e = .returned (.slice (some ⟨w.heap.size, 0, none⟩) len len) ∧ OutP w' w.heap.size len us len ∧ ∀ j, j < len → Lies (w.heap.size + 1) (Q j (us j)) w') ∧ Below w.heap.size w w' := by
  have HIN := hide hin
  have HCALL := hide hcall
  obtain ⟨i0, hi, hz0, hz1, hz2⟩ := info_parts info_P
  have hmk : ∀ W : World, (Instr.makeSlice 57 (.int .i64 (len : Int)) (.int .i64 (len : Int))).run Try.prog W = .ok (.slice (some ⟨W.heap.size, 0, none⟩) len len) (W.alloc (.cells (madeCells #[.int .i64 0, .int .i64 0] (len * 2)) 56)) := fun W => by
    have := run_make (P := Try.prog) W 57 56 i0 (.agg #[.int .i64 0, .int .i64 0]) Try.underlying57 hi hz0 .i64 .i64 len len (by omega) (by omega) (by rw [hz2]; omega) (by omega)
    simpa [hz1, Value.cells] using this
  have HROW : Hid (OutP (w.alloc (.cells (madeCells #[.int .i64 0, .int .i64 0] (len * 2)) 56)) w.heap.size len (fun _ => ⟨0, 0⟩) 0) := ⟨fun i => (#[.int .i64 0, .int .i64 0] : Array Value)[i % 2]!, ⟨_, World.alloc_heap_new _ _, size_madeCells _ _, fun i hi => by simp [madeCells, hi]⟩, fun j hj => by omega⟩
  have HB0 : Hid (Below w.heap.size w (w.alloc (.cells (madeCells #[.int .i64 0, .int .i64 0] (len * 2)) 56))) := bl_new _
  clear hin hcall hi hz0 hz1 hz2
  go_enter Try.func46, Try.ntmps46
  go_wp2_with fail
  clear hmk
  go_loopw [13] (fun i wr => ∃ k : Nat, k ≤ len ∧ i = .int .i64 k ∧ (∃ us, OutP wr w.heap.size len us k ∧ ∀ j, j < k → Lies (w.heap.size + 1) (Q j (us j)) wr) ∧ Below w.heap.size w wr) (fun i _ => len - (intOf i).toNat)
  case atStart => exact ⟨0, Nat.zero_le _, rfl, ⟨_, HROW.out, fun j hj => by omega⟩, HB0.out⟩
  case round =>
    obtain ⟨k, hk, rfl, ⟨us, hT, hL⟩, hB⟩ := hrel
    have HT := hide hT
    have HL := hide hL
    have HB := hide hB
    clear HROW HB0 hL
    by_cases hlt : k < len
    · obtain ⟨b, off, rfl, hat⟩ := HIN.out.resolve_left (by omega)
      obtain ⟨c0, c1, c2⟩ := hat k hlt
      have HC0 := hide (HCALL.out k)
      obtain ⟨q, hq⟩ : ∃ q, q = qs k := ⟨_, rfl⟩
      rw [← hq] at HC0 c0 c1 c2
      have c0' := (HB.out.cell (p := ⟨b, off + k * 3, none⟩) (lt_of_cell c0)).trans c0
      have z0 := lt_of_cell c0'
      have c1' := (HB.out.cell (p := ⟨b, off + k * 3 + 1, none⟩) (lt_of_cell c1)).trans c1
      have z1 := lt_of_cell c1'
      have c2' := (HB.out.cell (p := ⟨b, off + k * 3 + 2, none⟩) (lt_of_cell c2)).trans c2
      have z2 := lt_of_cell c2'
      have hRl := hT.lt
      have B2 : Below wr.heap.size wr (wr.alloc (.cells #[.int .i64 q.arr, .slice q.ca q.cl q.cc, .int .i64 q.con] 68)) := bl_new _
      have HC := hide (HC0.out (wr.alloc (.cells #[.int .i64 q.arr, .slice q.ca q.cl q.cc, .int .i64 q.con] 68)) hlt (bl_on HB.out B2) (by rw [World.size_alloc]; omega))
      have HB2 := hide B2
      unfold AW.v  at HC
      clear hat hq B2 hT hB HC0 c0 c1 c2
      go_wp2_with fail
      refine HC.out.mono ?_
      rintro e w2 ⟨⟨u, rfl, hl⟩, hb2⟩
      have T2 := HT.out.below (bl_on HB2.out hb2)
      obtain ⟨f, r1, r2⟩ := T2
      have d0 := r1.cell (i := k * 2) (by omega)
      have y0 := r1.frozen (k * 2)
      have d1 := r1.cell (i := k * 2 + 1) (by omega)
      have y1 := r1.frozen (k * 2 + 1)
      have z3 := r1.lt
      have hsz := HB.out.size
      have HT2 := hide (OutP.snoc ⟨f, r1, r2⟩ u)
      have HLn := hide (hl.mono (N := w.heap.size + 1) (by rw [World.size_alloc]; omega))
      have HLo := hide (fun j (hj : j < k) => (HL.out j hj).below (bl_on HB2.out hb2))
      have HBb := hide (bl_on HB.out (bl_on HB2.out hb2))
      clear hb2 r1 r2 hl
      try unfold PW.v 
      go_wp2_with fail
      go_roundw
      case rel =>
        refine ⟨k + 1, by omega, by go_num, ⟨_, HT2.out, fun j hj => ?_⟩, ((HBb.out.setCell (p := ⟨w.heap.size, k * 2, none⟩) (Nat.le_refl _) _).setCell (p := ⟨w.heap.size, k * 2 + 1, none⟩) (Nat.le_refl _) _)⟩
        by_cases e : k = j
        · subst e
          simp only [if_true]
          have hl := HLn.out
          exact (((hl).set (p := ⟨w.heap.size, k * 2, none⟩) (by simp only; omega) _).set (p := ⟨w.heap.size, k * 2 + 1, none⟩) (by simp only; omega) _)
        · simp only [if_neg (fun e' : j = k => e e'.symm)]
          have hl := HLo.out j (by omega)
          exact (((hl).set (p := ⟨w.heap.size, k * 2, none⟩) (by simp only; omega) _).set (p := ⟨w.heap.size, k * 2 + 1, none⟩) (by simp only; omega) _)
      case measure => simp [intOf]; omega
    · obtain rfl : k = len := by omega
      clear hT hB
      go_wp2_with fail
      go_ret
      exact ⟨⟨us, rfl, HT.out, HL.out⟩, HB.out⟩
theorem pls_out {V : World} {R len : Nat} {us : Nat → PW} {ps : List PW} (h : OutP V R len us len) (hl : ps.length = len) (hm : len ≤ 9223372036854775807) (hg : ∀ j, j < len → us j = ps[j]?.getD ⟨0, 0⟩) : PlsAt V (some ⟨R, 0, none⟩) len ps := by
  obtain ⟨f, h1, h2⟩ := h
  refine ⟨hl, hm, .inr ⟨R, 0, rfl, fun j hj => ?_⟩⟩
  obtain ⟨e0, e1⟩ := h2 j hj
  have c0 := h1.cell (i := j * 2) (by omega)
  have c1 := h1.cell (i := j * 2 + 1) (by omega)
  rw [e0, hg j hj] at c0
  rw [e1, hg j hj] at c1
  exact ⟨by rw [Nat.zero_add]; exact c0, by rw [Nat.zero_add]; exact c1⟩
set_option maxRecDepth 100000 in
set_option maxHeartbeats 4000000 in
theorem lead_any (q : AW) (a : Acc) (xa : Option Addr) (xl xc : Nat) (x : List Int) (za : Option Addr) (zl zc : Nat) (zs : List Int) (w : World) (hq : AG w q a) (hx : Ints w xa xl x) (hz : Ints w za zl zs) (ho : AccOk zs.length a x.length) (h4 : x.length ≤ 4) (hxb : ∀ y ∈ x, 0 ≤ y ∧ y ≤ 4096) :
    Calls Try.prog 45 #[q.v, .slice xa xl xc, .slice za zl zc] w fun e w' => e = .returned (leadV zs a x).v ∧ Below w.heap.size w w' := by
  have B0 : Below w.heap.size w ((w.alloc (.cells #[.int .i64 q.arr, .slice q.ca q.cl q.cc, .int .i64 q.con] 68)).alloc (.cells #[.int .i64 0, .int .i64 0] 56)) := bl_on (bl_new _) (bl_new _)
  have P0 := (q.new w).below (bl_new (.cells #[.int .i64 0, .int .i64 0] 56))
  have PZ : ((w.alloc (.cells #[.int .i64 q.arr, .slice q.ca q.cl q.cc, .int .i64 q.con] 68)).alloc (.cells #[.int .i64 0, .int .i64 0] 56)).heap[w.heap.size + 1]? = some (.cells #[.int .i64 0, .int .i64 0] 56 (0, 0)) := by have := World.alloc_heap_new (w.alloc (.cells #[.int .i64 q.arr, .slice q.ca q.cl q.cc, .int .i64 q.con] 68)) (.cells #[.int .i64 0, .int .i64 0] 56); simpa using this
  obtain ⟨W, hW⟩ : ∃ W, W = (w.alloc (.cells #[.int .i64 q.arr, .slice q.ca q.cl q.cc, .int .i64 q.con] 68)).alloc (.cells #[.int .i64 0, .int .i64 0] 56) := ⟨_, rfl⟩
  rw [← hW] at B0 P0 PZ
  have hxl := hx.1
  have hol := ho.len
  have hcl := hq.coef.1
  have HC := hide (worth_any q.ca q.cl q.cc a.2.1 q.con xa xl xc x W (hq.coef.below B0) (hx.below B0) (by omega) (by omega) (by rw [hq.con]; exact ho.con) ho.coef hxb)
  rw [hq.con] at HC
  obtain ⟨V, hV⟩ : ∃ V, V = worthV a.2 x := ⟨_, rfl⟩
  have e2 : worthV (a.2.1, a.2.2) x = V := by rw [hV]
  rw [e2] at HC
  obtain ⟨K, hK⟩ : ∃ K : Nat, a.1 = (K : Int) := ⟨a.1.toNat, by have := ho.arr; omega⟩
  have hKl : K < zl := by have := ho.arr; have := hz.1; omega
  obtain ⟨zb, zo, rfl, hzb, hzc⟩ := hz.at (by omega)
  have cz0 := hzc K hKl
  have HLV : Hid (worthV a.2 x = V ∧ zs[a.1.toNat]?.getD 0 = zs[K]?.getD 0) := ⟨hV.symm, by rw [hK, Int.toNat_natCast]⟩
  obtain ⟨Z, hZ⟩ : ∃ Z, Z = zs[K]?.getD 0 := ⟨_, rfl⟩
  rw [← hZ] at cz0 HLV
  have HAR : Hid (a.1 = q.arr) := hq.arr.symm
  have HQA : Hid (q.arr = (K : Int)) := by rw [Hid, hq.arr, hK]
  have HB := hide B0
  have HP := hide P0
  have HZ0 := hide PZ
  have HW := hide hW
  have HCZ := hide cz0
  have HCON : Hid (q.con = a.2.2) := hq.con
  have hKz : (K : Int) < (zl : Int) := by omega
  clear hq hx hz ho B0 P0 PZ hW hzc hV e2 hK hZ cz0 hxl hol hcl
  unfold AW.v
  obtain ⟨p0, p1, p2⟩ := HP.out.cells
  have zp := HP.out.lt
  rw [HCON.out] at p2
  go_enter Try.func45, Try.ntmps45
  go_upto_region 1 with fail
  rw [← HW.out]
  go_wp2_with fail
  refine HC.out.mono ?_
  rintro e w1 ⟨rfl, hb⟩
  have HB1 := hide (bl_on HB.out hb)
  have HP1 := hide (HP.out.below hb)
  have HZ2 : Hid (w1.heap[w.heap.size + 1]? = some (.cells #[.int .i64 0, .int .i64 0] 56 (0, 0))) := (hb.block _ (Array.getElem?_eq_some_iff.1 HZ0.out).1).trans HZ0.out
  have cz := (HB1.out.cell (p := ⟨zb, zo + K, none⟩) hzb).trans HCZ.out
  have zcz := lt_of_cell cz
  clear p0 p1 p2 zp hb HP HZ0
  obtain ⟨p0, p1, p2⟩ := HP1.out.cells
  rw [HQA.out] at p0
  have zp := HP1.out.lt
  have HLE : Hid (leadV zs a x = ⟨(K : Int), if V < 0 ∨ Z ≤ V then -1 else V⟩) := by
    rw [Hid, leadV, HLV.out.1, HLV.out.2, HAR.out, HQA.out]
  by_cases c1 : V < 0
  · have HV : Hid (leadV zs a x = ⟨(K : Int), -1⟩) := by rw [Hid, HLE.out, if_pos (.inl c1)]
    have P5 := HZ2.out
    have y0 : w1.cell? ⟨w.heap.size + 1, 0, none⟩ = some (.int .i64 0) := by simp only [World.cell?, P5]; rfl
    have y1 : w1.cell? ⟨w.heap.size + 1, 1, none⟩ = some (.int .i64 0) := by simp only [World.cell?, P5]; rfl
    have g0 : w1.frozen? ⟨w.heap.size + 1, 0, none⟩ = false := by simp [World.frozen?, P5]
    have g1 : w1.frozen? ⟨w.heap.size + 1, 1, none⟩ = false := by simp [World.frozen?, P5]
    have z5 := (Array.getElem?_eq_some_iff.1 P5).1
    clear P5
    go_wp2_with fail
    have P6 : ((w1.setCell ⟨w.heap.size + 1, 0, none⟩ (.int .i64 (K : Int))).setCell ⟨w.heap.size + 1, 1, none⟩ (.int .i64 (-1))).heap[w.heap.size + 1]? = some (.cells #[.int .i64 (K : Int), .int .i64 (-1)] 56 (0, 0)) := by
      simp [World.setCell, Array.getElem?_modify, HZ2.out]
    have x0 := cells_two P6
    refine bodyPost_ret (v := .agg #[.int .i64 (K : Int), .int .i64 (-1)]) (by simp [results, Try.results45, go_sem, x0.1, x0.2]) rfl ⟨by rw [HV.out]; rfl, ?_⟩
    exact (HB1.out.setCell (p := ⟨w.heap.size + 1, 0, none⟩) (by simp only; omega) _).setCell (p := ⟨w.heap.size + 1, 1, none⟩) (by simp only; omega) _
  · by_cases c2 : Z ≤ V
    · have HV : Hid (leadV zs a x = ⟨(K : Int), -1⟩) := by rw [Hid, HLE.out, if_pos (.inr c2)]
      have P5 := HZ2.out
      have y0 : w1.cell? ⟨w.heap.size + 1, 0, none⟩ = some (.int .i64 0) := by simp only [World.cell?, P5]; rfl
      have y1 : w1.cell? ⟨w.heap.size + 1, 1, none⟩ = some (.int .i64 0) := by simp only [World.cell?, P5]; rfl
      have g0 : w1.frozen? ⟨w.heap.size + 1, 0, none⟩ = false := by simp [World.frozen?, P5]
      have g1 : w1.frozen? ⟨w.heap.size + 1, 1, none⟩ = false := by simp [World.frozen?, P5]
      have z5 := (Array.getElem?_eq_some_iff.1 P5).1
      clear P5
      go_wp2_with fail
      have P6 : ((w1.setCell ⟨w.heap.size + 1, 0, none⟩ (.int .i64 (K : Int))).setCell ⟨w.heap.size + 1, 1, none⟩ (.int .i64 (-1))).heap[w.heap.size + 1]? = some (.cells #[.int .i64 (K : Int), .int .i64 (-1)] 56 (0, 0)) := by
        simp [World.setCell, Array.getElem?_modify, HZ2.out]
      have x0 := cells_two P6
      refine bodyPost_ret (v := .agg #[.int .i64 (K : Int), .int .i64 (-1)]) (by simp [results, Try.results45, go_sem, x0.1, x0.2]) rfl ⟨by rw [HV.out]; rfl, ?_⟩
      exact (HB1.out.setCell (p := ⟨w.heap.size + 1, 0, none⟩) (by simp only; omega) _).setCell (p := ⟨w.heap.size + 1, 1, none⟩) (by simp only; omega) _
    · have HV : Hid (leadV zs a x = ⟨(K : Int), V⟩) := by rw [Hid, HLE.out, if_neg (by omega)]
      have P5 := HZ2.out
      have y0 : w1.cell? ⟨w.heap.size + 1, 0, none⟩ = some (.int .i64 0) := by simp only [World.cell?, P5]; rfl
      have y1 : w1.cell? ⟨w.heap.size + 1, 1, none⟩ = some (.int .i64 0) := by simp only [World.cell?, P5]; rfl
      have g0 : w1.frozen? ⟨w.heap.size + 1, 0, none⟩ = false := by simp [World.frozen?, P5]
      have g1 : w1.frozen? ⟨w.heap.size + 1, 1, none⟩ = false := by simp [World.frozen?, P5]
      have z5 := (Array.getElem?_eq_some_iff.1 P5).1
      clear P5
      go_wp2_with fail
      have P6 : ((w1.setCell ⟨w.heap.size + 1, 0, none⟩ (.int .i64 (K : Int))).setCell ⟨w.heap.size + 1, 1, none⟩ (.int .i64 (V))).heap[w.heap.size + 1]? = some (.cells #[.int .i64 (K : Int), .int .i64 (V)] 56 (0, 0)) := by
        simp [World.setCell, Array.getElem?_modify, HZ2.out]
      have x0 := cells_two P6
      refine bodyPost_ret (v := .agg #[.int .i64 (K : Int), .int .i64 (V)]) (by simp [results, Try.results45, go_sem, x0.1, x0.2]) rfl ⟨by rw [HV.out]; rfl, ?_⟩
      exact (HB1.out.setCell (p := ⟨w.heap.size + 1, 0, none⟩) (by simp only; omega) _).setCell (p := ⟨w.heap.size + 1, 1, none⟩) (by simp only; omega) _
set_option maxRecDepth 100000 in
set_option maxHeartbeats 4000000 in
theorem to_any (q : AW) (a : Acc) (Bx Bn : Nat) (xa : Option Addr) (xl xc : Nat) (x : List Int) (za : Option Addr) (zl zc : Nat) (zs : List Int) (w : World) (hq : AG w q a) (cx : w.cell? ⟨Bx, 0, none⟩ = some (.slice xa xl xc)) (cn : w.cell? ⟨Bn, 0, none⟩ = some (.slice za zl zc)) (hx : Ints w xa xl x) (hz : Ints w za zl zs) (ho : AccOk zs.length a x.length) (h4 : x.length ≤ 4) (hxb : ∀ y ∈ x, 0 ≤ y ∧ y ≤ 4096) :
    Calls Try.prog 44 #[q.v, .pointer (some ⟨Bx, 0, none⟩), .pointer (some ⟨Bn, 0, none⟩)] w fun e w' => e = .returned (leadV zs a x).v ∧ Below w.heap.size w w' := by
  have B0 : Below w.heap.size w ((w.alloc (.cells #[.int .i64 q.arr, .slice q.ca q.cl q.cc, .int .i64 q.con] 68)).alloc (.cells #[.int .i64 0, .int .i64 0] 56)) := bl_on (bl_new _) (bl_new _)
  have P0 := (q.new w).below (bl_new (.cells #[.int .i64 0, .int .i64 0] 56))
  have PZ : ((w.alloc (.cells #[.int .i64 q.arr, .slice q.ca q.cl q.cc, .int .i64 q.con] 68)).alloc (.cells #[.int .i64 0, .int .i64 0] 56)).heap[w.heap.size + 1]? = some (.cells #[.int .i64 0, .int .i64 0] 56 (0, 0)) := by have := World.alloc_heap_new (w.alloc (.cells #[.int .i64 q.arr, .slice q.ca q.cl q.cc, .int .i64 q.con] 68)) (.cells #[.int .i64 0, .int .i64 0] 56); simpa using this
  obtain ⟨W, hW⟩ : ∃ W, W = (w.alloc (.cells #[.int .i64 q.arr, .slice q.ca q.cl q.cc, .int .i64 q.con] 68)).alloc (.cells #[.int .i64 0, .int .i64 0] 56) := ⟨_, rfl⟩
  rw [← hW] at B0 P0 PZ
  have HC := hide (lead_any q a xa xl xc x za zl zc zs W (hq.below B0) (hx.below B0) (hz.below B0) ho h4 hxb)
  have c1 := (B0.cell (p := ⟨Bx, 0, none⟩) (lt_of_cell cx)).trans cx
  have c2 := (B0.cell (p := ⟨Bn, 0, none⟩) (lt_of_cell cn)).trans cn
  have z1 := lt_of_cell c1
  have z2 := lt_of_cell c2
  obtain ⟨p0, p1, p2⟩ := P0.cells
  have zp := P0.lt
  have HB := hide B0
  have HZ0 := hide PZ
  have HW := hide hW
  obtain ⟨u, hu⟩ : ∃ u, u = leadV zs a x := ⟨_, rfl⟩
  rw [← hu] at HC ⊢
  clear hq hx hz ho B0 P0 PZ hW hu h4 hxb cx cn
  unfold AW.v PW.v at HC
  unfold AW.v PW.v
  go_enter Try.func44, Try.ntmps44
  go_upto_region 1 with fail
  rw [← HW.out]
  go_wp2_with fail
  refine HC.out.mono ?_
  rintro e w1 ⟨rfl, hb⟩
  have HB1 := hide (bl_on HB.out hb)
  have HZ2 : Hid (w1.heap[w.heap.size + 1]? = some (.cells #[.int .i64 0, .int .i64 0] 56 (0, 0))) := (hb.block _ (Array.getElem?_eq_some_iff.1 HZ0.out).1).trans HZ0.out
  clear p0 p1 p2 zp hb HZ0 c1 c2 z1 z2
  have P5 := HZ2.out
  have y0 : w1.cell? ⟨w.heap.size + 1, 0, none⟩ = some (.int .i64 0) := by simp only [World.cell?, P5]; rfl
  have y1 : w1.cell? ⟨w.heap.size + 1, 1, none⟩ = some (.int .i64 0) := by simp only [World.cell?, P5]; rfl
  have g0 : w1.frozen? ⟨w.heap.size + 1, 0, none⟩ = false := by simp [World.frozen?, P5]
  have g1 : w1.frozen? ⟨w.heap.size + 1, 1, none⟩ = false := by simp [World.frozen?, P5]
  have z5 := (Array.getElem?_eq_some_iff.1 P5).1
  clear P5
  go_wp2_with fail
  have P6 : ((w1.setCell ⟨w.heap.size + 1, 0, none⟩ (.int .i64 u.arr)).setCell ⟨w.heap.size + 1, 1, none⟩ (.int .i64 u.pos)).heap[w.heap.size + 1]? = some (.cells #[.int .i64 u.arr, .int .i64 u.pos] 56 (0, 0)) := by
    simp [World.setCell, Array.getElem?_modify, HZ2.out]
  have x0 := cells_two P6
  refine bodyPost_ret (v := .agg #[.int .i64 u.arr, .int .i64 u.pos]) (by simp [results, Try.results44, go_sem, x0.1, x0.2]) rfl ⟨rfl, ?_⟩
  exact (HB1.out.setCell (p := ⟨w.heap.size + 1, 0, none⟩) (by simp only; omega) _).setCell (p := ⟨w.heap.size + 1, 1, none⟩) (by simp only; omega) _
/-- list.Each of accesses: to where they lead. -/
theorem eachTo (a : Option Addr) (len cap : Nat) (gs : List Acc) (Bx Bn : Nat) (xa : Option Addr) (xl xc : Nat) (x : List Int) (za : Option Addr) (zl zc : Nat) (zs : List Int) (w : World) (hr : Accs w a len gs) (hlen : len ≤ 1000) (cx : w.cell? ⟨Bx, 0, none⟩ = some (.slice xa xl xc)) (cn : w.cell? ⟨Bn, 0, none⟩ = some (.slice za zl zc)) (hx : Ints w xa xl x) (hz : Ints w za zl zs) (ho : ∀ a ∈ gs, AccOk zs.length a x.length) (h4 : x.length ≤ 4) (hxb : ∀ y ∈ x, 0 ≤ y ∧ y ≤ 4096) :
    Calls Try.prog 46 #[.slice a len cap, .func (.func 44) #[] #[.pointer (some ⟨Bx, 0, none⟩), .pointer (some ⟨Bn, 0, none⟩)]] w fun e w' => (∃ R : Nat, e = .returned (.slice (some ⟨R, 0, none⟩) len len) ∧ Lies w.heap.size (fun V => PlsAt V (some ⟨R, 0, none⟩) len (gs.map fun a => leadV zs a x)) w') ∧ Below w.heap.size w w' := by
  obtain ⟨qs, hq, hin⟩ := accs_words hr
  refine (eachAP a len cap qs 44 #[.pointer (some ⟨Bx, 0, none⟩), .pointer (some ⟨Bn, 0, none⟩)] (enters_of Try.func44 (by kernel_rfl) rfl) (fun j u V => u = leadV zs (gs[j]?.getD accD) x) w (by omega) hin (fun j W hj hb _ => ?_)).mono ?_
  · refine (to_any (qs j) (gs[j]?.getD accD) Bx Bn xa xl xc x za zl zc zs W ((hq j hj).below hb) ((hb.cell (p := ⟨Bx, 0, none⟩) (lt_of_cell cx)).trans cx) ((hb.cell (p := ⟨Bn, 0, none⟩) (lt_of_cell cn)).trans cn) (hx.below hb) (hz.below hb) (ho _ (mem_getA gs j (by rw [hr.1]; exact hj))) h4 hxb).mono ?_
    rintro e w' ⟨rfl, hb'⟩
    exact ⟨⟨_, rfl, lies_pure rfl _⟩, hb'⟩
  rintro e w' ⟨⟨us, rfl, h1, h2⟩, hb⟩
  refine ⟨⟨_, rfl, (h1.lies (Nat.le_refl _)).imp (fun V hV => pls_out hV (by rw [List.length_map]; exact hr.1) (by omega) (fun j hj => ?_))⟩, hb⟩
  have hjl : j < gs.length := by rw [hr.1]; exact hj
  rw [(h2 j hj).out]
  simp [hjl]
end Go.Proofs.Ytoidgdbgpbcebaa.V
namespace Go.Proofs.Ytoidgdbgpbcebaa.V
open Go Go.RowKit
set_option linter.unusedVariables false

/-- What a place was touched by: two lists' words. -/
structure Ent where
  key : PW
  pa : Option Addr
  pl : Nat
  pc : Nat
  ga : Option Addr
  gl : Nat
  gc : Nat
def Ent.vv (e : Ent) : Value := .agg #[.slice e.pa e.pl e.pc, .slice e.ga e.gl e.gc]
def entZ (k : PW) : Ent := ⟨k, none, 0, 0, none, 0, 0⟩
theorem pw_ext {a b : PW} : a = b ↔ a.arr = b.arr ∧ a.pos = b.pos := by
  cases a
  cases b
  simp
instance : DecidableEq PW := fun a b => decidable_of_iff _ pw_ext.symm
theorem run_eq_place (a b : PW) (w : World) : (Op.equal 56 a.v b.v).run Try.prog w = .ok (decide (a = b)) w := by
  have u3 := Try.underlying3
  have a3 := Try.isAgg3
  have z3 := Try.sizeOf3
  have hS : Try.prog.underlying 56 = some (.struct (Try.prog.fieldsOf 56)) := by kernel_rfl
  have hp : Try.prog.stoodInHeld 56 = false := by kernel_rfl
  unfold PW.v Op.equal Op.maxDepth
  rw [show (10000 : Nat) = 9999 + 1 from rfl, run_equalIn_struct w 9999 56 _ _ hS hp]
  simp only [Program.fieldsOf, Try.underlying56]
  go_simp
  by_cases h1 : a.arr = b.arr <;> by_cases h2 : a.pos = b.pos <;> simp [h1, h2, pw_ext]
theorem run_check_place (e : Bool) (a : PW) (w : World) : (Instr.checkKey e 10000 56 a.v).run Try.prog w = .ok () w := by
  have a3 := Try.isAgg3
  have z3 := Try.sizeOf3
  have hk : ∀ (n : Int) (W : World), (Instr.checkKey e (9998 + 1) 3 (.int .i64 n)).run Try.prog W = .ok () W := fun n W => MapKept.run_checkKey Try.underlying3 (by simp [MapKept.IsKey]) e 9998
  unfold PW.v
  rw [show (10000 : Nat) = 9998 + 1 + 1 from rfl, Instr.checkKey]
  simp only [Sem.run_bind, run_underlying Try.underlying56, Result.andThen_ok]
  rw [← Array.forIn_toList]
  generalize 9998 + 1 = n at hk ⊢
  simp only [List.forIn_cons, List.forIn_nil, Sem.run_bind, Sem.run_ite]
  go_simp
/-- The entry of a place. -/
def findE (k : PW) : List Ent → Nat → Option (Nat × Ent)
  | [], _ => none
  | e :: M, i => if k = e.key then some (i, e) else findE k M (i + 1)
def EntsOf (l : List MapEntry) (M : List Ent) : Prop := l.map (fun e => (e.key, e.val)) = M.map (fun e => (e.key.v, e.vv))
theorem run_find (k : PW) (w : World) : ∀ (M : List Ent) (l : List MapEntry) (i : Nat), EntsOf l M → (Instr.findAsking 56 k.v l i).run Try.prog w = .ok ((findE k M i).map fun p => (p.1, p.2.vv)) w
  | [], l, i, h => by
    have : l = [] := by simpa [EntsOf] using h
    subst this
    simp [Instr.findAsking, findE]
  | e :: M, l, i, h => by
    cases l with
    | nil => simp [EntsOf] at h
    | cons x l =>
      simp only [EntsOf, List.map_cons, List.cons.injEq, Prod.mk.injEq] at h
      obtain ⟨⟨h1, h2⟩, h3⟩ := h
      simp only [Instr.findAsking, Sem.run_bind, h1, run_eq_place, Result.andThen_ok, Sem.run_ite]
      by_cases hk : k = e.key
      · simp [hk, findE, h2]
      · have ih := run_find k w M l (i + 1) h3
        simp [hk, findE, ih]
theorem run_findKey (k : PW) (w : World) (M : List Ent) (l : List MapEntry) (h : EntsOf l M) : (Instr.findKey 56 k.v l).run Try.prog w = .ok ((findE k M 0).map fun p => (p.1, p.2.vv)) w := by
  have hf := run_find k w M l 0 h
  unfold Instr.findKey
  simp only [Sem.run_bind, run_underlying Try.underlying56, Result.andThen_ok]
  cases l with
  | nil =>
    have : M = [] := by
      have := congrArg List.length h
      simpa using this.symm
    subst this
    simp [Instr.findNow, findE]
  | cons x l =>
    have : ∀ v, Instr.sameNow (.struct v) k.v x.key = none := fun v => by unfold PW.v; rfl
    simp only [Instr.findNow, this]
    exact hf
/-- The map's block. -/
def MapAt (W : World) (b : Nat) (M : List Ent) : Prop := ∃ es clock, W.heap[b]? = some (.map es clock) ∧ EntsOf es.toList M
def lookE (k : PW) (M : List Ent) : Ent := ((findE k M 0).map (·.2)).getD (entZ k)
theorem run_look {W : World} {b : Nat} {M : List Ent} (h : MapAt W b M) (k : PW) : (Instr.lookup 116 (.map (some b)) k.v false).run Try.prog W = .ok (lookE k M).vv W := by
  obtain ⟨es, clock, hb, he⟩ := h
  have hz : (zeroValue 139).run Try.prog W = .ok (entZ k).vv W := by
    simp [entZ, Ent.vv, Try.zeroValue139]
  unfold Instr.lookup lookE
  simp only [Sem.run_bind, run_underlying Try.underlying116, Result.andThen_ok, MapKept.run_getObj_map hb, Sem.run_pure, run_check_place, run_findKey k W M es.toList he]
  cases findE k M 0 with
  | none => simp [hz]
  | some p => simp
end Go.Proofs.Ytoidgdbgpbcebaa.V
namespace Go.Proofs.Ytoidgdbgpbcebaa.V
open Go Go.RowKit
set_option linter.unusedVariables false

/-- An entry is put. -/
def putR (e : Ent) : List Ent → List Ent
  | [] => [e]
  | x :: M => if e.key = x.key then e :: M else x :: putR e M
theorem find_put (e : Ent) : ∀ (M : List Ent) (i : Nat), (∀ j x, findE e.key M i = some (j, x) → i ≤ j ∧ j - i < M.length ∧ (M[j - i]?.map (·.key)) = some e.key ∧ putR e M = M.set (j - i) e) ∧ (findE e.key M i = none → putR e M = M ++ [e])
  | [], i => ⟨fun j x h => by simp [findE] at h, fun _ => rfl⟩
  | y :: M, i => by
    obtain ⟨h1, h2⟩ := find_put e M (i + 1)
    unfold findE putR
    by_cases hk : e.key = y.key
    · rw [if_pos hk, if_pos hk]
      refine ⟨fun j x h => ?_, fun h => by cases h⟩
      cases h
      refine ⟨Nat.le_refl _, by simp, ?_, ?_⟩
      · simp [hk]
      · simp
    · rw [if_neg hk, if_neg hk]
      refine ⟨fun j x h => ?_, fun h => by rw [h2 h]; rfl⟩
      obtain ⟨g1, g2, g3, g4⟩ := h1 j x h
      have e1 : j - i = (j - (i + 1)) + 1 := by omega
      rw [e1]
      refine ⟨by omega, by simp; omega, ?_, ?_⟩
      · simpa using g3
      · rw [g4]; rfl
theorem find_shift (k : PW) : ∀ (M : List Ent) (i j : Nat), (findE k M i).map (·.2) = (findE k M j).map (·.2)
  | [], _, _ => rfl
  | x :: M, i, j => by
    unfold findE
    by_cases h : k = x.key
    · simp [h]
    · rw [if_neg h, if_neg h]; exact find_shift k M _ _
theorem lookE_cons (k : PW) (x : Ent) (M : List Ent) : lookE k (x :: M) = if k = x.key then x else lookE k M := by
  unfold lookE
  conv => lhs; unfold findE
  by_cases h : k = x.key
  · simp [h]
  · rw [if_neg h, if_neg h, find_shift k M 1 0]
theorem lookE_put (k : PW) (e : Ent) : ∀ M : List Ent, lookE k (putR e M) = if k = e.key then e else lookE k M
  | [] => by unfold putR; rw [lookE_cons]
  | x :: M => by
    unfold putR
    by_cases h : e.key = x.key
    · rw [if_pos h, lookE_cons, lookE_cons]
      by_cases hk : k = e.key
      · simp [hk]
      · rw [if_neg hk, if_neg hk, if_neg (fun h' => hk (h'.trans h.symm))]
    · rw [if_neg h, lookE_cons, lookE_cons, lookE_put k e M]
      by_cases hk : k = e.key
      · rw [if_pos hk, if_pos hk, if_neg (fun h' => h (hk.symm.trans h'))]
      · rw [if_neg hk, if_neg hk]
theorem same_key (k : PW) : Instr.sameBits 10000 k.v k.v = true := by
  unfold PW.v
  rw [show (10000 : Nat) = 9999 + 1 from rfl]
  simp [Instr.sameBits]
theorem run_stays (k : PW) (w : World) : (Instr.keyThatStays k.v k.v).run Try.prog w = .ok k.v w := by
  simp [Instr.keyThatStays, same_key]
theorem run_put {W : World} {b : Nat} {M : List Ent} (h : MapAt W b M) (e : Ent) : ∃ o : Obj, (Instr.mapUpdate 116 (.map (some b)) e.key.v e.vv).run Try.prog W = .ok () { W with heap := W.heap.setIfInBounds b o } ∧ MapAt { W with heap := W.heap.setIfInBounds b o } b (putR e M) := by
  obtain ⟨es, clock, hb, he⟩ := h
  have hlt := (Array.getElem?_eq_some_iff.1 hb).1
  have hf := run_findKey e.key W M es.toList he
  obtain ⟨p1, p2⟩ := find_put e M 0
  have hlen : es.toList.length = M.length := by have := congrArg List.length he; simpa using this
  cases hfe : findE e.key M 0 with
  | none =>
    rw [hfe] at hf
    refine ⟨.map (es.push { key := e.key.v, val := e.vv, born := clock }) (clock + 1), ?_, es.push { key := e.key.v, val := e.vv, born := clock }, clock + 1, ?_, ?_⟩
    · unfold Instr.mapUpdate
      simp only [Sem.run_bind, run_underlying Try.underlying116, Result.andThen_ok, MapKept.run_getObj_map hb, run_check_place, hf, Option.map_none, MapKept.run_setObj_map _ hb]
    · simp [hlt]
    · rw [p2 hfe]
      unfold EntsOf at he ⊢
      simp [he]
  | some q =>
    obtain ⟨j, x⟩ := q
    obtain ⟨_, g2, g3, g4⟩ := p1 j x hfe
    rw [Nat.sub_zero] at g2 g3 g4
    rw [hfe] at hf
    have h0 : es.size = M.length := by simpa using hlen
    have hj : j < es.size := by omega
    have hkey : es[j].key = e.key.v := by
      have h1 := congrArg (fun l => (l[j]?).map (·.1)) he
      simp only [List.getElem?_map] at h1
      have h2 : es.toList[j]? = some es[j] := by simp [hj]
      rw [h2] at h1
      have h3 : M[j]? = some (M[j]'g2) := by simp [g2]
      rw [h3] at h1 g3
      simp at h1 g3
      rw [h1, g3]
    refine ⟨.map (es.modify j fun y => { y with key := e.key.v, val := e.vv }) clock, ?_, es.modify j fun y => { y with key := e.key.v, val := e.vv }, clock, ?_, ?_⟩
    · unfold Instr.mapUpdate
      have hold : ((es[j]?).map (·.key)).getD e.key.v = e.key.v := by simp [hj, hkey]
      simp only [Sem.run_bind, run_underlying Try.underlying116, Result.andThen_ok, MapKept.run_getObj_map hb, run_check_place, hf, Option.map_some, hold, run_stays, MapKept.run_setObj_map _ hb]
    · simp [hlt]
    · rw [g4]
      unfold EntsOf at he ⊢
      rw [List.map_set, ← he, Array.toList_modify]
      apply List.ext_getElem?
      intro i
      simp only [List.getElem?_map, List.getElem?_modify, List.getElem?_set]
      by_cases e1 : j = i
      · subst e1
        simp [hj]
      · simp [e1]
end Go.Proofs.Ytoidgdbgpbcebaa.V
