/-
  Contracts: order.remade and its closure, over whatever functions. Contracts: memory.at, puts. Contracts: the document's Where, Number. Contract: memory.do.
-/
import Derived.Test.YtoidgdbgpbcebaaK10
import Derived.Test.YtoidgdbgpbcebaaK15
import Derived.Test.YtoidgdbgpbcebaaK11
import Derived.BigQuiet
namespace Go.Proofs.Ytoidgdbgpbcebaa.V
open Go.RowKit
set_option linter.unusedVariables false

/-- A row of the call's own. -/
def fRG (N : Nat) (y : List Int × Int) : Fact := ⟨fun v w => ∃ u : RW, v = u.v ∧ Lies N (fun V => RG V u y) w, false⟩
theorem fRG_good (N : Nat) (y : List Int × Int) : (fRG N y).Good := ⟨fun _ _ _ ⟨u, h1, h2⟩ hb => ⟨u, h1, h2.below hb⟩, fun h => by cases h⟩
def RW.acc (u : RW) (k : Int) : AW := ⟨k, u.ca, u.cl, u.cc, u.con⟩
theorem RG.acc {w : World} {u : RW} {y : List Int × Int} (h : RG w u y) {k : Int} (hk : B64 k) : AG w (u.acc k) (k, y) := ⟨rfl, h.con, h.coef, h.cap, hk, h.bd⟩
/-- What a function makes of a row. -/
def RowFn (go : Nat) (bo : Array Value) (q : RW) (y : List Int × Int) (w : World) : Prop := ∀ W, Below w.heap.size w W → Calls Try.prog go (#[q.v] ++ bo) W fun e w' => (∃ u : RW, e = .returned u.v ∧ Lies W.heap.size (fun V => RG V u y) w') ∧ Below W.heap.size W w'
theorem RowFn.below {go : Nat} {bo : Array Value} {q : RW} {y : List Int × Int} {w w1 : World} (h : RowFn go bo q y w) (hb : Below w.heap.size w w1) : RowFn go bo q y w1 := fun W hW => h W (bl_on hb hW)
def AW.row (q : AW) : RW := ⟨q.ca, q.cl, q.cc, q.con⟩
set_option maxRecDepth 100000 in
set_option maxHeartbeats 4000000 in
theorem access_any (q : AW) (a : Acc) (y : List Int × Int) (B go : Nat) (bo : Array Value) (eg : ∀ args w, (callFunc go args).run Try.prog w = .ok (.enter go args) w) (w : World) (hq : AG w q a) (hB : w.cell? ⟨B, 0, none⟩ = some (.func (.func go) #[] bo)) (hf : RowFn go bo q.row y w) :
    Calls Try.prog 97 #[q.v, .pointer (some ⟨B, 0, none⟩)] w fun e w' => (∃ u : AW, e = .returned u.v ∧ Lies w.heap.size (fun V => AG V u (a.1, y)) w') ∧ Below w.heap.size w w' := by
  have B1 : Below w.heap.size w ((w.alloc (.cells #[.int .i64 q.arr, .slice q.ca q.cl q.cc, .int .i64 q.con] 68)).alloc (.cells #[.int .i64 0, .slice none 0 0, .int .i64 0] 68)) := bl_on (bl_new _) (bl_new _)
  have P1 := (q.new w).below (bl_new (.cells #[.int .i64 0, .slice none 0 0, .int .i64 0] 68))
  have P2 := AW.new ⟨0, none, 0, 0, 0⟩ (w.alloc (.cells #[.int .i64 q.arr, .slice q.ca q.cl q.cc, .int .i64 q.con] 68))
  rw [World.size_alloc] at P2
  obtain ⟨W1, hW1⟩ : ∃ W1, W1 = (w.alloc (.cells #[.int .i64 q.arr, .slice q.ca q.cl q.cc, .int .i64 q.con] 68)).alloc (.cells #[.int .i64 0, .slice none 0 0, .int .i64 0] 68) := ⟨_, rfl⟩
  simp only at P2
  rw [← hW1] at B1 P1 P2
  have hz : W1.heap.size = w.heap.size + 2 := by rw [hW1]; simp
  have HZ := hide hz
  have HC := hide (hf.below B1)
  unfold RowFn AW.row RW.v at HC
  have po := (B1.cell (p := ⟨B, 0, none⟩) (lt_of_cell hB)).trans hB
  obtain ⟨p0, p1, p2⟩ := P1.cells
  have HP2 := hide P2
  have HB := hide B1
  have HW1 := hide hW1
  have HA := hide hq.arr
  have HBD := hide hq.bd.1
  clear hf hB B1 P1 P2 hW1 hq hz
  unfold AW.v
  go_enter Try.func97, Try.ntmps97
  go_wp2_with fail
  rw [← HW1.out]
  refine region_made 6 12 [fIs (.pointer (some ⟨w.heap.size, 0, none⟩)), fIs (.int .i64 q.arr), fIs (.func (.func go) #[] bo), fIs (.pointer (some ⟨w.heap.size, 1, none⟩)), fIs (.agg #[.slice q.ca q.cl q.cc, .int .i64 q.con]), fRG W1.heap.size y] (by kernel_rfl) (by kernel_rfl) (by kernel_rfl) (fun _ ⟨_, _⟩ ⟨_, _⟩ _ e h => by cases e; exact h) ⟨fIs_good _, fIs_good _, fIs_good _, fIs_good _, fIs_good _, fRG_good _ _, trivial⟩ ?mk ?rest
  case mk =>
    refine ⟨fun u wz hb hd => ?_, fun u wz hb hd => ?_, fun u wz hb hd => ?_, fun u wz hb hd => ?_, fun u wz hb hd => ?_, fun u wz hb hd => ?_, trivial⟩
    all_goals simp only [Act.put, List.setIfInBounds_toArray, List.set_cons_zero, List.set_cons_succ]
    · go_simp
      exact ⟨rfl, Below.refl _ _, fun h => by cases h⟩
    · have e0 : u 0 = .pointer (some ⟨w.heap.size, 0, none⟩) := hd 0 (by omega) (by kernel_rfl)
      rw [e0]
      have p0' := (hb.cell (p := ⟨w.heap.size, 0, none⟩) (lt_of_cell p0)).trans p0
      go_simp
      exact ⟨rfl, Below.refl _ _, fun h => by cases h⟩
    · have po' := (hb.cell (p := ⟨B, 0, none⟩) (lt_of_cell po)).trans po
      go_simp
      exact ⟨rfl, Below.refl _ _, fun h => by cases h⟩
    · go_simp
      exact ⟨rfl, Below.refl _ _, fun h => by cases h⟩
    · have e3 : u 3 = .pointer (some ⟨w.heap.size, 1, none⟩) := hd 3 (by omega) (by kernel_rfl)
      rw [e3]
      have p1' := (hb.cell (p := ⟨w.heap.size, 1, none⟩) (lt_of_cell p1)).trans p1
      have p2' := (hb.cell (p := ⟨w.heap.size, 2, none⟩) (lt_of_cell p2)).trans p2
      go_simp
      exact ⟨rfl, Below.refl _ _, fun h => by cases h⟩
    · have e2 : u 2 = .func (.func go) #[] bo := hd 2 (by omega) (by kernel_rfl)
      have e4 : u 4 = .agg #[.slice q.ca q.cl q.cc, .int .i64 q.con] := hd 4 (by omega) (by kernel_rfl)
      rw [e2, e4]
      go_simp
      refine (HC.out wz hb).mono ?_
      rintro e w2 ⟨⟨u, rfl, hl⟩, hb2⟩
      exact ⟨⟨u, rfl, hl.mono hb.size⟩, hb2, fun h => by cases h⟩
  case rest =>
    intro u wz hb hf hp
    have f0 : u 0 = .pointer (some ⟨w.heap.size, 0, none⟩) := hf 0 (by omega)
    have f1 : u 1 = .int .i64 q.arr := hf 1 (by omega)
    have f2 : u 2 = .func (.func go) #[] bo := hf 2 (by omega)
    have f3 : u 3 = .pointer (some ⟨w.heap.size, 1, none⟩) := hf 3 (by omega)
    have f4 : u 4 = .agg #[.slice q.ca q.cl q.cc, .int .i64 q.con] := hf 4 (by omega)
    obtain ⟨ru, f5, hl⟩ := hf 5 (by omega)
    refine UptoW.rest 2 6 (by rfl) (by kernel_rfl) ?_
    simp only [List.take, List.drop, putOps, Act.put, List.setIfInBounds_toArray, List.set_cons_zero, List.set_cons_succ, Nat.reduceAdd, f0, f1, f2, f3, f4, f5]
    clear f0 f1 f2 f3 f4 f5 hf hp
    have P5 := HP2.out.below hb
    obtain ⟨y0, y1, y2⟩ := P5.cells
    have z5 := P5.lt
    have g0 : wz.frozen? ⟨w.heap.size + 1, 0, none⟩ = false := by unfold AW.blk at P5; simp [World.frozen?, P5]
    have g1 : wz.frozen? ⟨w.heap.size + 1, 1, none⟩ = false := by unfold AW.blk at P5; simp [World.frozen?, P5]
    have g2 : wz.frozen? ⟨w.heap.size + 1, 2, none⟩ = false := by unfold AW.blk at P5; simp [World.frozen?, P5]
    have HP5 := hide P5
    have HL := hide hl
    have HB3 := hide (bl_on HB.out hb)
    clear hb P5 hl p0 p1 p2 po
    unfold RW.v
    go_wp2_with fail
    obtain ⟨W6, hW6⟩ : ∃ W6, W6 = ((wz.setCell ⟨w.heap.size + 1, 0, none⟩ (.int .i64 q.arr)).setCell ⟨w.heap.size + 1, 1, none⟩ (.slice ru.ca ru.cl ru.cc)).setCell ⟨w.heap.size + 1, 2, none⟩ (.int .i64 ru.con) := ⟨_, rfl⟩
    rw [← hW6]
    have P6 : (ru.acc q.arr).blk W6 (w.heap.size + 1) := by
      rw [hW6]
      have P5 := HP5.out
      unfold AW.blk at P5 ⊢
      simp [World.setCell, Array.getElem?_modify, P5, RW.acc]
    obtain ⟨x0, x1, x2⟩ := P6.cells
    have hLs := (((HL.out.set (p := ⟨w.heap.size + 1, 0, none⟩) (by have := HZ.out; simp only; omega) (.int .i64 q.arr)).set (p := ⟨w.heap.size + 1, 1, none⟩) (by have := HZ.out; simp only; omega) (.slice ru.ca ru.cl ru.cc)).set (p := ⟨w.heap.size + 1, 2, none⟩) (by have := HZ.out; simp only; omega) (.int .i64 ru.con))
    rw [← hW6] at hLs
    refine bodyPost_ret (v := (ru.acc q.arr).v) (by simp [results, Try.results97, go_sem, x0, x1, x2, AW.v]) rfl ⟨⟨ru.acc q.arr, rfl, ?_⟩, ?_⟩
    · have hz := HZ.out
      rw [HA.out]
      exact (hLs.mono (by omega)).imp (fun V h => h.acc HBD.out)
    · rw [hW6]
      exact ((HB3.out.setCell (p := ⟨w.heap.size + 1, 0, none⟩) (by simp only; omega) _).setCell (p := ⟨w.heap.size + 1, 1, none⟩) (by simp only; omega) _).setCell (p := ⟨w.heap.size + 1, 2, none⟩) (by simp only; omega) _
end Go.Proofs.Ytoidgdbgpbcebaa.V
namespace Go.Proofs.Ytoidgdbgpbcebaa.V
open Go.RowKit
set_option linter.unusedVariables false

theorem cells_three {W : World} {b : Nat} {x y z : Value} {t : TypeId} (h : W.heap[b]? = some (.cells #[x, y, z] t (0, 0))) : W.cell? ⟨b, 0, none⟩ = some x ∧ W.cell? ⟨b, 1, none⟩ = some y ∧ W.cell? ⟨b, 2, none⟩ = some z := by
  refine ⟨?_, ?_, ?_⟩ <;> simp [World.cell?, h]
theorem ne_w64 (n : Int) : wrap64 n = IntKind.i64.wrap n := by
  simp only [wrap64, IntKind.wrap, IntKind.bits, IntKind.signed]
  simp
  split <;> omega
theorem one_any (x : Bool) (w : World) : Calls Try.prog 96 #[.bool x] w fun e w' => e = .returned (.int .i64 (if x = true then 1 else 0)) ∧ w' = w := by
  cases x
  all_goals
    go_enter Try.func96, Try.ntmps96
    go_wp2
    go_ret
    exact ⟨rfl, rfl⟩

set_option maxRecDepth 100000 in
set_option maxHeartbeats 4000000 in
theorem puts_any (q : SW) (a b c was : Int) (w : World) (ha : B64 a) (hb : B64 b) (hc : B64 c) :
    Calls Try.prog 71 #[q.v, .agg #[.int .i64 a, .int .i64 b, .int .i64 c], .int .i64 was] w fun e w' => e = .returned (.int .i64 (numV q.kd q.va a b c was)) ∧ Below w.heap.size w w' := by
  have B1 : Below w.heap.size w ((w.alloc (.cells q.cs 71)).alloc (.cells #[.int .i64 a, .int .i64 b, .int .i64 c] 126)) := bl_on (bl_new _) (bl_new _)
  obtain ⟨p0, p1, p2, p3, p4, p5, p6, p7⟩ := ((SW.new q w).below (bl_new (.cells #[.int .i64 a, .int .i64 b, .int .i64 c] 126))).cells
  have hn := World.alloc_heap_new (w.alloc (.cells q.cs 71)) (.cells #[.int .i64 a, .int .i64 b, .int .i64 c] 126)
  rw [World.size_alloc] at hn
  obtain ⟨g0, g1, g2⟩ := cells_three hn
  have HB := hide B1
  obtain ⟨a1, a2⟩ := ha
  obtain ⟨b1, b2⟩ := hb
  obtain ⟨c1, c2⟩ := hc
  obtain ⟨ba, bl, bc, ra, rl, rc, kd, va, ⟨parr, pca, pcl, pcc, pcon⟩, ga, gl, gc⟩ := q
  simp only [SW.v, SW.cs] at *
  obtain ⟨W, hW⟩ : ∃ W, W = (w.alloc (.cells #[.slice ba bl bc, .slice ra rl rc, .int .i64 kd, .int .i64 va, .int .i64 parr, .slice pca pcl pcc, .int .i64 pcon, .slice ga gl gc] 71)).alloc (.cells #[.int .i64 a, .int .i64 b, .int .i64 c] 126) := ⟨_, rfl⟩
  rw [← hW] at p0 p1 p2 p3 p4 p5 p6 p7 g0 g1 g2 HB
  have HW := hide hW
  clear B1 hn hW
  go_enter Try.func71, Try.ntmps71
  go_wp2_with fail
  rw [← HW.out]
  go_quiet (fail)
  rcases kind_cases kd with h | h | h | h | h | h | h | h | h | h | h
  case inr.inr.inr.inr.inr.inr.inr.inr.inr.inr =>
    have E : Hid (numV kd va a b c was = a) := by unfold Hid numV; simp [h]
    obtain ⟨h1, h2, h3, h4, h5, h6, h7, h8, h9, h10⟩ := h
    have k1 : (kd == 1) = false := by simpa using h1
    have k2 : (kd == 2) = false := by simpa using h2
    have k3 : (kd == 3) = false := by simpa using h3
    have k4 : (kd == 4) = false := by simpa using h4
    have k5 : (kd == 5) = false := by simpa using h5
    have k6 : (kd == 6) = false := by simpa using h6
    have k7 : (kd == 7) = false := by simpa using h7
    have k8 : (kd == 8) = false := by simpa using h8
    have k9 : (kd == 9) = false := by simpa using h9
    have k10 : (kd == 10) = false := by simpa using h10
    go_wp2_with fail
    go_ret
    exact ⟨by rw [E.out]; rfl, bl_on HB.out (below_drewN _ _)⟩
  all_goals
    subst h
    go_wp2_with (go_at_call 96; refine (one_any _ _).mono ?_; rintro e w' ⟨rfl, hw'⟩; obtain rfl := hw'.symm)
    all_goals go_ret
    all_goals refine ⟨?_, bl_on HB.out (below_drewN _ _)⟩
    all_goals first | rfl | (simp_all [numV, ne_w64]; done) | (simp_all [numV]; done) | (simp_all [numV]; omega)

set_option maxRecDepth 100000 in
set_option maxHeartbeats 2000000 in
theorem mat_any (N : Nat) (a : Option Addr) (len cap : Nat) (G C : Nat → Nat) (M : Mem) (q : AW) (ac : Acc) (xa : Option Addr) (xl xc : Nat) (x : List Int) (w : World) (hM : Mems w N a G C M) (hl : M.length = len) (hm : len ≤ 9223372036854775807) (hq : AG w q ac) (ho : AccOk len ac xl) (hx : Ints w xa xl x) (hx4 : xl ≤ 4) (hxb : ∀ y ∈ x, 0 ≤ y ∧ y ≤ 4096) :
    Calls Try.prog 70 #[.slice a len cap, q.v, .slice xa xl xc] w fun e w' => ((inM M ac x ∧ e = .returned (.pointer (some ⟨G ac.1.toNat, (worthV ac.2 x).toNat, none⟩))) ∨ (¬ inM M ac x ∧ ∃ g, w.heap.size ≤ g ∧ e = .returned (.pointer (some ⟨g, 0, none⟩)) ∧ Boxed w' g 2 (.int .i64 0))) ∧ Below w.heap.size w w' := by
  have B1 : Below w.heap.size w (w.alloc (.cells #[.int .i64 q.arr, .slice q.ca q.cl q.cc, .int .i64 q.con] 68)) := bl_new _
  obtain ⟨p0, p1, p2⟩ := (AW.new q w).cells
  have ha := hq.arr
  have hk := hq.con
  have hcl : q.cl = xl := by have := hq.coef.1; have := ho.len; omega
  obtain ⟨W, hW⟩ : ∃ W, W = w.alloc (.cells #[.int .i64 q.arr, .slice q.ca q.cl q.cc, .int .i64 q.con] 68) := ⟨_, rfl⟩
  rw [← hW] at p0 p1 p2 B1
  have HN := hide (fun wz (hb : Below W.heap.size W wz) => worth_any q.ca q.cl q.cc ac.2.1 ac.2.2 xa xl xc x wz ((hq.below B1).below hb).coef ((hx.below B1).below hb) hcl (by omega) ho.con ho.coef hxb)
  obtain ⟨arr, ca, cl, cc, con⟩ := q
  obtain ⟨aa, cs, ak⟩ := ac
  simp only [AW.v] at *
  subst ha
  subst hk
  obtain rfl := hcl.symm
  have hwb := dotV_bd cs x ho.coef hxb
  have hcl4 : cs.length ≤ 4 := by have := ho.len; simp only at this; omega
  have hcon := ho.con
  simp only at hcon
  obtain ⟨P, hP⟩ : ∃ P, P = worthV (cs, con) x := ⟨_, rfl⟩
  have hPb : -20000000000 ≤ P ∧ P ≤ 20000000000 := by rw [hP]; unfold worthV; simp only; omega
  have HP := hide hP
  obtain ⟨k, hk⟩ : ∃ k : Nat, arr = (k : Int) := ⟨arr.toNat, by have := ho.arr; simp only at this; omega⟩
  subst hk
  have hkl : k < len := by have := ho.arr; simp only at this; omega
  obtain ⟨b, off, rfl, hh0, _⟩ := hM.at (k := k) (by omega)
  have hh := (B1.cell (p := ⟨b, off + k, none⟩) (lt_of_cell hh0)).trans hh0
  obtain ⟨n, hn⟩ : ∃ n, n = (arrM M k).length := ⟨_, rfl⟩
  obtain ⟨c, hc⟩ : ∃ c, c = C k := ⟨_, rfl⟩
  rw [← hn, ← hc] at hh
  have hn6 : n ≤ 65536 := by rw [hn]; exact hM.small k
  have HI : Hid (inM M ((k : Int), cs, con) x ↔ (0 ≤ P ∧ P < (n : Int))) := by
    unfold Hid inM
    simp only [Int.toNat_natCast]
    rw [← hP, ← hn]
  have hsz : W.heap.size = w.heap.size + 1 := by rw [hW]; simp
  have HB := hide B1
  have HW := hide hW
  have HRL := hide (hM.rows k (by omega)).lt
  have zz := (hM.rows k (by omega)).lt
  clear hM hq ho hx hxb hwb hcl4 hcon hP hh0 hn hc hW B1
  go_enter Try.func70, Try.ntmps70
  go_wp2_with fail
  rw [← HW.out]
  refine region_made 9 12 [fIs (.slice (some ⟨b, off, none⟩) len cap), fIs (.pointer (some ⟨w.heap.size, 0, none⟩)), fIs (.int .i64 (k : Int)), fIs (.pointer (some ⟨b, off + k, none⟩)), fIs (.slice (some ⟨G k, 0, none⟩) n c), fIs (.pointer (some ⟨w.heap.size, 1, none⟩)), fIs (.agg #[.slice ca xl cc, .int .i64 con]), fIs (.slice xa xl xc), fIs (.int .i64 P)] (by kernel_rfl) (by kernel_rfl) (by kernel_rfl) (fun _ ⟨_, _⟩ ⟨_, _⟩ _ e h => by cases e; exact h) ⟨fIs_good _, fIs_good _, fIs_good _, fIs_good _, fIs_good _, fIs_good _, fIs_good _, fIs_good _, fIs_good _, trivial⟩ ?mk ?rest
  case mk =>
    refine ⟨fun u wz hb hd => ?_, fun u wz hb hd => ?_, fun u wz hb hd => ?_, fun u wz hb hd => ?_, fun u wz hb hd => ?_, fun u wz hb hd => ?_, fun u wz hb hd => ?_, fun u wz hb hd => ?_, fun u wz hb hd => ?_, trivial⟩
    all_goals simp only [Act.put, List.setIfInBounds_toArray, List.set_cons_zero, List.set_cons_succ]
    · go_simp
      exact ⟨rfl, Below.refl _ _, fun h => by cases h⟩
    · go_simp
      exact ⟨rfl, Below.refl _ _, fun h => by cases h⟩
    · have e1 : u 1 = .pointer (some ⟨w.heap.size, 0, none⟩) := hd 1 (by omega) (by kernel_rfl)
      rw [e1]
      have p0' := (hb.cell (p := ⟨w.heap.size, 0, none⟩) (lt_of_cell p0)).trans p0
      go_simp
      exact ⟨rfl, Below.refl _ _, fun h => by cases h⟩
    · have e0 : u 0 = .slice (some ⟨b, off, none⟩) len cap := hd 0 (by omega) (by kernel_rfl)
      have e2 : u 2 = .int .i64 (k : Int) := hd 2 (by omega) (by kernel_rfl)
      rw [e0, e2]
      go_simp
      exact ⟨rfl, Below.refl _ _, fun h => by cases h⟩
    · have e3 : u 3 = .pointer (some ⟨b, off + k, none⟩) := hd 3 (by omega) (by kernel_rfl)
      rw [e3]
      have hh' := (hb.cell (p := ⟨b, off + k, none⟩) (lt_of_cell hh)).trans hh
      go_simp
      exact ⟨rfl, Below.refl _ _, fun h => by cases h⟩
    · go_simp
      exact ⟨rfl, Below.refl _ _, fun h => by cases h⟩
    · have e5 : u 5 = .pointer (some ⟨w.heap.size, 1, none⟩) := hd 5 (by omega) (by kernel_rfl)
      rw [e5]
      have p1' := (hb.cell (p := ⟨w.heap.size, 1, none⟩) (lt_of_cell p1)).trans p1
      have p2' := (hb.cell (p := ⟨w.heap.size, 2, none⟩) (lt_of_cell p2)).trans p2
      go_simp
      exact ⟨rfl, Below.refl _ _, fun h => by cases h⟩
    · go_simp
      exact ⟨rfl, Below.refl _ _, fun h => by cases h⟩
    · have e6 : u 6 = .agg #[.slice ca xl cc, .int .i64 con] := hd 6 (by omega) (by kernel_rfl)
      have e7 : u 7 = .slice xa xl xc := hd 7 (by omega) (by kernel_rfl)
      rw [e6, e7]
      go_simp
      refine (HN.out wz hb).mono ?_
      rintro e w2 ⟨rfl, hb2⟩
      exact ⟨by rw [HP.out]; rfl, hb2, fun h => by cases h⟩
  case rest =>
    intro u wz hb hf hp
    have f0 : u 0 = .slice (some ⟨b, off, none⟩) len cap := hf 0 (by omega)
    have f1 : u 1 = .pointer (some ⟨w.heap.size, 0, none⟩) := hf 1 (by omega)
    have f2 : u 2 = .int .i64 (k : Int) := hf 2 (by omega)
    have f3 : u 3 = .pointer (some ⟨b, off + k, none⟩) := hf 3 (by omega)
    have f4 : u 4 = .slice (some ⟨G k, 0, none⟩) n c := hf 4 (by omega)
    have f5 : u 5 = .pointer (some ⟨w.heap.size, 1, none⟩) := hf 5 (by omega)
    have f6 : u 6 = .agg #[.slice ca xl cc, .int .i64 con] := hf 6 (by omega)
    have f7 : u 7 = .slice xa xl xc := hf 7 (by omega)
    have f8 : u 8 = .int .i64 P := hf 8 (by omega)
    refine UptoW.rest 2 9 (by rfl) (by kernel_rfl) ?_
    simp only [List.take, List.drop, putOps, Act.put, List.setIfInBounds_toArray, List.set_cons_zero, List.set_cons_succ, Nat.reduceAdd, f0, f1, f2, f3, f4, f5, f6, f7, f8]
    clear f0 f1 f2 f3 f4 f5 f6 f7 f8 hf hp
    have HB2 := hide (bl_on HB.out hb)
    have hsz2 := hb.size
    clear hb
    by_cases h1 : P < 0
    · have HX : Hid (¬ inM M ((k : Int), cs, con) x) := by rw [Hid, HI.out]; omega
      go_wp2_with fail
      go_ret
      exact ⟨.inr ⟨HX.out, _, by omega, rfl, Boxed.new _ _ _⟩, bl_on HB2.out (bl_new _)⟩
    · by_cases h2 : (n : Int) ≤ P
      · have HX : Hid (¬ inM M ((k : Int), cs, con) x) := by rw [Hid, HI.out]; omega
        go_wp2_with fail
        go_ret
        exact ⟨.inr ⟨HX.out, _, by omega, rfl, Boxed.new _ _ _⟩, bl_on HB2.out (bl_new _)⟩
      · have HX : Hid (inM M ((k : Int), cs, con) x) := by rw [Hid, HI.out]; omega
        obtain ⟨p, hp⟩ : ∃ p : Nat, P = (p : Int) := ⟨P.toNat, by omega⟩
        have HPP := hide hp
        rw [hp]
        have hpn : p < n := by omega
        clear h1 h2 hp
        go_wp2_with fail
        go_ret
        refine ⟨.inl ⟨HX.out, ?_⟩, HB2.out⟩
        rw [← HP.out, HPP.out]
        simp
end Go.Proofs.Ytoidgdbgpbcebaa.V
namespace Go.Proofs.Ytoidgdbgpbcebaa.V
open Go.RowKit
set_option linter.unusedVariables false

def whereV (M : Mem) (ac : Acc) (x : List Int) : Int := if inM M ac x then worthV ac.2 x else -1
set_option maxRecDepth 100000 in
set_option maxHeartbeats 2000000 in
theorem rWhere_any (M : Mem) (za : Option Addr) (zl zc : Nat) (zs : List Int) (vt : Value) (q : AW) (ac : Acc) (xa : Option Addr) (xl xc : Nat) (x : List Int) (w : World) (hz : Ints w za zl zs) (hq : AG w q ac) (ho : AccOk zl ac xl) (hx : Ints w xa xl x) (hx4 : xl ≤ 4) (hxb : ∀ y ∈ x, 0 ≤ y ∧ y ≤ 4096)
    (hf : ∀ k, k < zl → ((arrM M k).length : Int) = zs[k]?.getD 0) :
    Calls Try.prog 58 #[.agg #[.slice za zl zc, vt], q.v, .slice xa xl xc] w fun e w' => e = .returned (.int .i64 (whereV M ac x)) ∧ Below w.heap.size w w' := by
  have B0 : Below w.heap.size w (w.alloc (.cells #[.slice za zl zc, vt] 25)) := bl_new _
  have N0 : (w.alloc (.cells #[.slice za zl zc, vt] 25)).heap[w.heap.size]? = _ := World.alloc_heap_new w _
  obtain ⟨W, hW⟩ : ∃ W, W = w.alloc (.cells #[.slice za zl zc, vt] 25) := ⟨_, rfl⟩
  have hs : W.heap.size = w.heap.size + 1 := by rw [hW]; simp
  rw [← hW] at B0 N0
  have B1 : Below W.heap.size W (W.alloc (.cells #[.int .i64 q.arr, .slice q.ca q.cl q.cc, .int .i64 q.con] 68)) := bl_new _
  have P1 := AW.new q W
  have HNB : Hid (∀ w', Below (W.alloc (.cells #[.int .i64 q.arr, .slice q.ca q.cl q.cc, .int .i64 q.con] 68)).heap.size (W.alloc (.cells #[.int .i64 q.arr, .slice q.ca q.cl q.cc, .int .i64 q.con] 68)) w' → w'.cell? ⟨w.heap.size, 0, none⟩ = some (.slice za zl zc) ∧ w'.cell? ⟨w.heap.size + 1, 0, none⟩ = some (.int .i64 q.arr) ∧ w.heap.size + 1 < w'.heap.size) := fun w' hb => by
    refine ⟨?_, ?_, ?_⟩
    · rw [hb.cell (p := ⟨w.heap.size, 0, none⟩) (by simp; omega), B1.cell (p := ⟨w.heap.size, 0, none⟩) (by simp only; omega)]
      simp [World.cell?, N0]
    · rw [hb.cell (p := ⟨w.heap.size + 1, 0, none⟩) (by simp; omega), ← hs]
      exact P1.cells.1
    · have := hb.size; rw [World.size_alloc] at this; omega
  obtain ⟨p0, p1, p2⟩ := P1.cells
  rw [hs] at p0 p1 p2
  have hcl : q.cl = xl := by have := hq.coef.1; have := ho.len; omega
  have HC := hide (rAt_any q.ca q.cl q.cc ac.2.1 ac.2.2 xa xl xc x _ ((hq.below B0).below B1).coef ((hx.below B0).below B1) hcl (by omega) ho.con ho.coef hxb)
  have HB := hide (bl_on B0 B1)
  have ha := hq.arr
  have hk := hq.con
  have HW := hide hW
  have hwb := dotV_bd ac.2.1 x ho.coef hxb
  have hcl4 : ac.2.1.length ≤ 4 := by have := ho.len; omega
  have hcon := ho.con
  obtain ⟨k, hkk⟩ : ∃ k : Nat, ac.1 = (k : Int) := ⟨ac.1.toNat, by have := ho.arr; omega⟩
  have hkl : k < zl := by have := ho.arr; omega
  have HZ := hide hz
  have hm := hz.2.1
  have hfk := hf k hkl
  have hzb := hz.2.2.1 _ (mem_getD zs k (by rw [hz.1]; exact hkl))
  obtain ⟨P, hP⟩ : ∃ P, P = worthV ac.2 x := ⟨_, rfl⟩
  have hPb : -20000000000 ≤ P ∧ P ≤ 20000000000 := by rw [hP]; unfold worthV; omega
  obtain ⟨n, hn⟩ : ∃ n, n = (arrM M k).length := ⟨_, rfl⟩
  rw [← hn] at hfk
  have HI : Hid (inM M ac x ↔ (0 ≤ P ∧ P < (n : Int))) := by
    unfold Hid inM
    rw [hkk, ← hP, Int.toNat_natCast, ← hn]
  have HPV : Hid (worthV (ac.2.1, ac.2.2) x = P) := hP.symm
  obtain ⟨zb, zo, hza, hzc⟩ := hz.at (by omega)
  obtain ⟨hzb2, hzc⟩ := hzc
  have hzk := hzc k hkl
  rw [← hfk] at hzk hzb
  rw [hkk] at ha
  obtain ⟨arr, ca, cl, cc, con⟩ := q
  simp only [AW.v] at *
  subst ha
  subst hk
  subst hza
  obtain rfl := hcl.symm
  clear hq ho hx hxb hwb hcl4 hcon hkk hf hz hfk hzc B0 B1 P1 N0 hW hP hn
  rw [HW.out] at p0 p1 p2 HC HB HNB
  have HZK : Hid (∀ w', Below w.heap.size w w' → w'.cell? ⟨zb, zo + k, none⟩ = some (.int .i64 (n : Int))) := fun w' hb => (hb.cell (p := ⟨zb, zo + k, none⟩) (lt_of_cell hzk)).trans hzk
  go_enter Try.func58, Try.ntmps58
  go_wp2_with fail
  refine HC.out.mono ?_
  rintro e w2 ⟨rfl, hb⟩
  rw [HPV.out]
  have HB2 := hide (bl_on HB.out hb)
  obtain ⟨n0, n1, n2⟩ := HNB.out w2 hb
  have hzk2 := HZK.out w2 HB2.out
  have zz := lt_of_cell hzk2
  simp only at zz
  clear hb p0 p1 p2 hzk
  by_cases h1 : P < 0
  · have HX : Hid (whereV M ac x = -1) := by unfold Hid whereV; rw [if_neg (by rw [HI.out]; omega)]
    go_wp2_with fail
    go_ret
    exact ⟨by rw [HX.out]; rfl, HB2.out⟩
  · by_cases h2 : (n : Int) ≤ P
    · have HX : Hid (whereV M ac x = -1) := by unfold Hid whereV; rw [if_neg (by rw [HI.out]; omega)]
      go_wp2_with fail
      go_ret
      exact ⟨by rw [HX.out]; rfl, HB2.out⟩
    · have HX : Hid (whereV M ac x = P) := by unfold Hid whereV; rw [if_pos (by rw [HI.out]; omega)]; exact HPV.out
      go_wp2_with fail
      go_ret
      exact ⟨by rw [HX.out]; rfl, HB2.out⟩

set_option maxRecDepth 100000 in
set_option maxHeartbeats 4000000 in
theorem rNumber_any (q : SW) (va : Option Addr) (vl vc : Nat) (vs : List Int) (was : Int) (w : World) (hv : Ints w va vl vs) (ht : takesV q.kd = (vl : Int)) :
    Calls Try.prog 59 #[q.v, .slice va vl vc, .int .i64 was] w fun e w' => e = .returned (.int .i64 (numV q.kd q.va (vs[0]?.getD 0) (vs[1]?.getD 0) (vs[2]?.getD 0) was)) ∧ Below w.heap.size w w' := by
  have B1 : Below w.heap.size w (w.alloc (.cells q.cs 71)) := bl_new _
  obtain ⟨p0, p1, p2, p3, p4, p5, p6, p7⟩ := (SW.new q w).cells
  have HB := hide B1
  have HV := hide (hv.below B1)
  obtain ⟨ba, bl, bc, ra, rl, rc, kd, va', ⟨parr, pca, pcl, pcc, pcon⟩, ga, gl, gc⟩ := q
  simp only [SW.v, SW.cs] at *
  obtain ⟨W, hW⟩ : ∃ W, W = w.alloc (.cells #[.slice ba bl bc, .slice ra rl rc, .int .i64 kd, .int .i64 va', .int .i64 parr, .slice pca pcl pcc, .int .i64 pcon, .slice ga gl gc] 71) := ⟨_, rfl⟩
  rw [← hW] at p0 p1 p2 p3 p4 p5 p6 p7 HB HV
  have HW := hide hW
  obtain ⟨a0, ha0⟩ : ∃ a0, a0 = vs[0]?.getD 0 := ⟨_, rfl⟩
  obtain ⟨a1, ha1⟩ : ∃ a1, a1 = vs[1]?.getD 0 := ⟨_, rfl⟩
  obtain ⟨a2, ha2⟩ : ∃ a2, a2 = vs[2]?.getD 0 := ⟨_, rfl⟩
  have HC : Hid (∀ (h0 : 0 < vl), ∃ b off, va = some ⟨b, off, none⟩ ∧ b < W.heap.size ∧ W.cell? ⟨b, off, none⟩ = some (.int .i64 a0) ∧ (1 < vl → W.cell? ⟨b, off + 1, none⟩ = some (.int .i64 a1)) ∧ (2 < vl → W.cell? ⟨b, off + 2, none⟩ = some (.int .i64 a2))) := fun h0 => by
    obtain ⟨b, off, e, hb, hc⟩ := HV.out.at h0
    have h0' := hc 0 h0
    rw [Nat.add_zero, ← ha0] at h0'
    exact ⟨b, off, e, hb, h0', fun h1 => by rw [ha1]; exact hc 1 h1, fun h2 => by rw [ha2]; exact hc 2 h2⟩
  rw [← ha0, ← ha1, ← ha2]
  clear B1 hW hv HV ha0 ha1 ha2
  rcases kind_cases kd with h | h | h | h | h | h | h | h | h | h | h
  · subst h
    have hvl : vl = 0 := by simp [takesV] at ht; omega
    subst hvl
    clear HC ht
    have hW := HW.out
    subst hW
    clear HW
    go_enter Try.func59, Try.ntmps59
    go_wp2_with fail
    all_goals go_ret
    all_goals refine ⟨?_, HB.out⟩
    all_goals first | rfl | (simp_all [numV, ne_w64]; done) | (simp_all [numV, ne_w64]; omega)
  · subst h
    have hvl : vl = 1 := by simp [takesV] at ht; omega
    subst hvl
    obtain ⟨b, off, rfl, hb, c0, c1, c2⟩ := HC.out (by omega)
    clear c1
    clear c2
    clear HC ht
    have hW := HW.out
    subst hW
    clear HW
    go_enter Try.func59, Try.ntmps59
    go_wp2_with fail
    all_goals go_ret
    all_goals refine ⟨?_, HB.out⟩
    all_goals first | rfl | (simp_all [numV, ne_w64]; done) | (simp_all [numV, ne_w64]; omega)
  · subst h
    have hvl : vl = 2 := by simp [takesV] at ht; omega
    subst hvl
    obtain ⟨b, off, rfl, hb, c0, c1, c2⟩ := HC.out (by omega)
    have c1 := c1 (by omega)
    clear c2
    clear HC ht
    have hW := HW.out
    subst hW
    clear HW
    go_enter Try.func59, Try.ntmps59
    go_wp2_with fail
    go_quiet (fail)
    go_wp2_with fail
    all_goals go_ret
    all_goals refine ⟨?_, bl_on HB.out (below_drewN _ _)⟩
    all_goals first | rfl | (simp_all [numV, ne_w64]; done) | (simp_all [numV, ne_w64]; omega)
  · subst h
    have hvl : vl = 2 := by simp [takesV] at ht; omega
    subst hvl
    obtain ⟨b, off, rfl, hb, c0, c1, c2⟩ := HC.out (by omega)
    have c1 := c1 (by omega)
    clear c2
    clear HC ht
    have hW := HW.out
    subst hW
    clear HW
    go_enter Try.func59, Try.ntmps59
    go_wp2_with fail
    go_quiet (fail)
    go_wp2_with fail
    all_goals go_ret
    all_goals refine ⟨?_, bl_on HB.out (below_drewN _ _)⟩
    all_goals first | rfl | (simp_all [numV, ne_w64]; done) | (simp_all [numV, ne_w64]; omega)
  · subst h
    have hvl : vl = 2 := by simp [takesV] at ht; omega
    subst hvl
    obtain ⟨b, off, rfl, hb, c0, c1, c2⟩ := HC.out (by omega)
    have c1 := c1 (by omega)
    clear c2
    clear HC ht
    have hW := HW.out
    subst hW
    clear HW
    go_enter Try.func59, Try.ntmps59
    go_wp2_with fail
    go_quiet (fail)
    go_wp2_with fail
    all_goals go_ret
    all_goals refine ⟨?_, bl_on HB.out (below_drewN _ _)⟩
    all_goals first | rfl | (simp_all [numV, ne_w64]; done) | (simp_all [numV, ne_w64]; omega)
  · subst h
    have hvl : vl = 2 := by simp [takesV] at ht; omega
    subst hvl
    obtain ⟨b, off, rfl, hb, c0, c1, c2⟩ := HC.out (by omega)
    have c1 := c1 (by omega)
    clear c2
    clear HC ht
    have hW := HW.out
    subst hW
    clear HW
    go_enter Try.func59, Try.ntmps59
    go_wp2_with fail
    go_quiet (fail)
    go_wp2_with fail
    all_goals go_ret
    all_goals refine ⟨?_, bl_on HB.out (below_drewN _ _)⟩
    all_goals first | rfl | (simp_all [numV]; done) | (simp_all [numV]; omega)
  · subst h
    have hvl : vl = 2 := by simp [takesV] at ht; omega
    subst hvl
    obtain ⟨b, off, rfl, hb, c0, c1, c2⟩ := HC.out (by omega)
    have c1 := c1 (by omega)
    clear c2
    clear HC ht
    have hW := HW.out
    subst hW
    clear HW
    go_enter Try.func59, Try.ntmps59
    go_wp2_with fail
    go_quiet (fail)
    go_wp2_with fail
    all_goals go_ret
    all_goals refine ⟨?_, bl_on HB.out (below_drewN _ _)⟩
    all_goals first | rfl | (simp_all [numV]; done) | (simp_all [numV]; omega)
  · subst h
    have hvl : vl = 3 := by simp [takesV] at ht; omega
    subst hvl
    obtain ⟨b, off, rfl, hb, c0, c1, c2⟩ := HC.out (by omega)
    have c1 := c1 (by omega)
    have c2 := c2 (by omega)
    clear HC ht
    have hW := HW.out
    subst hW
    clear HW
    go_enter Try.func59, Try.ntmps59
    go_wp2_with fail
    all_goals go_ret
    all_goals refine ⟨?_, HB.out⟩
    all_goals first | rfl | (simp_all [numV]; done) | (simp_all [numV]; omega)
  · subst h
    have hvl : vl = 1 := by simp [takesV] at ht; omega
    subst hvl
    obtain ⟨b, off, rfl, hb, c0, c1, c2⟩ := HC.out (by omega)
    clear c1
    clear c2
    clear HC ht
    have hW := HW.out
    subst hW
    clear HW
    go_enter Try.func59, Try.ntmps59
    go_wp2_with fail
    all_goals go_ret
    all_goals refine ⟨?_, HB.out⟩
    all_goals first | rfl | (simp_all [numV, ne_w64]; done) | (simp_all [numV, ne_w64]; omega)
  · subst h
    have hvl : vl = 2 := by simp [takesV] at ht; omega
    subst hvl
    obtain ⟨b, off, rfl, hb, c0, c1, c2⟩ := HC.out (by omega)
    have c1 := c1 (by omega)
    clear c2
    clear HC ht
    have hW := HW.out
    subst hW
    clear HW
    go_enter Try.func59, Try.ntmps59
    go_wp2_with fail
    go_quiet (fail)
    go_wp2_with fail
    all_goals go_ret
    all_goals refine ⟨?_, bl_on HB.out (below_drewN _ _)⟩
    all_goals first | rfl | (simp_all [numV, ne_w64]; done) | (simp_all [numV, ne_w64]; omega)
  · rw [takes_none h] at ht
    omega
end Go.Proofs.Ytoidgdbgpbcebaa.V
namespace Go.Proofs.Ytoidgdbgpbcebaa.V
open Go.RowKit
set_option linter.unusedVariables false

theorem gotK_ge (M : Mem) (s : Stm) (x : List Int) (k : Nat) (h : s.gets.length ≤ k) : gotK M s x k = 0 := by unfold gotK; rw [if_neg (by omega)]
theorem gotK_lt (M : Mem) (s : Stm) (x : List Int) (k : Nat) (h : k < s.gets.length) : gotK M s x k = gotM M (s.gets[k]?.getD accD) x := by unfold gotK; rw [if_pos h]

theorem got_cell {w w' : World} {N : Nat} {a : Option Addr} {G C : Nat → Nat} {M : Mem} {ac : Acc} {x : List Int} {e : Ending} (hM : Mems w' N a G C M) (hk : ac.1.toNat < M.length)
    (hr : (inM M ac x ∧ e = .returned (.pointer (some ⟨G ac.1.toNat, (worthV ac.2 x).toNat, none⟩))) ∨ (¬ inM M ac x ∧ ∃ g, w.heap.size ≤ g ∧ e = .returned (.pointer (some ⟨g, 0, none⟩)) ∧ Boxed w' g 2 (.int .i64 0))) :
    ∃ g j, w'.cell? ⟨g, j, none⟩ = some (.int .i64 (gotM M ac x)) ∧ e = .returned (.pointer (some ⟨g, j, none⟩)) := by
  rcases hr with ⟨hin, rfl⟩ | ⟨hout, g, hg, rfl, hbx⟩
  · refine ⟨_, _, ?_, rfl⟩
    have := (hM.rows _ hk).cell (j := (worthV ac.2 x).toNat) (by have := hin.1; have := hin.2; omega)
    unfold gotM
    rw [if_pos hin]
    exact this
  · refine ⟨g, 0, ?_, rfl⟩
    unfold gotM
    rw [if_neg hout]
    exact hbx.cell

set_option maxRecDepth 100000 in
set_option maxHeartbeats 8000000 in
theorem mdo_any (N : Nat) (a : Option Addr) (len cap : Nat) (G C : Nat → Nat) (M : Mem) (q : SW) (s : Stm) (xa : Option Addr) (xl xc : Nat) (x : List Int) (w : World) (hM : Mems w N a G C M) (hl : M.length = len) (hm : len ≤ 9223372036854775807) (hs : SG w q s) (ho : StmOk len s) (hx : Ints w xa xl x) (hxl : xl = q.bl) (hxb : ∀ y ∈ x, 0 ≤ y ∧ y ≤ 4096) :
    Calls Try.prog 36 #[.slice a len cap, q.v, .slice xa xl xc] w fun e w' => (∃ v, e = .returned v) ∧ Mems w' N a G C (doM s M x) ∧ Chg G M.length w w' := by
  have hbl := hs.box.1.1
  have hgl := hs.gets.1
  have hkd := hs.kd
  have hva := hs.va
  have hx4 : xl ≤ 4 := by have := (ptE_ok ho.pt).rank; omega
  have hb1 : xl = s.box.length := by omega
  have htk := ho.takes
  have htb := takes_bd s.kind
  have hg3 : q.gl ≤ 3 := by omega
  have HAT := hide (fun (W : World) (hb : Below w.heap.size w W) (q' : AW) (ac : Acc) (hq : AG W q' ac) (hac : AccOk len ac xl) => mat_any N a len cap G C M q' ac xa xl xc x W (hM.below hb) hl hm hq hac (hx.below hb) hx4 hxb)
  have HOG := hide (fun ac h => (hb1 ▸ ho.gets ac h : AccOk len ac xl))
  have HOP := hide (hb1 ▸ ho.put : AccOk len s.put xl)
  have HPU := hide (fun W => puts_any q (gotK M s x 0) (gotK M s x 1) (gotK M s x 2) (gotM M s.put x) W (gotK_bd hM.bd _ _ _) (gotK_bd hM.bd _ _ _) (gotK_bd hM.bd _ _ _))
  have HM := hide hM
  have HGE := hide hs.gets
  have HPT := hide hs.put
  have HGL := hide hgl
  have HBV : Hid (B64 (newM M s x)) := numV_bd hs.bd.2 (gotK_bd hM.bd _ _ _) (gotK_bd hM.bd _ _ _) (gotK_bd hM.bd _ _ _)
  have HNW : Hid (newM M s x = numV q.kd q.va (gotK M s x 0) (gotK M s x 1) (gotK M s x 2) (gotM M s.put x)) := by rw [Hid, hkd, hva]; rfl
  obtain ⟨W0, hW0⟩ : ∃ W0, W0 = (w.alloc (.cells q.cs 71)).alloc (.cells #[.int .i64 0, .int .i64 0, .int .i64 0] 126) := ⟨_, rfl⟩
  have B0 : Below w.heap.size w W0 := by rw [hW0]; exact bl_on (bl_new _) (bl_new _)
  have Q0 : q.blk W0 w.heap.size := by rw [hW0]; exact (SW.new q w).below (bl_new _)
  have R0 : W0.rowIs (w.heap.size + 1) 126 3 (fun j => .int .i64 (if j < 0 then gotK M s x j else 0)) := by
    rw [hW0]
    refine ⟨#[.int .i64 0, .int .i64 0, .int .i64 0], ?_, rfl, fun i hi => ?_⟩
    · have := World.alloc_heap_new (w.alloc (.cells q.cs 71)) (.cells #[.int .i64 0, .int .i64 0, .int .i64 0] 126)
      rw [World.size_alloc] at this
      exact this
    · have : i = 0 ∨ i = 1 ∨ i = 2 := by omega
      rcases this with rfl | rfl | rfl <;> rfl
  obtain ⟨p0, p1, p2, p3, p4, p5, p6, p7⟩ := Q0.cells
  have HW0 := hide hW0
  have HB0 := hide B0
  have HQ0 := hide Q0
  have HR0 := hide R0
  have hz0 := Q0.lt
  obtain ⟨qs, hqs⟩ : ∃ qs, qs = q := ⟨_, rfl⟩
  have HQS := hide hqs
  have hgE : ∀ k, k < q.gl → gotK M s x k = gotM M (s.gets[k]?.getD accD) x := fun k hk => gotK_lt M s x k (by omega)
  have HGK := hide hgE
  obtain ⟨ba, bl, bc, ra, rl, rc, kd, va, ⟨parr, pca, pcl, pcc, pcon⟩, ga, gl, gc⟩ := q
  simp only [SW.v, SW.cs, AW.v] at *
  clear hM hs ho hx hxb B0 Q0 R0 hW0 htk htb hkd hva hgE hqs hxl hb1 hbl hgl
  go_enter Try.func36, Try.ntmps36
  go_wp2_with fail
  rw [← HW0.out]
  go_wp2_with fail
  clear p0 p1 p2 p3 p4 p5 p6 p7
  go_loopw [13] (fun i wr => ∃ k : Nat, k ≤ gl ∧ i = .int .i64 k ∧ Below w.heap.size w wr ∧ qs.blk wr w.heap.size ∧ wr.rowIs (w.heap.size + 1) 126 3 (fun j => .int .i64 (if j < k then gotK M s x j else 0))) (fun i _ => gl - (intOf i).toNat)
  case atStart => exact ⟨0, Nat.zero_le _, rfl, HB0.out, by rw [HQS.out]; exact HQ0.out, HR0.out⟩
  case round =>
    clear HQ0 HR0
    obtain ⟨k, hk, rfl, hB, hQ, hR⟩ := hrel
    have HBr := hide hB
    have HQ := hide hQ
    have HR := hide hR
    have hzr := hQ.lt
    obtain ⟨p0, p1, p2, p3, p4, p5, p6, p7⟩ := hQ.cells
    rw [HQS.out] at p0 p1 p2 p3 p4 p5 p6 p7
    simp only at p0 p1 p2 p3 p4 p5 p6 p7
    clear hB hQ hR
    by_cases hlt : k < gl
    · have hkl : k < s.gets.length := by rw [HGL.out]; exact hlt
      obtain ⟨b, off, rfl, hat⟩ := (HGE.out.below HBr.out).at (by omega)
      obtain ⟨q, hq, k1, k2, k3⟩ := (hat k hlt).words
      have z1 := lt_of_cell k1
      simp only at z1
      have B3 : Below wr.heap.size wr (wr.alloc (.cells #[.int .i64 q.arr, .slice q.ca q.cl q.cc, .int .i64 q.con] 68)) := bl_new _
      have HC := hide (HAT.out _ (bl_on HBr.out B3) q _ (hq.below B3) (HOG.out _ (mem_getA _ k hkl)))
      obtain ⟨y0, y1, y2⟩ := (AW.new q wr).cells
      have HB3 := hide B3
      have HGKk := hide (HGK.out k hlt)
      obtain ⟨aq, haq⟩ : ∃ aq, aq = s.gets[k]?.getD accD := ⟨_, rfl⟩
      rw [← haq] at HC HGKk
      have HAL : Hid (aq.1.toNat < M.length) := by have := (HOG.out _ (mem_getA _ k hkl)).arr; rw [← haq] at this; unfold Hid; omega
      obtain ⟨arr, ca, cl, cc, con⟩ := q
      simp only at *
      clear hat hq B3 hkl haq
      go_wp2_with fail
      refine HC.out.mono ?_
      rintro e w3 ⟨hr, hb⟩
      have HB4 := hide (bl_on HB3.out hb)
      have HB5 := hide (bl_on HBr.out HB4.out)
      have R4 : w3.rowIs (w.heap.size + 1) 126 3 (fun j => .int .i64 (if j < k then gotK M s x j else 0)) := HR.out.of_block (HB4.out.block _ HR.out.lt)
      have Q4 := HQ.out.below HB4.out
      have z4 := R4.lt
      have f4 := R4.frozen k
      have HR4 := hide R4
      have HQ4 := hide Q4
      have hsz := hb.size
      rw [World.size_alloc] at hsz
      have hgc := got_cell (HM.out.below HB5.out) HAL.out hr
      rw [← HGKk.out] at hgc
      obtain ⟨g, j, hcg, rfl⟩ := hgc
      clear hb hr
      have zg := lt_of_cell hcg
      simp only at zg
      have hk3 : k < 3 := by omega
      have c4 := R4.cell hk3
      clear R4 Q4 y0 y1 y2 k1 k2 k3
      go_wp2_with fail
      go_roundw
      case rel =>
        refine ⟨k + 1, by omega, by go_num, HB5.out.setCell (p := ⟨w.heap.size + 1, k, none⟩) (by simp) _, ?_, ?_⟩
        · exact (Below.heap_setCell _ ⟨w.heap.size + 1, k, none⟩ _ w.heap.size (by simp)).trans HQ4.out
        · refine (HR4.out.set k _).congr (fun j hj => ?_)
          by_cases e : j = k
          · subst e; simp
          · rw [if_neg e]
            congr 1
            by_cases e2 : j < k
            · rw [if_pos e2, if_pos (by omega)]
            · rw [if_neg e2, if_neg (by omega)]
      case measure => simp [intOf]; omega
    · obtain rfl : gl = k := by omega
      have HC := hide (HAT.out wr HBr.out ⟨parr, pca, pcl, pcc, pcon⟩ s.put (HPT.out.below HBr.out) HOP.out)
      simp only at HC
      go_wp2_with fail
      refine HC.out.mono ?_
      rintro e w3 ⟨hr, hb⟩
      have HB5 := hide (bl_on HBr.out hb)
      have R4 : w3.rowIs (w.heap.size + 1) 126 3 (fun j => .int .i64 (gotK M s x j)) := (HR.out.of_block (hb.block _ HR.out.lt)).congr (fun j hj => by
        by_cases e : j < gl
        · rw [if_pos e]
        · rw [if_neg e, gotK_ge M s x j (by rw [HGL.out]; omega)])
      have g0 := R4.cell (i := 0) (by omega)
      have g1 := R4.cell (i := 1) (by omega)
      have g2 := R4.cell (i := 2) (by omega)
      obtain ⟨p0, p1, p2, p3, p4, p5, p6, p7⟩ := (HQ.out.below hb).cells
      rw [HQS.out] at p0 p1 p2 p3 p4 p5 p6 p7
      simp only at p0 p1 p2 p3 p4 p5 p6 p7
      have z4 := R4.lt
      obtain ⟨V, hV⟩ : ∃ V, V = newM M s x := ⟨_, rfl⟩
      rw [HNW.out] at hV
      have HV := hide hV
      obtain ⟨x0, hx0⟩ : ∃ x0, x0 = gotK M s x 0 := ⟨_, rfl⟩
      obtain ⟨x1, hx1⟩ : ∃ x1, x1 = gotK M s x 1 := ⟨_, rfl⟩
      obtain ⟨x2, hx2⟩ : ∃ x2, x2 = gotK M s x 2 := ⟨_, rfl⟩
      obtain ⟨was, hwas⟩ : ∃ was, was = gotM M s.put x := ⟨_, rfl⟩
      rw [← hx0] at g0 HPU HV
      rw [← hx1] at g1 HPU HV
      rw [← hx2] at g2 HPU HV
      rw [← hwas] at HPU HV
      have HVN : Hid (V = newM M s x) := by rw [Hid, HNW.out]; exact hV
      have HMW := hide (HM.out.below HB5.out)
      rcases hr with ⟨hin, rfl⟩ | ⟨hout, g, hg, rfl, hbx⟩
      · have hkk : s.put.1.toNat < M.length := by have := HOP.out.arr; omega
        have hjj : (worthV s.put.2 x).toNat < (arrM M s.put.1.toNat).length := by have := hin.1; have := hin.2; omega
        have HKK := hide hkk
        have HJJ := hide hjj
        have hrow := HMW.out.rows _ hkk
        have hc := hrow.cell hjj
        have hg : gotM M s.put x = (arrM M s.put.1.toNat)[(worthV s.put.2 x).toNat]?.getD 0 := by unfold gotM; rw [if_pos hin]
        rw [← hg, ← hwas] at hc
        have zg := hrow.lt
        obtain ⟨gk, hgk⟩ : ∃ gk, gk = G s.put.1.toNat := ⟨_, rfl⟩
        obtain ⟨jj, hjq⟩ : ∃ jj, jj = (worthV s.put.2 x).toNat := ⟨_, rfl⟩
        rw [← hgk, ← hjq] at hc ⊢
        rw [← hgk] at zg
        have HGK2 := hide hgk
        have HJQ := hide hjq
        have HIN := hide hin
        have HFR := hide (fun (wz : World) (hb : Below w3.heap.size w3 wz) => (hrow.below hb).frozen jj)
        rw [← hgk] at HFR
        clear hb R4 hV hx0 hx1 hx2 hwas hin hkk hjj hrow hg hgk hjq
        go_wp2_with fail
        refine region_made 8 10 [fIs (.pointer (some ⟨gk, jj, none⟩)), fIs (.agg #[.slice ba bl bc, .slice ra rl rc, .int .i64 kd, .int .i64 va, .int .i64 parr, .slice pca pcl pcc, .int .i64 pcon, .slice ga gl gc]), fIs (.agg #[.int .i64 x0, .int .i64 x1, .int .i64 x2]), fIs (.pointer (some ⟨gk, jj, none⟩)), fIs (.pointer (some ⟨gk, jj, none⟩)), fIs (.int .i64 was), fIs (.int .i64 V), fIs (.pointer (some ⟨gk, jj, none⟩))] (by kernel_rfl) (by kernel_rfl) (by kernel_rfl) (fun _ ⟨_, _⟩ ⟨_, _⟩ _ e h => by cases e; exact h) ⟨fIs_good _, fIs_good _, fIs_good _, fIs_good _, fIs_good _, fIs_good _, fIs_good _, fIs_good _, trivial⟩ ?mk ?rest
        case mk =>
          refine ⟨fun u wz hb hd => ?_, fun u wz hb hd => ?_, fun u wz hb hd => ?_, fun u wz hb hd => ?_, fun u wz hb hd => ?_, fun u wz hb hd => ?_, fun u wz hb hd => ?_, fun u wz hb hd => ?_, trivial⟩
          all_goals simp only [Act.put, List.setIfInBounds_toArray, List.set_cons_zero, List.set_cons_succ]
          · go_simp
            exact ⟨rfl, Below.refl _ _, fun h => by cases h⟩
          · have p0' := (hb.cell (p := ⟨w.heap.size, 0, none⟩) (lt_of_cell p0)).trans p0
            have p1' := (hb.cell (p := ⟨w.heap.size, 1, none⟩) (lt_of_cell p1)).trans p1
            have p2' := (hb.cell (p := ⟨w.heap.size, 2, none⟩) (lt_of_cell p2)).trans p2
            have p3' := (hb.cell (p := ⟨w.heap.size, 3, none⟩) (lt_of_cell p3)).trans p3
            have p4' := (hb.cell (p := ⟨w.heap.size, 4, none⟩) (lt_of_cell p4)).trans p4
            have p5' := (hb.cell (p := ⟨w.heap.size, 5, none⟩) (lt_of_cell p5)).trans p5
            have p6' := (hb.cell (p := ⟨w.heap.size, 6, none⟩) (lt_of_cell p6)).trans p6
            have p7' := (hb.cell (p := ⟨w.heap.size, 7, none⟩) (lt_of_cell p7)).trans p7
            go_simp
            exact ⟨rfl, Below.refl _ _, fun h => by cases h⟩
          · have g0' := (hb.cell (p := ⟨w.heap.size + 1, 0, none⟩) (lt_of_cell g0)).trans g0
            have g1' := (hb.cell (p := ⟨w.heap.size + 1, 1, none⟩) (lt_of_cell g1)).trans g1
            have g2' := (hb.cell (p := ⟨w.heap.size + 1, 2, none⟩) (lt_of_cell g2)).trans g2
            go_simp
            exact ⟨rfl, Below.refl _ _, fun h => by cases h⟩
          · go_simp
            exact ⟨rfl, Below.refl _ _, fun h => by cases h⟩
          · have e3 : u 3 = .pointer (some ⟨gk, jj, none⟩) := hd 3 (by omega) (by kernel_rfl)
            rw [e3]
            go_simp
            exact ⟨rfl, Below.refl _ _, fun h => by cases h⟩
          · have e4 : u 4 = .pointer (some ⟨gk, jj, none⟩) := hd 4 (by omega) (by kernel_rfl)
            rw [e4]
            have hc' := (hb.cell (p := ⟨gk, jj, none⟩) (lt_of_cell hc)).trans hc
            go_simp
            exact ⟨rfl, Below.refl _ _, fun h => by cases h⟩
          · have e1 : u 1 = .agg #[.slice ba bl bc, .slice ra rl rc, .int .i64 kd, .int .i64 va, .int .i64 parr, .slice pca pcl pcc, .int .i64 pcon, .slice ga gl gc] := hd 1 (by omega) (by kernel_rfl)
            have e2 : u 2 = .agg #[.int .i64 x0, .int .i64 x1, .int .i64 x2] := hd 2 (by omega) (by kernel_rfl)
            have e5 : u 5 = .int .i64 was := hd 5 (by omega) (by kernel_rfl)
            rw [e1, e2, e5]
            go_simp
            refine (HPU.out wz).mono ?_
            rintro e w2 ⟨rfl, hb2⟩
            exact ⟨by rw [HV.out]; rfl, hb2, fun h => by cases h⟩
          · have e0 : u 0 = .pointer (some ⟨gk, jj, none⟩) := hd 0 (by omega) (by kernel_rfl)
            rw [e0]
            go_simp
            exact ⟨rfl, Below.refl _ _, fun h => by cases h⟩
        case rest =>
          intro u wz hb hf hp
          have f0 : u 0 = .pointer (some ⟨gk, jj, none⟩) := hf 0 (by omega)
          have f1 : u 1 = .agg #[.slice ba bl bc, .slice ra rl rc, .int .i64 kd, .int .i64 va, .int .i64 parr, .slice pca pcl pcc, .int .i64 pcon, .slice ga gl gc] := hf 1 (by omega)
          have f2 : u 2 = .agg #[.int .i64 x0, .int .i64 x1, .int .i64 x2] := hf 2 (by omega)
          have f3 : u 3 = .pointer (some ⟨gk, jj, none⟩) := hf 3 (by omega)
          have f4 : u 4 = .pointer (some ⟨gk, jj, none⟩) := hf 4 (by omega)
          have f5 : u 5 = .int .i64 was := hf 5 (by omega)
          have f6 : u 6 = .int .i64 V := hf 6 (by omega)
          have f7 : u 7 = .pointer (some ⟨gk, jj, none⟩) := hf 7 (by omega)
          refine UptoW.rest 1 8 (by rfl) (by kernel_rfl) ?_
          simp only [List.take, List.drop, putOps, Act.put, List.setIfInBounds_toArray, List.set_cons_zero, List.set_cons_succ, Nat.reduceAdd, f0, f1, f2, f3, f4, f5, f6, f7]
          clear f0 f1 f2 f3 f4 f5 f6 f7 hf hp
          have HB6 := hide (bl_on HB5.out hb)
          have fr := HFR.out wz hb
          have c' := (hb.cell (p := ⟨gk, jj, none⟩) (lt_of_cell hc)).trans hc
          have HM6 := hide (HMW.out.below hb)
          have zz := hb.size
          clear hb
          go_wp2_with fail
          refine bodyPost_end (results_none rfl _ _ _) rfl ⟨⟨_, rfl⟩, ?_, ?_⟩
          · unfold doM
            rw [if_pos HIN.out, ← HVN.out, HJQ.out, HGK2.out]
            exact HM6.out.put HKK.out HJJ.out (by rw [HVN.out]; exact HBV.out)
          · rw [HGK2.out]
            exact Chg.set HB6.out HKK.out _ _
      · have hc := hbx.cell
        have hw0 : was = 0 := by rw [hwas]; unfold gotM; rw [if_neg hout]
        rw [← hw0] at hc
        have HOUT := hide hout
        have HB3' := hide hb
        have HFR := hide (fun (wz : World) (hb : Below w3.heap.size w3 wz) => Boxed.frozen ((hb.block _ hbx.lt).trans hbx))
        have zg := hbx.lt
        have hsg : w.heap.size ≤ g := Nat.le_trans HBr.out.size hg
        have HSG : Hid (wr.heap.size ≤ g) := hg
        clear hb R4 hV hx0 hx1 hx2 hwas hout hbx hw0
        go_wp2_with fail
        refine region_made 8 10 [fIs (.pointer (some ⟨g, 0, none⟩)), fIs (.agg #[.slice ba bl bc, .slice ra rl rc, .int .i64 kd, .int .i64 va, .int .i64 parr, .slice pca pcl pcc, .int .i64 pcon, .slice ga gl gc]), fIs (.agg #[.int .i64 x0, .int .i64 x1, .int .i64 x2]), fIs (.pointer (some ⟨g, 0, none⟩)), fIs (.pointer (some ⟨g, 0, none⟩)), fIs (.int .i64 was), fIs (.int .i64 V), fIs (.pointer (some ⟨g, 0, none⟩))] (by kernel_rfl) (by kernel_rfl) (by kernel_rfl) (fun _ ⟨_, _⟩ ⟨_, _⟩ _ e h => by cases e; exact h) ⟨fIs_good _, fIs_good _, fIs_good _, fIs_good _, fIs_good _, fIs_good _, fIs_good _, fIs_good _, trivial⟩ ?mk ?rest
        case mk =>
          refine ⟨fun u wz hb hd => ?_, fun u wz hb hd => ?_, fun u wz hb hd => ?_, fun u wz hb hd => ?_, fun u wz hb hd => ?_, fun u wz hb hd => ?_, fun u wz hb hd => ?_, fun u wz hb hd => ?_, trivial⟩
          all_goals simp only [Act.put, List.setIfInBounds_toArray, List.set_cons_zero, List.set_cons_succ]
          · go_simp
            exact ⟨rfl, Below.refl _ _, fun h => by cases h⟩
          · have p0' := (hb.cell (p := ⟨w.heap.size, 0, none⟩) (lt_of_cell p0)).trans p0
            have p1' := (hb.cell (p := ⟨w.heap.size, 1, none⟩) (lt_of_cell p1)).trans p1
            have p2' := (hb.cell (p := ⟨w.heap.size, 2, none⟩) (lt_of_cell p2)).trans p2
            have p3' := (hb.cell (p := ⟨w.heap.size, 3, none⟩) (lt_of_cell p3)).trans p3
            have p4' := (hb.cell (p := ⟨w.heap.size, 4, none⟩) (lt_of_cell p4)).trans p4
            have p5' := (hb.cell (p := ⟨w.heap.size, 5, none⟩) (lt_of_cell p5)).trans p5
            have p6' := (hb.cell (p := ⟨w.heap.size, 6, none⟩) (lt_of_cell p6)).trans p6
            have p7' := (hb.cell (p := ⟨w.heap.size, 7, none⟩) (lt_of_cell p7)).trans p7
            go_simp
            exact ⟨rfl, Below.refl _ _, fun h => by cases h⟩
          · have g0' := (hb.cell (p := ⟨w.heap.size + 1, 0, none⟩) (lt_of_cell g0)).trans g0
            have g1' := (hb.cell (p := ⟨w.heap.size + 1, 1, none⟩) (lt_of_cell g1)).trans g1
            have g2' := (hb.cell (p := ⟨w.heap.size + 1, 2, none⟩) (lt_of_cell g2)).trans g2
            go_simp
            exact ⟨rfl, Below.refl _ _, fun h => by cases h⟩
          · go_simp
            exact ⟨rfl, Below.refl _ _, fun h => by cases h⟩
          · have e3 : u 3 = .pointer (some ⟨g, 0, none⟩) := hd 3 (by omega) (by kernel_rfl)
            rw [e3]
            go_simp
            exact ⟨rfl, Below.refl _ _, fun h => by cases h⟩
          · have e4 : u 4 = .pointer (some ⟨g, 0, none⟩) := hd 4 (by omega) (by kernel_rfl)
            rw [e4]
            have hc' := (hb.cell (p := ⟨g, 0, none⟩) (lt_of_cell hc)).trans hc
            go_simp
            exact ⟨rfl, Below.refl _ _, fun h => by cases h⟩
          · have e1 : u 1 = .agg #[.slice ba bl bc, .slice ra rl rc, .int .i64 kd, .int .i64 va, .int .i64 parr, .slice pca pcl pcc, .int .i64 pcon, .slice ga gl gc] := hd 1 (by omega) (by kernel_rfl)
            have e2 : u 2 = .agg #[.int .i64 x0, .int .i64 x1, .int .i64 x2] := hd 2 (by omega) (by kernel_rfl)
            have e5 : u 5 = .int .i64 was := hd 5 (by omega) (by kernel_rfl)
            rw [e1, e2, e5]
            go_simp
            refine (HPU.out wz).mono ?_
            rintro e w2 ⟨rfl, hb2⟩
            exact ⟨by rw [HV.out]; rfl, hb2, fun h => by cases h⟩
          · have e0 : u 0 = .pointer (some ⟨g, 0, none⟩) := hd 0 (by omega) (by kernel_rfl)
            rw [e0]
            go_simp
            exact ⟨rfl, Below.refl _ _, fun h => by cases h⟩
        case rest =>
          intro u wz hb hf hp
          have f0 : u 0 = .pointer (some ⟨g, 0, none⟩) := hf 0 (by omega)
          have f1 : u 1 = .agg #[.slice ba bl bc, .slice ra rl rc, .int .i64 kd, .int .i64 va, .int .i64 parr, .slice pca pcl pcc, .int .i64 pcon, .slice ga gl gc] := hf 1 (by omega)
          have f2 : u 2 = .agg #[.int .i64 x0, .int .i64 x1, .int .i64 x2] := hf 2 (by omega)
          have f3 : u 3 = .pointer (some ⟨g, 0, none⟩) := hf 3 (by omega)
          have f4 : u 4 = .pointer (some ⟨g, 0, none⟩) := hf 4 (by omega)
          have f5 : u 5 = .int .i64 was := hf 5 (by omega)
          have f6 : u 6 = .int .i64 V := hf 6 (by omega)
          have f7 : u 7 = .pointer (some ⟨g, 0, none⟩) := hf 7 (by omega)
          refine UptoW.rest 1 8 (by rfl) (by kernel_rfl) ?_
          simp only [List.take, List.drop, putOps, Act.put, List.setIfInBounds_toArray, List.set_cons_zero, List.set_cons_succ, Nat.reduceAdd, f0, f1, f2, f3, f4, f5, f6, f7]
          clear f0 f1 f2 f3 f4 f5 f6 f7 hf hp
          have HB6 := hide (bl_on HB5.out hb)
          have fr := HFR.out wz hb
          have c' := (hb.cell (p := ⟨g, 0, none⟩) (lt_of_cell hc)).trans hc
          have HM6 := hide (HMW.out.below hb)
          have zz := hb.size
          have HB7 := hide (bl_on HB3'.out hb)
          clear hb
          go_wp2_with fail
          refine bodyPost_end (results_none rfl _ _ _) rfl ⟨⟨_, rfl⟩, ?_, ?_⟩
          · unfold doM
            rw [if_neg HOUT.out]
            exact (HM.out.below HBr.out).below ((HB7.out).setCell (p := ⟨g, 0, none⟩) HSG.out _)
          · exact Chg.of_below (HB6.out.setCell (p := ⟨g, 0, none⟩) hsg _)
end Go.Proofs.Ytoidgdbgpbcebaa.V
