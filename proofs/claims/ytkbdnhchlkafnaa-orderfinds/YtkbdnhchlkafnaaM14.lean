/-
  Contract: the document's Clash. Contracts: the document's Time and Clash, at spots. Contract: the document's find. Contracts: the document's Legal, Free. Contracts: the law's sameSpot, sameFound. Spots of the program: their words; contracts: order.lead, the closure that leads. A map from places to two lists. A map from places to two lists: an entry is put.
-/
import Derived.Test.YtkbdnhchlkafnaaM8
import Derived.Test.YtkbdnhchlkafnaaM13
import Derived.BigRegion
import Derived.Deep.DeepCutAuto
import Derived.Deep.RegionHeld3
import Derived.Test.YtkbdnhchlkafnaaM12
import Derived.Deep.CutRange
import Derived.Test.YtkbdnhchlkafnaaM2
import Derived.Test.YtkbdnhchlkafnaaM10
import Derived.Test.YtkbdnhchlkafnaaM6
import Derived.Laws.StructEq
import Derived.MapKept
namespace Go.Proofs.Ytkbdnhchlkafnaa.V
open Go.RowKit
set_option linter.unusedVariables false

theorem two_new (W : World) (a b : Array Value) (t : TypeId) : Below W.heap.size W (((W.alloc (.cells a t)).alloc (.cells b t)).drew) ∧ (((W.alloc (.cells a t)).alloc (.cells b t)).drew).heap[W.heap.size]? = some (.cells a t (0, 0)) ∧ (((W.alloc (.cells a t)).alloc (.cells b t)).drew).heap[W.heap.size + 1]? = some (.cells b t (0, 0)) := by
  refine ⟨(bl_on (bl_new _) (bl_new _)).drew, ?_, ?_⟩
  · exact (Below.heap_alloc _ _ _ (by simp)).trans (World.alloc_heap_new W _)
  · have := World.alloc_heap_new (W.alloc (.cells a t)) (.cells b t)
    rw [World.size_alloc] at this
    exact this
theorem cells_eight {W : World} {b : Nat} {x0 x1 x2 x3 x4 x5 x6 x7 : Value} {t : TypeId} (h : W.heap[b]? = some (.cells #[x0, x1, x2, x3, x4, x5, x6, x7] t (0, 0))) : W.cell? ⟨b, 0, none⟩ = some x0 ∧ W.cell? ⟨b, 1, none⟩ = some x1 ∧ W.cell? ⟨b, 2, none⟩ = some x2 ∧ W.cell? ⟨b, 3, none⟩ = some x3 ∧ W.cell? ⟨b, 4, none⟩ = some x4 ∧ W.cell? ⟨b, 5, none⟩ = some x5 ∧ W.cell? ⟨b, 6, none⟩ = some x6 ∧ W.cell? ⟨b, 7, none⟩ = some x7 := by
  refine ⟨?_, ?_, ?_, ?_, ?_, ?_, ?_, ?_⟩ <;> simp [World.cell?, h]
/-- One of these gets from that place. -/
def hitG (M : Mem) (gs : List Acc) (arr : Int) (y : List Int) (P : Int) : Prop := ∃ g ∈ gs, g.1 = arr ∧ whereV M g y = P
theorem whereV_iff {M : Mem} {g : Acc} {y : List Int} {P : Int} (h : 0 ≤ P) : whereV M g y = P ↔ inM M g y ∧ worthV g.2 y = P := by
  unfold whereV
  by_cases c : inM M g y
  · rw [if_pos c]; exact ⟨fun e => ⟨c, e⟩, fun e => e.2⟩
  · rw [if_neg c]; exact ⟨fun e => by omega, fun e => absurd e.1 c⟩
theorem whereV_nn {M : Mem} {g : Acc} {y : List Int} : 0 ≤ whereV M g y ↔ inM M g y := by
  unfold whereV
  by_cases c : inM M g y
  · rw [if_pos c]; exact ⟨fun _ => c, fun _ => c.1⟩
  · rw [if_neg c]; exact ⟨fun e => by omega, fun e => absurd e c⟩
theorem clash_iff (M : Mem) (s t : Stm) (x y : List Int) : clash M s t x y ↔ (0 ≤ whereV M s.put x ∧ 0 ≤ whereV M t.put y) ∧ ((s.put.1 = t.put.1 ∧ whereV M s.put x = whereV M t.put y ∧ ¬ (9 ≤ s.kind ∧ 9 ≤ t.kind)) ∨ hitG M t.gets s.put.1 y (whereV M s.put x) ∨ hitG M s.gets t.put.1 x (whereV M t.put y)) := by
  unfold clash hitG
  rw [whereV_nn, whereV_nn]
  constructor
  · rintro ⟨⟨h1, h2⟩, h⟩
    have e1 : whereV M s.put x = worthV s.put.2 x := by unfold whereV; rw [if_pos h1]
    have e2 : whereV M t.put y = worthV t.put.2 y := by unfold whereV; rw [if_pos h2]
    refine ⟨⟨h1, h2⟩, ?_⟩
    rw [e1, e2]
    rcases h with h | ⟨g, hg, h3, h4, h5⟩ | ⟨g, hg, h3, h4, h5⟩
    · exact .inl h
    · exact .inr (.inl ⟨g, hg, h3, by unfold whereV; rw [if_pos h4]; exact h5⟩)
    · exact .inr (.inr ⟨g, hg, h3, by unfold whereV; rw [if_pos h4]; exact h5⟩)
  · rintro ⟨⟨h1, h2⟩, h⟩
    have e1 : whereV M s.put x = worthV s.put.2 x := by unfold whereV; rw [if_pos h1]
    have e2 : whereV M t.put y = worthV t.put.2 y := by unfold whereV; rw [if_pos h2]
    have k1 : 0 ≤ worthV s.put.2 x := h1.1
    have k2 : 0 ≤ worthV t.put.2 y := h2.1
    refine ⟨⟨h1, h2⟩, ?_⟩
    rw [e1, e2] at h
    rcases h with h | ⟨g, hg, h3, h4⟩ | ⟨g, hg, h3, h4⟩
    · exact .inl h
    · rw [whereV_iff k1] at h4; exact .inr (.inl ⟨g, hg, h3, h4⟩)
    · rw [whereV_iff k2] at h4; exact .inr (.inr ⟨g, hg, h3, h4⟩)

set_option maxRecDepth 100000 in
set_option maxHeartbeats 8000000 in
theorem rClash_any (M : Mem) (za : Option Addr) (zl zc : Nat) (zs : List Int) (ta : Option Addr) (tl tc : Nat) (ss : List Stm) (i : Nat) (xa : Option Addr) (xl xc : Nat) (x : List Int) (j : Nat) (ya : Option Addr) (yl yc : Nat) (y : List Int) (w : World) (hz : Ints w za zl zs) (hs : Stms w ta tl ss) (hi : i < tl) (hj : j < tl) (hx : Ints w xa xl x) (hy : Ints w ya yl y)
    (hf : ∀ k, k < zl → ((arrM M k).length : Int) = zs[k]?.getD 0) (hok : ∀ s ∈ ss, StmOk zl s) (hxl : x.length = (ss[i]?.getD stmD).box.length) (hyl : y.length = (ss[j]?.getD stmD).box.length) (hxb : ∀ v ∈ x, 0 ≤ v ∧ v ≤ 4096) (hyb : ∀ v ∈ y, 0 ≤ v ∧ v ≤ 4096) :
    Calls Try.prog 67 #[.agg #[.slice za zl zc, .slice ta tl tc], .agg #[.int .i64 (i : Int), .slice xa xl xc], .agg #[.int .i64 (j : Int), .slice ya yl yc]] w fun e w' => e = .returned (.bool (decide (clash M (ss[i]?.getD stmD) (ss[j]?.getD stmD) x y))) ∧ Below w.heap.size w w' := by
  have hm1 := hz.2.1
  have hm2 := hs.2.1
  have hil : i < ss.length := by rw [hs.1]; exact hi
  have hjl : j < ss.length := by rw [hs.1]; exact hj
  have ho1 := hok _ (mem_getS ss i hil)
  have ho2 := hok _ (mem_getS ss j hjl)
  obtain ⟨tb, tq, rfl, hat⟩ := hs.at (by omega)
  obtain ⟨q1, hq1, a0', a1', a2', a3', a4', a5', a6', a7'⟩ := hat i hi
  obtain ⟨q2, hq2, b0', b1', b2', b3', b4', b5', b6', b7'⟩ := hat j hj
  obtain ⟨W, hW⟩ : ∃ W, W = ((w.alloc (.cells #[.slice za zl zc, .slice (some ⟨tb, tq, none⟩) tl tc] 25)).alloc (.cells #[.int .i64 (i : Int), .slice xa xl xc] 29)).alloc (.cells #[.int .i64 (j : Int), .slice ya yl yc] 29) := ⟨_, rfl⟩
  have BW : Below w.heap.size w W := by rw [hW]; exact bl_on (bl_new _) (bl_on (bl_new _) (bl_new _))
  have N1 : NsBlk W w.heap.size za zl zc (some ⟨tb, tq, none⟩) tl tc := by
    rw [hW]; exact (Below.heap_alloc _ _ _ (by simp; omega)).trans ((Below.heap_alloc _ _ _ (by simp)).trans (World.alloc_heap_new w _))
  have S1 : SpBlk W (w.heap.size + 1) i xa xl xc := by
    rw [hW]
    refine (Below.heap_alloc _ _ _ (by simp)).trans ?_
    have := World.alloc_heap_new (w.alloc (.cells #[.slice za zl zc, .slice (some ⟨tb, tq, none⟩) tl tc] 25)) (.cells #[.int .i64 (i : Int), .slice xa xl xc] 29)
    rw [World.size_alloc] at this
    exact this
  have S2 : SpBlk W (w.heap.size + 1 + 1) j ya yl yc := by
    rw [hW]
    have := World.alloc_heap_new ((w.alloc (.cells #[.slice za zl zc, .slice (some ⟨tb, tq, none⟩) tl tc] 25)).alloc (.cells #[.int .i64 (i : Int), .slice xa xl xc] 29)) (.cells #[.int .i64 (j : Int), .slice ya yl yc] 29)
    rw [World.size_alloc, World.size_alloc] at this
    exact this
  have hsz : W.heap.size = w.heap.size + 3 := by rw [hW]; simp
  obtain ⟨n0, n1⟩ := N1.cells
  obtain ⟨s0, s1⟩ := S1.cells
  obtain ⟨t0, t1⟩ := S2.cells
  have a0 := (BW.cell (p := ⟨tb, tq + i * 8, none⟩) (lt_of_cell a0')).trans a0'
  have a1 := (BW.cell (p := ⟨tb, tq + i * 8 + 1, none⟩) (lt_of_cell a1')).trans a1'
  have a2 := (BW.cell (p := ⟨tb, tq + i * 8 + 2, none⟩) (lt_of_cell a2')).trans a2'
  have a3 := (BW.cell (p := ⟨tb, tq + i * 8 + 3, none⟩) (lt_of_cell a3')).trans a3'
  have a4 := (BW.cell (p := ⟨tb, tq + i * 8 + 4, none⟩) (lt_of_cell a4')).trans a4'
  have a5 := (BW.cell (p := ⟨tb, tq + i * 8 + 5, none⟩) (lt_of_cell a5')).trans a5'
  have a6 := (BW.cell (p := ⟨tb, tq + i * 8 + 6, none⟩) (lt_of_cell a6')).trans a6'
  have a7 := (BW.cell (p := ⟨tb, tq + i * 8 + 7, none⟩) (lt_of_cell a7')).trans a7'
  have b0 := (BW.cell (p := ⟨tb, tq + j * 8, none⟩) (lt_of_cell b0')).trans b0'
  have b1 := (BW.cell (p := ⟨tb, tq + j * 8 + 1, none⟩) (lt_of_cell b1')).trans b1'
  have b2 := (BW.cell (p := ⟨tb, tq + j * 8 + 2, none⟩) (lt_of_cell b2')).trans b2'
  have b3 := (BW.cell (p := ⟨tb, tq + j * 8 + 3, none⟩) (lt_of_cell b3')).trans b3'
  have b4 := (BW.cell (p := ⟨tb, tq + j * 8 + 4, none⟩) (lt_of_cell b4')).trans b4'
  have b5 := (BW.cell (p := ⟨tb, tq + j * 8 + 5, none⟩) (lt_of_cell b5')).trans b5'
  have b6 := (BW.cell (p := ⟨tb, tq + j * 8 + 6, none⟩) (lt_of_cell b6')).trans b6'
  have b7 := (BW.cell (p := ⟨tb, tq + j * 8 + 7, none⟩) (lt_of_cell b7')).trans b7'
  have HW := hide hW
  have HBW := hide BW
  have HN1 := hide N1
  have HS1 := hide S1
  have HS2 := hide S2
  have HQ1 := hide hq1
  have HQ2 := hide hq2
  have hx4 : xl ≤ 4 := by have := (ptE_ok ho1.pt).rank; have := hx.1; omega
  have hy4 : yl ≤ 4 := by have := (ptE_ok ho2.pt).rank; have := hy.1; omega
  have hx1 : (ss[i]?.getD stmD).box.length = xl := by have := hx.1; omega
  have hy1 : (ss[j]?.getD stmD).box.length = yl := by have := hy.1; omega
  have HWX := hide (fun (W : World) (hb : Below w.heap.size w W) (q' : AW) (ac : Acc) (hq : AG W q' ac) (hac : AccOk zl ac xl) => rWhere_any M za zl zc zs (.slice (some ⟨tb, tq, none⟩) tl tc) q' ac xa xl xc x W (hz.below hb) hq hac (hx.below hb) hx4 hxb hf)
  have HWY := hide (fun (W : World) (hb : Below w.heap.size w W) (q' : AW) (ac : Acc) (hq : AG W q' ac) (hac : AccOk zl ac yl) => rWhere_any M za zl zc zs (.slice (some ⟨tb, tq, none⟩) tl tc) q' ac ya yl yc y W (hz.below hb) hq hac (hy.below hb) hy4 hyb hf)
  have HO1 := hide (fun ac h => (hx1 ▸ ho1.gets ac h : AccOk zl ac xl))
  have HO2 := hide (fun ac h => (hy1 ▸ ho2.gets ac h : AccOk zl ac yl))
  have HW1 := hide (fun (W : World) (hb : Below w.heap.size w W) => HWX.out W hb q1.pu _ (hq1.put.below hb) (hx1 ▸ ho1.put))
  have HW2 := hide (fun (W : World) (hb : Below w.heap.size w W) => HWY.out W hb q2.pu _ (hq2.put.below hb) (hy1 ▸ ho2.put))
  have HG1 := hide hq1.gets
  have HG2 := hide hq2.gets
  have hk1 := hq1.kd
  have hk2 := hq2.kd
  have hp1 := hq1.put.arr
  have hp2 := hq2.put.arr
  have hgl1 := hq1.gets.1
  have hgl2 := hq2.gets.1
  have hgm1 := hq1.gets.2.1
  have hgm2 := hq2.gets.2.1
  have HCI := hide (clash_iff M (ss[i]?.getD stmD) (ss[j]?.getD stmD) x y)
  obtain ⟨P, hP⟩ : ∃ P, P = whereV M (ss[i]?.getD stmD).put x := ⟨_, rfl⟩
  obtain ⟨Q, hQ⟩ : ∃ Q, Q = whereV M (ss[j]?.getD stmD).put y := ⟨_, rfl⟩
  rw [← hP, ← hQ, ← hk1, ← hk2, ← hp1, ← hp2] at HCI
  have HP := hide hP.symm
  have HQ := hide hQ.symm
  obtain ⟨gs1, hgs1⟩ : ∃ gs, gs = (ss[i]?.getD stmD).gets := ⟨_, rfl⟩
  obtain ⟨gs2, hgs2⟩ : ∃ gs, gs = (ss[j]?.getD stmD).gets := ⟨_, rfl⟩
  rw [← hgs1] at HO1 HG1 HCI hgl1
  rw [← hgs2] at HO2 HG2 HCI hgl2
  have HL1 := hide hgl1
  have HL2 := hide hgl2
  obtain ⟨CL, hCL⟩ : ∃ CL, CL = decide (clash M (ss[i]?.getD stmD) (ss[j]?.getD stmD) x y) := ⟨_, rfl⟩
  rw [← hCL]
  have HCL := hide (Iff.trans (show CL = true ↔ clash M (ss[i]?.getD stmD) (ss[j]?.getD stmD) x y by rw [hCL]; exact decide_eq_true_iff) HCI.out)
  clear HCI hCL hP hQ hgs1 hgs2 hk1 hk2 hp1 hp2 hgl1 hgl2
  obtain ⟨ba, bl, bc, ra, rl, rc, kd, va, ⟨parr, pca, pcl, pcc, pcon⟩, ga, gl, gc⟩ := q1
  obtain ⟨ba2, bl2, bc2, ra2, rl2, rc2, kd2, va2, ⟨parr2, pca2, pcl2, pcc2, pcon2⟩, ga2, gl2, gc2⟩ := q2
  simp only [AW.v] at *
  have zz : tb < W.heap.size := lt_of_cell a0
  have zn := HN1.out.lt
  have zs1 := HS1.out.lt
  have zs2 := HS2.out.lt
  have HSZ := hide hsz
  have zz1 : tb < W.heap.size + 1 := by omega
  have zn1 : w.heap.size < W.heap.size + 1 := by omega
  have zs11 : w.heap.size + 1 < W.heap.size + 1 := by omega
  have zs21 : w.heap.size + 1 + 1 < W.heap.size + 1 := by omega
  clear hsz
  clear hz hx hy hxb hyb hf hok hxl hyl ho1 ho2 hx1 hy1 hx4 hy4 hs hat hq1 hq2 hW BW N1 S1 S2 hil hjl a0' a1' a2' a3' a4' a5' a6' a7' b0' b1' b2' b3' b4' b5' b6' b7'
  go_enter Try.func67, Try.ntmps67
  go_wp2_with fail
  rw [← HW.out]
  go_cut [7, 8] (fun v7 v8 wc => ∃ B7 B8 : Nat, v7 = .pointer (some ⟨B7, 0, none⟩) ∧ v8 = .pointer (some ⟨B8, 0, none⟩) ∧ wc.heap[B7]? = some (.cells #[.slice ba bl bc, .slice ra rl rc, .int .i64 kd, .int .i64 va, .int .i64 parr, .slice pca pcl pcc, .int .i64 pcon, .slice ga gl gc] 75 (0, 0)) ∧ wc.heap[B8]? = some (.cells #[.slice ba2 bl2 bc2, .slice ra2 rl2 rc2, .int .i64 kd2, .int .i64 va2, .int .i64 parr2, .slice pca2 pcl2 pcc2, .int .i64 pcon2, .slice ga2 gl2 gc2] 75 (0, 0)) ∧ Below W.heap.size W wc)
  case first =>
    go_region
    all_goals go_wp2
    all_goals go_meet
    · obtain ⟨b1, e1, e2⟩ := two_new W #[.slice ba bl bc, .slice ra rl rc, .int .i64 kd, .int .i64 va, .int .i64 parr, .slice pca pcl pcc, .int .i64 pcon, .slice ga gl gc] #[.slice ba2 bl2 bc2, .slice ra2 rl2 rc2, .int .i64 kd2, .int .i64 va2, .int .i64 parr2, .slice pca2 pcl2 pcc2, .int .i64 pcon2, .slice ga2 gl2 gc2] 75
      exact ⟨_, _, rfl, rfl, e1, e2, b1⟩
    · obtain ⟨b1, e1, e2⟩ := two_new W #[.slice ba2 bl2 bc2, .slice ra2 rl2 rc2, .int .i64 kd2, .int .i64 va2, .int .i64 parr2, .slice pca2 pcl2 pcc2, .int .i64 pcon2, .slice ga2 gl2 gc2] #[.slice ba bl bc, .slice ra rl rc, .int .i64 kd, .int .i64 va, .int .i64 parr, .slice pca pcl pcc, .int .i64 pcon, .slice ga gl gc] 75
      exact ⟨_, _, rfl, rfl, e2, e1, b1⟩
  case rest =>
    obtain ⟨B7, B8, rfl, rfl, hc7, hc8, hbv⟩ := hcut
    obtain ⟨V, hV⟩ : ∃ V, V = wc := ⟨_, rfl⟩
    obtain rfl := hV
    have HBV := hide (bl_on HBW.out hbv)
    have HNV := hide (HN1.out.below hbv)
    have HSV1 := hide (HS1.out.below hbv)
    have HSV2 := hide (HS2.out.below hbv)
    have HC7 := hide hc7
    have HC8 := hide hc8
    have HZ7 := hide (Array.getElem?_eq_some_iff.1 hc7).1
    have HZ8 := hide (Array.getElem?_eq_some_iff.1 hc8).1
    clear n0 n1 s0 s1 t0 t1 a0 a1 a2 a3 a4 a5 a6 a7 b0 b1 b2 b3 b4 b5 b6 b7 zz zz1 zn zn1 zs1 zs11 zs2 zs21 HBW HN1 HS1 HS2 hc7 hc8 hbv HSZ HW HQ1 HQ2
    obtain ⟨n0, n1⟩ := HNV.out.cells
    obtain ⟨s0, s1⟩ := HSV1.out.cells
    obtain ⟨t0, t1⟩ := HSV2.out.cells
    obtain ⟨c0, c1, c2, c3, c4, c5, c6, c7⟩ := cells_eight HC7.out
    obtain ⟨d0, d1, d2, d3, d4, d5, d6, d7⟩ := cells_eight HC8.out
    have zn := HNV.out.lt
    have zs1 := HSV1.out.lt
    have zs2 := HSV2.out.lt
    have z7 := HZ7.out
    have z8 := HZ8.out
    go_wp2_with fail
    refine region_made 12 13 [fIs (.agg #[.slice za zl zc, .slice (some ⟨tb, tq, none⟩) tl tc]), fIs (.pointer (some ⟨B7, 4, none⟩)), fIs (.agg #[.int .i64 parr, .slice pca pcl pcc, .int .i64 pcon]), fIs (.pointer (some ⟨w.heap.size + 1, 1, none⟩)), fIs (.slice xa xl xc), fIs (.int .i64 P), fIs (.agg #[.slice za zl zc, .slice (some ⟨tb, tq, none⟩) tl tc]), fIs (.pointer (some ⟨B8, 4, none⟩)), fIs (.agg #[.int .i64 parr2, .slice pca2 pcl2 pcc2, .int .i64 pcon2]), fIs (.pointer (some ⟨w.heap.size + 1 + 1, 1, none⟩)), fIs (.slice ya yl yc), fIs (.int .i64 Q)] (by kernel_rfl) (by kernel_rfl) (by kernel_rfl) (fun _ ⟨_, _⟩ ⟨_, _⟩ _ e h => by cases e; exact h) ⟨fIs_good _, fIs_good _, fIs_good _, fIs_good _, fIs_good _, fIs_good _, fIs_good _, fIs_good _, fIs_good _, fIs_good _, fIs_good _, fIs_good _, trivial⟩ ?mk ?rest
    case mk =>
      refine ⟨fun u wz hb hd => ?_, fun u wz hb hd => ?_, fun u wz hb hd => ?_, fun u wz hb hd => ?_, fun u wz hb hd => ?_, fun u wz hb hd => ?_, fun u wz hb hd => ?_, fun u wz hb hd => ?_, fun u wz hb hd => ?_, fun u wz hb hd => ?_, fun u wz hb hd => ?_, fun u wz hb hd => ?_, trivial⟩
      all_goals simp only [Act.put, List.setIfInBounds_toArray, List.set_cons_zero, List.set_cons_succ]
      · have n0' := (hb.cell (p := ⟨w.heap.size, 0, none⟩) (lt_of_cell n0)).trans n0
        have n1' := (hb.cell (p := ⟨w.heap.size, 1, none⟩) (lt_of_cell n1)).trans n1
        go_simp
        exact ⟨rfl, Below.refl _ _, fun h => by cases h⟩
      · go_simp
        exact ⟨rfl, Below.refl _ _, fun h => by cases h⟩
      · have e1 : u 1 = .pointer (some ⟨B7, 4, none⟩) := hd 1 (by omega) (by kernel_rfl)
        rw [e1]
        have c4' := (hb.cell (p := ⟨B7, 4, none⟩) (lt_of_cell c4)).trans c4
        have c5' := (hb.cell (p := ⟨B7, 5, none⟩) (lt_of_cell c5)).trans c5
        have c6' := (hb.cell (p := ⟨B7, 6, none⟩) (lt_of_cell c6)).trans c6
        go_simp
        exact ⟨rfl, Below.refl _ _, fun h => by cases h⟩
      · go_simp
        exact ⟨rfl, Below.refl _ _, fun h => by cases h⟩
      · have e3 : u 3 = .pointer (some ⟨w.heap.size + 1, 1, none⟩) := hd 3 (by omega) (by kernel_rfl)
        rw [e3]
        have s1' := (hb.cell (p := ⟨w.heap.size + 1, 1, none⟩) (lt_of_cell s1)).trans s1
        go_simp
        exact ⟨rfl, Below.refl _ _, fun h => by cases h⟩
      · have e0 : u 0 = .agg #[.slice za zl zc, .slice (some ⟨tb, tq, none⟩) tl tc] := hd 0 (by omega) (by kernel_rfl)
        have e2 : u 2 = .agg #[.int .i64 parr, .slice pca pcl pcc, .int .i64 pcon] := hd 2 (by omega) (by kernel_rfl)
        have e4 : u 4 = .slice xa xl xc := hd 4 (by omega) (by kernel_rfl)
        rw [e0, e2, e4]
        go_simp
        refine (HW1.out wz (bl_on HBV.out hb)).mono ?_
        rintro e w2 ⟨rfl, hb2⟩
        exact ⟨by rw [HP.out]; rfl, hb2, fun h => by cases h⟩
      · have n0' := (hb.cell (p := ⟨w.heap.size, 0, none⟩) (lt_of_cell n0)).trans n0
        have n1' := (hb.cell (p := ⟨w.heap.size, 1, none⟩) (lt_of_cell n1)).trans n1
        go_simp
        exact ⟨rfl, Below.refl _ _, fun h => by cases h⟩
      · go_simp
        exact ⟨rfl, Below.refl _ _, fun h => by cases h⟩
      · have e7 : u 7 = .pointer (some ⟨B8, 4, none⟩) := hd 7 (by omega) (by kernel_rfl)
        rw [e7]
        have d4' := (hb.cell (p := ⟨B8, 4, none⟩) (lt_of_cell d4)).trans d4
        have d5' := (hb.cell (p := ⟨B8, 5, none⟩) (lt_of_cell d5)).trans d5
        have d6' := (hb.cell (p := ⟨B8, 6, none⟩) (lt_of_cell d6)).trans d6
        go_simp
        exact ⟨rfl, Below.refl _ _, fun h => by cases h⟩
      · go_simp
        exact ⟨rfl, Below.refl _ _, fun h => by cases h⟩
      · have e9 : u 9 = .pointer (some ⟨w.heap.size + 1 + 1, 1, none⟩) := hd 9 (by omega) (by kernel_rfl)
        rw [e9]
        have t1' := (hb.cell (p := ⟨w.heap.size + 1 + 1, 1, none⟩) (lt_of_cell t1)).trans t1
        go_simp
        exact ⟨rfl, Below.refl _ _, fun h => by cases h⟩
      · have e6 : u 6 = .agg #[.slice za zl zc, .slice (some ⟨tb, tq, none⟩) tl tc] := hd 6 (by omega) (by kernel_rfl)
        have e8 : u 8 = .agg #[.int .i64 parr2, .slice pca2 pcl2 pcc2, .int .i64 pcon2] := hd 8 (by omega) (by kernel_rfl)
        have e10 : u 10 = .slice ya yl yc := hd 10 (by omega) (by kernel_rfl)
        rw [e6, e8, e10]
        go_simp
        refine (HW2.out wz (bl_on HBV.out hb)).mono ?_
        rintro e w2 ⟨rfl, hb2⟩
        exact ⟨by rw [HQ.out]; rfl, hb2, fun h => by cases h⟩
    case rest =>
      intro u wz hb hf hp
      have f0 : u 0 = .agg #[.slice za zl zc, .slice (some ⟨tb, tq, none⟩) tl tc] := hf 0 (by omega)
      have f1 : u 1 = .pointer (some ⟨B7, 4, none⟩) := hf 1 (by omega)
      have f2 : u 2 = .agg #[.int .i64 parr, .slice pca pcl pcc, .int .i64 pcon] := hf 2 (by omega)
      have f3 : u 3 = .pointer (some ⟨w.heap.size + 1, 1, none⟩) := hf 3 (by omega)
      have f4 : u 4 = .slice xa xl xc := hf 4 (by omega)
      have f5 : u 5 = .int .i64 P := hf 5 (by omega)
      have f6 : u 6 = .agg #[.slice za zl zc, .slice (some ⟨tb, tq, none⟩) tl tc] := hf 6 (by omega)
      have f7 : u 7 = .pointer (some ⟨B8, 4, none⟩) := hf 7 (by omega)
      have f8 : u 8 = .agg #[.int .i64 parr2, .slice pca2 pcl2 pcc2, .int .i64 pcon2] := hf 8 (by omega)
      have f9 : u 9 = .pointer (some ⟨w.heap.size + 1 + 1, 1, none⟩) := hf 9 (by omega)
      have f10 : u 10 = .slice ya yl yc := hf 10 (by omega)
      have f11 : u 11 = .int .i64 Q := hf 11 (by omega)
      refine UptoW.rest 2 12 (by rfl) (by kernel_rfl) ?_
      simp only [List.take, List.drop, putOps, Act.put, List.setIfInBounds_toArray, List.set_cons_zero, List.set_cons_succ, Nat.reduceAdd, f0, f1, f2, f3, f4, f5, f6, f7, f8, f9, f10, f11]
      clear f0 f1 f2 f3 f4 f5 f6 f7 f8 f9 f10 f11 hf hp
      have HBV' := hide (bl_on HBV.out hb)
      have HNV' := hide (HNV.out.below hb)
      have HSV1' := hide (HSV1.out.below hb)
      have HSV2' := hide (HSV2.out.below hb)
      have HC7' := hide ((hb.block _ HZ7.out).trans HC7.out)
      have HC8' := hide ((hb.block _ HZ8.out).trans HC8.out)
      clear hb HBV HNV HSV1 HSV2 HC7 HC8 HZ7 HZ8 n0 n1 s0 s1 t0 t1 c0 c1 c2 c3 c4 c5 c6 c7 d0 d1 d2 d3 d4 d5 d6 d7 zn zs1 zs2 z7 z8
      have HBV := hide HBV'.out
      have HNV := hide HNV'.out
      have HSV1 := hide HSV1'.out
      have HSV2 := hide HSV2'.out
      have HC7 := hide HC7'.out
      have HC8 := hide HC8'.out
      have HZ7 := hide (Array.getElem?_eq_some_iff.1 HC7'.out).1
      have HZ8 := hide (Array.getElem?_eq_some_iff.1 HC8'.out).1
      clear HBV' HNV' HSV1' HSV2' HC7' HC8'
      obtain ⟨n0, n1⟩ := HNV.out.cells
      obtain ⟨s0, s1⟩ := HSV1.out.cells
      obtain ⟨t0, t1⟩ := HSV2.out.cells
      obtain ⟨c0, c1, c2, c3, c4, c5, c6, c7⟩ := cells_eight HC7.out
      obtain ⟨d0, d1, d2, d3, d4, d5, d6, d7⟩ := cells_eight HC8.out
      have zn := HNV.out.lt
      have zs1 := HSV1.out.lt
      have zs2 := HSV2.out.lt
      have z7 := HZ7.out
      have z8 := HZ8.out
      clear V
      obtain ⟨V, hV⟩ : ∃ V, V = wz := ⟨_, rfl⟩
      obtain rfl := hV
      have HFN : Hid ((P < 0 ∨ Q < 0) → CL = false) := fun h => by
        cases hc : CL with
        | false => rfl
        | true => have := (HCL.out.1 hc).1; omega
      by_cases hPn : P < 0
      · go_wp2_with fail
        go_ret
        exact ⟨by rw [HFN.out (.inl hPn)]; rfl, HBV.out⟩
      by_cases hQn : Q < 0
      · go_wp2_with fail
        go_ret
        exact ⟨by rw [HFN.out (.inr hQn)]; rfl, HBV.out⟩
      have HPQ : Hid (0 ≤ P ∧ 0 ≤ Q) := ⟨by omega, by omega⟩
      go_upto_region 5 with fail
      go_cut [11] (fun v wc => v = .bool (decide (9 ≤ kd ∧ 9 ≤ kd2)) ∧ wc = V)
      case first =>
        by_cases g1 : 9 ≤ kd
        · by_cases g2 : 9 ≤ kd2
          · go_wp2_with fail
            go_meet
            exact ⟨by simp [g1, g2], rfl⟩
          · go_wp2_with fail
            go_meet
            exact ⟨by simp [g1, g2], rfl⟩
        · go_wp2_with fail
          go_meet
          exact ⟨by rw [decide_eq_false (show ¬ (9 ≤ kd ∧ 9 ≤ kd2) by omega)], rfl⟩
      case rest =>
      obtain ⟨rfl, rfl⟩ := hcut
      obtain ⟨AD, hAD⟩ : ∃ AD, AD = decide (9 ≤ kd ∧ 9 ≤ kd2) := ⟨_, rfl⟩
      rw [← hAD]
      have HAD := hide (show AD = true ↔ (9 ≤ kd ∧ 9 ≤ kd2) from (by rw [hAD, decide_eq_true_iff]))
      clear hAD
      go_upto_region 6 with fail
      go_cut [69] (fun v wd => v = .bool (decide (parr = parr2 ∧ P = Q ∧ AD = false)) ∧ wd = wc)
      case first =>
        by_cases g1 : parr = parr2
        · have g1b : (parr == parr2) = true := by simpa using g1
          have HG1' := hide g1
          clear g1
          by_cases g2 : P = Q
          · have g2b : (P == Q) = true := by simpa using g2
            have HG2' := hide g2
            clear g2
            cases AD with
            | true =>
              go_wp2_with fail
              go_meet
              exact ⟨by simp, rfl⟩
            | false =>
              go_wp2_with fail
              go_meet
              exact ⟨by simp [HG1'.out, HG2'.out], rfl⟩
          · have g2b : (P == Q) = false := by simpa using g2
            have HG2' := hide g2
            clear g2
            go_wp2_with fail
            go_meet
            exact ⟨by simp [HG2'.out], rfl⟩
        · have g1b : (parr == parr2) = false := by simpa using g1
          have HG1' := hide g1
          clear g1
          go_wp2_with fail
          go_meet
          exact ⟨by simp [HG1'.out], rfl⟩
      case rest =>
      obtain ⟨rfl, rfl⟩ := hcut
      have HCC : Hid ((parr = parr2 ∧ P = Q ∧ AD = false) ↔ (parr = parr2 ∧ P = Q ∧ ¬ (9 ≤ kd ∧ 9 ≤ kd2))) := by rw [Hid, ← HAD.out]; simp
      by_cases hcc : parr = parr2 ∧ P = Q ∧ AD = false
      · have HT : Hid (CL = true) := HCL.out.2 ⟨HPQ.out, .inl (HCC.out.1 hcc)⟩
        rw [decide_eq_true hcc]
        clear hcc
        go_wp2_with fail
        go_ret
        exact ⟨by rw [HT.out]; rfl, HBV.out⟩
      have HN0 := hide (fun h => hcc (HCC.out.2 h))
      rw [decide_eq_false hcc]
      clear hcc HCC HAD
      go_wp2_with fail
      obtain ⟨V, hV⟩ : ∃ V, V = wc := ⟨_, rfl⟩
      obtain rfl := hV
      go_loopw [73] (fun i' wr => ∃ k : Nat, k ≤ gl2 ∧ i' = .int .i64 k ∧ (∀ g ∈ gs2.take k, ¬ (g.1 = parr ∧ whereV M g y = P)) ∧ Below V.heap.size V wr) (fun i' _ => gl2 - (intOf i').toNat)
      case atStart => exact ⟨0, Nat.zero_le _, rfl, fun g hg => by simp at hg, Below.refl _ _⟩
      case round =>
        obtain ⟨k, hk, rfl, hE, hB⟩ := hrel
        have HE := hide hE
        have HBr := hide hB
        have HBa := hide (bl_on HBV.out hB)
        clear hE hB n0 n1 s0 s1 t0 t1 c0 c1 c2 c3 c4 c5 c6 c7 d0 d1 d2 d3 d4 d5 d6 d7
        have HC7' := hide ((HBr.out.block _ HZ7.out).trans HC7.out)
        have HC8' := hide ((HBr.out.block _ HZ8.out).trans HC8.out)
        obtain ⟨c0, c1, c2, c3, c4, c5, c6, c7⟩ := cells_eight HC7'.out
        obtain ⟨d0, d1, d2, d3, d4, d5, d6, d7⟩ := cells_eight HC8'.out
        have z7r := (Array.getElem?_eq_some_iff.1 HC7'.out).1
        have z8r := (Array.getElem?_eq_some_iff.1 HC8'.out).1
        obtain ⟨n0, n1⟩ := (HNV.out.below HBr.out).cells
        obtain ⟨s0, s1⟩ := (HSV1.out.below HBr.out).cells
        obtain ⟨t0, t1⟩ := (HSV2.out.below HBr.out).cells
        have znr := (HNV.out.below HBr.out).lt
        have zs1r := (HSV1.out.below HBr.out).lt
        have zs2r := (HSV2.out.below HBr.out).lt
        by_cases hlt : k < gl2
        · have hkl : k < gs2.length := by rw [HL2.out]; exact hlt
          obtain ⟨gb, go, rfl, hat⟩ := (HG2.out.below HBa.out).at (by omega)
          obtain ⟨q, hq, k1, k2, k3⟩ := (hat k hlt).words
          have z1 := lt_of_cell k1
          simp only at z1
          have B3 : Below wr.heap.size wr (wr.alloc (.cells #[.int .i64 q.arr, .slice q.ca q.cl q.cc, .int .i64 q.con] 72)) := bl_new _
          have HC := hide (HWY.out _ (bl_on HBa.out B3) q _ (hq.below B3) (HO2.out _ (mem_getA _ k hkl)))
          obtain ⟨y0, y1, y2⟩ := (AW.new q wr).cells
          have HB3 := hide B3
          have ha := hq.arr
          obtain ⟨aq, haq⟩ : ∃ aq, aq = gs2[k]?.getD accD := ⟨_, rfl⟩
          have HMEM : Hid (aq ∈ gs2) := by rw [haq]; exact mem_getA _ k hkl
          have HTS : Hid (gs2.take (k + 1) = gs2.take k ++ [aq]) := by rw [Hid, haq, List.take_succ_eq_append_getElem hkl]; simp [hkl]
          rw [← haq] at HC ha
          obtain ⟨R, hR⟩ : ∃ R, R = whereV M aq y := ⟨_, rfl⟩
          rw [← hR] at HC
          have HR := hide hR
          obtain ⟨arr, ca, cl, cc, con⟩ := q
          skip
          have HA := hide ha
          have n0' := ((bl_new (w := wr) (.cells #[.int .i64 arr, .slice ca cl cc, .int .i64 con] 72)).cell (p := ⟨w.heap.size, 0, none⟩) znr).trans n0
          have n1' := ((bl_new (w := wr) (.cells #[.int .i64 arr, .slice ca cl cc, .int .i64 con] 72)).cell (p := ⟨w.heap.size, 1, none⟩) znr).trans n1
          clear hat hq B3 hkl haq hR ha
          by_cases e1 : arr = parr
          · have e1b : (arr == parr) = true := by simpa using e1
            have HE1 := hide e1
            clear e1
            by_cases e2 : R = P
            · have HT : Hid (CL = true) := HCL.out.2 (⟨HPQ.out, .inr (.inl ⟨aq, HMEM.out, HA.out.symm.trans HE1.out, by rw [← HR.out]; exact e2⟩)⟩)
              have HE2 := hide e2
              have e2b : (R == P) = true := by simpa using e2
              clear e2
              go_wp2_with fail
              refine HC.out.mono ?_
              rintro e w3 ⟨rfl, hb⟩
              have HB4 := hide (bl_on HBa.out (bl_on HB3.out hb))
              clear hb
              go_wp2_with fail
              go_ret
              exact ⟨by rw [HT.out]; rfl, HB4.out⟩
            · have e2b : (R == P) = false := by simpa using e2
              have HE2 := hide e2
              clear e2
              go_wp2_with fail
              refine HC.out.mono ?_
              rintro e w3 ⟨rfl, hb⟩
              have HB4 := hide (bl_on HBr.out (bl_on HB3.out hb))
              clear hb
              go_wp2_with fail
              go_roundw
              case rel => exact ⟨k + 1, by omega, by go_num, fun g hg => by
                           rw [HTS.out] at hg
                           rcases List.mem_append.1 hg with hg | hg
                           · exact HE.out g hg
                           · rw [List.mem_singleton.1 hg, ← HR.out]; exact fun h => HE2.out h.2, HB4.out⟩
              case measure => simp [intOf]; omega
          · have e1b : (arr == parr) = false := by simpa using e1
            have HE1 := hide e1
            clear e1
            have HB4 := hide (bl_on HBr.out HB3.out)
            go_wp2_with fail
            go_roundw
            case rel => exact ⟨k + 1, by omega, by go_num, fun g hg => by
                         rw [HTS.out] at hg
                         rcases List.mem_append.1 hg with hg | hg
                         · exact HE.out g hg
                         · rw [List.mem_singleton.1 hg]; exact fun h => HE1.out (HA.out.trans h.1), HB4.out⟩
            case measure => simp [intOf]; omega
        · obtain rfl : k = gl2 := by omega
          have HN1 : Hid (¬ hitG M gs2 parr y P) := fun ⟨g, hg, h1⟩ => HE.out g (by rw [← HL2.out, List.take_length]; exact hg) h1
          clear HE
          go_wp2_with fail
          have HBV2 := hide HBa.out
          have HNV2 := hide (HNV.out.below HBr.out)
          have HSV12 := hide (HSV1.out.below HBr.out)
          have HSV22 := hide (HSV2.out.below HBr.out)
          clear HC7 HC8 HZ7 HZ8 HNV HSV1 HSV2
          have HNV := hide HNV2.out
          have HSV1 := hide HSV12.out
          have HSV2 := hide HSV22.out
          have HC7 := hide HC7'.out
          have HC8 := hide HC8'.out
          have HZ7 := hide z7r
          have HZ8 := hide z8r
          clear HC7' HC8' HNV2 HSV12 HSV22 HBV HBa HBr
          obtain ⟨V2, hV2⟩ : ∃ V2, V2 = wr := ⟨_, rfl⟩
          obtain rfl := hV2
          go_loopw [96] (fun i' wr => ∃ k : Nat, k ≤ gl ∧ i' = .int .i64 k ∧ (∀ g ∈ gs1.take k, ¬ (g.1 = parr2 ∧ whereV M g x = Q)) ∧ Below V2.heap.size V2 wr) (fun i' _ => gl - (intOf i').toNat)
          case atStart => exact ⟨0, Nat.zero_le _, rfl, fun g hg => by simp at hg, Below.refl _ _⟩
          case round =>
            obtain ⟨k, hk, rfl, hE, hB⟩ := hrel
            have HE := hide hE
            have HBr := hide hB
            have HBa := hide (bl_on HBV2.out hB)
            clear hE hB n0 n1 s0 s1 t0 t1 c0 c1 c2 c3 c4 c5 c6 c7 d0 d1 d2 d3 d4 d5 d6 d7
            have HC7' := hide ((HBr.out.block _ HZ7.out).trans HC7.out)
            have HC8' := hide ((HBr.out.block _ HZ8.out).trans HC8.out)
            obtain ⟨c0, c1, c2, c3, c4, c5, c6, c7⟩ := cells_eight HC7'.out
            obtain ⟨d0, d1, d2, d3, d4, d5, d6, d7⟩ := cells_eight HC8'.out
            have z7r := (Array.getElem?_eq_some_iff.1 HC7'.out).1
            have z8r := (Array.getElem?_eq_some_iff.1 HC8'.out).1
            obtain ⟨n0, n1⟩ := (HNV.out.below HBr.out).cells
            obtain ⟨s0, s1⟩ := (HSV1.out.below HBr.out).cells
            obtain ⟨t0, t1⟩ := (HSV2.out.below HBr.out).cells
            have znr := (HNV.out.below HBr.out).lt
            have zs1r := (HSV1.out.below HBr.out).lt
            have zs2r := (HSV2.out.below HBr.out).lt
            by_cases hlt : k < gl
            · have hkl : k < gs1.length := by rw [HL1.out]; exact hlt
              obtain ⟨gb, go, rfl, hat⟩ := (HG1.out.below HBa.out).at (by omega)
              obtain ⟨q, hq, k1, k2, k3⟩ := (hat k hlt).words
              have z1 := lt_of_cell k1
              simp only at z1
              have B3 : Below wr.heap.size wr (wr.alloc (.cells #[.int .i64 q.arr, .slice q.ca q.cl q.cc, .int .i64 q.con] 72)) := bl_new _
              have HC := hide (HWX.out _ (bl_on HBa.out B3) q _ (hq.below B3) (HO1.out _ (mem_getA _ k hkl)))
              obtain ⟨y0, y1, y2⟩ := (AW.new q wr).cells
              have HB3 := hide B3
              have ha := hq.arr
              obtain ⟨aq, haq⟩ : ∃ aq, aq = gs1[k]?.getD accD := ⟨_, rfl⟩
              have HMEM : Hid (aq ∈ gs1) := by rw [haq]; exact mem_getA _ k hkl
              have HTS : Hid (gs1.take (k + 1) = gs1.take k ++ [aq]) := by rw [Hid, haq, List.take_succ_eq_append_getElem hkl]; simp [hkl]
              rw [← haq] at HC ha
              obtain ⟨R, hR⟩ : ∃ R, R = whereV M aq x := ⟨_, rfl⟩
              rw [← hR] at HC
              have HR := hide hR
              obtain ⟨arr, ca, cl, cc, con⟩ := q
              skip
              have HA := hide ha
              have n0' := ((bl_new (w := wr) (.cells #[.int .i64 arr, .slice ca cl cc, .int .i64 con] 72)).cell (p := ⟨w.heap.size, 0, none⟩) znr).trans n0
              have n1' := ((bl_new (w := wr) (.cells #[.int .i64 arr, .slice ca cl cc, .int .i64 con] 72)).cell (p := ⟨w.heap.size, 1, none⟩) znr).trans n1
              clear hat hq B3 hkl haq hR ha
              by_cases e1 : arr = parr2
              · have e1b : (arr == parr2) = true := by simpa using e1
                have HE1 := hide e1
                clear e1
                by_cases e2 : R = Q
                · have HT : Hid (CL = true) := HCL.out.2 (⟨HPQ.out, .inr (.inr ⟨aq, HMEM.out, HA.out.symm.trans HE1.out, by rw [← HR.out]; exact e2⟩)⟩)
                  have HE2 := hide e2
                  have e2b : (R == Q) = true := by simpa using e2
                  clear e2
                  go_wp2_with fail
                  refine HC.out.mono ?_
                  rintro e w3 ⟨rfl, hb⟩
                  have HB4 := hide (bl_on HBa.out (bl_on HB3.out hb))
                  clear hb
                  go_wp2_with fail
                  go_ret
                  exact ⟨by rw [HT.out]; rfl, HB4.out⟩
                · have e2b : (R == Q) = false := by simpa using e2
                  have HE2 := hide e2
                  clear e2
                  go_wp2_with fail
                  refine HC.out.mono ?_
                  rintro e w3 ⟨rfl, hb⟩
                  have HB4 := hide (bl_on HBr.out (bl_on HB3.out hb))
                  clear hb
                  go_wp2_with fail
                  go_roundw
                  case rel => exact ⟨k + 1, by omega, by go_num, fun g hg => by
                               rw [HTS.out] at hg
                               rcases List.mem_append.1 hg with hg | hg
                               · exact HE.out g hg
                               · rw [List.mem_singleton.1 hg, ← HR.out]; exact fun h => HE2.out h.2, HB4.out⟩
                  case measure => simp [intOf]; omega
              · have e1b : (arr == parr2) = false := by simpa using e1
                have HE1 := hide e1
                clear e1
                have HB4 := hide (bl_on HBr.out HB3.out)
                go_wp2_with fail
                go_roundw
                case rel => exact ⟨k + 1, by omega, by go_num, fun g hg => by
                             rw [HTS.out] at hg
                             rcases List.mem_append.1 hg with hg | hg
                             · exact HE.out g hg
                             · rw [List.mem_singleton.1 hg]; exact fun h => HE1.out (HA.out.trans h.1), HB4.out⟩
                case measure => simp [intOf]; omega
            · obtain rfl : k = gl := by omega
              have HN2 : Hid (¬ hitG M gs1 parr2 x Q) := fun ⟨g, hg, h1⟩ => HE.out g (by rw [← HL1.out, List.take_length]; exact hg) h1
              clear HE
              go_wp2_with fail
              go_ret
              have HF : CL = false := by
                cases hc : CL with
                | false => rfl
                | true =>
                  rcases (HCL.out.1 hc).2 with h | h | h
                  · exact absurd h HN0.out
                  · exact absurd h HN1.out
                  · exact absurd h HN2.out
              exact ⟨by rw [HF]; rfl, HBa.out⟩
end Go.Proofs.Ytkbdnhchlkafnaa.V
namespace Go.Proofs.Ytkbdnhchlkafnaa.V
open Go.RowKit
set_option linter.unusedVariables false

structure SpOk (ss : List Stm) (T : Tms) (sp : Nat × List Int) : Prop where
  lt : sp.1 < ss.length
  len : sp.2.length = (ss[sp.1]?.getD stmD).box.length
  four : sp.2.length ≤ 4
  bd : ∀ v ∈ sp.2, 0 ≤ v ∧ v ≤ 4096
  eight : (T[sp.1]?.getD []).length ≤ 8
  rows : ∀ r ∈ T[sp.1]?.getD [], r.1.length = sp.2.length ∧ (-1048576 ≤ r.2 ∧ r.2 ≤ 1048576) ∧ ∀ c ∈ r.1, -1048576 ≤ c ∧ c ≤ 1048576
theorem sp_ok {zs : List Int} {ss : List Stm} {T : Tms} (hR : RightOk zs ss T) {sp : Nat × List Int} (h : sp ∈ spK ss ss.length) : SpOk ss T sp := by
  obtain ⟨h1, h2⟩ := sp_mem h
  have hok := nestE_ok hR.ord.nest
  have hp := ptE_ok (hok.stms _ (mem_getS ss _ h1)).pt
  obtain ⟨h3, h4⟩ := ne_pts_mem hp h2
  have hr := hR.ord.rows sp.1 (by rw [hR.ord.len]; exact h1)
  refine ⟨h1, h4, by have := hp.rank; omega, h3, hr.1, fun r hm => ?_⟩
  have := rowE_ok (hr.2 r hm)
  exact ⟨by rw [this.1, h4], this.2⟩
theorem rTime_sp {zs : List Int} {ss : List Stm} {T : Tms} (ma : Option Addr) (ml mc : Nat) (sp : Nat × List Int) (xa : Option Addr) (xl xc : Nat) (w : World) (hl : ml = ss.length) (hT : TimesA w ma ml T) (h : SpOk ss T sp) (hx : Ints w xa xl sp.2) :
    Calls Try.prog 47 #[.slice ma ml mc, .agg #[.int .i64 (sp.1 : Int), .slice xa xl xc]] w fun e w' => e = .returned (arr8 (spT T sp)) ∧ Below w.heap.size w w' := by
  have hxl := hx.1
  exact rTime_any ma ml mc T sp.1 xa xl xc sp.2 w hT (by rw [hl]; exact h.lt) hx (by have := h.four; omega) h.bd h.eight (fun r hr => by rw [← hxl]; exact h.rows r hr)
theorem rClash_sp {zs : List Int} {ss : List Stm} {T : Tms} (za : Option Addr) (zl zc : Nat) (ta : Option Addr) (tl tc : Nat) (p q : Nat × List Int) (xa : Option Addr) (xl xc : Nat) (ya : Option Addr) (yl yc : Nat) (w : World) (hz : Ints w za zl zs) (hs : Stms w ta tl ss) (hn : NestOk zs ss) (h : SpOk ss T p) (h2 : SpOk ss T q) (hx : Ints w xa xl p.2) (hy : Ints w ya yl q.2) :
    Calls Try.prog 67 #[.agg #[.slice za zl zc, .slice ta tl tc], .agg #[.int .i64 (p.1 : Int), .slice xa xl xc], .agg #[.int .i64 (q.1 : Int), .slice ya yl yc]] w fun e w' => e = .returned (.bool (decide (clash (memZ zs) (ss[p.1]?.getD stmD) (ss[q.1]?.getD stmD) p.2 q.2))) ∧ Below w.heap.size w w' :=
  rClash_any (memZ zs) za zl zc zs ta tl tc ss p.1 xa xl xc p.2 q.1 ya yl yc q.2 w hz hs (by have := h.lt; have := hs.1; omega) (by have := h2.lt; have := hs.1; omega) hx hy (fun k hk => memZ_arr (fun z hz => (hn.sizes z hz).1) k (by rw [hz.1]; exact hk)) (fun s h => by have := hn.stms s h; rwa [hz.1] at this) h.len h2.len h.bd h2.bd

/-- A new array of eight numbers. -/
def fEight (N : Nat) : Fact := ⟨fun v w => ∃ C, v = .pointer (some ⟨C, 0, none⟩) ∧ w.rowIs C 58 8 (fun _ => .int .i64 0) ∧ N ≤ C, true⟩
theorem fEight_good (N : Nat) : (fEight N).Good := ⟨fun _ _ _ ⟨C, h1, h2, h3⟩ hb => ⟨C, h1, h2.of_block (hb.block _ h2.lt), h3⟩, fun _ v w b ⟨C, h1, h2, h3⟩ hb => by
  rw [h1] at hb
  simp only [blk, Option.some.injEq] at hb
  rw [← hb]
  exact h2.lt⟩
theorem eight_new (w : World) : (w.alloc (.cells (cs8 fun _ => 0) 58)).rowIs w.heap.size 58 8 (fun _ => .int .i64 0) := row8 (fun _ => 0) (World.alloc_heap_new w _)
theorem rowIs_other8 {w : World} {C b : Nat} {t : TypeId} {g : Nat → Value} (h : w.rowIs C t 8 g) (hne : C ≠ b) (f : Nat → Value) : (put8 w b f).rowIs C t 8 g := by
  have hn : C ≠ b := hne
  exact (((((((h.setOther (a := ⟨b, 0, none⟩) hn _).setOther (a := ⟨b, 1, none⟩) hn _).setOther (a := ⟨b, 2, none⟩) hn _).setOther (a := ⟨b, 3, none⟩) hn _).setOther (a := ⟨b, 4, none⟩) hn _).setOther (a := ⟨b, 5, none⟩) hn _).setOther (a := ⟨b, 6, none⟩) hn _).setOther (a := ⟨b, 7, none⟩) hn _
theorem SP.at2 {w : World} {A : Option Addr} {n : Nat} {S : List (Nat × List Int)} (h : SP w A n S) (h0 : 0 < n) : ∃ b off, A = some ⟨b, off, none⟩ ∧ ∀ i, i < n → ∃ a l c, w.cell? ⟨b, off + i * 2, none⟩ = some (.int .i64 ((S[i]?.getD spD).1 : Int)) ∧ w.cell? ⟨b, off + i * 2 + 1, none⟩ = some (.slice a l c) ∧ Lst w a l c (S[i]?.getD spD).2 ∧ FlushT w a := by
  rcases h.2 with h2 | ⟨b, off, e, _, h2⟩
  · omega
  · exact ⟨b, off, e, h2⟩
theorem flush_ne {w : World} {Y : Option Addr} {B : Nat} {cs : Array Value} {t : TypeId} (h : FlushT w Y) (hB : w.heap[B]? = some (.cells cs t (0, 0))) (ht : 3 ≠ t) : ∀ g o, Y = some ⟨g, o, none⟩ → g ≠ B := fun g o e eg => by
  obtain ⟨_, cur, hc⟩ := h g o e
  rw [eg, hB] at hc
  injection hc with hc
  injection hc with _ h2
  exact ht h2.symm
end Go.Proofs.Ytkbdnhchlkafnaa.V
namespace Go.Proofs.Ytkbdnhchlkafnaa.V
open Go.RowKit
set_option linter.unusedVariables false

theorem flush_num {w : World} {a : Option Addr} (h : FlushT w a) : NumT w a := fun b o e => by
  obtain ⟨_, cur, h1⟩ := h b o e
  exact ⟨cur, _, h1⟩
set_option maxRecDepth 100000 in
set_option maxHeartbeats 4000000 in
theorem rFind_bad (za : Option Addr) (zl zc : Nat) (zs : List Int) (ta : Option Addr) (tl tc : Nat) (ss : List Stm) (ma : Option Addr) (ml mc : Nat) (T : Tms) (al : Bool) (w : World) (hz : Ints w za zl zs) (hs : Stms w ta tl ss) (hT : TimesA w ma ml T) (hE : rightE zs ss T ≠ 0) :
    Calls Try.prog 31 #[.agg #[.slice za zl zc, .slice ta tl tc], .slice ma ml mc, .bool al] w fun e w' => e = .returned (.tuple #[zeroF, .int .i64 (rightE zs ss T)]) ∧ Below w.heap.size w w' := by
  obtain ⟨W, hW⟩ : ∃ W, W = (w.alloc (.cells #[.slice za zl zc, .slice ta tl tc] 25)).alloc (.cells #[.bool false, .int .i64 0, .slice none 0 0, .int .i64 0, .slice none 0 0] 31) := ⟨_, rfl⟩
  have BW : Below w.heap.size w W := by rw [hW]; exact bl_on (bl_new _) (bl_new _)
  have N1 : NsBlk W w.heap.size za zl zc ta tl tc := by rw [hW]; exact (Below.heap_alloc _ _ _ (by simp)).trans (World.alloc_heap_new w _)
  have F1 : W.heap[w.heap.size + 1]? = some (.cells #[.bool false, .int .i64 0, .slice none 0 0, .int .i64 0, .slice none 0 0] 31 (0, 0)) := by
    rw [hW]
    have := World.alloc_heap_new (w.alloc (.cells #[.slice za zl zc, .slice ta tl tc] 25)) (.cells #[.bool false, .int .i64 0, .slice none 0 0, .int .i64 0, .slice none 0 0] 31)
    rw [World.size_alloc] at this
    exact this
  obtain ⟨n0, n1⟩ := N1.cells
  have zn := N1.lt
  have HRI := hide (rRight_any za zl zc zs ta tl tc ss ma ml mc T W (hz.below BW) (hs.below BW) (hT.below BW))
  have HW := hide hW
  have HBW := hide BW
  have HF := hide F1
  obtain ⟨E, hEE⟩ : ∃ E, E = rightE zs ss T := ⟨_, rfl⟩
  rw [← hEE] at hE HRI
  rw [← hEE]
  have hEb : (E != 0) = true := by simpa using hE
  clear hz hs hT hW BW F1 N1 hEE hE
  go_enter Try.func31, Try.ntmps31
  go_wp2_with fail
  rw [← HW.out]
  refine HRI.out.mono ?_
  rintro e w1 ⟨rfl, hb⟩
  have HB1 := hide (bl_on HBW.out hb)
  have F2 := (hb.block _ (Array.getElem?_eq_some_iff.1 HF.out).1).trans HF.out
  have RW5 := row5 (five (.bool false) (.int .i64 0) (.slice none 0 0) (.int .i64 0) (.slice none 0 0)) (F2)
  have f0 := RW5.cell (i := 0) (by omega)
  have g0 := RW5.frozen 0
  have f1 := RW5.cell (i := 1) (by omega)
  have g1 := RW5.frozen 1
  have f2 := RW5.cell (i := 2) (by omega)
  have g2 := RW5.frozen 2
  have f3 := RW5.cell (i := 3) (by omega)
  have g3 := RW5.frozen 3
  have f4 := RW5.cell (i := 4) (by omega)
  have g4 := RW5.frozen 4
  simp only [five] at f0 f1 f2 f3 f4
  clear RW5
  have zf := (Array.getElem?_eq_some_iff.1 F2).1
  have HF2 := hide F2
  clear hb n0 n1 zn F2
  go_wp2_with fail
  have RF := set5 (row5 (five (.bool false) (.int .i64 0) (.slice none 0 0) (.int .i64 0) (.slice none 0 0)) HF2.out) (five (.bool false) (.int .i64 0) (.slice none 0 0) (.int .i64 0) (.slice none 0 0))
  have BF := below5 HB1.out (b := w.heap.size + 1) (by omega) (five (.bool false) (.int .i64 0) (.slice none 0 0) (.int .i64 0) (.slice none 0 0))
  have hput : ((((w1.setCell ⟨w.heap.size + 1, 0, none⟩ (.bool false)).setCell ⟨w.heap.size + 1, 1, none⟩ (.int .i64 0)).setCell ⟨w.heap.size + 1, 2, none⟩ (.slice none 0 0)).setCell ⟨w.heap.size + 1, 3, none⟩ (.int .i64 0)).setCell ⟨w.heap.size + 1, 4, none⟩ (.slice none 0 0) = put5 w1 (w.heap.size + 1) (five (.bool false) (.int .i64 0) (.slice none 0 0) (.int .i64 0) (.slice none 0 0)) := rfl
  rw [hput]
  clear hput
  generalize put5 w1 (w.heap.size + 1) (five (.bool false) (.int .i64 0) (.slice none 0 0) (.int .i64 0) (.slice none 0 0)) = wf at RF BF ⊢
  have k0 := RF.cell (i := 0) (by omega)
  have k1 := RF.cell (i := 1) (by omega)
  have k2 := RF.cell (i := 2) (by omega)
  have k3 := RF.cell (i := 3) (by omega)
  have k4 := RF.cell (i := 4) (by omega)
  simp only [five] at k0 k1 k2 k3 k4
  refine bodyPost_ret (v := .tuple #[zeroF, .int .i64 E]) (by simp [results, Try.results31, go_sem, zeroF, k0, k1, k2, k3, k4]) rfl ⟨rfl, BF⟩

set_option maxRecDepth 100000 in
set_option maxHeartbeats 8000000 in
theorem rFind_good (za : Option Addr) (zl zc : Nat) (zs : List Int) (ta : Option Addr) (tl tc : Nat) (ss : List Stm) (ma : Option Addr) (ml mc : Nat) (T : Tms) (al : Bool) (w : World) (hz : Ints w za zl zs) (hs : Stms w ta tl ss) (hT : TimesA w ma ml T) (hE : rightE zs ss T = 0) :
    Calls Try.prog 31 #[.agg #[.slice za zl zc, .slice ta tl tc], .slice ma ml mc, .bool al] w fun e w' => (∃ v, e = .returned (.tuple #[v, .int .i64 0]) ∧ FoundV (badP (memZ zs) ss T al) (spK ss ss.length) w' v) ∧ Below w.heap.size w w' := by
  have hok := rightE_ok hE
  have hn := nestE_ok hok.ord.nest
  have hsl := hs.1
  have h256 : tl ≤ 256 := by have := hn.many; omega
  have hml : ml = ss.length := by have := hT.1; have := hok.ord.len; omega
  have hn4 : (spK ss ss.length).length ≤ 1024 := hok.few
  rw [hsl] at hn4
  rw [hsl]
  obtain ⟨W, hW⟩ : ∃ W, W = (w.alloc (.cells #[.slice za zl zc, .slice ta tl tc] 25)).alloc (.cells #[.bool false, .int .i64 0, .slice none 0 0, .int .i64 0, .slice none 0 0] 31) := ⟨_, rfl⟩
  have BW : Below w.heap.size w W := by rw [hW]; exact bl_on (bl_new _) (bl_new _)
  have N1 : NsBlk W w.heap.size za zl zc ta tl tc := by rw [hW]; exact (Below.heap_alloc _ _ _ (by simp)).trans (World.alloc_heap_new w _)
  have F1 : W.heap[w.heap.size + 1]? = some (.cells #[.bool false, .int .i64 0, .slice none 0 0, .int .i64 0, .slice none 0 0] 31 (0, 0)) := by
    rw [hW]
    have := World.alloc_heap_new (w.alloc (.cells #[.slice za zl zc, .slice ta tl tc] 25)) (.cells #[.bool false, .int .i64 0, .slice none 0 0, .int .i64 0, .slice none 0 0] 31)
    rw [World.size_alloc] at this
    exact this
  obtain ⟨n0, n1⟩ := N1.cells
  have zn := N1.lt
  have HRI := hide (rRight_any za zl zc zs ta tl tc ss ma ml mc T W (hz.below BW) (hs.below BW) (hT.below BW))
  rw [hE] at HRI
  have HSPT := hide (fun (V : World) (hb : Below w.heap.size w V) => rSpots_cap (.slice za zl zc) ta tl tc ss V (hs.below hb) h256 (fun s h => ptE_ok (hn.stms s h).pt))
  have HTM := hide (fun (V : World) (hb : Below w.heap.size w V) (sp : Nat × List Int) (h : SpOk ss T sp) (xa : Option Addr) (xl xc : Nat) (hx : Ints V xa xl sp.2) => rTime_sp (zs := zs) ma ml mc sp xa xl xc V hml (hT.below hb) h hx)
  have HCS := hide (fun (V : World) (hb : Below w.heap.size w V) (p q : Nat × List Int) (h : SpOk ss T p) (h2 : SpOk ss T q) (xa : Option Addr) (xl xc : Nat) (ya : Option Addr) (yl yc : Nat) (hx : Ints V xa xl p.2) (hy : Ints V ya yl q.2) => rClash_sp za zl zc ta tl tc p q xa xl xc ya yl yc V (hz.below hb) (hs.below hb) hn h h2 hx hy)
  obtain ⟨S, hS⟩ : ∃ S, S = spK ss tl := ⟨_, rfl⟩
  have HSO := hide (fun (i : Nat) (hi : i < S.length) => sp_ok hok (show S[i]?.getD spD ∈ spK ss ss.length by rw [hsl, ← hS]; simp [hi]))
  rw [← hS] at hn4 HSPT
  rw [← hS]
  obtain ⟨n, hnn⟩ : ∃ n, n = S.length := ⟨_, rfl⟩
  rw [← hnn] at hn4 HSPT HSO
  have HNN := hide hnn
  have HW := hide hW
  have HBW := hide BW
  have HF := hide F1
  have HNB := hide N1
  obtain ⟨bad, hbad⟩ : ∃ bad, bad = badP (memZ zs) ss T al := ⟨_, rfl⟩
  have HBAD := hide hbad
  rw [← hbad]
  clear hz hs hT hW BW F1 N1 hE hok hn hsl h256 hml hS hnn hbad
  go_enter Try.func31, Try.ntmps31
  go_wp2_with fail
  rw [← HW.out]
  refine HRI.out.mono ?_
  rintro e w1 ⟨rfl, hb⟩
  have HB1 := hide (bl_on HBW.out hb)
  have HN1 := hide (HNB.out.below hb)
  have HF1 := hide ((hb.block _ (Array.getElem?_eq_some_iff.1 HF.out).1).trans HF.out)
  clear hb n0 n1 zn HF HNB HBW HRI
  obtain ⟨n0, n1⟩ := HN1.out.cells
  have zn := HN1.out.lt
  go_wp2_with fail
  refine (HSPT.out w1 HB1.out).mono ?_
  rintro e w4 ⟨⟨A, c, rfl, hc, hSP⟩, hb⟩
  have HB4 := hide (bl_on HB1.out hb)
  have HN4 := hide (HN1.out.below hb)
  have HF4 := hide ((hb.block _ (Array.getElem?_eq_some_iff.1 HF1.out).1).trans HF1.out)
  have HSP := hide hSP
  clear hb n0 n1 zn HF1 HN1 HB1 hSP HSPT
  go_wp2_with fail
  go_loopw [27] (fun i' wr => ∃ j : Nat, j ≤ n ∧ i' = .int .i64 j ∧ NoneTo bad S j ∧ Below w4.heap.size w4 wr) (fun i' _ => n - (intOf i').toNat)
  case atStart => exact ⟨0, Nat.zero_le _, rfl, fun j i hj => by omega, Below.refl _ _⟩
  case round =>
    obtain ⟨j, hj, rfl, hNo, hB⟩ := hrel
    have HNO := hide hNo
    have HBr := hide hB
    clear hNo hB
    by_cases hlt : j < n
    · have HSJ := hide (HSO.out j hlt)
      obtain ⟨sb, so, rfl, hat⟩ := (HSP.out.below HBr.out).at2 (by omega)
      obtain ⟨ya, yl, yc, y1, y2, y3, y4⟩ := hat j hlt
      have zy := lt_of_cell y1
      simp only at zy
      have HY := hide y3.1
      obtain ⟨b, hbq⟩ : ∃ b, b = S[j]?.getD spD := ⟨_, rfl⟩
      rw [← hbq] at y1 HY HSJ
      have HBQ := hide hbq
      obtain ⟨bi, bx⟩ := b
      simp only at y1 HY
      obtain ⟨w5, hw5⟩ : ∃ w5, w5 = wr.alloc (.cells #[.int .i64 (bi : Int), .slice ya yl yc] 29) := ⟨_, rfl⟩
      have B5 : Below wr.heap.size wr w5 := by rw [hw5]; exact bl_new _
      have P5 : SpBlk w5 wr.heap.size bi ya yl yc := by rw [hw5]; exact World.alloc_heap_new _ _
      have HW5 := hide hw5
      have HB5 := hide (bl_on HBr.out B5)
      have HP5 := hide P5
      have HY5 := hide (HY.out.below B5)
      have HFY5 := hide (y4.below B5)
      clear hat y3 y4 hbq hw5 B5 P5
      go_wp2_with fail
      rw [← HW5.out]
      clear y1 y2 zy
      obtain ⟨B11, hB11⟩ : ∃ B11, B11 = wr.heap.size := ⟨_, rfl⟩
      rw [← hB11] at HP5
      rw [← hB11]
      clear hB11
      go_loopw [36] (fun i' wr2 => ∃ i : Nat, i ≤ j ∧ i' = .int .i64 i ∧ (∀ k, k < i → bad (S[k]?.getD spD) (bi, bx) = false) ∧ Below w5.heap.size w5 wr2) (fun i' _ => j - (intOf i').toNat)
      case atStart => exact ⟨0, Nat.zero_le _, rfl, fun k hk => by omega, Below.refl _ _⟩
      case round =>
        obtain ⟨i, hi, rfl, hNi, hB⟩ := hrel
        have HNI := hide hNi
        have HBi := hide hB
        have HBi4 := hide (bl_on HB5.out hB)
        clear hNi hB
        by_cases hlti : i < j
        · have HSI := hide (HSO.out i (by omega))
          obtain ⟨sb2, so2, hse, hat⟩ := (HSP.out.below HBi4.out).at2 (by omega)
          obtain ⟨xa, xl, xc, x1, x2, x3, x4⟩ := hat i (by omega)
          simp only [Option.some.injEq, Addr.mk.injEq, and_true] at hse
          obtain ⟨e1, e2⟩ := hse
          rw [← e1, ← e2] at x1 x2
          have zx := lt_of_cell x1
          simp only at zx
          have HX := hide x3.1
          obtain ⟨a, haq⟩ : ∃ a, a = S[i]?.getD spD := ⟨_, rfl⟩
          rw [← haq] at x1 HX HSI
          have HAQ := hide haq
          obtain ⟨ai, ax⟩ := a
          simp only at x1 HX
          obtain ⟨w6, hw6⟩ : ∃ w6, w6 = wr.alloc (.cells #[.int .i64 (ai : Int), .slice xa xl xc] 29) := ⟨_, rfl⟩
          have B6 : Below wr.heap.size wr w6 := by rw [hw6]; exact bl_new _
          have P6 : SpBlk w6 wr.heap.size ai xa xl xc := by rw [hw6]; exact World.alloc_heap_new _ _
          have HW6 := hide hw6
          have HB6 := hide (bl_on HBi.out B6)
          have HB64 := hide (bl_on HBi4.out B6)
          have HB60 := hide (bl_on HB4.out (bl_on HBi4.out B6))
          have HP6 := hide P6
          have HX6 := hide (HX.out.below B6)
          have HY6 := hide (HY5.out.below (bl_on HBi.out B6))
          have HQ6 := hide (HP5.out.below (bl_on HBi.out B6))
          have HFX6 := hide (x4.below B6)
          have HFY6 := hide (HFY5.out.below (bl_on HBi.out B6))
          clear hat x3 x4 haq hw6 B6 P6 e1 e2 sb2 so2
          go_wp2_with fail
          rw [← HW6.out]
          clear x1 x2 zx
          obtain ⟨B13, hB13⟩ : ∃ B13, B13 = wr.heap.size := ⟨_, rfl⟩
          rw [← hB13] at HP6
          rw [← hB13]
          clear hB13 HW6
          obtain ⟨q0, q1⟩ := HQ6.out.cells
          obtain ⟨p0, p1⟩ := HP6.out.cells
          have zq := HQ6.out.lt
          have zp := HP6.out.lt
          obtain ⟨fa, hfa⟩ : ∃ fa, fa = spT T (ai, ax) := ⟨_, rfl⟩
          obtain ⟨fb, hfb⟩ : ∃ fb, fb = spT T (bi, bx) := ⟨_, rfl⟩
          have HT1 := hide (fun (V : World) (hb : Below w6.heap.size w6 V) => HTM.out V (bl_on HB60.out hb) (ai, ax) HSI.out xa xl xc (HX6.out.below hb))
          have HT2 := hide (fun (V : World) (hb : Below w6.heap.size w6 V) => HTM.out V (bl_on HB60.out hb) (bi, bx) HSJ.out ya yl yc (HY6.out.below hb))
          have HC6 := hide (fun (V : World) (hb : Below w6.heap.size w6 V) => HCS.out V (bl_on HB60.out hb) (ai, ax) (bi, bx) HSI.out HSJ.out xa xl xc ya yl yc (HX6.out.below hb) (HY6.out.below hb))
          obtain ⟨cl, hcl⟩ : ∃ cl, cl = decide (clash (memZ zs) (ss[ai]?.getD stmD) (ss[bi]?.getD stmD) ax bx) := ⟨_, rfl⟩
          simp only at HT1 HT2 HC6
          rw [← hfa] at HT1
          rw [← hfb] at HT2
          rw [← hcl] at HC6
          have HBD : Hid (bad (ai, ax) (bi, bx) = ((if al = true then eq8 fa fb else befB fb fa) && cl)) := by rw [Hid, HBAD.out, hfa, hfb, hcl]; rfl
          clear hfa hfb hcl
          go_cut [14, 15, 36] from 36 to 70 (fun v14 v15 v36 wc => ∃ C1 C2 : Nat, v36 = .int .i64 (i : Int) ∧ v14 = .pointer (some ⟨C1, 0, none⟩) ∧ v15 = .pointer (some ⟨C2, 0, none⟩) ∧ wc.rowIs C1 58 8 (fun k => .int .i64 (fa k)) ∧ wc.rowIs C2 58 8 (fun k => .int .i64 (fb k)) ∧ Below w6.heap.size w6 wc)
          case first =>
            refine region_made 8 10 [fIs (.slice ma ml mc), fIs (.agg #[.int .i64 (ai : Int), .slice xa xl xc]), fIs (arr8 fa), fIs (.slice ma ml mc), fIs (.agg #[.int .i64 (bi : Int), .slice ya yl yc]), fIs (arr8 fb), fEight w6.heap.size, fEight w6.heap.size] (by kernel_rfl) (by kernel_rfl) (by kernel_rfl) (fun ch p q w3 e h => by obtain ⟨t1, d1⟩ := p; obtain ⟨t2, d2⟩ := q; cases e; exact h) ⟨fIs_good _, fIs_good _, fIs_good _, fIs_good _, fIs_good _, fIs_good _, fEight_good _, fEight_good _, trivial⟩ ?mkF ?restF
            case mkF =>
              refine ⟨fun u wz hb hd => ?_, fun u wz hb hd => ?_, fun u wz hb hd => ?_, fun u wz hb hd => ?_, fun u wz hb hd => ?_, fun u wz hb hd => ?_, fun u wz hb hd => ?_, fun u wz hb hd => ?_, trivial⟩
              all_goals simp only [Act.put, List.setIfInBounds_toArray, List.set_cons_zero, List.set_cons_succ]
              · go_simp
                exact ⟨rfl, Below.refl _ _, fun h => by cases h⟩
              · have p0' := (hb.cell (p := ⟨B13, 0, none⟩) (lt_of_cell p0)).trans p0
                have p1' := (hb.cell (p := ⟨B13, 1, none⟩) (lt_of_cell p1)).trans p1
                go_simp
                exact ⟨rfl, Below.refl _ _, fun h => by cases h⟩
              · have e0 : u 0 = .slice ma ml mc := hd 0 (by omega) (by kernel_rfl)
                have e1 : u 1 = .agg #[.int .i64 (ai : Int), .slice xa xl xc] := hd 1 (by omega) (by kernel_rfl)
                rw [e0, e1]
                go_simp
                refine (HT1.out wz hb).mono ?_
                rintro e w2 ⟨rfl, hb2⟩
                exact ⟨rfl, hb2, fun h => by cases h⟩
              · go_simp
                exact ⟨rfl, Below.refl _ _, fun h => by cases h⟩
              · have q0' := (hb.cell (p := ⟨B11, 0, none⟩) (lt_of_cell q0)).trans q0
                have q1' := (hb.cell (p := ⟨B11, 1, none⟩) (lt_of_cell q1)).trans q1
                go_simp
                exact ⟨rfl, Below.refl _ _, fun h => by cases h⟩
              · have e3 : u 3 = .slice ma ml mc := hd 3 (by omega) (by kernel_rfl)
                have e4 : u 4 = .agg #[.int .i64 (bi : Int), .slice ya yl yc] := hd 4 (by omega) (by kernel_rfl)
                rw [e3, e4]
                go_simp
                refine (HT2.out wz hb).mono ?_
                rintro e w2 ⟨rfl, hb2⟩
                exact ⟨rfl, hb2, fun h => by cases h⟩
              · go_simp
                exact ⟨⟨_, rfl, eight_new _, hb.size⟩, (Below.refl _ _).alloc (Nat.le_refl _) _, fun _ b hb => by simp [blk] at hb; omega⟩
              · go_simp
                exact ⟨⟨_, rfl, eight_new _, hb.size⟩, (Below.refl _ _).alloc (Nat.le_refl _) _, fun _ b hb => by simp [blk] at hb; omega⟩
            case restF =>
              intro u wz hb hf hp
              have f0 : u 0 = .slice ma ml mc := hf 0 (by omega)
              have f1 : u 1 = .agg #[.int .i64 (ai : Int), .slice xa xl xc] := hf 1 (by omega)
              have f2 : u 2 = arr8 fa := hf 2 (by omega)
              have f3 : u 3 = .slice ma ml mc := hf 3 (by omega)
              have f4 : u 4 = .agg #[.int .i64 (bi : Int), .slice ya yl yc] := hf 4 (by omega)
              have f5 : u 5 = arr8 fb := hf 5 (by omega)
              obtain ⟨C1, f6, i6, n6⟩ := hf 6 (by omega)
              obtain ⟨C2, f7, i7, n7⟩ := hf 7 (by omega)
              have hcc : C1 ≠ C2 := by
                have := hp 6 7 (by omega) (by omega) (by omega) rfl rfl C1 (by rw [f6]; rfl)
                rw [f7] at this
                simpa [blk, eq_comm] using this
              refine UptoW.rest 2 8 (by rfl) (by kernel_rfl) ?_
              simp only [List.take, List.drop, putOps, Act.put, List.setIfInBounds_toArray, List.set_cons_zero, List.set_cons_succ, Nat.reduceAdd, f0, f1, f2, f3, f4, f5, f6, f7]
              clear f0 f1 f2 f3 f4 f5 f6 f7 hf hp
              have a0 := i6.cell (i := 0) (by omega)
              have b0 := i7.cell (i := 0) (by omega)
              have x0 := i6.frozen 0
              have y0 := i7.frozen 0
              have a1 := i6.cell (i := 1) (by omega)
              have b1 := i7.cell (i := 1) (by omega)
              have x1 := i6.frozen 1
              have y1 := i7.frozen 1
              have a2 := i6.cell (i := 2) (by omega)
              have b2 := i7.cell (i := 2) (by omega)
              have x2 := i6.frozen 2
              have y2 := i7.frozen 2
              have a3 := i6.cell (i := 3) (by omega)
              have b3 := i7.cell (i := 3) (by omega)
              have x3 := i6.frozen 3
              have y3 := i7.frozen 3
              have a4 := i6.cell (i := 4) (by omega)
              have b4 := i7.cell (i := 4) (by omega)
              have x4 := i6.frozen 4
              have y4 := i7.frozen 4
              have a5 := i6.cell (i := 5) (by omega)
              have b5 := i7.cell (i := 5) (by omega)
              have x5 := i6.frozen 5
              have y5 := i7.frozen 5
              have a6 := i6.cell (i := 6) (by omega)
              have b6 := i7.cell (i := 6) (by omega)
              have x6 := i6.frozen 6
              have y6 := i7.frozen 6
              have a7 := i6.cell (i := 7) (by omega)
              have b7 := i7.cell (i := 7) (by omega)
              have x7 := i6.frozen 7
              have y7 := i7.frozen 7
              have HI6 := hide i6
              have HI7 := hide i7
              have HBZ := hide hb
              have z6 := i6.lt
              have z7 := i7.lt
              simp only [arr8]
              clear i6 i7 hb
              go_wp2_with fail
              go_meet
              refine ⟨C1, C2, rfl, rfl, rfl, ?_, ?_, ?_⟩
              · exact rowIs_other8 (set8 HI6.out (fun j => .int .i64 (fa j))) hcc (fun j => .int .i64 (fb j))
              · exact set8 (rowIs_other8 HI7.out (Ne.symm hcc) (fun j => .int .i64 (fa j))) (fun j => .int .i64 (fb j))
              · exact below8 (below8 HBZ.out n6 (fun j => .int .i64 (fa j))) n7 (fun j => .int .i64 (fb j))
          case rest =>
            obtain ⟨C1, C2, rfl, rfl, rfl, hC1, hC2, hb⟩ := hcut
            have HC1 := hide hC1
            have HC2 := hide hC2
            have HBC := hide hb
            have z1 := hC1.lt
            have z2 := hC2.lt
            have a0 := hC1.cell (i := 0) (by omega)
            have b0 := hC2.cell (i := 0) (by omega)
            have a1 := hC1.cell (i := 1) (by omega)
            have b1 := hC2.cell (i := 1) (by omega)
            have a2 := hC1.cell (i := 2) (by omega)
            have b2 := hC2.cell (i := 2) (by omega)
            have a3 := hC1.cell (i := 3) (by omega)
            have b3 := hC2.cell (i := 3) (by omega)
            have a4 := hC1.cell (i := 4) (by omega)
            have b4 := hC2.cell (i := 4) (by omega)
            have a5 := hC1.cell (i := 5) (by omega)
            have b5 := hC2.cell (i := 5) (by omega)
            have a6 := hC1.cell (i := 6) (by omega)
            have b6 := hC2.cell (i := 6) (by omega)
            have a7 := hC1.cell (i := 7) (by omega)
            have b7 := hC2.cell (i := 7) (by omega)
            have HPc := hide (HP6.out.below hb)
            have HQc := hide (HQ6.out.below hb)
            clear hb hC1 hC2 q0 q1 p0 p1 zq zp
            obtain ⟨q0, q1⟩ := HQc.out.cells
            obtain ⟨p0, p1⟩ := HPc.out.cells
            have zq := HQc.out.lt
            have zp := HPc.out.lt
            have HNc := hide (HN4.out.below (bl_on HB64.out HBC.out))
            obtain ⟨n0, n1⟩ := HNc.out.cells
            have zn := HNc.out.lt
            have HCC := hide (HC6.out wc HBC.out)
            have HBF := hide (rBefore_any fb fa wc)
            have HBFC := hide (fun (V : World) (hb : Below wc.heap.size wc V) => (HC6.out V (bl_on HBC.out hb)))
            have HEQ : ∀ V, (Op.equalIn 10000 58 (arr8 fa) (arr8 fb)).run Try.prog V = .ok (eq8 fa fb) V := fun V => run_equalIn8 fa fb V
            simp only [arr8] at HEQ HBF
            obtain ⟨V, hV⟩ : ∃ V, V = wc := ⟨_, rfl⟩
            obtain rfl := hV
            go_upto_region 12 with fail
            go_cut [36, 66] from 36 to 70 (fun v36 v wd => v36 = .int .i64 (i : Int) ∧ v = .bool (bad (ai, ax) (bi, bx)) ∧ Below V.heap.size V wd)
            case first =>
              cases al with
              | true =>
                cases heq : eq8 fa fb with
                | true =>
                  rw [heq] at HEQ
                  go_wp2_with fail
                  refine HCC.out.mono ?_
                  rintro e w7 ⟨rfl, hb⟩
                  have HB7 := hide hb
                  clear hb
                  go_wp2_with fail
                  go_meet
                  exact ⟨rfl, by rw [HBD.out]; simp [heq], HB7.out⟩
                | false =>
                  rw [heq] at HEQ
                  go_wp2_with fail
                  go_meet
                  exact ⟨rfl, by rw [HBD.out]; simp [heq], Below.refl _ _⟩
              | false =>
                clear HEQ
                cases heq : befB fb fa with
                | true =>
                  rw [heq] at HBF
                  go_wp2_with fail
                  refine HBF.out.mono ?_
                  rintro e w7 ⟨rfl, hb⟩
                  have HB7 := hide hb
                  have HC7 := hide (HBFC.out w7 hb)
                  obtain ⟨n0', n1'⟩ := (HNc.out.below hb).cells
                  obtain ⟨q0', q1'⟩ := (HQc.out.below hb).cells
                  obtain ⟨p0', p1'⟩ := (HPc.out.below hb).cells
                  have zq' := (HQc.out.below hb).lt
                  have zp' := (HPc.out.below hb).lt
                  have zn' := (HNc.out.below hb).lt
                  clear hb n0 n1 q0 q1 p0 p1 zq zp zn
                  go_wp2_with fail
                  refine HC7.out.mono ?_
                  rintro e w8 ⟨rfl, hb⟩
                  have HB8 := hide (bl_on HB7.out hb)
                  clear hb
                  go_wp2_with fail
                  go_meet
                  exact ⟨rfl, by rw [HBD.out]; simp [heq], HB8.out⟩
                | false =>
                  rw [heq] at HBF
                  go_wp2_with fail
                  refine HBF.out.mono ?_
                  rintro e w7 ⟨rfl, hb⟩
                  have HB7 := hide hb
                  clear hb
                  go_wp2_with fail
                  go_meet
                  exact ⟨rfl, by rw [HBD.out]; simp [heq], HB7.out⟩
            case rest =>
              obtain ⟨rfl, rfl, hbd⟩ := hcut
              clear HEQ HBF HCC HBFC a0 b0 a1 b1 a2 b2 a3 b3 a4 b4 a5 b5 a6 b6 a7 b7 n0 n1 q0 q1 p0 p1 zq zp zn z1 z2
              have HBd := hide (bl_on HBC.out hbd)
              have HPd := hide (HPc.out.below hbd)
              have HQd := hide (HQc.out.below hbd)
              clear hbd
              obtain ⟨q0, q1⟩ := HQd.out.cells
              obtain ⟨p0, p1⟩ := HPd.out.cells
              have zq := HQd.out.lt
              have zp := HPd.out.lt
              have HBd4 := hide (bl_on HB64.out HBd.out)
              have HFd := hide ((HBd4.out.block _ (Array.getElem?_eq_some_iff.1 HF4.out).1).trans HF4.out)
              have RW5 := row5 (five (.bool false) (.int .i64 0) (.slice none 0 0) (.int .i64 0) (.slice none 0 0)) (HFd.out)
              have f0 := RW5.cell (i := 0) (by omega)
              have g0 := RW5.frozen 0
              have f1 := RW5.cell (i := 1) (by omega)
              have g1 := RW5.frozen 1
              have f2 := RW5.cell (i := 2) (by omega)
              have g2 := RW5.frozen 2
              have f3 := RW5.cell (i := 3) (by omega)
              have g3 := RW5.frozen 3
              have f4 := RW5.cell (i := 4) (by omega)
              have g4 := RW5.frozen 4
              simp only [five] at f0 f1 f2 f3 f4
              clear RW5
              have zf := (Array.getElem?_eq_some_iff.1 HFd.out).1
              have HBdw := hide (bl_on HB4.out HBd4.out)
              have HXd := hide (HX6.out.below HBd.out)
              have HYd := hide (HY6.out.below HBd.out)
              cases hbb : bad (ai, ax) (bi, bx) with
              | true =>
                have HBB := hide hbb
                clear hbb
                go_wp2_with fail
                have RF := set5 (row5 (five (.bool false) (.int .i64 0) (.slice none 0 0) (.int .i64 0) (.slice none 0 0)) HFd.out) (five (.bool true) (.int .i64 (ai : Int)) (.slice xa xl xc) (.int .i64 (bi : Int)) (.slice ya yl yc))
                have BF := below5 HBdw.out (b := w.heap.size + 1) (by omega) (five (.bool true) (.int .i64 (ai : Int)) (.slice xa xl xc) (.int .i64 (bi : Int)) (.slice ya yl yc))
                have hfx := (flush_num (HFX6.out.below HBd.out)).ne HFd.out (by decide)
                have hfy := (flush_num (HFY6.out.below HBd.out)).ne HFd.out (by decide)
                have IX := And.intro (ints_set5 HXd.out hfx (five (.bool true) (.int .i64 (ai : Int)) (.slice xa xl xc) (.int .i64 (bi : Int)) (.slice ya yl yc))) ((flush_num (HFX6.out.below HBd.out)).set5 hfx (five (.bool true) (.int .i64 (ai : Int)) (.slice xa xl xc) (.int .i64 (bi : Int)) (.slice ya yl yc)))
                have IY := And.intro (ints_set5 HYd.out hfy (five (.bool true) (.int .i64 (ai : Int)) (.slice xa xl xc) (.int .i64 (bi : Int)) (.slice ya yl yc))) ((flush_num (HFY6.out.below HBd.out)).set5 hfy (five (.bool true) (.int .i64 (ai : Int)) (.slice xa xl xc) (.int .i64 (bi : Int)) (.slice ya yl yc)))
                have hput : ((((wc.setCell ⟨w.heap.size + 1, 0, none⟩ (.bool true)).setCell ⟨w.heap.size + 1, 1, none⟩ (.int .i64 (ai : Int))).setCell ⟨w.heap.size + 1, 2, none⟩ (.slice xa xl xc)).setCell ⟨w.heap.size + 1, 3, none⟩ (.int .i64 (bi : Int))).setCell ⟨w.heap.size + 1, 4, none⟩ (.slice ya yl yc) = put5 wc (w.heap.size + 1) (five (.bool true) (.int .i64 (ai : Int)) (.slice xa xl xc) (.int .i64 (bi : Int)) (.slice ya yl yc)) := rfl
                rw [hput]
                clear hput
                generalize put5 wc (w.heap.size + 1) (five (.bool true) (.int .i64 (ai : Int)) (.slice xa xl xc) (.int .i64 (bi : Int)) (.slice ya yl yc)) = wf at RF BF IX IY ⊢
                have k0 := RF.cell (i := 0) (by omega)
                have k1 := RF.cell (i := 1) (by omega)
                have k2 := RF.cell (i := 2) (by omega)
                have k3 := RF.cell (i := 3) (by omega)
                have k4 := RF.cell (i := 4) (by omega)
                simp only [five] at k0 k1 k2 k3 k4
                refine bodyPost_ret (v := .tuple #[.agg #[.bool true, .int .i64 (ai : Int), .slice xa xl xc, .int .i64 (bi : Int), .slice ya yl yc], .int .i64 0]) (by simp [results, Try.results31, go_sem, k0, k1, k2, k3, k4]) rfl ⟨⟨.agg #[.bool true, .int .i64 (ai : Int), .slice xa xl xc, .int .i64 (bi : Int), .slice ya yl yc], rfl, .inr ⟨i, j, xa, xl, xc, ya, yl, yc, ⟨by rw [← HNN.out]; exact hlt, hlti, by rw [← HAQ.out, ← HBQ.out]; exact HBB.out, HNO.out, fun k hk => by rw [← HBQ.out]; exact HNI.out k hk⟩, by rw [← HAQ.out, ← HBQ.out], by rw [← HAQ.out]; exact IX, by rw [← HBQ.out]; exact IY⟩⟩, BF⟩
              | false =>
                have HBB := hide hbb
                clear hbb
                go_wp2_with fail
                go_roundw
                case rel => exact ⟨i + 1, by omega, by go_num, fun k hk => by
                             by_cases e : k = i
                             · subst e; rw [← HAQ.out]; exact HBB.out
                             · exact HNI.out k (by omega), bl_on HB6.out HBd.out⟩
                case measure => simp [intOf]; omega
        · obtain rfl : i = j := by omega
          have HNS := hide (NoneTo.succ HNO.out (fun k hk => by rw [← HBQ.out]; exact HNI.out k hk))
          go_wp2_with fail
          go_roundw
          case rel => exact ⟨i + 1, by omega, by go_num, HNS.out, HBi4.out⟩
          case measure => simp [intOf]; omega
    · obtain rfl : j = n := by omega
      have HFr := hide ((HBr.out.block _ (Array.getElem?_eq_some_iff.1 HF4.out).1).trans HF4.out)
      have RW5 := row5 (five (.bool false) (.int .i64 0) (.slice none 0 0) (.int .i64 0) (.slice none 0 0)) (HFr.out)
      have f0 := RW5.cell (i := 0) (by omega)
      have g0 := RW5.frozen 0
      have f1 := RW5.cell (i := 1) (by omega)
      have g1 := RW5.frozen 1
      have f2 := RW5.cell (i := 2) (by omega)
      have g2 := RW5.frozen 2
      have f3 := RW5.cell (i := 3) (by omega)
      have g3 := RW5.frozen 3
      have f4 := RW5.cell (i := 4) (by omega)
      have g4 := RW5.frozen 4
      simp only [five] at f0 f1 f2 f3 f4
      clear RW5
      have zf := (Array.getElem?_eq_some_iff.1 HFr.out).1
      have HBw := hide (bl_on HB4.out HBr.out)
      go_wp2_with fail
      have RF := set5 (row5 (five (.bool false) (.int .i64 0) (.slice none 0 0) (.int .i64 0) (.slice none 0 0)) HFr.out) (five (.bool false) (.int .i64 0) (.slice none 0 0) (.int .i64 0) (.slice none 0 0))
      have BF := below5 HBw.out (b := w.heap.size + 1) (by omega) (five (.bool false) (.int .i64 0) (.slice none 0 0) (.int .i64 0) (.slice none 0 0))
      have hput : ((((wr.setCell ⟨w.heap.size + 1, 0, none⟩ (.bool false)).setCell ⟨w.heap.size + 1, 1, none⟩ (.int .i64 0)).setCell ⟨w.heap.size + 1, 2, none⟩ (.slice none 0 0)).setCell ⟨w.heap.size + 1, 3, none⟩ (.int .i64 0)).setCell ⟨w.heap.size + 1, 4, none⟩ (.slice none 0 0) = put5 wr (w.heap.size + 1) (five (.bool false) (.int .i64 0) (.slice none 0 0) (.int .i64 0) (.slice none 0 0)) := rfl
      rw [hput]
      clear hput
      generalize put5 wr (w.heap.size + 1) (five (.bool false) (.int .i64 0) (.slice none 0 0) (.int .i64 0) (.slice none 0 0)) = wf at RF BF ⊢
      have k0 := RF.cell (i := 0) (by omega)
      have k1 := RF.cell (i := 1) (by omega)
      have k2 := RF.cell (i := 2) (by omega)
      have k3 := RF.cell (i := 3) (by omega)
      have k4 := RF.cell (i := 4) (by omega)
      simp only [five] at k0 k1 k2 k3 k4
      refine bodyPost_ret (v := .tuple #[zeroF, .int .i64 0]) (by simp [results, Try.results31, go_sem, zeroF, k0, k1, k2, k3, k4]) rfl ⟨⟨zeroF, rfl, .inl ⟨by rw [← HNN.out]; exact HNO.out, rfl⟩⟩, BF⟩
end Go.Proofs.Ytkbdnhchlkafnaa.V
namespace Go.Proofs.Ytkbdnhchlkafnaa.V
open Go.RowKit
set_option linter.unusedVariables false

theorem rFind_any (za : Option Addr) (zl zc : Nat) (zs : List Int) (ta : Option Addr) (tl tc : Nat) (ss : List Stm) (ma : Option Addr) (ml mc : Nat) (T : Tms) (al : Bool) (w : World) (hz : Ints w za zl zs) (hs : Stms w ta tl ss) (hT : TimesA w ma ml T) :
    Calls Try.prog 31 #[.agg #[.slice za zl zc, .slice ta tl tc], .slice ma ml mc, .bool al] w fun e w' => (∃ v, e = .returned (.tuple #[v, .int .i64 (rightE zs ss T)]) ∧ FindV zs ss T al w' v) ∧ Below w.heap.size w w' := by
  by_cases h : rightE zs ss T = 0
  · refine (rFind_good za zl zc zs ta tl tc ss ma ml mc T al w hz hs hT h).mono ?_
    rintro e w' ⟨⟨v, h1, h2⟩, h3⟩
    exact ⟨⟨v, by rw [h, h1], .inr ⟨h, h2⟩⟩, h3⟩
  · refine (rFind_bad za zl zc zs ta tl tc ss ma ml mc T al w hz hs hT h).mono ?_
    rintro e w' ⟨h1, h3⟩
    exact ⟨⟨zeroF, h1, .inl ⟨h, rfl⟩⟩, h3⟩
set_option maxRecDepth 100000 in
set_option maxHeartbeats 2000000 in
theorem rLegal_any (za : Option Addr) (zl zc : Nat) (zs : List Int) (ta : Option Addr) (tl tc : Nat) (ss : List Stm) (ma : Option Addr) (ml mc : Nat) (T : Tms) (w : World) (hz : Ints w za zl zs) (hs : Stms w ta tl ss) (hT : TimesA w ma ml T) :
    Calls Try.prog 10 #[.agg #[.slice za zl zc, .slice ta tl tc], .slice ma ml mc] w fun e w' => (∃ v, e = .returned (.tuple #[v, .int .i64 (rightE zs ss T)]) ∧ FindV zs ss T false w' v) ∧ Below w.heap.size w w' := by
  obtain ⟨W, hW⟩ : ∃ W, W = (w.alloc (.cells #[.slice za zl zc, .slice ta tl tc] 25)).alloc (.cells #[.bool false, .int .i64 0, .slice none 0 0, .int .i64 0, .slice none 0 0] 31) := ⟨_, rfl⟩
  have BW : Below w.heap.size w W := by rw [hW]; exact bl_on (bl_new _) (bl_new _)
  have N1 : NsBlk W w.heap.size za zl zc ta tl tc := by rw [hW]; exact (Below.heap_alloc _ _ _ (by simp)).trans (World.alloc_heap_new w _)
  have F1 : W.heap[w.heap.size + 1]? = some (.cells #[.bool false, .int .i64 0, .slice none 0 0, .int .i64 0, .slice none 0 0] 31 (0, 0)) := by
    rw [hW]
    have := World.alloc_heap_new (w.alloc (.cells #[.slice za zl zc, .slice ta tl tc] 25)) (.cells #[.bool false, .int .i64 0, .slice none 0 0, .int .i64 0, .slice none 0 0] 31)
    rw [World.size_alloc] at this
    exact this
  obtain ⟨n0, n1⟩ := N1.cells
  have zn := N1.lt
  have HC := hide (rFind_any za zl zc zs ta tl tc ss ma ml mc T false W (hz.below BW) (hs.below BW) (hT.below BW))
  have HW := hide hW
  have HBW := hide BW
  have HF := hide F1
  clear hz hs hT hW BW F1 N1
  go_enter Try.func10, Try.ntmps10
  go_wp2_with fail
  rw [← HW.out]
  refine HC.out.mono ?_
  rintro e w1 ⟨⟨v, rfl, hv⟩, hb⟩
  have HB1 := hide (bl_on HBW.out hb)
  have F2 := (hb.block _ (Array.getElem?_eq_some_iff.1 HF.out).1).trans HF.out
  obtain ⟨x, i, a, l, c, i2, a2, l2, c2, rfl, hv2⟩ := hv.put F2
  have RW5 := row5 (five (.bool false) (.int .i64 0) (.slice none 0 0) (.int .i64 0) (.slice none 0 0)) F2
  have HRW := hide RW5
  have HV2 := hide hv2
  have f0 := RW5.cell (i := 0) (by omega)
  have g0 := RW5.frozen 0
  have f1 := RW5.cell (i := 1) (by omega)
  have g1 := RW5.frozen 1
  have f2 := RW5.cell (i := 2) (by omega)
  have g2 := RW5.frozen 2
  have f3 := RW5.cell (i := 3) (by omega)
  have g3 := RW5.frozen 3
  have f4 := RW5.cell (i := 4) (by omega)
  have g4 := RW5.frozen 4
  simp only [five] at f0 f1 f2 f3 f4
  have zf := (Array.getElem?_eq_some_iff.1 F2).1
  clear hb n0 n1 zn F2 hv hv2 RW5
  go_wp2_with fail
  have RF := set5 HRW.out (five (.bool x) (.int .i64 i) (.slice a l c) (.int .i64 i2) (.slice a2 l2 c2))
  have BF := below5 HB1.out (b := w.heap.size + 1) (by omega) (five (.bool x) (.int .i64 i) (.slice a l c) (.int .i64 i2) (.slice a2 l2 c2))
  have VF := HV2.out
  have hput : ((((w1.setCell ⟨w.heap.size + 1, 0, none⟩ (.bool x)).setCell ⟨w.heap.size + 1, 1, none⟩ (.int .i64 i)).setCell ⟨w.heap.size + 1, 2, none⟩ (.slice a l c)).setCell ⟨w.heap.size + 1, 3, none⟩ (.int .i64 i2)).setCell ⟨w.heap.size + 1, 4, none⟩ (.slice a2 l2 c2) = put5 w1 (w.heap.size + 1) (five (.bool x) (.int .i64 i) (.slice a l c) (.int .i64 i2) (.slice a2 l2 c2)) := rfl
  rw [hput]
  clear hput HV2 HRW
  generalize put5 w1 (w.heap.size + 1) (five (.bool x) (.int .i64 i) (.slice a l c) (.int .i64 i2) (.slice a2 l2 c2)) = wf at RF BF VF ⊢
  have k0 := RF.cell (i := 0) (by omega)
  have k1 := RF.cell (i := 1) (by omega)
  have k2 := RF.cell (i := 2) (by omega)
  have k3 := RF.cell (i := 3) (by omega)
  have k4 := RF.cell (i := 4) (by omega)
  simp only [five] at k0 k1 k2 k3 k4
  exact bodyPost_ret (v := .tuple #[.agg #[.bool x, .int .i64 i, .slice a l c, .int .i64 i2, .slice a2 l2 c2], .int .i64 (rightE zs ss T)]) (by simp [results, Try.results10, go_sem, k0, k1, k2, k3, k4]) rfl ⟨⟨_, rfl, VF⟩, BF⟩
set_option maxRecDepth 100000 in
set_option maxHeartbeats 2000000 in
theorem rFree_any (za : Option Addr) (zl zc : Nat) (zs : List Int) (ta : Option Addr) (tl tc : Nat) (ss : List Stm) (ma : Option Addr) (ml mc : Nat) (T : Tms) (w : World) (hz : Ints w za zl zs) (hs : Stms w ta tl ss) (hT : TimesA w ma ml T) :
    Calls Try.prog 15 #[.agg #[.slice za zl zc, .slice ta tl tc], .slice ma ml mc] w fun e w' => (∃ v, e = .returned (.tuple #[v, .int .i64 (rightE zs ss T)]) ∧ FindV zs ss T true w' v) ∧ Below w.heap.size w w' := by
  obtain ⟨W, hW⟩ : ∃ W, W = (w.alloc (.cells #[.slice za zl zc, .slice ta tl tc] 25)).alloc (.cells #[.bool false, .int .i64 0, .slice none 0 0, .int .i64 0, .slice none 0 0] 31) := ⟨_, rfl⟩
  have BW : Below w.heap.size w W := by rw [hW]; exact bl_on (bl_new _) (bl_new _)
  have N1 : NsBlk W w.heap.size za zl zc ta tl tc := by rw [hW]; exact (Below.heap_alloc _ _ _ (by simp)).trans (World.alloc_heap_new w _)
  have F1 : W.heap[w.heap.size + 1]? = some (.cells #[.bool false, .int .i64 0, .slice none 0 0, .int .i64 0, .slice none 0 0] 31 (0, 0)) := by
    rw [hW]
    have := World.alloc_heap_new (w.alloc (.cells #[.slice za zl zc, .slice ta tl tc] 25)) (.cells #[.bool false, .int .i64 0, .slice none 0 0, .int .i64 0, .slice none 0 0] 31)
    rw [World.size_alloc] at this
    exact this
  obtain ⟨n0, n1⟩ := N1.cells
  have zn := N1.lt
  have HC := hide (rFind_any za zl zc zs ta tl tc ss ma ml mc T true W (hz.below BW) (hs.below BW) (hT.below BW))
  have HW := hide hW
  have HBW := hide BW
  have HF := hide F1
  clear hz hs hT hW BW F1 N1
  go_enter Try.func15, Try.ntmps15
  go_wp2_with fail
  rw [← HW.out]
  refine HC.out.mono ?_
  rintro e w1 ⟨⟨v, rfl, hv⟩, hb⟩
  have HB1 := hide (bl_on HBW.out hb)
  have F2 := (hb.block _ (Array.getElem?_eq_some_iff.1 HF.out).1).trans HF.out
  obtain ⟨x, i, a, l, c, i2, a2, l2, c2, rfl, hv2⟩ := hv.put F2
  have RW5 := row5 (five (.bool false) (.int .i64 0) (.slice none 0 0) (.int .i64 0) (.slice none 0 0)) F2
  have HRW := hide RW5
  have HV2 := hide hv2
  have f0 := RW5.cell (i := 0) (by omega)
  have g0 := RW5.frozen 0
  have f1 := RW5.cell (i := 1) (by omega)
  have g1 := RW5.frozen 1
  have f2 := RW5.cell (i := 2) (by omega)
  have g2 := RW5.frozen 2
  have f3 := RW5.cell (i := 3) (by omega)
  have g3 := RW5.frozen 3
  have f4 := RW5.cell (i := 4) (by omega)
  have g4 := RW5.frozen 4
  simp only [five] at f0 f1 f2 f3 f4
  have zf := (Array.getElem?_eq_some_iff.1 F2).1
  clear hb n0 n1 zn F2 hv hv2 RW5
  go_wp2_with fail
  have RF := set5 HRW.out (five (.bool x) (.int .i64 i) (.slice a l c) (.int .i64 i2) (.slice a2 l2 c2))
  have BF := below5 HB1.out (b := w.heap.size + 1) (by omega) (five (.bool x) (.int .i64 i) (.slice a l c) (.int .i64 i2) (.slice a2 l2 c2))
  have VF := HV2.out
  have hput : ((((w1.setCell ⟨w.heap.size + 1, 0, none⟩ (.bool x)).setCell ⟨w.heap.size + 1, 1, none⟩ (.int .i64 i)).setCell ⟨w.heap.size + 1, 2, none⟩ (.slice a l c)).setCell ⟨w.heap.size + 1, 3, none⟩ (.int .i64 i2)).setCell ⟨w.heap.size + 1, 4, none⟩ (.slice a2 l2 c2) = put5 w1 (w.heap.size + 1) (five (.bool x) (.int .i64 i) (.slice a l c) (.int .i64 i2) (.slice a2 l2 c2)) := rfl
  rw [hput]
  clear hput HV2 HRW
  generalize put5 w1 (w.heap.size + 1) (five (.bool x) (.int .i64 i) (.slice a l c) (.int .i64 i2) (.slice a2 l2 c2)) = wf at RF BF VF ⊢
  have k0 := RF.cell (i := 0) (by omega)
  have k1 := RF.cell (i := 1) (by omega)
  have k2 := RF.cell (i := 2) (by omega)
  have k3 := RF.cell (i := 3) (by omega)
  have k4 := RF.cell (i := 4) (by omega)
  simp only [five] at k0 k1 k2 k3 k4
  exact bodyPost_ret (v := .tuple #[.agg #[.bool x, .int .i64 i, .slice a l c, .int .i64 i2, .slice a2 l2 c2], .int .i64 (rightE zs ss T)]) (by simp [results, Try.results15, go_sem, k0, k1, k2, k3, k4]) rfl ⟨⟨_, rfl, VF⟩, BF⟩
end Go.Proofs.Ytkbdnhchlkafnaa.V
namespace Go.Proofs.Ytkbdnhchlkafnaa.V
open Go.RowKit
set_option linter.unusedVariables false

set_option maxRecDepth 100000 in
set_option maxHeartbeats 2000000 in
theorem sameSpot_ok (i : Int) (xa : Option Addr) (xl xc : Nat) (ya : Option Addr) (yl yc : Nat) (x : List Int) (w : World) (hx : Ints w xa xl x) (hy : Ints w ya yl x) :
    Calls Try.prog 32 #[.agg #[.int .i64 i, .slice xa xl xc], .agg #[.int .i64 i, .slice ya yl yc]] w fun e w' => e = .returned (.bool true) ∧ Below w.heap.size w w' := by
  obtain ⟨W, hW⟩ : ∃ W, W = (w.alloc (.cells #[.int .i64 i, .slice xa xl xc] 29)).alloc (.cells #[.int .i64 i, .slice ya yl yc] 29) := ⟨_, rfl⟩
  have BW : Below w.heap.size w W := by rw [hW]; exact bl_on (bl_new _) (bl_new _)
  have F1 : W.heap[w.heap.size]? = some (.cells #[.int .i64 i, .slice xa xl xc] 29 (0, 0)) := by rw [hW]; exact (Below.heap_alloc _ _ _ (by simp)).trans (World.alloc_heap_new w _)
  have F2 : W.heap[w.heap.size + 1]? = some (.cells #[.int .i64 i, .slice ya yl yc] 29 (0, 0)) := by
    rw [hW]
    have := World.alloc_heap_new (w.alloc (.cells #[.int .i64 i, .slice xa xl xc] 29)) (.cells #[.int .i64 i, .slice ya yl yc] 29)
    rw [World.size_alloc] at this
    exact this
  obtain ⟨a0, a1⟩ := cells_two F1
  obtain ⟨b0, b1⟩ := cells_two F2
  have z1 := (Array.getElem?_eq_some_iff.1 F1).1
  have z2 := (Array.getElem?_eq_some_iff.1 F2).1
  have HC := hide (sameList_any xa xl xc x ya yl yc x W (hx.below BW) (hy.below BW))
  have HW := hide hW
  have HB := hide BW
  clear hx hy hW BW F1 F2
  go_enter Try.func32, Try.ntmps32
  go_wp2_with fail
  rw [← HW.out]
  refine HC.out.mono ?_
  rintro e w1 ⟨he, n, rfl⟩
  simp only [decide_true] at he
  subst he
  go_wp2_with fail
  go_ret
  exact ⟨rfl, bl_on HB.out (below_drewN _ n)⟩
set_option maxRecDepth 100000 in
set_option maxHeartbeats 4000000 in
theorem sameFound_ok (b : Bool) (i j : Int) (xa : Option Addr) (xl xc : Nat) (ya : Option Addr) (yl yc : Nat) (xa' : Option Addr) (xl' xc' : Nat) (ya' : Option Addr) (yl' yc' : Nat) (x y : List Int) (w : World) (hx : Ints w xa xl x) (hy : Ints w ya yl y) (hx' : Ints w xa' xl' x) (hy' : Ints w ya' yl' y) :
    Calls Try.prog 11 #[.agg #[.bool b, .int .i64 i, .slice xa xl xc, .int .i64 j, .slice ya yl yc], .agg #[.bool b, .int .i64 i, .slice xa' xl' xc', .int .i64 j, .slice ya' yl' yc']] w fun e w' => e = .returned (.bool true) ∧ Below w.heap.size w w' := by
  obtain ⟨W, hW⟩ : ∃ W, W = (w.alloc (.cells #[.bool b, .int .i64 i, .slice xa xl xc, .int .i64 j, .slice ya yl yc] 31)).alloc (.cells #[.bool b, .int .i64 i, .slice xa' xl' xc', .int .i64 j, .slice ya' yl' yc'] 31) := ⟨_, rfl⟩
  have BW : Below w.heap.size w W := by rw [hW]; exact bl_on (bl_new _) (bl_new _)
  have F1 : W.heap[w.heap.size]? = some (.cells #[.bool b, .int .i64 i, .slice xa xl xc, .int .i64 j, .slice ya yl yc] 31 (0, 0)) := by rw [hW]; exact (Below.heap_alloc _ _ _ (by simp)).trans (World.alloc_heap_new w _)
  have F2 : W.heap[w.heap.size + 1]? = some (.cells #[.bool b, .int .i64 i, .slice xa' xl' xc', .int .i64 j, .slice ya' yl' yc'] 31 (0, 0)) := by
    rw [hW]
    have := World.alloc_heap_new (w.alloc (.cells #[.bool b, .int .i64 i, .slice xa xl xc, .int .i64 j, .slice ya yl yc] 31)) (.cells #[.bool b, .int .i64 i, .slice xa' xl' xc', .int .i64 j, .slice ya' yl' yc'] 31)
    rw [World.size_alloc] at this
    exact this
  have R1 := row5 (five (.bool b) (.int .i64 i) (.slice xa xl xc) (.int .i64 j) (.slice ya yl yc)) F1
  have R2 := row5 (five (.bool b) (.int .i64 i) (.slice xa' xl' xc') (.int .i64 j) (.slice ya' yl' yc')) F2
  have a0 := R1.cell (i := 0) (by omega)
  have a1 := R1.cell (i := 1) (by omega)
  have a2 := R1.cell (i := 2) (by omega)
  have b0 := R2.cell (i := 0) (by omega)
  have b1 := R2.cell (i := 1) (by omega)
  have b2 := R2.cell (i := 2) (by omega)
  simp only [five] at a0 a1 a2 b0 b1 b2
  have z1 := R1.lt
  have z2 := R2.lt
  have HC1 := hide (sameSpot_ok i xa xl xc xa' xl' xc' x W (hx.below BW) (hx'.below BW))
  have HC2 := hide (fun (V : World) (hb : Below W.heap.size W V) => sameSpot_ok j ya yl yc ya' yl' yc' y V ((hy.below BW).below hb) ((hy'.below BW).below hb))
  have HR1 := hide R1
  have HR2 := hide R2
  have HW := hide hW
  have HB := hide BW
  have qb : (b == b) = true := by simp
  clear hx hy hx' hy' hW BW F1 F2 R1 R2
  go_enter Try.func11, Try.ntmps11
  go_wp2_with fail
  rw [← HW.out]
  refine HC1.out.mono ?_
  rintro e w1 ⟨rfl, hb⟩
  have HB1 := hide (bl_on HB.out hb)
  have HC3 := hide (HC2.out w1 hb)
  have R3 := HR1.out.of_block (hb.block _ z1)
  have R4 := HR2.out.of_block (hb.block _ z2)
  have a3 := R3.cell (i := 3) (by omega)
  have a4 := R3.cell (i := 4) (by omega)
  have b3 := R4.cell (i := 3) (by omega)
  have b4 := R4.cell (i := 4) (by omega)
  simp only [five] at a3 a4 b3 b4
  have z3 := R3.lt
  have z4 := R4.lt
  clear hb a0 a1 a2 b0 b1 b2 z1 z2 R3 R4
  go_wp2_with fail
  refine HC3.out.mono ?_
  rintro e w2 ⟨rfl, hb⟩
  have HB2 := hide (bl_on HB1.out hb)
  clear hb
  go_wp2_with fail
  go_ret
  exact ⟨rfl, HB2.out⟩
theorem ints_none (w : World) : Ints w none 0 [] := ⟨rfl, by omega, fun x h => (by simp at h), .inl rfl⟩
theorem FindV.same {zs : List Int} {ss : List Stm} {T : Tms} {al : Bool} {w : World} {v v' : Value} (h1 : FindV zs ss T al w v) (h2 : FindV zs ss T al w v') : ∃ (b : Bool) (i j : Int) (xa : Option Addr) (xl xc : Nat) (ya : Option Addr) (yl yc : Nat) (xa' : Option Addr) (xl' xc' : Nat) (ya' : Option Addr) (yl' yc' : Nat) (x y : List Int), v = .agg #[.bool b, .int .i64 i, .slice xa xl xc, .int .i64 j, .slice ya yl yc] ∧ v' = .agg #[.bool b, .int .i64 i, .slice xa' xl' xc', .int .i64 j, .slice ya' yl' yc'] ∧ Ints w xa xl x ∧ Ints w ya yl y ∧ Ints w xa' xl' x ∧ Ints w ya' yl' y := by
  have z := ints_none w
  rcases h1 with ⟨e1, k1⟩ | ⟨e1, k1⟩
  · rcases h2 with ⟨e2, k2⟩ | ⟨e2, k2⟩
    · exact ⟨_, _, _, _, _, _, _, _, _, _, _, _, _, _, _, [], [], k1, k2, z, z, z, z⟩
    · exact absurd e2 e1
  · rcases h2 with ⟨e2, k2⟩ | ⟨e2, k2⟩
    · exact absurd e1 e2
    · rcases k1 with ⟨f1, g1⟩ | ⟨i, j, a1, l1, c1, a2, l2, c2, f1, g1, ⟨h1, h2⟩, h3, h4⟩
      · rcases k2 with ⟨f2, g2⟩ | ⟨i', j', a1', l1', c1', a2', l2', c2', f2, g2, ⟨h1', h2'⟩, h3', h4'⟩
        · exact ⟨_, _, _, _, _, _, _, _, _, _, _, _, _, _, _, [], [], g1, g2, z, z, z, z⟩
        · exact (f2.none f1).elim
      · rcases k2 with ⟨f2, g2⟩ | ⟨i', j', a1', l1', c1', a2', l2', c2', f2, g2, ⟨h1', h2'⟩, h3', h4'⟩
        · exact (f1.none f2).elim
        · obtain ⟨rfl, rfl⟩ := f1.only f2
          exact ⟨_, _, _, _, _, _, _, _, _, _, _, _, _, _, _, _, _, g1, g2, h1, h3, h1', h3'⟩
/-- Two that are told the same are the same. -/
theorem sameFind_any {zs : List Int} {ss : List Stm} {T : Tms} {al : Bool} {w : World} {v v' : Value} (h1 : FindV zs ss T al w v) (h2 : FindV zs ss T al w v') : Calls Try.prog 11 #[v, v'] w fun e w' => e = .returned (.bool true) ∧ Below w.heap.size w w' := by
  obtain ⟨b, i, j, xa, xl, xc, ya, yl, yc, xa', xl', xc', ya', yl', yc', x, y, rfl, rfl, k1, k2, k3, k4⟩ := h1.same h2
  exact sameFound_ok b i j xa xl xc ya yl yc xa' xl' xc' ya' yl' yc' x y w k1 k2 k3 k4
end Go.Proofs.Ytkbdnhchlkafnaa.V
namespace Go.Proofs.Ytkbdnhchlkafnaa.V
open Go.RowKit
set_option linter.unusedVariables false

/-- A place: the array, where in it. -/
structure PW where
  arr : Int
  pos : Int
def PW.v (q : PW) : Value := .agg #[.int .i64 q.arr, .int .i64 q.pos]
/-- To where an access leads. -/
def leadV (zs : List Int) (a : Acc) (x : List Int) : PW := ⟨a.1, if worthV a.2 x < 0 ∨ zs[a.1.toNat]?.getD 0 ≤ worthV a.2 x then -1 else worthV a.2 x⟩
/-- The words of a spot. -/
structure TW where
  stm : Int
  xa : Option Addr
  xl : Nat
  xc : Nat
  tm : Nat → Int
  kd : Int
  va : Int
  pu : PW
  ga : Option Addr
  gl : Nat
  gc : Nat
def TW.cs (q : TW) : Array Value := #[.int .i64 q.stm, .slice q.xa q.xl q.xc, .int .i64 (q.tm 0), .int .i64 (q.tm 1), .int .i64 (q.tm 2), .int .i64 (q.tm 3), .int .i64 (q.tm 4), .int .i64 (q.tm 5), .int .i64 (q.tm 6), .int .i64 (q.tm 7), .int .i64 q.kd, .int .i64 q.va, .int .i64 q.pu.arr, .int .i64 q.pu.pos, .slice q.ga q.gl q.gc]
def TW.v (q : TW) : Value := .agg q.cs
def twD : TW := ⟨0, none, 0, 0, fun _ => 0, 0, 0, ⟨0, 0⟩, none, 0, 0⟩
/-- A spot with all that is known of it. -/
structure Sp where
  stm : Nat
  pt : List Int
  tm : Nat → Int
  kd : Int
  va : Int
  put : PW
  gets : List PW
def spDD : Sp := ⟨0, [], fun _ => 0, 0, 0, ⟨0, 0⟩, []⟩
def spOf (zs : List Int) (ss : List Stm) (T : Tms) (p : Nat × List Int) : Sp := ⟨p.1, p.2, timeV (T[p.1]?.getD []) p.2, (ss[p.1]?.getD stmD).kind, (ss[p.1]?.getD stmD).val, leadV zs (ss[p.1]?.getD stmD).put p.2, (ss[p.1]?.getD stmD).gets.map fun a => leadV zs a p.2⟩
/-- A list of places. -/
def PlsAt (w : World) (a : Option Addr) (len : Nat) (ps : List PW) : Prop := ps.length = len ∧ len ≤ 9223372036854775807 ∧ (len = 0 ∨ ∃ b off, a = some ⟨b, off, none⟩ ∧ ∀ j, j < len → w.cell? ⟨b, off + j * 2, none⟩ = some (.int .i64 (ps[j]?.getD ⟨0, 0⟩).arr) ∧ w.cell? ⟨b, off + j * 2 + 1, none⟩ = some (.int .i64 (ps[j]?.getD ⟨0, 0⟩).pos))
structure TG (w : World) (q : TW) (p : Sp) : Prop where
  stm : q.stm = (p.stm : Int)
  pt : Lst w q.xa q.xl q.xc p.pt
  tm : q.tm = p.tm
  kd : q.kd = p.kd
  va : q.va = p.va
  put : q.pu = p.put
  gets : PlsAt w q.ga q.gl p.gets
  cap : q.gl ≤ q.gc
  num : ∀ b o, q.xa = some ⟨b, o, none⟩ → ∃ cur fz, w.heap[b]? = some (.cells cur 3 fz)
theorem info_P : (Try.prog.info? 60).map (fun i => (i.zero, i.size, i.bytes)) = some (some (.agg #[.int .i64 0, .int .i64 0]), 2, 16) := by kernel_rfl
/-- The first k of what has been made, in a row of the call's own. -/
def OutP (W : World) (R len : Nat) (us : Nat → PW) (k : Nat) : Prop := ∃ f, W.rowIs R 60 (len * 2) f ∧ ∀ j, j < k → f (j * 2) = .int .i64 (us j).arr ∧ f (j * 2 + 1) = .int .i64 (us j).pos
theorem OutP.lt {W : World} {R len k : Nat} {us : Nat → PW} (h : OutP W R len us k) : R < W.heap.size := by
  obtain ⟨f, h1, _⟩ := h
  exact h1.lt
theorem OutP.below {W V : World} {R len k : Nat} {us : Nat → PW} (h : OutP W R len us k) (hb : Below W.heap.size W V) : OutP V R len us k := by
  obtain ⟨f, h1, h2⟩ := h
  exact ⟨f, h1.of_block (hb.block _ h1.lt), h2⟩
theorem OutP.lies {W : World} {R len k N : Nat} {us : Nat → PW} (h : OutP W R len us k) (hN : N ≤ R) : Lies N (fun V => OutP V R len us k) W := by
  obtain ⟨f, h1, h2⟩ := h
  exact (lies_row h1 hN).imp (fun V hV => ⟨f, hV, h2⟩)
theorem OutP.snoc {W : World} {R len k : Nat} {us : Nat → PW} (h : OutP W R len us k) (u : PW) : OutP ((W.setCell ⟨R, k * 2, none⟩ (.int .i64 u.arr)).setCell ⟨R, k * 2 + 1, none⟩ (.int .i64 u.pos)) R len (fun j => if j = k then u else us j) (k + 1) := by
  obtain ⟨f, h1, h2⟩ := h
  refine ⟨_, (h1.set (k * 2) _).set (k * 2 + 1) _, fun j hj => ?_⟩
  by_cases e : j = k
  · subst e
    simp only [if_true]
    refine ⟨?_, ?_⟩ <;> simp
  · obtain ⟨e0, e1⟩ := h2 j (by omega)
    simp only [if_neg e]
    refine ⟨by rw [if_neg (by omega)]; rw [if_neg (by omega)]; exact e0, by rw [if_neg (by omega)]; rw [if_neg (by omega)]; exact e1⟩
set_option maxRecDepth 100000 in
set_option maxHeartbeats 4000000 in
theorem eachAP (a : Option Addr) (len cap : Nat) (qs : Nat → AW) (g : Nat) (bs : Array Value) (eg : ∀ args w, (callFunc g args).run Try.prog w = .ok (.enter g args) w) (Q : Nat → PW → World → Prop) (w : World) (hlen : len * 16 ≤ 281474976710656)
    (hin : len = 0 ∨ ∃ b off, a = some ⟨b, off, none⟩ ∧ ∀ j, j < len → w.cell? ⟨b, off + j * 3, none⟩ = some (.int .i64 (qs j).arr) ∧ w.cell? ⟨b, off + j * 3 + 1, none⟩ = some (.slice (qs j).ca (qs j).cl (qs j).cc) ∧ w.cell? ⟨b, off + j * 3 + 2, none⟩ = some (.int .i64 (qs j).con))
    (hcall : ∀ (j : Nat) (W : World), j < len → Below w.heap.size w W → w.heap.size < W.heap.size → Calls Try.prog g (#[(qs j).v] ++ bs) W fun e w' => (∃ u : PW, e = .returned u.v ∧ Lies W.heap.size (Q j u) w') ∧ Below W.heap.size W w') :
    Calls Try.prog 74 #[.slice a len cap, .func (.func g) #[] bs] w fun e w' => (∃ us : Nat → PW, e = .returned (.slice (some ⟨w.heap.size, 0, none⟩) len len) ∧ OutP w' w.heap.size len us len ∧ ∀ j, j < len → Lies (w.heap.size + 1) (Q j (us j)) w') ∧ Below w.heap.size w w' := by
  have HIN := hide hin
  have HCALL := hide hcall
  obtain ⟨i0, hi, hz0, hz1, hz2⟩ := info_parts info_P
  have hmk : ∀ W : World, (Instr.makeSlice 61 (.int .i64 (len : Int)) (.int .i64 (len : Int))).run Try.prog W = .ok (.slice (some ⟨W.heap.size, 0, none⟩) len len) (W.alloc (.cells (madeCells #[.int .i64 0, .int .i64 0] (len * 2)) 60)) := fun W => by
    have := run_make (P := Try.prog) W 61 60 i0 (.agg #[.int .i64 0, .int .i64 0]) Try.underlying61 hi hz0 .i64 .i64 len len (by omega) (by omega) (by rw [hz2]; omega) (by omega)
    simpa [hz1, Value.cells] using this
  have HROW : Hid (OutP (w.alloc (.cells (madeCells #[.int .i64 0, .int .i64 0] (len * 2)) 60)) w.heap.size len (fun _ => ⟨0, 0⟩) 0) := ⟨fun i => (#[.int .i64 0, .int .i64 0] : Array Value)[i % 2]!, ⟨_, World.alloc_heap_new _ _, size_madeCells _ _, fun i hi => by simp [madeCells, hi]⟩, fun j hj => by omega⟩
  have HB0 : Hid (Below w.heap.size w (w.alloc (.cells (madeCells #[.int .i64 0, .int .i64 0] (len * 2)) 60))) := bl_new _
  clear hin hcall hi hz0 hz1 hz2
  go_enter Try.func74, Try.ntmps74
  go_wp2_with fail
  clear hmk
  go_loopw [13] (fun i wr => ∃ k : Nat, k ≤ len ∧ i = .int .i64 k ∧ (∃ us, OutP wr w.heap.size len us k ∧ ∀ j, j < k → Lies (w.heap.size + 1) (Q j (us j)) wr) ∧ Below w.heap.size w wr) (fun i _ => len - (intOf i).toNat)
  case atStart => exact ⟨0, Nat.zero_le _, rfl, ⟨_, HROW.out, fun j hj => by omega⟩, HB0.out⟩
  case round =>
    obtain ⟨k, hk, rfl, ⟨us, hT, hL⟩, hB⟩ := hrel
    have HT := hide hT
    have HL := hide hL
    have HB := hide hB
    clear HROW HB0 hL
    by_cases hlt : k < len
    · obtain ⟨b, off, rfl, hat⟩ := HIN.out.resolve_left (by omega)
      obtain ⟨c0, c1, c2⟩ := hat k hlt
      have HC0 := hide (HCALL.out k)
      obtain ⟨q, hq⟩ : ∃ q, q = qs k := ⟨_, rfl⟩
      rw [← hq] at HC0 c0 c1 c2
      have c0' := (HB.out.cell (p := ⟨b, off + k * 3, none⟩) (lt_of_cell c0)).trans c0
      have z0 := lt_of_cell c0'
      have c1' := (HB.out.cell (p := ⟨b, off + k * 3 + 1, none⟩) (lt_of_cell c1)).trans c1
      have z1 := lt_of_cell c1'
      have c2' := (HB.out.cell (p := ⟨b, off + k * 3 + 2, none⟩) (lt_of_cell c2)).trans c2
      have z2 := lt_of_cell c2'
      have hRl := hT.lt
      have B2 : Below wr.heap.size wr (wr.alloc (.cells #[.int .i64 q.arr, .slice q.ca q.cl q.cc, .int .i64 q.con] 72)) := bl_new _
      have HC := hide (HC0.out (wr.alloc (.cells #[.int .i64 q.arr, .slice q.ca q.cl q.cc, .int .i64 q.con] 72)) hlt (bl_on HB.out B2) (by rw [World.size_alloc]; omega))
      have HB2 := hide B2
      unfold AW.v  at HC
      clear hat hq B2 hT hB HC0 c0 c1 c2
      go_wp2_with fail
      refine HC.out.mono ?_
      rintro e w2 ⟨⟨u, rfl, hl⟩, hb2⟩
      have T2 := HT.out.below (bl_on HB2.out hb2)
      obtain ⟨f, r1, r2⟩ := T2
      have d0 := r1.cell (i := k * 2) (by omega)
      have y0 := r1.frozen (k * 2)
      have d1 := r1.cell (i := k * 2 + 1) (by omega)
      have y1 := r1.frozen (k * 2 + 1)
      have z3 := r1.lt
      have hsz := HB.out.size
      have HT2 := hide (OutP.snoc ⟨f, r1, r2⟩ u)
      have HLn := hide (hl.mono (N := w.heap.size + 1) (by rw [World.size_alloc]; omega))
      have HLo := hide (fun j (hj : j < k) => (HL.out j hj).below (bl_on HB2.out hb2))
      have HBb := hide (bl_on HB.out (bl_on HB2.out hb2))
      clear hb2 r1 r2 hl
      try unfold PW.v 
      go_wp2_with fail
      go_roundw
      case rel =>
        refine ⟨k + 1, by omega, by go_num, ⟨_, HT2.out, fun j hj => ?_⟩, ((HBb.out.setCell (p := ⟨w.heap.size, k * 2, none⟩) (Nat.le_refl _) _).setCell (p := ⟨w.heap.size, k * 2 + 1, none⟩) (Nat.le_refl _) _)⟩
        by_cases e : k = j
        · subst e
          simp only [if_true]
          have hl := HLn.out
          exact (((hl).set (p := ⟨w.heap.size, k * 2, none⟩) (by simp only; omega) _).set (p := ⟨w.heap.size, k * 2 + 1, none⟩) (by simp only; omega) _)
        · simp only [if_neg (fun e' : j = k => e e'.symm)]
          have hl := HLo.out j (by omega)
          exact (((hl).set (p := ⟨w.heap.size, k * 2, none⟩) (by simp only; omega) _).set (p := ⟨w.heap.size, k * 2 + 1, none⟩) (by simp only; omega) _)
      case measure => simp [intOf]; omega
    · obtain rfl : k = len := by omega
      clear hT hB
      go_wp2_with fail
      go_ret
      exact ⟨⟨us, rfl, HT.out, HL.out⟩, HB.out⟩
theorem pls_out {V : World} {R len : Nat} {us : Nat → PW} {ps : List PW} (h : OutP V R len us len) (hl : ps.length = len) (hm : len ≤ 9223372036854775807) (hg : ∀ j, j < len → us j = ps[j]?.getD ⟨0, 0⟩) : PlsAt V (some ⟨R, 0, none⟩) len ps := by
  obtain ⟨f, h1, h2⟩ := h
  refine ⟨hl, hm, .inr ⟨R, 0, rfl, fun j hj => ?_⟩⟩
  obtain ⟨e0, e1⟩ := h2 j hj
  have c0 := h1.cell (i := j * 2) (by omega)
  have c1 := h1.cell (i := j * 2 + 1) (by omega)
  rw [e0, hg j hj] at c0
  rw [e1, hg j hj] at c1
  exact ⟨by rw [Nat.zero_add]; exact c0, by rw [Nat.zero_add]; exact c1⟩
set_option maxRecDepth 100000 in
set_option maxHeartbeats 4000000 in
theorem lead_any (q : AW) (a : Acc) (xa : Option Addr) (xl xc : Nat) (x : List Int) (za : Option Addr) (zl zc : Nat) (zs : List Int) (w : World) (hq : AG w q a) (hx : Ints w xa xl x) (hz : Ints w za zl zs) (ho : AccOk zs.length a x.length) (h4 : x.length ≤ 4) (hxb : ∀ y ∈ x, 0 ≤ y ∧ y ≤ 4096) :
    Calls Try.prog 73 #[q.v, .slice xa xl xc, .slice za zl zc] w fun e w' => e = .returned (leadV zs a x).v ∧ Below w.heap.size w w' := by
  have B0 : Below w.heap.size w ((w.alloc (.cells #[.int .i64 q.arr, .slice q.ca q.cl q.cc, .int .i64 q.con] 72)).alloc (.cells #[.int .i64 0, .int .i64 0] 60)) := bl_on (bl_new _) (bl_new _)
  have P0 := (q.new w).below (bl_new (.cells #[.int .i64 0, .int .i64 0] 60))
  have PZ : ((w.alloc (.cells #[.int .i64 q.arr, .slice q.ca q.cl q.cc, .int .i64 q.con] 72)).alloc (.cells #[.int .i64 0, .int .i64 0] 60)).heap[w.heap.size + 1]? = some (.cells #[.int .i64 0, .int .i64 0] 60 (0, 0)) := by have := World.alloc_heap_new (w.alloc (.cells #[.int .i64 q.arr, .slice q.ca q.cl q.cc, .int .i64 q.con] 72)) (.cells #[.int .i64 0, .int .i64 0] 60); simpa using this
  obtain ⟨W, hW⟩ : ∃ W, W = (w.alloc (.cells #[.int .i64 q.arr, .slice q.ca q.cl q.cc, .int .i64 q.con] 72)).alloc (.cells #[.int .i64 0, .int .i64 0] 60) := ⟨_, rfl⟩
  rw [← hW] at B0 P0 PZ
  have hxl := hx.1
  have hol := ho.len
  have hcl := hq.coef.1
  have HC := hide (worth_any q.ca q.cl q.cc a.2.1 q.con xa xl xc x W (hq.coef.below B0) (hx.below B0) (by omega) (by omega) (by rw [hq.con]; exact ho.con) ho.coef hxb)
  rw [hq.con] at HC
  obtain ⟨V, hV⟩ : ∃ V, V = worthV a.2 x := ⟨_, rfl⟩
  have e2 : worthV (a.2.1, a.2.2) x = V := by rw [hV]
  rw [e2] at HC
  obtain ⟨K, hK⟩ : ∃ K : Nat, a.1 = (K : Int) := ⟨a.1.toNat, by have := ho.arr; omega⟩
  have hKl : K < zl := by have := ho.arr; have := hz.1; omega
  obtain ⟨zb, zo, rfl, hzb, hzc⟩ := hz.at (by omega)
  have cz0 := hzc K hKl
  have HLV : Hid (worthV a.2 x = V ∧ zs[a.1.toNat]?.getD 0 = zs[K]?.getD 0) := ⟨hV.symm, by rw [hK, Int.toNat_natCast]⟩
  obtain ⟨Z, hZ⟩ : ∃ Z, Z = zs[K]?.getD 0 := ⟨_, rfl⟩
  rw [← hZ] at cz0 HLV
  have HAR : Hid (a.1 = q.arr) := hq.arr.symm
  have HQA : Hid (q.arr = (K : Int)) := by rw [Hid, hq.arr, hK]
  have HB := hide B0
  have HP := hide P0
  have HZ0 := hide PZ
  have HW := hide hW
  have HCZ := hide cz0
  have HCON : Hid (q.con = a.2.2) := hq.con
  have hKz : (K : Int) < (zl : Int) := by omega
  clear hq hx hz ho B0 P0 PZ hW hzc hV e2 hK hZ cz0 hxl hol hcl
  unfold AW.v
  obtain ⟨p0, p1, p2⟩ := HP.out.cells
  have zp := HP.out.lt
  rw [HCON.out] at p2
  go_enter Try.func73, Try.ntmps73
  go_upto_region 1 with fail
  rw [← HW.out]
  go_wp2_with fail
  refine HC.out.mono ?_
  rintro e w1 ⟨rfl, hb⟩
  have HB1 := hide (bl_on HB.out hb)
  have HP1 := hide (HP.out.below hb)
  have HZ2 : Hid (w1.heap[w.heap.size + 1]? = some (.cells #[.int .i64 0, .int .i64 0] 60 (0, 0))) := (hb.block _ (Array.getElem?_eq_some_iff.1 HZ0.out).1).trans HZ0.out
  have cz := (HB1.out.cell (p := ⟨zb, zo + K, none⟩) hzb).trans HCZ.out
  have zcz := lt_of_cell cz
  clear p0 p1 p2 zp hb HP HZ0
  obtain ⟨p0, p1, p2⟩ := HP1.out.cells
  rw [HQA.out] at p0
  have zp := HP1.out.lt
  have HLE : Hid (leadV zs a x = ⟨(K : Int), if V < 0 ∨ Z ≤ V then -1 else V⟩) := by
    rw [Hid, leadV, HLV.out.1, HLV.out.2, HAR.out, HQA.out]
  by_cases c1 : V < 0
  · have HV : Hid (leadV zs a x = ⟨(K : Int), -1⟩) := by rw [Hid, HLE.out, if_pos (.inl c1)]
    have P5 := HZ2.out
    have y0 : w1.cell? ⟨w.heap.size + 1, 0, none⟩ = some (.int .i64 0) := by simp only [World.cell?, P5]; rfl
    have y1 : w1.cell? ⟨w.heap.size + 1, 1, none⟩ = some (.int .i64 0) := by simp only [World.cell?, P5]; rfl
    have g0 : w1.frozen? ⟨w.heap.size + 1, 0, none⟩ = false := by simp [World.frozen?, P5]
    have g1 : w1.frozen? ⟨w.heap.size + 1, 1, none⟩ = false := by simp [World.frozen?, P5]
    have z5 := (Array.getElem?_eq_some_iff.1 P5).1
    clear P5
    go_wp2_with fail
    have P6 : ((w1.setCell ⟨w.heap.size + 1, 0, none⟩ (.int .i64 (K : Int))).setCell ⟨w.heap.size + 1, 1, none⟩ (.int .i64 (-1))).heap[w.heap.size + 1]? = some (.cells #[.int .i64 (K : Int), .int .i64 (-1)] 60 (0, 0)) := by
      simp [World.setCell, Array.getElem?_modify, HZ2.out]
    have x0 := cells_two P6
    refine bodyPost_ret (v := .agg #[.int .i64 (K : Int), .int .i64 (-1)]) (by simp [results, Try.results73, go_sem, x0.1, x0.2]) rfl ⟨by rw [HV.out]; rfl, ?_⟩
    exact (HB1.out.setCell (p := ⟨w.heap.size + 1, 0, none⟩) (by simp only; omega) _).setCell (p := ⟨w.heap.size + 1, 1, none⟩) (by simp only; omega) _
  · by_cases c2 : Z ≤ V
    · have HV : Hid (leadV zs a x = ⟨(K : Int), -1⟩) := by rw [Hid, HLE.out, if_pos (.inr c2)]
      have P5 := HZ2.out
      have y0 : w1.cell? ⟨w.heap.size + 1, 0, none⟩ = some (.int .i64 0) := by simp only [World.cell?, P5]; rfl
      have y1 : w1.cell? ⟨w.heap.size + 1, 1, none⟩ = some (.int .i64 0) := by simp only [World.cell?, P5]; rfl
      have g0 : w1.frozen? ⟨w.heap.size + 1, 0, none⟩ = false := by simp [World.frozen?, P5]
      have g1 : w1.frozen? ⟨w.heap.size + 1, 1, none⟩ = false := by simp [World.frozen?, P5]
      have z5 := (Array.getElem?_eq_some_iff.1 P5).1
      clear P5
      go_wp2_with fail
      have P6 : ((w1.setCell ⟨w.heap.size + 1, 0, none⟩ (.int .i64 (K : Int))).setCell ⟨w.heap.size + 1, 1, none⟩ (.int .i64 (-1))).heap[w.heap.size + 1]? = some (.cells #[.int .i64 (K : Int), .int .i64 (-1)] 60 (0, 0)) := by
        simp [World.setCell, Array.getElem?_modify, HZ2.out]
      have x0 := cells_two P6
      refine bodyPost_ret (v := .agg #[.int .i64 (K : Int), .int .i64 (-1)]) (by simp [results, Try.results73, go_sem, x0.1, x0.2]) rfl ⟨by rw [HV.out]; rfl, ?_⟩
      exact (HB1.out.setCell (p := ⟨w.heap.size + 1, 0, none⟩) (by simp only; omega) _).setCell (p := ⟨w.heap.size + 1, 1, none⟩) (by simp only; omega) _
    · have HV : Hid (leadV zs a x = ⟨(K : Int), V⟩) := by rw [Hid, HLE.out, if_neg (by omega)]
      have P5 := HZ2.out
      have y0 : w1.cell? ⟨w.heap.size + 1, 0, none⟩ = some (.int .i64 0) := by simp only [World.cell?, P5]; rfl
      have y1 : w1.cell? ⟨w.heap.size + 1, 1, none⟩ = some (.int .i64 0) := by simp only [World.cell?, P5]; rfl
      have g0 : w1.frozen? ⟨w.heap.size + 1, 0, none⟩ = false := by simp [World.frozen?, P5]
      have g1 : w1.frozen? ⟨w.heap.size + 1, 1, none⟩ = false := by simp [World.frozen?, P5]
      have z5 := (Array.getElem?_eq_some_iff.1 P5).1
      clear P5
      go_wp2_with fail
      have P6 : ((w1.setCell ⟨w.heap.size + 1, 0, none⟩ (.int .i64 (K : Int))).setCell ⟨w.heap.size + 1, 1, none⟩ (.int .i64 (V))).heap[w.heap.size + 1]? = some (.cells #[.int .i64 (K : Int), .int .i64 (V)] 60 (0, 0)) := by
        simp [World.setCell, Array.getElem?_modify, HZ2.out]
      have x0 := cells_two P6
      refine bodyPost_ret (v := .agg #[.int .i64 (K : Int), .int .i64 (V)]) (by simp [results, Try.results73, go_sem, x0.1, x0.2]) rfl ⟨by rw [HV.out]; rfl, ?_⟩
      exact (HB1.out.setCell (p := ⟨w.heap.size + 1, 0, none⟩) (by simp only; omega) _).setCell (p := ⟨w.heap.size + 1, 1, none⟩) (by simp only; omega) _
set_option maxRecDepth 100000 in
set_option maxHeartbeats 4000000 in
theorem to_any (q : AW) (a : Acc) (Bx Bn : Nat) (xa : Option Addr) (xl xc : Nat) (x : List Int) (za : Option Addr) (zl zc : Nat) (zs : List Int) (w : World) (hq : AG w q a) (cx : w.cell? ⟨Bx, 0, none⟩ = some (.slice xa xl xc)) (cn : w.cell? ⟨Bn, 0, none⟩ = some (.slice za zl zc)) (hx : Ints w xa xl x) (hz : Ints w za zl zs) (ho : AccOk zs.length a x.length) (h4 : x.length ≤ 4) (hxb : ∀ y ∈ x, 0 ≤ y ∧ y ≤ 4096) :
    Calls Try.prog 72 #[q.v, .pointer (some ⟨Bx, 0, none⟩), .pointer (some ⟨Bn, 0, none⟩)] w fun e w' => e = .returned (leadV zs a x).v ∧ Below w.heap.size w w' := by
  have B0 : Below w.heap.size w ((w.alloc (.cells #[.int .i64 q.arr, .slice q.ca q.cl q.cc, .int .i64 q.con] 72)).alloc (.cells #[.int .i64 0, .int .i64 0] 60)) := bl_on (bl_new _) (bl_new _)
  have P0 := (q.new w).below (bl_new (.cells #[.int .i64 0, .int .i64 0] 60))
  have PZ : ((w.alloc (.cells #[.int .i64 q.arr, .slice q.ca q.cl q.cc, .int .i64 q.con] 72)).alloc (.cells #[.int .i64 0, .int .i64 0] 60)).heap[w.heap.size + 1]? = some (.cells #[.int .i64 0, .int .i64 0] 60 (0, 0)) := by have := World.alloc_heap_new (w.alloc (.cells #[.int .i64 q.arr, .slice q.ca q.cl q.cc, .int .i64 q.con] 72)) (.cells #[.int .i64 0, .int .i64 0] 60); simpa using this
  obtain ⟨W, hW⟩ : ∃ W, W = (w.alloc (.cells #[.int .i64 q.arr, .slice q.ca q.cl q.cc, .int .i64 q.con] 72)).alloc (.cells #[.int .i64 0, .int .i64 0] 60) := ⟨_, rfl⟩
  rw [← hW] at B0 P0 PZ
  have HC := hide (lead_any q a xa xl xc x za zl zc zs W (hq.below B0) (hx.below B0) (hz.below B0) ho h4 hxb)
  have c1 := (B0.cell (p := ⟨Bx, 0, none⟩) (lt_of_cell cx)).trans cx
  have c2 := (B0.cell (p := ⟨Bn, 0, none⟩) (lt_of_cell cn)).trans cn
  have z1 := lt_of_cell c1
  have z2 := lt_of_cell c2
  obtain ⟨p0, p1, p2⟩ := P0.cells
  have zp := P0.lt
  have HB := hide B0
  have HZ0 := hide PZ
  have HW := hide hW
  obtain ⟨u, hu⟩ : ∃ u, u = leadV zs a x := ⟨_, rfl⟩
  rw [← hu] at HC ⊢
  clear hq hx hz ho B0 P0 PZ hW hu h4 hxb cx cn
  unfold AW.v PW.v at HC
  unfold AW.v PW.v
  go_enter Try.func72, Try.ntmps72
  go_upto_region 1 with fail
  rw [← HW.out]
  go_wp2_with fail
  refine HC.out.mono ?_
  rintro e w1 ⟨rfl, hb⟩
  have HB1 := hide (bl_on HB.out hb)
  have HZ2 : Hid (w1.heap[w.heap.size + 1]? = some (.cells #[.int .i64 0, .int .i64 0] 60 (0, 0))) := (hb.block _ (Array.getElem?_eq_some_iff.1 HZ0.out).1).trans HZ0.out
  clear p0 p1 p2 zp hb HZ0 c1 c2 z1 z2
  have P5 := HZ2.out
  have y0 : w1.cell? ⟨w.heap.size + 1, 0, none⟩ = some (.int .i64 0) := by simp only [World.cell?, P5]; rfl
  have y1 : w1.cell? ⟨w.heap.size + 1, 1, none⟩ = some (.int .i64 0) := by simp only [World.cell?, P5]; rfl
  have g0 : w1.frozen? ⟨w.heap.size + 1, 0, none⟩ = false := by simp [World.frozen?, P5]
  have g1 : w1.frozen? ⟨w.heap.size + 1, 1, none⟩ = false := by simp [World.frozen?, P5]
  have z5 := (Array.getElem?_eq_some_iff.1 P5).1
  clear P5
  go_wp2_with fail
  have P6 : ((w1.setCell ⟨w.heap.size + 1, 0, none⟩ (.int .i64 u.arr)).setCell ⟨w.heap.size + 1, 1, none⟩ (.int .i64 u.pos)).heap[w.heap.size + 1]? = some (.cells #[.int .i64 u.arr, .int .i64 u.pos] 60 (0, 0)) := by
    simp [World.setCell, Array.getElem?_modify, HZ2.out]
  have x0 := cells_two P6
  refine bodyPost_ret (v := .agg #[.int .i64 u.arr, .int .i64 u.pos]) (by simp [results, Try.results72, go_sem, x0.1, x0.2]) rfl ⟨rfl, ?_⟩
  exact (HB1.out.setCell (p := ⟨w.heap.size + 1, 0, none⟩) (by simp only; omega) _).setCell (p := ⟨w.heap.size + 1, 1, none⟩) (by simp only; omega) _
/-- list.Each of accesses: to where they lead. -/
theorem eachTo (a : Option Addr) (len cap : Nat) (gs : List Acc) (Bx Bn : Nat) (xa : Option Addr) (xl xc : Nat) (x : List Int) (za : Option Addr) (zl zc : Nat) (zs : List Int) (w : World) (hr : Accs w a len gs) (hlen : len ≤ 1000) (cx : w.cell? ⟨Bx, 0, none⟩ = some (.slice xa xl xc)) (cn : w.cell? ⟨Bn, 0, none⟩ = some (.slice za zl zc)) (hx : Ints w xa xl x) (hz : Ints w za zl zs) (ho : ∀ a ∈ gs, AccOk zs.length a x.length) (h4 : x.length ≤ 4) (hxb : ∀ y ∈ x, 0 ≤ y ∧ y ≤ 4096) :
    Calls Try.prog 74 #[.slice a len cap, .func (.func 72) #[] #[.pointer (some ⟨Bx, 0, none⟩), .pointer (some ⟨Bn, 0, none⟩)]] w fun e w' => (∃ R : Nat, e = .returned (.slice (some ⟨R, 0, none⟩) len len) ∧ Lies w.heap.size (fun V => PlsAt V (some ⟨R, 0, none⟩) len (gs.map fun a => leadV zs a x)) w') ∧ Below w.heap.size w w' := by
  obtain ⟨qs, hq, hin⟩ := accs_words hr
  refine (eachAP a len cap qs 72 #[.pointer (some ⟨Bx, 0, none⟩), .pointer (some ⟨Bn, 0, none⟩)] (enters_of Try.func72 (by kernel_rfl) rfl) (fun j u V => u = leadV zs (gs[j]?.getD accD) x) w (by omega) hin (fun j W hj hb _ => ?_)).mono ?_
  · refine (to_any (qs j) (gs[j]?.getD accD) Bx Bn xa xl xc x za zl zc zs W ((hq j hj).below hb) ((hb.cell (p := ⟨Bx, 0, none⟩) (lt_of_cell cx)).trans cx) ((hb.cell (p := ⟨Bn, 0, none⟩) (lt_of_cell cn)).trans cn) (hx.below hb) (hz.below hb) (ho _ (mem_getA gs j (by rw [hr.1]; exact hj))) h4 hxb).mono ?_
    rintro e w' ⟨rfl, hb'⟩
    exact ⟨⟨_, rfl, lies_pure rfl _⟩, hb'⟩
  rintro e w' ⟨⟨us, rfl, h1, h2⟩, hb⟩
  refine ⟨⟨_, rfl, (h1.lies (Nat.le_refl _)).imp (fun V hV => pls_out hV (by rw [List.length_map]; exact hr.1) (by omega) (fun j hj => ?_))⟩, hb⟩
  have hjl : j < gs.length := by rw [hr.1]; exact hj
  rw [(h2 j hj).out]
  simp [hjl]
end Go.Proofs.Ytkbdnhchlkafnaa.V
namespace Go.Proofs.Ytkbdnhchlkafnaa.V
open Go Go.RowKit
set_option linter.unusedVariables false

/-- What a place was touched by: two lists' words. -/
structure Ent where
  key : PW
  pa : Option Addr
  pl : Nat
  pc : Nat
  ga : Option Addr
  gl : Nat
  gc : Nat
def Ent.vv (e : Ent) : Value := .agg #[.slice e.pa e.pl e.pc, .slice e.ga e.gl e.gc]
def entZ (k : PW) : Ent := ⟨k, none, 0, 0, none, 0, 0⟩
theorem pw_ext {a b : PW} : a = b ↔ a.arr = b.arr ∧ a.pos = b.pos := by
  cases a
  cases b
  simp
instance : DecidableEq PW := fun a b => decidable_of_iff _ pw_ext.symm
theorem run_eq_place (a b : PW) (w : World) : (Op.equal 60 a.v b.v).run Try.prog w = .ok (decide (a = b)) w := by
  have u3 := Try.underlying3
  have a3 := Try.isAgg3
  have z3 := Try.sizeOf3
  have hS : Try.prog.underlying 60 = some (.struct (Try.prog.fieldsOf 60)) := by kernel_rfl
  have hp : Try.prog.stoodInHeld 60 = false := by kernel_rfl
  unfold PW.v Op.equal Op.maxDepth
  rw [show (10000 : Nat) = 9999 + 1 from rfl, run_equalIn_struct w 9999 60 _ _ hS hp]
  simp only [Program.fieldsOf, Try.underlying60]
  go_simp
  by_cases h1 : a.arr = b.arr <;> by_cases h2 : a.pos = b.pos <;> simp [h1, h2, pw_ext]
theorem run_check_place (e : Bool) (a : PW) (w : World) : (Instr.checkKey e 10000 60 a.v).run Try.prog w = .ok () w := by
  have a3 := Try.isAgg3
  have z3 := Try.sizeOf3
  have hk : ∀ (n : Int) (W : World), (Instr.checkKey e (9998 + 1) 3 (.int .i64 n)).run Try.prog W = .ok () W := fun n W => MapKept.run_checkKey Try.underlying3 (by simp [MapKept.IsKey]) e 9998
  unfold PW.v
  rw [show (10000 : Nat) = 9998 + 1 + 1 from rfl, Instr.checkKey]
  simp only [Sem.run_bind, run_underlying Try.underlying60, Result.andThen_ok]
  rw [← Array.forIn_toList]
  generalize 9998 + 1 = n at hk ⊢
  simp only [List.forIn_cons, List.forIn_nil, Sem.run_bind, Sem.run_ite]
  go_simp
/-- The entry of a place. -/
def findE (k : PW) : List Ent → Nat → Option (Nat × Ent)
  | [], _ => none
  | e :: M, i => if k = e.key then some (i, e) else findE k M (i + 1)
def EntsOf (l : List MapEntry) (M : List Ent) : Prop := l.map (fun e => (e.key, e.val)) = M.map (fun e => (e.key.v, e.vv))
theorem run_find (k : PW) (w : World) : ∀ (M : List Ent) (l : List MapEntry) (i : Nat), EntsOf l M → (Instr.findAsking 60 k.v l i).run Try.prog w = .ok ((findE k M i).map fun p => (p.1, p.2.vv)) w
  | [], l, i, h => by
    have : l = [] := by simpa [EntsOf] using h
    subst this
    simp [Instr.findAsking, findE]
  | e :: M, l, i, h => by
    cases l with
    | nil => simp [EntsOf] at h
    | cons x l =>
      simp only [EntsOf, List.map_cons, List.cons.injEq, Prod.mk.injEq] at h
      obtain ⟨⟨h1, h2⟩, h3⟩ := h
      simp only [Instr.findAsking, Sem.run_bind, h1, run_eq_place, Result.andThen_ok, Sem.run_ite]
      by_cases hk : k = e.key
      · simp [hk, findE, h2]
      · have ih := run_find k w M l (i + 1) h3
        simp [hk, findE, ih]
theorem run_findKey (k : PW) (w : World) (M : List Ent) (l : List MapEntry) (h : EntsOf l M) : (Instr.findKey 60 k.v l).run Try.prog w = .ok ((findE k M 0).map fun p => (p.1, p.2.vv)) w := by
  have hf := run_find k w M l 0 h
  unfold Instr.findKey
  simp only [Sem.run_bind, run_underlying Try.underlying60, Result.andThen_ok]
  cases l with
  | nil =>
    have : M = [] := by
      have := congrArg List.length h
      simpa using this.symm
    subst this
    simp [Instr.findNow, findE]
  | cons x l =>
    have : ∀ v, Instr.sameNow (.struct v) k.v x.key = none := fun v => by unfold PW.v; rfl
    simp only [Instr.findNow, this]
    exact hf
/-- The map's block. -/
def MapAt (W : World) (b : Nat) (M : List Ent) : Prop := ∃ es clock, W.heap[b]? = some (.map es clock) ∧ EntsOf es.toList M
def lookE (k : PW) (M : List Ent) : Ent := ((findE k M 0).map (·.2)).getD (entZ k)
theorem run_look {W : World} {b : Nat} {M : List Ent} (h : MapAt W b M) (k : PW) : (Instr.lookup 112 (.map (some b)) k.v false).run Try.prog W = .ok (lookE k M).vv W := by
  obtain ⟨es, clock, hb, he⟩ := h
  have hz : (zeroValue 147).run Try.prog W = .ok (entZ k).vv W := by
    simp [entZ, Ent.vv, Try.zeroValue147]
  unfold Instr.lookup lookE
  simp only [Sem.run_bind, run_underlying Try.underlying112, Result.andThen_ok, MapKept.run_getObj_map hb, Sem.run_pure, run_check_place, run_findKey k W M es.toList he]
  cases findE k M 0 with
  | none => simp [hz]
  | some p => simp
end Go.Proofs.Ytkbdnhchlkafnaa.V
namespace Go.Proofs.Ytkbdnhchlkafnaa.V
open Go Go.RowKit
set_option linter.unusedVariables false

/-- An entry is put. -/
def putR (e : Ent) : List Ent → List Ent
  | [] => [e]
  | x :: M => if e.key = x.key then e :: M else x :: putR e M
theorem find_put (e : Ent) : ∀ (M : List Ent) (i : Nat), (∀ j x, findE e.key M i = some (j, x) → i ≤ j ∧ j - i < M.length ∧ (M[j - i]?.map (·.key)) = some e.key ∧ putR e M = M.set (j - i) e) ∧ (findE e.key M i = none → putR e M = M ++ [e])
  | [], i => ⟨fun j x h => by simp [findE] at h, fun _ => rfl⟩
  | y :: M, i => by
    obtain ⟨h1, h2⟩ := find_put e M (i + 1)
    unfold findE putR
    by_cases hk : e.key = y.key
    · rw [if_pos hk, if_pos hk]
      refine ⟨fun j x h => ?_, fun h => by cases h⟩
      cases h
      refine ⟨Nat.le_refl _, by simp, ?_, ?_⟩
      · simp [hk]
      · simp
    · rw [if_neg hk, if_neg hk]
      refine ⟨fun j x h => ?_, fun h => by rw [h2 h]; rfl⟩
      obtain ⟨g1, g2, g3, g4⟩ := h1 j x h
      have e1 : j - i = (j - (i + 1)) + 1 := by omega
      rw [e1]
      refine ⟨by omega, by simp; omega, ?_, ?_⟩
      · simpa using g3
      · rw [g4]; rfl
theorem find_shift (k : PW) : ∀ (M : List Ent) (i j : Nat), (findE k M i).map (·.2) = (findE k M j).map (·.2)
  | [], _, _ => rfl
  | x :: M, i, j => by
    unfold findE
    by_cases h : k = x.key
    · simp [h]
    · rw [if_neg h, if_neg h]; exact find_shift k M _ _
theorem lookE_cons (k : PW) (x : Ent) (M : List Ent) : lookE k (x :: M) = if k = x.key then x else lookE k M := by
  unfold lookE
  conv => lhs; unfold findE
  by_cases h : k = x.key
  · simp [h]
  · rw [if_neg h, if_neg h, find_shift k M 1 0]
theorem lookE_put (k : PW) (e : Ent) : ∀ M : List Ent, lookE k (putR e M) = if k = e.key then e else lookE k M
  | [] => by unfold putR; rw [lookE_cons]
  | x :: M => by
    unfold putR
    by_cases h : e.key = x.key
    · rw [if_pos h, lookE_cons, lookE_cons]
      by_cases hk : k = e.key
      · simp [hk]
      · rw [if_neg hk, if_neg hk, if_neg (fun h' => hk (h'.trans h.symm))]
    · rw [if_neg h, lookE_cons, lookE_cons, lookE_put k e M]
      by_cases hk : k = e.key
      · rw [if_pos hk, if_pos hk, if_neg (fun h' => h (hk.symm.trans h'))]
      · rw [if_neg hk, if_neg hk]
theorem same_key (k : PW) : Instr.sameBits 10000 k.v k.v = true := by
  unfold PW.v
  rw [show (10000 : Nat) = 9999 + 1 from rfl]
  simp [Instr.sameBits]
theorem run_stays (k : PW) (w : World) : (Instr.keyThatStays k.v k.v).run Try.prog w = .ok k.v w := by
  simp [Instr.keyThatStays, same_key]
theorem run_put {W : World} {b : Nat} {M : List Ent} (h : MapAt W b M) (e : Ent) : ∃ o : Obj, (Instr.mapUpdate 112 (.map (some b)) e.key.v e.vv).run Try.prog W = .ok () { W with heap := W.heap.setIfInBounds b o } ∧ MapAt { W with heap := W.heap.setIfInBounds b o } b (putR e M) := by
  obtain ⟨es, clock, hb, he⟩ := h
  have hlt := (Array.getElem?_eq_some_iff.1 hb).1
  have hf := run_findKey e.key W M es.toList he
  obtain ⟨p1, p2⟩ := find_put e M 0
  have hlen : es.toList.length = M.length := by have := congrArg List.length he; simpa using this
  cases hfe : findE e.key M 0 with
  | none =>
    rw [hfe] at hf
    refine ⟨.map (es.push { key := e.key.v, val := e.vv, born := clock }) (clock + 1), ?_, es.push { key := e.key.v, val := e.vv, born := clock }, clock + 1, ?_, ?_⟩
    · unfold Instr.mapUpdate
      simp only [Sem.run_bind, run_underlying Try.underlying112, Result.andThen_ok, MapKept.run_getObj_map hb, run_check_place, hf, Option.map_none, MapKept.run_setObj_map _ hb]
    · simp [hlt]
    · rw [p2 hfe]
      unfold EntsOf at he ⊢
      simp [he]
  | some q =>
    obtain ⟨j, x⟩ := q
    obtain ⟨_, g2, g3, g4⟩ := p1 j x hfe
    rw [Nat.sub_zero] at g2 g3 g4
    rw [hfe] at hf
    have h0 : es.size = M.length := by simpa using hlen
    have hj : j < es.size := by omega
    have hkey : es[j].key = e.key.v := by
      have h1 := congrArg (fun l => (l[j]?).map (·.1)) he
      simp only [List.getElem?_map] at h1
      have h2 : es.toList[j]? = some es[j] := by simp [hj]
      rw [h2] at h1
      have h3 : M[j]? = some (M[j]'g2) := by simp [g2]
      rw [h3] at h1 g3
      simp at h1 g3
      rw [h1, g3]
    refine ⟨.map (es.modify j fun y => { y with key := e.key.v, val := e.vv }) clock, ?_, es.modify j fun y => { y with key := e.key.v, val := e.vv }, clock, ?_, ?_⟩
    · unfold Instr.mapUpdate
      have hold : ((es[j]?).map (·.key)).getD e.key.v = e.key.v := by simp [hj, hkey]
      simp only [Sem.run_bind, run_underlying Try.underlying112, Result.andThen_ok, MapKept.run_getObj_map hb, run_check_place, hf, Option.map_some, hold, run_stays, MapKept.run_setObj_map _ hb]
    · simp [hlt]
    · rw [g4]
      unfold EntsOf at he ⊢
      rw [List.map_set, ← he, Array.toList_modify]
      apply List.ext_getElem?
      intro i
      simp only [List.getElem?_map, List.getElem?_modify, List.getElem?_set]
      by_cases e1 : j = i
      · subst e1
        simp [hj]
      · simp [e1]
end Go.Proofs.Ytkbdnhchlkafnaa.V
