/-
  The machine's maker: what an instruction makes (two by two, Inner). The maker's instructions: what is made, as a function; reckon.
-/
import Derived.Test.YtoabffmiedbkkaaGreatRJ42
import Derived.Test.YtoabffmiedbkkaaGreatRJ15
import Derived.Laws.CopyOwn
namespace Go.Proofs.YtoabffmiedbkkaaGreat.V
set_option maxRecDepth 20000
open Go Go.RowKit
set_option linter.unusedVariables false
set_option linter.unusedSimpArgs false

set_option maxRecDepth 20000 in
set_option maxHeartbeats 8000000 in
theorem made_6 (g : Nat) (c : CV) (mv mk : List In) (B : MbK) (s : Mac) (d az : Int) (b c9 : Nat) (N : Nat) (v : Int) (W : World) (h : MchAt W g c mv mk B s) (hN0 : 0 < N) (hn4 : N ≤ 4096) (hp : B.p.n ≤ 4096) (hbd : ∀ q, bd64 (s.pad q)) (hd6 : 6 ≤ d ∧ d ≤ 10) (hb9 : b + N ≤ B.p.n) (hc9 : c9 + N ≤ B.p.n) :
    Calls Tryz.prog 52 #[.pointer (some ⟨g, 0, none⟩), .agg #[.int .i64 d, .int .i64 az, .int .i64 (b : Int), .int .i64 (c9 : Int), .int .i64 (N : Int), .int .i64 v]] W fun e w' => MdAns W N (C.bothL (d - 3) (padL s.pad b N) (padL s.pad c9 N) N) e w' := by
  have n5 : (d == 5) = false := by simp; omega
  have n11 : (d == 11) = false := by simp; omega
  have n12 : (d == 12) = false := by simp; omega
  have n13 : (d == 13) = false := by simp; omega
  have n14 : (d == 14) = false := by simp; omega
  obtain ⟨V, hV⟩ : ∃ V, V = ((W.alloc (.cells #[.pointer (some ⟨g, 0, none⟩)] 39)).alloc (.cells #[.int .i64 d, .int .i64 az, .int .i64 (b : Int), .int .i64 (c9 : Int), .int .i64 (N : Int), .int .i64 v] 50)).alloc (.cells #[.int .i64 3, .slice none 0 0, .slice none 0 0, .slice none 0 0, .slice none 0 0, .slice none 0 0, .int .i64 0] 104) := ⟨_, rfl⟩
  obtain ⟨mb, hmb⟩ : ∃ b, b = W.heap.size := ⟨_, rfl⟩
  obtain ⟨ib, hib⟩ : ∃ b, b = W.heap.size + 1 := ⟨_, rfl⟩
  obtain ⟨ob, hob⟩ : ∃ b, b = W.heap.size + 1 + 1 := ⟨_, rfl⟩
  have hbV : Below W.heap.size W V := by rw [hV]; exact bl_alloc (bl_alloc (bl_new _))
  have e1 : (W.alloc (.cells #[.pointer (some ⟨g, 0, none⟩)] 39)).heap.size = W.heap.size + 1 := by simp
  have e2 : ((W.alloc (.cells #[.pointer (some ⟨g, 0, none⟩)] 39)).alloc (.cells #[.int .i64 d, .int .i64 az, .int .i64 (b : Int), .int .i64 (c9 : Int), .int .i64 (N : Int), .int .i64 v] 50)).heap.size = W.heap.size + 1 + 1 := by simp
  have hMB : MdB V g ib mb ⟨d, az, (b : Int), (c9 : Int), (N : Int), v⟩ := by
    rw [hV, hib, hmb]
    refine ⟨?_, ?_⟩
    · rw [Below.heap_alloc _ _ _ (by rw [e2]; omega), ← e1]
      exact World.alloc_heap_new _ _
    · rw [Below.heap_alloc _ _ _ (by rw [e2]; omega), Below.heap_alloc _ _ _ (by rw [e1]; omega)]
      exact World.alloc_heap_new _ _
  have hOP : OpAt V ob 3 (.slice none 0 0) (.slice none 0 0) (.slice none 0 0) (.slice none 0 0) (.slice none 0 0) 0 := by
    rw [hV, hob, ← e2]
    exact OpAt.new _ 3 _ _ _ _ _ 0
  have h2 := h.below hbV
  have i0 : V.cell? ⟨ib, 0, none⟩ = some (.int .i64 d) := by simp only [World.cell?, hMB.i]; rfl
  have i1 : V.cell? ⟨ib, 1, none⟩ = some (.int .i64 az) := by simp only [World.cell?, hMB.i]; rfl
  have i2 : V.cell? ⟨ib, 2, none⟩ = some (.int .i64 (b : Int)) := by simp only [World.cell?, hMB.i]; rfl
  have i3 : V.cell? ⟨ib, 3, none⟩ = some (.int .i64 (c9 : Int)) := by simp only [World.cell?, hMB.i]; rfl
  have i4 : V.cell? ⟨ib, 4, none⟩ = some (.int .i64 (N : Int)) := by simp only [World.cell?, hMB.i]; rfl
  have i5 : V.cell? ⟨ib, 5, none⟩ = some (.int .i64 v) := by simp only [World.cell?, hMB.i]; rfl
  have mm : V.cell? ⟨mb, 0, none⟩ = some (.pointer (some ⟨g, 0, none⟩)) := by simp only [World.cell?, hMB.m]; rfl
  have zi := lt_of_cell i0
  obtain ⟨o0, o1, o2, o3, o4, o5, o6⟩ := hOP.cells
  have HV := hide hV
  have HMBE := hide hmb
  have HIBE := hide hib
  have HOBE := hide hob
  have HBV := hide hbV
  have HMB := hide hMB
  have HOP := hide hOP
  have H2 := hide h2
  clear h h2 hV hmb hib hob hbV hMB hOP e1 e2
  go_enter Tryz.func52, Tryz.ntmps52
  go_upto_region 4 with fail
  rw [← HV.out, ← HOBE.out, ← HIBE.out, ← HMBE.out]
  go_upto_region 16 with fail
  refine region_made 16 18 [fIs (.func (.func 54) #[] #[]), fIs (.pointer (some ⟨ib, 0, none⟩)), fIs (.int .i64 d), fIs (.int .i64 (d - 3)), fIs (.agg #[.int .i64 (d - 3), .slice none 0 0, .slice none 0 0, .slice none 0 0, .slice none 0 0, .slice none 0 0, .int .i64 0]), fIs (.func (.func 53) #[] #[.pointer (some ⟨ib, 0, none⟩), .pointer (some ⟨mb, 0, none⟩)]), fIs (.pointer (some ⟨ib, 2, none⟩)), fIs (.int .i64 (b : Int)), fAr N (padL s.pad b N), fIs (.func (.func 53) #[] #[.pointer (some ⟨ib, 0, none⟩), .pointer (some ⟨mb, 0, none⟩)]), fIs (.pointer (some ⟨ib, 3, none⟩)), fIs (.int .i64 (c9 : Int)), fAr N (padL s.pad c9 N), fRw 2 N (l2 (padL s.pad b N) (padL s.pad c9 N)), fRs W.heap.size N (C.bothL (d - 3) (padL s.pad b N) (padL s.pad c9 N) N), fDt W.heap.size N (C.bothL (d - 3) (padL s.pad b N) (padL s.pad c9 N) N)] (by kernel_rfl) (by kernel_rfl) (by kernel_rfl) (fun _ ⟨_, _⟩ ⟨_, _⟩ _ e h => by cases e; exact h) ⟨fIs_good _, fIs_good _, fIs_good _, fIs_good _, fIs_good _, fIs_good _, fIs_good _, fIs_good _, fAr_good _ _, fIs_good _, fIs_good _, fIs_good _, fAr_good _ _, fRw_good _ _ _, fRs_good _ _ _, fDt_good _ _ _, trivial⟩ ?mk ?rest
  case mk =>
    refine ⟨fun u wz hb hd => ?_, fun u wz hb hd => ?_, fun u wz hb hd => ?_, fun u wz hb hd => ?_, fun u wz hb hd => ?_, fun u wz hb hd => ?_, fun u wz hb hd => ?_, fun u wz hb hd => ?_, fun u wz hb hd => ?_, fun u wz hb hd => ?_, fun u wz hb hd => ?_, fun u wz hb hd => ?_, fun u wz hb hd => ?_, fun u wz hb hd => ?_, fun u wz hb hd => ?_, fun u wz hb hd => ?_, trivial⟩
    all_goals simp only [Act.put, List.setIfInBounds_toArray, List.set_cons_zero, List.set_cons_succ]
    · go_simp
      exact ⟨rfl, Below.refl _ _, fun h => by cases h⟩
    · go_simp
      exact ⟨rfl, Below.refl _ _, fun h => by cases h⟩
    · have e1 : u 1 = .pointer (some ⟨ib, 0, none⟩) := hd 1 (by omega) (by kernel_rfl)
      rw [e1]
      have i0' := (hb.cell (p := ⟨ib, 0, none⟩) (lt_of_cell i0)).trans i0
      go_simp
      exact ⟨rfl, Below.refl _ _, fun h => by cases h⟩
    · have e2 : u 2 = .int .i64 d := hd 2 (by omega) (by kernel_rfl)
      rw [e2]
      go_simp
      refine (kind_any d hd6 wz).mono ?_
      rintro e w2 ⟨rfl, hw2⟩
      obtain rfl := hw2.symm
      exact ⟨rfl, Below.refl _ _, fun h => by cases h⟩
    · have e3 : u 3 = .int .i64 (d - 3) := hd 3 (by omega) (by kernel_rfl)
      rw [e3]
      go_simp
      exact ⟨rfl, Below.refl _ _, fun h => by cases h⟩
    · go_simp
      exact ⟨rfl, Below.refl _ _, fun h => by cases h⟩
    · go_simp
      exact ⟨rfl, Below.refl _ _, fun h => by cases h⟩
    · have e6 : u 6 = .pointer (some ⟨ib, 2, none⟩) := hd 6 (by omega) (by kernel_rfl)
      rw [e6]
      have i2' := (hb.cell (p := ⟨ib, 2, none⟩) (lt_of_cell i2)).trans i2
      go_simp
      exact ⟨rfl, Below.refl _ _, fun h => by cases h⟩
    · have e5 : u 5 = .func (.func 53) #[] #[.pointer (some ⟨ib, 0, none⟩), .pointer (some ⟨mb, 0, none⟩)] := hd 5 (by omega) (by kernel_rfl)
      have e7 : u 7 = .int .i64 (b : Int) := hd 7 (by omega) (by kernel_rfl)
      rw [e5, e7]
      go_simp
      refine (from_any g ib mb c mv mk B s _ b N wz (H2.out.below hb) (HMB.out.below hb) rfl hN0 hn4 hb9 hp).mono ?_
      rintro e w2 ⟨⟨gd, rfl, hi, _⟩, hb2⟩
      exact ⟨⟨gd, _, _, rfl, hi, ((H2.out.below hb).below hb2).pad.ints hbd hb9 (by omega)⟩, hb2, fun h => by cases h⟩
    · go_simp
      exact ⟨rfl, Below.refl _ _, fun h => by cases h⟩
    · go_simp
      exact ⟨rfl, Below.refl _ _, fun h => by cases h⟩
    · have e10 : u 10 = .pointer (some ⟨ib, 3, none⟩) := hd 10 (by omega) (by kernel_rfl)
      rw [e10]
      have i3' := (hb.cell (p := ⟨ib, 3, none⟩) (lt_of_cell i3)).trans i3
      go_simp
      exact ⟨rfl, Below.refl _ _, fun h => by cases h⟩
    · have e9 : u 9 = .func (.func 53) #[] #[.pointer (some ⟨ib, 0, none⟩), .pointer (some ⟨mb, 0, none⟩)] := hd 9 (by omega) (by kernel_rfl)
      have e11 : u 11 = .int .i64 (c9 : Int) := hd 11 (by omega) (by kernel_rfl)
      rw [e9, e11]
      go_simp
      refine (from_any g ib mb c mv mk B s _ c9 N wz (H2.out.below hb) (HMB.out.below hb) rfl hN0 hn4 hc9 hp).mono ?_
      rintro e w2 ⟨⟨gd, rfl, hi, _⟩, hb2⟩
      exact ⟨⟨gd, _, _, rfl, hi, ((H2.out.below hb).below hb2).pad.ints hbd hc9 (by omega)⟩, hb2, fun h => by cases h⟩
    · obtain ⟨g8, X8, xc8, e8, hd8, hx8⟩ := hd 8 (by omega) (by kernel_rfl)
      obtain ⟨g12, X12, xc12, e12, hd12, hx12⟩ := hd 12 (by omega) (by kernel_rfl)
      rw [e8, e12]
      go_simp
      exact ⟨⟨_, v2 ⟨some ⟨g8, 0, none⟩, 1, X8, xc8⟩ ⟨some ⟨g12, 0, none⟩, 1, X12, xc12⟩, rfl, args2 wz N ⟨some ⟨g8, 0, none⟩, 1, X8, xc8⟩ ⟨some ⟨g12, 0, none⟩, 1, X12, xc12⟩ hd8 hd12 _, ints_l2 (hx8 : Ints wz (C.AV.xa ⟨some ⟨g8, 0, none⟩, 1, X8, xc8⟩) N _) (hx12 : Ints wz (C.AV.xa ⟨some ⟨g12, 0, none⟩, 1, X12, xc12⟩) N _) (bl_new _)⟩, bl_new _, fun h => by cases h⟩
    · have e0 : u 0 = .func (.func 54) #[] #[] := hd 0 (by omega) (by kernel_rfl)
      have e4 : u 4 = .agg #[.int .i64 (d - 3), .slice none 0 0, .slice none 0 0, .slice none 0 0, .slice none 0 0, .slice none 0 0, .int .i64 0] := hd 4 (by omega) (by kernel_rfl)
      obtain ⟨R13, v13, e13, ha13, hl13⟩ := hd 13 (by omega) (by kernel_rfl)
      rw [e0, e4, e13]
      go_simp
      refine (doo_any (d - 3) 0 _ _ _ _ _ (some ⟨R13, 0, none⟩) 2 2 N (C.bothL (d - 3) (padL s.pad b N) (padL s.pad c9 N) N) wz (fun V hV => C.do_two (d - 3) 0 (by omega) _ _ _ _ _ R13 0 2 N v13 _ _ V hN0 hn4 (ArgsAt_below ha13 hV) ((hl13 0 (by omega)).below hV) ((hl13 1 (by omega)).below hV))).mono ?_
      rintro e w2 ⟨⟨gg, GG, rfl, hi1, hi2, hg1, _⟩, hb2⟩
      exact ⟨⟨gg, GG, rfl, hi1, hi2, Nat.le_trans HBV.out.size (Nat.le_trans hb.size hg1)⟩, hb2, fun h => by cases h⟩
    · obtain ⟨g14, G14, e14, hd14, hx14, hg14⟩ := hd 14 (by omega) (by kernel_rfl)
      rw [e14]
      have hfd := fd_data (some ⟨g14, 0, none⟩) (some ⟨G14, 0, none⟩) 1 N 1 N
      go_simp
      exact ⟨⟨_, rfl, hx14, hg14⟩, Below.refl _ _, fun h => by cases h⟩
  case rest =>
    intro u wz hb hf hp
    have f0 : u 0 = .func (.func 54) #[] #[] := hf 0 (by omega)
    have f1 : u 1 = .pointer (some ⟨ib, 0, none⟩) := hf 1 (by omega)
    have f2 : u 2 = .int .i64 d := hf 2 (by omega)
    have f3 : u 3 = .int .i64 (d - 3) := hf 3 (by omega)
    have f4 : u 4 = .agg #[.int .i64 (d - 3), .slice none 0 0, .slice none 0 0, .slice none 0 0, .slice none 0 0, .slice none 0 0, .int .i64 0] := hf 4 (by omega)
    have f5 : u 5 = .func (.func 53) #[] #[.pointer (some ⟨ib, 0, none⟩), .pointer (some ⟨mb, 0, none⟩)] := hf 5 (by omega)
    have f6 : u 6 = .pointer (some ⟨ib, 2, none⟩) := hf 6 (by omega)
    have f7 : u 7 = .int .i64 (b : Int) := hf 7 (by omega)
    obtain ⟨g8, X8, xc8, f8, _, _⟩ := hf 8 (by omega)
    have f9 : u 9 = .func (.func 53) #[] #[.pointer (some ⟨ib, 0, none⟩), .pointer (some ⟨mb, 0, none⟩)] := hf 9 (by omega)
    have f10 : u 10 = .pointer (some ⟨ib, 3, none⟩) := hf 10 (by omega)
    have f11 : u 11 = .int .i64 (c9 : Int) := hf 11 (by omega)
    obtain ⟨g12, X12, xc12, f12, _, _⟩ := hf 12 (by omega)
    obtain ⟨R13, v13, f13, _, _⟩ := hf 13 (by omega)
    obtain ⟨g14, G14, f14, _, _, _⟩ := hf 14 (by omega)
    obtain ⟨GZ, f15, hz, hzg⟩ := hf 15 (by omega)
    refine UptoW.rest 1 16 (by rfl) (by kernel_rfl) ?_
    simp only [List.take, List.drop, putOps, Act.put, List.setIfInBounds_toArray, List.set_cons_zero, List.set_cons_succ, Nat.reduceAdd, f0, f1, f2, f3, f4, f5, f6, f7, f8, f9, f10, f11, f12, f13, f14, f15]
    clear f0 f1 f2 f3 f4 f5 f6 f7 f8 f9 f10 f11 f12 f13 f14 f15 hf hp
    have HBZ := hide hb
    have HZ := hide hz
    clear hb hz
    go_wp2_with fail
    go_ret
    exact ⟨GZ, rfl, HZ.out, hzg, Below.on HBV.out HBZ.out⟩
theorem wk64 (x : Int) : IntKind.i64.wrap x = wrap64 x := by
  rw [IntKind.wrap_i64]
  first | rfl | (unfold wrap64; omega)
theorem inner_here {n : Nat} (hn : n ≤ 4096) {xs ys : List Int} (hx : xs.length = n := by exact padL_length _ _ _) (hy : ys.length = n := by exact padL_length _ _ _) : innerN [(n : Int)] xs [(n : Int)] ys = innS xs ys n := by
  unfold innerN
  rw [hx, hy, C.arr1 hn]
  simp
theorem innerE_here {n : Nat} (hn : n ≤ 4096) {xs ys : List Int} (hx : xs.length = n := by exact padL_length _ _ _) (hy : ys.length = n := by exact padL_length _ _ _) : innerE [(n : Int)] xs [(n : Int)] ys = 0 := by
  unfold innerE
  rw [hx, hy, C.arr1 hn]
  simp
theorem wrap64_bd (x : Int) : bd64 (wrap64 x) := by unfold wrap64 bd64; omega
theorem ints_w (W : World) (x : Int) (hx : bd64 x) (t : TypeId) : Ints (W.alloc (.cells #[.int .i64 x] t)) (some ⟨W.heap.size, 0, none⟩) 1 [x] := by
  refine ⟨rfl, by omega, fun y hy => by rw [List.mem_singleton.1 hy]; exact hx, .inr ⟨_, _, rfl, fun j hj => ?_⟩⟩
  obtain rfl : j = 0 := by omega
  simp only [World.cell?, World.alloc_heap_new]
  rfl
set_option maxRecDepth 20000 in
set_option maxHeartbeats 8000000 in
theorem made_13 (g : Nat) (c : CV) (mv mk : List In) (B : MbK) (s : Mac) (a b c9 : Nat) (N : Nat) (v : Int) (W : World) (h : MchAt W g c mv mk B s) (hN0 : 0 < N) (hn4 : N ≤ 4096) (hp : B.p.n ≤ 4096) (hbd : ∀ q, bd64 (s.pad q)) (ha : a < B.p.n) (hb9 : b + N ≤ B.p.n) (hc9 : c9 + N ≤ B.p.n) :
    Calls Tryz.prog 52 #[.pointer (some ⟨g, 0, none⟩), .agg #[.int .i64 13, .int .i64 (a : Int), .int .i64 (b : Int), .int .i64 (c9 : Int), .int .i64 (N : Int), .int .i64 v]] W fun e w' => MdAns W 1 ([wrap64 (s.pad (a : Int) + innS (padL s.pad b N) (padL s.pad c9 N) N)]) e w' := by
  obtain ⟨V, hV⟩ : ∃ V, V = ((W.alloc (.cells #[.pointer (some ⟨g, 0, none⟩)] 39)).alloc (.cells #[.int .i64 13, .int .i64 (a : Int), .int .i64 (b : Int), .int .i64 (c9 : Int), .int .i64 (N : Int), .int .i64 v] 50)).alloc (.cells #[.int .i64 3, .slice none 0 0, .slice none 0 0, .slice none 0 0, .slice none 0 0, .slice none 0 0, .int .i64 0] 104) := ⟨_, rfl⟩
  obtain ⟨mb, hmb⟩ : ∃ b, b = W.heap.size := ⟨_, rfl⟩
  obtain ⟨ib, hib⟩ : ∃ b, b = W.heap.size + 1 := ⟨_, rfl⟩
  obtain ⟨ob, hob⟩ : ∃ b, b = W.heap.size + 1 + 1 := ⟨_, rfl⟩
  have hbV : Below W.heap.size W V := by rw [hV]; exact bl_alloc (bl_alloc (bl_new _))
  have e1 : (W.alloc (.cells #[.pointer (some ⟨g, 0, none⟩)] 39)).heap.size = W.heap.size + 1 := by simp
  have e2 : ((W.alloc (.cells #[.pointer (some ⟨g, 0, none⟩)] 39)).alloc (.cells #[.int .i64 13, .int .i64 (a : Int), .int .i64 (b : Int), .int .i64 (c9 : Int), .int .i64 (N : Int), .int .i64 v] 50)).heap.size = W.heap.size + 1 + 1 := by simp
  have hMB : MdB V g ib mb ⟨13, (a : Int), (b : Int), (c9 : Int), (N : Int), v⟩ := by
    rw [hV, hib, hmb]
    refine ⟨?_, ?_⟩
    · rw [Below.heap_alloc _ _ _ (by rw [e2]; omega), ← e1]
      exact World.alloc_heap_new _ _
    · rw [Below.heap_alloc _ _ _ (by rw [e2]; omega), Below.heap_alloc _ _ _ (by rw [e1]; omega)]
      exact World.alloc_heap_new _ _
  have hOP : OpAt V ob 3 (.slice none 0 0) (.slice none 0 0) (.slice none 0 0) (.slice none 0 0) (.slice none 0 0) 0 := by
    rw [hV, hob, ← e2]
    exact OpAt.new _ 3 _ _ _ _ _ 0
  have h2 := h.below hbV
  have i0 : V.cell? ⟨ib, 0, none⟩ = some (.int .i64 13) := by simp only [World.cell?, hMB.i]; rfl
  have i1 : V.cell? ⟨ib, 1, none⟩ = some (.int .i64 (a : Int)) := by simp only [World.cell?, hMB.i]; rfl
  have i2 : V.cell? ⟨ib, 2, none⟩ = some (.int .i64 (b : Int)) := by simp only [World.cell?, hMB.i]; rfl
  have i3 : V.cell? ⟨ib, 3, none⟩ = some (.int .i64 (c9 : Int)) := by simp only [World.cell?, hMB.i]; rfl
  have i4 : V.cell? ⟨ib, 4, none⟩ = some (.int .i64 (N : Int)) := by simp only [World.cell?, hMB.i]; rfl
  have i5 : V.cell? ⟨ib, 5, none⟩ = some (.int .i64 v) := by simp only [World.cell?, hMB.i]; rfl
  have mm : V.cell? ⟨mb, 0, none⟩ = some (.pointer (some ⟨g, 0, none⟩)) := by simp only [World.cell?, hMB.m]; rfl
  have zi := lt_of_cell i0
  obtain ⟨o0, o1, o2, o3, o4, o5, o6⟩ := hOP.cells
  have HV := hide hV
  have HMBE := hide hmb
  have HIBE := hide hib
  have HOBE := hide hob
  have HBV := hide hbV
  have HMB := hide hMB
  have HOP := hide hOP
  have H2 := hide h2
  clear h h2 hV hmb hib hob hbV hMB hOP e1 e2
  go_enter Tryz.func52, Tryz.ntmps52
  go_upto_region 4 with fail
  rw [← HV.out, ← HOBE.out, ← HIBE.out, ← HMBE.out]
  go_upto_region 12 with fail
  go_cut [8] (fun v1 wc => v1 = .int .i64 (innS (padL s.pad b N) (padL s.pad c9 N) N) ∧ Below V.heap.size V wc)
  case first =>
    refine region_made 10 12 [fIs (.func (.func 53) #[] #[.pointer (some ⟨ib, 0, none⟩), .pointer (some ⟨mb, 0, none⟩)]), fIs (.pointer (some ⟨ib, 2, none⟩)), fIs (.int .i64 (b : Int)), fAr N (padL s.pad b N), fIs (.func (.func 53) #[] #[.pointer (some ⟨ib, 0, none⟩), .pointer (some ⟨mb, 0, none⟩)]), fIs (.pointer (some ⟨ib, 3, none⟩)), fIs (.int .i64 (c9 : Int)), fAr N (padL s.pad c9 N), fIs (.tuple #[.int .i64 (innS (padL s.pad b N) (padL s.pad c9 N) N), .int .i64 0]), fIs (.tuple #[.int .i64 (innS (padL s.pad b N) (padL s.pad c9 N) N), .int .i64 0])] (by kernel_rfl) (by kernel_rfl) (by kernel_rfl) (fun _ ⟨_, _⟩ ⟨_, _⟩ _ e h => by cases e; exact h) ⟨fIs_good _, fIs_good _, fIs_good _, fAr_good _ _, fIs_good _, fIs_good _, fIs_good _, fAr_good _ _, fIs_good _, fIs_good _, trivial⟩ ?mk ?rst
    case mk =>
      refine ⟨fun u wz hb hd => ?_, fun u wz hb hd => ?_, fun u wz hb hd => ?_, fun u wz hb hd => ?_, fun u wz hb hd => ?_, fun u wz hb hd => ?_, fun u wz hb hd => ?_, fun u wz hb hd => ?_, fun u wz hb hd => ?_, fun u wz hb hd => ?_, trivial⟩
      all_goals simp only [Act.put, List.setIfInBounds_toArray, List.set_cons_zero, List.set_cons_succ]
      · go_simp
        exact ⟨rfl, Below.refl _ _, fun h => by cases h⟩
      · go_simp
        exact ⟨rfl, Below.refl _ _, fun h => by cases h⟩
      · have e1 : u 1 = .pointer (some ⟨ib, 2, none⟩) := hd 1 (by omega) (by kernel_rfl)
        rw [e1]
        have i2' := (hb.cell (p := ⟨ib, 2, none⟩) (lt_of_cell i2)).trans i2
        go_simp
        exact ⟨rfl, Below.refl _ _, fun h => by cases h⟩
      · have e0 : u 0 = .func (.func 53) #[] #[.pointer (some ⟨ib, 0, none⟩), .pointer (some ⟨mb, 0, none⟩)] := hd 0 (by omega) (by kernel_rfl)
        have e2 : u 2 = .int .i64 (b : Int) := hd 2 (by omega) (by kernel_rfl)
        rw [e0, e2]
        go_simp
        refine (from_any g ib mb c mv mk B s _ b N wz (H2.out.below hb) (HMB.out.below hb) rfl hN0 hn4 hb9 hp).mono ?_
        rintro e w2 ⟨⟨gd, rfl, hi, _⟩, hb2⟩
        exact ⟨⟨gd, _, _, rfl, hi, ((H2.out.below hb).below hb2).pad.ints hbd hb9 (by omega)⟩, hb2, fun h => by cases h⟩
      · go_simp
        exact ⟨rfl, Below.refl _ _, fun h => by cases h⟩
      · go_simp
        exact ⟨rfl, Below.refl _ _, fun h => by cases h⟩
      · have e5 : u 5 = .pointer (some ⟨ib, 3, none⟩) := hd 5 (by omega) (by kernel_rfl)
        rw [e5]
        have i3' := (hb.cell (p := ⟨ib, 3, none⟩) (lt_of_cell i3)).trans i3
        go_simp
        exact ⟨rfl, Below.refl _ _, fun h => by cases h⟩
      · have e4 : u 4 = .func (.func 53) #[] #[.pointer (some ⟨ib, 0, none⟩), .pointer (some ⟨mb, 0, none⟩)] := hd 4 (by omega) (by kernel_rfl)
        have e6 : u 6 = .int .i64 (c9 : Int) := hd 6 (by omega) (by kernel_rfl)
        rw [e4, e6]
        go_simp
        refine (from_any g ib mb c mv mk B s _ c9 N wz (H2.out.below hb) (HMB.out.below hb) rfl hN0 hn4 hc9 hp).mono ?_
        rintro e w2 ⟨⟨gd, rfl, hi, _⟩, hb2⟩
        exact ⟨⟨gd, _, _, rfl, hi, ((H2.out.below hb).below hb2).pad.ints hbd hc9 (by omega)⟩, hb2, fun h => by cases h⟩
      · obtain ⟨g3, X3, c3, e3, hd3, hx3⟩ := hd 3 (by omega) (by kernel_rfl)
        obtain ⟨g7, X7, c7, e7, hd7, hx7⟩ := hd 7 (by omega) (by kernel_rfl)
        rw [e3, e7]
        go_simp
        have hin := Inner_any (some ⟨g3, 0, none⟩) 1 1 [(N : Int)] X3 N c3 _ (some ⟨g7, 0, none⟩) 1 1 [(N : Int)] X7 N c7 _ wz hd3 hx3 hd7 hx7
        rw [inner_here hn4, innerE_here hn4] at hin
        refine hin.mono ?_
        rintro e w2 ⟨rfl, hb2⟩
        exact ⟨rfl, hb2, fun h => by cases h⟩
      · have e8 : u 8 = .tuple #[.int .i64 (innS (padL s.pad b N) (padL s.pad c9 N) N), .int .i64 0] := hd 8 (by omega) (by kernel_rfl)
        rw [e8]
        go_simp
        exact ⟨rfl, Below.refl _ _, fun h => by cases h⟩
    case rst =>
      intro u wz hb hf hp
      have f0 : u 0 = .func (.func 53) #[] #[.pointer (some ⟨ib, 0, none⟩), .pointer (some ⟨mb, 0, none⟩)] := hf 0 (by omega)
      have f1 : u 1 = .pointer (some ⟨ib, 2, none⟩) := hf 1 (by omega)
      have f2 : u 2 = .int .i64 (b : Int) := hf 2 (by omega)
      obtain ⟨g3, X3, xc3, f3, _, _⟩ := hf 3 (by omega)
      have f4 : u 4 = .func (.func 53) #[] #[.pointer (some ⟨ib, 0, none⟩), .pointer (some ⟨mb, 0, none⟩)] := hf 4 (by omega)
      have f5 : u 5 = .pointer (some ⟨ib, 3, none⟩) := hf 5 (by omega)
      have f6 : u 6 = .int .i64 (c9 : Int) := hf 6 (by omega)
      obtain ⟨g7, X7, xc7, f7, _, _⟩ := hf 7 (by omega)
      have f8 : u 8 = .tuple #[.int .i64 (innS (padL s.pad b N) (padL s.pad c9 N) N), .int .i64 0] := hf 8 (by omega)
      have f9 : u 9 = .tuple #[.int .i64 (innS (padL s.pad b N) (padL s.pad c9 N) N), .int .i64 0] := hf 9 (by omega)
      refine UptoW.four 10 _ rfl rfl rfl rfl rfl rfl rfl rfl rfl rfl (by kernel_rfl) (by kernel_rfl) (by kernel_rfl) (by kernel_rfl) (by kernel_rfl) (by kernel_rfl) (by kernel_rfl) (by kernel_rfl) (by kernel_rfl) (by kernel_rfl) (by kernel_rfl) (by kernel_rfl) ?_ ?_
      all_goals simp only [List.take, List.drop, putOps, Act.put, List.setIfInBounds_toArray, List.set_cons_zero, List.set_cons_succ, Nat.reduceAdd, f0, f1, f2, f3, f4, f5, f6, f7, f8, f9]
      all_goals clear f0 f1 f2 f3 f4 f5 f6 f7 f8 f9 hf hp
      · have HBZ := hide hb
        clear hb
        go_simp
        refine ⟨?_, ?_⟩
        · go_wp2_with fail
          go_meet
          exact ⟨rfl, HBZ.out⟩
        · go_wp2_with fail
          go_meet
          exact ⟨rfl, HBZ.out⟩
      · have HBZ := hide hb
        clear hb
        go_wp2_with fail
        go_meet
        exact ⟨rfl, HBZ.out⟩
  case rest =>
    obtain ⟨rfl, hb⟩ := hcut
    have hbw := Below.on HBV.out hb
    have hM2 := H2.out.below hb
    have hD2 := HMB.out.below hb
    clear hb
    go_upto_region 13 with fail
    have mm2 : wc.cell? ⟨mb, 0, none⟩ = some (.pointer (some ⟨g, 0, none⟩)) := by simp only [World.cell?, hD2.m]; rfl
    have j1 : wc.cell? ⟨ib, 1, none⟩ = some (.int .i64 (a : Int)) := by simp only [World.cell?, hD2.i]; rfl
    have hpa : B.p.a = some ⟨B.gp, B.op, none⟩ := hM2.pad.1 (by omega)
    have m4 := hM2.cell (k := 4) (by decide)
    simp [mchV] at m4
    rw [hpa] at m4
    have gz := hM2.lt
    have pc := hM2.pad.cell (k := a) ha
    have HBW := hide hbw
    clear hM2 hD2 hbw i0 i1 i2 i3 i4 i5 mm o0 o1 o2 o3 o4 o5 o6 zi
    refine region_made 11 13 [fIs (.pointer (some ⟨g, 0, none⟩)), fIs (.pointer (some ⟨g, 0, none⟩)), fIs (.pointer (some ⟨g, 4, none⟩)), fIs (.slice (some ⟨B.gp, B.op, none⟩) B.p.n B.p.c), fIs (.pointer (some ⟨ib, 1, none⟩)), fIs (.int .i64 (a : Int)), fIs (.pointer (some ⟨B.gp, B.op + a, none⟩)), fIs (.int .i64 (s.pad (a : Int))), fIs (.int .i64 (innS (padL s.pad b N) (padL s.pad c9 N) N)), fIs (.int .i64 (wrap64 (s.pad (a : Int) + innS (padL s.pad b N) (padL s.pad c9 N) N))), fDt W.heap.size 1 [wrap64 (s.pad (a : Int) + innS (padL s.pad b N) (padL s.pad c9 N) N)]] (by kernel_rfl) (by kernel_rfl) (by kernel_rfl) (fun _ ⟨_, _⟩ ⟨_, _⟩ _ e h => by cases e; exact h) ⟨fIs_good _, fIs_good _, fIs_good _, fIs_good _, fIs_good _, fIs_good _, fIs_good _, fIs_good _, fIs_good _, fIs_good _, fDt_good _ _ _, trivial⟩ ?mk ?rest
    case mk =>
      refine ⟨fun u wz hb hd => ?_, fun u wz hb hd => ?_, fun u wz hb hd => ?_, fun u wz hb hd => ?_, fun u wz hb hd => ?_, fun u wz hb hd => ?_, fun u wz hb hd => ?_, fun u wz hb hd => ?_, fun u wz hb hd => ?_, fun u wz hb hd => ?_, fun u wz hb hd => ?_, trivial⟩
      all_goals simp only [Act.put, List.setIfInBounds_toArray, List.set_cons_zero, List.set_cons_succ]
      · have mm2' := (hb.cell (p := ⟨mb, 0, none⟩) (lt_of_cell mm2)).trans mm2
        go_simp
        exact ⟨rfl, Below.refl _ _, fun h => by cases h⟩
      · have e0 : u 0 = .pointer (some ⟨g, 0, none⟩) := hd 0 (by omega) (by kernel_rfl)
        rw [e0]
        have gz' : g < wz.heap.size := Nat.lt_of_lt_of_le gz hb.size
        go_simp
        exact ⟨rfl, Below.refl _ _, fun h => by cases h⟩
      · have e1 : u 1 = .pointer (some ⟨g, 0, none⟩) := hd 1 (by omega) (by kernel_rfl)
        rw [e1]
        go_simp
        exact ⟨rfl, Below.refl _ _, fun h => by cases h⟩
      · have e2 : u 2 = .pointer (some ⟨g, 4, none⟩) := hd 2 (by omega) (by kernel_rfl)
        rw [e2]
        have m4' := (hb.cell (p := ⟨g, 4, none⟩) (lt_of_cell m4)).trans m4
        go_simp
        exact ⟨rfl, Below.refl _ _, fun h => by cases h⟩
      · go_simp
        exact ⟨rfl, Below.refl _ _, fun h => by cases h⟩
      · have e4 : u 4 = .pointer (some ⟨ib, 1, none⟩) := hd 4 (by omega) (by kernel_rfl)
        rw [e4]
        have j1' := (hb.cell (p := ⟨ib, 1, none⟩) (lt_of_cell j1)).trans j1
        go_simp
        exact ⟨rfl, Below.refl _ _, fun h => by cases h⟩
      · have e3 : u 3 = .slice (some ⟨B.gp, B.op, none⟩) B.p.n B.p.c := hd 3 (by omega) (by kernel_rfl)
        have e5 : u 5 = .int .i64 (a : Int) := hd 5 (by omega) (by kernel_rfl)
        rw [e3, e5]
        have q1 : (0 : Int) ≤ (a : Int) := by omega
        have q2 : (a : Int) < (B.p.n : Int) := by omega
        go_simp
        exact ⟨rfl, Below.refl _ _, fun h => by cases h⟩
      · have e6 : u 6 = .pointer (some ⟨B.gp, B.op + a, none⟩) := hd 6 (by omega) (by kernel_rfl)
        rw [e6]
        have pc' := (hb.cell (p := ⟨B.gp, B.op + a, none⟩) (lt_of_cell pc)).trans pc
        go_simp
        exact ⟨rfl, Below.refl _ _, fun h => by cases h⟩
      · go_simp
        exact ⟨rfl, Below.refl _ _, fun h => by cases h⟩
      · have e7 : u 7 = .int .i64 (s.pad (a : Int)) := hd 7 (by omega) (by kernel_rfl)
        have e8 : u 8 = .int .i64 (innS (padL s.pad b N) (padL s.pad c9 N) N) := hd 8 (by omega) (by kernel_rfl)
        rw [e7, e8]
        go_simp
        rw [wk64]
        exact ⟨rfl, Below.refl _ _, fun h => by cases h⟩
      · have e9 : u 9 = .int .i64 (wrap64 (s.pad (a : Int) + innS (padL s.pad b N) (padL s.pad c9 N) N)) := hd 9 (by omega) (by kernel_rfl)
        rw [e9]
        go_simp
        exact ⟨⟨_, rfl, ints_w wz _ (wrap64_bd _) _, Nat.le_trans HBW.out.size hb.size⟩, bl_new _, fun h => by cases h⟩
    case rest =>
      intro u wz hb hf hp
      have f0 : u 0 = .pointer (some ⟨g, 0, none⟩) := hf 0 (by omega)
      have f1 : u 1 = .pointer (some ⟨g, 0, none⟩) := hf 1 (by omega)
      have f2 : u 2 = .pointer (some ⟨g, 4, none⟩) := hf 2 (by omega)
      have f3 : u 3 = .slice (some ⟨B.gp, B.op, none⟩) B.p.n B.p.c := hf 3 (by omega)
      have f4 : u 4 = .pointer (some ⟨ib, 1, none⟩) := hf 4 (by omega)
      have f5 : u 5 = .int .i64 (a : Int) := hf 5 (by omega)
      have f6 : u 6 = .pointer (some ⟨B.gp, B.op + a, none⟩) := hf 6 (by omega)
      have f7 : u 7 = .int .i64 (s.pad (a : Int)) := hf 7 (by omega)
      have f8 : u 8 = .int .i64 (innS (padL s.pad b N) (padL s.pad c9 N) N) := hf 8 (by omega)
      have f9 : u 9 = .int .i64 (wrap64 (s.pad (a : Int) + innS (padL s.pad b N) (padL s.pad c9 N) N)) := hf 9 (by omega)
      obtain ⟨GZ, f10, hz, hzg⟩ := hf 10 (by omega)
      refine UptoW.rest 1 11 (by rfl) (by kernel_rfl) ?_
      simp only [List.take, List.drop, putOps, Act.put, List.setIfInBounds_toArray, List.set_cons_zero, List.set_cons_succ, Nat.reduceAdd, f0, f1, f2, f3, f4, f5, f6, f7, f8, f9, f10]
      clear f0 f1 f2 f3 f4 f5 f6 f7 f8 f9 f10 hf hp
      have HBZ := hide hb
      have HZ := hide hz
      clear hb hz
      go_wp2_with fail
      go_ret
      exact ⟨GZ, rfl, HZ.out, hzg, Below.on HBW.out HBZ.out⟩
end Go.Proofs.YtoabffmiedbkkaaGreat.V
namespace Go.Proofs.YtoabffmiedbkkaaGreat.V
set_option maxRecDepth 20000
open Go Go.RowKit
set_option linter.unusedVariables false
set_option linter.unusedSimpArgs false

theorem cm_size64 : (Tryz.prog.info? 2).map (·.size) = some 1 := by kernel_rfl
theorem wrp_wrap (x : Int) : wrap64 x = wrp x := by unfold wrap64 wrp; omega
theorem acc_inn {p : Int → Int} {b c N : Nat} {z : Int} (hz : bd64 z) : ∀ k, k ≤ N → wrap64 (z + innS (padL p b N) (padL p c N) k) = accI p b c k z
  | 0, _ => by unfold innS accI wrap64 bd64 at *; omega
  | k + 1, hk => by
    have ih := acc_inn (p := p) (b := b) (c := c) (N := N) hz k (by omega)
    unfold innS accI
    rw [← ih, padL_at p b N k (by omega), padL_at p c N k (by omega)]
    simp only [wrp_wrap]
    generalize innS (padL p b N) (padL p c N) k = S
    generalize p ((b : Int) + (k : Int)) * p ((c : Int) + (k : Int)) = t
    unfold wrp
    omega
/-- What is made. -/
def mkN (x : In) (N : Nat) : Nat := if x.d = 13 then 1 else N
def mkL (x : In) (p : Int → Int) (N : Nat) : List Int :=
  if x.d = 5 then List.replicate N x.v
  else if x.d = 11 then C.pickL (padL p x.a.toNat N) (padL p x.b.toNat N) (padL p x.c.toNat N) N
  else if x.d = 12 then C.bothL 3 (padL p x.a.toNat N) (C.bothL 5 (padL p x.b.toNat N) (padL p x.c.toNat N) N) N
  else if x.d = 13 then [wrap64 (p x.a + innS (padL p x.b.toNat N) (padL p x.c.toNat N) N)]
  else if x.d = 14 then C.bothL 3 (padL p x.a.toNat N) (padL p x.b.toNat N) N
  else C.bothL (x.d - 3) (padL p x.b.toNat N) (padL p x.c.toNat N) N
theorem mkL_length (x : In) (p : Int → Int) (N : Nat) : (mkL x p N).length = mkN x N := by
  unfold mkL mkN
  split
  · rename_i h; rw [if_neg (by omega)]; simp
  split
  · rename_i h; rw [if_neg (by omega)]; exact C.pickL_length _ _ _ _
  split
  · rename_i h; rw [if_neg (by omega)]; exact C.bothL_length _ _ _ _
  split
  · rename_i h; rfl
  split
  · rename_i h; exact C.bothL_length _ _ _ _
  · exact C.bothL_length _ _ _ _
/-- What the code says of a maker's instruction. -/
structure MkOk (x : In) (pad : Int) : Prop where
  d : 5 ≤ x.d ∧ x.d ≤ 14
  n : 0 ≤ x.n ∧ x.n ≤ 4096
  t : tchIn (tchV x) pad = true
theorem mk_ok {pad mem : Int} {x : In} (h : insE pad mem false x = 0) (hd : x.d ≠ 3 ∧ x.d ≠ 4) : MkOk x pad := by
  have hh := ins_has h
  unfold hasV at hh
  unfold insE at h
  by_cases h1 : hasV false x.d = false
  · rw [if_pos h1] at h; omega
  rw [if_neg h1, if_neg (by omega)] at h
  by_cases h2 : x.n < 0 ∨ 4096 < x.n ∨ farV x.a = true ∨ farV x.b = true ∨ farV x.c = true
  · rw [if_pos h2] at h; omega
  rw [if_neg h2] at h
  by_cases h3 : tchIn (tchV x) pad = false ∨ findV mem x = false
  · rw [if_pos h3] at h; omega
  simp only [not_or, Bool.not_eq_true, Bool.not_eq_false] at h2 h3
  refine ⟨?_, by omega, h3.1⟩
  simp only [Bool.or_eq_true, decide_eq_true_eq] at hh
  rcases hh with (h4 | h4) | h4
  · omega
  · omega
  · split at h4
    · cases h4
    · simp at h4; omega
theorem in_bk {f w pad : Int} (h : inBk ⟨f, w⟩ pad = true) (hw : 0 < w) : 0 ≤ f ∧ f + w ≤ pad := by
  unfold inBk at h
  simp only [Bool.or_eq_true, Bool.and_eq_true, decide_eq_true_eq] at h
  omega
/-- Where its words lie. -/
theorem MkOk.in {x : In} {pad : Int} (h : MkOk x pad) (hn : 0 < x.n) :
    (0 ≤ x.a ∧ x.a + 1 ≤ pad ∧ (x.d ≠ 13 → x.a + x.n ≤ pad)) ∧ (x.d ≠ 5 → 0 ≤ x.b ∧ x.b + x.n ≤ pad) ∧ (x.d ≠ 5 → x.d ≠ 14 → 0 ≤ x.c ∧ x.c + x.n ≤ pad) := by
  have ht := h.t
  have hd := h.d
  unfold tchIn tchV at ht
  rw [if_neg (by omega)] at ht
  by_cases h5 : x.d = 5
  · rw [if_pos (.inr h5)] at ht
    simp only [Bool.and_eq_true] at ht
    have := in_bk ht.2 hn
    exact ⟨⟨by omega, by omega, fun _ => by omega⟩, fun e => absurd h5 e, fun e => absurd h5 e⟩
  rw [if_neg (by omega), if_neg (by omega)] at ht
  by_cases h11 : x.d = 11 ∨ x.d = 12
  · rw [if_pos h11] at ht
    simp only [Bool.and_eq_true] at ht
    have h0 := in_bk ht.1.1.1 hn
    have h1 := in_bk ht.1.1.2 hn
    have h2 := in_bk ht.1.2 hn
    exact ⟨⟨by omega, by omega, fun _ => by omega⟩, fun e => by omega, fun e e2 => by omega⟩
  rw [if_neg h11] at ht
  by_cases h13 : x.d = 13
  · rw [if_pos h13] at ht
    simp only [Bool.and_eq_true] at ht
    have h0 := in_bk ht.1.1.1 (by omega)
    have h1 := in_bk ht.1.1.2 hn
    have h2 := in_bk ht.1.2 hn
    exact ⟨⟨by omega, by omega, fun e => absurd h13 e⟩, fun e => by omega, fun e e2 => by omega⟩
  rw [if_neg h13] at ht
  by_cases h14 : x.d = 14
  · rw [if_pos h14] at ht
    simp only [Bool.and_eq_true] at ht
    have h0 := in_bk ht.1.1.1 hn
    have h1 := in_bk ht.1.1.2 hn
    exact ⟨⟨by omega, by omega, fun _ => by omega⟩, fun e => by omega, fun e e2 => absurd h14 e2⟩
  rw [if_neg h14] at ht
  simp only [Bool.and_eq_true] at ht
  have h0 := in_bk ht.1.1.1 hn
  have h1 := in_bk ht.1.1.2 hn
  have h2 := in_bk ht.2 hn
  exact ⟨⟨by omega, by omega, fun _ => by omega⟩, fun e => by omega, fun e e2 => by omega⟩
theorem two_is (d : Int) (hd : 6 ≤ d ∧ d ≤ 10) (xs ys : List Int) (n i : Nat) (hi : i < n) : (C.bothL (d - 3) xs ys n)[i]?.getD 0 = twoI d (xs[i]?.getD 0) (ys[i]?.getD 0) := by
  have e1 : ∀ k, (twoL k xs ys n)[i]?.getD 0 = twoV k (xs[i]?.getD 0) (ys[i]?.getD 0) := fun k => by simp [twoL, hi]
  have e2 : ∀ k, (mxL k xs ys n)[i]?.getD 0 = mxV k (xs[i]?.getD 0) (ys[i]?.getD 0) := fun k => by simp [mxL, hi]
  unfold C.bothL
  have : d = 6 ∨ d = 7 ∨ d = 8 ∨ d = 9 ∨ d = 10 := by omega
  rcases this with rfl | rfl | rfl | rfl | rfl
  · rw [if_pos (by omega), e1]; simp [twoV, twoI, wrp_wrap]
  · rw [if_pos (by omega), e1]; simp [twoV, twoI, wrp_wrap]
  · rw [if_pos (by omega), e1]; simp [twoV, twoI, wrp_wrap]
  · rw [if_neg (by omega), e2]; simp [mxV, twoI]
  · rw [if_neg (by omega), e2]; simp [mxV, twoI]
/-- It is what the machine's function says. -/
theorem mkL_at {x : In} {p m : Int → Int} {N : Nat} {pad : Int} (h : MkOk x pad) (hN : x.n = (N : Int)) (hN0 : 0 < N) (hp : ∀ q, bd64 (p q)) {i : Nat} (hi : i < mkN x N) : (mkL x p N)[i]?.getD 0 = newW x p m (x.a + (i : Int)) := by
  obtain ⟨⟨a0, _, _⟩, b0, c0⟩ := h.in (by omega)
  have hd := h.d
  unfold mkN at hi
  unfold mkL newW
  rw [if_neg (show ¬ x.d = 1 by omega)]
  have ea : ((x.a.toNat : Nat) : Int) + (i : Int) = x.a + (i : Int) := by omega
  by_cases h5 : x.d = 5
  · rw [if_pos h5, if_pos h5]
    rw [if_neg (by omega)] at hi
    simp [hi]
  rw [if_neg h5, if_neg h5]
  obtain ⟨b1, _⟩ := b0 h5
  have eb : ((x.b.toNat : Nat) : Int) + (i : Int) = x.b + (x.a + (i : Int) - x.a) := by omega
  by_cases h14 : x.d = 14
  · rw [if_neg (by omega)] at hi
    rw [if_neg (by omega), if_neg (by omega), if_neg (by omega), if_pos h14, if_neg (by omega), if_neg (by omega), if_neg (by omega), if_pos h14]
    have := two_is 6 (by omega) (padL p x.a.toNat N) (padL p x.b.toNat N) N i hi
    rw [show (6 : Int) - 3 = 3 by omega] at this
    rw [this, padL_at _ _ _ _ hi, padL_at _ _ _ _ hi, ea, eb]
    simp [twoI]
  obtain ⟨c1, _⟩ := c0 h5 h14
  have ec : ((x.c.toNat : Nat) : Int) + (i : Int) = x.c + (x.a + (i : Int) - x.a) := by omega
  by_cases h11 : x.d = 11
  · rw [if_neg (by omega)] at hi
    rw [if_pos h11, if_pos h11]
    have : (C.pickL (padL p x.a.toNat N) (padL p x.b.toNat N) (padL p x.c.toNat N) N)[i]?.getD 0 = if (padL p x.a.toNat N)[i]?.getD 0 ≠ 0 then (padL p x.b.toNat N)[i]?.getD 0 else (padL p x.c.toNat N)[i]?.getD 0 := C.pickL_at _ _ _ _ _ hi
    rw [this, padL_at _ _ _ _ hi, padL_at _ _ _ _ hi, padL_at _ _ _ _ hi, ea, eb, ec]
  rw [if_neg h11, if_neg h11]
  by_cases h12 : x.d = 12
  · rw [if_neg (by omega)] at hi
    rw [if_pos h12, if_pos h12]
    have t1 := two_is 6 (by omega) (padL p x.a.toNat N) (C.bothL 5 (padL p x.b.toNat N) (padL p x.c.toNat N) N) N i hi
    have t2 := two_is 8 (by omega) (padL p x.b.toNat N) (padL p x.c.toNat N) N i hi
    rw [show (6 : Int) - 3 = 3 by omega] at t1
    rw [show (8 : Int) - 3 = 5 by omega] at t2
    rw [t1, t2, padL_at _ _ _ _ hi, padL_at _ _ _ _ hi, padL_at _ _ _ _ hi, ea, eb, ec]
    simp [twoI]
  rw [if_neg h12, if_neg h12]
  by_cases h13 : x.d = 13
  · rw [if_pos h13] at hi
    obtain rfl : i = 0 := by omega
    rw [if_pos h13, if_pos h13]
    have := acc_inn (p := p) (b := x.b.toNat) (c := x.c.toNat) (N := N) (hp x.a) N (Nat.le_refl _)
    rw [show ((x.b.toNat : Nat) : Int) = x.b by omega, show ((x.c.toNat : Nat) : Int) = x.c by omega] at this
    simp only [List.getElem?_cons_zero, Option.getD_some]
    rw [this, hN]
    simp
  rw [if_neg (by omega)] at hi
  rw [if_neg h13, if_neg h13, if_neg h14, if_neg h14, two_is x.d (by omega) _ _ _ _ hi, padL_at _ _ _ _ hi, padL_at _ _ _ _ hi, eb, ec]
/-- What made tells. -/
def madeAll (g : Nat) (c : CV) (mv mk : List In) (B : MbK) (s : Mac) (x : In) (N : Nat) (W : World) : Prop := Calls Tryz.prog 52 #[.pointer (some ⟨g, 0, none⟩), x.w] W fun e w' => MdAns W (mkN x N) (mkL x s.pad N) e w'
theorem made_all (g : Nat) (c : CV) (mv mk : List In) (B : MbK) (s : Mac) (x : In) (N : Nat) (W : World) (h : MchAt W g c mv mk B s) (hf : Fits c B) (ho : MkOk x c.pad) (hN : x.n = (N : Int)) (hN0 : 0 < N) (hp4 : c.pad ≤ 4096) (hv : bd64 x.v) (hbd : ∀ q, bd64 (s.pad q)) : madeAll g c mv mk B s x N W := by
  obtain ⟨⟨a0, a1, a2⟩, b0, c0⟩ := ho.in (by omega)
  have hd := ho.d
  have hn := ho.n
  have hfp := hf.p
  obtain ⟨d, a, b, c9, n, v⟩ := x
  simp only at a0 a1 a2 b0 c0 hd hn hN hv
  subst hN
  obtain ⟨a, rfl⟩ : ∃ k : Nat, a = (k : Int) := ⟨a.toNat, by omega⟩
  unfold madeAll mkN mkL In.w
  simp only
  by_cases h5 : d = 5
  · subst h5
    simp only [if_true]
    rw [if_neg (by omega)]
    exact made_5 g c mv mk B s a b c9 N v W h hN0 (by omega) (by omega) hbd hv
  rw [if_neg h5]
  obtain ⟨b1, b2⟩ := b0 h5
  obtain ⟨b, rfl⟩ : ∃ k : Nat, b = (k : Int) := ⟨b.toNat, by omega⟩
  simp only [Int.toNat_natCast]
  by_cases h14 : d = 14
  · subst h14
    have := a2 (by omega)
    rw [if_neg (by omega), if_neg (by omega), if_neg (by omega), if_neg (by omega), if_pos rfl]
    exact made_14 g c mv mk B s a b c9 N v W h hN0 (by omega) (by omega) hbd (by omega) (by omega)
  obtain ⟨c1, c2⟩ := c0 h5 h14
  obtain ⟨c9, rfl⟩ : ∃ k : Nat, c9 = (k : Int) := ⟨c9.toNat, by omega⟩
  simp only [Int.toNat_natCast]
  by_cases h11 : d = 11
  · subst h11
    have := a2 (by omega)
    rw [if_neg (by omega), if_pos rfl]
    exact made_11 g c mv mk B s a b c9 N v W h hN0 (by omega) (by omega) hbd (by omega) (by omega) (by omega)
  rw [if_neg h11]
  by_cases h12 : d = 12
  · subst h12
    have := a2 (by omega)
    rw [if_neg (by omega), if_pos rfl]
    exact made_12 g c mv mk B s a b c9 N v W h hN0 (by omega) (by omega) hbd (by omega) (by omega) (by omega)
  rw [if_neg h12]
  by_cases h13 : d = 13
  · subst h13
    rw [if_pos rfl, if_pos rfl]
    exact made_13 g c mv mk B s a b c9 N v W h hN0 (by omega) (by omega) hbd (by omega) (by omega) (by omega)
  rw [if_neg h13, if_neg h13, if_neg h14]
  exact made_6 g c mv mk B s d a b c9 N v W h hN0 (by omega) (by omega) hbd (by omega) (by omega) (by omega)
/-- Without words nothing is done. -/
theorem doP_none {x : In} {pad : Int} (h : MkOk x pad) (hn : x.n = 0) (p m : Int → Int) : doP x p m = p := by
  have hd := h.d
  funext w
  unfold doP
  split
  · rename_i hw
    by_cases h13 : x.d = 13
    · unfold newW
      rw [if_neg (by omega), if_neg (by omega), if_neg (by omega), if_neg (by omega), if_pos h13, hn]
      rfl
    · exfalso
      unfold tchV at hw
      have key : ∀ s : Str, s.w = 0 → inS s w = false := fun s hs => by
        unfold inS
        simp only [Bool.and_eq_false_iff, decide_eq_false_iff_not]
        omega
      repeat' split at hw
      all_goals first | omega | (rw [key _ hn] at hw; cases hw) | (rw [key _ rfl] at hw; cases hw)
  · rfl
theorem wr_is {x : In} {pad : Int} (h : MkOk x pad) {N : Nat} (hN : x.n = (N : Int)) : (tchV x).wr = ⟨x.a, ((mkN x N : Nat) : Int)⟩ := by
  have hd := h.d
  unfold tchV mkN
  repeat' split
  all_goals first | omega | (simp only [hN]; done) | rfl | (exfalso; omega) | simp_all
/-- Words of the pad are written over. -/
theorem MchAt.putRow {W : World} {g : Nat} {c : CV} {mv mk : List In} {B : MbK} {s : Mac} (h : MchAt W g c mv mk B s) {a k : Nat} {l : List Int} (hl : l.length = k) (hk : a + k ≤ B.p.n) {cur : Array Value} (hg : W.heap[B.gp]? = some (.cells cur 2 (0, 0))) {p' : Int → Int} (hp : ∀ q : Nat, q < B.p.n → p' (q : Int) = if a ≤ q ∧ q < a + k then l[q - a]?.getD 0 else s.pad (q : Int)) (h0 : 0 < k) :
    MchAt (W.setRow B.gp (cur.toList.take (B.op + a) ++ (l.map (Value.int .i64) ++ cur.toList.drop (B.op + a + (l.map (Value.int .i64)).length))).toArray) g c mv mk B { s with pad := p' } := by
  obtain ⟨cg, h1, h2, h3⟩ := h.blk
  obtain ⟨p1, p2, p3⟩ := h.pad
  obtain ⟨cur', e1, e2⟩ := p2 (by omega)
  rw [hg] at e1
  simp only [Option.some.injEq, Obj.cells.injEq] at e1
  obtain ⟨rfl, _⟩ := e1
  have hn := fun {b : Nat} (hb : b ≠ B.gp) => setRow_other W B.gp b (cur.toList.take (B.op + a) ++ (l.map (Value.int .i64) ++ cur.toList.drop (B.op + a + (l.map (Value.int .i64)).length))).toArray hb
  refine ⟨⟨cg, (hn h.ne.2.1).trans h1, h2, h3⟩, h.mvs.keep (fun b off e h0 => hn (h.far b off (.inl ⟨e, h0⟩)).1), h.mks.keep (fun b off e h0 => hn (h.far b off (.inr ⟨e, h0⟩)).1), ⟨p1, fun _ => ⟨_, setRow_heap _ _ _ _ _ _ hg, fun q hq => ?_⟩, p3⟩, h.mem.keep (fun _ => hn h.ne.1.symm), h.ne, h.far⟩
  have hsz : B.op + B.p.n ≤ cur.size := by
    have := (Array.getElem?_eq_some_iff.1 (e2 (B.p.n - 1) (by omega))).1
    omega
  simp only
  rw [hp q hq, List.getElem?_toArray]
  have htl : (cur.toList.take (B.op + a)).length = B.op + a := by simp; omega
  by_cases c1 : q < a
  · rw [if_neg (by omega), List.getElem?_append_left (by omega), List.getElem?_take_of_lt (by omega)]
    have := e2 q hq
    simpa using this
  · rw [List.getElem?_append_right (by omega), htl]
    by_cases c2 : q < a + k
    · rw [if_pos ⟨by omega, c2⟩, List.getElem?_append_left (by simp; omega), List.getElem?_map]
      have : q - a < l.length := by omega
      rw [show B.op + q - (B.op + a) = q - a by omega]
      simp [this]
    · rw [if_neg (by omega), List.getElem?_append_right (by simp; omega), List.getElem?_drop]
      have := e2 q hq
      simp only [List.length_map, hl]
      rw [show B.op + a + k + (B.op + q - (B.op + a) - k) = B.op + q by omega]
      simpa using this
set_option maxRecDepth 20000 in
set_option maxHeartbeats 8000000 in
theorem reckon_do (g : Nat) (c : CV) (mv mk : List In) (B : MbK) (s : Mac) (d b c9 v : Int) (a N K : Nat) (L : List Int) (W : World) (h : MchAt W g c mv mk B s) (hN0 : 0 < N) (hn4 : N ≤ 4096) (hp : B.p.n ≤ 4096) (hK0 : 0 < K) (ha : a + K ≤ B.p.n) (hL : L.length = K)
    (hM : ∀ V, Below W.heap.size W V → Calls Tryz.prog 52 #[.pointer (some ⟨g, 0, none⟩), .agg #[.int .i64 d, .int .i64 (a : Int), .int .i64 b, .int .i64 c9, .int .i64 (N : Int), .int .i64 v]] V fun e w' => MdAns V K L e w') (p' : Int → Int) (hp' : ∀ q : Nat, q < B.p.n → p' (q : Int) = if a ≤ q ∧ q < a + K then L[q - a]?.getD 0 else s.pad (q : Int)) :
    Calls Tryz.prog 45 #[.pointer (some ⟨g, 0, none⟩), .agg #[.int .i64 d, .int .i64 (a : Int), .int .i64 b, .int .i64 c9, .int .i64 (N : Int), .int .i64 v]] W fun e w' => e = .returned (.tuple #[]) ∧ MchAt w' g c mv mk B { s with pad := p' } ∧ WrB (fun b => b = B.gp) W w' := by
  obtain ⟨V, hV⟩ : ∃ V, V = W.alloc (.cells #[.int .i64 d, .int .i64 (a : Int), .int .i64 b, .int .i64 c9, .int .i64 (N : Int), .int .i64 v] 50) := ⟨_, rfl⟩
  obtain ⟨ib, hib⟩ : ∃ b, b = W.heap.size := ⟨_, rfl⟩
  have hbV : Below W.heap.size W V := by rw [hV]; exact bl_new _
  have hIB : V.heap[ib]? = some (.cells #[.int .i64 d, .int .i64 (a : Int), .int .i64 b, .int .i64 c9, .int .i64 (N : Int), .int .i64 v] 50 (0, 0)) := by rw [hV, hib]; exact World.alloc_heap_new _ _
  have h2 := h.below hbV
  have hpa : B.p.a = some ⟨B.gp, B.op, none⟩ := h2.pad.1 (by omega)
  have hpc : B.p.n ≤ B.p.c := h2.pad.2.2
  have m4 := h2.cell (k := 4) (by decide)
  simp [mchV] at m4
  rw [hpa] at m4
  have gz := h2.lt
  have i0 : V.cell? ⟨ib, 0, none⟩ = some (.int .i64 d) := by simp only [World.cell?, hIB]; rfl
  have i1 : V.cell? ⟨ib, 1, none⟩ = some (.int .i64 (a : Int)) := by simp only [World.cell?, hIB]; rfl
  have i2 : V.cell? ⟨ib, 2, none⟩ = some (.int .i64 b) := by simp only [World.cell?, hIB]; rfl
  have i3 : V.cell? ⟨ib, 3, none⟩ = some (.int .i64 c9) := by simp only [World.cell?, hIB]; rfl
  have i4 : V.cell? ⟨ib, 4, none⟩ = some (.int .i64 (N : Int)) := by simp only [World.cell?, hIB]; rfl
  have i5 : V.cell? ⟨ib, 5, none⟩ = some (.int .i64 v) := by simp only [World.cell?, hIB]; rfl
  have zi := lt_of_cell i0
  simp only at zi
  have hNz : (0 : Int) < (N : Int) := by omega
  have HV := hide hV
  have HIBE := hide hib
  have HBV := hide hbV
  have H2 := hide h2
  have HMA := hide hM
  have HLL := hide hL
  have HP := hide hp'
  clear h hV hib hbV hIB h2 hM hpa hL hp'
  go_enter Tryz.func45, Tryz.ntmps45
  go_upto_region 1 with fail
  rw [← HV.out, ← HIBE.out]
  go_upto_region 2 with fail
  refine region_made 10 12 [fIs (.pointer (some ⟨g, 0, none⟩)), fIs (.pointer (some ⟨g, 0, none⟩)), fIs (.pointer (some ⟨g, 4, none⟩)), fIs (.slice (some ⟨B.gp, B.op, none⟩) B.p.n B.p.c), fIs (.pointer (some ⟨ib, 1, none⟩)), fIs (.int .i64 (a : Int)), fIs (.slice (some ⟨B.gp, B.op + a, none⟩) (B.p.n - a) (B.p.c - a)), fIs (.pointer (some ⟨g, 0, none⟩)), fIs (.agg #[.int .i64 d, .int .i64 (a : Int), .int .i64 b, .int .i64 c9, .int .i64 (N : Int), .int .i64 v]), fDt W.heap.size K L] (by kernel_rfl) (by kernel_rfl) (by kernel_rfl) (fun _ ⟨_, _⟩ ⟨_, _⟩ _ e h => by cases e; exact h) ⟨fIs_good _, fIs_good _, fIs_good _, fIs_good _, fIs_good _, fIs_good _, fIs_good _, fIs_good _, fIs_good _, fDt_good _ _ _, trivial⟩ ?mk ?rest
  case mk =>
    refine ⟨fun u wz hb hd => ?_, fun u wz hb hd => ?_, fun u wz hb hd => ?_, fun u wz hb hd => ?_, fun u wz hb hd => ?_, fun u wz hb hd => ?_, fun u wz hb hd => ?_, fun u wz hb hd => ?_, fun u wz hb hd => ?_, fun u wz hb hd => ?_, trivial⟩
    all_goals simp only [Act.put, List.setIfInBounds_toArray, List.set_cons_zero, List.set_cons_succ]
    · go_simp
      exact ⟨rfl, Below.refl _ _, fun h => by cases h⟩
    · have e0 : u 0 = .pointer (some ⟨g, 0, none⟩) := hd 0 (by omega) (by kernel_rfl)
      rw [e0]
      have gz' : g < wz.heap.size := Nat.lt_of_lt_of_le gz hb.size
      go_simp
      exact ⟨rfl, Below.refl _ _, fun h => by cases h⟩
    · have e1 : u 1 = .pointer (some ⟨g, 0, none⟩) := hd 1 (by omega) (by kernel_rfl)
      rw [e1]
      go_simp
      exact ⟨rfl, Below.refl _ _, fun h => by cases h⟩
    · have e2 : u 2 = .pointer (some ⟨g, 4, none⟩) := hd 2 (by omega) (by kernel_rfl)
      rw [e2]
      have m4' := (hb.cell (p := ⟨g, 4, none⟩) (lt_of_cell m4)).trans m4
      go_simp
      exact ⟨rfl, Below.refl _ _, fun h => by cases h⟩
    · go_simp
      exact ⟨rfl, Below.refl _ _, fun h => by cases h⟩
    · have e4 : u 4 = .pointer (some ⟨ib, 1, none⟩) := hd 4 (by omega) (by kernel_rfl)
      rw [e4]
      have i1' := (hb.cell (p := ⟨ib, 1, none⟩) (lt_of_cell i1)).trans i1
      go_simp
      exact ⟨rfl, Below.refl _ _, fun h => by cases h⟩
    · have e3 : u 3 = .slice (some ⟨B.gp, B.op, none⟩) B.p.n B.p.c := hd 3 (by omega) (by kernel_rfl)
      have e5 : u 5 = .int .i64 (a : Int) := hd 5 (by omega) (by kernel_rfl)
      rw [e3, e5]
      have q1 : (0 : Int) ≤ (a : Int) := by omega
      have q2 : (a : Int) ≤ (B.p.n : Int) := by omega
      have q4 : ¬ (B.p.c = a) := by omega
      go_simp
      exact ⟨rfl, Below.refl _ _, fun h => by cases h⟩
    · go_simp
      exact ⟨rfl, Below.refl _ _, fun h => by cases h⟩
    · have i0' := (hb.cell (p := ⟨ib, 0, none⟩) (lt_of_cell i0)).trans i0
      have i1' := (hb.cell (p := ⟨ib, 1, none⟩) (lt_of_cell i1)).trans i1
      have i2' := (hb.cell (p := ⟨ib, 2, none⟩) (lt_of_cell i2)).trans i2
      have i3' := (hb.cell (p := ⟨ib, 3, none⟩) (lt_of_cell i3)).trans i3
      have i4' := (hb.cell (p := ⟨ib, 4, none⟩) (lt_of_cell i4)).trans i4
      have i5' := (hb.cell (p := ⟨ib, 5, none⟩) (lt_of_cell i5)).trans i5
      have iz' : ib < wz.heap.size := Nat.lt_of_lt_of_le zi hb.size
      go_simp
      exact ⟨rfl, Below.refl _ _, fun h => by cases h⟩
    · have e7 : u 7 = .pointer (some ⟨g, 0, none⟩) := hd 7 (by omega) (by kernel_rfl)
      have e8 : u 8 = .agg #[.int .i64 d, .int .i64 (a : Int), .int .i64 b, .int .i64 c9, .int .i64 (N : Int), .int .i64 v] := hd 8 (by omega) (by kernel_rfl)
      rw [e7, e8]
      go_simp
      refine (HMA.out wz (Below.on HBV.out hb)).mono ?_
      rintro e w2 ⟨G, rfl, hi, hg2, hb2⟩
      exact ⟨⟨G, rfl, hi, Nat.le_trans (Below.on HBV.out hb).size hg2⟩, hb2, fun h => by cases h⟩
  case rest =>
    intro u wz hb hf hp
    have f0 : u 0 = .pointer (some ⟨g, 0, none⟩) := hf 0 (by omega)
    have f1 : u 1 = .pointer (some ⟨g, 0, none⟩) := hf 1 (by omega)
    have f2 : u 2 = .pointer (some ⟨g, 4, none⟩) := hf 2 (by omega)
    have f3 : u 3 = .slice (some ⟨B.gp, B.op, none⟩) B.p.n B.p.c := hf 3 (by omega)
    have f4 : u 4 = .pointer (some ⟨ib, 1, none⟩) := hf 4 (by omega)
    have f5 : u 5 = .int .i64 (a : Int) := hf 5 (by omega)
    have f6 : u 6 = .slice (some ⟨B.gp, B.op + a, none⟩) (B.p.n - a) (B.p.c - a) := hf 6 (by omega)
    have f7 : u 7 = .pointer (some ⟨g, 0, none⟩) := hf 7 (by omega)
    have f8 : u 8 = .agg #[.int .i64 d, .int .i64 (a : Int), .int .i64 b, .int .i64 c9, .int .i64 (N : Int), .int .i64 v] := hf 8 (by omega)
    obtain ⟨GZ, f9, hz, hzg⟩ := hf 9 (by omega)
    refine UptoW.rest 1 10 (by rfl) (by kernel_rfl) ?_
    simp only [List.take, List.drop, putOps, Act.put, List.setIfInBounds_toArray, List.set_cons_zero, List.set_cons_succ, Nat.reduceAdd, f0, f1, f2, f3, f4, f5, f6, f7, f8, f9]
    clear f0 f1 f2 f3 f4 f5 f6 f7 f8 f9 hf hp
    have HBZ := hide hb
    have HZ := hide hz
    have hM2 := H2.out.below hb
    obtain ⟨cur, hcg, hcc⟩ := hM2.pad.2.1 (by omega)
    have hcs : B.op + B.p.n ≤ cur.size := by
      have := (Array.getElem?_eq_some_iff.1 (hcc (B.p.n - 1) (by omega))).1
      omega
    clear hb hz
    refine wpList_copy_own rfl (.tmp 13) (.tmp 16) 25 25 rfl 2 Tryz.underlying25 cm_size64 B.gp (B.op + a) (B.p.n - a) (B.p.c - a) ⟨GZ, 0, none⟩ K K rfl rfl cur 2 hcg (L.map (Value.int .i64)) (by rw [List.length_map, HLL.out]; exact (Nat.min_eq_left (by omega)).symm) (fun j v hj => ?_) (by rw [List.length_map, HLL.out]; omega) (fun v hv => ?_) ?_
    · have hjl : j < L.length := by
        have := (List.getElem?_eq_some_iff.1 hj).1
        simpa using this
      rw [List.getElem?_map, List.getElem?_eq_getElem hjl] at hj
      simp only [Option.map_some, Option.some.injEq] at hj
      obtain ⟨b', o', e', _, hc⟩ := HZ.out.at hK0
      cases e'
      have := hc j (by rw [← HLL.out]; exact hjl)
      rw [List.getElem?_eq_getElem hjl] at this
      rw [← hj, Go.WideShapes.add_plain]
      exact this
    · simp only [List.mem_map] at hv
      obtain ⟨x, _, rfl⟩ := hv
      rfl
    · have hF := hM2.putRow HLL.out ha hcg HP.out hK0
      have HF := hide hF
      have hw : WrB (fun b => b = B.gp) W (wz.setRow B.gp (cur.toList.take (B.op + a) ++ (L.map (Value.int .i64) ++ cur.toList.drop (B.op + a + (L.map (Value.int .i64)).length))).toArray) := by
        have h9 := Below.on HBV.out HBZ.out
        refine ⟨⟨h9.os, h9.tape, h9.output⟩, by simp [World.setRow]; exact h9.size, fun i h1 h2 => (setRow_other _ _ _ _ h2).trans (h9.block i h1)⟩
      generalize (wz.setRow B.gp (cur.toList.take (B.op + a) ++ (L.map (Value.int .i64) ++ cur.toList.drop (B.op + a + (L.map (Value.int .i64)).length))).toArray) = w9 at HF hw ⊢
      have HW := hide hw
      clear hF hw hcg hcc hM2 m4 i0 i1 i2 i3 i4 i5 zi gz
      go_wp2_with fail
      refine bodyPost_end (v := .tuple #[]) (by simp [results, Tryz.results45, go_sem]) rfl ⟨rfl, HF.out, HW.out⟩
set_option maxRecDepth 20000 in
set_option maxHeartbeats 8000000 in
theorem reckon_none (g : Nat) (d a b c9 v : Int) (W : World) :
    Calls Tryz.prog 45 #[.pointer (some ⟨g, 0, none⟩), .agg #[.int .i64 d, .int .i64 a, .int .i64 b, .int .i64 c9, .int .i64 0, .int .i64 v]] W fun e w' => e = .returned (.tuple #[]) ∧ Below W.heap.size W w' := by
  have hbV : Below W.heap.size W (W.alloc (.cells #[.int .i64 d, .int .i64 a, .int .i64 b, .int .i64 c9, .int .i64 0, .int .i64 v] 50)) := bl_new _
  go_enter Tryz.func45, Tryz.ntmps45
  go_wp2_with fail
  refine bodyPost_end (v := .tuple #[]) (by simp [results, Tryz.results45, go_sem]) rfl ⟨rfl, hbV⟩
theorem reckon_ok (g : Nat) (c : CV) (mv mk : List In) (B : MbK) (hf : Fits c B) (hp4 : c.pad ≤ 4096) : RckOk g c mv mk B := by
  intro x hx hv hd V s h hbd
  have ho := mk_ok hx hd
  have hn := ho.n
  have hfp := hf.p
  obtain ⟨N, hN⟩ : ∃ N : Nat, x.n = (N : Int) := ⟨x.n.toNat, by omega⟩
  by_cases h0 : N = 0
  · subst h0
    rw [doP_none ho (by simpa using hN)]
    unfold In.w
    rw [hN]
    refine (reckon_none g x.d x.a x.b x.c x.v V).mono ?_
    rintro e w' ⟨rfl, hb⟩
    exact ⟨rfl, h.below hb, WrB.of hb⟩
  · obtain ⟨⟨a0, a1, a2⟩, _, _⟩ := ho.in (by omega)
    have hk : x.a.toNat + mkN x N ≤ B.p.n := by
      unfold mkN
      split
      · omega
      · rename_i h13
        have := a2 h13
        omega
    have hk0 : 0 < mkN x N := by unfold mkN; split <;> omega
    have hr := reckon_do g c mv mk B s x.d x.b x.c x.v x.a.toNat N (mkN x N) (mkL x s.pad N) V h (by omega) (by omega) (by omega) hk0 hk (mkL_length x s.pad N) (fun V2 hV2 => by
      have h9 := made_all g c mv mk B s x N V2 (h.below hV2) hf ho hN (by omega) hp4 hv hbd
      unfold madeAll In.w at h9
      rw [show ((x.a.toNat : Nat) : Int) = x.a by omega, ← hN]
      exact h9) (doP x s.pad s.mem) (fun q hq => by
      unfold doP
      rw [wr_is ho hN]
      unfold inS
      simp only [Bool.and_eq_true, decide_eq_true_eq]
      by_cases c1 : x.a.toNat ≤ q ∧ q < x.a.toNat + mkN x N
      · rw [if_pos c1, if_pos (by omega), mkL_at (m := s.mem) ho hN (by omega) hbd (by omega)]
        congr 1
        omega
      · rw [if_neg c1, if_neg (by omega)])
    unfold In.w
    rw [show ((x.a.toNat : Nat) : Int) = x.a by omega, ← hN] at hr
    exact hr
end Go.Proofs.YtoabffmiedbkkaaGreat.V
