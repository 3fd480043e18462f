/-
  Contract: core.touched.
-/
import Derived.Test.YtoabffmiedbkkaaGreatRJ4
import Derived.Deep.RegionHeld3
namespace Go.Proofs.YtoabffmiedbkkaaGreat.V
set_option maxRecDepth 20000
open Go Go.RowKit
set_option linter.unusedVariables false

def In.v6 (x : In) : Value := .agg #[.int .i64 x.d, .int .i64 x.a, .int .i64 x.b, .int .i64 x.c, .int .i64 x.n, .int .i64 x.v]
def InBlk (W : World) (g : Nat) (x : In) : Prop := W.heap[g]? = some (.cells #[.int .i64 x.d, .int .i64 x.a, .int .i64 x.b, .int .i64 x.c, .int .i64 x.n, .int .i64 x.v] 50 (0, 0))
theorem InBlk.cells {W : World} {g : Nat} {x : In} (h : InBlk W g x) : (W.cell? ⟨g, 0, none⟩ = some (.int .i64 x.d) ∧ W.cell? ⟨g, 1, none⟩ = some (.int .i64 x.a) ∧ W.cell? ⟨g, 2, none⟩ = some (.int .i64 x.b) ∧ W.cell? ⟨g, 3, none⟩ = some (.int .i64 x.c) ∧ W.cell? ⟨g, 4, none⟩ = some (.int .i64 x.n) ∧ W.cell? ⟨g, 5, none⟩ = some (.int .i64 x.v)) ∧ g < W.heap.size := by
  unfold InBlk at h
  refine ⟨⟨?_, ?_, ?_, ?_, ?_, ?_⟩, (Array.getElem?_eq_some_iff.1 h).1⟩ <;> simp [World.cell?, h]
theorem InBlk.below {W V : World} {g : Nat} {x : In} (h : InBlk W g x) (hb : Below W.heap.size W V) : InBlk V g x := (hb.block g (Array.getElem?_eq_some_iff.1 h).1).trans h
def SBlk (W : World) (g : Nat) (f n : Int) : Prop := W.heap[g]? = some (.cells #[.int .i64 f, .int .i64 n] 65 (0, 0))
theorem SBlk.cells {W : World} {g : Nat} {f n : Int} (h : SBlk W g f n) : (W.cell? ⟨g, 0, none⟩ = some (.int .i64 f) ∧ W.cell? ⟨g, 1, none⟩ = some (.int .i64 n)) ∧ g < W.heap.size := by
  unfold SBlk at h
  refine ⟨⟨?_, ?_⟩, (Array.getElem?_eq_some_iff.1 h).1⟩ <;> simp [World.cell?, h]
theorem SBlk.below {W V : World} {g : Nat} {f n : Int} (h : SBlk W g f n) (hb : Below W.heap.size W V) : SBlk V g f n := (hb.block g (Array.getElem?_eq_some_iff.1 h).1).trans h
def TBlk (W : World) (g : Nat) (t : Tch) : Prop := W.heap[g]? = some (.cells #[.int .i64 t.r0.f, .int .i64 t.r0.w, .int .i64 t.r1.f, .int .i64 t.r1.w, .int .i64 t.r2.f, .int .i64 t.r2.w, .int .i64 t.wr.f, .int .i64 t.wr.w] 68 (0, 0))
theorem TBlk.below {W V : World} {g : Nat} {t : Tch} (h : TBlk W g t) (hb : Below W.heap.size W V) : TBlk V g t := (hb.block g (Array.getElem?_eq_some_iff.1 h).1).trans h
theorem TBlk.free {W : World} {g : Nat} {t : Tch} (h : TBlk W g t) (i : Nat) : W.frozen? ⟨g, i, none⟩ = false := by
  unfold TBlk at h
  simp [World.frozen?, h]
theorem three_new (W : World) (f1 n1 f2 n2 f3 n3 : Int) : SBlk (((W.alloc (.cells #[.int .i64 f1, .int .i64 n1] 65)).alloc (.cells #[.int .i64 f2, .int .i64 n2] 65)).alloc (.cells #[.int .i64 f3, .int .i64 n3] 65)).drew W.heap.size f1 n1 ∧ SBlk (((W.alloc (.cells #[.int .i64 f1, .int .i64 n1] 65)).alloc (.cells #[.int .i64 f2, .int .i64 n2] 65)).alloc (.cells #[.int .i64 f3, .int .i64 n3] 65)).drew (W.heap.size + 1) f2 n2 ∧ SBlk (((W.alloc (.cells #[.int .i64 f1, .int .i64 n1] 65)).alloc (.cells #[.int .i64 f2, .int .i64 n2] 65)).alloc (.cells #[.int .i64 f3, .int .i64 n3] 65)).drew (W.heap.size + 1 + 1) f3 n3 ∧ Below W.heap.size W (((W.alloc (.cells #[.int .i64 f1, .int .i64 n1] 65)).alloc (.cells #[.int .i64 f2, .int .i64 n2] 65)).alloc (.cells #[.int .i64 f3, .int .i64 n3] 65)).drew := by
  have h1 := World.alloc_heap_new W (.cells #[.int .i64 f1, .int .i64 n1] 65)
  have h2 := World.alloc_heap_new (W.alloc (.cells #[.int .i64 f1, .int .i64 n1] 65)) (.cells #[.int .i64 f2, .int .i64 n2] 65)
  have h3 := World.alloc_heap_new ((W.alloc (.cells #[.int .i64 f1, .int .i64 n1] 65)).alloc (.cells #[.int .i64 f2, .int .i64 n2] 65)) (.cells #[.int .i64 f3, .int .i64 n3] 65)
  rw [World.size_alloc] at h2
  rw [World.size_alloc, World.size_alloc] at h3
  refine ⟨?_, ?_, h3, (bl_on (bl_on (bl_new _) (bl_new _)) (bl_new _)).drew⟩
  · exact (Below.heap_alloc _ _ _ (by simp; omega)).trans ((Below.heap_alloc _ _ _ (by simp)).trans h1)
  · exact (Below.heap_alloc _ _ _ (by simp)).trans h2
theorem TBlk.put {w : World} {g : Nat} {t0 : Tch} (h : TBlk w g t0) (t : Tch) : TBlk ((((((((w.setCell ⟨g, 0, none⟩ (.int .i64 t.r0.f)).setCell ⟨g, 1, none⟩ (.int .i64 t.r0.w)).setCell ⟨g, 2, none⟩ (.int .i64 t.r1.f)).setCell ⟨g, 3, none⟩ (.int .i64 t.r1.w)).setCell ⟨g, 4, none⟩ (.int .i64 t.r2.f)).setCell ⟨g, 5, none⟩ (.int .i64 t.r2.w)).setCell ⟨g, 6, none⟩ (.int .i64 t.wr.f)).setCell ⟨g, 7, none⟩ (.int .i64 t.wr.w)) g t := by
  unfold TBlk at h ⊢
  simp [World.setCell, Array.getElem?_modify, h]
theorem tb_below {n : Nat} {w0 w : World} {g : Nat} (hb : Below n w0 w) (hg : n ≤ g) (t : Tch) : Below n w0 ((((((((w.setCell ⟨g, 0, none⟩ (.int .i64 t.r0.f)).setCell ⟨g, 1, none⟩ (.int .i64 t.r0.w)).setCell ⟨g, 2, none⟩ (.int .i64 t.r1.f)).setCell ⟨g, 3, none⟩ (.int .i64 t.r1.w)).setCell ⟨g, 4, none⟩ (.int .i64 t.r2.f)).setCell ⟨g, 5, none⟩ (.int .i64 t.r2.w)).setCell ⟨g, 6, none⟩ (.int .i64 t.wr.f)).setCell ⟨g, 7, none⟩ (.int .i64 t.wr.w)) := by
  exact ((((((((hb.setCell (p := ⟨g, 0, none⟩) hg _).setCell (p := ⟨g, 1, none⟩) hg _).setCell (p := ⟨g, 2, none⟩) hg _).setCell (p := ⟨g, 3, none⟩) hg _).setCell (p := ⟨g, 4, none⟩) hg _).setCell (p := ⟨g, 5, none⟩) hg _).setCell (p := ⟨g, 6, none⟩) hg _).setCell (p := ⟨g, 7, none⟩) hg _)
set_option maxRecDepth 100000 in
set_option maxHeartbeats 4000000 in
theorem touched_any (x : In) (w : World) : Calls Tryz.prog 30 #[x.v6] w fun e w' => e = .returned (tchV x).v ∧ Below w.heap.size w w' := by
  obtain ⟨W, hW⟩ : ∃ W, W = (w.alloc (.cells #[.int .i64 x.d, .int .i64 x.a, .int .i64 x.b, .int .i64 x.c, .int .i64 x.n, .int .i64 x.v] 50)).alloc (.cells #[.int .i64 0, .int .i64 0, .int .i64 0, .int .i64 0, .int .i64 0, .int .i64 0, .int .i64 0, .int .i64 0] 68) := ⟨_, rfl⟩
  have hb : Below w.heap.size w W := by rw [hW]; exact bl_on (bl_new _) (bl_new _)
  have hA : InBlk W w.heap.size x := by
    rw [hW]
    exact (Below.heap_alloc _ _ _ (by simp)).trans (World.alloc_heap_new _ _)
  have hP : TBlk W (w.heap.size + 1) ⟨zS, zS, zS, zS⟩ := by
    rw [hW]
    have := World.alloc_heap_new (w.alloc (.cells #[.int .i64 x.d, .int .i64 x.a, .int .i64 x.b, .int .i64 x.c, .int .i64 x.n, .int .i64 x.v] 50)) (.cells #[.int .i64 0, .int .i64 0, .int .i64 0, .int .i64 0, .int .i64 0, .int .i64 0, .int .i64 0, .int .i64 0] 68)
    rw [World.size_alloc] at this
    exact this
  have HW := hide hW
  have HB := hide hb
  have HA := hide hA
  have HP := hide hP
  obtain ⟨⟨c0, c1, c2, c3, c4, c5⟩, zc⟩ := hA.cells
  obtain ⟨R, hR⟩ : ∃ R, R = tchV x := ⟨_, rfl⟩
  rw [← hR]
  have HR := hide hR
  clear hW hb hA hP hR
  unfold In.v6
  go_enter Tryz.func30, Tryz.ntmps30
  go_upto_region 1 with fail
  rw [← HW.out]
  go_cut [3, 4, 5] (fun v3 v4 v5 wx => ∃ g3 g4 g5, v3 = .pointer (some ⟨g3, 0, none⟩) ∧ v4 = .pointer (some ⟨g4, 0, none⟩) ∧ v5 = .pointer (some ⟨g5, 0, none⟩) ∧ SBlk wx g3 x.a x.n ∧ SBlk wx g4 x.b x.n ∧ SBlk wx g5 x.c x.n ∧ Below W.heap.size W wx)
  case first =>
    go_region_held3 (fun w' => w'.cell? ⟨w.heap.size, 1, none⟩ = some (.int .i64 x.a) ∧ w'.cell? ⟨w.heap.size, 2, none⟩ = some (.int .i64 x.b) ∧ w'.cell? ⟨w.heap.size, 3, none⟩ = some (.int .i64 x.c) ∧ w'.cell? ⟨w.heap.size, 4, none⟩ = some (.int .i64 x.n)) (refine ⟨?_, ?_, ?_, ?_⟩ <;> with_reducible (repeat (first | assumption | apply drew_cell | apply alloc_cell))) ((fail))
    all_goals go_wp2
    all_goals go_meet
    all_goals refine ⟨_, _, _, rfl, rfl, rfl, ?_, ?_, ?_, ?_⟩
    all_goals first | exact (three_new _ _ _ _ _ _ _).1 | exact (three_new _ _ _ _ _ _ _).2.1 | exact (three_new _ _ _ _ _ _ _).2.2.1 | exact (three_new _ _ _ _ _ _ _).2.2.2
  case rest =>
    obtain ⟨g3, g4, g5, rfl, rfl, rfl, h3, h4, h5, hbx⟩ := hcut
    clear c0 c1 c2 c3 c4 c5 zc
    obtain ⟨⟨c0, c1, c2, c3, c4, c5⟩, zc⟩ := (HA.out.below hbx).cells
    obtain ⟨⟨s0, s1⟩, zs⟩ := h3.cells
    obtain ⟨⟨t0, t1⟩, zt⟩ := h4.cells
    obtain ⟨⟨u0, u1⟩, zu⟩ := h5.cells
    have HP2 := hide (HP.out.below hbx)
    have HB2 := hide (bl_on HB.out hbx)
    obtain ⟨⟨p0, p1, p2, p3, p4, p5, p6, p7⟩, zp⟩ := blk8 HP2.out
    have q0 := HP2.out.free 0
    have q1 := HP2.out.free 1
    have q2 := HP2.out.free 2
    have q3 := HP2.out.free 3
    have q4 := HP2.out.free 4
    have q5 := HP2.out.free 5
    have q6 := HP2.out.free 6
    have q7 := HP2.out.free 7
    clear h3 h4 h5 hbx
    by_cases e3 : x.d = 3
    · have hr : R = ⟨zS, zS, zS, zS⟩ := by rw [HR.out]; unfold tchV; simp [e3]
      have q : (x.d == 3) = true := by simpa using e3
      clear e3
      go_wp2
      have PZ2 := HP2.out.put (⟨zS, zS, zS, zS⟩ : Tch)
      obtain ⟨⟨x0, x1, x2, x3, x4, x5, x6, x7⟩, _⟩ := blk8 PZ2
      refine bodyPost_ret (v := (⟨zS, zS, zS, zS⟩ : Tch).v) (by simp only [zS] at x0 x1 x2 x3 x4 x5 x6 x7; simp [results, Tryz.results30, go_sem, x0, x1, x2, x3, x4, x5, x6, x7, Tch.v, zS]) rfl ⟨by first | rfl | rw [hr], ?_⟩
      exact tb_below HB2.out (by omega) (⟨zS, zS, zS, zS⟩ : Tch)
    by_cases e4 : x.d = 4
    · have hr : R = ⟨zS, zS, zS, zS⟩ := by rw [HR.out]; unfold tchV; simp [e4]
      have q : (x.d == 4) = true := by simpa using e4
      have r3 : (x.d == 3) = false := by simpa using e3
      clear e3 e4
      go_wp2
      have PZ2 := HP2.out.put (⟨zS, zS, zS, zS⟩ : Tch)
      obtain ⟨⟨x0, x1, x2, x3, x4, x5, x6, x7⟩, _⟩ := blk8 PZ2
      refine bodyPost_ret (v := (⟨zS, zS, zS, zS⟩ : Tch).v) (by simp only [zS] at x0 x1 x2 x3 x4 x5 x6 x7; simp [results, Tryz.results30, go_sem, x0, x1, x2, x3, x4, x5, x6, x7, Tch.v, zS]) rfl ⟨by first | rfl | rw [hr], ?_⟩
      exact tb_below HB2.out (by omega) (⟨zS, zS, zS, zS⟩ : Tch)
    by_cases e1 : x.d = 1
    · have hr : R = ⟨zS, zS, zS, ⟨x.a, x.n⟩⟩ := by rw [HR.out]; unfold tchV; simp [e1]
      have q : (x.d == 1) = true := by simpa using e1
      have r3 : (x.d == 3) = false := by simpa using e3
      have r4 : (x.d == 4) = false := by simpa using e4
      clear e3 e4 e1
      go_wp2
      have PZ2 := HP2.out.put (⟨zS, zS, zS, ⟨x.a, x.n⟩⟩ : Tch)
      obtain ⟨⟨x0, x1, x2, x3, x4, x5, x6, x7⟩, _⟩ := blk8 PZ2
      refine bodyPost_ret (v := (⟨zS, zS, zS, ⟨x.a, x.n⟩⟩ : Tch).v) (by simp only [zS] at x0 x1 x2 x3 x4 x5 x6 x7; simp [results, Tryz.results30, go_sem, x0, x1, x2, x3, x4, x5, x6, x7, Tch.v, zS]) rfl ⟨by first | rfl | rw [hr], ?_⟩
      exact tb_below HB2.out (by omega) (⟨zS, zS, zS, ⟨x.a, x.n⟩⟩ : Tch)
    by_cases e5 : x.d = 5
    · have hr : R = ⟨zS, zS, zS, ⟨x.a, x.n⟩⟩ := by rw [HR.out]; unfold tchV; simp [e5]
      have q : (x.d == 5) = true := by simpa using e5
      have r3 : (x.d == 3) = false := by simpa using e3
      have r4 : (x.d == 4) = false := by simpa using e4
      have r1 : (x.d == 1) = false := by simpa using e1
      clear e3 e4 e1 e5
      go_wp2
      have PZ2 := HP2.out.put (⟨zS, zS, zS, ⟨x.a, x.n⟩⟩ : Tch)
      obtain ⟨⟨x0, x1, x2, x3, x4, x5, x6, x7⟩, _⟩ := blk8 PZ2
      refine bodyPost_ret (v := (⟨zS, zS, zS, ⟨x.a, x.n⟩⟩ : Tch).v) (by simp only [zS] at x0 x1 x2 x3 x4 x5 x6 x7; simp [results, Tryz.results30, go_sem, x0, x1, x2, x3, x4, x5, x6, x7, Tch.v, zS]) rfl ⟨by first | rfl | rw [hr], ?_⟩
      exact tb_below HB2.out (by omega) (⟨zS, zS, zS, ⟨x.a, x.n⟩⟩ : Tch)
    by_cases e2 : x.d = 2
    · have hr : R = ⟨⟨x.a, x.n⟩, zS, zS, zS⟩ := by rw [HR.out]; unfold tchV; simp [e2]
      have q : (x.d == 2) = true := by simpa using e2
      have r3 : (x.d == 3) = false := by simpa using e3
      have r4 : (x.d == 4) = false := by simpa using e4
      have r1 : (x.d == 1) = false := by simpa using e1
      have r5 : (x.d == 5) = false := by simpa using e5
      clear e3 e4 e1 e5 e2
      go_wp2
      have PZ2 := HP2.out.put (⟨⟨x.a, x.n⟩, zS, zS, zS⟩ : Tch)
      obtain ⟨⟨x0, x1, x2, x3, x4, x5, x6, x7⟩, _⟩ := blk8 PZ2
      refine bodyPost_ret (v := (⟨⟨x.a, x.n⟩, zS, zS, zS⟩ : Tch).v) (by simp only [zS] at x0 x1 x2 x3 x4 x5 x6 x7; simp [results, Tryz.results30, go_sem, x0, x1, x2, x3, x4, x5, x6, x7, Tch.v, zS]) rfl ⟨by first | rfl | rw [hr], ?_⟩
      exact tb_below HB2.out (by omega) (⟨⟨x.a, x.n⟩, zS, zS, zS⟩ : Tch)
    by_cases e11 : x.d = 11
    · have hr : R = ⟨⟨x.a, x.n⟩, ⟨x.b, x.n⟩, ⟨x.c, x.n⟩, ⟨x.a, x.n⟩⟩ := by rw [HR.out]; unfold tchV; simp [e11]
      have q : (x.d == 11) = true := by simpa using e11
      have r3 : (x.d == 3) = false := by simpa using e3
      have r4 : (x.d == 4) = false := by simpa using e4
      have r1 : (x.d == 1) = false := by simpa using e1
      have r5 : (x.d == 5) = false := by simpa using e5
      have r2 : (x.d == 2) = false := by simpa using e2
      clear e3 e4 e1 e5 e2 e11
      go_wp2
      have PZ2 := HP2.out.put (⟨⟨x.a, x.n⟩, ⟨x.b, x.n⟩, ⟨x.c, x.n⟩, ⟨x.a, x.n⟩⟩ : Tch)
      obtain ⟨⟨x0, x1, x2, x3, x4, x5, x6, x7⟩, _⟩ := blk8 PZ2
      refine bodyPost_ret (v := (⟨⟨x.a, x.n⟩, ⟨x.b, x.n⟩, ⟨x.c, x.n⟩, ⟨x.a, x.n⟩⟩ : Tch).v) (by simp [results, Tryz.results30, go_sem, x0, x1, x2, x3, x4, x5, x6, x7, Tch.v]) rfl ⟨by first | rfl | rw [hr], ?_⟩
      exact tb_below HB2.out (by omega) (⟨⟨x.a, x.n⟩, ⟨x.b, x.n⟩, ⟨x.c, x.n⟩, ⟨x.a, x.n⟩⟩ : Tch)
    by_cases e12 : x.d = 12
    · have hr : R = ⟨⟨x.a, x.n⟩, ⟨x.b, x.n⟩, ⟨x.c, x.n⟩, ⟨x.a, x.n⟩⟩ := by rw [HR.out]; unfold tchV; simp [e12]
      have q : (x.d == 12) = true := by simpa using e12
      have r3 : (x.d == 3) = false := by simpa using e3
      have r4 : (x.d == 4) = false := by simpa using e4
      have r1 : (x.d == 1) = false := by simpa using e1
      have r5 : (x.d == 5) = false := by simpa using e5
      have r2 : (x.d == 2) = false := by simpa using e2
      have r11 : (x.d == 11) = false := by simpa using e11
      clear e3 e4 e1 e5 e2 e11 e12
      go_wp2
      have PZ2 := HP2.out.put (⟨⟨x.a, x.n⟩, ⟨x.b, x.n⟩, ⟨x.c, x.n⟩, ⟨x.a, x.n⟩⟩ : Tch)
      obtain ⟨⟨x0, x1, x2, x3, x4, x5, x6, x7⟩, _⟩ := blk8 PZ2
      refine bodyPost_ret (v := (⟨⟨x.a, x.n⟩, ⟨x.b, x.n⟩, ⟨x.c, x.n⟩, ⟨x.a, x.n⟩⟩ : Tch).v) (by simp [results, Tryz.results30, go_sem, x0, x1, x2, x3, x4, x5, x6, x7, Tch.v]) rfl ⟨by first | rfl | rw [hr], ?_⟩
      exact tb_below HB2.out (by omega) (⟨⟨x.a, x.n⟩, ⟨x.b, x.n⟩, ⟨x.c, x.n⟩, ⟨x.a, x.n⟩⟩ : Tch)
    by_cases e13 : x.d = 13
    · have hr : R = ⟨⟨x.a, 1⟩, ⟨x.b, x.n⟩, ⟨x.c, x.n⟩, ⟨x.a, 1⟩⟩ := by rw [HR.out]; unfold tchV; simp [e13]
      have q : (x.d == 13) = true := by simpa using e13
      have r3 : (x.d == 3) = false := by simpa using e3
      have r4 : (x.d == 4) = false := by simpa using e4
      have r1 : (x.d == 1) = false := by simpa using e1
      have r5 : (x.d == 5) = false := by simpa using e5
      have r2 : (x.d == 2) = false := by simpa using e2
      have r11 : (x.d == 11) = false := by simpa using e11
      have r12 : (x.d == 12) = false := by simpa using e12
      clear e3 e4 e1 e5 e2 e11 e12 e13
      obtain ⟨W2, hW2⟩ : ∃ W2, W2 = wc.alloc (.cells #[.int .i64 x.a, .int .i64 1] 65) := ⟨_, rfl⟩
      have hb2 : Below wc.heap.size wc W2 := by rw [hW2]; exact bl_new _
      have hn2 : SBlk W2 wc.heap.size x.a 1 := by rw [hW2]; exact World.alloc_heap_new _ _
      have HW2 := hide hW2
      have HP3 := hide (HP2.out.below hb2)
      have HB3 := hide (bl_on HB2.out hb2)
      have n0 := (hb2.cell (p := ⟨g4, 0, none⟩) zt).trans t0
      have n1 := (hb2.cell (p := ⟨g4, 1, none⟩) zt).trans t1
      have n2 := (hb2.cell (p := ⟨g5, 0, none⟩) zu).trans u0
      have n3 := (hb2.cell (p := ⟨g5, 1, none⟩) zu).trans u1
      have y4 := Nat.lt_of_lt_of_le zt hb2.size
      have y5 := Nat.lt_of_lt_of_le zu hb2.size
      obtain ⟨⟨m0, m1⟩, zm⟩ := hn2.cells
      clear hW2 hb2 hn2
      go_upto_region 16 with fail
      rw [← HW2.out]
      clear c0 c1 c2 c3 c4 c5 zc s0 s1 zs t0 t1 zt u0 u1 zu p0 p1 p2 p3 p4 p5 p6 p7 zp q0 q1 q2 q3 q4 q5 q6 q7
      obtain ⟨⟨p0, p1, p2, p3, p4, p5, p6, p7⟩, zp⟩ := blk8 HP3.out
      have q0 := HP3.out.free 0
      have q1 := HP3.out.free 1
      have q2 := HP3.out.free 2
      have q3 := HP3.out.free 3
      have q4 := HP3.out.free 4
      have q5 := HP3.out.free 5
      have q6 := HP3.out.free 6
      have q7 := HP3.out.free 7
      go_wp2
      have PZ2 := HP3.out.put (⟨⟨x.a, 1⟩, ⟨x.b, x.n⟩, ⟨x.c, x.n⟩, ⟨x.a, 1⟩⟩ : Tch)
      obtain ⟨⟨x0, x1, x2, x3, x4, x5, x6, x7⟩, _⟩ := blk8 PZ2
      refine bodyPost_ret (v := (⟨⟨x.a, 1⟩, ⟨x.b, x.n⟩, ⟨x.c, x.n⟩, ⟨x.a, 1⟩⟩ : Tch).v) (by simp [results, Tryz.results30, go_sem, x0, x1, x2, x3, x4, x5, x6, x7, Tch.v]) rfl ⟨by first | rfl | rw [hr], ?_⟩
      exact tb_below HB3.out (by omega) (⟨⟨x.a, 1⟩, ⟨x.b, x.n⟩, ⟨x.c, x.n⟩, ⟨x.a, 1⟩⟩ : Tch)
    by_cases e14 : x.d = 14
    · have hr : R = ⟨⟨x.a, x.n⟩, ⟨x.b, x.n⟩, zS, ⟨x.a, x.n⟩⟩ := by rw [HR.out]; unfold tchV; simp [e14]
      have q : (x.d == 14) = true := by simpa using e14
      have r3 : (x.d == 3) = false := by simpa using e3
      have r4 : (x.d == 4) = false := by simpa using e4
      have r1 : (x.d == 1) = false := by simpa using e1
      have r5 : (x.d == 5) = false := by simpa using e5
      have r2 : (x.d == 2) = false := by simpa using e2
      have r11 : (x.d == 11) = false := by simpa using e11
      have r12 : (x.d == 12) = false := by simpa using e12
      have r13 : (x.d == 13) = false := by simpa using e13
      clear e3 e4 e1 e5 e2 e11 e12 e13 e14
      go_wp2
      have PZ2 := HP2.out.put (⟨⟨x.a, x.n⟩, ⟨x.b, x.n⟩, zS, ⟨x.a, x.n⟩⟩ : Tch)
      obtain ⟨⟨x0, x1, x2, x3, x4, x5, x6, x7⟩, _⟩ := blk8 PZ2
      refine bodyPost_ret (v := (⟨⟨x.a, x.n⟩, ⟨x.b, x.n⟩, zS, ⟨x.a, x.n⟩⟩ : Tch).v) (by simp only [zS] at x0 x1 x2 x3 x4 x5 x6 x7; simp [results, Tryz.results30, go_sem, x0, x1, x2, x3, x4, x5, x6, x7, Tch.v, zS]) rfl ⟨by first | rfl | rw [hr], ?_⟩
      exact tb_below HB2.out (by omega) (⟨⟨x.a, x.n⟩, ⟨x.b, x.n⟩, zS, ⟨x.a, x.n⟩⟩ : Tch)
    have hr : R = ⟨⟨x.b, x.n⟩, ⟨x.c, x.n⟩, zS, ⟨x.a, x.n⟩⟩ := by rw [HR.out]; unfold tchV; simp [e3, e4, e1, e5, e2, e11, e12, e13, e14]
    have r3 : (x.d == 3) = false := by simpa using e3
    have r4 : (x.d == 4) = false := by simpa using e4
    have r1 : (x.d == 1) = false := by simpa using e1
    have r5 : (x.d == 5) = false := by simpa using e5
    have r2 : (x.d == 2) = false := by simpa using e2
    have r11 : (x.d == 11) = false := by simpa using e11
    have r12 : (x.d == 12) = false := by simpa using e12
    have r13 : (x.d == 13) = false := by simpa using e13
    have r14 : (x.d == 14) = false := by simpa using e14
    clear e3 e4 e1 e5 e2 e11 e12 e13 e14
    go_wp2
    have PZ2 := HP2.out.put (⟨⟨x.b, x.n⟩, ⟨x.c, x.n⟩, zS, ⟨x.a, x.n⟩⟩ : Tch)
    obtain ⟨⟨x0, x1, x2, x3, x4, x5, x6, x7⟩, _⟩ := blk8 PZ2
    refine bodyPost_ret (v := (⟨⟨x.b, x.n⟩, ⟨x.c, x.n⟩, zS, ⟨x.a, x.n⟩⟩ : Tch).v) (by simp only [zS] at x0 x1 x2 x3 x4 x5 x6 x7; simp [results, Tryz.results30, go_sem, x0, x1, x2, x3, x4, x5, x6, x7, Tch.v, zS]) rfl ⟨by first | rfl | rw [hr], ?_⟩
    exact tb_below HB2.out (by omega) (⟨⟨x.b, x.n⟩, ⟨x.c, x.n⟩, zS, ⟨x.a, x.n⟩⟩ : Tch)
end Go.Proofs.YtoabffmiedbkkaaGreat.V
