/-
  The document: what an instruction touches.
-/
import Derived.Test.YtoabffmiedbkkaaGreatRJ11
namespace Go.Proofs.YtoabffmiedbkkaaGreat.V
set_option maxRecDepth 20000
open Go Go.RowKit
set_option linter.unusedVariables false

def PBlk (W : World) (g : Nat) (f n : Int) : Prop := W.heap[g]? = some (.cells #[.int .i64 f, .int .i64 n] 42 (0, 0))
theorem PBlk.cells {W : World} {g : Nat} {f n : Int} (h : PBlk W g f n) : (W.cell? ⟨g, 0, none⟩ = some (.int .i64 f) ∧ W.cell? ⟨g, 1, none⟩ = some (.int .i64 n)) ∧ g < W.heap.size := by
  unfold PBlk at h
  refine ⟨⟨?_, ?_⟩, (Array.getElem?_eq_some_iff.1 h).1⟩ <;> simp [World.cell?, h]
def WBlk (W : World) (g : Nat) (t : Tch) : Prop := W.heap[g]? = some (.cells #[.int .i64 t.r0.f, .int .i64 t.r0.w, .int .i64 t.r1.f, .int .i64 t.r1.w, .int .i64 t.r2.f, .int .i64 t.r2.w, .int .i64 t.wr.f, .int .i64 t.wr.w] 76 (0, 0))
theorem WBlk.below {W V : World} {g : Nat} {t : Tch} (h : WBlk W g t) (hb : Below W.heap.size W V) : WBlk V g t := (hb.block g (Array.getElem?_eq_some_iff.1 h).1).trans h
theorem WBlk.free {W : World} {g : Nat} {t : Tch} (h : WBlk W g t) (i : Nat) : W.frozen? ⟨g, i, none⟩ = false := by
  unfold WBlk at h
  simp [World.frozen?, h]
theorem pthree_new (W : World) (f1 n1 f2 n2 f3 n3 : Int) : PBlk (((W.alloc (.cells #[.int .i64 f1, .int .i64 n1] 42)).alloc (.cells #[.int .i64 f2, .int .i64 n2] 42)).alloc (.cells #[.int .i64 f3, .int .i64 n3] 42)).drew W.heap.size f1 n1 ∧ PBlk (((W.alloc (.cells #[.int .i64 f1, .int .i64 n1] 42)).alloc (.cells #[.int .i64 f2, .int .i64 n2] 42)).alloc (.cells #[.int .i64 f3, .int .i64 n3] 42)).drew (W.heap.size + 1) f2 n2 ∧ PBlk (((W.alloc (.cells #[.int .i64 f1, .int .i64 n1] 42)).alloc (.cells #[.int .i64 f2, .int .i64 n2] 42)).alloc (.cells #[.int .i64 f3, .int .i64 n3] 42)).drew (W.heap.size + 1 + 1) f3 n3 ∧ Below W.heap.size W (((W.alloc (.cells #[.int .i64 f1, .int .i64 n1] 42)).alloc (.cells #[.int .i64 f2, .int .i64 n2] 42)).alloc (.cells #[.int .i64 f3, .int .i64 n3] 42)).drew := by
  have h1 := World.alloc_heap_new W (.cells #[.int .i64 f1, .int .i64 n1] 42)
  have h2 := World.alloc_heap_new (W.alloc (.cells #[.int .i64 f1, .int .i64 n1] 42)) (.cells #[.int .i64 f2, .int .i64 n2] 42)
  have h3 := World.alloc_heap_new ((W.alloc (.cells #[.int .i64 f1, .int .i64 n1] 42)).alloc (.cells #[.int .i64 f2, .int .i64 n2] 42)) (.cells #[.int .i64 f3, .int .i64 n3] 42)
  rw [World.size_alloc] at h2
  rw [World.size_alloc, World.size_alloc] at h3
  refine ⟨?_, ?_, h3, (bl_on (bl_on (bl_new _) (bl_new _)) (bl_new _)).drew⟩
  · exact (Below.heap_alloc _ _ _ (by simp; omega)).trans ((Below.heap_alloc _ _ _ (by simp)).trans h1)
  · exact (Below.heap_alloc _ _ _ (by simp)).trans h2
theorem WBlk.put {w : World} {g : Nat} {t0 : Tch} (h : WBlk w g t0) (t : Tch) : WBlk ((((((((w.setCell ⟨g, 0, none⟩ (.int .i64 t.r0.f)).setCell ⟨g, 1, none⟩ (.int .i64 t.r0.w)).setCell ⟨g, 2, none⟩ (.int .i64 t.r1.f)).setCell ⟨g, 3, none⟩ (.int .i64 t.r1.w)).setCell ⟨g, 4, none⟩ (.int .i64 t.r2.f)).setCell ⟨g, 5, none⟩ (.int .i64 t.r2.w)).setCell ⟨g, 6, none⟩ (.int .i64 t.wr.f)).setCell ⟨g, 7, none⟩ (.int .i64 t.wr.w)) g t := by
  unfold WBlk at h ⊢
  simp [World.setCell, Array.getElem?_modify, h]
theorem wb_below {n : Nat} {w0 w : World} {g : Nat} (hb : Below n w0 w) (hg : n ≤ g) (t : Tch) : Below n w0 ((((((((w.setCell ⟨g, 0, none⟩ (.int .i64 t.r0.f)).setCell ⟨g, 1, none⟩ (.int .i64 t.r0.w)).setCell ⟨g, 2, none⟩ (.int .i64 t.r1.f)).setCell ⟨g, 3, none⟩ (.int .i64 t.r1.w)).setCell ⟨g, 4, none⟩ (.int .i64 t.r2.f)).setCell ⟨g, 5, none⟩ (.int .i64 t.r2.w)).setCell ⟨g, 6, none⟩ (.int .i64 t.wr.f)).setCell ⟨g, 7, none⟩ (.int .i64 t.wr.w)) := by
  exact ((((((((hb.setCell (p := ⟨g, 0, none⟩) hg _).setCell (p := ⟨g, 1, none⟩) hg _).setCell (p := ⟨g, 2, none⟩) hg _).setCell (p := ⟨g, 3, none⟩) hg _).setCell (p := ⟨g, 4, none⟩) hg _).setCell (p := ⟨g, 5, none⟩) hg _).setCell (p := ⟨g, 6, none⟩) hg _).setCell (p := ⟨g, 7, none⟩) hg _)
set_option maxRecDepth 100000 in
set_option maxHeartbeats 4000000 in
theorem rTouched_any (x : In) (w : World) : Calls Tryz.prog 34 #[x.v6] w fun e w' => e = .returned (rTchV x).v ∧ Below w.heap.size w w' := by
  obtain ⟨W1, hW1⟩ : ∃ W, W = w.alloc (.cells #[.int .i64 x.d, .int .i64 x.a, .int .i64 x.b, .int .i64 x.c, .int .i64 x.n, .int .i64 x.v] 50) := ⟨_, rfl⟩
  obtain ⟨W2, hW2⟩ : ∃ W, W = W1.alloc (.cells #[.int .i64 0, .int .i64 0, .int .i64 0, .int .i64 0, .int .i64 0, .int .i64 0, .int .i64 0, .int .i64 0] 76) := ⟨_, rfl⟩
  obtain ⟨W, hW⟩ : ∃ W, W = W2.alloc (.cells #[.int .i64 0, .int .i64 0, .int .i64 0, .int .i64 0, .int .i64 0, .int .i64 0, .int .i64 0, .int .i64 0] 76) := ⟨_, rfl⟩
  have s1 : W1.heap.size = w.heap.size + 1 := by rw [hW1]; simp
  have s2 : W2.heap.size = w.heap.size + 2 := by rw [hW2]; simp [s1]
  have b1 : Below w.heap.size w W1 := by rw [hW1]; exact bl_new _
  have b2 : Below W1.heap.size W1 W2 := by rw [hW2]; exact bl_new _
  have b3 : Below W2.heap.size W2 W := by rw [hW]; exact bl_new _
  have hb : Below w.heap.size w W := bl_on (bl_on b1 b2) b3
  have hA : InBlk W w.heap.size x := by
    have : InBlk W1 w.heap.size x := by rw [hW1]; exact InBlk.new _ _
    exact (this.below b2).below b3
  have hP : WBlk W (w.heap.size + 1) ⟨zS, zS, zS, zS⟩ := by
    have : WBlk W2 (w.heap.size + 1) ⟨zS, zS, zS, zS⟩ := by rw [hW2, ← s1]; exact World.alloc_heap_new _ _
    exact this.below b3
  have hV : WBlk W (w.heap.size + 2) ⟨zS, zS, zS, zS⟩ := by rw [hW, ← s2]; exact World.alloc_heap_new _ _
  have hW3 : W = ((w.alloc (.cells #[.int .i64 x.d, .int .i64 x.a, .int .i64 x.b, .int .i64 x.c, .int .i64 x.n, .int .i64 x.v] 50)).alloc (.cells #[.int .i64 0, .int .i64 0, .int .i64 0, .int .i64 0, .int .i64 0, .int .i64 0, .int .i64 0, .int .i64 0] 76)).alloc (.cells #[.int .i64 0, .int .i64 0, .int .i64 0, .int .i64 0, .int .i64 0, .int .i64 0, .int .i64 0, .int .i64 0] 76) := by rw [hW, hW2, hW1]
  have HW := hide hW3
  have HB := hide hb
  have HA := hide hA
  have HP := hide hP
  have HV := hide hV
  obtain ⟨⟨c0, c1, c2, c3, c4, c5⟩, zc⟩ := hA.cells
  obtain ⟨R, hR⟩ : ∃ R, R = rTchV x := ⟨_, rfl⟩
  rw [← hR]
  have HR := hide hR
  clear hW hW1 hW2 hW3 s1 s2 b1 b2 b3 hb hA hP hV hR
  unfold In.v6
  go_enter Tryz.func34, Tryz.ntmps34
  go_upto_region 2 with fail
  rw [← HW.out]
  go_cut [4, 5, 6] (fun v3 v4 v5 wx => ∃ g3 g4 g5, v3 = .pointer (some ⟨g3, 0, none⟩) ∧ v4 = .pointer (some ⟨g4, 0, none⟩) ∧ v5 = .pointer (some ⟨g5, 0, none⟩) ∧ PBlk wx g3 x.a x.n ∧ PBlk wx g4 x.b x.n ∧ PBlk wx g5 x.c x.n ∧ Below W.heap.size W wx)
  case first =>
    go_region_held3 (fun w' => w'.cell? ⟨w.heap.size, 1, none⟩ = some (.int .i64 x.a) ∧ w'.cell? ⟨w.heap.size, 2, none⟩ = some (.int .i64 x.b) ∧ w'.cell? ⟨w.heap.size, 3, none⟩ = some (.int .i64 x.c) ∧ w'.cell? ⟨w.heap.size, 4, none⟩ = some (.int .i64 x.n)) (refine ⟨?_, ?_, ?_, ?_⟩ <;> with_reducible (repeat (first | assumption | apply drew_cell | apply alloc_cell))) ((fail))
    all_goals go_wp2
    all_goals go_meet
    all_goals refine ⟨_, _, _, rfl, rfl, rfl, ?_, ?_, ?_, ?_⟩
    all_goals first | exact (pthree_new _ _ _ _ _ _ _).1 | exact (pthree_new _ _ _ _ _ _ _).2.1 | exact (pthree_new _ _ _ _ _ _ _).2.2.1 | exact (pthree_new _ _ _ _ _ _ _).2.2.2
  case rest =>
    obtain ⟨g3, g4, g5, rfl, rfl, rfl, h3, h4, h5, hbx⟩ := hcut
    clear c0 c1 c2 c3 c4 c5 zc
    obtain ⟨⟨c0, c1, c2, c3, c4, c5⟩, zc⟩ := (HA.out.below hbx).cells
    obtain ⟨⟨s0, s1⟩, zs⟩ := h3.cells
    obtain ⟨⟨t0, t1⟩, zt⟩ := h4.cells
    obtain ⟨⟨u0, u1⟩, zu⟩ := h5.cells
    have HP2 := hide (HP.out.below hbx)
    have HV2 := hide (HV.out.below hbx)
    have HB2 := hide (bl_on HB.out hbx)
    have HG : Hid (W.heap.size ≤ wc.heap.size) := hbx.size
    obtain ⟨⟨p0, p1, p2, p3, p4, p5, p6, p7⟩, zp⟩ := blk8 HV2.out
    have q0 := HV2.out.free 0
    have q1 := HV2.out.free 1
    have q2 := HV2.out.free 2
    have q3 := HV2.out.free 3
    have q4 := HV2.out.free 4
    have q5 := HV2.out.free 5
    have q6 := HV2.out.free 6
    have q7 := HV2.out.free 7
    have n3 : g3 ≠ w.heap.size + 2 := fun e => by
      unfold PBlk at h3
      have := HV2.out
      unfold WBlk at this
      rw [← e, h3] at this
      simp only [Option.some.injEq, Obj.cells.injEq] at this
      exact absurd this.2.1 (by decide)
    have N3 := hide n3
    have H3 := hide h3
    have HA2 := hide (HA.out.below hbx)
    clear h3 h4 h5 hbx n3
    by_cases e1 : x.d = 1
    · have hr : R = ⟨zS, zS, zS, ⟨x.a, x.n⟩⟩ := by rw [HR.out]; unfold rTchV; simp [e1]
      have q : (x.d == 1) = true := by simpa using e1
      clear e1
      go_upto_region 26 with fail
      obtain ⟨W5, hW5⟩ : ∃ W5, W5 = ((wc.setCell ⟨w.heap.size + 2, 6, none⟩ (.int .i64 x.a)).setCell ⟨w.heap.size + 2, 7, none⟩ (.int .i64 x.n)) := ⟨_, rfl⟩
      rw [← hW5]
      have hV5 : WBlk W5 (w.heap.size + 2) (⟨zS, zS, zS, ⟨x.a, x.n⟩⟩ : Tch) := by
        have h := HV2.out
        rw [hW5]
        unfold WBlk at h ⊢
        simp [World.setCell, Array.getElem?_modify, h, zS]
      have hP5 : WBlk W5 (w.heap.size + 1) (⟨zS, zS, zS, zS⟩ : Tch) := by
        have h := HP2.out
        rw [hW5]
        unfold WBlk at h ⊢
        simp [World.setCell, Array.getElem?_modify, h]
      have hB5 : Below w.heap.size w W5 := by rw [hW5]; exact ((HB2.out.setCell (p := ⟨w.heap.size + 2, 6, none⟩) (by simp only; omega) _).setCell (p := ⟨w.heap.size + 2, 7, none⟩) (by simp only; omega) _)
      have HB5 := hide hB5
      have HP5 := hide hP5
      clear hB5 hW5 c0 c1 c2 c3 c4 c5 zc s0 s1 zs t0 t1 zt u0 u1 zu p0 p1 p2 p3 p4 p5 p6 p7 zp q0 q1 q2 q3 q4 q5 q6 q7
      obtain ⟨⟨v0, v1, v2, v3, v4, v5, v6, v7⟩, zv⟩ := blk8 hV5
      obtain ⟨⟨p0, p1, p2, p3, p4, p5, p6, p7⟩, zp⟩ := blk8 hP5
      simp only [zS] at v0 v1 v2 v3 v4 v5 v6 v7
      have q0 := hP5.free 0
      have q1 := hP5.free 1
      have q2 := hP5.free 2
      have q3 := hP5.free 3
      have q4 := hP5.free 4
      have q5 := hP5.free 5
      have q6 := hP5.free 6
      have q7 := hP5.free 7
      clear hV5 hP5
      go_wp2
      have PZ2 := HP5.out.put (⟨zS, zS, zS, ⟨x.a, x.n⟩⟩ : Tch)
      obtain ⟨⟨x0, x1, x2, x3, x4, x5, x6, x7⟩, _⟩ := blk8 PZ2
      refine bodyPost_ret (v := (⟨zS, zS, zS, ⟨x.a, x.n⟩⟩ : Tch).v) (by simp only [zS] at x0 x1 x2 x3 x4 x5 x6 x7; simp [results, Tryz.results34, go_sem, x0, x1, x2, x3, x4, x5, x6, x7, Tch.v, zS]) rfl ⟨by first | rfl | rw [hr], ?_⟩
      exact wb_below HB5.out (by omega) (⟨zS, zS, zS, ⟨x.a, x.n⟩⟩ : Tch)
    by_cases e5 : x.d = 5
    · have hr : R = ⟨zS, zS, zS, ⟨x.a, x.n⟩⟩ := by rw [HR.out]; unfold rTchV; simp [e5]
      have q : (x.d == 5) = true := by simpa using e5
      have r1 : (x.d == 1) = false := by simpa using e1
      clear e1 e5
      go_upto_region 26 with fail
      obtain ⟨W5, hW5⟩ : ∃ W5, W5 = ((wc.setCell ⟨w.heap.size + 2, 6, none⟩ (.int .i64 x.a)).setCell ⟨w.heap.size + 2, 7, none⟩ (.int .i64 x.n)) := ⟨_, rfl⟩
      rw [← hW5]
      have hV5 : WBlk W5 (w.heap.size + 2) (⟨zS, zS, zS, ⟨x.a, x.n⟩⟩ : Tch) := by
        have h := HV2.out
        rw [hW5]
        unfold WBlk at h ⊢
        simp [World.setCell, Array.getElem?_modify, h, zS]
      have hP5 : WBlk W5 (w.heap.size + 1) (⟨zS, zS, zS, zS⟩ : Tch) := by
        have h := HP2.out
        rw [hW5]
        unfold WBlk at h ⊢
        simp [World.setCell, Array.getElem?_modify, h]
      have hB5 : Below w.heap.size w W5 := by rw [hW5]; exact ((HB2.out.setCell (p := ⟨w.heap.size + 2, 6, none⟩) (by simp only; omega) _).setCell (p := ⟨w.heap.size + 2, 7, none⟩) (by simp only; omega) _)
      have HB5 := hide hB5
      have HP5 := hide hP5
      clear hB5 hW5 c0 c1 c2 c3 c4 c5 zc s0 s1 zs t0 t1 zt u0 u1 zu p0 p1 p2 p3 p4 p5 p6 p7 zp q0 q1 q2 q3 q4 q5 q6 q7
      obtain ⟨⟨v0, v1, v2, v3, v4, v5, v6, v7⟩, zv⟩ := blk8 hV5
      obtain ⟨⟨p0, p1, p2, p3, p4, p5, p6, p7⟩, zp⟩ := blk8 hP5
      simp only [zS] at v0 v1 v2 v3 v4 v5 v6 v7
      have q0 := hP5.free 0
      have q1 := hP5.free 1
      have q2 := hP5.free 2
      have q3 := hP5.free 3
      have q4 := hP5.free 4
      have q5 := hP5.free 5
      have q6 := hP5.free 6
      have q7 := hP5.free 7
      clear hV5 hP5
      go_wp2
      have PZ2 := HP5.out.put (⟨zS, zS, zS, ⟨x.a, x.n⟩⟩ : Tch)
      obtain ⟨⟨x0, x1, x2, x3, x4, x5, x6, x7⟩, _⟩ := blk8 PZ2
      refine bodyPost_ret (v := (⟨zS, zS, zS, ⟨x.a, x.n⟩⟩ : Tch).v) (by simp only [zS] at x0 x1 x2 x3 x4 x5 x6 x7; simp [results, Tryz.results34, go_sem, x0, x1, x2, x3, x4, x5, x6, x7, Tch.v, zS]) rfl ⟨by first | rfl | rw [hr], ?_⟩
      exact wb_below HB5.out (by omega) (⟨zS, zS, zS, ⟨x.a, x.n⟩⟩ : Tch)
    by_cases e2 : x.d = 2
    · have hr : R = ⟨⟨x.a, x.n⟩, zS, zS, zS⟩ := by rw [HR.out]; unfold rTchV; simp [e2]
      have q : (x.d == 2) = true := by simpa using e2
      have r1 : (x.d == 1) = false := by simpa using e1
      have r5 : (x.d == 5) = false := by simpa using e5
      clear e1 e5 e2
      go_upto_region 26 with fail
      obtain ⟨W5, hW5⟩ : ∃ W5, W5 = ((wc.setCell ⟨w.heap.size + 2, 0, none⟩ (.int .i64 x.a)).setCell ⟨w.heap.size + 2, 1, none⟩ (.int .i64 x.n)) := ⟨_, rfl⟩
      rw [← hW5]
      have hV5 : WBlk W5 (w.heap.size + 2) (⟨⟨x.a, x.n⟩, zS, zS, zS⟩ : Tch) := by
        have h := HV2.out
        rw [hW5]
        unfold WBlk at h ⊢
        simp [World.setCell, Array.getElem?_modify, h, zS]
      have hP5 : WBlk W5 (w.heap.size + 1) (⟨zS, zS, zS, zS⟩ : Tch) := by
        have h := HP2.out
        rw [hW5]
        unfold WBlk at h ⊢
        simp [World.setCell, Array.getElem?_modify, h]
      have hB5 : Below w.heap.size w W5 := by rw [hW5]; exact ((HB2.out.setCell (p := ⟨w.heap.size + 2, 0, none⟩) (by simp only; omega) _).setCell (p := ⟨w.heap.size + 2, 1, none⟩) (by simp only; omega) _)
      have HB5 := hide hB5
      have HP5 := hide hP5
      clear hB5 hW5 c0 c1 c2 c3 c4 c5 zc s0 s1 zs t0 t1 zt u0 u1 zu p0 p1 p2 p3 p4 p5 p6 p7 zp q0 q1 q2 q3 q4 q5 q6 q7
      obtain ⟨⟨v0, v1, v2, v3, v4, v5, v6, v7⟩, zv⟩ := blk8 hV5
      obtain ⟨⟨p0, p1, p2, p3, p4, p5, p6, p7⟩, zp⟩ := blk8 hP5
      simp only [zS] at v0 v1 v2 v3 v4 v5 v6 v7
      have q0 := hP5.free 0
      have q1 := hP5.free 1
      have q2 := hP5.free 2
      have q3 := hP5.free 3
      have q4 := hP5.free 4
      have q5 := hP5.free 5
      have q6 := hP5.free 6
      have q7 := hP5.free 7
      clear hV5 hP5
      go_wp2
      have PZ2 := HP5.out.put (⟨⟨x.a, x.n⟩, zS, zS, zS⟩ : Tch)
      obtain ⟨⟨x0, x1, x2, x3, x4, x5, x6, x7⟩, _⟩ := blk8 PZ2
      refine bodyPost_ret (v := (⟨⟨x.a, x.n⟩, zS, zS, zS⟩ : Tch).v) (by simp only [zS] at x0 x1 x2 x3 x4 x5 x6 x7; simp [results, Tryz.results34, go_sem, x0, x1, x2, x3, x4, x5, x6, x7, Tch.v, zS]) rfl ⟨by first | rfl | rw [hr], ?_⟩
      exact wb_below HB5.out (by omega) (⟨⟨x.a, x.n⟩, zS, zS, zS⟩ : Tch)
    by_cases e6 : x.d = 6
    · have hr : R = ⟨zS, ⟨x.b, x.n⟩, ⟨x.c, x.n⟩, ⟨x.a, x.n⟩⟩ := by rw [HR.out]; unfold rTchV; simp [e6]
      have q : (x.d == 6) = true := by simpa using e6
      have r1 : (x.d == 1) = false := by simpa using e1
      have r5 : (x.d == 5) = false := by simpa using e5
      have r2 : (x.d == 2) = false := by simpa using e2
      clear e1 e5 e2 e6
      go_upto_region 15 with fail
      obtain ⟨W4, hW4⟩ : ∃ W4, W4 = ((((((wc.setCell ⟨w.heap.size + 2, 0, none⟩ (.int .i64 0)).setCell ⟨w.heap.size + 2, 1, none⟩ (.int .i64 0)).setCell ⟨w.heap.size + 2, 2, none⟩ (.int .i64 x.b)).setCell ⟨w.heap.size + 2, 3, none⟩ (.int .i64 x.n)).setCell ⟨w.heap.size + 2, 4, none⟩ (.int .i64 x.c)).setCell ⟨w.heap.size + 2, 5, none⟩ (.int .i64 x.n)) := ⟨_, rfl⟩
      rw [← hW4]
      have oth : ∀ y, y ≠ w.heap.size + 2 → W4.heap[y]? = wc.heap[y]? := fun y hy => by rw [hW4]; simp [World.setCell, Array.getElem?_modify, hy.symm]
      have hV4 : WBlk W4 (w.heap.size + 2) (⟨zS, ⟨x.b, x.n⟩, ⟨x.c, x.n⟩, zS⟩ : Tch) := by
        have h := HV2.out
        rw [hW4]
        unfold WBlk at h ⊢
        simp [World.setCell, Array.getElem?_modify, h, zS]
      have HV4 := hide hV4
      have HP4 : Hid (WBlk W4 (w.heap.size + 1) (⟨zS, zS, zS, zS⟩ : Tch)) := (oth _ (by omega)).trans HP2.out
      have h3 : PBlk W4 g3 x.a x.n := (oth _ N3.out).trans H3.out
      have hA4 : InBlk W4 w.heap.size x := (oth _ (by omega)).trans HA2.out
      have hB4 : Below w.heap.size w W4 := by rw [hW4]; exact ((((((HB2.out.setCell (p := ⟨w.heap.size + 2, 0, none⟩) (by simp only; omega) _).setCell (p := ⟨w.heap.size + 2, 1, none⟩) (by simp only; omega) _).setCell (p := ⟨w.heap.size + 2, 2, none⟩) (by simp only; omega) _).setCell (p := ⟨w.heap.size + 2, 3, none⟩) (by simp only; omega) _).setCell (p := ⟨w.heap.size + 2, 4, none⟩) (by simp only; omega) _).setCell (p := ⟨w.heap.size + 2, 5, none⟩) (by simp only; omega) _)
      have HB4 := hide hB4
      clear oth hB4 hW4 c0 c1 c2 c3 c4 c5 zc s0 s1 zs t0 t1 zt u0 u1 zu p0 p1 p2 p3 p4 p5 p6 p7 zp q0 q1 q2 q3 q4 q5 q6 q7
      obtain ⟨⟨p0, p1, p2, p3, p4, p5, p6, p7⟩, zp⟩ := blk8 hV4
      have q6 := hV4.free 6
      have q7 := hV4.free 7
      obtain ⟨⟨s0, s1⟩, zs⟩ := h3.cells
      obtain ⟨⟨c0, c1, c2, c3, c4, c5⟩, zc⟩ := hA4.cells
      clear h3 hA4 hV4
      go_upto_region 26 with fail
      obtain ⟨W5, hW5⟩ : ∃ W5, W5 = ((W4.setCell ⟨w.heap.size + 2, 6, none⟩ (.int .i64 x.a)).setCell ⟨w.heap.size + 2, 7, none⟩ (.int .i64 x.n)) := ⟨_, rfl⟩
      rw [← hW5]
      have hV5 : WBlk W5 (w.heap.size + 2) (⟨zS, ⟨x.b, x.n⟩, ⟨x.c, x.n⟩, ⟨x.a, x.n⟩⟩ : Tch) := by
        have h := HV4.out
        rw [hW5]
        unfold WBlk at h ⊢
        simp [World.setCell, Array.getElem?_modify, h, zS]
      have hP5 : WBlk W5 (w.heap.size + 1) (⟨zS, zS, zS, zS⟩ : Tch) := by
        have h := HP4.out
        rw [hW5]
        unfold WBlk at h ⊢
        simp [World.setCell, Array.getElem?_modify, h]
      have hB5 : Below w.heap.size w W5 := by rw [hW5]; exact ((HB4.out.setCell (p := ⟨w.heap.size + 2, 6, none⟩) (by simp only; omega) _).setCell (p := ⟨w.heap.size + 2, 7, none⟩) (by simp only; omega) _)
      have HB5 := hide hB5
      have HP5 := hide hP5
      clear hB5 hW5 c0 c1 c2 c3 c4 c5 zc s0 s1 zs p0 p1 p2 p3 p4 p5 p6 p7 zp q6 q7
      obtain ⟨⟨v0, v1, v2, v3, v4, v5, v6, v7⟩, zv⟩ := blk8 hV5
      obtain ⟨⟨p0, p1, p2, p3, p4, p5, p6, p7⟩, zp⟩ := blk8 hP5
      simp only [zS] at v0 v1 v2 v3 v4 v5 v6 v7
      have q0 := hP5.free 0
      have q1 := hP5.free 1
      have q2 := hP5.free 2
      have q3 := hP5.free 3
      have q4 := hP5.free 4
      have q5 := hP5.free 5
      have q6 := hP5.free 6
      have q7 := hP5.free 7
      clear hV5 hP5
      go_wp2
      have PZ2 := HP5.out.put (⟨zS, ⟨x.b, x.n⟩, ⟨x.c, x.n⟩, ⟨x.a, x.n⟩⟩ : Tch)
      obtain ⟨⟨x0, x1, x2, x3, x4, x5, x6, x7⟩, _⟩ := blk8 PZ2
      refine bodyPost_ret (v := (⟨zS, ⟨x.b, x.n⟩, ⟨x.c, x.n⟩, ⟨x.a, x.n⟩⟩ : Tch).v) (by simp only [zS] at x0 x1 x2 x3 x4 x5 x6 x7; simp [results, Tryz.results34, go_sem, x0, x1, x2, x3, x4, x5, x6, x7, Tch.v, zS]) rfl ⟨by first | rfl | rw [hr], ?_⟩
      exact wb_below HB5.out (by omega) (⟨zS, ⟨x.b, x.n⟩, ⟨x.c, x.n⟩, ⟨x.a, x.n⟩⟩ : Tch)
    by_cases e7 : x.d = 7
    · have hr : R = ⟨zS, ⟨x.b, x.n⟩, ⟨x.c, x.n⟩, ⟨x.a, x.n⟩⟩ := by rw [HR.out]; unfold rTchV; simp [e7]
      have q : (x.d == 7) = true := by simpa using e7
      have r1 : (x.d == 1) = false := by simpa using e1
      have r5 : (x.d == 5) = false := by simpa using e5
      have r2 : (x.d == 2) = false := by simpa using e2
      have r6 : (x.d == 6) = false := by simpa using e6
      clear e1 e5 e2 e6 e7
      go_upto_region 15 with fail
      obtain ⟨W4, hW4⟩ : ∃ W4, W4 = ((((((wc.setCell ⟨w.heap.size + 2, 0, none⟩ (.int .i64 0)).setCell ⟨w.heap.size + 2, 1, none⟩ (.int .i64 0)).setCell ⟨w.heap.size + 2, 2, none⟩ (.int .i64 x.b)).setCell ⟨w.heap.size + 2, 3, none⟩ (.int .i64 x.n)).setCell ⟨w.heap.size + 2, 4, none⟩ (.int .i64 x.c)).setCell ⟨w.heap.size + 2, 5, none⟩ (.int .i64 x.n)) := ⟨_, rfl⟩
      rw [← hW4]
      have oth : ∀ y, y ≠ w.heap.size + 2 → W4.heap[y]? = wc.heap[y]? := fun y hy => by rw [hW4]; simp [World.setCell, Array.getElem?_modify, hy.symm]
      have hV4 : WBlk W4 (w.heap.size + 2) (⟨zS, ⟨x.b, x.n⟩, ⟨x.c, x.n⟩, zS⟩ : Tch) := by
        have h := HV2.out
        rw [hW4]
        unfold WBlk at h ⊢
        simp [World.setCell, Array.getElem?_modify, h, zS]
      have HV4 := hide hV4
      have HP4 : Hid (WBlk W4 (w.heap.size + 1) (⟨zS, zS, zS, zS⟩ : Tch)) := (oth _ (by omega)).trans HP2.out
      have h3 : PBlk W4 g3 x.a x.n := (oth _ N3.out).trans H3.out
      have hA4 : InBlk W4 w.heap.size x := (oth _ (by omega)).trans HA2.out
      have hB4 : Below w.heap.size w W4 := by rw [hW4]; exact ((((((HB2.out.setCell (p := ⟨w.heap.size + 2, 0, none⟩) (by simp only; omega) _).setCell (p := ⟨w.heap.size + 2, 1, none⟩) (by simp only; omega) _).setCell (p := ⟨w.heap.size + 2, 2, none⟩) (by simp only; omega) _).setCell (p := ⟨w.heap.size + 2, 3, none⟩) (by simp only; omega) _).setCell (p := ⟨w.heap.size + 2, 4, none⟩) (by simp only; omega) _).setCell (p := ⟨w.heap.size + 2, 5, none⟩) (by simp only; omega) _)
      have HB4 := hide hB4
      clear oth hB4 hW4 c0 c1 c2 c3 c4 c5 zc s0 s1 zs t0 t1 zt u0 u1 zu p0 p1 p2 p3 p4 p5 p6 p7 zp q0 q1 q2 q3 q4 q5 q6 q7
      obtain ⟨⟨p0, p1, p2, p3, p4, p5, p6, p7⟩, zp⟩ := blk8 hV4
      have q6 := hV4.free 6
      have q7 := hV4.free 7
      obtain ⟨⟨s0, s1⟩, zs⟩ := h3.cells
      obtain ⟨⟨c0, c1, c2, c3, c4, c5⟩, zc⟩ := hA4.cells
      clear h3 hA4 hV4
      go_upto_region 26 with fail
      obtain ⟨W5, hW5⟩ : ∃ W5, W5 = ((W4.setCell ⟨w.heap.size + 2, 6, none⟩ (.int .i64 x.a)).setCell ⟨w.heap.size + 2, 7, none⟩ (.int .i64 x.n)) := ⟨_, rfl⟩
      rw [← hW5]
      have hV5 : WBlk W5 (w.heap.size + 2) (⟨zS, ⟨x.b, x.n⟩, ⟨x.c, x.n⟩, ⟨x.a, x.n⟩⟩ : Tch) := by
        have h := HV4.out
        rw [hW5]
        unfold WBlk at h ⊢
        simp [World.setCell, Array.getElem?_modify, h, zS]
      have hP5 : WBlk W5 (w.heap.size + 1) (⟨zS, zS, zS, zS⟩ : Tch) := by
        have h := HP4.out
        rw [hW5]
        unfold WBlk at h ⊢
        simp [World.setCell, Array.getElem?_modify, h]
      have hB5 : Below w.heap.size w W5 := by rw [hW5]; exact ((HB4.out.setCell (p := ⟨w.heap.size + 2, 6, none⟩) (by simp only; omega) _).setCell (p := ⟨w.heap.size + 2, 7, none⟩) (by simp only; omega) _)
      have HB5 := hide hB5
      have HP5 := hide hP5
      clear hB5 hW5 c0 c1 c2 c3 c4 c5 zc s0 s1 zs p0 p1 p2 p3 p4 p5 p6 p7 zp q6 q7
      obtain ⟨⟨v0, v1, v2, v3, v4, v5, v6, v7⟩, zv⟩ := blk8 hV5
      obtain ⟨⟨p0, p1, p2, p3, p4, p5, p6, p7⟩, zp⟩ := blk8 hP5
      simp only [zS] at v0 v1 v2 v3 v4 v5 v6 v7
      have q0 := hP5.free 0
      have q1 := hP5.free 1
      have q2 := hP5.free 2
      have q3 := hP5.free 3
      have q4 := hP5.free 4
      have q5 := hP5.free 5
      have q6 := hP5.free 6
      have q7 := hP5.free 7
      clear hV5 hP5
      go_wp2
      have PZ2 := HP5.out.put (⟨zS, ⟨x.b, x.n⟩, ⟨x.c, x.n⟩, ⟨x.a, x.n⟩⟩ : Tch)
      obtain ⟨⟨x0, x1, x2, x3, x4, x5, x6, x7⟩, _⟩ := blk8 PZ2
      refine bodyPost_ret (v := (⟨zS, ⟨x.b, x.n⟩, ⟨x.c, x.n⟩, ⟨x.a, x.n⟩⟩ : Tch).v) (by simp only [zS] at x0 x1 x2 x3 x4 x5 x6 x7; simp [results, Tryz.results34, go_sem, x0, x1, x2, x3, x4, x5, x6, x7, Tch.v, zS]) rfl ⟨by first | rfl | rw [hr], ?_⟩
      exact wb_below HB5.out (by omega) (⟨zS, ⟨x.b, x.n⟩, ⟨x.c, x.n⟩, ⟨x.a, x.n⟩⟩ : Tch)
    by_cases e8 : x.d = 8
    · have hr : R = ⟨zS, ⟨x.b, x.n⟩, ⟨x.c, x.n⟩, ⟨x.a, x.n⟩⟩ := by rw [HR.out]; unfold rTchV; simp [e8]
      have q : (x.d == 8) = true := by simpa using e8
      have r1 : (x.d == 1) = false := by simpa using e1
      have r5 : (x.d == 5) = false := by simpa using e5
      have r2 : (x.d == 2) = false := by simpa using e2
      have r6 : (x.d == 6) = false := by simpa using e6
      have r7 : (x.d == 7) = false := by simpa using e7
      clear e1 e5 e2 e6 e7 e8
      go_upto_region 15 with fail
      obtain ⟨W4, hW4⟩ : ∃ W4, W4 = ((((((wc.setCell ⟨w.heap.size + 2, 0, none⟩ (.int .i64 0)).setCell ⟨w.heap.size + 2, 1, none⟩ (.int .i64 0)).setCell ⟨w.heap.size + 2, 2, none⟩ (.int .i64 x.b)).setCell ⟨w.heap.size + 2, 3, none⟩ (.int .i64 x.n)).setCell ⟨w.heap.size + 2, 4, none⟩ (.int .i64 x.c)).setCell ⟨w.heap.size + 2, 5, none⟩ (.int .i64 x.n)) := ⟨_, rfl⟩
      rw [← hW4]
      have oth : ∀ y, y ≠ w.heap.size + 2 → W4.heap[y]? = wc.heap[y]? := fun y hy => by rw [hW4]; simp [World.setCell, Array.getElem?_modify, hy.symm]
      have hV4 : WBlk W4 (w.heap.size + 2) (⟨zS, ⟨x.b, x.n⟩, ⟨x.c, x.n⟩, zS⟩ : Tch) := by
        have h := HV2.out
        rw [hW4]
        unfold WBlk at h ⊢
        simp [World.setCell, Array.getElem?_modify, h, zS]
      have HV4 := hide hV4
      have HP4 : Hid (WBlk W4 (w.heap.size + 1) (⟨zS, zS, zS, zS⟩ : Tch)) := (oth _ (by omega)).trans HP2.out
      have h3 : PBlk W4 g3 x.a x.n := (oth _ N3.out).trans H3.out
      have hA4 : InBlk W4 w.heap.size x := (oth _ (by omega)).trans HA2.out
      have hB4 : Below w.heap.size w W4 := by rw [hW4]; exact ((((((HB2.out.setCell (p := ⟨w.heap.size + 2, 0, none⟩) (by simp only; omega) _).setCell (p := ⟨w.heap.size + 2, 1, none⟩) (by simp only; omega) _).setCell (p := ⟨w.heap.size + 2, 2, none⟩) (by simp only; omega) _).setCell (p := ⟨w.heap.size + 2, 3, none⟩) (by simp only; omega) _).setCell (p := ⟨w.heap.size + 2, 4, none⟩) (by simp only; omega) _).setCell (p := ⟨w.heap.size + 2, 5, none⟩) (by simp only; omega) _)
      have HB4 := hide hB4
      clear oth hB4 hW4 c0 c1 c2 c3 c4 c5 zc s0 s1 zs t0 t1 zt u0 u1 zu p0 p1 p2 p3 p4 p5 p6 p7 zp q0 q1 q2 q3 q4 q5 q6 q7
      obtain ⟨⟨p0, p1, p2, p3, p4, p5, p6, p7⟩, zp⟩ := blk8 hV4
      have q6 := hV4.free 6
      have q7 := hV4.free 7
      obtain ⟨⟨s0, s1⟩, zs⟩ := h3.cells
      obtain ⟨⟨c0, c1, c2, c3, c4, c5⟩, zc⟩ := hA4.cells
      clear h3 hA4 hV4
      go_upto_region 26 with fail
      obtain ⟨W5, hW5⟩ : ∃ W5, W5 = ((W4.setCell ⟨w.heap.size + 2, 6, none⟩ (.int .i64 x.a)).setCell ⟨w.heap.size + 2, 7, none⟩ (.int .i64 x.n)) := ⟨_, rfl⟩
      rw [← hW5]
      have hV5 : WBlk W5 (w.heap.size + 2) (⟨zS, ⟨x.b, x.n⟩, ⟨x.c, x.n⟩, ⟨x.a, x.n⟩⟩ : Tch) := by
        have h := HV4.out
        rw [hW5]
        unfold WBlk at h ⊢
        simp [World.setCell, Array.getElem?_modify, h, zS]
      have hP5 : WBlk W5 (w.heap.size + 1) (⟨zS, zS, zS, zS⟩ : Tch) := by
        have h := HP4.out
        rw [hW5]
        unfold WBlk at h ⊢
        simp [World.setCell, Array.getElem?_modify, h]
      have hB5 : Below w.heap.size w W5 := by rw [hW5]; exact ((HB4.out.setCell (p := ⟨w.heap.size + 2, 6, none⟩) (by simp only; omega) _).setCell (p := ⟨w.heap.size + 2, 7, none⟩) (by simp only; omega) _)
      have HB5 := hide hB5
      have HP5 := hide hP5
      clear hB5 hW5 c0 c1 c2 c3 c4 c5 zc s0 s1 zs p0 p1 p2 p3 p4 p5 p6 p7 zp q6 q7
      obtain ⟨⟨v0, v1, v2, v3, v4, v5, v6, v7⟩, zv⟩ := blk8 hV5
      obtain ⟨⟨p0, p1, p2, p3, p4, p5, p6, p7⟩, zp⟩ := blk8 hP5
      simp only [zS] at v0 v1 v2 v3 v4 v5 v6 v7
      have q0 := hP5.free 0
      have q1 := hP5.free 1
      have q2 := hP5.free 2
      have q3 := hP5.free 3
      have q4 := hP5.free 4
      have q5 := hP5.free 5
      have q6 := hP5.free 6
      have q7 := hP5.free 7
      clear hV5 hP5
      go_wp2
      have PZ2 := HP5.out.put (⟨zS, ⟨x.b, x.n⟩, ⟨x.c, x.n⟩, ⟨x.a, x.n⟩⟩ : Tch)
      obtain ⟨⟨x0, x1, x2, x3, x4, x5, x6, x7⟩, _⟩ := blk8 PZ2
      refine bodyPost_ret (v := (⟨zS, ⟨x.b, x.n⟩, ⟨x.c, x.n⟩, ⟨x.a, x.n⟩⟩ : Tch).v) (by simp only [zS] at x0 x1 x2 x3 x4 x5 x6 x7; simp [results, Tryz.results34, go_sem, x0, x1, x2, x3, x4, x5, x6, x7, Tch.v, zS]) rfl ⟨by first | rfl | rw [hr], ?_⟩
      exact wb_below HB5.out (by omega) (⟨zS, ⟨x.b, x.n⟩, ⟨x.c, x.n⟩, ⟨x.a, x.n⟩⟩ : Tch)
    by_cases e9 : x.d = 9
    · have hr : R = ⟨zS, ⟨x.b, x.n⟩, ⟨x.c, x.n⟩, ⟨x.a, x.n⟩⟩ := by rw [HR.out]; unfold rTchV; simp [e9]
      have q : (x.d == 9) = true := by simpa using e9
      have r1 : (x.d == 1) = false := by simpa using e1
      have r5 : (x.d == 5) = false := by simpa using e5
      have r2 : (x.d == 2) = false := by simpa using e2
      have r6 : (x.d == 6) = false := by simpa using e6
      have r7 : (x.d == 7) = false := by simpa using e7
      have r8 : (x.d == 8) = false := by simpa using e8
      clear e1 e5 e2 e6 e7 e8 e9
      go_upto_region 15 with fail
      obtain ⟨W4, hW4⟩ : ∃ W4, W4 = ((((((wc.setCell ⟨w.heap.size + 2, 0, none⟩ (.int .i64 0)).setCell ⟨w.heap.size + 2, 1, none⟩ (.int .i64 0)).setCell ⟨w.heap.size + 2, 2, none⟩ (.int .i64 x.b)).setCell ⟨w.heap.size + 2, 3, none⟩ (.int .i64 x.n)).setCell ⟨w.heap.size + 2, 4, none⟩ (.int .i64 x.c)).setCell ⟨w.heap.size + 2, 5, none⟩ (.int .i64 x.n)) := ⟨_, rfl⟩
      rw [← hW4]
      have oth : ∀ y, y ≠ w.heap.size + 2 → W4.heap[y]? = wc.heap[y]? := fun y hy => by rw [hW4]; simp [World.setCell, Array.getElem?_modify, hy.symm]
      have hV4 : WBlk W4 (w.heap.size + 2) (⟨zS, ⟨x.b, x.n⟩, ⟨x.c, x.n⟩, zS⟩ : Tch) := by
        have h := HV2.out
        rw [hW4]
        unfold WBlk at h ⊢
        simp [World.setCell, Array.getElem?_modify, h, zS]
      have HV4 := hide hV4
      have HP4 : Hid (WBlk W4 (w.heap.size + 1) (⟨zS, zS, zS, zS⟩ : Tch)) := (oth _ (by omega)).trans HP2.out
      have h3 : PBlk W4 g3 x.a x.n := (oth _ N3.out).trans H3.out
      have hA4 : InBlk W4 w.heap.size x := (oth _ (by omega)).trans HA2.out
      have hB4 : Below w.heap.size w W4 := by rw [hW4]; exact ((((((HB2.out.setCell (p := ⟨w.heap.size + 2, 0, none⟩) (by simp only; omega) _).setCell (p := ⟨w.heap.size + 2, 1, none⟩) (by simp only; omega) _).setCell (p := ⟨w.heap.size + 2, 2, none⟩) (by simp only; omega) _).setCell (p := ⟨w.heap.size + 2, 3, none⟩) (by simp only; omega) _).setCell (p := ⟨w.heap.size + 2, 4, none⟩) (by simp only; omega) _).setCell (p := ⟨w.heap.size + 2, 5, none⟩) (by simp only; omega) _)
      have HB4 := hide hB4
      clear oth hB4 hW4 c0 c1 c2 c3 c4 c5 zc s0 s1 zs t0 t1 zt u0 u1 zu p0 p1 p2 p3 p4 p5 p6 p7 zp q0 q1 q2 q3 q4 q5 q6 q7
      obtain ⟨⟨p0, p1, p2, p3, p4, p5, p6, p7⟩, zp⟩ := blk8 hV4
      have q6 := hV4.free 6
      have q7 := hV4.free 7
      obtain ⟨⟨s0, s1⟩, zs⟩ := h3.cells
      obtain ⟨⟨c0, c1, c2, c3, c4, c5⟩, zc⟩ := hA4.cells
      clear h3 hA4 hV4
      go_upto_region 26 with fail
      obtain ⟨W5, hW5⟩ : ∃ W5, W5 = ((W4.setCell ⟨w.heap.size + 2, 6, none⟩ (.int .i64 x.a)).setCell ⟨w.heap.size + 2, 7, none⟩ (.int .i64 x.n)) := ⟨_, rfl⟩
      rw [← hW5]
      have hV5 : WBlk W5 (w.heap.size + 2) (⟨zS, ⟨x.b, x.n⟩, ⟨x.c, x.n⟩, ⟨x.a, x.n⟩⟩ : Tch) := by
        have h := HV4.out
        rw [hW5]
        unfold WBlk at h ⊢
        simp [World.setCell, Array.getElem?_modify, h, zS]
      have hP5 : WBlk W5 (w.heap.size + 1) (⟨zS, zS, zS, zS⟩ : Tch) := by
        have h := HP4.out
        rw [hW5]
        unfold WBlk at h ⊢
        simp [World.setCell, Array.getElem?_modify, h]
      have hB5 : Below w.heap.size w W5 := by rw [hW5]; exact ((HB4.out.setCell (p := ⟨w.heap.size + 2, 6, none⟩) (by simp only; omega) _).setCell (p := ⟨w.heap.size + 2, 7, none⟩) (by simp only; omega) _)
      have HB5 := hide hB5
      have HP5 := hide hP5
      clear hB5 hW5 c0 c1 c2 c3 c4 c5 zc s0 s1 zs p0 p1 p2 p3 p4 p5 p6 p7 zp q6 q7
      obtain ⟨⟨v0, v1, v2, v3, v4, v5, v6, v7⟩, zv⟩ := blk8 hV5
      obtain ⟨⟨p0, p1, p2, p3, p4, p5, p6, p7⟩, zp⟩ := blk8 hP5
      simp only [zS] at v0 v1 v2 v3 v4 v5 v6 v7
      have q0 := hP5.free 0
      have q1 := hP5.free 1
      have q2 := hP5.free 2
      have q3 := hP5.free 3
      have q4 := hP5.free 4
      have q5 := hP5.free 5
      have q6 := hP5.free 6
      have q7 := hP5.free 7
      clear hV5 hP5
      go_wp2
      have PZ2 := HP5.out.put (⟨zS, ⟨x.b, x.n⟩, ⟨x.c, x.n⟩, ⟨x.a, x.n⟩⟩ : Tch)
      obtain ⟨⟨x0, x1, x2, x3, x4, x5, x6, x7⟩, _⟩ := blk8 PZ2
      refine bodyPost_ret (v := (⟨zS, ⟨x.b, x.n⟩, ⟨x.c, x.n⟩, ⟨x.a, x.n⟩⟩ : Tch).v) (by simp only [zS] at x0 x1 x2 x3 x4 x5 x6 x7; simp [results, Tryz.results34, go_sem, x0, x1, x2, x3, x4, x5, x6, x7, Tch.v, zS]) rfl ⟨by first | rfl | rw [hr], ?_⟩
      exact wb_below HB5.out (by omega) (⟨zS, ⟨x.b, x.n⟩, ⟨x.c, x.n⟩, ⟨x.a, x.n⟩⟩ : Tch)
    by_cases e10 : x.d = 10
    · have hr : R = ⟨zS, ⟨x.b, x.n⟩, ⟨x.c, x.n⟩, ⟨x.a, x.n⟩⟩ := by rw [HR.out]; unfold rTchV; simp [e10]
      have q : (x.d == 10) = true := by simpa using e10
      have r1 : (x.d == 1) = false := by simpa using e1
      have r5 : (x.d == 5) = false := by simpa using e5
      have r2 : (x.d == 2) = false := by simpa using e2
      have r6 : (x.d == 6) = false := by simpa using e6
      have r7 : (x.d == 7) = false := by simpa using e7
      have r8 : (x.d == 8) = false := by simpa using e8
      have r9 : (x.d == 9) = false := by simpa using e9
      clear e1 e5 e2 e6 e7 e8 e9 e10
      go_upto_region 15 with fail
      obtain ⟨W4, hW4⟩ : ∃ W4, W4 = ((((((wc.setCell ⟨w.heap.size + 2, 0, none⟩ (.int .i64 0)).setCell ⟨w.heap.size + 2, 1, none⟩ (.int .i64 0)).setCell ⟨w.heap.size + 2, 2, none⟩ (.int .i64 x.b)).setCell ⟨w.heap.size + 2, 3, none⟩ (.int .i64 x.n)).setCell ⟨w.heap.size + 2, 4, none⟩ (.int .i64 x.c)).setCell ⟨w.heap.size + 2, 5, none⟩ (.int .i64 x.n)) := ⟨_, rfl⟩
      rw [← hW4]
      have oth : ∀ y, y ≠ w.heap.size + 2 → W4.heap[y]? = wc.heap[y]? := fun y hy => by rw [hW4]; simp [World.setCell, Array.getElem?_modify, hy.symm]
      have hV4 : WBlk W4 (w.heap.size + 2) (⟨zS, ⟨x.b, x.n⟩, ⟨x.c, x.n⟩, zS⟩ : Tch) := by
        have h := HV2.out
        rw [hW4]
        unfold WBlk at h ⊢
        simp [World.setCell, Array.getElem?_modify, h, zS]
      have HV4 := hide hV4
      have HP4 : Hid (WBlk W4 (w.heap.size + 1) (⟨zS, zS, zS, zS⟩ : Tch)) := (oth _ (by omega)).trans HP2.out
      have h3 : PBlk W4 g3 x.a x.n := (oth _ N3.out).trans H3.out
      have hA4 : InBlk W4 w.heap.size x := (oth _ (by omega)).trans HA2.out
      have hB4 : Below w.heap.size w W4 := by rw [hW4]; exact ((((((HB2.out.setCell (p := ⟨w.heap.size + 2, 0, none⟩) (by simp only; omega) _).setCell (p := ⟨w.heap.size + 2, 1, none⟩) (by simp only; omega) _).setCell (p := ⟨w.heap.size + 2, 2, none⟩) (by simp only; omega) _).setCell (p := ⟨w.heap.size + 2, 3, none⟩) (by simp only; omega) _).setCell (p := ⟨w.heap.size + 2, 4, none⟩) (by simp only; omega) _).setCell (p := ⟨w.heap.size + 2, 5, none⟩) (by simp only; omega) _)
      have HB4 := hide hB4
      clear oth hB4 hW4 c0 c1 c2 c3 c4 c5 zc s0 s1 zs t0 t1 zt u0 u1 zu p0 p1 p2 p3 p4 p5 p6 p7 zp q0 q1 q2 q3 q4 q5 q6 q7
      obtain ⟨⟨p0, p1, p2, p3, p4, p5, p6, p7⟩, zp⟩ := blk8 hV4
      have q6 := hV4.free 6
      have q7 := hV4.free 7
      obtain ⟨⟨s0, s1⟩, zs⟩ := h3.cells
      obtain ⟨⟨c0, c1, c2, c3, c4, c5⟩, zc⟩ := hA4.cells
      clear h3 hA4 hV4
      go_upto_region 26 with fail
      obtain ⟨W5, hW5⟩ : ∃ W5, W5 = ((W4.setCell ⟨w.heap.size + 2, 6, none⟩ (.int .i64 x.a)).setCell ⟨w.heap.size + 2, 7, none⟩ (.int .i64 x.n)) := ⟨_, rfl⟩
      rw [← hW5]
      have hV5 : WBlk W5 (w.heap.size + 2) (⟨zS, ⟨x.b, x.n⟩, ⟨x.c, x.n⟩, ⟨x.a, x.n⟩⟩ : Tch) := by
        have h := HV4.out
        rw [hW5]
        unfold WBlk at h ⊢
        simp [World.setCell, Array.getElem?_modify, h, zS]
      have hP5 : WBlk W5 (w.heap.size + 1) (⟨zS, zS, zS, zS⟩ : Tch) := by
        have h := HP4.out
        rw [hW5]
        unfold WBlk at h ⊢
        simp [World.setCell, Array.getElem?_modify, h]
      have hB5 : Below w.heap.size w W5 := by rw [hW5]; exact ((HB4.out.setCell (p := ⟨w.heap.size + 2, 6, none⟩) (by simp only; omega) _).setCell (p := ⟨w.heap.size + 2, 7, none⟩) (by simp only; omega) _)
      have HB5 := hide hB5
      have HP5 := hide hP5
      clear hB5 hW5 c0 c1 c2 c3 c4 c5 zc s0 s1 zs p0 p1 p2 p3 p4 p5 p6 p7 zp q6 q7
      obtain ⟨⟨v0, v1, v2, v3, v4, v5, v6, v7⟩, zv⟩ := blk8 hV5
      obtain ⟨⟨p0, p1, p2, p3, p4, p5, p6, p7⟩, zp⟩ := blk8 hP5
      simp only [zS] at v0 v1 v2 v3 v4 v5 v6 v7
      have q0 := hP5.free 0
      have q1 := hP5.free 1
      have q2 := hP5.free 2
      have q3 := hP5.free 3
      have q4 := hP5.free 4
      have q5 := hP5.free 5
      have q6 := hP5.free 6
      have q7 := hP5.free 7
      clear hV5 hP5
      go_wp2
      have PZ2 := HP5.out.put (⟨zS, ⟨x.b, x.n⟩, ⟨x.c, x.n⟩, ⟨x.a, x.n⟩⟩ : Tch)
      obtain ⟨⟨x0, x1, x2, x3, x4, x5, x6, x7⟩, _⟩ := blk8 PZ2
      refine bodyPost_ret (v := (⟨zS, ⟨x.b, x.n⟩, ⟨x.c, x.n⟩, ⟨x.a, x.n⟩⟩ : Tch).v) (by simp only [zS] at x0 x1 x2 x3 x4 x5 x6 x7; simp [results, Tryz.results34, go_sem, x0, x1, x2, x3, x4, x5, x6, x7, Tch.v, zS]) rfl ⟨by first | rfl | rw [hr], ?_⟩
      exact wb_below HB5.out (by omega) (⟨zS, ⟨x.b, x.n⟩, ⟨x.c, x.n⟩, ⟨x.a, x.n⟩⟩ : Tch)
    by_cases e11 : x.d = 11
    · have hr : R = ⟨⟨x.a, x.n⟩, ⟨x.b, x.n⟩, ⟨x.c, x.n⟩, ⟨x.a, x.n⟩⟩ := by rw [HR.out]; unfold rTchV; simp [e11]
      have q : (x.d == 11) = true := by simpa using e11
      have r1 : (x.d == 1) = false := by simpa using e1
      have r5 : (x.d == 5) = false := by simpa using e5
      have r2 : (x.d == 2) = false := by simpa using e2
      have r6 : (x.d == 6) = false := by simpa using e6
      have r7 : (x.d == 7) = false := by simpa using e7
      have r8 : (x.d == 8) = false := by simpa using e8
      have r9 : (x.d == 9) = false := by simpa using e9
      have r10 : (x.d == 10) = false := by simpa using e10
      clear e1 e5 e2 e6 e7 e8 e9 e10 e11
      go_upto_region 19 with fail
      obtain ⟨W4, hW4⟩ : ∃ W4, W4 = ((((((wc.setCell ⟨w.heap.size + 2, 0, none⟩ (.int .i64 x.a)).setCell ⟨w.heap.size + 2, 1, none⟩ (.int .i64 x.n)).setCell ⟨w.heap.size + 2, 2, none⟩ (.int .i64 x.b)).setCell ⟨w.heap.size + 2, 3, none⟩ (.int .i64 x.n)).setCell ⟨w.heap.size + 2, 4, none⟩ (.int .i64 x.c)).setCell ⟨w.heap.size + 2, 5, none⟩ (.int .i64 x.n)) := ⟨_, rfl⟩
      rw [← hW4]
      have oth : ∀ y, y ≠ w.heap.size + 2 → W4.heap[y]? = wc.heap[y]? := fun y hy => by rw [hW4]; simp [World.setCell, Array.getElem?_modify, hy.symm]
      have hV4 : WBlk W4 (w.heap.size + 2) (⟨⟨x.a, x.n⟩, ⟨x.b, x.n⟩, ⟨x.c, x.n⟩, zS⟩ : Tch) := by
        have h := HV2.out
        rw [hW4]
        unfold WBlk at h ⊢
        simp [World.setCell, Array.getElem?_modify, h, zS]
      have HV4 := hide hV4
      have HP4 : Hid (WBlk W4 (w.heap.size + 1) (⟨zS, zS, zS, zS⟩ : Tch)) := (oth _ (by omega)).trans HP2.out
      have h3 : PBlk W4 g3 x.a x.n := (oth _ N3.out).trans H3.out
      have hA4 : InBlk W4 w.heap.size x := (oth _ (by omega)).trans HA2.out
      have hB4 : Below w.heap.size w W4 := by rw [hW4]; exact ((((((HB2.out.setCell (p := ⟨w.heap.size + 2, 0, none⟩) (by simp only; omega) _).setCell (p := ⟨w.heap.size + 2, 1, none⟩) (by simp only; omega) _).setCell (p := ⟨w.heap.size + 2, 2, none⟩) (by simp only; omega) _).setCell (p := ⟨w.heap.size + 2, 3, none⟩) (by simp only; omega) _).setCell (p := ⟨w.heap.size + 2, 4, none⟩) (by simp only; omega) _).setCell (p := ⟨w.heap.size + 2, 5, none⟩) (by simp only; omega) _)
      have HB4 := hide hB4
      clear oth hB4 hW4 c0 c1 c2 c3 c4 c5 zc s0 s1 zs t0 t1 zt u0 u1 zu p0 p1 p2 p3 p4 p5 p6 p7 zp q0 q1 q2 q3 q4 q5 q6 q7
      obtain ⟨⟨p0, p1, p2, p3, p4, p5, p6, p7⟩, zp⟩ := blk8 hV4
      have q6 := hV4.free 6
      have q7 := hV4.free 7
      obtain ⟨⟨s0, s1⟩, zs⟩ := h3.cells
      obtain ⟨⟨c0, c1, c2, c3, c4, c5⟩, zc⟩ := hA4.cells
      clear h3 hA4 hV4
      go_upto_region 26 with fail
      obtain ⟨W5, hW5⟩ : ∃ W5, W5 = ((W4.setCell ⟨w.heap.size + 2, 6, none⟩ (.int .i64 x.a)).setCell ⟨w.heap.size + 2, 7, none⟩ (.int .i64 x.n)) := ⟨_, rfl⟩
      rw [← hW5]
      have hV5 : WBlk W5 (w.heap.size + 2) (⟨⟨x.a, x.n⟩, ⟨x.b, x.n⟩, ⟨x.c, x.n⟩, ⟨x.a, x.n⟩⟩ : Tch) := by
        have h := HV4.out
        rw [hW5]
        unfold WBlk at h ⊢
        simp [World.setCell, Array.getElem?_modify, h, zS]
      have hP5 : WBlk W5 (w.heap.size + 1) (⟨zS, zS, zS, zS⟩ : Tch) := by
        have h := HP4.out
        rw [hW5]
        unfold WBlk at h ⊢
        simp [World.setCell, Array.getElem?_modify, h]
      have hB5 : Below w.heap.size w W5 := by rw [hW5]; exact ((HB4.out.setCell (p := ⟨w.heap.size + 2, 6, none⟩) (by simp only; omega) _).setCell (p := ⟨w.heap.size + 2, 7, none⟩) (by simp only; omega) _)
      have HB5 := hide hB5
      have HP5 := hide hP5
      clear hB5 hW5 c0 c1 c2 c3 c4 c5 zc s0 s1 zs p0 p1 p2 p3 p4 p5 p6 p7 zp q6 q7
      obtain ⟨⟨v0, v1, v2, v3, v4, v5, v6, v7⟩, zv⟩ := blk8 hV5
      obtain ⟨⟨p0, p1, p2, p3, p4, p5, p6, p7⟩, zp⟩ := blk8 hP5
      have q0 := hP5.free 0
      have q1 := hP5.free 1
      have q2 := hP5.free 2
      have q3 := hP5.free 3
      have q4 := hP5.free 4
      have q5 := hP5.free 5
      have q6 := hP5.free 6
      have q7 := hP5.free 7
      clear hV5 hP5
      go_wp2
      have PZ2 := HP5.out.put (⟨⟨x.a, x.n⟩, ⟨x.b, x.n⟩, ⟨x.c, x.n⟩, ⟨x.a, x.n⟩⟩ : Tch)
      obtain ⟨⟨x0, x1, x2, x3, x4, x5, x6, x7⟩, _⟩ := blk8 PZ2
      refine bodyPost_ret (v := (⟨⟨x.a, x.n⟩, ⟨x.b, x.n⟩, ⟨x.c, x.n⟩, ⟨x.a, x.n⟩⟩ : Tch).v) (by simp [results, Tryz.results34, go_sem, x0, x1, x2, x3, x4, x5, x6, x7, Tch.v]) rfl ⟨by first | rfl | rw [hr], ?_⟩
      exact wb_below HB5.out (by omega) (⟨⟨x.a, x.n⟩, ⟨x.b, x.n⟩, ⟨x.c, x.n⟩, ⟨x.a, x.n⟩⟩ : Tch)
    by_cases e12 : x.d = 12
    · have hr : R = ⟨⟨x.a, x.n⟩, ⟨x.b, x.n⟩, ⟨x.c, x.n⟩, ⟨x.a, x.n⟩⟩ := by rw [HR.out]; unfold rTchV; simp [e12]
      have q : (x.d == 12) = true := by simpa using e12
      have r1 : (x.d == 1) = false := by simpa using e1
      have r5 : (x.d == 5) = false := by simpa using e5
      have r2 : (x.d == 2) = false := by simpa using e2
      have r6 : (x.d == 6) = false := by simpa using e6
      have r7 : (x.d == 7) = false := by simpa using e7
      have r8 : (x.d == 8) = false := by simpa using e8
      have r9 : (x.d == 9) = false := by simpa using e9
      have r10 : (x.d == 10) = false := by simpa using e10
      have r11 : (x.d == 11) = false := by simpa using e11
      clear e1 e5 e2 e6 e7 e8 e9 e10 e11 e12
      go_upto_region 19 with fail
      obtain ⟨W4, hW4⟩ : ∃ W4, W4 = ((((((wc.setCell ⟨w.heap.size + 2, 0, none⟩ (.int .i64 x.a)).setCell ⟨w.heap.size + 2, 1, none⟩ (.int .i64 x.n)).setCell ⟨w.heap.size + 2, 2, none⟩ (.int .i64 x.b)).setCell ⟨w.heap.size + 2, 3, none⟩ (.int .i64 x.n)).setCell ⟨w.heap.size + 2, 4, none⟩ (.int .i64 x.c)).setCell ⟨w.heap.size + 2, 5, none⟩ (.int .i64 x.n)) := ⟨_, rfl⟩
      rw [← hW4]
      have oth : ∀ y, y ≠ w.heap.size + 2 → W4.heap[y]? = wc.heap[y]? := fun y hy => by rw [hW4]; simp [World.setCell, Array.getElem?_modify, hy.symm]
      have hV4 : WBlk W4 (w.heap.size + 2) (⟨⟨x.a, x.n⟩, ⟨x.b, x.n⟩, ⟨x.c, x.n⟩, zS⟩ : Tch) := by
        have h := HV2.out
        rw [hW4]
        unfold WBlk at h ⊢
        simp [World.setCell, Array.getElem?_modify, h, zS]
      have HV4 := hide hV4
      have HP4 : Hid (WBlk W4 (w.heap.size + 1) (⟨zS, zS, zS, zS⟩ : Tch)) := (oth _ (by omega)).trans HP2.out
      have h3 : PBlk W4 g3 x.a x.n := (oth _ N3.out).trans H3.out
      have hA4 : InBlk W4 w.heap.size x := (oth _ (by omega)).trans HA2.out
      have hB4 : Below w.heap.size w W4 := by rw [hW4]; exact ((((((HB2.out.setCell (p := ⟨w.heap.size + 2, 0, none⟩) (by simp only; omega) _).setCell (p := ⟨w.heap.size + 2, 1, none⟩) (by simp only; omega) _).setCell (p := ⟨w.heap.size + 2, 2, none⟩) (by simp only; omega) _).setCell (p := ⟨w.heap.size + 2, 3, none⟩) (by simp only; omega) _).setCell (p := ⟨w.heap.size + 2, 4, none⟩) (by simp only; omega) _).setCell (p := ⟨w.heap.size + 2, 5, none⟩) (by simp only; omega) _)
      have HB4 := hide hB4
      clear oth hB4 hW4 c0 c1 c2 c3 c4 c5 zc s0 s1 zs t0 t1 zt u0 u1 zu p0 p1 p2 p3 p4 p5 p6 p7 zp q0 q1 q2 q3 q4 q5 q6 q7
      obtain ⟨⟨p0, p1, p2, p3, p4, p5, p6, p7⟩, zp⟩ := blk8 hV4
      have q6 := hV4.free 6
      have q7 := hV4.free 7
      obtain ⟨⟨s0, s1⟩, zs⟩ := h3.cells
      obtain ⟨⟨c0, c1, c2, c3, c4, c5⟩, zc⟩ := hA4.cells
      clear h3 hA4 hV4
      go_upto_region 26 with fail
      obtain ⟨W5, hW5⟩ : ∃ W5, W5 = ((W4.setCell ⟨w.heap.size + 2, 6, none⟩ (.int .i64 x.a)).setCell ⟨w.heap.size + 2, 7, none⟩ (.int .i64 x.n)) := ⟨_, rfl⟩
      rw [← hW5]
      have hV5 : WBlk W5 (w.heap.size + 2) (⟨⟨x.a, x.n⟩, ⟨x.b, x.n⟩, ⟨x.c, x.n⟩, ⟨x.a, x.n⟩⟩ : Tch) := by
        have h := HV4.out
        rw [hW5]
        unfold WBlk at h ⊢
        simp [World.setCell, Array.getElem?_modify, h, zS]
      have hP5 : WBlk W5 (w.heap.size + 1) (⟨zS, zS, zS, zS⟩ : Tch) := by
        have h := HP4.out
        rw [hW5]
        unfold WBlk at h ⊢
        simp [World.setCell, Array.getElem?_modify, h]
      have hB5 : Below w.heap.size w W5 := by rw [hW5]; exact ((HB4.out.setCell (p := ⟨w.heap.size + 2, 6, none⟩) (by simp only; omega) _).setCell (p := ⟨w.heap.size + 2, 7, none⟩) (by simp only; omega) _)
      have HB5 := hide hB5
      have HP5 := hide hP5
      clear hB5 hW5 c0 c1 c2 c3 c4 c5 zc s0 s1 zs p0 p1 p2 p3 p4 p5 p6 p7 zp q6 q7
      obtain ⟨⟨v0, v1, v2, v3, v4, v5, v6, v7⟩, zv⟩ := blk8 hV5
      obtain ⟨⟨p0, p1, p2, p3, p4, p5, p6, p7⟩, zp⟩ := blk8 hP5
      have q0 := hP5.free 0
      have q1 := hP5.free 1
      have q2 := hP5.free 2
      have q3 := hP5.free 3
      have q4 := hP5.free 4
      have q5 := hP5.free 5
      have q6 := hP5.free 6
      have q7 := hP5.free 7
      clear hV5 hP5
      go_wp2
      have PZ2 := HP5.out.put (⟨⟨x.a, x.n⟩, ⟨x.b, x.n⟩, ⟨x.c, x.n⟩, ⟨x.a, x.n⟩⟩ : Tch)
      obtain ⟨⟨x0, x1, x2, x3, x4, x5, x6, x7⟩, _⟩ := blk8 PZ2
      refine bodyPost_ret (v := (⟨⟨x.a, x.n⟩, ⟨x.b, x.n⟩, ⟨x.c, x.n⟩, ⟨x.a, x.n⟩⟩ : Tch).v) (by simp [results, Tryz.results34, go_sem, x0, x1, x2, x3, x4, x5, x6, x7, Tch.v]) rfl ⟨by first | rfl | rw [hr], ?_⟩
      exact wb_below HB5.out (by omega) (⟨⟨x.a, x.n⟩, ⟨x.b, x.n⟩, ⟨x.c, x.n⟩, ⟨x.a, x.n⟩⟩ : Tch)
    by_cases e13 : x.d = 13
    · have hr : R = ⟨⟨x.a, 1⟩, ⟨x.b, x.n⟩, ⟨x.c, x.n⟩, ⟨x.a, 1⟩⟩ := by rw [HR.out]; unfold rTchV; simp [e13]
      have q : (x.d == 13) = true := by simpa using e13
      have r1 : (x.d == 1) = false := by simpa using e1
      have r5 : (x.d == 5) = false := by simpa using e5
      have r2 : (x.d == 2) = false := by simpa using e2
      have r6 : (x.d == 6) = false := by simpa using e6
      have r7 : (x.d == 7) = false := by simpa using e7
      have r8 : (x.d == 8) = false := by simpa using e8
      have r9 : (x.d == 9) = false := by simpa using e9
      have r10 : (x.d == 10) = false := by simpa using e10
      have r11 : (x.d == 11) = false := by simpa using e11
      have r12 : (x.d == 12) = false := by simpa using e12
      clear e1 e5 e2 e6 e7 e8 e9 e10 e11 e12 e13
      go_upto_region 22 with fail
      obtain ⟨W4, hW4⟩ : ∃ W4, W4 = ((((((wc.setCell ⟨w.heap.size + 2, 0, none⟩ (.int .i64 x.a)).setCell ⟨w.heap.size + 2, 1, none⟩ (.int .i64 1)).setCell ⟨w.heap.size + 2, 2, none⟩ (.int .i64 x.b)).setCell ⟨w.heap.size + 2, 3, none⟩ (.int .i64 x.n)).setCell ⟨w.heap.size + 2, 4, none⟩ (.int .i64 x.c)).setCell ⟨w.heap.size + 2, 5, none⟩ (.int .i64 x.n)) := ⟨_, rfl⟩
      rw [← hW4]
      have oth : ∀ y, y ≠ w.heap.size + 2 → W4.heap[y]? = wc.heap[y]? := fun y hy => by rw [hW4]; simp [World.setCell, Array.getElem?_modify, hy.symm]
      have hV4 : WBlk W4 (w.heap.size + 2) (⟨⟨x.a, 1⟩, ⟨x.b, x.n⟩, ⟨x.c, x.n⟩, zS⟩ : Tch) := by
        have h := HV2.out
        rw [hW4]
        unfold WBlk at h ⊢
        simp [World.setCell, Array.getElem?_modify, h, zS]
      have HV4 := hide hV4
      have HP4 : Hid (WBlk W4 (w.heap.size + 1) (⟨zS, zS, zS, zS⟩ : Tch)) := (oth _ (by omega)).trans HP2.out
      have h3 : PBlk W4 g3 x.a x.n := (oth _ N3.out).trans H3.out
      have hA4 : InBlk W4 w.heap.size x := (oth _ (by omega)).trans HA2.out
      have hB4 : Below w.heap.size w W4 := by rw [hW4]; exact ((((((HB2.out.setCell (p := ⟨w.heap.size + 2, 0, none⟩) (by simp only; omega) _).setCell (p := ⟨w.heap.size + 2, 1, none⟩) (by simp only; omega) _).setCell (p := ⟨w.heap.size + 2, 2, none⟩) (by simp only; omega) _).setCell (p := ⟨w.heap.size + 2, 3, none⟩) (by simp only; omega) _).setCell (p := ⟨w.heap.size + 2, 4, none⟩) (by simp only; omega) _).setCell (p := ⟨w.heap.size + 2, 5, none⟩) (by simp only; omega) _)
      have HB4 := hide hB4
      clear oth hB4 hW4 c0 c1 c2 c3 c4 c5 zc s0 s1 zs t0 t1 zt u0 u1 zu p0 p1 p2 p3 p4 p5 p6 p7 zp q0 q1 q2 q3 q4 q5 q6 q7
      obtain ⟨⟨p0, p1, p2, p3, p4, p5, p6, p7⟩, zp⟩ := blk8 hV4
      have q6 := hV4.free 6
      have q7 := hV4.free 7
      obtain ⟨⟨s0, s1⟩, zs⟩ := h3.cells
      obtain ⟨⟨c0, c1, c2, c3, c4, c5⟩, zc⟩ := hA4.cells
      clear h3 hA4 hV4
      go_upto_region 26 with fail
      obtain ⟨W5, hW5⟩ : ∃ W5, W5 = ((W4.setCell ⟨w.heap.size + 2, 6, none⟩ (.int .i64 x.a)).setCell ⟨w.heap.size + 2, 7, none⟩ (.int .i64 1)) := ⟨_, rfl⟩
      rw [← hW5]
      have hV5 : WBlk W5 (w.heap.size + 2) (⟨⟨x.a, 1⟩, ⟨x.b, x.n⟩, ⟨x.c, x.n⟩, ⟨x.a, 1⟩⟩ : Tch) := by
        have h := HV4.out
        rw [hW5]
        unfold WBlk at h ⊢
        simp [World.setCell, Array.getElem?_modify, h, zS]
      have hP5 : WBlk W5 (w.heap.size + 1) (⟨zS, zS, zS, zS⟩ : Tch) := by
        have h := HP4.out
        rw [hW5]
        unfold WBlk at h ⊢
        simp [World.setCell, Array.getElem?_modify, h]
      have hB5 : Below w.heap.size w W5 := by rw [hW5]; exact ((HB4.out.setCell (p := ⟨w.heap.size + 2, 6, none⟩) (by simp only; omega) _).setCell (p := ⟨w.heap.size + 2, 7, none⟩) (by simp only; omega) _)
      have HB5 := hide hB5
      have HP5 := hide hP5
      clear hB5 hW5 c0 c1 c2 c3 c4 c5 zc s0 s1 zs p0 p1 p2 p3 p4 p5 p6 p7 zp q6 q7
      obtain ⟨⟨v0, v1, v2, v3, v4, v5, v6, v7⟩, zv⟩ := blk8 hV5
      obtain ⟨⟨p0, p1, p2, p3, p4, p5, p6, p7⟩, zp⟩ := blk8 hP5
      have q0 := hP5.free 0
      have q1 := hP5.free 1
      have q2 := hP5.free 2
      have q3 := hP5.free 3
      have q4 := hP5.free 4
      have q5 := hP5.free 5
      have q6 := hP5.free 6
      have q7 := hP5.free 7
      clear hV5 hP5
      go_wp2
      have PZ2 := HP5.out.put (⟨⟨x.a, 1⟩, ⟨x.b, x.n⟩, ⟨x.c, x.n⟩, ⟨x.a, 1⟩⟩ : Tch)
      obtain ⟨⟨x0, x1, x2, x3, x4, x5, x6, x7⟩, _⟩ := blk8 PZ2
      refine bodyPost_ret (v := (⟨⟨x.a, 1⟩, ⟨x.b, x.n⟩, ⟨x.c, x.n⟩, ⟨x.a, 1⟩⟩ : Tch).v) (by simp [results, Tryz.results34, go_sem, x0, x1, x2, x3, x4, x5, x6, x7, Tch.v]) rfl ⟨by first | rfl | rw [hr], ?_⟩
      exact wb_below HB5.out (by omega) (⟨⟨x.a, 1⟩, ⟨x.b, x.n⟩, ⟨x.c, x.n⟩, ⟨x.a, 1⟩⟩ : Tch)
    by_cases e14 : x.d = 14
    · have hr : R = ⟨⟨x.a, x.n⟩, ⟨x.b, x.n⟩, zS, ⟨x.a, x.n⟩⟩ := by rw [HR.out]; unfold rTchV; simp [e14]
      have q : (x.d == 14) = true := by simpa using e14
      have r1 : (x.d == 1) = false := by simpa using e1
      have r5 : (x.d == 5) = false := by simpa using e5
      have r2 : (x.d == 2) = false := by simpa using e2
      have r6 : (x.d == 6) = false := by simpa using e6
      have r7 : (x.d == 7) = false := by simpa using e7
      have r8 : (x.d == 8) = false := by simpa using e8
      have r9 : (x.d == 9) = false := by simpa using e9
      have r10 : (x.d == 10) = false := by simpa using e10
      have r11 : (x.d == 11) = false := by simpa using e11
      have r12 : (x.d == 12) = false := by simpa using e12
      have r13 : (x.d == 13) = false := by simpa using e13
      clear e1 e5 e2 e6 e7 e8 e9 e10 e11 e12 e13 e14
      go_upto_region 25 with fail
      obtain ⟨W4, hW4⟩ : ∃ W4, W4 = ((((((wc.setCell ⟨w.heap.size + 2, 0, none⟩ (.int .i64 x.a)).setCell ⟨w.heap.size + 2, 1, none⟩ (.int .i64 x.n)).setCell ⟨w.heap.size + 2, 2, none⟩ (.int .i64 x.b)).setCell ⟨w.heap.size + 2, 3, none⟩ (.int .i64 x.n)).setCell ⟨w.heap.size + 2, 4, none⟩ (.int .i64 0)).setCell ⟨w.heap.size + 2, 5, none⟩ (.int .i64 0)) := ⟨_, rfl⟩
      rw [← hW4]
      have oth : ∀ y, y ≠ w.heap.size + 2 → W4.heap[y]? = wc.heap[y]? := fun y hy => by rw [hW4]; simp [World.setCell, Array.getElem?_modify, hy.symm]
      have hV4 : WBlk W4 (w.heap.size + 2) (⟨⟨x.a, x.n⟩, ⟨x.b, x.n⟩, zS, zS⟩ : Tch) := by
        have h := HV2.out
        rw [hW4]
        unfold WBlk at h ⊢
        simp [World.setCell, Array.getElem?_modify, h, zS]
      have HV4 := hide hV4
      have HP4 : Hid (WBlk W4 (w.heap.size + 1) (⟨zS, zS, zS, zS⟩ : Tch)) := (oth _ (by omega)).trans HP2.out
      have h3 : PBlk W4 g3 x.a x.n := (oth _ N3.out).trans H3.out
      have hA4 : InBlk W4 w.heap.size x := (oth _ (by omega)).trans HA2.out
      have hB4 : Below w.heap.size w W4 := by rw [hW4]; exact ((((((HB2.out.setCell (p := ⟨w.heap.size + 2, 0, none⟩) (by simp only; omega) _).setCell (p := ⟨w.heap.size + 2, 1, none⟩) (by simp only; omega) _).setCell (p := ⟨w.heap.size + 2, 2, none⟩) (by simp only; omega) _).setCell (p := ⟨w.heap.size + 2, 3, none⟩) (by simp only; omega) _).setCell (p := ⟨w.heap.size + 2, 4, none⟩) (by simp only; omega) _).setCell (p := ⟨w.heap.size + 2, 5, none⟩) (by simp only; omega) _)
      have HB4 := hide hB4
      clear oth hB4 hW4 c0 c1 c2 c3 c4 c5 zc s0 s1 zs t0 t1 zt u0 u1 zu p0 p1 p2 p3 p4 p5 p6 p7 zp q0 q1 q2 q3 q4 q5 q6 q7
      obtain ⟨⟨p0, p1, p2, p3, p4, p5, p6, p7⟩, zp⟩ := blk8 hV4
      have q6 := hV4.free 6
      have q7 := hV4.free 7
      obtain ⟨⟨s0, s1⟩, zs⟩ := h3.cells
      obtain ⟨⟨c0, c1, c2, c3, c4, c5⟩, zc⟩ := hA4.cells
      clear h3 hA4 hV4
      go_upto_region 26 with fail
      obtain ⟨W5, hW5⟩ : ∃ W5, W5 = ((W4.setCell ⟨w.heap.size + 2, 6, none⟩ (.int .i64 x.a)).setCell ⟨w.heap.size + 2, 7, none⟩ (.int .i64 x.n)) := ⟨_, rfl⟩
      rw [← hW5]
      have hV5 : WBlk W5 (w.heap.size + 2) (⟨⟨x.a, x.n⟩, ⟨x.b, x.n⟩, zS, ⟨x.a, x.n⟩⟩ : Tch) := by
        have h := HV4.out
        rw [hW5]
        unfold WBlk at h ⊢
        simp [World.setCell, Array.getElem?_modify, h, zS]
      have hP5 : WBlk W5 (w.heap.size + 1) (⟨zS, zS, zS, zS⟩ : Tch) := by
        have h := HP4.out
        rw [hW5]
        unfold WBlk at h ⊢
        simp [World.setCell, Array.getElem?_modify, h]
      have hB5 : Below w.heap.size w W5 := by rw [hW5]; exact ((HB4.out.setCell (p := ⟨w.heap.size + 2, 6, none⟩) (by simp only; omega) _).setCell (p := ⟨w.heap.size + 2, 7, none⟩) (by simp only; omega) _)
      have HB5 := hide hB5
      have HP5 := hide hP5
      clear hB5 hW5 c0 c1 c2 c3 c4 c5 zc s0 s1 zs p0 p1 p2 p3 p4 p5 p6 p7 zp q6 q7
      obtain ⟨⟨v0, v1, v2, v3, v4, v5, v6, v7⟩, zv⟩ := blk8 hV5
      obtain ⟨⟨p0, p1, p2, p3, p4, p5, p6, p7⟩, zp⟩ := blk8 hP5
      simp only [zS] at v0 v1 v2 v3 v4 v5 v6 v7
      have q0 := hP5.free 0
      have q1 := hP5.free 1
      have q2 := hP5.free 2
      have q3 := hP5.free 3
      have q4 := hP5.free 4
      have q5 := hP5.free 5
      have q6 := hP5.free 6
      have q7 := hP5.free 7
      clear hV5 hP5
      go_wp2
      have PZ2 := HP5.out.put (⟨⟨x.a, x.n⟩, ⟨x.b, x.n⟩, zS, ⟨x.a, x.n⟩⟩ : Tch)
      obtain ⟨⟨x0, x1, x2, x3, x4, x5, x6, x7⟩, _⟩ := blk8 PZ2
      refine bodyPost_ret (v := (⟨⟨x.a, x.n⟩, ⟨x.b, x.n⟩, zS, ⟨x.a, x.n⟩⟩ : Tch).v) (by simp only [zS] at x0 x1 x2 x3 x4 x5 x6 x7; simp [results, Tryz.results34, go_sem, x0, x1, x2, x3, x4, x5, x6, x7, Tch.v, zS]) rfl ⟨by first | rfl | rw [hr], ?_⟩
      exact wb_below HB5.out (by omega) (⟨⟨x.a, x.n⟩, ⟨x.b, x.n⟩, zS, ⟨x.a, x.n⟩⟩ : Tch)
    have hr : R = ⟨zS, zS, zS, zS⟩ := by rw [HR.out]; unfold rTchV; rw [if_neg (by omega), if_neg (by omega), if_neg (by omega), if_neg (by omega), if_neg (by omega), if_neg (by omega)]
    have r1 : (x.d == 1) = false := by simpa using e1
    have r5 : (x.d == 5) = false := by simpa using e5
    have r2 : (x.d == 2) = false := by simpa using e2
    have r6 : (x.d == 6) = false := by simpa using e6
    have r7 : (x.d == 7) = false := by simpa using e7
    have r8 : (x.d == 8) = false := by simpa using e8
    have r9 : (x.d == 9) = false := by simpa using e9
    have r10 : (x.d == 10) = false := by simpa using e10
    have r11 : (x.d == 11) = false := by simpa using e11
    have r12 : (x.d == 12) = false := by simpa using e12
    have r13 : (x.d == 13) = false := by simpa using e13
    have r14 : (x.d == 14) = false := by simpa using e14
    clear e1 e5 e2 e6 e7 e8 e9 e10 e11 e12 e13 e14
    go_upto_region 26 with fail
    obtain ⟨W5, hW5⟩ : ∃ W5, W5 = wc := ⟨_, rfl⟩
    rw [← hW5]
    have hV5 : WBlk W5 (w.heap.size + 2) (⟨zS, zS, zS, zS⟩ : Tch) := by
      have h := HV2.out
      rw [hW5]
      unfold WBlk at h ⊢
      exact h
    have hP5 : WBlk W5 (w.heap.size + 1) (⟨zS, zS, zS, zS⟩ : Tch) := by
      have h := HP2.out
      rw [hW5]
      unfold WBlk at h ⊢
      exact h
    have hB5 : Below w.heap.size w W5 := by rw [hW5]; exact HB2.out
    have HB5 := hide hB5
    have HP5 := hide hP5
    clear hB5 hW5 c0 c1 c2 c3 c4 c5 zc s0 s1 zs t0 t1 zt u0 u1 zu p0 p1 p2 p3 p4 p5 p6 p7 zp q0 q1 q2 q3 q4 q5 q6 q7
    obtain ⟨⟨v0, v1, v2, v3, v4, v5, v6, v7⟩, zv⟩ := blk8 hV5
    obtain ⟨⟨p0, p1, p2, p3, p4, p5, p6, p7⟩, zp⟩ := blk8 hP5
    simp only [zS] at v0 v1 v2 v3 v4 v5 v6 v7
    have q0 := hP5.free 0
    have q1 := hP5.free 1
    have q2 := hP5.free 2
    have q3 := hP5.free 3
    have q4 := hP5.free 4
    have q5 := hP5.free 5
    have q6 := hP5.free 6
    have q7 := hP5.free 7
    clear hV5 hP5
    go_wp2
    have PZ2 := HP5.out.put (⟨zS, zS, zS, zS⟩ : Tch)
    obtain ⟨⟨x0, x1, x2, x3, x4, x5, x6, x7⟩, _⟩ := blk8 PZ2
    refine bodyPost_ret (v := (⟨zS, zS, zS, zS⟩ : Tch).v) (by simp only [zS] at x0 x1 x2 x3 x4 x5 x6 x7; simp [results, Tryz.results34, go_sem, x0, x1, x2, x3, x4, x5, x6, x7, Tch.v, zS]) rfl ⟨by first | rfl | rw [hr], ?_⟩
    exact wb_below HB5.out (by omega) (⟨zS, zS, zS, zS⟩ : Tch)
end Go.Proofs.YtoabffmiedbkkaaGreat.V
