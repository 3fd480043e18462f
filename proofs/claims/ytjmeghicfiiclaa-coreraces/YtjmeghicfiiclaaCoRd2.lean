/-
  The document: Clash.
-/
import Derived.Test.YtjmeghicfiiclaaCoRd1
namespace Go.Proofs.Ytjmeghicfiiclaa.V
open Go Go.RowKit
set_option linter.unusedVariables false

def zT : Tch := ⟨zS, zS, zS, zS⟩
def fWd (N : Nat) : Fact := ⟨fun v w => ∃ C, v = .pointer (some ⟨C, 0, none⟩) ∧ WBlk w C zT ∧ N ≤ C, true⟩
theorem fWd_good (N : Nat) : (fWd N).Good := ⟨fun _ _ _ ⟨C, h1, h2, h3⟩ hb => ⟨C, h1, h2.below hb, h3⟩, fun _ v w b ⟨C, h1, h2, h3⟩ hb => by
  rw [h1] at hb
  simp only [blk, Option.some.injEq] at hb
  rw [← hb]
  exact (Array.getElem?_eq_some_iff.1 h2).1⟩
theorem WBlk.other {w : World} {g g' : Nat} {t0 : Tch} (h : WBlk w g' t0) (hne : g ≠ g') (t : Tch) : WBlk ((((((((w.setCell ⟨g, 0, none⟩ (.int .i64 t.r0.f)).setCell ⟨g, 1, none⟩ (.int .i64 t.r0.w)).setCell ⟨g, 2, none⟩ (.int .i64 t.r1.f)).setCell ⟨g, 3, none⟩ (.int .i64 t.r1.w)).setCell ⟨g, 4, none⟩ (.int .i64 t.r2.f)).setCell ⟨g, 5, none⟩ (.int .i64 t.r2.w)).setCell ⟨g, 6, none⟩ (.int .i64 t.wr.f)).setCell ⟨g, 7, none⟩ (.int .i64 t.wr.w)) g' t0 := by
  unfold WBlk at h ⊢
  simp [World.setCell, Array.getElem?_modify, h, hne]
set_option maxRecDepth 100000 in
set_option maxHeartbeats 8000000 in
theorem rClash_any (x y : In) (hx : (rTchV x).Sm) (hy : (rTchV y).Sm) (w : World) : Calls Try.prog 10 #[x.v6, y.v6] w fun e w' => e = .returned (.bool (rClashI x y)) ∧ Below w.heap.size w w' := by
  obtain ⟨R, hR⟩ : ∃ R, R = rClashI x y := ⟨_, rfl⟩
  rw [← hR]
  unfold rClashI at hR
  have HTX := hide (fun V => rTouched_any x V)
  have HTY := hide (fun V => rTouched_any y V)
  obtain ⟨a, ha⟩ : ∃ a, a = rTchV x := ⟨_, rfl⟩
  obtain ⟨b, hb⟩ : ∃ b, b = rTchV y := ⟨_, rfl⟩
  simp only [← ha] at HTX hR hx
  simp only [← hb] at HTY hR hy
  have HR := hide hR
  have HX := hide hx
  have HY := hide hy
  clear hR ha hb hx hy
  obtain ⟨W1, hW1⟩ : ∃ W, W = w.alloc (.cells #[.int .i64 x.d, .int .i64 x.a, .int .i64 x.b, .int .i64 x.c, .int .i64 x.n, .int .i64 x.v] 36) := ⟨_, rfl⟩
  obtain ⟨W, hW⟩ : ∃ W, W = W1.alloc (.cells #[.int .i64 y.d, .int .i64 y.a, .int .i64 y.b, .int .i64 y.c, .int .i64 y.n, .int .i64 y.v] 36) := ⟨_, rfl⟩
  have s1 : W1.heap.size = w.heap.size + 1 := by rw [hW1]; simp
  have b1 : Below w.heap.size w W1 := by rw [hW1]; exact bl_new _
  have b2 : Below W1.heap.size W1 W := by rw [hW]; exact bl_new _
  have hb : Below w.heap.size w W := bl_on b1 b2
  have h1 : InBlk W1 w.heap.size x := by rw [hW1]; exact InBlk.new _ _
  have h2 : InBlk W (w.heap.size + 1) y := by rw [hW, ← s1]; exact InBlk.new _ _
  have hW2 : W = (w.alloc (.cells #[.int .i64 x.d, .int .i64 x.a, .int .i64 x.b, .int .i64 x.c, .int .i64 x.n, .int .i64 x.v] 36)).alloc (.cells #[.int .i64 y.d, .int .i64 y.a, .int .i64 y.b, .int .i64 y.c, .int .i64 y.n, .int .i64 y.v] 36) := by rw [hW, hW1]
  obtain ⟨⟨i0, i1, i2, i3, i4, i5⟩, zi⟩ := (h1.below b2).cells
  obtain ⟨⟨j0, j1, j2, j3, j4, j5⟩, zj⟩ := h2.cells
  have HW := hide hW2
  have HB := hide hb
  have HBZ := hide (bl_on b1 b2).size
  clear hW hW1 hW2 s1 b1 b2 hb h1 h2
  unfold In.v6 at HTX HTY ⊢
  unfold Tch.v at HTX HTY
  go_enter Try.func10, Try.ntmps10
  go_upto_region 1 with fail
  rw [← HW.out]
  refine region_made 6 8 [fIs (.agg #[.int .i64 x.d, .int .i64 x.a, .int .i64 x.b, .int .i64 x.c, .int .i64 x.n, .int .i64 x.v]), fIs (.agg #[.int .i64 a.r0.f, .int .i64 a.r0.w, .int .i64 a.r1.f, .int .i64 a.r1.w, .int .i64 a.r2.f, .int .i64 a.r2.w, .int .i64 a.wr.f, .int .i64 a.wr.w]), fIs (.agg #[.int .i64 y.d, .int .i64 y.a, .int .i64 y.b, .int .i64 y.c, .int .i64 y.n, .int .i64 y.v]), fIs (.agg #[.int .i64 b.r0.f, .int .i64 b.r0.w, .int .i64 b.r1.f, .int .i64 b.r1.w, .int .i64 b.r2.f, .int .i64 b.r2.w, .int .i64 b.wr.f, .int .i64 b.wr.w]), fWd W.heap.size, fWd W.heap.size] (by kernel_rfl) (by kernel_rfl) (by kernel_rfl) (fun ch p q w3 e h => by obtain ⟨t1, d1⟩ := p; obtain ⟨t2, d2⟩ := q; cases e; exact h) ⟨fIs_good _, fIs_good _, fIs_good _, fIs_good _, fWd_good _, fWd_good _, trivial⟩ ?mkA1 ?restA1
  case mkA1 =>
    refine ⟨fun u wz hb hd => ?_, fun u wz hb hd => ?_, fun u wz hb hd => ?_, fun u wz hb hd => ?_, fun u wz hb hd => ?_, fun u wz hb hd => ?_, trivial⟩
    all_goals simp only [Act.put, List.setIfInBounds_toArray, List.set_cons_zero, List.set_cons_succ]
    · have i0' := (hb.cell (p := ⟨w.heap.size, 0, none⟩) (lt_of_cell i0)).trans i0
      have i1' := (hb.cell (p := ⟨w.heap.size, 1, none⟩) (lt_of_cell i1)).trans i1
      have i2' := (hb.cell (p := ⟨w.heap.size, 2, none⟩) (lt_of_cell i2)).trans i2
      have i3' := (hb.cell (p := ⟨w.heap.size, 3, none⟩) (lt_of_cell i3)).trans i3
      have i4' := (hb.cell (p := ⟨w.heap.size, 4, none⟩) (lt_of_cell i4)).trans i4
      have i5' := (hb.cell (p := ⟨w.heap.size, 5, none⟩) (lt_of_cell i5)).trans i5
      go_simp
      exact ⟨rfl, Below.refl _ _, fun h => by cases h⟩
    · have e0 : u 0 = .agg #[.int .i64 x.d, .int .i64 x.a, .int .i64 x.b, .int .i64 x.c, .int .i64 x.n, .int .i64 x.v] := hd 0 (by omega) (by kernel_rfl)
      rw [e0]
      go_simp
      refine (HTX.out wz).mono ?_
      rintro r w2 ⟨rfl, hb2⟩
      exact ⟨rfl, hb2, fun h => by cases h⟩
    · have j0' := (hb.cell (p := ⟨w.heap.size + 1, 0, none⟩) (lt_of_cell j0)).trans j0
      have j1' := (hb.cell (p := ⟨w.heap.size + 1, 1, none⟩) (lt_of_cell j1)).trans j1
      have j2' := (hb.cell (p := ⟨w.heap.size + 1, 2, none⟩) (lt_of_cell j2)).trans j2
      have j3' := (hb.cell (p := ⟨w.heap.size + 1, 3, none⟩) (lt_of_cell j3)).trans j3
      have j4' := (hb.cell (p := ⟨w.heap.size + 1, 4, none⟩) (lt_of_cell j4)).trans j4
      have j5' := (hb.cell (p := ⟨w.heap.size + 1, 5, none⟩) (lt_of_cell j5)).trans j5
      go_simp
      exact ⟨rfl, Below.refl _ _, fun h => by cases h⟩
    · have e2 : u 2 = .agg #[.int .i64 y.d, .int .i64 y.a, .int .i64 y.b, .int .i64 y.c, .int .i64 y.n, .int .i64 y.v] := hd 2 (by omega) (by kernel_rfl)
      rw [e2]
      go_simp
      refine (HTY.out wz).mono ?_
      rintro r w2 ⟨rfl, hb2⟩
      exact ⟨rfl, hb2, fun h => by cases h⟩
    · go_simp
      exact ⟨⟨wz.heap.size, rfl, World.alloc_heap_new _ _, hb.size⟩, bl_new _, fun _ b e => by simp only [blk, Option.some.injEq] at e; omega⟩
    · go_simp
      exact ⟨⟨wz.heap.size, rfl, World.alloc_heap_new _ _, hb.size⟩, bl_new _, fun _ b e => by simp only [blk, Option.some.injEq] at e; omega⟩
  case restA1 =>
    intro u wz hb hf hp
    have f0 : u 0 = .agg #[.int .i64 x.d, .int .i64 x.a, .int .i64 x.b, .int .i64 x.c, .int .i64 x.n, .int .i64 x.v] := hf 0 (by omega)
    have f1 : u 1 = .agg #[.int .i64 a.r0.f, .int .i64 a.r0.w, .int .i64 a.r1.f, .int .i64 a.r1.w, .int .i64 a.r2.f, .int .i64 a.r2.w, .int .i64 a.wr.f, .int .i64 a.wr.w] := hf 1 (by omega)
    have f2 : u 2 = .agg #[.int .i64 y.d, .int .i64 y.a, .int .i64 y.b, .int .i64 y.c, .int .i64 y.n, .int .i64 y.v] := hf 2 (by omega)
    have f3 : u 3 = .agg #[.int .i64 b.r0.f, .int .i64 b.r0.w, .int .i64 b.r1.f, .int .i64 b.r1.w, .int .i64 b.r2.f, .int .i64 b.r2.w, .int .i64 b.wr.f, .int .i64 b.wr.w] := hf 3 (by omega)
    obtain ⟨A5, f4, h5, n5⟩ := hf 4 (by omega)
    obtain ⟨A6, f5, h6, n6⟩ := hf 5 (by omega)
    have hne : A5 ≠ A6 := fun e => hp 4 5 (by omega) (by omega) (by omega) rfl rfl A5 (by rw [f4]; rfl) (by rw [f5, e]; rfl)
    refine UptoW.rest 2 6 (by rfl) (by kernel_rfl) ?_
    simp only [List.take, List.drop, putOps, Act.put, List.setIfInBounds_toArray, List.set_cons_zero, List.set_cons_succ, Nat.reduceAdd, f0, f1, f2, f3, f4, f5]
    clear f0 f1 f2 f3 f4 f5 hf hp
    obtain ⟨⟨p0, p1, p2, p3, p4, p5, p6, p7⟩, zp⟩ := blk8 h5
    obtain ⟨⟨q0, q1, q2, q3, q4, q5, q6, q7⟩, zq⟩ := blk8 h6
    have f50 := h5.free 0
    have f60 := h6.free 0
    have f51 := h5.free 1
    have f61 := h6.free 1
    have f52 := h5.free 2
    have f62 := h6.free 2
    have f53 := h5.free 3
    have f63 := h6.free 3
    have f54 := h5.free 4
    have f64 := h6.free 4
    have f55 := h5.free 5
    have f65 := h6.free 5
    have f56 := h5.free 6
    have f66 := h6.free 6
    have f57 := h5.free 7
    have f67 := h6.free 7
    have HA := hide h5
    have HD := hide h6
    have HN := hide hne
    have HBB := hide (bl_on HB.out hb)
    have HG := hide (And.intro n5 n6)
    clear hb i0 i1 i2 i3 i4 i5 j0 j1 j2 j3 j4 j5 zi zj h5 h6 HTX HTY n5 n6
    have hne2 : A6 ≠ A5 := fun e => hne e.symm
    go_upto_region 2 with fail
    obtain ⟨V, hV⟩ : ∃ V, V = ((((((((((((((((wz.setCell ⟨A5, 0, none⟩ (.int .i64 a.r0.f)).setCell ⟨A5, 1, none⟩ (.int .i64 a.r0.w)).setCell ⟨A5, 2, none⟩ (.int .i64 a.r1.f)).setCell ⟨A5, 3, none⟩ (.int .i64 a.r1.w)).setCell ⟨A5, 4, none⟩ (.int .i64 a.r2.f)).setCell ⟨A5, 5, none⟩ (.int .i64 a.r2.w)).setCell ⟨A5, 6, none⟩ (.int .i64 a.wr.f)).setCell ⟨A5, 7, none⟩ (.int .i64 a.wr.w)).setCell ⟨A6, 0, none⟩ (.int .i64 b.r0.f)).setCell ⟨A6, 1, none⟩ (.int .i64 b.r0.w)).setCell ⟨A6, 2, none⟩ (.int .i64 b.r1.f)).setCell ⟨A6, 3, none⟩ (.int .i64 b.r1.w)).setCell ⟨A6, 4, none⟩ (.int .i64 b.r2.f)).setCell ⟨A6, 5, none⟩ (.int .i64 b.r2.w)).setCell ⟨A6, 6, none⟩ (.int .i64 b.wr.f)).setCell ⟨A6, 7, none⟩ (.int .i64 b.wr.w)) := ⟨_, rfl⟩
    rw [← hV]
    have hA : WBlk V A5 a := by rw [hV]; exact WBlk.other (HA.out.put a) HN.out.symm b
    have hD : WBlk V A6 b := by rw [hV]; exact WBlk.put (HD.out.other HN.out a) b
    have hBV : Below w.heap.size w V := by
      rw [hV]
      have h1 := HG.out
      have h2 := HBZ.out
      exact wb_below (wb_below HBB.out (by omega) a) (by omega) b
    have HA2 := hide hA
    have HD2 := hide hD
    have HB2 := hide hBV
    clear hV hA hD hBV p0 p1 p2 p3 p4 p5 p6 p7 zp q0 q1 q2 q3 q4 q5 q6 q7 zq f50 f60 f51 f61 f52 f62 f53 f63 f54 f64 f55 f65 f56 f66 f57 f67 HA HD HN HBB HG hne hne2
    obtain ⟨⟨p0, p1, p2, p3, p4, p5, p6, p7⟩, zp⟩ := blk8 HA2.out
    obtain ⟨⟨q0, q1, q2, q3, q4, q5, q6, q7⟩, zq⟩ := blk8 HD2.out
    have HM := hide (fun V => rMeet_any a.wr b.wr HX.out.wr HY.out.wr V)
    obtain ⟨m, hm⟩ : ∃ m, m = meetV a.wr b.wr := ⟨_, rfl⟩
    simp only [← hm] at HM
    have HMM := hide hm
    clear hm
    go_wp2_with fail
    refine (HM.out V).mono ?_
    rintro r w5 ⟨rfl, hb5⟩
    have HA5 := hide (HA2.out.below hb5)
    have HD5 := hide (HD2.out.below hb5)
    have HB5 := hide (bl_on HB2.out hb5)
    clear hb5 p0 p1 p2 p3 p4 p5 p6 p7 zp q0 q1 q2 q3 q4 q5 q6 q7 zq
    cases m
    · go_wp2_with fail
      go_loopw [7] (fun v7 wr => ∃ k : Int, (k = 0 ∨ k = 1 ∨ k = 2 ∨ k = 3) ∧ v7 = .int .i64 k ∧ (1 ≤ k → meetV a.wr b.r0 = false ∧ meetV b.wr a.r0 = false) ∧ (2 ≤ k → meetV a.wr b.r1 = false ∧ meetV b.wr a.r1 = false) ∧ (3 ≤ k → meetV a.wr b.r2 = false ∧ meetV b.wr a.r2 = false) ∧ WBlk wr A5 a ∧ WBlk wr A6 b ∧ Below w.heap.size w wr) (fun v7 _ => 3 - (intOf v7).toNat)
      case atStart => exact ⟨0, .inl rfl, rfl, fun h => by omega, fun h => by omega, fun h => by omega, HA5.out, HD5.out, HB5.out⟩
      case round =>
        clear HA5 HD5 HB5
        obtain ⟨k, hk, rfl, g0, g1, g2, hA, hD, hB⟩ := hrel
        have HA := hide hA
        have HD := hide hD
        have HBR := hide hB
        have HG0 := hide g0
        have HG1 := hide g1
        have HG2 := hide g2
        obtain ⟨⟨p0, p1, p2, p3, p4, p5, p6, p7⟩, zp⟩ := blk8 hA
        obtain ⟨⟨q0, q1, q2, q3, q4, q5, q6, q7⟩, zq⟩ := blk8 hD
        clear hA hD hB g0 g1 g2
        rcases hk with rfl | rfl | rfl | rfl
        · have HM1 := hide (fun V => rMeet_any a.wr b.r0 HX.out.wr HY.out.r0 V)
          have HM2 := hide (fun V => rMeet_any b.wr a.r0 HY.out.wr HX.out.r0 V)
          obtain ⟨p, hp⟩ : ∃ p, p = meetV a.wr b.r0 := ⟨_, rfl⟩
          obtain ⟨q, hq⟩ : ∃ q, q = meetV b.wr a.r0 := ⟨_, rfl⟩
          simp only [← hp] at HM1
          simp only [← hq] at HM2
          have HP := hide hp
          have HQ := hide hq
          clear hp hq
          go_upto_region 7 with fail
          cases p
          · cases q
            · refine region_madeG 15 17 [fIs (.pointer (some ⟨A5, 6, none⟩)), fIs (.agg #[.int .i64 a.wr.f, .int .i64 a.wr.w]), fIs (.int .i64 0), fIs (.pointer (some ⟨A6, 0, none⟩)), fIs (.pointer (some ⟨A6, 0, none⟩)), fIs (.agg #[.int .i64 b.r0.f, .int .i64 b.r0.w]), fIs (.bool false), fIs (.bool false), fIs (.pointer (some ⟨A6, 6, none⟩)), fIs (.agg #[.int .i64 b.wr.f, .int .i64 b.wr.w]), fIs (.int .i64 0), fIs (.pointer (some ⟨A5, 0, none⟩)), fIs (.pointer (some ⟨A5, 0, none⟩)), fIs (.agg #[.int .i64 a.r0.f, .int .i64 a.r0.w]), fIs (.bool false)] [none, none, none, none, none, none, none, some false, none, none, none, none, none, none, none] [true, true, true, true, true, true, true, true, true, true, true, true, true, true, true] (by kernel_rfl) (by kernel_rfl) (by kernel_rfl) (fun ch p q w3 e h => by obtain ⟨t1, d1⟩ := p; obtain ⟨t2, d2⟩ := q; cases e; exact h) ⟨fIs_good _, fIs_good _, fIs_good _, fIs_good _, fIs_good _, fIs_good _, fIs_good _, fIs_good _, fIs_good _, fIs_good _, fIs_good _, fIs_good _, fIs_good _, fIs_good _, fIs_good _, trivial⟩ ⟨fun _ _ h => h, rfl⟩ ?mkF0 ?restF0
              case mkF0 =>
                refine ⟨fun u wz hb hd => ?_, fun u wz hb hd => ?_, fun u wz hb hd => ?_, fun u wz hb hd => ?_, fun u wz hb hd => ?_, fun u wz hb hd => ?_, fun u wz hb hd => ?_, fun u wz hb hd => ?_, fun u wz hb hd => ?_, fun u wz hb hd => ?_, fun u wz hb hd => ?_, fun u wz hb hd => ?_, fun u wz hb hd => ?_, fun u wz hb hd => ?_, fun u wz hb hd => ?_, trivial⟩
                all_goals simp only [Act.put, List.setIfInBounds_toArray, List.set_cons_zero, List.set_cons_succ]
                · go_simp
                  exact ⟨rfl, Below.refl _ _, fun h => by cases h⟩
                · have e0 : u 0 = .pointer (some ⟨A5, 6, none⟩) := hd 0 (by omega) (by kernel_rfl)
                  rw [e0]
                  have p6' := (hb.cell (p := ⟨A5, 6, none⟩) (lt_of_cell p6)).trans p6
                  have p7' := (hb.cell (p := ⟨A5, 7, none⟩) (lt_of_cell p7)).trans p7
                  go_simp
                  exact ⟨rfl, Below.refl _ _, fun h => by cases h⟩
                · go_simp
                  exact ⟨rfl, Below.refl _ _, fun h => by cases h⟩
                · go_simp
                  exact ⟨rfl, Below.refl _ _, fun h => by cases h⟩
                · have e2 : u 2 = .int .i64 0 := hd 2 (by omega) (by kernel_rfl)
                  have e3 : u 3 = .pointer (some ⟨A6, 0, none⟩) := hd 3 (by omega) (by kernel_rfl)
                  rw [e2, e3]
                  go_simp
                  exact ⟨rfl, Below.refl _ _, fun h => by cases h⟩
                · have e4 : u 4 = .pointer (some ⟨A6, 0, none⟩) := hd 4 (by omega) (by kernel_rfl)
                  rw [e4]
                  have q0' := (hb.cell (p := ⟨A6, 0, none⟩) (lt_of_cell q0)).trans q0
                  have q1' := (hb.cell (p := ⟨A6, 1, none⟩) (lt_of_cell q1)).trans q1
                  go_simp
                  exact ⟨rfl, Below.refl _ _, fun h => by cases h⟩
                · have e1 : u 1 = .agg #[.int .i64 a.wr.f, .int .i64 a.wr.w] := hd 1 (by omega) (by kernel_rfl)
                  have e5 : u 5 = .agg #[.int .i64 b.r0.f, .int .i64 b.r0.w] := hd 5 (by omega) (by kernel_rfl)
                  rw [e1, e5]
                  go_simp
                  refine (HM1.out wz).mono ?_
                  rintro r w2 ⟨rfl, hb2⟩
                  exact ⟨rfl, hb2, fun h => by cases h⟩
                · have e6 : u 6 = .bool false := hd 6 (by omega) (by kernel_rfl)
                  rw [e6]
                  go_simp
                  exact ⟨rfl, Below.refl _ _, fun h => by cases h⟩
                · go_simp
                  exact ⟨rfl, Below.refl _ _, fun h => by cases h⟩
                · have e8 : u 8 = .pointer (some ⟨A6, 6, none⟩) := hd 8 (by omega) (by kernel_rfl)
                  rw [e8]
                  have q6' := (hb.cell (p := ⟨A6, 6, none⟩) (lt_of_cell q6)).trans q6
                  have q7' := (hb.cell (p := ⟨A6, 7, none⟩) (lt_of_cell q7)).trans q7
                  go_simp
                  exact ⟨rfl, Below.refl _ _, fun h => by cases h⟩
                · go_simp
                  exact ⟨rfl, Below.refl _ _, fun h => by cases h⟩
                · go_simp
                  exact ⟨rfl, Below.refl _ _, fun h => by cases h⟩
                · have e10 : u 10 = .int .i64 0 := hd 10 (by omega) (by kernel_rfl)
                  have e11 : u 11 = .pointer (some ⟨A5, 0, none⟩) := hd 11 (by omega) (by kernel_rfl)
                  rw [e10, e11]
                  go_simp
                  exact ⟨rfl, Below.refl _ _, fun h => by cases h⟩
                · have e12 : u 12 = .pointer (some ⟨A5, 0, none⟩) := hd 12 (by omega) (by kernel_rfl)
                  rw [e12]
                  have p0' := (hb.cell (p := ⟨A5, 0, none⟩) (lt_of_cell p0)).trans p0
                  have p1' := (hb.cell (p := ⟨A5, 1, none⟩) (lt_of_cell p1)).trans p1
                  go_simp
                  exact ⟨rfl, Below.refl _ _, fun h => by cases h⟩
                · have e9 : u 9 = .agg #[.int .i64 b.wr.f, .int .i64 b.wr.w] := hd 9 (by omega) (by kernel_rfl)
                  have e13 : u 13 = .agg #[.int .i64 a.r0.f, .int .i64 a.r0.w] := hd 13 (by omega) (by kernel_rfl)
                  rw [e9, e13]
                  go_simp
                  refine (HM2.out wz).mono ?_
                  rintro r w2 ⟨rfl, hb2⟩
                  exact ⟨rfl, hb2, fun h => by cases h⟩
              case restF0 =>
                intro u wz hb hf hp
                have f0 : u 0 = .pointer (some ⟨A5, 6, none⟩) := hf 0 (by omega)
                have f1 : u 1 = .agg #[.int .i64 a.wr.f, .int .i64 a.wr.w] := hf 1 (by omega)
                have f2 : u 2 = .int .i64 0 := hf 2 (by omega)
                have f3 : u 3 = .pointer (some ⟨A6, 0, none⟩) := hf 3 (by omega)
                have f4 : u 4 = .pointer (some ⟨A6, 0, none⟩) := hf 4 (by omega)
                have f5 : u 5 = .agg #[.int .i64 b.r0.f, .int .i64 b.r0.w] := hf 5 (by omega)
                have f6 : u 6 = .bool false := hf 6 (by omega)
                have f7 : u 7 = .bool false := hf 7 (by omega)
                have f8 : u 8 = .pointer (some ⟨A6, 6, none⟩) := hf 8 (by omega)
                have f9 : u 9 = .agg #[.int .i64 b.wr.f, .int .i64 b.wr.w] := hf 9 (by omega)
                have f10 : u 10 = .int .i64 0 := hf 10 (by omega)
                have f11 : u 11 = .pointer (some ⟨A5, 0, none⟩) := hf 11 (by omega)
                have f12 : u 12 = .pointer (some ⟨A5, 0, none⟩) := hf 12 (by omega)
                have f13 : u 13 = .agg #[.int .i64 a.r0.f, .int .i64 a.r0.w] := hf 13 (by omega)
                have f14 : u 14 = .bool false := hf 14 (by omega)
                refine UptoW.rest 1 15 (by rfl) (by kernel_rfl) ?_
                simp only [List.take, List.drop, putOps, Act.put, List.setIfInBounds_toArray, List.set_cons_zero, List.set_cons_succ, Nat.reduceAdd, f0, f1, f2, f3, f4, f5, f6, f7, f8, f9, f10, f11, f12, f13, f14]
                clear f0 f1 f2 f3 f4 f5 f6 f7 f8 f9 f10 f11 f12 f13 f14 hf hp
                have HA6 := hide (HA.out.below hb)
                have HD6 := hide (HD.out.below hb)
                have HB6 := hide (bl_on HBR.out hb)
                clear hb p0 p1 p2 p3 p4 p5 p6 p7 zp q0 q1 q2 q3 q4 q5 q6 q7 zq
                go_wp2_with fail
                go_roundw
                case rel => exact ⟨1, by omega, by go_num, fun _ => ⟨HP.out.symm, HQ.out.symm⟩, fun h => by omega, fun h => by omega, HA6.out, HD6.out, HB6.out⟩
                case measure => simp [intOf]
            · refine region_madeG 15 17 [fIs (.pointer (some ⟨A5, 6, none⟩)), fIs (.agg #[.int .i64 a.wr.f, .int .i64 a.wr.w]), fIs (.int .i64 0), fIs (.pointer (some ⟨A6, 0, none⟩)), fIs (.pointer (some ⟨A6, 0, none⟩)), fIs (.agg #[.int .i64 b.r0.f, .int .i64 b.r0.w]), fIs (.bool false), fIs (.bool false), fIs (.pointer (some ⟨A6, 6, none⟩)), fIs (.agg #[.int .i64 b.wr.f, .int .i64 b.wr.w]), fIs (.int .i64 0), fIs (.pointer (some ⟨A5, 0, none⟩)), fIs (.pointer (some ⟨A5, 0, none⟩)), fIs (.agg #[.int .i64 a.r0.f, .int .i64 a.r0.w]), fIs (.bool true)] [none, none, none, none, none, none, none, some false, none, none, none, none, none, none, none] [true, true, true, true, true, true, true, true, true, true, true, true, true, true, true] (by kernel_rfl) (by kernel_rfl) (by kernel_rfl) (fun ch p q w3 e h => by obtain ⟨t1, d1⟩ := p; obtain ⟨t2, d2⟩ := q; cases e; exact h) ⟨fIs_good _, fIs_good _, fIs_good _, fIs_good _, fIs_good _, fIs_good _, fIs_good _, fIs_good _, fIs_good _, fIs_good _, fIs_good _, fIs_good _, fIs_good _, fIs_good _, fIs_good _, trivial⟩ ⟨fun _ _ h => h, rfl⟩ ?mkG0 ?restG0
              case mkG0 =>
                refine ⟨fun u wz hb hd => ?_, fun u wz hb hd => ?_, fun u wz hb hd => ?_, fun u wz hb hd => ?_, fun u wz hb hd => ?_, fun u wz hb hd => ?_, fun u wz hb hd => ?_, fun u wz hb hd => ?_, fun u wz hb hd => ?_, fun u wz hb hd => ?_, fun u wz hb hd => ?_, fun u wz hb hd => ?_, fun u wz hb hd => ?_, fun u wz hb hd => ?_, fun u wz hb hd => ?_, trivial⟩
                all_goals simp only [Act.put, List.setIfInBounds_toArray, List.set_cons_zero, List.set_cons_succ]
                · go_simp
                  exact ⟨rfl, Below.refl _ _, fun h => by cases h⟩
                · have e0 : u 0 = .pointer (some ⟨A5, 6, none⟩) := hd 0 (by omega) (by kernel_rfl)
                  rw [e0]
                  have p6' := (hb.cell (p := ⟨A5, 6, none⟩) (lt_of_cell p6)).trans p6
                  have p7' := (hb.cell (p := ⟨A5, 7, none⟩) (lt_of_cell p7)).trans p7
                  go_simp
                  exact ⟨rfl, Below.refl _ _, fun h => by cases h⟩
                · go_simp
                  exact ⟨rfl, Below.refl _ _, fun h => by cases h⟩
                · go_simp
                  exact ⟨rfl, Below.refl _ _, fun h => by cases h⟩
                · have e2 : u 2 = .int .i64 0 := hd 2 (by omega) (by kernel_rfl)
                  have e3 : u 3 = .pointer (some ⟨A6, 0, none⟩) := hd 3 (by omega) (by kernel_rfl)
                  rw [e2, e3]
                  go_simp
                  exact ⟨rfl, Below.refl _ _, fun h => by cases h⟩
                · have e4 : u 4 = .pointer (some ⟨A6, 0, none⟩) := hd 4 (by omega) (by kernel_rfl)
                  rw [e4]
                  have q0' := (hb.cell (p := ⟨A6, 0, none⟩) (lt_of_cell q0)).trans q0
                  have q1' := (hb.cell (p := ⟨A6, 1, none⟩) (lt_of_cell q1)).trans q1
                  go_simp
                  exact ⟨rfl, Below.refl _ _, fun h => by cases h⟩
                · have e1 : u 1 = .agg #[.int .i64 a.wr.f, .int .i64 a.wr.w] := hd 1 (by omega) (by kernel_rfl)
                  have e5 : u 5 = .agg #[.int .i64 b.r0.f, .int .i64 b.r0.w] := hd 5 (by omega) (by kernel_rfl)
                  rw [e1, e5]
                  go_simp
                  refine (HM1.out wz).mono ?_
                  rintro r w2 ⟨rfl, hb2⟩
                  exact ⟨rfl, hb2, fun h => by cases h⟩
                · have e6 : u 6 = .bool false := hd 6 (by omega) (by kernel_rfl)
                  rw [e6]
                  go_simp
                  exact ⟨rfl, Below.refl _ _, fun h => by cases h⟩
                · go_simp
                  exact ⟨rfl, Below.refl _ _, fun h => by cases h⟩
                · have e8 : u 8 = .pointer (some ⟨A6, 6, none⟩) := hd 8 (by omega) (by kernel_rfl)
                  rw [e8]
                  have q6' := (hb.cell (p := ⟨A6, 6, none⟩) (lt_of_cell q6)).trans q6
                  have q7' := (hb.cell (p := ⟨A6, 7, none⟩) (lt_of_cell q7)).trans q7
                  go_simp
                  exact ⟨rfl, Below.refl _ _, fun h => by cases h⟩
                · go_simp
                  exact ⟨rfl, Below.refl _ _, fun h => by cases h⟩
                · go_simp
                  exact ⟨rfl, Below.refl _ _, fun h => by cases h⟩
                · have e10 : u 10 = .int .i64 0 := hd 10 (by omega) (by kernel_rfl)
                  have e11 : u 11 = .pointer (some ⟨A5, 0, none⟩) := hd 11 (by omega) (by kernel_rfl)
                  rw [e10, e11]
                  go_simp
                  exact ⟨rfl, Below.refl _ _, fun h => by cases h⟩
                · have e12 : u 12 = .pointer (some ⟨A5, 0, none⟩) := hd 12 (by omega) (by kernel_rfl)
                  rw [e12]
                  have p0' := (hb.cell (p := ⟨A5, 0, none⟩) (lt_of_cell p0)).trans p0
                  have p1' := (hb.cell (p := ⟨A5, 1, none⟩) (lt_of_cell p1)).trans p1
                  go_simp
                  exact ⟨rfl, Below.refl _ _, fun h => by cases h⟩
                · have e9 : u 9 = .agg #[.int .i64 b.wr.f, .int .i64 b.wr.w] := hd 9 (by omega) (by kernel_rfl)
                  have e13 : u 13 = .agg #[.int .i64 a.r0.f, .int .i64 a.r0.w] := hd 13 (by omega) (by kernel_rfl)
                  rw [e9, e13]
                  go_simp
                  refine (HM2.out wz).mono ?_
                  rintro r w2 ⟨rfl, hb2⟩
                  exact ⟨rfl, hb2, fun h => by cases h⟩
              case restG0 =>
                intro u wz hb hf hp
                have f0 : u 0 = .pointer (some ⟨A5, 6, none⟩) := hf 0 (by omega)
                have f1 : u 1 = .agg #[.int .i64 a.wr.f, .int .i64 a.wr.w] := hf 1 (by omega)
                have f2 : u 2 = .int .i64 0 := hf 2 (by omega)
                have f3 : u 3 = .pointer (some ⟨A6, 0, none⟩) := hf 3 (by omega)
                have f4 : u 4 = .pointer (some ⟨A6, 0, none⟩) := hf 4 (by omega)
                have f5 : u 5 = .agg #[.int .i64 b.r0.f, .int .i64 b.r0.w] := hf 5 (by omega)
                have f6 : u 6 = .bool false := hf 6 (by omega)
                have f7 : u 7 = .bool false := hf 7 (by omega)
                have f8 : u 8 = .pointer (some ⟨A6, 6, none⟩) := hf 8 (by omega)
                have f9 : u 9 = .agg #[.int .i64 b.wr.f, .int .i64 b.wr.w] := hf 9 (by omega)
                have f10 : u 10 = .int .i64 0 := hf 10 (by omega)
                have f11 : u 11 = .pointer (some ⟨A5, 0, none⟩) := hf 11 (by omega)
                have f12 : u 12 = .pointer (some ⟨A5, 0, none⟩) := hf 12 (by omega)
                have f13 : u 13 = .agg #[.int .i64 a.r0.f, .int .i64 a.r0.w] := hf 13 (by omega)
                have f14 : u 14 = .bool true := hf 14 (by omega)
                refine UptoW.rest 1 15 (by rfl) (by kernel_rfl) ?_
                simp only [List.take, List.drop, putOps, Act.put, List.setIfInBounds_toArray, List.set_cons_zero, List.set_cons_succ, Nat.reduceAdd, f0, f1, f2, f3, f4, f5, f6, f7, f8, f9, f10, f11, f12, f13, f14]
                clear f0 f1 f2 f3 f4 f5 f6 f7 f8 f9 f10 f11 f12 f13 f14 hf hp
                have HA6 := hide (HA.out.below hb)
                have HD6 := hide (HD.out.below hb)
                have HB6 := hide (bl_on HBR.out hb)
                clear hb p0 p1 p2 p3 p4 p5 p6 p7 zp q0 q1 q2 q3 q4 q5 q6 q7 zq
                have hr : R = true := by rw [HR.out, ← HQ.out]; simp
                go_wp2_with fail
                go_ret
                exact ⟨by first | rfl | (rw [hr]; rfl), HB6.out⟩
          · refine region_madeG 15 17 [fIs (.pointer (some ⟨A5, 6, none⟩)), fIs (.agg #[.int .i64 a.wr.f, .int .i64 a.wr.w]), fIs (.int .i64 0), fIs (.pointer (some ⟨A6, 0, none⟩)), fIs (.pointer (some ⟨A6, 0, none⟩)), fIs (.agg #[.int .i64 b.r0.f, .int .i64 b.r0.w]), fIs (.bool true), fIs (.bool true), fIs undef, fIs undef, fIs undef, fIs undef, fIs undef, fIs undef, fIs undef] [none, none, none, none, none, none, none, some true, none, none, none, none, none, none, none] [true, true, true, true, true, true, true, true, false, false, false, false, false, false, false] (by kernel_rfl) (by kernel_rfl) (by kernel_rfl) (fun ch p q w3 e h => by obtain ⟨t1, d1⟩ := p; obtain ⟨t2, d2⟩ := q; cases e; exact h) ⟨fIs_good _, fIs_good _, fIs_good _, fIs_good _, fIs_good _, fIs_good _, fIs_good _, fIs_good _, fIs_good _, fIs_good _, fIs_good _, fIs_good _, fIs_good _, fIs_good _, fIs_good _, trivial⟩ ⟨fun _ _ h => h, rfl⟩ ?mkH0 ?restH0
            case mkH0 =>
              refine ⟨fun u wz hb hd => ?_, fun u wz hb hd => ?_, fun u wz hb hd => ?_, fun u wz hb hd => ?_, fun u wz hb hd => ?_, fun u wz hb hd => ?_, fun u wz hb hd => ?_, fun u wz hb hd => ?_, ⟨fun _ => rfl, rfl⟩, ⟨fun _ => rfl, rfl⟩, ⟨fun _ => rfl, rfl⟩, ⟨fun _ => rfl, rfl⟩, ⟨fun _ => rfl, rfl⟩, ⟨fun _ => rfl, rfl⟩, ⟨fun _ => rfl, rfl⟩, trivial⟩
              all_goals simp only [Act.put, List.setIfInBounds_toArray, List.set_cons_zero, List.set_cons_succ]
              · go_simp
                exact ⟨rfl, Below.refl _ _, fun h => by cases h⟩
              · have e0 : u 0 = .pointer (some ⟨A5, 6, none⟩) := hd 0 (by omega) (by kernel_rfl)
                rw [e0]
                have p6' := (hb.cell (p := ⟨A5, 6, none⟩) (lt_of_cell p6)).trans p6
                have p7' := (hb.cell (p := ⟨A5, 7, none⟩) (lt_of_cell p7)).trans p7
                go_simp
                exact ⟨rfl, Below.refl _ _, fun h => by cases h⟩
              · go_simp
                exact ⟨rfl, Below.refl _ _, fun h => by cases h⟩
              · go_simp
                exact ⟨rfl, Below.refl _ _, fun h => by cases h⟩
              · have e2 : u 2 = .int .i64 0 := hd 2 (by omega) (by kernel_rfl)
                have e3 : u 3 = .pointer (some ⟨A6, 0, none⟩) := hd 3 (by omega) (by kernel_rfl)
                rw [e2, e3]
                go_simp
                exact ⟨rfl, Below.refl _ _, fun h => by cases h⟩
              · have e4 : u 4 = .pointer (some ⟨A6, 0, none⟩) := hd 4 (by omega) (by kernel_rfl)
                rw [e4]
                have q0' := (hb.cell (p := ⟨A6, 0, none⟩) (lt_of_cell q0)).trans q0
                have q1' := (hb.cell (p := ⟨A6, 1, none⟩) (lt_of_cell q1)).trans q1
                go_simp
                exact ⟨rfl, Below.refl _ _, fun h => by cases h⟩
              · have e1 : u 1 = .agg #[.int .i64 a.wr.f, .int .i64 a.wr.w] := hd 1 (by omega) (by kernel_rfl)
                have e5 : u 5 = .agg #[.int .i64 b.r0.f, .int .i64 b.r0.w] := hd 5 (by omega) (by kernel_rfl)
                rw [e1, e5]
                go_simp
                refine (HM1.out wz).mono ?_
                rintro r w2 ⟨rfl, hb2⟩
                exact ⟨rfl, hb2, fun h => by cases h⟩
              · have e6 : u 6 = .bool true := hd 6 (by omega) (by kernel_rfl)
                rw [e6]
                go_simp
                exact ⟨rfl, Below.refl _ _, fun h => by cases h⟩
            case restH0 =>
              intro u wz hb hf hp
              have f0 : u 0 = .pointer (some ⟨A5, 6, none⟩) := hf 0 (by omega)
              have f1 : u 1 = .agg #[.int .i64 a.wr.f, .int .i64 a.wr.w] := hf 1 (by omega)
              have f2 : u 2 = .int .i64 0 := hf 2 (by omega)
              have f3 : u 3 = .pointer (some ⟨A6, 0, none⟩) := hf 3 (by omega)
              have f4 : u 4 = .pointer (some ⟨A6, 0, none⟩) := hf 4 (by omega)
              have f5 : u 5 = .agg #[.int .i64 b.r0.f, .int .i64 b.r0.w] := hf 5 (by omega)
              have f6 : u 6 = .bool true := hf 6 (by omega)
              have f7 : u 7 = .bool true := hf 7 (by omega)
              have f8 : u 8 = undef := hf 8 (by omega)
              have f9 : u 9 = undef := hf 9 (by omega)
              have f10 : u 10 = undef := hf 10 (by omega)
              have f11 : u 11 = undef := hf 11 (by omega)
              have f12 : u 12 = undef := hf 12 (by omega)
              have f13 : u 13 = undef := hf 13 (by omega)
              have f14 : u 14 = undef := hf 14 (by omega)
              refine UptoW.rest 1 15 (by rfl) (by kernel_rfl) ?_
              simp only [List.take, List.drop, putOps, Act.put, List.setIfInBounds_toArray, List.set_cons_zero, List.set_cons_succ, Nat.reduceAdd, f0, f1, f2, f3, f4, f5, f6, f7, f8, f9, f10, f11, f12, f13, f14]
              clear f0 f1 f2 f3 f4 f5 f6 f7 f8 f9 f10 f11 f12 f13 f14 hf hp
              have HA6 := hide (HA.out.below hb)
              have HD6 := hide (HD.out.below hb)
              have HB6 := hide (bl_on HBR.out hb)
              clear hb p0 p1 p2 p3 p4 p5 p6 p7 zp q0 q1 q2 q3 q4 q5 q6 q7 zq
              have hr : R = true := by rw [HR.out, ← HP.out]; simp
              go_wp2_with fail
              go_ret
              exact ⟨by first | rfl | (rw [hr]; rfl), HB6.out⟩
        · have HM1 := hide (fun V => rMeet_any a.wr b.r1 HX.out.wr HY.out.r1 V)
          have HM2 := hide (fun V => rMeet_any b.wr a.r1 HY.out.wr HX.out.r1 V)
          obtain ⟨p, hp⟩ : ∃ p, p = meetV a.wr b.r1 := ⟨_, rfl⟩
          obtain ⟨q, hq⟩ : ∃ q, q = meetV b.wr a.r1 := ⟨_, rfl⟩
          simp only [← hp] at HM1
          simp only [← hq] at HM2
          have HP := hide hp
          have HQ := hide hq
          clear hp hq
          go_upto_region 7 with fail
          cases p
          · cases q
            · refine region_madeG 15 17 [fIs (.pointer (some ⟨A5, 6, none⟩)), fIs (.agg #[.int .i64 a.wr.f, .int .i64 a.wr.w]), fIs (.int .i64 1), fIs (.pointer (some ⟨A6, 0, none⟩)), fIs (.pointer (some ⟨A6, 2, none⟩)), fIs (.agg #[.int .i64 b.r1.f, .int .i64 b.r1.w]), fIs (.bool false), fIs (.bool false), fIs (.pointer (some ⟨A6, 6, none⟩)), fIs (.agg #[.int .i64 b.wr.f, .int .i64 b.wr.w]), fIs (.int .i64 1), fIs (.pointer (some ⟨A5, 0, none⟩)), fIs (.pointer (some ⟨A5, 2, none⟩)), fIs (.agg #[.int .i64 a.r1.f, .int .i64 a.r1.w]), fIs (.bool false)] [none, none, none, none, none, none, none, some false, none, none, none, none, none, none, none] [true, true, true, true, true, true, true, true, true, true, true, true, true, true, true] (by kernel_rfl) (by kernel_rfl) (by kernel_rfl) (fun ch p q w3 e h => by obtain ⟨t1, d1⟩ := p; obtain ⟨t2, d2⟩ := q; cases e; exact h) ⟨fIs_good _, fIs_good _, fIs_good _, fIs_good _, fIs_good _, fIs_good _, fIs_good _, fIs_good _, fIs_good _, fIs_good _, fIs_good _, fIs_good _, fIs_good _, fIs_good _, fIs_good _, trivial⟩ ⟨fun _ _ h => h, rfl⟩ ?mkF1 ?restF1
              case mkF1 =>
                refine ⟨fun u wz hb hd => ?_, fun u wz hb hd => ?_, fun u wz hb hd => ?_, fun u wz hb hd => ?_, fun u wz hb hd => ?_, fun u wz hb hd => ?_, fun u wz hb hd => ?_, fun u wz hb hd => ?_, fun u wz hb hd => ?_, fun u wz hb hd => ?_, fun u wz hb hd => ?_, fun u wz hb hd => ?_, fun u wz hb hd => ?_, fun u wz hb hd => ?_, fun u wz hb hd => ?_, trivial⟩
                all_goals simp only [Act.put, List.setIfInBounds_toArray, List.set_cons_zero, List.set_cons_succ]
                · go_simp
                  exact ⟨rfl, Below.refl _ _, fun h => by cases h⟩
                · have e0 : u 0 = .pointer (some ⟨A5, 6, none⟩) := hd 0 (by omega) (by kernel_rfl)
                  rw [e0]
                  have p6' := (hb.cell (p := ⟨A5, 6, none⟩) (lt_of_cell p6)).trans p6
                  have p7' := (hb.cell (p := ⟨A5, 7, none⟩) (lt_of_cell p7)).trans p7
                  go_simp
                  exact ⟨rfl, Below.refl _ _, fun h => by cases h⟩
                · go_simp
                  exact ⟨rfl, Below.refl _ _, fun h => by cases h⟩
                · go_simp
                  exact ⟨rfl, Below.refl _ _, fun h => by cases h⟩
                · have e2 : u 2 = .int .i64 1 := hd 2 (by omega) (by kernel_rfl)
                  have e3 : u 3 = .pointer (some ⟨A6, 0, none⟩) := hd 3 (by omega) (by kernel_rfl)
                  rw [e2, e3]
                  go_simp
                  exact ⟨rfl, Below.refl _ _, fun h => by cases h⟩
                · have e4 : u 4 = .pointer (some ⟨A6, 2, none⟩) := hd 4 (by omega) (by kernel_rfl)
                  rw [e4]
                  have q2' := (hb.cell (p := ⟨A6, 2, none⟩) (lt_of_cell q2)).trans q2
                  have q3' := (hb.cell (p := ⟨A6, 3, none⟩) (lt_of_cell q3)).trans q3
                  go_simp
                  exact ⟨rfl, Below.refl _ _, fun h => by cases h⟩
                · have e1 : u 1 = .agg #[.int .i64 a.wr.f, .int .i64 a.wr.w] := hd 1 (by omega) (by kernel_rfl)
                  have e5 : u 5 = .agg #[.int .i64 b.r1.f, .int .i64 b.r1.w] := hd 5 (by omega) (by kernel_rfl)
                  rw [e1, e5]
                  go_simp
                  refine (HM1.out wz).mono ?_
                  rintro r w2 ⟨rfl, hb2⟩
                  exact ⟨rfl, hb2, fun h => by cases h⟩
                · have e6 : u 6 = .bool false := hd 6 (by omega) (by kernel_rfl)
                  rw [e6]
                  go_simp
                  exact ⟨rfl, Below.refl _ _, fun h => by cases h⟩
                · go_simp
                  exact ⟨rfl, Below.refl _ _, fun h => by cases h⟩
                · have e8 : u 8 = .pointer (some ⟨A6, 6, none⟩) := hd 8 (by omega) (by kernel_rfl)
                  rw [e8]
                  have q6' := (hb.cell (p := ⟨A6, 6, none⟩) (lt_of_cell q6)).trans q6
                  have q7' := (hb.cell (p := ⟨A6, 7, none⟩) (lt_of_cell q7)).trans q7
                  go_simp
                  exact ⟨rfl, Below.refl _ _, fun h => by cases h⟩
                · go_simp
                  exact ⟨rfl, Below.refl _ _, fun h => by cases h⟩
                · go_simp
                  exact ⟨rfl, Below.refl _ _, fun h => by cases h⟩
                · have e10 : u 10 = .int .i64 1 := hd 10 (by omega) (by kernel_rfl)
                  have e11 : u 11 = .pointer (some ⟨A5, 0, none⟩) := hd 11 (by omega) (by kernel_rfl)
                  rw [e10, e11]
                  go_simp
                  exact ⟨rfl, Below.refl _ _, fun h => by cases h⟩
                · have e12 : u 12 = .pointer (some ⟨A5, 2, none⟩) := hd 12 (by omega) (by kernel_rfl)
                  rw [e12]
                  have p2' := (hb.cell (p := ⟨A5, 2, none⟩) (lt_of_cell p2)).trans p2
                  have p3' := (hb.cell (p := ⟨A5, 3, none⟩) (lt_of_cell p3)).trans p3
                  go_simp
                  exact ⟨rfl, Below.refl _ _, fun h => by cases h⟩
                · have e9 : u 9 = .agg #[.int .i64 b.wr.f, .int .i64 b.wr.w] := hd 9 (by omega) (by kernel_rfl)
                  have e13 : u 13 = .agg #[.int .i64 a.r1.f, .int .i64 a.r1.w] := hd 13 (by omega) (by kernel_rfl)
                  rw [e9, e13]
                  go_simp
                  refine (HM2.out wz).mono ?_
                  rintro r w2 ⟨rfl, hb2⟩
                  exact ⟨rfl, hb2, fun h => by cases h⟩
              case restF1 =>
                intro u wz hb hf hp
                have f0 : u 0 = .pointer (some ⟨A5, 6, none⟩) := hf 0 (by omega)
                have f1 : u 1 = .agg #[.int .i64 a.wr.f, .int .i64 a.wr.w] := hf 1 (by omega)
                have f2 : u 2 = .int .i64 1 := hf 2 (by omega)
                have f3 : u 3 = .pointer (some ⟨A6, 0, none⟩) := hf 3 (by omega)
                have f4 : u 4 = .pointer (some ⟨A6, 2, none⟩) := hf 4 (by omega)
                have f5 : u 5 = .agg #[.int .i64 b.r1.f, .int .i64 b.r1.w] := hf 5 (by omega)
                have f6 : u 6 = .bool false := hf 6 (by omega)
                have f7 : u 7 = .bool false := hf 7 (by omega)
                have f8 : u 8 = .pointer (some ⟨A6, 6, none⟩) := hf 8 (by omega)
                have f9 : u 9 = .agg #[.int .i64 b.wr.f, .int .i64 b.wr.w] := hf 9 (by omega)
                have f10 : u 10 = .int .i64 1 := hf 10 (by omega)
                have f11 : u 11 = .pointer (some ⟨A5, 0, none⟩) := hf 11 (by omega)
                have f12 : u 12 = .pointer (some ⟨A5, 2, none⟩) := hf 12 (by omega)
                have f13 : u 13 = .agg #[.int .i64 a.r1.f, .int .i64 a.r1.w] := hf 13 (by omega)
                have f14 : u 14 = .bool false := hf 14 (by omega)
                refine UptoW.rest 1 15 (by rfl) (by kernel_rfl) ?_
                simp only [List.take, List.drop, putOps, Act.put, List.setIfInBounds_toArray, List.set_cons_zero, List.set_cons_succ, Nat.reduceAdd, f0, f1, f2, f3, f4, f5, f6, f7, f8, f9, f10, f11, f12, f13, f14]
                clear f0 f1 f2 f3 f4 f5 f6 f7 f8 f9 f10 f11 f12 f13 f14 hf hp
                have HA6 := hide (HA.out.below hb)
                have HD6 := hide (HD.out.below hb)
                have HB6 := hide (bl_on HBR.out hb)
                clear hb p0 p1 p2 p3 p4 p5 p6 p7 zp q0 q1 q2 q3 q4 q5 q6 q7 zq
                go_wp2_with fail
                go_roundw
                case rel => exact ⟨2, by omega, by go_num, fun _ => HG0.out (by omega), fun _ => ⟨HP.out.symm, HQ.out.symm⟩, fun h => by omega, HA6.out, HD6.out, HB6.out⟩
                case measure => simp [intOf]
            · refine region_madeG 15 17 [fIs (.pointer (some ⟨A5, 6, none⟩)), fIs (.agg #[.int .i64 a.wr.f, .int .i64 a.wr.w]), fIs (.int .i64 1), fIs (.pointer (some ⟨A6, 0, none⟩)), fIs (.pointer (some ⟨A6, 2, none⟩)), fIs (.agg #[.int .i64 b.r1.f, .int .i64 b.r1.w]), fIs (.bool false), fIs (.bool false), fIs (.pointer (some ⟨A6, 6, none⟩)), fIs (.agg #[.int .i64 b.wr.f, .int .i64 b.wr.w]), fIs (.int .i64 1), fIs (.pointer (some ⟨A5, 0, none⟩)), fIs (.pointer (some ⟨A5, 2, none⟩)), fIs (.agg #[.int .i64 a.r1.f, .int .i64 a.r1.w]), fIs (.bool true)] [none, none, none, none, none, none, none, some false, none, none, none, none, none, none, none] [true, true, true, true, true, true, true, true, true, true, true, true, true, true, true] (by kernel_rfl) (by kernel_rfl) (by kernel_rfl) (fun ch p q w3 e h => by obtain ⟨t1, d1⟩ := p; obtain ⟨t2, d2⟩ := q; cases e; exact h) ⟨fIs_good _, fIs_good _, fIs_good _, fIs_good _, fIs_good _, fIs_good _, fIs_good _, fIs_good _, fIs_good _, fIs_good _, fIs_good _, fIs_good _, fIs_good _, fIs_good _, fIs_good _, trivial⟩ ⟨fun _ _ h => h, rfl⟩ ?mkG1 ?restG1
              case mkG1 =>
                refine ⟨fun u wz hb hd => ?_, fun u wz hb hd => ?_, fun u wz hb hd => ?_, fun u wz hb hd => ?_, fun u wz hb hd => ?_, fun u wz hb hd => ?_, fun u wz hb hd => ?_, fun u wz hb hd => ?_, fun u wz hb hd => ?_, fun u wz hb hd => ?_, fun u wz hb hd => ?_, fun u wz hb hd => ?_, fun u wz hb hd => ?_, fun u wz hb hd => ?_, fun u wz hb hd => ?_, trivial⟩
                all_goals simp only [Act.put, List.setIfInBounds_toArray, List.set_cons_zero, List.set_cons_succ]
                · go_simp
                  exact ⟨rfl, Below.refl _ _, fun h => by cases h⟩
                · have e0 : u 0 = .pointer (some ⟨A5, 6, none⟩) := hd 0 (by omega) (by kernel_rfl)
                  rw [e0]
                  have p6' := (hb.cell (p := ⟨A5, 6, none⟩) (lt_of_cell p6)).trans p6
                  have p7' := (hb.cell (p := ⟨A5, 7, none⟩) (lt_of_cell p7)).trans p7
                  go_simp
                  exact ⟨rfl, Below.refl _ _, fun h => by cases h⟩
                · go_simp
                  exact ⟨rfl, Below.refl _ _, fun h => by cases h⟩
                · go_simp
                  exact ⟨rfl, Below.refl _ _, fun h => by cases h⟩
                · have e2 : u 2 = .int .i64 1 := hd 2 (by omega) (by kernel_rfl)
                  have e3 : u 3 = .pointer (some ⟨A6, 0, none⟩) := hd 3 (by omega) (by kernel_rfl)
                  rw [e2, e3]
                  go_simp
                  exact ⟨rfl, Below.refl _ _, fun h => by cases h⟩
                · have e4 : u 4 = .pointer (some ⟨A6, 2, none⟩) := hd 4 (by omega) (by kernel_rfl)
                  rw [e4]
                  have q2' := (hb.cell (p := ⟨A6, 2, none⟩) (lt_of_cell q2)).trans q2
                  have q3' := (hb.cell (p := ⟨A6, 3, none⟩) (lt_of_cell q3)).trans q3
                  go_simp
                  exact ⟨rfl, Below.refl _ _, fun h => by cases h⟩
                · have e1 : u 1 = .agg #[.int .i64 a.wr.f, .int .i64 a.wr.w] := hd 1 (by omega) (by kernel_rfl)
                  have e5 : u 5 = .agg #[.int .i64 b.r1.f, .int .i64 b.r1.w] := hd 5 (by omega) (by kernel_rfl)
                  rw [e1, e5]
                  go_simp
                  refine (HM1.out wz).mono ?_
                  rintro r w2 ⟨rfl, hb2⟩
                  exact ⟨rfl, hb2, fun h => by cases h⟩
                · have e6 : u 6 = .bool false := hd 6 (by omega) (by kernel_rfl)
                  rw [e6]
                  go_simp
                  exact ⟨rfl, Below.refl _ _, fun h => by cases h⟩
                · go_simp
                  exact ⟨rfl, Below.refl _ _, fun h => by cases h⟩
                · have e8 : u 8 = .pointer (some ⟨A6, 6, none⟩) := hd 8 (by omega) (by kernel_rfl)
                  rw [e8]
                  have q6' := (hb.cell (p := ⟨A6, 6, none⟩) (lt_of_cell q6)).trans q6
                  have q7' := (hb.cell (p := ⟨A6, 7, none⟩) (lt_of_cell q7)).trans q7
                  go_simp
                  exact ⟨rfl, Below.refl _ _, fun h => by cases h⟩
                · go_simp
                  exact ⟨rfl, Below.refl _ _, fun h => by cases h⟩
                · go_simp
                  exact ⟨rfl, Below.refl _ _, fun h => by cases h⟩
                · have e10 : u 10 = .int .i64 1 := hd 10 (by omega) (by kernel_rfl)
                  have e11 : u 11 = .pointer (some ⟨A5, 0, none⟩) := hd 11 (by omega) (by kernel_rfl)
                  rw [e10, e11]
                  go_simp
                  exact ⟨rfl, Below.refl _ _, fun h => by cases h⟩
                · have e12 : u 12 = .pointer (some ⟨A5, 2, none⟩) := hd 12 (by omega) (by kernel_rfl)
                  rw [e12]
                  have p2' := (hb.cell (p := ⟨A5, 2, none⟩) (lt_of_cell p2)).trans p2
                  have p3' := (hb.cell (p := ⟨A5, 3, none⟩) (lt_of_cell p3)).trans p3
                  go_simp
                  exact ⟨rfl, Below.refl _ _, fun h => by cases h⟩
                · have e9 : u 9 = .agg #[.int .i64 b.wr.f, .int .i64 b.wr.w] := hd 9 (by omega) (by kernel_rfl)
                  have e13 : u 13 = .agg #[.int .i64 a.r1.f, .int .i64 a.r1.w] := hd 13 (by omega) (by kernel_rfl)
                  rw [e9, e13]
                  go_simp
                  refine (HM2.out wz).mono ?_
                  rintro r w2 ⟨rfl, hb2⟩
                  exact ⟨rfl, hb2, fun h => by cases h⟩
              case restG1 =>
                intro u wz hb hf hp
                have f0 : u 0 = .pointer (some ⟨A5, 6, none⟩) := hf 0 (by omega)
                have f1 : u 1 = .agg #[.int .i64 a.wr.f, .int .i64 a.wr.w] := hf 1 (by omega)
                have f2 : u 2 = .int .i64 1 := hf 2 (by omega)
                have f3 : u 3 = .pointer (some ⟨A6, 0, none⟩) := hf 3 (by omega)
                have f4 : u 4 = .pointer (some ⟨A6, 2, none⟩) := hf 4 (by omega)
                have f5 : u 5 = .agg #[.int .i64 b.r1.f, .int .i64 b.r1.w] := hf 5 (by omega)
                have f6 : u 6 = .bool false := hf 6 (by omega)
                have f7 : u 7 = .bool false := hf 7 (by omega)
                have f8 : u 8 = .pointer (some ⟨A6, 6, none⟩) := hf 8 (by omega)
                have f9 : u 9 = .agg #[.int .i64 b.wr.f, .int .i64 b.wr.w] := hf 9 (by omega)
                have f10 : u 10 = .int .i64 1 := hf 10 (by omega)
                have f11 : u 11 = .pointer (some ⟨A5, 0, none⟩) := hf 11 (by omega)
                have f12 : u 12 = .pointer (some ⟨A5, 2, none⟩) := hf 12 (by omega)
                have f13 : u 13 = .agg #[.int .i64 a.r1.f, .int .i64 a.r1.w] := hf 13 (by omega)
                have f14 : u 14 = .bool true := hf 14 (by omega)
                refine UptoW.rest 1 15 (by rfl) (by kernel_rfl) ?_
                simp only [List.take, List.drop, putOps, Act.put, List.setIfInBounds_toArray, List.set_cons_zero, List.set_cons_succ, Nat.reduceAdd, f0, f1, f2, f3, f4, f5, f6, f7, f8, f9, f10, f11, f12, f13, f14]
                clear f0 f1 f2 f3 f4 f5 f6 f7 f8 f9 f10 f11 f12 f13 f14 hf hp
                have HA6 := hide (HA.out.below hb)
                have HD6 := hide (HD.out.below hb)
                have HB6 := hide (bl_on HBR.out hb)
                clear hb p0 p1 p2 p3 p4 p5 p6 p7 zp q0 q1 q2 q3 q4 q5 q6 q7 zq
                have hr : R = true := by rw [HR.out, ← HQ.out]; simp
                go_wp2_with fail
                go_ret
                exact ⟨by first | rfl | (rw [hr]; rfl), HB6.out⟩
          · refine region_madeG 15 17 [fIs (.pointer (some ⟨A5, 6, none⟩)), fIs (.agg #[.int .i64 a.wr.f, .int .i64 a.wr.w]), fIs (.int .i64 1), fIs (.pointer (some ⟨A6, 0, none⟩)), fIs (.pointer (some ⟨A6, 2, none⟩)), fIs (.agg #[.int .i64 b.r1.f, .int .i64 b.r1.w]), fIs (.bool true), fIs (.bool true), fIs undef, fIs undef, fIs undef, fIs undef, fIs undef, fIs undef, fIs undef] [none, none, none, none, none, none, none, some true, none, none, none, none, none, none, none] [true, true, true, true, true, true, true, true, false, false, false, false, false, false, false] (by kernel_rfl) (by kernel_rfl) (by kernel_rfl) (fun ch p q w3 e h => by obtain ⟨t1, d1⟩ := p; obtain ⟨t2, d2⟩ := q; cases e; exact h) ⟨fIs_good _, fIs_good _, fIs_good _, fIs_good _, fIs_good _, fIs_good _, fIs_good _, fIs_good _, fIs_good _, fIs_good _, fIs_good _, fIs_good _, fIs_good _, fIs_good _, fIs_good _, trivial⟩ ⟨fun _ _ h => h, rfl⟩ ?mkH1 ?restH1
            case mkH1 =>
              refine ⟨fun u wz hb hd => ?_, fun u wz hb hd => ?_, fun u wz hb hd => ?_, fun u wz hb hd => ?_, fun u wz hb hd => ?_, fun u wz hb hd => ?_, fun u wz hb hd => ?_, fun u wz hb hd => ?_, ⟨fun _ => rfl, rfl⟩, ⟨fun _ => rfl, rfl⟩, ⟨fun _ => rfl, rfl⟩, ⟨fun _ => rfl, rfl⟩, ⟨fun _ => rfl, rfl⟩, ⟨fun _ => rfl, rfl⟩, ⟨fun _ => rfl, rfl⟩, trivial⟩
              all_goals simp only [Act.put, List.setIfInBounds_toArray, List.set_cons_zero, List.set_cons_succ]
              · go_simp
                exact ⟨rfl, Below.refl _ _, fun h => by cases h⟩
              · have e0 : u 0 = .pointer (some ⟨A5, 6, none⟩) := hd 0 (by omega) (by kernel_rfl)
                rw [e0]
                have p6' := (hb.cell (p := ⟨A5, 6, none⟩) (lt_of_cell p6)).trans p6
                have p7' := (hb.cell (p := ⟨A5, 7, none⟩) (lt_of_cell p7)).trans p7
                go_simp
                exact ⟨rfl, Below.refl _ _, fun h => by cases h⟩
              · go_simp
                exact ⟨rfl, Below.refl _ _, fun h => by cases h⟩
              · go_simp
                exact ⟨rfl, Below.refl _ _, fun h => by cases h⟩
              · have e2 : u 2 = .int .i64 1 := hd 2 (by omega) (by kernel_rfl)
                have e3 : u 3 = .pointer (some ⟨A6, 0, none⟩) := hd 3 (by omega) (by kernel_rfl)
                rw [e2, e3]
                go_simp
                exact ⟨rfl, Below.refl _ _, fun h => by cases h⟩
              · have e4 : u 4 = .pointer (some ⟨A6, 2, none⟩) := hd 4 (by omega) (by kernel_rfl)
                rw [e4]
                have q2' := (hb.cell (p := ⟨A6, 2, none⟩) (lt_of_cell q2)).trans q2
                have q3' := (hb.cell (p := ⟨A6, 3, none⟩) (lt_of_cell q3)).trans q3
                go_simp
                exact ⟨rfl, Below.refl _ _, fun h => by cases h⟩
              · have e1 : u 1 = .agg #[.int .i64 a.wr.f, .int .i64 a.wr.w] := hd 1 (by omega) (by kernel_rfl)
                have e5 : u 5 = .agg #[.int .i64 b.r1.f, .int .i64 b.r1.w] := hd 5 (by omega) (by kernel_rfl)
                rw [e1, e5]
                go_simp
                refine (HM1.out wz).mono ?_
                rintro r w2 ⟨rfl, hb2⟩
                exact ⟨rfl, hb2, fun h => by cases h⟩
              · have e6 : u 6 = .bool true := hd 6 (by omega) (by kernel_rfl)
                rw [e6]
                go_simp
                exact ⟨rfl, Below.refl _ _, fun h => by cases h⟩
            case restH1 =>
              intro u wz hb hf hp
              have f0 : u 0 = .pointer (some ⟨A5, 6, none⟩) := hf 0 (by omega)
              have f1 : u 1 = .agg #[.int .i64 a.wr.f, .int .i64 a.wr.w] := hf 1 (by omega)
              have f2 : u 2 = .int .i64 1 := hf 2 (by omega)
              have f3 : u 3 = .pointer (some ⟨A6, 0, none⟩) := hf 3 (by omega)
              have f4 : u 4 = .pointer (some ⟨A6, 2, none⟩) := hf 4 (by omega)
              have f5 : u 5 = .agg #[.int .i64 b.r1.f, .int .i64 b.r1.w] := hf 5 (by omega)
              have f6 : u 6 = .bool true := hf 6 (by omega)
              have f7 : u 7 = .bool true := hf 7 (by omega)
              have f8 : u 8 = undef := hf 8 (by omega)
              have f9 : u 9 = undef := hf 9 (by omega)
              have f10 : u 10 = undef := hf 10 (by omega)
              have f11 : u 11 = undef := hf 11 (by omega)
              have f12 : u 12 = undef := hf 12 (by omega)
              have f13 : u 13 = undef := hf 13 (by omega)
              have f14 : u 14 = undef := hf 14 (by omega)
              refine UptoW.rest 1 15 (by rfl) (by kernel_rfl) ?_
              simp only [List.take, List.drop, putOps, Act.put, List.setIfInBounds_toArray, List.set_cons_zero, List.set_cons_succ, Nat.reduceAdd, f0, f1, f2, f3, f4, f5, f6, f7, f8, f9, f10, f11, f12, f13, f14]
              clear f0 f1 f2 f3 f4 f5 f6 f7 f8 f9 f10 f11 f12 f13 f14 hf hp
              have HA6 := hide (HA.out.below hb)
              have HD6 := hide (HD.out.below hb)
              have HB6 := hide (bl_on HBR.out hb)
              clear hb p0 p1 p2 p3 p4 p5 p6 p7 zp q0 q1 q2 q3 q4 q5 q6 q7 zq
              have hr : R = true := by rw [HR.out, ← HP.out]; simp
              go_wp2_with fail
              go_ret
              exact ⟨by first | rfl | (rw [hr]; rfl), HB6.out⟩
        · have HM1 := hide (fun V => rMeet_any a.wr b.r2 HX.out.wr HY.out.r2 V)
          have HM2 := hide (fun V => rMeet_any b.wr a.r2 HY.out.wr HX.out.r2 V)
          obtain ⟨p, hp⟩ : ∃ p, p = meetV a.wr b.r2 := ⟨_, rfl⟩
          obtain ⟨q, hq⟩ : ∃ q, q = meetV b.wr a.r2 := ⟨_, rfl⟩
          simp only [← hp] at HM1
          simp only [← hq] at HM2
          have HP := hide hp
          have HQ := hide hq
          clear hp hq
          go_upto_region 7 with fail
          cases p
          · cases q
            · refine region_madeG 15 17 [fIs (.pointer (some ⟨A5, 6, none⟩)), fIs (.agg #[.int .i64 a.wr.f, .int .i64 a.wr.w]), fIs (.int .i64 2), fIs (.pointer (some ⟨A6, 0, none⟩)), fIs (.pointer (some ⟨A6, 4, none⟩)), fIs (.agg #[.int .i64 b.r2.f, .int .i64 b.r2.w]), fIs (.bool false), fIs (.bool false), fIs (.pointer (some ⟨A6, 6, none⟩)), fIs (.agg #[.int .i64 b.wr.f, .int .i64 b.wr.w]), fIs (.int .i64 2), fIs (.pointer (some ⟨A5, 0, none⟩)), fIs (.pointer (some ⟨A5, 4, none⟩)), fIs (.agg #[.int .i64 a.r2.f, .int .i64 a.r2.w]), fIs (.bool false)] [none, none, none, none, none, none, none, some false, none, none, none, none, none, none, none] [true, true, true, true, true, true, true, true, true, true, true, true, true, true, true] (by kernel_rfl) (by kernel_rfl) (by kernel_rfl) (fun ch p q w3 e h => by obtain ⟨t1, d1⟩ := p; obtain ⟨t2, d2⟩ := q; cases e; exact h) ⟨fIs_good _, fIs_good _, fIs_good _, fIs_good _, fIs_good _, fIs_good _, fIs_good _, fIs_good _, fIs_good _, fIs_good _, fIs_good _, fIs_good _, fIs_good _, fIs_good _, fIs_good _, trivial⟩ ⟨fun _ _ h => h, rfl⟩ ?mkF2 ?restF2
              case mkF2 =>
                refine ⟨fun u wz hb hd => ?_, fun u wz hb hd => ?_, fun u wz hb hd => ?_, fun u wz hb hd => ?_, fun u wz hb hd => ?_, fun u wz hb hd => ?_, fun u wz hb hd => ?_, fun u wz hb hd => ?_, fun u wz hb hd => ?_, fun u wz hb hd => ?_, fun u wz hb hd => ?_, fun u wz hb hd => ?_, fun u wz hb hd => ?_, fun u wz hb hd => ?_, fun u wz hb hd => ?_, trivial⟩
                all_goals simp only [Act.put, List.setIfInBounds_toArray, List.set_cons_zero, List.set_cons_succ]
                · go_simp
                  exact ⟨rfl, Below.refl _ _, fun h => by cases h⟩
                · have e0 : u 0 = .pointer (some ⟨A5, 6, none⟩) := hd 0 (by omega) (by kernel_rfl)
                  rw [e0]
                  have p6' := (hb.cell (p := ⟨A5, 6, none⟩) (lt_of_cell p6)).trans p6
                  have p7' := (hb.cell (p := ⟨A5, 7, none⟩) (lt_of_cell p7)).trans p7
                  go_simp
                  exact ⟨rfl, Below.refl _ _, fun h => by cases h⟩
                · go_simp
                  exact ⟨rfl, Below.refl _ _, fun h => by cases h⟩
                · go_simp
                  exact ⟨rfl, Below.refl _ _, fun h => by cases h⟩
                · have e2 : u 2 = .int .i64 2 := hd 2 (by omega) (by kernel_rfl)
                  have e3 : u 3 = .pointer (some ⟨A6, 0, none⟩) := hd 3 (by omega) (by kernel_rfl)
                  rw [e2, e3]
                  go_simp
                  exact ⟨rfl, Below.refl _ _, fun h => by cases h⟩
                · have e4 : u 4 = .pointer (some ⟨A6, 4, none⟩) := hd 4 (by omega) (by kernel_rfl)
                  rw [e4]
                  have q4' := (hb.cell (p := ⟨A6, 4, none⟩) (lt_of_cell q4)).trans q4
                  have q5' := (hb.cell (p := ⟨A6, 5, none⟩) (lt_of_cell q5)).trans q5
                  go_simp
                  exact ⟨rfl, Below.refl _ _, fun h => by cases h⟩
                · have e1 : u 1 = .agg #[.int .i64 a.wr.f, .int .i64 a.wr.w] := hd 1 (by omega) (by kernel_rfl)
                  have e5 : u 5 = .agg #[.int .i64 b.r2.f, .int .i64 b.r2.w] := hd 5 (by omega) (by kernel_rfl)
                  rw [e1, e5]
                  go_simp
                  refine (HM1.out wz).mono ?_
                  rintro r w2 ⟨rfl, hb2⟩
                  exact ⟨rfl, hb2, fun h => by cases h⟩
                · have e6 : u 6 = .bool false := hd 6 (by omega) (by kernel_rfl)
                  rw [e6]
                  go_simp
                  exact ⟨rfl, Below.refl _ _, fun h => by cases h⟩
                · go_simp
                  exact ⟨rfl, Below.refl _ _, fun h => by cases h⟩
                · have e8 : u 8 = .pointer (some ⟨A6, 6, none⟩) := hd 8 (by omega) (by kernel_rfl)
                  rw [e8]
                  have q6' := (hb.cell (p := ⟨A6, 6, none⟩) (lt_of_cell q6)).trans q6
                  have q7' := (hb.cell (p := ⟨A6, 7, none⟩) (lt_of_cell q7)).trans q7
                  go_simp
                  exact ⟨rfl, Below.refl _ _, fun h => by cases h⟩
                · go_simp
                  exact ⟨rfl, Below.refl _ _, fun h => by cases h⟩
                · go_simp
                  exact ⟨rfl, Below.refl _ _, fun h => by cases h⟩
                · have e10 : u 10 = .int .i64 2 := hd 10 (by omega) (by kernel_rfl)
                  have e11 : u 11 = .pointer (some ⟨A5, 0, none⟩) := hd 11 (by omega) (by kernel_rfl)
                  rw [e10, e11]
                  go_simp
                  exact ⟨rfl, Below.refl _ _, fun h => by cases h⟩
                · have e12 : u 12 = .pointer (some ⟨A5, 4, none⟩) := hd 12 (by omega) (by kernel_rfl)
                  rw [e12]
                  have p4' := (hb.cell (p := ⟨A5, 4, none⟩) (lt_of_cell p4)).trans p4
                  have p5' := (hb.cell (p := ⟨A5, 5, none⟩) (lt_of_cell p5)).trans p5
                  go_simp
                  exact ⟨rfl, Below.refl _ _, fun h => by cases h⟩
                · have e9 : u 9 = .agg #[.int .i64 b.wr.f, .int .i64 b.wr.w] := hd 9 (by omega) (by kernel_rfl)
                  have e13 : u 13 = .agg #[.int .i64 a.r2.f, .int .i64 a.r2.w] := hd 13 (by omega) (by kernel_rfl)
                  rw [e9, e13]
                  go_simp
                  refine (HM2.out wz).mono ?_
                  rintro r w2 ⟨rfl, hb2⟩
                  exact ⟨rfl, hb2, fun h => by cases h⟩
              case restF2 =>
                intro u wz hb hf hp
                have f0 : u 0 = .pointer (some ⟨A5, 6, none⟩) := hf 0 (by omega)
                have f1 : u 1 = .agg #[.int .i64 a.wr.f, .int .i64 a.wr.w] := hf 1 (by omega)
                have f2 : u 2 = .int .i64 2 := hf 2 (by omega)
                have f3 : u 3 = .pointer (some ⟨A6, 0, none⟩) := hf 3 (by omega)
                have f4 : u 4 = .pointer (some ⟨A6, 4, none⟩) := hf 4 (by omega)
                have f5 : u 5 = .agg #[.int .i64 b.r2.f, .int .i64 b.r2.w] := hf 5 (by omega)
                have f6 : u 6 = .bool false := hf 6 (by omega)
                have f7 : u 7 = .bool false := hf 7 (by omega)
                have f8 : u 8 = .pointer (some ⟨A6, 6, none⟩) := hf 8 (by omega)
                have f9 : u 9 = .agg #[.int .i64 b.wr.f, .int .i64 b.wr.w] := hf 9 (by omega)
                have f10 : u 10 = .int .i64 2 := hf 10 (by omega)
                have f11 : u 11 = .pointer (some ⟨A5, 0, none⟩) := hf 11 (by omega)
                have f12 : u 12 = .pointer (some ⟨A5, 4, none⟩) := hf 12 (by omega)
                have f13 : u 13 = .agg #[.int .i64 a.r2.f, .int .i64 a.r2.w] := hf 13 (by omega)
                have f14 : u 14 = .bool false := hf 14 (by omega)
                refine UptoW.rest 1 15 (by rfl) (by kernel_rfl) ?_
                simp only [List.take, List.drop, putOps, Act.put, List.setIfInBounds_toArray, List.set_cons_zero, List.set_cons_succ, Nat.reduceAdd, f0, f1, f2, f3, f4, f5, f6, f7, f8, f9, f10, f11, f12, f13, f14]
                clear f0 f1 f2 f3 f4 f5 f6 f7 f8 f9 f10 f11 f12 f13 f14 hf hp
                have HA6 := hide (HA.out.below hb)
                have HD6 := hide (HD.out.below hb)
                have HB6 := hide (bl_on HBR.out hb)
                clear hb p0 p1 p2 p3 p4 p5 p6 p7 zp q0 q1 q2 q3 q4 q5 q6 q7 zq
                go_wp2_with fail
                go_roundw
                case rel => exact ⟨3, by omega, by go_num, fun _ => HG0.out (by omega), fun _ => HG1.out (by omega), fun _ => ⟨HP.out.symm, HQ.out.symm⟩, HA6.out, HD6.out, HB6.out⟩
                case measure => simp [intOf]
            · refine region_madeG 15 17 [fIs (.pointer (some ⟨A5, 6, none⟩)), fIs (.agg #[.int .i64 a.wr.f, .int .i64 a.wr.w]), fIs (.int .i64 2), fIs (.pointer (some ⟨A6, 0, none⟩)), fIs (.pointer (some ⟨A6, 4, none⟩)), fIs (.agg #[.int .i64 b.r2.f, .int .i64 b.r2.w]), fIs (.bool false), fIs (.bool false), fIs (.pointer (some ⟨A6, 6, none⟩)), fIs (.agg #[.int .i64 b.wr.f, .int .i64 b.wr.w]), fIs (.int .i64 2), fIs (.pointer (some ⟨A5, 0, none⟩)), fIs (.pointer (some ⟨A5, 4, none⟩)), fIs (.agg #[.int .i64 a.r2.f, .int .i64 a.r2.w]), fIs (.bool true)] [none, none, none, none, none, none, none, some false, none, none, none, none, none, none, none] [true, true, true, true, true, true, true, true, true, true, true, true, true, true, true] (by kernel_rfl) (by kernel_rfl) (by kernel_rfl) (fun ch p q w3 e h => by obtain ⟨t1, d1⟩ := p; obtain ⟨t2, d2⟩ := q; cases e; exact h) ⟨fIs_good _, fIs_good _, fIs_good _, fIs_good _, fIs_good _, fIs_good _, fIs_good _, fIs_good _, fIs_good _, fIs_good _, fIs_good _, fIs_good _, fIs_good _, fIs_good _, fIs_good _, trivial⟩ ⟨fun _ _ h => h, rfl⟩ ?mkG2 ?restG2
              case mkG2 =>
                refine ⟨fun u wz hb hd => ?_, fun u wz hb hd => ?_, fun u wz hb hd => ?_, fun u wz hb hd => ?_, fun u wz hb hd => ?_, fun u wz hb hd => ?_, fun u wz hb hd => ?_, fun u wz hb hd => ?_, fun u wz hb hd => ?_, fun u wz hb hd => ?_, fun u wz hb hd => ?_, fun u wz hb hd => ?_, fun u wz hb hd => ?_, fun u wz hb hd => ?_, fun u wz hb hd => ?_, trivial⟩
                all_goals simp only [Act.put, List.setIfInBounds_toArray, List.set_cons_zero, List.set_cons_succ]
                · go_simp
                  exact ⟨rfl, Below.refl _ _, fun h => by cases h⟩
                · have e0 : u 0 = .pointer (some ⟨A5, 6, none⟩) := hd 0 (by omega) (by kernel_rfl)
                  rw [e0]
                  have p6' := (hb.cell (p := ⟨A5, 6, none⟩) (lt_of_cell p6)).trans p6
                  have p7' := (hb.cell (p := ⟨A5, 7, none⟩) (lt_of_cell p7)).trans p7
                  go_simp
                  exact ⟨rfl, Below.refl _ _, fun h => by cases h⟩
                · go_simp
                  exact ⟨rfl, Below.refl _ _, fun h => by cases h⟩
                · go_simp
                  exact ⟨rfl, Below.refl _ _, fun h => by cases h⟩
                · have e2 : u 2 = .int .i64 2 := hd 2 (by omega) (by kernel_rfl)
                  have e3 : u 3 = .pointer (some ⟨A6, 0, none⟩) := hd 3 (by omega) (by kernel_rfl)
                  rw [e2, e3]
                  go_simp
                  exact ⟨rfl, Below.refl _ _, fun h => by cases h⟩
                · have e4 : u 4 = .pointer (some ⟨A6, 4, none⟩) := hd 4 (by omega) (by kernel_rfl)
                  rw [e4]
                  have q4' := (hb.cell (p := ⟨A6, 4, none⟩) (lt_of_cell q4)).trans q4
                  have q5' := (hb.cell (p := ⟨A6, 5, none⟩) (lt_of_cell q5)).trans q5
                  go_simp
                  exact ⟨rfl, Below.refl _ _, fun h => by cases h⟩
                · have e1 : u 1 = .agg #[.int .i64 a.wr.f, .int .i64 a.wr.w] := hd 1 (by omega) (by kernel_rfl)
                  have e5 : u 5 = .agg #[.int .i64 b.r2.f, .int .i64 b.r2.w] := hd 5 (by omega) (by kernel_rfl)
                  rw [e1, e5]
                  go_simp
                  refine (HM1.out wz).mono ?_
                  rintro r w2 ⟨rfl, hb2⟩
                  exact ⟨rfl, hb2, fun h => by cases h⟩
                · have e6 : u 6 = .bool false := hd 6 (by omega) (by kernel_rfl)
                  rw [e6]
                  go_simp
                  exact ⟨rfl, Below.refl _ _, fun h => by cases h⟩
                · go_simp
                  exact ⟨rfl, Below.refl _ _, fun h => by cases h⟩
                · have e8 : u 8 = .pointer (some ⟨A6, 6, none⟩) := hd 8 (by omega) (by kernel_rfl)
                  rw [e8]
                  have q6' := (hb.cell (p := ⟨A6, 6, none⟩) (lt_of_cell q6)).trans q6
                  have q7' := (hb.cell (p := ⟨A6, 7, none⟩) (lt_of_cell q7)).trans q7
                  go_simp
                  exact ⟨rfl, Below.refl _ _, fun h => by cases h⟩
                · go_simp
                  exact ⟨rfl, Below.refl _ _, fun h => by cases h⟩
                · go_simp
                  exact ⟨rfl, Below.refl _ _, fun h => by cases h⟩
                · have e10 : u 10 = .int .i64 2 := hd 10 (by omega) (by kernel_rfl)
                  have e11 : u 11 = .pointer (some ⟨A5, 0, none⟩) := hd 11 (by omega) (by kernel_rfl)
                  rw [e10, e11]
                  go_simp
                  exact ⟨rfl, Below.refl _ _, fun h => by cases h⟩
                · have e12 : u 12 = .pointer (some ⟨A5, 4, none⟩) := hd 12 (by omega) (by kernel_rfl)
                  rw [e12]
                  have p4' := (hb.cell (p := ⟨A5, 4, none⟩) (lt_of_cell p4)).trans p4
                  have p5' := (hb.cell (p := ⟨A5, 5, none⟩) (lt_of_cell p5)).trans p5
                  go_simp
                  exact ⟨rfl, Below.refl _ _, fun h => by cases h⟩
                · have e9 : u 9 = .agg #[.int .i64 b.wr.f, .int .i64 b.wr.w] := hd 9 (by omega) (by kernel_rfl)
                  have e13 : u 13 = .agg #[.int .i64 a.r2.f, .int .i64 a.r2.w] := hd 13 (by omega) (by kernel_rfl)
                  rw [e9, e13]
                  go_simp
                  refine (HM2.out wz).mono ?_
                  rintro r w2 ⟨rfl, hb2⟩
                  exact ⟨rfl, hb2, fun h => by cases h⟩
              case restG2 =>
                intro u wz hb hf hp
                have f0 : u 0 = .pointer (some ⟨A5, 6, none⟩) := hf 0 (by omega)
                have f1 : u 1 = .agg #[.int .i64 a.wr.f, .int .i64 a.wr.w] := hf 1 (by omega)
                have f2 : u 2 = .int .i64 2 := hf 2 (by omega)
                have f3 : u 3 = .pointer (some ⟨A6, 0, none⟩) := hf 3 (by omega)
                have f4 : u 4 = .pointer (some ⟨A6, 4, none⟩) := hf 4 (by omega)
                have f5 : u 5 = .agg #[.int .i64 b.r2.f, .int .i64 b.r2.w] := hf 5 (by omega)
                have f6 : u 6 = .bool false := hf 6 (by omega)
                have f7 : u 7 = .bool false := hf 7 (by omega)
                have f8 : u 8 = .pointer (some ⟨A6, 6, none⟩) := hf 8 (by omega)
                have f9 : u 9 = .agg #[.int .i64 b.wr.f, .int .i64 b.wr.w] := hf 9 (by omega)
                have f10 : u 10 = .int .i64 2 := hf 10 (by omega)
                have f11 : u 11 = .pointer (some ⟨A5, 0, none⟩) := hf 11 (by omega)
                have f12 : u 12 = .pointer (some ⟨A5, 4, none⟩) := hf 12 (by omega)
                have f13 : u 13 = .agg #[.int .i64 a.r2.f, .int .i64 a.r2.w] := hf 13 (by omega)
                have f14 : u 14 = .bool true := hf 14 (by omega)
                refine UptoW.rest 1 15 (by rfl) (by kernel_rfl) ?_
                simp only [List.take, List.drop, putOps, Act.put, List.setIfInBounds_toArray, List.set_cons_zero, List.set_cons_succ, Nat.reduceAdd, f0, f1, f2, f3, f4, f5, f6, f7, f8, f9, f10, f11, f12, f13, f14]
                clear f0 f1 f2 f3 f4 f5 f6 f7 f8 f9 f10 f11 f12 f13 f14 hf hp
                have HA6 := hide (HA.out.below hb)
                have HD6 := hide (HD.out.below hb)
                have HB6 := hide (bl_on HBR.out hb)
                clear hb p0 p1 p2 p3 p4 p5 p6 p7 zp q0 q1 q2 q3 q4 q5 q6 q7 zq
                have hr : R = true := by rw [HR.out, ← HQ.out]; simp
                go_wp2_with fail
                go_ret
                exact ⟨by first | rfl | (rw [hr]; rfl), HB6.out⟩
          · refine region_madeG 15 17 [fIs (.pointer (some ⟨A5, 6, none⟩)), fIs (.agg #[.int .i64 a.wr.f, .int .i64 a.wr.w]), fIs (.int .i64 2), fIs (.pointer (some ⟨A6, 0, none⟩)), fIs (.pointer (some ⟨A6, 4, none⟩)), fIs (.agg #[.int .i64 b.r2.f, .int .i64 b.r2.w]), fIs (.bool true), fIs (.bool true), fIs undef, fIs undef, fIs undef, fIs undef, fIs undef, fIs undef, fIs undef] [none, none, none, none, none, none, none, some true, none, none, none, none, none, none, none] [true, true, true, true, true, true, true, true, false, false, false, false, false, false, false] (by kernel_rfl) (by kernel_rfl) (by kernel_rfl) (fun ch p q w3 e h => by obtain ⟨t1, d1⟩ := p; obtain ⟨t2, d2⟩ := q; cases e; exact h) ⟨fIs_good _, fIs_good _, fIs_good _, fIs_good _, fIs_good _, fIs_good _, fIs_good _, fIs_good _, fIs_good _, fIs_good _, fIs_good _, fIs_good _, fIs_good _, fIs_good _, fIs_good _, trivial⟩ ⟨fun _ _ h => h, rfl⟩ ?mkH2 ?restH2
            case mkH2 =>
              refine ⟨fun u wz hb hd => ?_, fun u wz hb hd => ?_, fun u wz hb hd => ?_, fun u wz hb hd => ?_, fun u wz hb hd => ?_, fun u wz hb hd => ?_, fun u wz hb hd => ?_, fun u wz hb hd => ?_, ⟨fun _ => rfl, rfl⟩, ⟨fun _ => rfl, rfl⟩, ⟨fun _ => rfl, rfl⟩, ⟨fun _ => rfl, rfl⟩, ⟨fun _ => rfl, rfl⟩, ⟨fun _ => rfl, rfl⟩, ⟨fun _ => rfl, rfl⟩, trivial⟩
              all_goals simp only [Act.put, List.setIfInBounds_toArray, List.set_cons_zero, List.set_cons_succ]
              · go_simp
                exact ⟨rfl, Below.refl _ _, fun h => by cases h⟩
              · have e0 : u 0 = .pointer (some ⟨A5, 6, none⟩) := hd 0 (by omega) (by kernel_rfl)
                rw [e0]
                have p6' := (hb.cell (p := ⟨A5, 6, none⟩) (lt_of_cell p6)).trans p6
                have p7' := (hb.cell (p := ⟨A5, 7, none⟩) (lt_of_cell p7)).trans p7
                go_simp
                exact ⟨rfl, Below.refl _ _, fun h => by cases h⟩
              · go_simp
                exact ⟨rfl, Below.refl _ _, fun h => by cases h⟩
              · go_simp
                exact ⟨rfl, Below.refl _ _, fun h => by cases h⟩
              · have e2 : u 2 = .int .i64 2 := hd 2 (by omega) (by kernel_rfl)
                have e3 : u 3 = .pointer (some ⟨A6, 0, none⟩) := hd 3 (by omega) (by kernel_rfl)
                rw [e2, e3]
                go_simp
                exact ⟨rfl, Below.refl _ _, fun h => by cases h⟩
              · have e4 : u 4 = .pointer (some ⟨A6, 4, none⟩) := hd 4 (by omega) (by kernel_rfl)
                rw [e4]
                have q4' := (hb.cell (p := ⟨A6, 4, none⟩) (lt_of_cell q4)).trans q4
                have q5' := (hb.cell (p := ⟨A6, 5, none⟩) (lt_of_cell q5)).trans q5
                go_simp
                exact ⟨rfl, Below.refl _ _, fun h => by cases h⟩
              · have e1 : u 1 = .agg #[.int .i64 a.wr.f, .int .i64 a.wr.w] := hd 1 (by omega) (by kernel_rfl)
                have e5 : u 5 = .agg #[.int .i64 b.r2.f, .int .i64 b.r2.w] := hd 5 (by omega) (by kernel_rfl)
                rw [e1, e5]
                go_simp
                refine (HM1.out wz).mono ?_
                rintro r w2 ⟨rfl, hb2⟩
                exact ⟨rfl, hb2, fun h => by cases h⟩
              · have e6 : u 6 = .bool true := hd 6 (by omega) (by kernel_rfl)
                rw [e6]
                go_simp
                exact ⟨rfl, Below.refl _ _, fun h => by cases h⟩
            case restH2 =>
              intro u wz hb hf hp
              have f0 : u 0 = .pointer (some ⟨A5, 6, none⟩) := hf 0 (by omega)
              have f1 : u 1 = .agg #[.int .i64 a.wr.f, .int .i64 a.wr.w] := hf 1 (by omega)
              have f2 : u 2 = .int .i64 2 := hf 2 (by omega)
              have f3 : u 3 = .pointer (some ⟨A6, 0, none⟩) := hf 3 (by omega)
              have f4 : u 4 = .pointer (some ⟨A6, 4, none⟩) := hf 4 (by omega)
              have f5 : u 5 = .agg #[.int .i64 b.r2.f, .int .i64 b.r2.w] := hf 5 (by omega)
              have f6 : u 6 = .bool true := hf 6 (by omega)
              have f7 : u 7 = .bool true := hf 7 (by omega)
              have f8 : u 8 = undef := hf 8 (by omega)
              have f9 : u 9 = undef := hf 9 (by omega)
              have f10 : u 10 = undef := hf 10 (by omega)
              have f11 : u 11 = undef := hf 11 (by omega)
              have f12 : u 12 = undef := hf 12 (by omega)
              have f13 : u 13 = undef := hf 13 (by omega)
              have f14 : u 14 = undef := hf 14 (by omega)
              refine UptoW.rest 1 15 (by rfl) (by kernel_rfl) ?_
              simp only [List.take, List.drop, putOps, Act.put, List.setIfInBounds_toArray, List.set_cons_zero, List.set_cons_succ, Nat.reduceAdd, f0, f1, f2, f3, f4, f5, f6, f7, f8, f9, f10, f11, f12, f13, f14]
              clear f0 f1 f2 f3 f4 f5 f6 f7 f8 f9 f10 f11 f12 f13 f14 hf hp
              have HA6 := hide (HA.out.below hb)
              have HD6 := hide (HD.out.below hb)
              have HB6 := hide (bl_on HBR.out hb)
              clear hb p0 p1 p2 p3 p4 p5 p6 p7 zp q0 q1 q2 q3 q4 q5 q6 q7 zq
              have hr : R = true := by rw [HR.out, ← HP.out]; simp
              go_wp2_with fail
              go_ret
              exact ⟨by first | rfl | (rw [hr]; rfl), HB6.out⟩
        · have hr : R = false := by
            obtain ⟨a1, a2⟩ := HG0.out (by omega)
            obtain ⟨a3, a4⟩ := HG1.out (by omega)
            obtain ⟨a5, a6⟩ := HG2.out (by omega)
            rw [HR.out, ← HMM.out, a1, a2, a3, a4, a5, a6]; rfl
          clear HG0 HG1 HG2
          go_wp2_with fail
          go_ret
          exact ⟨by first | rfl | (rw [hr]; rfl), HBR.out⟩
    · have hr : R = true := by rw [HR.out, ← HMM.out]; rfl
      go_wp2_with fail
      go_ret
      exact ⟨by first | rfl | (rw [hr]; rfl), HB5.out⟩
end Go.Proofs.Ytjmeghicfiiclaa.V
