/-
  The document's side: factor.
-/
import Derived.Test.YtadhlnlcdljamaaGreatDoorM2
namespace Go.Proofs.YtadhlnlcdljamaaGreatDoor.V
set_option maxRecDepth 20000
open Go.RowKit
set_option linter.unusedVariables false

theorem opens_no {s : ByteArray} (h1 : (s.toList == [91]) = false) (h2 : (s.toList == [123]) = false) (h3 : (s.toList == [40]) = false) : opensB s = false := by
  show (s.toList == tC 91 || (s.toList == tC 123 || s.toList == tC 40)) = false
  rw [h1, h2, h3]; rfl
theorem num_open {s : ByteArray} (h : isNumB s = true) : (s.toList == [40]) = false := by
  cases c : (s.toList == [40]) with
  | false => rfl
  | true =>
    rw [tx_is c] at h
    exact absurd h (by decide +kernel)

set_option maxRecDepth 100000 in
set_option maxHeartbeats 8000000 in
theorem rFactor {X : Tks} {A : Option Addr} {c L : Nat} {w : World} (ok : X.Ok) (E : Nat → Res Tr) (h : LsAt X A c w) (i : Nat) (hi : i ≤ X.ts.length) (hEl : ∀ j a j', E j = .ok a j' → j' ≤ X.ts.length) (hL : L ≤ 64)
    (hE : ∀ (W : World) (j : Nat), LsAt X A c W → j ≤ X.ts.length → Calls Tryz.prog 28 #[lsV X A c, .int .i64 (j : Int), .int .i64 ((L : Int) + 1)] W (RefP isTr (repT W) (E j) W))
    (hC : ∀ (W : World) (nm : ByteArray) (j : Nat), LsAt X A c W → j ≤ X.ts.length → Calls Tryz.prog 80 #[lsV X A c, .agg #[.int .i64 2, .string nm, .int .i64 0, .bool false, .slice none 0 0, .slice none 0 0, .slice none 0 0], .int .i64 (j : Int), .int .i64 (L : Int)] W (RefP isTr (repT W) (callS X E nm j) W)) :
    Calls Tryz.prog 71 #[lsV X A c, .int .i64 (i : Int), .int .i64 (L : Int)] w (RefP isTr (repT w) (factorS X E i) w) := by
  have HX0 := hide (Bt.new h)
  have HE := hide hE
  have HC := hide hC
  have HEL := hide hEl
  have HOK := hide ok
  have HSM : Hid (∀ j, (X.tx j).size ≤ 65536) := ok.small
  have hxl := h.len
  unfold lsV at *
  obtain ⟨⟨q0, q1⟩, fq0, fq1⟩ := HX0.out.t.cells; obtain ⟨⟨d0, d1⟩, fd0, fd1⟩ := HX0.out.d.cells; obtain ⟨z0, z1, z2, z3, z4, z5, z6⟩ := HX0.out.z.cells; obtain ⟨y0, y1, y2, y3, y4, y5, y6⟩ := HX0.out.z.frozen
  clear h ok hE hEl hC
  unfold factorS nameS mustS
  cases hn : isNumB (X.tx i) with
  | true =>
    rw [if_neg (by rw [num_open hn]; simp), if_pos rfl]
    have hil := isNumB_lt hn
    obtain ⟨hd1, hd2⟩ := HOK.out.num i hn
    have HVL := hide (rValue (X.tx i))
    have HVV := hide (val_yes hd2)
    have hsm := HOK.out.small i
    obtain ⟨N, hN⟩ : ∃ N, N = numVal (xsOf (X.tx i)) := ⟨_, rfl⟩
    rw [← hN] at HVV ⊢
    clear hN
    go_enter Tryz.func71, Tryz.ntmps71
    go_wp2_with (first
      | (go_at_call 47; refine (rIsNum HX0.out.l i).mono ?_; rw [hn]; rintro e w1 ⟨rfl, hb⟩; have HX1 := hide (HX0.out.below hb); clear q0 q1 fq0 fq1 d0 d1 fd0 fd1 z0 z1 z2 z3 z4 z5 z6 y0 y1 y2 y3 y4 y5 y6; clear HX0; obtain ⟨⟨q0, q1⟩, fq0, fq1⟩ := HX1.out.t.cells; obtain ⟨⟨d0, d1⟩, fd0, fd1⟩ := HX1.out.d.cells; obtain ⟨z0, z1, z2, z3, z4, z5, z6⟩ := HX1.out.z.cells; obtain ⟨y0, y1, y2, y3, y4, y5, y6⟩ := HX1.out.z.frozen; clear hb)
      | (go_at_call 24; refine (rText HX1.out.l (i)).mono ?_; rintro e w2 ⟨rfl, hb⟩; have HX2 := hide (HX1.out.below hb); clear q0 q1 fq0 fq1 d0 d1 fd0 fd1 z0 z1 z2 z3 z4 z5 z6 y0 y1 y2 y3 y4 y5 y6; clear HX1; obtain ⟨⟨q0, q1⟩, fq0, fq1⟩ := HX2.out.t.cells; obtain ⟨⟨d0, d1⟩, fd0, fd1⟩ := HX2.out.d.cells; obtain ⟨z0, z1, z2, z3, z4, z5, z6⟩ := HX2.out.z.cells; obtain ⟨y0, y1, y2, y3, y4, y5, y6⟩ := HX2.out.z.frozen; clear hb)
      | (go_at_call 22; refine (HVL.out w2 (by omega) hd1).mono ?_; rw [HVV.out.1, HVV.out.2]; rintro e w' ⟨rfl, hw'⟩; obtain rfl := hw'.symm; clear hw')
      )
    obtain ⟨wg, hwg, hfin⟩ := HX2.out.fin 3 (.int .i64 1) (.string ⟨#[]⟩) (.int .i64 N) (.bool false) (.slice none 0 0) (.slice none 0 0) (.slice none 0 0) (.int .i64 0) (.int .i64 0) (by omega) (by omega) (by omega) (by omega) (by omega)
    rw [← hwg]
    clear hwg
    obtain ⟨hbf, hkf, u0, u1, u2, u3, u4, u5, u6, v0, v1⟩ := hfin
    have HBF := hide hbf
    have HKF := hide hkf
    clear hbf hkf
    go_wp2
    refine bodyPost_ret (v := .tuple #[.agg #[.int .i64 1, .string ⟨#[]⟩, .int .i64 N, .bool false, .slice none 0 0, .slice none 0 0, .slice none 0 0], .int .i64 (((i + 1 : Nat) : Int)), .agg #[.int .i64 0, .int .i64 0]]) (by simp [results, Tryz.results71, go_sem, u0, u1, u2, u3, u4, u5, u6, v0, v1]) rfl ?_
    exact RefP.of _ _ _ _ _ _ _ _ _ _ _ _ _ 0 0 (i + 1) HBF.out (.inl ⟨_, rfl, rfl, rfl, by
      unfold Tr.one
      rw [TreeV.iff]
      exact ⟨_, _, _, rfl, SliceV.none _ _ _ _ _, SliceV.none _ _ _ _ _, SliceV.none _ _ _ _ _⟩⟩)
  | false =>
    cases h1 : ((X.tx i).toList == [40]) with
    | true =>
      have hil := Tks.lt_of h1 (by simp)
      rw [if_pos rfl]
      cases h3 : E (i + 1) with
      | bad Te ke =>
        rw [Res.bind_bad]
        go_enter Tryz.func71, Tryz.ntmps71
        go_upto_region 6 with (first
          | (go_at_call 47; refine (rIsNum HX0.out.l i).mono ?_; rw [hn]; rintro e w1 ⟨rfl, hb⟩; have HX1 := hide (HX0.out.below hb); clear q0 q1 fq0 fq1 d0 d1 fd0 fd1 z0 z1 z2 z3 z4 z5 z6 y0 y1 y2 y3 y4 y5 y6; clear HX0; obtain ⟨⟨q0, q1⟩, fq0, fq1⟩ := HX1.out.t.cells; obtain ⟨⟨d0, d1⟩, fd0, fd1⟩ := HX1.out.d.cells; obtain ⟨z0, z1, z2, z3, z4, z5, z6⟩ := HX1.out.z.cells; obtain ⟨y0, y1, y2, y3, y4, y5, y6⟩ := HX1.out.z.frozen; clear hb)
          | (go_at_call 24; refine (rText HX1.out.l (i)).mono ?_; rintro e w2 ⟨rfl, hb⟩; have HX2 := hide (HX1.out.below hb); clear q0 q1 fq0 fq1 d0 d1 fd0 fd1 z0 z1 z2 z3 z4 z5 z6 y0 y1 y2 y3 y4 y5 y6; clear HX1; obtain ⟨⟨q0, q1⟩, fq0, fq1⟩ := HX2.out.t.cells; obtain ⟨⟨d0, d1⟩, fd0, fd1⟩ := HX2.out.d.cells; obtain ⟨z0, z1, z2, z3, z4, z5, z6⟩ := HX2.out.z.cells; obtain ⟨y0, y1, y2, y3, y4, y5, y6⟩ := HX2.out.z.frozen; clear hb)
          | (go_at_call 28; refine (HE.out w2 (i + 1) HX2.out.l (by omega)).mono ?_; rw [h3]; rintro e w3 ⟨hb, hT, v, J1, rfl, kx, nmx, nux, shx, Ax, nx, mx, Bx, px, qx, Cx, rx, sx, rfl⟩; have HNE := hide hT; have HX3 := hide (HX2.out.below hb); clear q0 q1 fq0 fq1 d0 d1 fd0 fd1 z0 z1 z2 z3 z4 z5 z6 y0 y1 y2 y3 y4 y5 y6; clear HX2; clear hb hT)
          )
        have hz3 : w.heap.size + 3 ≤ w3.heap.size := by have := HX3.out.d.lt; omega
        have hF6 : TwoAt 25 ((w3.alloc (.cells #[.int .i64 kx, .string nmx, .int .i64 nux, .bool shx, .slice Ax nx mx, .slice Bx px qx, .slice Cx rx sx] 47)).alloc (.cells #[.int .i64 Te, .int .i64 (ke : Int)] 25)) (w3.heap.size + 1) (.int .i64 Te) (.int .i64 (ke : Int)) := by have := TwoAt.new 25 (w3.alloc (.cells #[.int .i64 kx, .string nmx, .int .i64 nux, .bool shx, .slice Ax nx mx, .slice Bx px qx, .slice Cx rx sx] 47)) (.int .i64 Te) (.int .i64 (ke : Int)); simpa using this
        have HT6 := hide ((SevAt.new w3 (.int .i64 kx) (.string nmx) (.int .i64 nux) (.bool shx) (.slice Ax nx mx) (.slice Bx px qx) (.slice Cx rx sx)).alloc (.cells #[.int .i64 Te, .int .i64 (ke : Int)] 25))
        have HF6 := hide hF6
        have HX6 := hide ((HX3.out.alloc (.cells #[.int .i64 kx, .string nmx, .int .i64 nux, .bool shx, .slice Ax nx mx, .slice Bx px qx, .slice Cx rx sx] 47)).alloc (.cells #[.int .i64 Te, .int .i64 (ke : Int)] 25))
        have HV6 : Hid (Keep (fun b => b < w3.heap.size) w3 ((w3.alloc (.cells #[.int .i64 kx, .string nmx, .int .i64 nux, .bool shx, .slice Ax nx mx, .slice Bx px qx, .slice Cx rx sx] 47)).alloc (.cells #[.int .i64 Te, .int .i64 (ke : Int)] 25))) := (Keep.alloc _ _).trans (Keep.alloc _ _)
        obtain ⟨w6, hw6⟩ : ∃ w6, w6 = ((w3.alloc (.cells #[.int .i64 kx, .string nmx, .int .i64 nux, .bool shx, .slice Ax nx mx, .slice Bx px qx, .slice Cx rx sx] 47)).alloc (.cells #[.int .i64 Te, .int .i64 (ke : Int)] 25)) := ⟨_, rfl⟩
        rw [← hw6] at HX6 HT6 HF6 HV6 ⊢
        clear hw6 hF6 HX3
        obtain ⟨⟨q0, q1⟩, fq0, fq1⟩ := HX6.out.t.cells
        obtain ⟨⟨d0, d1⟩, fd0, fd1⟩ := HX6.out.d.cells
        obtain ⟨z0, z1, z2, z3, z4, z5, z6⟩ := HX6.out.z.cells
        obtain ⟨y0, y1, y2, y3, y4, y5, y6⟩ := HX6.out.z.frozen
        obtain ⟨a0, a1, a2, a3, a4, a5, a6⟩ := HT6.out.cells
        obtain ⟨fa0, fa1, fa2, fa3, fa4, fa5, fa6⟩ := HT6.out.frozen
        obtain ⟨⟨g0, g1⟩, fg0, fg1⟩ := HF6.out.cells
        have hne0 : (Te == 0) = false := by have := HNE.out; simpa using this
        go_wp2
        go_region
        obtain ⟨wg, hwg, hfin⟩ := HX6.out.fin 3 (.int .i64 kx) (.string nmx) (.int .i64 nux) (.bool shx) (.slice Ax nx mx) (.slice Bx px qx) (.slice Cx rx sx) (.int .i64 Te) (.int .i64 (ke : Int)) (by omega) (by omega) (by omega) (by omega) (by omega)
        rw [← hwg]
        replace hfin := hfin.drew
        clear hwg
        obtain ⟨wf, hwf⟩ : ∃ wf, wf = wg.drew := ⟨_, rfl⟩
        rw [← hwf] at hfin ⊢
        clear hwf
        obtain ⟨hbf, hkf, u0, u1, u2, u3, u4, u5, u6, v0, v1⟩ := hfin
        have HBF := hide hbf
        have HKF := hide hkf
        clear hbf hkf
        go_wp2
        refine bodyPost_ret (v := .tuple #[.agg #[.int .i64 kx, .string nmx, .int .i64 nux, .bool shx, .slice Ax nx mx, .slice Bx px qx, .slice Cx rx sx], .int .i64 (wrap64 (J1 + 1)), .agg #[.int .i64 Te, .int .i64 (ke : Int)]]) (by simp [results, Tryz.results71, go_sem, u0, u1, u2, u3, u4, u5, u6, v0, v1]) rfl ?_
        exact RefP.ofJ _ _ _ _ _ _ _ _ _ _ _ _ _ Te ke _ HBF.out (.inr ⟨rfl, HNE.out⟩)
      | ok ta j1 =>
        have hj1 := HEL.out _ _ _ h3
        rw [Res.bind_ok]
        cases h5 : ((X.tx j1).toList == [41]) with
        | false =>
          rw [if_neg (by simp), Res.bind_bad]
          obtain ⟨p, hp⟩ : ∃ p, p = X.ps j1 := ⟨_, rfl⟩
          have HPP := hide hp
          clear hp
          go_enter Tryz.func71, Tryz.ntmps71
          go_upto_region 6 with (first
            | (go_at_call 47; refine (rIsNum HX0.out.l i).mono ?_; rw [hn]; rintro e w1 ⟨rfl, hb⟩; have HX1 := hide (HX0.out.below hb); clear q0 q1 fq0 fq1 d0 d1 fd0 fd1 z0 z1 z2 z3 z4 z5 z6 y0 y1 y2 y3 y4 y5 y6; clear HX0; obtain ⟨⟨q0, q1⟩, fq0, fq1⟩ := HX1.out.t.cells; obtain ⟨⟨d0, d1⟩, fd0, fd1⟩ := HX1.out.d.cells; obtain ⟨z0, z1, z2, z3, z4, z5, z6⟩ := HX1.out.z.cells; obtain ⟨y0, y1, y2, y3, y4, y5, y6⟩ := HX1.out.z.frozen; clear hb)
            | (go_at_call 24; refine (rText HX1.out.l (i)).mono ?_; rintro e w2 ⟨rfl, hb⟩; have HX2 := hide (HX1.out.below hb); clear q0 q1 fq0 fq1 d0 d1 fd0 fd1 z0 z1 z2 z3 z4 z5 z6 y0 y1 y2 y3 y4 y5 y6; clear HX1; obtain ⟨⟨q0, q1⟩, fq0, fq1⟩ := HX2.out.t.cells; obtain ⟨⟨d0, d1⟩, fd0, fd1⟩ := HX2.out.d.cells; obtain ⟨z0, z1, z2, z3, z4, z5, z6⟩ := HX2.out.z.cells; obtain ⟨y0, y1, y2, y3, y4, y5, y6⟩ := HX2.out.z.frozen; clear hb)
            | (go_at_call 28; refine (HE.out w2 (i + 1) HX2.out.l (by omega)).mono ?_; rw [h3]; rintro e w3 ⟨hb, v, rfl, kx, nmx, nux, shx, Ax, nx, mx, Bx, px, qx, Cx, rx, sx, rfl, htr⟩; have HV3 := hide htr; have hz2 : w.heap.size + 3 ≤ w2.heap.size := (by have := HX2.out.d.lt; omega); have HX3 := hide (HX2.out.below hb); clear q0 q1 fq0 fq1 d0 d1 fd0 fd1 z0 z1 z2 z3 z4 z5 z6 y0 y1 y2 y3 y4 y5 y6; clear HX2; clear hb htr)
            )
          have hz3 : w.heap.size + 3 ≤ w3.heap.size := by have := HX3.out.d.lt; omega
          have hF6 : TwoAt 25 ((w3.alloc (.cells #[.int .i64 kx, .string nmx, .int .i64 nux, .bool shx, .slice Ax nx mx, .slice Bx px qx, .slice Cx rx sx] 47)).alloc (.cells #[.int .i64 0, .int .i64 0] 25)) (w3.heap.size + 1) (.int .i64 0) (.int .i64 0) := by have := TwoAt.new 25 (w3.alloc (.cells #[.int .i64 kx, .string nmx, .int .i64 nux, .bool shx, .slice Ax nx mx, .slice Bx px qx, .slice Cx rx sx] 47)) (.int .i64 0) (.int .i64 0); simpa using this
          have HT6 := hide ((SevAt.new w3 (.int .i64 kx) (.string nmx) (.int .i64 nux) (.bool shx) (.slice Ax nx mx) (.slice Bx px qx) (.slice Cx rx sx)).alloc (.cells #[.int .i64 0, .int .i64 0] 25))
          have HF6 := hide hF6
          have HX6 := hide ((HX3.out.alloc (.cells #[.int .i64 kx, .string nmx, .int .i64 nux, .bool shx, .slice Ax nx mx, .slice Bx px qx, .slice Cx rx sx] 47)).alloc (.cells #[.int .i64 0, .int .i64 0] 25))
          have HV6 : Hid (Keep (fun b => b < w3.heap.size) w3 ((w3.alloc (.cells #[.int .i64 kx, .string nmx, .int .i64 nux, .bool shx, .slice Ax nx mx, .slice Bx px qx, .slice Cx rx sx] 47)).alloc (.cells #[.int .i64 0, .int .i64 0] 25))) := (Keep.alloc _ _).trans (Keep.alloc _ _)
          obtain ⟨w6, hw6⟩ : ∃ w6, w6 = ((w3.alloc (.cells #[.int .i64 kx, .string nmx, .int .i64 nux, .bool shx, .slice Ax nx mx, .slice Bx px qx, .slice Cx rx sx] 47)).alloc (.cells #[.int .i64 0, .int .i64 0] 25)) := ⟨_, rfl⟩
          rw [← hw6] at HX6 HT6 HF6 HV6 ⊢
          clear hw6 hF6 HX3
          obtain ⟨⟨q0, q1⟩, fq0, fq1⟩ := HX6.out.t.cells
          obtain ⟨⟨d0, d1⟩, fd0, fd1⟩ := HX6.out.d.cells
          obtain ⟨z0, z1, z2, z3, z4, z5, z6⟩ := HX6.out.z.cells
          obtain ⟨y0, y1, y2, y3, y4, y5, y6⟩ := HX6.out.z.frozen
          obtain ⟨a0, a1, a2, a3, a4, a5, a6⟩ := HT6.out.cells
          obtain ⟨fa0, fa1, fa2, fa3, fa4, fa5, fa6⟩ := HT6.out.frozen
          obtain ⟨⟨g0, g1⟩, fg0, fg1⟩ := HF6.out.cells
          go_upto_region 8 with (first
            | (go_at_call 24; refine (rText HX6.out.l (j1)).mono ?_; rintro e w7 ⟨rfl, hb⟩; have HX7 := hide (HX6.out.below hb); have HT7 := hide (HT6.out.below hb); have HF7 := hide (HF6.out.below hb); clear q0 q1 fq0 fq1 d0 d1 fd0 fd1 z0 z1 z2 z3 z4 z5 z6 y0 y1 y2 y3 y4 y5 y6; clear a0 a1 a2 a3 a4 a5 a6 fa0 fa1 fa2 fa3 fa4 fa5 fa6; clear g0 g1 fg0 fg1; clear HX6 HT6 HF6; obtain ⟨⟨q0, q1⟩, fq0, fq1⟩ := HX7.out.t.cells; obtain ⟨⟨d0, d1⟩, fd0, fd1⟩ := HX7.out.d.cells; obtain ⟨z0, z1, z2, z3, z4, z5, z6⟩ := HX7.out.z.cells; obtain ⟨y0, y1, y2, y3, y4, y5, y6⟩ := HX7.out.z.frozen; obtain ⟨a0, a1, a2, a3, a4, a5, a6⟩ := HT7.out.cells; obtain ⟨fa0, fa1, fa2, fa3, fa4, fa5, fa6⟩ := HT7.out.frozen; obtain ⟨⟨g0, g1⟩, fg0, fg1⟩ := HF7.out.cells; clear hb)
            | (go_at_call 25; refine (rBad HX7.out.l j1).mono ?_; rw [← HPP.out]; rintro e w8 ⟨rfl, hb⟩; have HX8 := hide (HX7.out.below hb); have HT8 := hide (HT7.out.below hb); have HF8 := hide (HF7.out.below hb); clear q0 q1 fq0 fq1 d0 d1 fd0 fd1 z0 z1 z2 z3 z4 z5 z6 y0 y1 y2 y3 y4 y5 y6; clear a0 a1 a2 a3 a4 a5 a6 fa0 fa1 fa2 fa3 fa4 fa5 fa6; clear g0 g1 fg0 fg1; clear HX7 HT7 HF7; obtain ⟨⟨q0, q1⟩, fq0, fq1⟩ := HX8.out.t.cells; obtain ⟨⟨d0, d1⟩, fd0, fd1⟩ := HX8.out.d.cells; obtain ⟨z0, z1, z2, z3, z4, z5, z6⟩ := HX8.out.z.cells; obtain ⟨y0, y1, y2, y3, y4, y5, y6⟩ := HX8.out.z.frozen; obtain ⟨a0, a1, a2, a3, a4, a5, a6⟩ := HT8.out.cells; obtain ⟨fa0, fa1, fa2, fa3, fa4, fa5, fa6⟩ := HT8.out.frozen; obtain ⟨⟨g0, g1⟩, fg0, fg1⟩ := HF8.out.cells; clear hb)
            )
          have hoF := TwoAt.out (w := w8) (b := w3.heap.size + 1) (.int .i64 7) (.int .i64 (p : Int))
          have HX9 := hide (HX8.out.grown hoF (by simp; omega) (by simp; omega) (by simp; omega) (fun g e => by cases e; omega))
          have HT9 := hide (HT8.out.grown hoF (by simp))
          have HF9 := hide (HF8.out.put (.int .i64 7) (.int .i64 (p : Int)))
          obtain ⟨w9, hw9⟩ : ∃ w9, w9 = ((w8.setCell ⟨w3.heap.size + 1, 0, none⟩ (.int .i64 7)).setCell ⟨w3.heap.size + 1, 1, none⟩ (.int .i64 (p : Int))) := ⟨_, rfl⟩
          rw [← hw9] at HX9 HT9 HF9 ⊢
          clear hw9 hoF HX8 HT8 HF8
          clear q0 q1 fq0 fq1 d0 d1 fd0 fd1 z0 z1 z2 z3 z4 z5 z6 y0 y1 y2 y3 y4 y5 y6
          clear a0 a1 a2 a3 a4 a5 a6 fa0 fa1 fa2 fa3 fa4 fa5 fa6
          clear g0 g1 fg0 fg1
          obtain ⟨⟨q0, q1⟩, fq0, fq1⟩ := HX9.out.t.cells
          obtain ⟨⟨d0, d1⟩, fd0, fd1⟩ := HX9.out.d.cells
          obtain ⟨z0, z1, z2, z3, z4, z5, z6⟩ := HX9.out.z.cells
          obtain ⟨y0, y1, y2, y3, y4, y5, y6⟩ := HX9.out.z.frozen
          obtain ⟨a0, a1, a2, a3, a4, a5, a6⟩ := HT9.out.cells
          obtain ⟨fa0, fa1, fa2, fa3, fa4, fa5, fa6⟩ := HT9.out.frozen
          obtain ⟨⟨g0, g1⟩, fg0, fg1⟩ := HF9.out.cells
          go_region
          obtain ⟨wg, hwg, hfin⟩ := HX9.out.fin 3 (.int .i64 kx) (.string nmx) (.int .i64 nux) (.bool shx) (.slice Ax nx mx) (.slice Bx px qx) (.slice Cx rx sx) (.int .i64 7) (.int .i64 (p : Int)) (by omega) (by omega) (by omega) (by omega) (by omega)
          rw [← hwg]
          replace hfin := hfin.drew
          clear hwg
          obtain ⟨wf, hwf⟩ : ∃ wf, wf = wg.drew := ⟨_, rfl⟩
          rw [← hwf] at hfin ⊢
          clear hwf
          obtain ⟨hbf, hkf, u0, u1, u2, u3, u4, u5, u6, v0, v1⟩ := hfin
          have HBF := hide hbf
          have HKF := hide hkf
          clear hbf hkf
          go_wp2
          refine bodyPost_ret (v := .tuple #[.agg #[.int .i64 kx, .string nmx, .int .i64 nux, .bool shx, .slice Ax nx mx, .slice Bx px qx, .slice Cx rx sx], .int .i64 (((j1 + 1 : Nat) : Int)), .agg #[.int .i64 7, .int .i64 (p : Int)]]) (by simp [results, Tryz.results71, go_sem, u0, u1, u2, u3, u4, u5, u6, v0, v1]) rfl ?_
          exact RefP.of _ _ _ _ _ _ _ _ _ _ _ _ _ 7 p (j1 + 1) HBF.out (.inr ⟨by rw [HPP.out], by decide⟩)
        | true =>
          rw [if_pos rfl, Res.bind_ok]
          go_enter Tryz.func71, Tryz.ntmps71
          go_upto_region 6 with (first
            | (go_at_call 47; refine (rIsNum HX0.out.l i).mono ?_; rw [hn]; rintro e w1 ⟨rfl, hb⟩; have HX1 := hide (HX0.out.below hb); clear q0 q1 fq0 fq1 d0 d1 fd0 fd1 z0 z1 z2 z3 z4 z5 z6 y0 y1 y2 y3 y4 y5 y6; clear HX0; obtain ⟨⟨q0, q1⟩, fq0, fq1⟩ := HX1.out.t.cells; obtain ⟨⟨d0, d1⟩, fd0, fd1⟩ := HX1.out.d.cells; obtain ⟨z0, z1, z2, z3, z4, z5, z6⟩ := HX1.out.z.cells; obtain ⟨y0, y1, y2, y3, y4, y5, y6⟩ := HX1.out.z.frozen; clear hb)
            | (go_at_call 24; refine (rText HX1.out.l (i)).mono ?_; rintro e w2 ⟨rfl, hb⟩; have HX2 := hide (HX1.out.below hb); clear q0 q1 fq0 fq1 d0 d1 fd0 fd1 z0 z1 z2 z3 z4 z5 z6 y0 y1 y2 y3 y4 y5 y6; clear HX1; obtain ⟨⟨q0, q1⟩, fq0, fq1⟩ := HX2.out.t.cells; obtain ⟨⟨d0, d1⟩, fd0, fd1⟩ := HX2.out.d.cells; obtain ⟨z0, z1, z2, z3, z4, z5, z6⟩ := HX2.out.z.cells; obtain ⟨y0, y1, y2, y3, y4, y5, y6⟩ := HX2.out.z.frozen; clear hb)
            | (go_at_call 28; refine (HE.out w2 (i + 1) HX2.out.l (by omega)).mono ?_; rw [h3]; rintro e w3 ⟨hb, v, rfl, kx, nmx, nux, shx, Ax, nx, mx, Bx, px, qx, Cx, rx, sx, rfl, htr⟩; have HV3 := hide htr; have hz2 : w.heap.size + 3 ≤ w2.heap.size := (by have := HX2.out.d.lt; omega); have HX3 := hide (HX2.out.below hb); clear q0 q1 fq0 fq1 d0 d1 fd0 fd1 z0 z1 z2 z3 z4 z5 z6 y0 y1 y2 y3 y4 y5 y6; clear HX2; clear hb htr)
            )
          have hz3 : w.heap.size + 3 ≤ w3.heap.size := by have := HX3.out.d.lt; omega
          have hF6 : TwoAt 25 ((w3.alloc (.cells #[.int .i64 kx, .string nmx, .int .i64 nux, .bool shx, .slice Ax nx mx, .slice Bx px qx, .slice Cx rx sx] 47)).alloc (.cells #[.int .i64 0, .int .i64 0] 25)) (w3.heap.size + 1) (.int .i64 0) (.int .i64 0) := by have := TwoAt.new 25 (w3.alloc (.cells #[.int .i64 kx, .string nmx, .int .i64 nux, .bool shx, .slice Ax nx mx, .slice Bx px qx, .slice Cx rx sx] 47)) (.int .i64 0) (.int .i64 0); simpa using this
          have HT6 := hide ((SevAt.new w3 (.int .i64 kx) (.string nmx) (.int .i64 nux) (.bool shx) (.slice Ax nx mx) (.slice Bx px qx) (.slice Cx rx sx)).alloc (.cells #[.int .i64 0, .int .i64 0] 25))
          have HF6 := hide hF6
          have HX6 := hide ((HX3.out.alloc (.cells #[.int .i64 kx, .string nmx, .int .i64 nux, .bool shx, .slice Ax nx mx, .slice Bx px qx, .slice Cx rx sx] 47)).alloc (.cells #[.int .i64 0, .int .i64 0] 25))
          have HV6 : Hid (Keep (fun b => b < w3.heap.size) w3 ((w3.alloc (.cells #[.int .i64 kx, .string nmx, .int .i64 nux, .bool shx, .slice Ax nx mx, .slice Bx px qx, .slice Cx rx sx] 47)).alloc (.cells #[.int .i64 0, .int .i64 0] 25))) := (Keep.alloc _ _).trans (Keep.alloc _ _)
          obtain ⟨w6, hw6⟩ : ∃ w6, w6 = ((w3.alloc (.cells #[.int .i64 kx, .string nmx, .int .i64 nux, .bool shx, .slice Ax nx mx, .slice Bx px qx, .slice Cx rx sx] 47)).alloc (.cells #[.int .i64 0, .int .i64 0] 25)) := ⟨_, rfl⟩
          rw [← hw6] at HX6 HT6 HF6 HV6 ⊢
          clear hw6 hF6 HX3
          obtain ⟨⟨q0, q1⟩, fq0, fq1⟩ := HX6.out.t.cells
          obtain ⟨⟨d0, d1⟩, fd0, fd1⟩ := HX6.out.d.cells
          obtain ⟨z0, z1, z2, z3, z4, z5, z6⟩ := HX6.out.z.cells
          obtain ⟨y0, y1, y2, y3, y4, y5, y6⟩ := HX6.out.z.frozen
          obtain ⟨a0, a1, a2, a3, a4, a5, a6⟩ := HT6.out.cells
          obtain ⟨fa0, fa1, fa2, fa3, fa4, fa5, fa6⟩ := HT6.out.frozen
          obtain ⟨⟨g0, g1⟩, fg0, fg1⟩ := HF6.out.cells
          go_wp2_with (first
            | (go_at_call 24; refine (rText HX6.out.l (j1)).mono ?_; rintro e w7 ⟨rfl, hb⟩; have HX7 := hide (HX6.out.below hb); have HT7 := hide (HT6.out.below hb); have HF7 := hide (HF6.out.below hb); clear q0 q1 fq0 fq1 d0 d1 fd0 fd1 z0 z1 z2 z3 z4 z5 z6 y0 y1 y2 y3 y4 y5 y6; clear a0 a1 a2 a3 a4 a5 a6 fa0 fa1 fa2 fa3 fa4 fa5 fa6; clear g0 g1 fg0 fg1; clear HX6 HT6 HF6; obtain ⟨⟨q0, q1⟩, fq0, fq1⟩ := HX7.out.t.cells; obtain ⟨⟨d0, d1⟩, fd0, fd1⟩ := HX7.out.d.cells; obtain ⟨z0, z1, z2, z3, z4, z5, z6⟩ := HX7.out.z.cells; obtain ⟨y0, y1, y2, y3, y4, y5, y6⟩ := HX7.out.z.frozen; obtain ⟨a0, a1, a2, a3, a4, a5, a6⟩ := HT7.out.cells; obtain ⟨fa0, fa1, fa2, fa3, fa4, fa5, fa6⟩ := HT7.out.frozen; obtain ⟨⟨g0, g1⟩, fg0, fg1⟩ := HF7.out.cells; have HB7 := hide hb; clear hb)
            )
          go_region
          obtain ⟨wg, hwg, hfin⟩ := HX7.out.fin 3 (.int .i64 kx) (.string nmx) (.int .i64 nux) (.bool shx) (.slice Ax nx mx) (.slice Bx px qx) (.slice Cx rx sx) (.int .i64 0) (.int .i64 0) (by omega) (by omega) (by omega) (by omega) (by omega)
          rw [← hwg]
          replace hfin := hfin.drew
          clear hwg
          obtain ⟨wf, hwf⟩ : ∃ wf, wf = wg.drew := ⟨_, rfl⟩
          rw [← hwf] at hfin ⊢
          clear hwf
          obtain ⟨hbf, hkf, u0, u1, u2, u3, u4, u5, u6, v0, v1⟩ := hfin
          have HBF := hide hbf
          have HKF := hide hkf
          clear hbf hkf
          go_wp2
          refine bodyPost_ret (v := .tuple #[.agg #[.int .i64 kx, .string nmx, .int .i64 nux, .bool shx, .slice Ax nx mx, .slice Bx px qx, .slice Cx rx sx], .int .i64 (((j1 + 1 : Nat) : Int)), .agg #[.int .i64 0, .int .i64 0]]) (by simp [results, Tryz.results71, go_sem, u0, u1, u2, u3, u4, u5, u6, v0, v1]) rfl ?_
          exact RefP.of _ _ _ _ _ _ _ _ _ _ _ _ _ 0 0 (j1 + 1) HBF.out (.inl ⟨ta, rfl, rfl, rfl, tree_keep HV3.out (S := fun b => w.heap.size + 3 ≤ b ∧ b < w3.heap.size) (fun b hl hf => ⟨by have h9 : w2.heap.size ≤ b := hf; omega, hl⟩) ((show Keep (fun b => w.heap.size + 3 ≤ b ∧ b < w3.heap.size) w3 w6 from ⟨HV6.out.1, fun b hb hl => HV6.out.2 b hl hl⟩).trans (Keep.of_below HB7.out)) HKF.out (fun b hb => hb.1)⟩)
    | false =>
      rw [if_neg (by simp), if_neg (by simp)]
      cases h4 : isNameB (X.tx i) with
      | false =>
        rw [if_neg (by simp), Res.bind_bad]
        obtain ⟨p, hp⟩ : ∃ p, p = X.ps i := ⟨_, rfl⟩
        have HPP := hide hp
        clear hp
        go_enter Tryz.func71, Tryz.ntmps71
        go_wp2_with (first
          | (go_at_call 47; refine (rIsNum HX0.out.l i).mono ?_; rw [hn]; rintro e w1 ⟨rfl, hb⟩; have HX1 := hide (HX0.out.below hb); clear q0 q1 fq0 fq1 d0 d1 fd0 fd1 z0 z1 z2 z3 z4 z5 z6 y0 y1 y2 y3 y4 y5 y6; clear HX0; obtain ⟨⟨q0, q1⟩, fq0, fq1⟩ := HX1.out.t.cells; obtain ⟨⟨d0, d1⟩, fd0, fd1⟩ := HX1.out.d.cells; obtain ⟨z0, z1, z2, z3, z4, z5, z6⟩ := HX1.out.z.cells; obtain ⟨y0, y1, y2, y3, y4, y5, y6⟩ := HX1.out.z.frozen; clear hb)
          | (go_at_call 24; refine (rText HX1.out.l (i)).mono ?_; rintro e w2 ⟨rfl, hb⟩; have HX2 := hide (HX1.out.below hb); clear q0 q1 fq0 fq1 d0 d1 fd0 fd1 z0 z1 z2 z3 z4 z5 z6 y0 y1 y2 y3 y4 y5 y6; clear HX1; obtain ⟨⟨q0, q1⟩, fq0, fq1⟩ := HX2.out.t.cells; obtain ⟨⟨d0, d1⟩, fd0, fd1⟩ := HX2.out.d.cells; obtain ⟨z0, z1, z2, z3, z4, z5, z6⟩ := HX2.out.z.cells; obtain ⟨y0, y1, y2, y3, y4, y5, y6⟩ := HX2.out.z.frozen; clear hb)
          | (go_at_call 24; refine (rText HX2.out.l (i)).mono ?_; rintro e w3 ⟨rfl, hb⟩; have HX3 := hide (HX2.out.below hb); clear q0 q1 fq0 fq1 d0 d1 fd0 fd1 z0 z1 z2 z3 z4 z5 z6 y0 y1 y2 y3 y4 y5 y6; clear HX2; obtain ⟨⟨q0, q1⟩, fq0, fq1⟩ := HX3.out.t.cells; obtain ⟨⟨d0, d1⟩, fd0, fd1⟩ := HX3.out.d.cells; obtain ⟨z0, z1, z2, z3, z4, z5, z6⟩ := HX3.out.z.cells; obtain ⟨y0, y1, y2, y3, y4, y5, y6⟩ := HX3.out.z.frozen; clear hb)
          | (go_at_call 26; refine (rIsName (X.tx (i)) _ (HSM.out _)).mono ?_; rw [h4]; rintro e w' ⟨rfl, hw'⟩; obtain rfl := hw'.symm; clear hw')
          | (go_at_call 25; refine (rBad HX3.out.l i).mono ?_; rw [← HPP.out]; rintro e w4 ⟨rfl, hb⟩; have HX4 := hide (HX3.out.below hb); clear q0 q1 fq0 fq1 d0 d1 fd0 fd1 z0 z1 z2 z3 z4 z5 z6 y0 y1 y2 y3 y4 y5 y6; clear HX3; obtain ⟨⟨q0, q1⟩, fq0, fq1⟩ := HX4.out.t.cells; obtain ⟨⟨d0, d1⟩, fd0, fd1⟩ := HX4.out.d.cells; obtain ⟨z0, z1, z2, z3, z4, z5, z6⟩ := HX4.out.z.cells; obtain ⟨y0, y1, y2, y3, y4, y5, y6⟩ := HX4.out.z.frozen; clear hb)
          )
        obtain ⟨wg, hwg, hfin⟩ := HX4.out.fin 3 (.int .i64 0) (.string ⟨#[]⟩) (.int .i64 0) (.bool false) (.slice none 0 0) (.slice none 0 0) (.slice none 0 0) (.int .i64 7) (.int .i64 (p : Int)) (by omega) (by omega) (by omega) (by omega) (by omega)
        rw [← hwg]
        clear hwg
        obtain ⟨hbf, hkf, u0, u1, u2, u3, u4, u5, u6, v0, v1⟩ := hfin
        have HBF := hide hbf
        have HKF := hide hkf
        clear hbf hkf
        go_wp2
        refine bodyPost_ret (v := .tuple #[.agg #[.int .i64 0, .string ⟨#[]⟩, .int .i64 0, .bool false, .slice none 0 0, .slice none 0 0, .slice none 0 0], .int .i64 ((i : Int)), .agg #[.int .i64 7, .int .i64 (p : Int)]]) (by simp [results, Tryz.results71, go_sem, u0, u1, u2, u3, u4, u5, u6, v0, v1]) rfl ?_
        exact RefP.of _ _ _ _ _ _ _ _ _ _ _ _ _ 7 p i HBF.out (.inr ⟨by rw [HPP.out], by decide⟩)
      | true =>
        have hil := isNameB_lt h4
        rw [if_pos rfl, Res.bind_ok]
        cases h5 : ((X.tx (i + 1)).toList == [91]) with
        | true =>
          rw [if_pos (by show (((X.tx (i + 1)).toList == [91]) || _) = true; rw [h5]; rfl)]
          go_enter Tryz.func71, Tryz.ntmps71
          go_upto_region 12 with (first
            | (go_at_call 47; refine (rIsNum HX0.out.l i).mono ?_; rw [hn]; rintro e w1 ⟨rfl, hb⟩; have HX1 := hide (HX0.out.below hb); clear q0 q1 fq0 fq1 d0 d1 fd0 fd1 z0 z1 z2 z3 z4 z5 z6 y0 y1 y2 y3 y4 y5 y6; clear HX0; obtain ⟨⟨q0, q1⟩, fq0, fq1⟩ := HX1.out.t.cells; obtain ⟨⟨d0, d1⟩, fd0, fd1⟩ := HX1.out.d.cells; obtain ⟨z0, z1, z2, z3, z4, z5, z6⟩ := HX1.out.z.cells; obtain ⟨y0, y1, y2, y3, y4, y5, y6⟩ := HX1.out.z.frozen; clear hb)
            | (go_at_call 24; refine (rText HX1.out.l (i)).mono ?_; rintro e w2 ⟨rfl, hb⟩; have HX2 := hide (HX1.out.below hb); clear q0 q1 fq0 fq1 d0 d1 fd0 fd1 z0 z1 z2 z3 z4 z5 z6 y0 y1 y2 y3 y4 y5 y6; clear HX1; obtain ⟨⟨q0, q1⟩, fq0, fq1⟩ := HX2.out.t.cells; obtain ⟨⟨d0, d1⟩, fd0, fd1⟩ := HX2.out.d.cells; obtain ⟨z0, z1, z2, z3, z4, z5, z6⟩ := HX2.out.z.cells; obtain ⟨y0, y1, y2, y3, y4, y5, y6⟩ := HX2.out.z.frozen; clear hb)
            | (go_at_call 24; refine (rText HX2.out.l (i)).mono ?_; rintro e w3 ⟨rfl, hb⟩; have HX3 := hide (HX2.out.below hb); clear q0 q1 fq0 fq1 d0 d1 fd0 fd1 z0 z1 z2 z3 z4 z5 z6 y0 y1 y2 y3 y4 y5 y6; clear HX2; obtain ⟨⟨q0, q1⟩, fq0, fq1⟩ := HX3.out.t.cells; obtain ⟨⟨d0, d1⟩, fd0, fd1⟩ := HX3.out.d.cells; obtain ⟨z0, z1, z2, z3, z4, z5, z6⟩ := HX3.out.z.cells; obtain ⟨y0, y1, y2, y3, y4, y5, y6⟩ := HX3.out.z.frozen; clear hb)
            | (go_at_call 26; refine (rIsName (X.tx (i)) _ (HSM.out _)).mono ?_; rw [h4]; rintro e w' ⟨rfl, hw'⟩; obtain rfl := hw'.symm; clear hw')
            | (go_at_call 24; refine (rText HX3.out.l (i)).mono ?_; rintro e w4 ⟨rfl, hb⟩; have HX4 := hide (HX3.out.below hb); clear q0 q1 fq0 fq1 d0 d1 fd0 fd1 z0 z1 z2 z3 z4 z5 z6 y0 y1 y2 y3 y4 y5 y6; clear HX3; obtain ⟨⟨q0, q1⟩, fq0, fq1⟩ := HX4.out.t.cells; obtain ⟨⟨d0, d1⟩, fd0, fd1⟩ := HX4.out.d.cells; obtain ⟨z0, z1, z2, z3, z4, z5, z6⟩ := HX4.out.z.cells; obtain ⟨y0, y1, y2, y3, y4, y5, y6⟩ := HX4.out.z.frozen; clear hb)
            )
          have HX5 := hide (HX4.out.alloc (.cells #[.int .i64 2, .string (X.tx i), .int .i64 0, .bool false, .slice none 0 0, .slice none 0 0, .slice none 0 0] 47))
          have HT5 := hide (SevAt.new w4 (.int .i64 2) (.string (X.tx i)) (.int .i64 0) (.bool false) (.slice none 0 0) (.slice none 0 0) (.slice none 0 0))
          have hz4 : w.heap.size + 3 ≤ w4.heap.size := by have := HX4.out.d.lt; omega
          obtain ⟨w5, hw5⟩ : ∃ w5, w5 = w4.alloc (.cells #[.int .i64 2, .string (X.tx i), .int .i64 0, .bool false, .slice none 0 0, .slice none 0 0, .slice none 0 0] 47) := ⟨_, rfl⟩
          rw [← hw5] at HX5 HT5 ⊢
          clear hw5 HX4
          clear q0 q1 fq0 fq1 d0 d1 fd0 fd1 z0 z1 z2 z3 z4 z5 z6 y0 y1 y2 y3 y4 y5 y6
          obtain ⟨⟨q0, q1⟩, fq0, fq1⟩ := HX5.out.t.cells
          obtain ⟨⟨d0, d1⟩, fd0, fd1⟩ := HX5.out.d.cells
          obtain ⟨z0, z1, z2, z3, z4, z5, z6⟩ := HX5.out.z.cells
          obtain ⟨y0, y1, y2, y3, y4, y5, y6⟩ := HX5.out.z.frozen
          obtain ⟨a0, a1, a2, a3, a4, a5, a6⟩ := HT5.out.cells
          obtain ⟨fa0, fa1, fa2, fa3, fa4, fa5, fa6⟩ := HT5.out.frozen
          go_wp2_with (first
            | (go_at_call 24; refine (rText HX5.out.l (i + 1)).mono ?_; rintro e w6 ⟨rfl, hb⟩; have HX6 := hide (HX5.out.below hb); have HT6 := hide (HT5.out.below hb); clear q0 q1 fq0 fq1 d0 d1 fd0 fd1 z0 z1 z2 z3 z4 z5 z6 y0 y1 y2 y3 y4 y5 y6; clear a0 a1 a2 a3 a4 a5 a6 fa0 fa1 fa2 fa3 fa4 fa5 fa6; clear HX5 HT5; obtain ⟨⟨q0, q1⟩, fq0, fq1⟩ := HX6.out.t.cells; obtain ⟨⟨d0, d1⟩, fd0, fd1⟩ := HX6.out.d.cells; obtain ⟨z0, z1, z2, z3, z4, z5, z6⟩ := HX6.out.z.cells; obtain ⟨y0, y1, y2, y3, y4, y5, y6⟩ := HX6.out.z.frozen; obtain ⟨a0, a1, a2, a3, a4, a5, a6⟩ := HT6.out.cells; obtain ⟨fa0, fa1, fa2, fa3, fa4, fa5, fa6⟩ := HT6.out.frozen; clear hb)
            | (go_at_call 80; refine (HC.out w6 (X.tx i) (i + 1) HX6.out.l (by omega)).mono ?_; intro e w9 hr; obtain ⟨hb, ky, nmy, nuy, shy, Ay, ny, my, By, py, qy, Cy, ry, sy, E2, K2, J2, rfl, hst⟩ := hr.any; have HST := hide hst; have hzk : w.heap.size + 3 ≤ w6.heap.size := (by have := HX6.out.d.lt; omega); have HX9 := hide (HX6.out.below hb); clear q0 q1 fq0 fq1 d0 d1 fd0 fd1 z0 z1 z2 z3 z4 z5 z6 y0 y1 y2 y3 y4 y5 y6; clear a0 a1 a2 a3 a4 a5 a6 fa0 fa1 fa2 fa3 fa4 fa5 fa6; obtain ⟨⟨q0, q1⟩, fq0, fq1⟩ := HX9.out.t.cells; obtain ⟨⟨d0, d1⟩, fd0, fd1⟩ := HX9.out.d.cells; obtain ⟨z0, z1, z2, z3, z4, z5, z6⟩ := HX9.out.z.cells; obtain ⟨y0, y1, y2, y3, y4, y5, y6⟩ := HX9.out.z.frozen; clear hb hr hst)
            )
          obtain ⟨wg, hwg, hfin⟩ := HX9.out.fin 3 (.int .i64 ky) (.string nmy) (.int .i64 nuy) (.bool shy) (.slice Ay ny my) (.slice By py qy) (.slice Cy ry sy) (.int .i64 E2) (.int .i64 (K2 : Int)) (by omega) (by omega) (by omega) (by omega) (by omega)
          rw [← hwg]
          clear hwg
          obtain ⟨hbf, hkf, u0, u1, u2, u3, u4, u5, u6, v0, v1⟩ := hfin
          have HBF := hide hbf
          have HKF := hide hkf
          clear hbf hkf
          go_wp2
          refine bodyPost_ret (v := .tuple #[.agg #[.int .i64 ky, .string nmy, .int .i64 nuy, .bool shy, .slice Ay ny my, .slice By py qy, .slice Cy ry sy], .int .i64 (J2), .agg #[.int .i64 E2, .int .i64 (K2 : Int)]]) (by simp [results, Tryz.results71, go_sem, u0, u1, u2, u3, u4, u5, u6, v0, v1]) rfl ?_
          exact RefP.ofJ _ _ _ _ _ _ _ _ _ _ _ _ _ E2 K2 J2 HBF.out (HST.out.imp (fun ⟨u, j, h1, h0, h2, h3, h4⟩ => ⟨u, j, h1, h0, h2, h3, tree_fin h4 hzk HKF.out⟩) id)
        | false =>
          cases h6 : ((X.tx (i + 1)).toList == [123]) with
          | true =>
            rw [if_pos (by show (((X.tx (i + 1)).toList == [91]) || (((X.tx (i + 1)).toList == [123]) || _)) = true; rw [h5, h6]; rfl)]
            go_enter Tryz.func71, Tryz.ntmps71
            go_upto_region 12 with (first
              | (go_at_call 47; refine (rIsNum HX0.out.l i).mono ?_; rw [hn]; rintro e w1 ⟨rfl, hb⟩; have HX1 := hide (HX0.out.below hb); clear q0 q1 fq0 fq1 d0 d1 fd0 fd1 z0 z1 z2 z3 z4 z5 z6 y0 y1 y2 y3 y4 y5 y6; clear HX0; obtain ⟨⟨q0, q1⟩, fq0, fq1⟩ := HX1.out.t.cells; obtain ⟨⟨d0, d1⟩, fd0, fd1⟩ := HX1.out.d.cells; obtain ⟨z0, z1, z2, z3, z4, z5, z6⟩ := HX1.out.z.cells; obtain ⟨y0, y1, y2, y3, y4, y5, y6⟩ := HX1.out.z.frozen; clear hb)
              | (go_at_call 24; refine (rText HX1.out.l (i)).mono ?_; rintro e w2 ⟨rfl, hb⟩; have HX2 := hide (HX1.out.below hb); clear q0 q1 fq0 fq1 d0 d1 fd0 fd1 z0 z1 z2 z3 z4 z5 z6 y0 y1 y2 y3 y4 y5 y6; clear HX1; obtain ⟨⟨q0, q1⟩, fq0, fq1⟩ := HX2.out.t.cells; obtain ⟨⟨d0, d1⟩, fd0, fd1⟩ := HX2.out.d.cells; obtain ⟨z0, z1, z2, z3, z4, z5, z6⟩ := HX2.out.z.cells; obtain ⟨y0, y1, y2, y3, y4, y5, y6⟩ := HX2.out.z.frozen; clear hb)
              | (go_at_call 24; refine (rText HX2.out.l (i)).mono ?_; rintro e w3 ⟨rfl, hb⟩; have HX3 := hide (HX2.out.below hb); clear q0 q1 fq0 fq1 d0 d1 fd0 fd1 z0 z1 z2 z3 z4 z5 z6 y0 y1 y2 y3 y4 y5 y6; clear HX2; obtain ⟨⟨q0, q1⟩, fq0, fq1⟩ := HX3.out.t.cells; obtain ⟨⟨d0, d1⟩, fd0, fd1⟩ := HX3.out.d.cells; obtain ⟨z0, z1, z2, z3, z4, z5, z6⟩ := HX3.out.z.cells; obtain ⟨y0, y1, y2, y3, y4, y5, y6⟩ := HX3.out.z.frozen; clear hb)
              | (go_at_call 26; refine (rIsName (X.tx (i)) _ (HSM.out _)).mono ?_; rw [h4]; rintro e w' ⟨rfl, hw'⟩; obtain rfl := hw'.symm; clear hw')
              | (go_at_call 24; refine (rText HX3.out.l (i)).mono ?_; rintro e w4 ⟨rfl, hb⟩; have HX4 := hide (HX3.out.below hb); clear q0 q1 fq0 fq1 d0 d1 fd0 fd1 z0 z1 z2 z3 z4 z5 z6 y0 y1 y2 y3 y4 y5 y6; clear HX3; obtain ⟨⟨q0, q1⟩, fq0, fq1⟩ := HX4.out.t.cells; obtain ⟨⟨d0, d1⟩, fd0, fd1⟩ := HX4.out.d.cells; obtain ⟨z0, z1, z2, z3, z4, z5, z6⟩ := HX4.out.z.cells; obtain ⟨y0, y1, y2, y3, y4, y5, y6⟩ := HX4.out.z.frozen; clear hb)
              )
            have HX5 := hide (HX4.out.alloc (.cells #[.int .i64 2, .string (X.tx i), .int .i64 0, .bool false, .slice none 0 0, .slice none 0 0, .slice none 0 0] 47))
            have HT5 := hide (SevAt.new w4 (.int .i64 2) (.string (X.tx i)) (.int .i64 0) (.bool false) (.slice none 0 0) (.slice none 0 0) (.slice none 0 0))
            have hz4 : w.heap.size + 3 ≤ w4.heap.size := by have := HX4.out.d.lt; omega
            obtain ⟨w5, hw5⟩ : ∃ w5, w5 = w4.alloc (.cells #[.int .i64 2, .string (X.tx i), .int .i64 0, .bool false, .slice none 0 0, .slice none 0 0, .slice none 0 0] 47) := ⟨_, rfl⟩
            rw [← hw5] at HX5 HT5 ⊢
            clear hw5 HX4
            clear q0 q1 fq0 fq1 d0 d1 fd0 fd1 z0 z1 z2 z3 z4 z5 z6 y0 y1 y2 y3 y4 y5 y6
            obtain ⟨⟨q0, q1⟩, fq0, fq1⟩ := HX5.out.t.cells
            obtain ⟨⟨d0, d1⟩, fd0, fd1⟩ := HX5.out.d.cells
            obtain ⟨z0, z1, z2, z3, z4, z5, z6⟩ := HX5.out.z.cells
            obtain ⟨y0, y1, y2, y3, y4, y5, y6⟩ := HX5.out.z.frozen
            obtain ⟨a0, a1, a2, a3, a4, a5, a6⟩ := HT5.out.cells
            obtain ⟨fa0, fa1, fa2, fa3, fa4, fa5, fa6⟩ := HT5.out.frozen
            go_wp2_with (first
              | (go_at_call 24; refine (rText HX5.out.l (i + 1)).mono ?_; rintro e w6 ⟨rfl, hb⟩; have HX6 := hide (HX5.out.below hb); have HT6 := hide (HT5.out.below hb); clear q0 q1 fq0 fq1 d0 d1 fd0 fd1 z0 z1 z2 z3 z4 z5 z6 y0 y1 y2 y3 y4 y5 y6; clear a0 a1 a2 a3 a4 a5 a6 fa0 fa1 fa2 fa3 fa4 fa5 fa6; clear HX5 HT5; obtain ⟨⟨q0, q1⟩, fq0, fq1⟩ := HX6.out.t.cells; obtain ⟨⟨d0, d1⟩, fd0, fd1⟩ := HX6.out.d.cells; obtain ⟨z0, z1, z2, z3, z4, z5, z6⟩ := HX6.out.z.cells; obtain ⟨y0, y1, y2, y3, y4, y5, y6⟩ := HX6.out.z.frozen; obtain ⟨a0, a1, a2, a3, a4, a5, a6⟩ := HT6.out.cells; obtain ⟨fa0, fa1, fa2, fa3, fa4, fa5, fa6⟩ := HT6.out.frozen; clear hb)
              | (go_at_call 24; refine (rText HX6.out.l (i + 1)).mono ?_; rintro e w7 ⟨rfl, hb⟩; have HX7 := hide (HX6.out.below hb); have HT7 := hide (HT6.out.below hb); clear q0 q1 fq0 fq1 d0 d1 fd0 fd1 z0 z1 z2 z3 z4 z5 z6 y0 y1 y2 y3 y4 y5 y6; clear a0 a1 a2 a3 a4 a5 a6 fa0 fa1 fa2 fa3 fa4 fa5 fa6; clear HX6 HT6; obtain ⟨⟨q0, q1⟩, fq0, fq1⟩ := HX7.out.t.cells; obtain ⟨⟨d0, d1⟩, fd0, fd1⟩ := HX7.out.d.cells; obtain ⟨z0, z1, z2, z3, z4, z5, z6⟩ := HX7.out.z.cells; obtain ⟨y0, y1, y2, y3, y4, y5, y6⟩ := HX7.out.z.frozen; obtain ⟨a0, a1, a2, a3, a4, a5, a6⟩ := HT7.out.cells; obtain ⟨fa0, fa1, fa2, fa3, fa4, fa5, fa6⟩ := HT7.out.frozen; clear hb)
              | (go_at_call 80; refine (HC.out w7 (X.tx i) (i + 1) HX7.out.l (by omega)).mono ?_; intro e w9 hr; obtain ⟨hb, ky, nmy, nuy, shy, Ay, ny, my, By, py, qy, Cy, ry, sy, E2, K2, J2, rfl, hst⟩ := hr.any; have HST := hide hst; have hzk : w.heap.size + 3 ≤ w7.heap.size := (by have := HX7.out.d.lt; omega); have HX9 := hide (HX7.out.below hb); clear q0 q1 fq0 fq1 d0 d1 fd0 fd1 z0 z1 z2 z3 z4 z5 z6 y0 y1 y2 y3 y4 y5 y6; clear a0 a1 a2 a3 a4 a5 a6 fa0 fa1 fa2 fa3 fa4 fa5 fa6; obtain ⟨⟨q0, q1⟩, fq0, fq1⟩ := HX9.out.t.cells; obtain ⟨⟨d0, d1⟩, fd0, fd1⟩ := HX9.out.d.cells; obtain ⟨z0, z1, z2, z3, z4, z5, z6⟩ := HX9.out.z.cells; obtain ⟨y0, y1, y2, y3, y4, y5, y6⟩ := HX9.out.z.frozen; clear hb hr hst)
              )
            obtain ⟨wg, hwg, hfin⟩ := HX9.out.fin 3 (.int .i64 ky) (.string nmy) (.int .i64 nuy) (.bool shy) (.slice Ay ny my) (.slice By py qy) (.slice Cy ry sy) (.int .i64 E2) (.int .i64 (K2 : Int)) (by omega) (by omega) (by omega) (by omega) (by omega)
            rw [← hwg]
            clear hwg
            obtain ⟨hbf, hkf, u0, u1, u2, u3, u4, u5, u6, v0, v1⟩ := hfin
            have HBF := hide hbf
            have HKF := hide hkf
            clear hbf hkf
            go_wp2
            refine bodyPost_ret (v := .tuple #[.agg #[.int .i64 ky, .string nmy, .int .i64 nuy, .bool shy, .slice Ay ny my, .slice By py qy, .slice Cy ry sy], .int .i64 (J2), .agg #[.int .i64 E2, .int .i64 (K2 : Int)]]) (by simp [results, Tryz.results71, go_sem, u0, u1, u2, u3, u4, u5, u6, v0, v1]) rfl ?_
            exact RefP.ofJ _ _ _ _ _ _ _ _ _ _ _ _ _ E2 K2 J2 HBF.out (HST.out.imp (fun ⟨u, j, h1, h0, h2, h3, h4⟩ => ⟨u, j, h1, h0, h2, h3, tree_fin h4 hzk HKF.out⟩) id)
          | false =>
            cases h7 : ((X.tx (i + 1)).toList == [40]) with
            | true =>
              rw [if_pos (by show (((X.tx (i + 1)).toList == [91]) || (((X.tx (i + 1)).toList == [123]) || ((X.tx (i + 1)).toList == [40]))) = true; rw [h5, h6, h7]; rfl)]
              go_enter Tryz.func71, Tryz.ntmps71
              go_upto_region 12 with (first
                | (go_at_call 47; refine (rIsNum HX0.out.l i).mono ?_; rw [hn]; rintro e w1 ⟨rfl, hb⟩; have HX1 := hide (HX0.out.below hb); clear q0 q1 fq0 fq1 d0 d1 fd0 fd1 z0 z1 z2 z3 z4 z5 z6 y0 y1 y2 y3 y4 y5 y6; clear HX0; obtain ⟨⟨q0, q1⟩, fq0, fq1⟩ := HX1.out.t.cells; obtain ⟨⟨d0, d1⟩, fd0, fd1⟩ := HX1.out.d.cells; obtain ⟨z0, z1, z2, z3, z4, z5, z6⟩ := HX1.out.z.cells; obtain ⟨y0, y1, y2, y3, y4, y5, y6⟩ := HX1.out.z.frozen; clear hb)
                | (go_at_call 24; refine (rText HX1.out.l (i)).mono ?_; rintro e w2 ⟨rfl, hb⟩; have HX2 := hide (HX1.out.below hb); clear q0 q1 fq0 fq1 d0 d1 fd0 fd1 z0 z1 z2 z3 z4 z5 z6 y0 y1 y2 y3 y4 y5 y6; clear HX1; obtain ⟨⟨q0, q1⟩, fq0, fq1⟩ := HX2.out.t.cells; obtain ⟨⟨d0, d1⟩, fd0, fd1⟩ := HX2.out.d.cells; obtain ⟨z0, z1, z2, z3, z4, z5, z6⟩ := HX2.out.z.cells; obtain ⟨y0, y1, y2, y3, y4, y5, y6⟩ := HX2.out.z.frozen; clear hb)
                | (go_at_call 24; refine (rText HX2.out.l (i)).mono ?_; rintro e w3 ⟨rfl, hb⟩; have HX3 := hide (HX2.out.below hb); clear q0 q1 fq0 fq1 d0 d1 fd0 fd1 z0 z1 z2 z3 z4 z5 z6 y0 y1 y2 y3 y4 y5 y6; clear HX2; obtain ⟨⟨q0, q1⟩, fq0, fq1⟩ := HX3.out.t.cells; obtain ⟨⟨d0, d1⟩, fd0, fd1⟩ := HX3.out.d.cells; obtain ⟨z0, z1, z2, z3, z4, z5, z6⟩ := HX3.out.z.cells; obtain ⟨y0, y1, y2, y3, y4, y5, y6⟩ := HX3.out.z.frozen; clear hb)
                | (go_at_call 26; refine (rIsName (X.tx (i)) _ (HSM.out _)).mono ?_; rw [h4]; rintro e w' ⟨rfl, hw'⟩; obtain rfl := hw'.symm; clear hw')
                | (go_at_call 24; refine (rText HX3.out.l (i)).mono ?_; rintro e w4 ⟨rfl, hb⟩; have HX4 := hide (HX3.out.below hb); clear q0 q1 fq0 fq1 d0 d1 fd0 fd1 z0 z1 z2 z3 z4 z5 z6 y0 y1 y2 y3 y4 y5 y6; clear HX3; obtain ⟨⟨q0, q1⟩, fq0, fq1⟩ := HX4.out.t.cells; obtain ⟨⟨d0, d1⟩, fd0, fd1⟩ := HX4.out.d.cells; obtain ⟨z0, z1, z2, z3, z4, z5, z6⟩ := HX4.out.z.cells; obtain ⟨y0, y1, y2, y3, y4, y5, y6⟩ := HX4.out.z.frozen; clear hb)
                )
              have HX5 := hide (HX4.out.alloc (.cells #[.int .i64 2, .string (X.tx i), .int .i64 0, .bool false, .slice none 0 0, .slice none 0 0, .slice none 0 0] 47))
              have HT5 := hide (SevAt.new w4 (.int .i64 2) (.string (X.tx i)) (.int .i64 0) (.bool false) (.slice none 0 0) (.slice none 0 0) (.slice none 0 0))
              have hz4 : w.heap.size + 3 ≤ w4.heap.size := by have := HX4.out.d.lt; omega
              obtain ⟨w5, hw5⟩ : ∃ w5, w5 = w4.alloc (.cells #[.int .i64 2, .string (X.tx i), .int .i64 0, .bool false, .slice none 0 0, .slice none 0 0, .slice none 0 0] 47) := ⟨_, rfl⟩
              rw [← hw5] at HX5 HT5 ⊢
              clear hw5 HX4
              clear q0 q1 fq0 fq1 d0 d1 fd0 fd1 z0 z1 z2 z3 z4 z5 z6 y0 y1 y2 y3 y4 y5 y6
              obtain ⟨⟨q0, q1⟩, fq0, fq1⟩ := HX5.out.t.cells
              obtain ⟨⟨d0, d1⟩, fd0, fd1⟩ := HX5.out.d.cells
              obtain ⟨z0, z1, z2, z3, z4, z5, z6⟩ := HX5.out.z.cells
              obtain ⟨y0, y1, y2, y3, y4, y5, y6⟩ := HX5.out.z.frozen
              obtain ⟨a0, a1, a2, a3, a4, a5, a6⟩ := HT5.out.cells
              obtain ⟨fa0, fa1, fa2, fa3, fa4, fa5, fa6⟩ := HT5.out.frozen
              go_wp2_with (first
                | (go_at_call 24; refine (rText HX5.out.l (i + 1)).mono ?_; rintro e w6 ⟨rfl, hb⟩; have HX6 := hide (HX5.out.below hb); have HT6 := hide (HT5.out.below hb); clear q0 q1 fq0 fq1 d0 d1 fd0 fd1 z0 z1 z2 z3 z4 z5 z6 y0 y1 y2 y3 y4 y5 y6; clear a0 a1 a2 a3 a4 a5 a6 fa0 fa1 fa2 fa3 fa4 fa5 fa6; clear HX5 HT5; obtain ⟨⟨q0, q1⟩, fq0, fq1⟩ := HX6.out.t.cells; obtain ⟨⟨d0, d1⟩, fd0, fd1⟩ := HX6.out.d.cells; obtain ⟨z0, z1, z2, z3, z4, z5, z6⟩ := HX6.out.z.cells; obtain ⟨y0, y1, y2, y3, y4, y5, y6⟩ := HX6.out.z.frozen; obtain ⟨a0, a1, a2, a3, a4, a5, a6⟩ := HT6.out.cells; obtain ⟨fa0, fa1, fa2, fa3, fa4, fa5, fa6⟩ := HT6.out.frozen; clear hb)
                | (go_at_call 24; refine (rText HX6.out.l (i + 1)).mono ?_; rintro e w7 ⟨rfl, hb⟩; have HX7 := hide (HX6.out.below hb); have HT7 := hide (HT6.out.below hb); clear q0 q1 fq0 fq1 d0 d1 fd0 fd1 z0 z1 z2 z3 z4 z5 z6 y0 y1 y2 y3 y4 y5 y6; clear a0 a1 a2 a3 a4 a5 a6 fa0 fa1 fa2 fa3 fa4 fa5 fa6; clear HX6 HT6; obtain ⟨⟨q0, q1⟩, fq0, fq1⟩ := HX7.out.t.cells; obtain ⟨⟨d0, d1⟩, fd0, fd1⟩ := HX7.out.d.cells; obtain ⟨z0, z1, z2, z3, z4, z5, z6⟩ := HX7.out.z.cells; obtain ⟨y0, y1, y2, y3, y4, y5, y6⟩ := HX7.out.z.frozen; obtain ⟨a0, a1, a2, a3, a4, a5, a6⟩ := HT7.out.cells; obtain ⟨fa0, fa1, fa2, fa3, fa4, fa5, fa6⟩ := HT7.out.frozen; clear hb)
                | (go_at_call 24; refine (rText HX7.out.l (i + 1)).mono ?_; rintro e w8 ⟨rfl, hb⟩; have HX8 := hide (HX7.out.below hb); have HT8 := hide (HT7.out.below hb); clear q0 q1 fq0 fq1 d0 d1 fd0 fd1 z0 z1 z2 z3 z4 z5 z6 y0 y1 y2 y3 y4 y5 y6; clear a0 a1 a2 a3 a4 a5 a6 fa0 fa1 fa2 fa3 fa4 fa5 fa6; clear HX7 HT7; obtain ⟨⟨q0, q1⟩, fq0, fq1⟩ := HX8.out.t.cells; obtain ⟨⟨d0, d1⟩, fd0, fd1⟩ := HX8.out.d.cells; obtain ⟨z0, z1, z2, z3, z4, z5, z6⟩ := HX8.out.z.cells; obtain ⟨y0, y1, y2, y3, y4, y5, y6⟩ := HX8.out.z.frozen; obtain ⟨a0, a1, a2, a3, a4, a5, a6⟩ := HT8.out.cells; obtain ⟨fa0, fa1, fa2, fa3, fa4, fa5, fa6⟩ := HT8.out.frozen; clear hb)
                | (go_at_call 80; refine (HC.out w8 (X.tx i) (i + 1) HX8.out.l (by omega)).mono ?_; intro e w9 hr; obtain ⟨hb, ky, nmy, nuy, shy, Ay, ny, my, By, py, qy, Cy, ry, sy, E2, K2, J2, rfl, hst⟩ := hr.any; have HST := hide hst; have hzk : w.heap.size + 3 ≤ w8.heap.size := (by have := HX8.out.d.lt; omega); have HX9 := hide (HX8.out.below hb); clear q0 q1 fq0 fq1 d0 d1 fd0 fd1 z0 z1 z2 z3 z4 z5 z6 y0 y1 y2 y3 y4 y5 y6; clear a0 a1 a2 a3 a4 a5 a6 fa0 fa1 fa2 fa3 fa4 fa5 fa6; obtain ⟨⟨q0, q1⟩, fq0, fq1⟩ := HX9.out.t.cells; obtain ⟨⟨d0, d1⟩, fd0, fd1⟩ := HX9.out.d.cells; obtain ⟨z0, z1, z2, z3, z4, z5, z6⟩ := HX9.out.z.cells; obtain ⟨y0, y1, y2, y3, y4, y5, y6⟩ := HX9.out.z.frozen; clear hb hr hst)
                )
              obtain ⟨wg, hwg, hfin⟩ := HX9.out.fin 3 (.int .i64 ky) (.string nmy) (.int .i64 nuy) (.bool shy) (.slice Ay ny my) (.slice By py qy) (.slice Cy ry sy) (.int .i64 E2) (.int .i64 (K2 : Int)) (by omega) (by omega) (by omega) (by omega) (by omega)
              rw [← hwg]
              clear hwg
              obtain ⟨hbf, hkf, u0, u1, u2, u3, u4, u5, u6, v0, v1⟩ := hfin
              have HBF := hide hbf
              have HKF := hide hkf
              clear hbf hkf
              go_wp2
              refine bodyPost_ret (v := .tuple #[.agg #[.int .i64 ky, .string nmy, .int .i64 nuy, .bool shy, .slice Ay ny my, .slice By py qy, .slice Cy ry sy], .int .i64 (J2), .agg #[.int .i64 E2, .int .i64 (K2 : Int)]]) (by simp [results, Tryz.results71, go_sem, u0, u1, u2, u3, u4, u5, u6, v0, v1]) rfl ?_
              exact RefP.ofJ _ _ _ _ _ _ _ _ _ _ _ _ _ E2 K2 J2 HBF.out (HST.out.imp (fun ⟨u, j, h1, h0, h2, h3, h4⟩ => ⟨u, j, h1, h0, h2, h3, tree_fin h4 hzk HKF.out⟩) id)
            | false =>
              rw [if_neg (by rw [opens_no h5 h6 h7]; simp)]
              go_enter Tryz.func71, Tryz.ntmps71
              go_upto_region 12 with (first
                | (go_at_call 47; refine (rIsNum HX0.out.l i).mono ?_; rw [hn]; rintro e w1 ⟨rfl, hb⟩; have HX1 := hide (HX0.out.below hb); clear q0 q1 fq0 fq1 d0 d1 fd0 fd1 z0 z1 z2 z3 z4 z5 z6 y0 y1 y2 y3 y4 y5 y6; clear HX0; obtain ⟨⟨q0, q1⟩, fq0, fq1⟩ := HX1.out.t.cells; obtain ⟨⟨d0, d1⟩, fd0, fd1⟩ := HX1.out.d.cells; obtain ⟨z0, z1, z2, z3, z4, z5, z6⟩ := HX1.out.z.cells; obtain ⟨y0, y1, y2, y3, y4, y5, y6⟩ := HX1.out.z.frozen; clear hb)
                | (go_at_call 24; refine (rText HX1.out.l (i)).mono ?_; rintro e w2 ⟨rfl, hb⟩; have HX2 := hide (HX1.out.below hb); clear q0 q1 fq0 fq1 d0 d1 fd0 fd1 z0 z1 z2 z3 z4 z5 z6 y0 y1 y2 y3 y4 y5 y6; clear HX1; obtain ⟨⟨q0, q1⟩, fq0, fq1⟩ := HX2.out.t.cells; obtain ⟨⟨d0, d1⟩, fd0, fd1⟩ := HX2.out.d.cells; obtain ⟨z0, z1, z2, z3, z4, z5, z6⟩ := HX2.out.z.cells; obtain ⟨y0, y1, y2, y3, y4, y5, y6⟩ := HX2.out.z.frozen; clear hb)
                | (go_at_call 24; refine (rText HX2.out.l (i)).mono ?_; rintro e w3 ⟨rfl, hb⟩; have HX3 := hide (HX2.out.below hb); clear q0 q1 fq0 fq1 d0 d1 fd0 fd1 z0 z1 z2 z3 z4 z5 z6 y0 y1 y2 y3 y4 y5 y6; clear HX2; obtain ⟨⟨q0, q1⟩, fq0, fq1⟩ := HX3.out.t.cells; obtain ⟨⟨d0, d1⟩, fd0, fd1⟩ := HX3.out.d.cells; obtain ⟨z0, z1, z2, z3, z4, z5, z6⟩ := HX3.out.z.cells; obtain ⟨y0, y1, y2, y3, y4, y5, y6⟩ := HX3.out.z.frozen; clear hb)
                | (go_at_call 26; refine (rIsName (X.tx (i)) _ (HSM.out _)).mono ?_; rw [h4]; rintro e w' ⟨rfl, hw'⟩; obtain rfl := hw'.symm; clear hw')
                | (go_at_call 24; refine (rText HX3.out.l (i)).mono ?_; rintro e w4 ⟨rfl, hb⟩; have HX4 := hide (HX3.out.below hb); clear q0 q1 fq0 fq1 d0 d1 fd0 fd1 z0 z1 z2 z3 z4 z5 z6 y0 y1 y2 y3 y4 y5 y6; clear HX3; obtain ⟨⟨q0, q1⟩, fq0, fq1⟩ := HX4.out.t.cells; obtain ⟨⟨d0, d1⟩, fd0, fd1⟩ := HX4.out.d.cells; obtain ⟨z0, z1, z2, z3, z4, z5, z6⟩ := HX4.out.z.cells; obtain ⟨y0, y1, y2, y3, y4, y5, y6⟩ := HX4.out.z.frozen; clear hb)
                )
              have HX5 := hide (HX4.out.alloc (.cells #[.int .i64 2, .string (X.tx i), .int .i64 0, .bool false, .slice none 0 0, .slice none 0 0, .slice none 0 0] 47))
              have HT5 := hide (SevAt.new w4 (.int .i64 2) (.string (X.tx i)) (.int .i64 0) (.bool false) (.slice none 0 0) (.slice none 0 0) (.slice none 0 0))
              have hz4 : w.heap.size + 3 ≤ w4.heap.size := by have := HX4.out.d.lt; omega
              obtain ⟨w5, hw5⟩ : ∃ w5, w5 = w4.alloc (.cells #[.int .i64 2, .string (X.tx i), .int .i64 0, .bool false, .slice none 0 0, .slice none 0 0, .slice none 0 0] 47) := ⟨_, rfl⟩
              rw [← hw5] at HX5 HT5 ⊢
              clear hw5 HX4
              clear q0 q1 fq0 fq1 d0 d1 fd0 fd1 z0 z1 z2 z3 z4 z5 z6 y0 y1 y2 y3 y4 y5 y6
              obtain ⟨⟨q0, q1⟩, fq0, fq1⟩ := HX5.out.t.cells
              obtain ⟨⟨d0, d1⟩, fd0, fd1⟩ := HX5.out.d.cells
              obtain ⟨z0, z1, z2, z3, z4, z5, z6⟩ := HX5.out.z.cells
              obtain ⟨y0, y1, y2, y3, y4, y5, y6⟩ := HX5.out.z.frozen
              obtain ⟨a0, a1, a2, a3, a4, a5, a6⟩ := HT5.out.cells
              obtain ⟨fa0, fa1, fa2, fa3, fa4, fa5, fa6⟩ := HT5.out.frozen
              go_wp2_with (first
                | (go_at_call 24; refine (rText HX5.out.l (i + 1)).mono ?_; rintro e w6 ⟨rfl, hb⟩; have HX6 := hide (HX5.out.below hb); have HT6 := hide (HT5.out.below hb); clear q0 q1 fq0 fq1 d0 d1 fd0 fd1 z0 z1 z2 z3 z4 z5 z6 y0 y1 y2 y3 y4 y5 y6; clear a0 a1 a2 a3 a4 a5 a6 fa0 fa1 fa2 fa3 fa4 fa5 fa6; clear HX5 HT5; obtain ⟨⟨q0, q1⟩, fq0, fq1⟩ := HX6.out.t.cells; obtain ⟨⟨d0, d1⟩, fd0, fd1⟩ := HX6.out.d.cells; obtain ⟨z0, z1, z2, z3, z4, z5, z6⟩ := HX6.out.z.cells; obtain ⟨y0, y1, y2, y3, y4, y5, y6⟩ := HX6.out.z.frozen; obtain ⟨a0, a1, a2, a3, a4, a5, a6⟩ := HT6.out.cells; obtain ⟨fa0, fa1, fa2, fa3, fa4, fa5, fa6⟩ := HT6.out.frozen; clear hb)
                | (go_at_call 24; refine (rText HX6.out.l (i + 1)).mono ?_; rintro e w7 ⟨rfl, hb⟩; have HX7 := hide (HX6.out.below hb); have HT7 := hide (HT6.out.below hb); clear q0 q1 fq0 fq1 d0 d1 fd0 fd1 z0 z1 z2 z3 z4 z5 z6 y0 y1 y2 y3 y4 y5 y6; clear a0 a1 a2 a3 a4 a5 a6 fa0 fa1 fa2 fa3 fa4 fa5 fa6; clear HX6 HT6; obtain ⟨⟨q0, q1⟩, fq0, fq1⟩ := HX7.out.t.cells; obtain ⟨⟨d0, d1⟩, fd0, fd1⟩ := HX7.out.d.cells; obtain ⟨z0, z1, z2, z3, z4, z5, z6⟩ := HX7.out.z.cells; obtain ⟨y0, y1, y2, y3, y4, y5, y6⟩ := HX7.out.z.frozen; obtain ⟨a0, a1, a2, a3, a4, a5, a6⟩ := HT7.out.cells; obtain ⟨fa0, fa1, fa2, fa3, fa4, fa5, fa6⟩ := HT7.out.frozen; clear hb)
                | (go_at_call 24; refine (rText HX7.out.l (i + 1)).mono ?_; rintro e w8 ⟨rfl, hb⟩; have HX8 := hide (HX7.out.below hb); have HT8 := hide (HT7.out.below hb); clear q0 q1 fq0 fq1 d0 d1 fd0 fd1 z0 z1 z2 z3 z4 z5 z6 y0 y1 y2 y3 y4 y5 y6; clear a0 a1 a2 a3 a4 a5 a6 fa0 fa1 fa2 fa3 fa4 fa5 fa6; clear HX7 HT7; obtain ⟨⟨q0, q1⟩, fq0, fq1⟩ := HX8.out.t.cells; obtain ⟨⟨d0, d1⟩, fd0, fd1⟩ := HX8.out.d.cells; obtain ⟨z0, z1, z2, z3, z4, z5, z6⟩ := HX8.out.z.cells; obtain ⟨y0, y1, y2, y3, y4, y5, y6⟩ := HX8.out.z.frozen; obtain ⟨a0, a1, a2, a3, a4, a5, a6⟩ := HT8.out.cells; obtain ⟨fa0, fa1, fa2, fa3, fa4, fa5, fa6⟩ := HT8.out.frozen; clear hb)
                )
              obtain ⟨wg, hwg, hfin⟩ := HX8.out.fin 3 (.int .i64 2) (.string (X.tx i)) (.int .i64 0) (.bool false) (.slice none 0 0) (.slice none 0 0) (.slice none 0 0) (.int .i64 0) (.int .i64 0) (by omega) (by omega) (by omega) (by omega) (by omega)
              rw [← hwg]
              clear hwg
              obtain ⟨hbf, hkf, u0, u1, u2, u3, u4, u5, u6, v0, v1⟩ := hfin
              have HBF := hide hbf
              have HKF := hide hkf
              clear hbf hkf
              go_wp2
              refine bodyPost_ret (v := .tuple #[.agg #[.int .i64 2, .string (X.tx i), .int .i64 0, .bool false, .slice none 0 0, .slice none 0 0, .slice none 0 0], .int .i64 (((i + 1 : Nat) : Int)), .agg #[.int .i64 0, .int .i64 0]]) (by simp [results, Tryz.results71, go_sem, u0, u1, u2, u3, u4, u5, u6, v0, v1]) rfl ?_
              exact RefP.of _ _ _ _ _ _ _ _ _ _ _ _ _ 0 0 (i + 1) HBF.out (.inl ⟨_, rfl, rfl, rfl, by
                unfold Tr.nam
                rw [TreeV.iff]
                exact ⟨_, _, _, rfl, SliceV.none _ _ _ _ _, SliceV.none _ _ _ _ _, SliceV.none _ _ _ _ _⟩⟩)
end Go.Proofs.YtadhlnlcdljamaaGreatDoor.V
