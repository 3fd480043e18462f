/-
  The document's side: sum. The document's side: product.
-/
import Derived.Test.YtadhlnlcdljamaaGreatDoorM2
namespace Go.Proofs.YtadhlnlcdljamaaGreatDoor.V
set_option maxRecDepth 20000
open Go.RowKit
set_option linter.unusedVariables false

theorem chain_on2 {X : Tks} {P : Nat → Res Tr} {sg : ByteArray → Bool} {r0 : Res Tr} {f i : Nat} {t : Tr} {J E : Int} {K : Nat} {n T F : Nat} {wr W : World} {B : Nat} {cs0 cs : List Value} {nm : ByteArray} {S : Nat → Prop}
    (hr : r0 = (P i).bind fun b j' => chainL X P sg f j' (.two nm t b)) (hPl : ∀ j a j', P j = .ok a j' → j' ≤ X.ts.length)
    (ht : TreeV W S t cs0) (hst : (∃ u j, P i = .ok u j ∧ J = ((j : Nat) : Int) ∧ E = 0 ∧ K = 0 ∧ TreeV W S u cs) ∨ (P i = .bad E K ∧ E ≠ 0)) (hB : but n T F B) (hS : ∀ b, S b → but n T F b) (hk : Keep S W wr) (hb : wr.heap[B]? = some (.cells (cs0 ++ cs).toArray 47 (0, 0))) :
    (∃ t j, J = ((j : Nat) : Int) ∧ E = 0 ∧ K = 0 ∧ j ≤ X.ts.length ∧ r0 = chainL X P sg f j t ∧ TreeV wr (but n T F) t [.int .i64 4, .string nm, .int .i64 0, .bool false, .slice none 0 0, .slice none 0 0, .slice (some ⟨B, 0, none⟩) 2 2]) ∨ (E ≠ 0 ∧ r0 = .bad E K) := by
  rcases hst with ⟨u, j, hu, hJ, hE, hK, hv⟩ | ⟨hu, hE⟩
  · refine .inl ⟨.two nm t u, j, hJ, hE, hK, hPl _ _ _ hu, by rw [hr, hu]; rfl, ?_⟩
    exact TreeV.twoKids (TreeV.stays.weaken (TreeV.stays.keep ht hk) (fun b _ h => hS b h)) (TreeV.stays.weaken (TreeV.stays.keep hv hk) (fun b _ h => hS b h)) hB hb
  · exact .inr ⟨hE, by rw [hr, hu]; rfl⟩

set_option maxRecDepth 100000 in
set_option maxHeartbeats 8000000 in
theorem rSum {X : Tks} {A : Option Addr} {c L : Nat} {w : World} (P : Nat → Res Tr) (h : LsAt X A c w) (i : Nat) (hi : i ≤ X.ts.length) (hPl : ∀ j a j', P j = .ok a j' → j' ≤ X.ts.length)
    (hP : ∀ (W : World) (j : Nat), LsAt X A c W → j ≤ X.ts.length → Calls Tryz.prog 59 #[lsV X A c, .int .i64 (j : Int), .int .i64 (L : Int)] W (RefP isTr (repT W) (P j) W)) :
    Calls Tryz.prog 48 #[lsV X A c, .int .i64 (i : Int), .int .i64 (L : Int)] w (RefP isTr (repT w) (chainS X P isSumB i) w) := by
  have HX0 := hide (Bt.new h)
  have HP := hide hP
  have HPL := hide hPl
  have hxl := h.len
  obtain ⟨⟨q0, q1⟩, fq0, fq1⟩ := HX0.out.t.cells
  unfold lsV at *
  unfold chainS
  clear h hP hPl
  obtain ⟨r0, hr0⟩ : ∃ r0, r0 = (P i).bind fun t j => chainL X P isSumB 64 j t := ⟨_, rfl⟩
  rw [← hr0]
  have HR0 := hide hr0
  clear hr0
  go_enter Tryz.func48, Tryz.ntmps48
  go_wp2_with (first
    | (go_at_call 59; refine (HP.out _ i HX0.out.l hi).mono ?_; intro e w1 hr; obtain ⟨hb, ka, nma, nua, sha, Aa, na, ma, Ba, pa, qa, Ca, ra, sa, E, K, J1, rfl, hst⟩ := hr.any; have HX1 := hide (HX0.out.below hb); have hz1 := HX1.out.d.lt; have HST := hide hst; clear hb hst hr)
    )
  go_loopw [1, 11] (fun v1 v11 wr => Bt X A c w.heap.size (w.heap.size + 1) (w.heap.size + 1 + 1) w wr ∧ w1.heap.size + 2 ≤ wr.heap.size ∧ ChainSt X P isSumB r0 w1.heap.size (w1.heap.size + 1) (w.heap.size + 3) wr v1 v11) (fun _ v11 _ => 66 - (intOf v11).toNat)
  case atStart =>
    have hF : TwoAt 25 ((w1.alloc (.cells #[.int .i64 ka, .string nma, .int .i64 nua, .bool sha, .slice Aa na ma, .slice Ba pa qa, .slice Ca ra sa] 47)).alloc (.cells #[.int .i64 E, .int .i64 (K : Int)] 25)) (w1.heap.size + 1) (.int .i64 E) (.int .i64 (K : Int)) := by
      have := TwoAt.new 25 (w1.alloc (.cells #[.int .i64 ka, .string nma, .int .i64 nua, .bool sha, .slice Aa na ma, .slice Ba pa qa, .slice Ca ra sa] 47)) (.int .i64 E) (.int .i64 (K : Int)); simpa using this
    refine ⟨(HX1.out.alloc (.cells #[.int .i64 ka, .string nma, .int .i64 nua, .bool sha, .slice Aa na ma, .slice Ba pa qa, .slice Ca ra sa] 47)).alloc (.cells #[.int .i64 E, .int .i64 (K : Int)] 25), by simp, ?_⟩
    refine ChainSt.of 64 J1 E K _ _ _ _ _ _ _ _ _ _ _ _ _ (Nat.le_refl _) ((SevAt.new w1 _ _ _ _ _ _ _).alloc _) hF ?_
    rcases HST.out with ⟨t0, j1, e0, rfl, rfl, rfl, htr⟩ | ⟨e0, hne⟩
    · refine .inl ⟨t0, j1, rfl, rfl, rfl, HPL.out _ _ _ e0, by rw [HR0.out, e0]; rfl, ?_⟩
      refine TreeV.stays.keep (TreeV.stays.keep (TreeV.stays.weaken htr (fun b hb hf => ?_)) (Keep.alloc _ _)) (Keep.alloc _ _)
      have h9 : w.heap.size + 3 ≤ b := by simpa [from_] using hf
      exact ⟨h9, by omega, by omega⟩
    · exact .inr ⟨hne, by rw [HR0.out, e0]; rfl⟩
  case round =>
    obtain ⟨hX, hsz, f, J, Eb, kb, kx, nmx, nux, shx, Ax, nx, mx, Bx, px, qx, Cx, rx, sx, rfl, rfl, hf, hS, hF, hst⟩ := hrel
    have HX2 := hide hX
    have HS2 := hide hS
    have HF2 := hide hF
    obtain ⟨⟨q0, q1⟩, fq0, fq1⟩ := HX2.out.t.cells; obtain ⟨⟨d0, d1⟩, fd0, fd1⟩ := HX2.out.d.cells; obtain ⟨z0, z1, z2, z3, z4, z5, z6⟩ := HX2.out.z.cells; obtain ⟨y0, y1, y2, y3, y4, y5, y6⟩ := HX2.out.z.frozen
    obtain ⟨a0, a1, a2, a3, a4, a5, a6⟩ := HS2.out.cells; obtain ⟨fa0, fa1, fa2, fa3, fa4, fa5, fa6⟩ := HS2.out.frozen
    obtain ⟨⟨g0, g1⟩, fg0, fg1⟩ := HF2.out.cells
    clear hX HX1 HST HX0 hS hF
    rcases hst with ⟨t, j, rfl, rfl, rfl, hjl, hsl, hT⟩ | ⟨hne, hsl⟩
    · have HT2 := hide hT
      clear hT
      have hbd : isSumB (X.tx j) = ((X.tx j).toList == [43] || (X.tx j).toList == [45]) := rfl
      cases hb1 : ((X.tx j).toList == [43]) with
      | true =>
        have hb : isSumB (X.tx j) = true := by rw [hbd, hb1]; rfl
        have hjl2 := isSumB_lt hb
        clear hbd
        cases f with
        | zero =>
          have HSL : Hid (r0 = .bad 5 (X.ps j)) := by rw [Hid, hsl, chainL, if_pos hb]
          clear hsl
          go_wp2_with (first
            | (go_at_call 24; refine (rText HX2.out.l (j)).mono ?_; rintro e w3 ⟨rfl, hb⟩; have HB3 := hide hb; have HX3 := hide (HX2.out.below hb); have HS3 := hide (HS2.out.below hb); have HF3 := hide (HF2.out.below hb); clear q0 q1 fq0 fq1 d0 d1 fd0 fd1 z0 z1 z2 z3 z4 z5 z6 y0 y1 y2 y3 y4 y5 y6; clear a0 a1 a2 a3 a4 a5 a6 fa0 fa1 fa2 fa3 fa4 fa5 fa6; clear g0 g1 fg0 fg1; obtain ⟨⟨q0, q1⟩, fq0, fq1⟩ := HX3.out.t.cells; obtain ⟨⟨d0, d1⟩, fd0, fd1⟩ := HX3.out.d.cells; obtain ⟨z0, z1, z2, z3, z4, z5, z6⟩ := HX3.out.z.cells; obtain ⟨y0, y1, y2, y3, y4, y5, y6⟩ := HX3.out.z.frozen; obtain ⟨a0, a1, a2, a3, a4, a5, a6⟩ := HS3.out.cells; obtain ⟨fa0, fa1, fa2, fa3, fa4, fa5, fa6⟩ := HS3.out.frozen; obtain ⟨⟨g0, g1⟩, fg0, fg1⟩ := HF3.out.cells; have HT3 := hide (TreeV.stays.keep HT2.out (Keep.of_below hb)); clear hb HX2)
            )
          obtain ⟨p, hp⟩ : ∃ p, p = X.ps (j) := ⟨_, rfl⟩
          have HBA := hide (rMuch (X := X) (A := A) (c := c) (w := w3.drew) HX3.out.drew.l (j))
          rw [← hp] at HBA HSL
          clear hp
          go_region_with (go_at_call 45; refine HBA.out.mono ?_; rintro e w9 ⟨rfl, hb4⟩; have HX9 := hide (HX3.out.drew.below hb4); have HS9 := hide (HS3.out.drew.below hb4); clear q0 q1 fq0 fq1 d0 d1 fd0 fd1 z0 z1 z2 z3 z4 z5 z6 y0 y1 y2 y3 y4 y5 y6; clear a0 a1 a2 a3 a4 a5 a6 fa0 fa1 fa2 fa3 fa4 fa5 fa6; clear g0 g1 fg0 fg1; obtain ⟨⟨q0, q1⟩, fq0, fq1⟩ := HX9.out.t.cells; obtain ⟨⟨d0, d1⟩, fd0, fd1⟩ := HX9.out.d.cells; obtain ⟨z0, z1, z2, z3, z4, z5, z6⟩ := HX9.out.z.cells; obtain ⟨y0, y1, y2, y3, y4, y5, y6⟩ := HX9.out.z.frozen; obtain ⟨a0, a1, a2, a3, a4, a5, a6⟩ := HS9.out.cells; obtain ⟨fa0, fa1, fa2, fa3, fa4, fa5, fa6⟩ := HS9.out.frozen; clear hb4)
          all_goals
            obtain ⟨wg, hwg, hfin⟩ := HX9.out.fin 3 (.int .i64 kx) (.string nmx) (.int .i64 nux) (.bool shx) (.slice Ax nx mx) (.slice Bx px qx) (.slice Cx rx sx) (.int .i64 5) (.int .i64 (p : Int)) (by omega) (by omega) (by omega) (by omega) (by omega)
            rw [← hwg]
            clear hwg
            obtain ⟨hbf, hkf, u0, u1, u2, u3, u4, u5, u6, v0, v1⟩ := hfin
            have HBF := hide hbf
            have HKF := hide hkf
            clear hbf hkf
            go_wp2
            refine bodyPost_ret (v := .tuple #[.agg #[.int .i64 kx, .string nmx, .int .i64 nux, .bool shx, .slice Ax nx mx, .slice Bx px qx, .slice Cx rx sx], .int .i64 ((j : Int)), .agg #[.int .i64 5, .int .i64 (p : Int)]]) (by simp [results, Tryz.results48, go_sem, u0, u1, u2, u3, u4, u5, u6, v0, v1]) rfl ?_
            exact RefP.of _ _ _ _ _ _ _ _ _ _ _ _ _ 5 p j HBF.out (.inr ⟨HSL.out, by decide⟩)
        | succ f =>
          have HSM : Hid (r0 = (P (j + 1)).bind fun b j' => chainL X P isSumB f j' (.two (X.tx j) t b)) := by rw [Hid, hsl, chainL, if_pos hb]
          have hn64 : ¬ (64 : Int) < ((64 - f : Nat) : Int) := by omega
          clear hsl
          go_wp2_with (first
            | (go_at_call 24; refine (rText HX2.out.l (j)).mono ?_; rintro e w3 ⟨rfl, hb⟩; have HB3 := hide hb; have HX3 := hide (HX2.out.below hb); have HS3 := hide (HS2.out.below hb); have HF3 := hide (HF2.out.below hb); clear q0 q1 fq0 fq1 d0 d1 fd0 fd1 z0 z1 z2 z3 z4 z5 z6 y0 y1 y2 y3 y4 y5 y6; clear a0 a1 a2 a3 a4 a5 a6 fa0 fa1 fa2 fa3 fa4 fa5 fa6; clear g0 g1 fg0 fg1; obtain ⟨⟨q0, q1⟩, fq0, fq1⟩ := HX3.out.t.cells; obtain ⟨⟨d0, d1⟩, fd0, fd1⟩ := HX3.out.d.cells; obtain ⟨z0, z1, z2, z3, z4, z5, z6⟩ := HX3.out.z.cells; obtain ⟨y0, y1, y2, y3, y4, y5, y6⟩ := HX3.out.z.frozen; obtain ⟨a0, a1, a2, a3, a4, a5, a6⟩ := HS3.out.cells; obtain ⟨fa0, fa1, fa2, fa3, fa4, fa5, fa6⟩ := HS3.out.frozen; obtain ⟨⟨g0, g1⟩, fg0, fg1⟩ := HF3.out.cells; have HT3 := hide (TreeV.stays.keep HT2.out (Keep.of_below hb)); clear hb HX2)
            | (go_at_call 24; refine (rText HX3.out.l (j)).mono ?_; rintro e w4 ⟨rfl, hb⟩; have HB4 := hide hb; have HX4 := hide (HX3.out.below hb); have HS4 := hide (HS3.out.below hb); have HF4 := hide (HF3.out.below hb); clear q0 q1 fq0 fq1 d0 d1 fd0 fd1 z0 z1 z2 z3 z4 z5 z6 y0 y1 y2 y3 y4 y5 y6; clear a0 a1 a2 a3 a4 a5 a6 fa0 fa1 fa2 fa3 fa4 fa5 fa6; clear g0 g1 fg0 fg1; obtain ⟨⟨q0, q1⟩, fq0, fq1⟩ := HX4.out.t.cells; obtain ⟨⟨d0, d1⟩, fd0, fd1⟩ := HX4.out.d.cells; obtain ⟨z0, z1, z2, z3, z4, z5, z6⟩ := HX4.out.z.cells; obtain ⟨y0, y1, y2, y3, y4, y5, y6⟩ := HX4.out.z.frozen; obtain ⟨a0, a1, a2, a3, a4, a5, a6⟩ := HS4.out.cells; obtain ⟨fa0, fa1, fa2, fa3, fa4, fa5, fa6⟩ := HS4.out.frozen; obtain ⟨⟨g0, g1⟩, fg0, fg1⟩ := HF4.out.cells; have HT4 := hide (TreeV.stays.weaken (S' := fun b => but (w.heap.size + 3) w1.heap.size (w1.heap.size + 1) b ∧ b < w4.heap.size) (TreeV.stays.keep HT3.out (Keep.of_below hb)) (fun b hb1 hb2 => ⟨hb2, hb1⟩)); obtain ⟨⟨q2, q3⟩, _, _⟩ := ((HX4.out.alloc (.cells #[.int .i64 4, .string (X.tx j), .int .i64 0, .bool false, .slice none 0 0, .slice none 0 0, .slice none 0 0] 47)).alloc (.cells z7 47)).t.cells; clear hb HX3)
            )
          (go_at_call 59; refine (HP.out _ (j + 1) ((HX4.out.alloc (.cells #[.int .i64 4, .string (X.tx j), .int .i64 0, .bool false, .slice none 0 0, .slice none 0 0, .slice none 0 0] 47)).alloc (.cells z7 47)).l (by omega)).mono ?_; intro e w15 hr; obtain ⟨hb5, ky, nmy, nuy, shy, Ay, ny, my, By, py, qy, Cy, ry, sy, E5, K5, J5, rfl, hst5⟩ := hr.any; have HST5 := hide hst5; have HX15 := hide (((HX4.out.alloc (.cells #[.int .i64 4, .string (X.tx j), .int .i64 0, .bool false, .slice none 0 0, .slice none 0 0, .slice none 0 0] 47)).alloc (.cells z7 47)).below hb5); have HS15 := hide (((HS4.out.alloc (.cells #[.int .i64 4, .string (X.tx j), .int .i64 0, .bool false, .slice none 0 0, .slice none 0 0, .slice none 0 0] 47)).alloc (.cells z7 47)).below hb5); have HF15 := hide (((HF4.out.alloc (.cells #[.int .i64 4, .string (X.tx j), .int .i64 0, .bool false, .slice none 0 0, .slice none 0 0, .slice none 0 0] 47)).alloc (.cells z7 47)).below hb5); have HT15 := hide (TreeV.stays.keep (TreeV.stays.keep (TreeV.stays.keep HT4.out (Keep.alloc w4 (.cells #[.int .i64 4, .string (X.tx j), .int .i64 0, .bool false, .slice none 0 0, .slice none 0 0, .slice none 0 0] 47))) (Keep.alloc _ (.cells z7 47))) (Keep.of_below hb5)); have HU15 := hide (((SevAt.new w4 (.int .i64 4) (.string (X.tx j)) (.int .i64 0) (.bool false) (.slice none 0 0) (.slice none 0 0) (.slice none 0 0)).alloc (.cells z7 47)).below hb5); have hzz : SevZ ((w4.alloc (.cells #[.int .i64 4, .string (X.tx j), .int .i64 0, .bool false, .slice none 0 0, .slice none 0 0, .slice none 0 0] 47)).alloc (.cells z7 47)) (w4.heap.size + 1) := (by have := SevAt.new (w4.alloc (.cells #[.int .i64 4, .string (X.tx j), .int .i64 0, .bool false, .slice none 0 0, .slice none 0 0, .slice none 0 0] 47)) (.int .i64 0) (.string ⟨#[]⟩) (.int .i64 0) (.bool false) (.slice none 0 0) (.slice none 0 0) (.slice none 0 0); simpa using this); have HZ15 := hide (hzz.below hb5); have hz5 : w4.heap.size + 2 ≤ w15.heap.size := (by have := hb5.size; simpa using this); have hz3 : w1.heap.size + 2 ≤ w4.heap.size := (by have := HF4.out.lt; have := HS4.out.lt; omega); clear q2 q3; clear q0 q1 fq0 fq1 d0 d1 fd0 fd1 z0 z1 z2 z3 z4 z5 z6 y0 y1 y2 y3 y4 y5 y6; clear a0 a1 a2 a3 a4 a5 a6 fa0 fa1 fa2 fa3 fa4 fa5 fa6; clear g0 g1 fg0 fg1; obtain ⟨⟨q0, q1⟩, fq0, fq1⟩ := HX15.out.t.cells; obtain ⟨⟨d0, d1⟩, fd0, fd1⟩ := HX15.out.d.cells; obtain ⟨z0, z1, z2, z3, z4, z5, z6⟩ := HX15.out.z.cells; obtain ⟨y0, y1, y2, y3, y4, y5, y6⟩ := HX15.out.z.frozen; obtain ⟨⟨g0, g1⟩, fg0, fg1⟩ := HF15.out.cells; obtain ⟨c0, c1, c2, c3, c4, c5, c6⟩ := HZ15.out.cells; obtain ⟨fc0, fc1, fc2, fc3, fc4, fc5, fc6⟩ := HZ15.out.frozen; have hzw := HB4.out.size; clear hb5 hr hst5 hzz)
          go_upto_region 10 with fail
          have hoB := SevAt.out w15 (w4.heap.size + 1) (.int .i64 ky) (.string nmy) (.int .i64 nuy) (.bool shy) (.slice Ay ny my) (.slice By py qy) (.slice Cy ry sy)
          have hoF := TwoAt.out (w := (((((((w15.setCell ⟨w4.heap.size + 1, 0, none⟩ (.int .i64 ky)).setCell ⟨w4.heap.size + 1, 1, none⟩ (.string nmy)).setCell ⟨w4.heap.size + 1, 2, none⟩ (.int .i64 nuy)).setCell ⟨w4.heap.size + 1, 3, none⟩ (.bool shy)).setCell ⟨w4.heap.size + 1, 4, none⟩ (.slice Ay ny my)).setCell ⟨w4.heap.size + 1, 5, none⟩ (.slice By py qy)).setCell ⟨w4.heap.size + 1, 6, none⟩ (.slice Cy ry sy))) (b := w1.heap.size + 1) (.int .i64 E5) (.int .i64 (K5 : Int))
          have HZ8 := hide ((HZ15.out.put (.int .i64 ky) (.string nmy) (.int .i64 nuy) (.bool shy) (.slice Ay ny my) (.slice By py qy) (.slice Cy ry sy)).grown hoF (by simp; omega))
          have HU8 := hide ((HU15.out.grown hoB (by simp)).grown hoF (by simp; omega))
          have HS8 := hide ((HS15.out.grown hoB (by simp; omega)).grown hoF (by simp))
          have HF8 := hide ((HF15.out.grown hoB (by simp; omega)).put (.int .i64 E5) (.int .i64 (K5 : Int)))
          have HX8 := hide ((HX15.out.grown hoB (by simp; omega) (by simp; omega) (by simp; omega) (fun g e => by cases e; omega)).grown hoF (by simp; omega) (by simp; omega) (by simp; omega) (fun g e => by cases e; omega))
          have HT8 := hide (TreeV.stays.weaken (TreeV.stays.keep (TreeV.stays.keep HT15.out (Keep.of_grown hoB (fun b hb _ => by have := hb.2; simp; omega))) (Keep.of_grown hoF (fun b hb _ => by have := hb.1.2.2; simp; omega))) (S' := fun b => but (w.heap.size + 3) w1.heap.size (w1.heap.size + 1) b ∧ b ≠ w4.heap.size) (fun b _ hb => ⟨hb.1, by have := hb.2; omega⟩))
          have HK8 : Hid (∀ t cs, TreeV w15 (from_ ((w4.alloc (.cells #[.int .i64 4, .string (X.tx j), .int .i64 0, .bool false, .slice none 0 0, .slice none 0 0, .slice none 0 0] 47)).alloc (.cells z7 47))) t cs → TreeV (((((((((w15.setCell ⟨w4.heap.size + 1, 0, none⟩ (.int .i64 ky)).setCell ⟨w4.heap.size + 1, 1, none⟩ (.string nmy)).setCell ⟨w4.heap.size + 1, 2, none⟩ (.int .i64 nuy)).setCell ⟨w4.heap.size + 1, 3, none⟩ (.bool shy)).setCell ⟨w4.heap.size + 1, 4, none⟩ (.slice Ay ny my)).setCell ⟨w4.heap.size + 1, 5, none⟩ (.slice By py qy)).setCell ⟨w4.heap.size + 1, 6, none⟩ (.slice Cy ry sy)).setCell ⟨w1.heap.size + 1, 0, none⟩ (.int .i64 E5)).setCell ⟨w1.heap.size + 1, 1, none⟩ (.int .i64 (K5 : Int))) (fun b => but (w.heap.size + 3) w1.heap.size (w1.heap.size + 1) b ∧ b ≠ w4.heap.size) t cs) := fun t cs h => TreeV.stays.weaken (TreeV.stays.keep (TreeV.stays.keep h (Keep.of_grown hoB (fun b hb _ => by have h9 : ((w4.alloc (.cells #[.int .i64 4, .string (X.tx j), .int .i64 0, .bool false, .slice none 0 0, .slice none 0 0, .slice none 0 0] 47)).alloc (.cells z7 47)).heap.size ≤ b := hb; simp at h9 ⊢; omega))) (Keep.of_grown hoF (fun b hb _ => by have h9 : ((w4.alloc (.cells #[.int .i64 4, .string (X.tx j), .int .i64 0, .bool false, .slice none 0 0, .slice none 0 0, .slice none 0 0] 47)).alloc (.cells z7 47)).heap.size ≤ b := hb; simp at h9 ⊢; omega))) (fun b _ hb => by have h9 : ((w4.alloc (.cells #[.int .i64 4, .string (X.tx j), .int .i64 0, .bool false, .slice none 0 0, .slice none 0 0, .slice none 0 0] 47)).alloc (.cells z7 47)).heap.size ≤ b := hb; simp at h9; exact ⟨⟨by omega, by omega, by omega⟩, by omega⟩)
          have hz8 : w15.heap.size ≤ (((((((((w15.setCell ⟨w4.heap.size + 1, 0, none⟩ (.int .i64 ky)).setCell ⟨w4.heap.size + 1, 1, none⟩ (.string nmy)).setCell ⟨w4.heap.size + 1, 2, none⟩ (.int .i64 nuy)).setCell ⟨w4.heap.size + 1, 3, none⟩ (.bool shy)).setCell ⟨w4.heap.size + 1, 4, none⟩ (.slice Ay ny my)).setCell ⟨w4.heap.size + 1, 5, none⟩ (.slice By py qy)).setCell ⟨w4.heap.size + 1, 6, none⟩ (.slice Cy ry sy)).setCell ⟨w1.heap.size + 1, 0, none⟩ (.int .i64 E5)).setCell ⟨w1.heap.size + 1, 1, none⟩ (.int .i64 (K5 : Int))).heap.size := Nat.le_trans hoB.size hoF.size
          clear hoB hoF
          obtain ⟨w8, hw8⟩ : ∃ w8, w8 = (((((((((w15.setCell ⟨w4.heap.size + 1, 0, none⟩ (.int .i64 ky)).setCell ⟨w4.heap.size + 1, 1, none⟩ (.string nmy)).setCell ⟨w4.heap.size + 1, 2, none⟩ (.int .i64 nuy)).setCell ⟨w4.heap.size + 1, 3, none⟩ (.bool shy)).setCell ⟨w4.heap.size + 1, 4, none⟩ (.slice Ay ny my)).setCell ⟨w4.heap.size + 1, 5, none⟩ (.slice By py qy)).setCell ⟨w4.heap.size + 1, 6, none⟩ (.slice Cy ry sy)).setCell ⟨w1.heap.size + 1, 0, none⟩ (.int .i64 E5)).setCell ⟨w1.heap.size + 1, 1, none⟩ (.int .i64 (K5 : Int))) := ⟨_, rfl⟩
          rw [← hw8] at HZ8 HU8 HS8 HF8 HX8 HT8 HK8 hz8 ⊢
          clear hw8 q0 q1 fq0 fq1 d0 d1 fd0 fd1 z0 z1 z2 z3 z4 z5 z6 y0 y1 y2 y3 y4 y5 y6 g0 g1 fg0 fg1 c0 c1 c2 c3 c4 c5 c6 fc0 fc1 fc2 fc3 fc4 fc5 fc6 HX15 HS15 HF15 HT15 HZ15 HU15
          obtain ⟨c0, c1, c2, c3, c4, c5, c6⟩ := HZ8.out.cells
          obtain ⟨a0, a1, a2, a3, a4, a5, a6⟩ := HS8.out.cells; obtain ⟨fa0, fa1, fa2, fa3, fa4, fa5, fa6⟩ := HS8.out.frozen
          obtain ⟨e0, e1, e2, e3, e4, e5, e6⟩ := (HU8.out.alloc (.cells #[.int .i64 kx, .string nmx, .int .i64 nux, .bool shx, .slice Ax nx mx, .slice Bx px qx, .slice Cx rx sx, .int .i64 ky, .string nmy, .int .i64 nuy, .bool shy, .slice Ay ny my, .slice By py qy, .slice Cy ry sy] 47)).cells; obtain ⟨fe0, fe1, fe2, fe3, fe4, fe5, fe6⟩ := (HU8.out.alloc (.cells #[.int .i64 kx, .string nmx, .int .i64 nux, .bool shx, .slice Ax nx mx, .slice Bx px qx, .slice Cx rx sx, .int .i64 ky, .string nmy, .int .i64 nuy, .bool shy, .slice Ay ny my, .slice By py qy, .slice Cy ry sy] 47)).frozen
          go_upto_region 11 with fail
          have hoU := set_out (w8.alloc (.cells #[.int .i64 kx, .string nmx, .int .i64 nux, .bool shx, .slice Ax nx mx, .slice Bx px qx, .slice Cx rx sx, .int .i64 ky, .string nmy, .int .i64 nuy, .bool shy, .slice Ay ny my, .slice By py qy, .slice Cy ry sy] 47)) w4.heap.size 6 (.slice (some ⟨w8.heap.size, 0, none⟩) 2 2)
          have HXU := hide ((HX8.out.alloc (.cells #[.int .i64 kx, .string nmx, .int .i64 nux, .bool shx, .slice Ax nx mx, .slice Bx px qx, .slice Cx rx sx, .int .i64 ky, .string nmy, .int .i64 nuy, .bool shy, .slice Ay ny my, .slice By py qy, .slice Cy ry sy] 47)).grown hoU (by simp; omega) (by simp; omega) (by simp; omega) (fun g e => by cases e; omega))
          have HUU := hide ((HU8.out.alloc (.cells #[.int .i64 kx, .string nmx, .int .i64 nux, .bool shx, .slice Ax nx mx, .slice Bx px qx, .slice Cx rx sx, .int .i64 ky, .string nmy, .int .i64 nuy, .bool shy, .slice Ay ny my, .slice By py qy, .slice Cy ry sy] 47)).set6 (.slice (some ⟨w8.heap.size, 0, none⟩) 2 2))
          have HSU := hide ((HS8.out.alloc (.cells #[.int .i64 kx, .string nmx, .int .i64 nux, .bool shx, .slice Ax nx mx, .slice Bx px qx, .slice Cx rx sx, .int .i64 ky, .string nmy, .int .i64 nuy, .bool shy, .slice Ay ny my, .slice By py qy, .slice Cy ry sy] 47)).grown hoU (by simp; omega))
          have HFU := hide ((HF8.out.alloc (.cells #[.int .i64 kx, .string nmx, .int .i64 nux, .bool shx, .slice Ax nx mx, .slice Bx px qx, .slice Cx rx sx, .int .i64 ky, .string nmy, .int .i64 nuy, .bool shy, .slice Ay ny my, .slice By py qy, .slice Cy ry sy] 47)).grown hoU (by simp; omega))
          have HBU : Hid (((w8.alloc (.cells #[.int .i64 kx, .string nmx, .int .i64 nux, .bool shx, .slice Ax nx mx, .slice Bx px qx, .slice Cx rx sx, .int .i64 ky, .string nmy, .int .i64 nuy, .bool shy, .slice Ay ny my, .slice By py qy, .slice Cy ry sy] 47)).setCell ⟨w4.heap.size, 6, none⟩ (.slice (some ⟨w8.heap.size, 0, none⟩) 2 2)).heap[w8.heap.size]? = some (.cells #[.int .i64 kx, .string nmx, .int .i64 nux, .bool shx, .slice Ax nx mx, .slice Bx px qx, .slice Cx rx sx, .int .i64 ky, .string nmy, .int .i64 nuy, .bool shy, .slice Ay ny my, .slice By py qy, .slice Cy ry sy] 47 (0, 0))) := (hoU.block w8.heap.size (by simp) (by simp; omega)).trans (World.alloc_heap_new w8 _)
          have HKU : Hid (Keep (fun b => but (w.heap.size + 3) w1.heap.size (w1.heap.size + 1) b ∧ b ≠ w4.heap.size) w8 ((w8.alloc (.cells #[.int .i64 kx, .string nmx, .int .i64 nux, .bool shx, .slice Ax nx mx, .slice Bx px qx, .slice Cx rx sx, .int .i64 ky, .string nmy, .int .i64 nuy, .bool shy, .slice Ay ny my, .slice By py qy, .slice Cy ry sy] 47)).setCell ⟨w4.heap.size, 6, none⟩ (.slice (some ⟨w8.heap.size, 0, none⟩) 2 2))) := (Keep.alloc _ _).trans (Keep.of_grown hoU (fun b hb _ => by have := hb.2; simp; omega))
          have hzU : ((w8.alloc (.cells #[.int .i64 kx, .string nmx, .int .i64 nux, .bool shx, .slice Ax nx mx, .slice Bx px qx, .slice Cx rx sx, .int .i64 ky, .string nmy, .int .i64 nuy, .bool shy, .slice Ay ny my, .slice By py qy, .slice Cy ry sy] 47)).setCell ⟨w4.heap.size, 6, none⟩ (.slice (some ⟨w8.heap.size, 0, none⟩) 2 2)).heap.size = w8.heap.size + 1 := by simp [World.setCell]
          obtain ⟨wu, hwu⟩ : ∃ wu, wu = ((w8.alloc (.cells #[.int .i64 kx, .string nmx, .int .i64 nux, .bool shx, .slice Ax nx mx, .slice Bx px qx, .slice Cx rx sx, .int .i64 ky, .string nmy, .int .i64 nuy, .bool shy, .slice Ay ny my, .slice By py qy, .slice Cy ry sy] 47)).setCell ⟨w4.heap.size, 6, none⟩ (.slice (some ⟨w8.heap.size, 0, none⟩) 2 2)) := ⟨_, rfl⟩
          rw [← hwu] at HXU HUU HSU HFU HBU HKU hzU ⊢
          clear hwu hoU c0 c1 c2 c3 c4 c5 c6 a0 a1 a2 a3 a4 a5 a6 fa0 fa1 fa2 fa3 fa4 fa5 fa6 e0 e1 e2 e3 e4 e5 e6 fe0 fe1 fe2 fe3 fe4 fe5 fe6
          obtain ⟨e0, e1, e2, e3, e4, e5, e6⟩ := HUU.out.cells
          obtain ⟨a0, a1, a2, a3, a4, a5, a6⟩ := HSU.out.cells; obtain ⟨fa0, fa1, fa2, fa3, fa4, fa5, fa6⟩ := HSU.out.frozen
          go_wp2
          have hoE := SevAt.out wu w1.heap.size (.int .i64 4) (.string (X.tx j)) (.int .i64 0) (.bool false) (.slice none 0 0) (.slice none 0 0) (.slice (some ⟨w8.heap.size, 0, none⟩) 2 2)
          have HXE := hide (HXU.out.grown hoE (by simp; omega) (by simp; omega) (by simp; omega) (fun g e => by cases e; omega))
          have HSE := hide (HSU.out.put (.int .i64 4) (.string (X.tx j)) (.int .i64 0) (.bool false) (.slice none 0 0) (.slice none 0 0) (.slice (some ⟨w8.heap.size, 0, none⟩) 2 2))
          have HFE := hide (HFU.out.grown hoE (by simp))
          have HKE : Hid (Keep (fun b => but (w.heap.size + 3) w1.heap.size (w1.heap.size + 1) b ∧ b ≠ w4.heap.size) w8 (((((((wu.setCell ⟨w1.heap.size, 0, none⟩ (.int .i64 4)).setCell ⟨w1.heap.size, 1, none⟩ (.string (X.tx j))).setCell ⟨w1.heap.size, 2, none⟩ (.int .i64 0)).setCell ⟨w1.heap.size, 3, none⟩ (.bool false)).setCell ⟨w1.heap.size, 4, none⟩ (.slice none 0 0)).setCell ⟨w1.heap.size, 5, none⟩ (.slice none 0 0)).setCell ⟨w1.heap.size, 6, none⟩ (.slice (some ⟨w8.heap.size, 0, none⟩) 2 2))) := HKU.out.trans (Keep.of_grown hoE (fun b hb _ => by have := hb.1.2.1; simp; omega))
          have hzE : (((((((wu.setCell ⟨w1.heap.size, 0, none⟩ (.int .i64 4)).setCell ⟨w1.heap.size, 1, none⟩ (.string (X.tx j))).setCell ⟨w1.heap.size, 2, none⟩ (.int .i64 0)).setCell ⟨w1.heap.size, 3, none⟩ (.bool false)).setCell ⟨w1.heap.size, 4, none⟩ (.slice none 0 0)).setCell ⟨w1.heap.size, 5, none⟩ (.slice none 0 0)).setCell ⟨w1.heap.size, 6, none⟩ (.slice (some ⟨w8.heap.size, 0, none⟩) 2 2)).heap.size = w8.heap.size + 1 := by simp [World.setCell]; omega
          have HBE : Hid ((((((((wu.setCell ⟨w1.heap.size, 0, none⟩ (.int .i64 4)).setCell ⟨w1.heap.size, 1, none⟩ (.string (X.tx j))).setCell ⟨w1.heap.size, 2, none⟩ (.int .i64 0)).setCell ⟨w1.heap.size, 3, none⟩ (.bool false)).setCell ⟨w1.heap.size, 4, none⟩ (.slice none 0 0)).setCell ⟨w1.heap.size, 5, none⟩ (.slice none 0 0)).setCell ⟨w1.heap.size, 6, none⟩ (.slice (some ⟨w8.heap.size, 0, none⟩) 2 2)).heap[w8.heap.size]? = some (.cells #[.int .i64 kx, .string nmx, .int .i64 nux, .bool shx, .slice Ax nx mx, .slice Bx px qx, .slice Cx rx sx, .int .i64 ky, .string nmy, .int .i64 nuy, .bool shy, .slice Ay ny my, .slice By py qy, .slice Cy ry sy] 47 (0, 0))) := (hoE.block w8.heap.size (by omega) (by simp; omega)).trans HBU.out
          obtain ⟨wE, hwE⟩ : ∃ wE, wE = (((((((wu.setCell ⟨w1.heap.size, 0, none⟩ (.int .i64 4)).setCell ⟨w1.heap.size, 1, none⟩ (.string (X.tx j))).setCell ⟨w1.heap.size, 2, none⟩ (.int .i64 0)).setCell ⟨w1.heap.size, 3, none⟩ (.bool false)).setCell ⟨w1.heap.size, 4, none⟩ (.slice none 0 0)).setCell ⟨w1.heap.size, 5, none⟩ (.slice none 0 0)).setCell ⟨w1.heap.size, 6, none⟩ (.slice (some ⟨w8.heap.size, 0, none⟩) 2 2)) := ⟨_, rfl⟩
          rw [← hwE] at HXE HSE HFE HKE HBE hzE ⊢
          clear hwE hoE a0 a1 a2 a3 a4 a5 a6 fa0 fa1 fa2 fa3 fa4 fa5 fa6 e0 e1 e2 e3 e4 e5 e6 HXU HUU HSU HFU HBU HKU
          go_roundw
          case rel =>
            refine ⟨HXE.out, by omega, ?_⟩
            have hz : ((64 - f : Nat) : Int) + 1 = ((65 - f : Nat) : Int) := by omega
            rw [hz]
            refine ChainSt.of f J5 E5 K5 _ _ _ _ _ _ _ _ _ _ _ _ _ (by omega) HSE.out HFE.out ?_
            exact chain_on2 HSM.out HPL.out HT8.out (HST5.out.imp (fun ⟨u, j, h1, h0, h2, h3, h4⟩ => ⟨u, j, h1, h0, h2, h3, HK8.out _ _ h4⟩) id) ⟨by omega, by omega, by omega⟩ (fun b h => h.1) HKE.out HBE.out
          case measure => simp [intOf]; omega
      | false =>
        cases hb2 : ((X.tx j).toList == [45]) with
        | true =>
          have hb : isSumB (X.tx j) = true := by rw [hbd, hb1, hb2]; rfl
          have hjl2 := isSumB_lt hb
          clear hbd
          cases f with
          | zero =>
            have HSL : Hid (r0 = .bad 5 (X.ps j)) := by rw [Hid, hsl, chainL, if_pos hb]
            clear hsl
            go_wp2_with (first
              | (go_at_call 24; refine (rText HX2.out.l (j)).mono ?_; rintro e w3 ⟨rfl, hb⟩; have HB3 := hide hb; have HX3 := hide (HX2.out.below hb); have HS3 := hide (HS2.out.below hb); have HF3 := hide (HF2.out.below hb); clear q0 q1 fq0 fq1 d0 d1 fd0 fd1 z0 z1 z2 z3 z4 z5 z6 y0 y1 y2 y3 y4 y5 y6; clear a0 a1 a2 a3 a4 a5 a6 fa0 fa1 fa2 fa3 fa4 fa5 fa6; clear g0 g1 fg0 fg1; obtain ⟨⟨q0, q1⟩, fq0, fq1⟩ := HX3.out.t.cells; obtain ⟨⟨d0, d1⟩, fd0, fd1⟩ := HX3.out.d.cells; obtain ⟨z0, z1, z2, z3, z4, z5, z6⟩ := HX3.out.z.cells; obtain ⟨y0, y1, y2, y3, y4, y5, y6⟩ := HX3.out.z.frozen; obtain ⟨a0, a1, a2, a3, a4, a5, a6⟩ := HS3.out.cells; obtain ⟨fa0, fa1, fa2, fa3, fa4, fa5, fa6⟩ := HS3.out.frozen; obtain ⟨⟨g0, g1⟩, fg0, fg1⟩ := HF3.out.cells; have HT3 := hide (TreeV.stays.keep HT2.out (Keep.of_below hb)); clear hb HX2)
              | (go_at_call 24; refine (rText HX3.out.l (j)).mono ?_; rintro e w4 ⟨rfl, hb⟩; have HB4 := hide hb; have HX4 := hide (HX3.out.below hb); have HS4 := hide (HS3.out.below hb); have HF4 := hide (HF3.out.below hb); clear q0 q1 fq0 fq1 d0 d1 fd0 fd1 z0 z1 z2 z3 z4 z5 z6 y0 y1 y2 y3 y4 y5 y6; clear a0 a1 a2 a3 a4 a5 a6 fa0 fa1 fa2 fa3 fa4 fa5 fa6; clear g0 g1 fg0 fg1; obtain ⟨⟨q0, q1⟩, fq0, fq1⟩ := HX4.out.t.cells; obtain ⟨⟨d0, d1⟩, fd0, fd1⟩ := HX4.out.d.cells; obtain ⟨z0, z1, z2, z3, z4, z5, z6⟩ := HX4.out.z.cells; obtain ⟨y0, y1, y2, y3, y4, y5, y6⟩ := HX4.out.z.frozen; obtain ⟨a0, a1, a2, a3, a4, a5, a6⟩ := HS4.out.cells; obtain ⟨fa0, fa1, fa2, fa3, fa4, fa5, fa6⟩ := HS4.out.frozen; obtain ⟨⟨g0, g1⟩, fg0, fg1⟩ := HF4.out.cells; have HT4 := hide (TreeV.stays.keep HT3.out (Keep.of_below hb)); clear hb HX3)
              )
            obtain ⟨p, hp⟩ : ∃ p, p = X.ps (j) := ⟨_, rfl⟩
            have HBA := hide (rMuch (X := X) (A := A) (c := c) (w := w4.drew) HX4.out.drew.l (j))
            rw [← hp] at HBA HSL
            clear hp
            go_region_with (go_at_call 45; refine HBA.out.mono ?_; rintro e w9 ⟨rfl, hb4⟩; have HX9 := hide (HX4.out.drew.below hb4); have HS9 := hide (HS4.out.drew.below hb4); clear q0 q1 fq0 fq1 d0 d1 fd0 fd1 z0 z1 z2 z3 z4 z5 z6 y0 y1 y2 y3 y4 y5 y6; clear a0 a1 a2 a3 a4 a5 a6 fa0 fa1 fa2 fa3 fa4 fa5 fa6; clear g0 g1 fg0 fg1; obtain ⟨⟨q0, q1⟩, fq0, fq1⟩ := HX9.out.t.cells; obtain ⟨⟨d0, d1⟩, fd0, fd1⟩ := HX9.out.d.cells; obtain ⟨z0, z1, z2, z3, z4, z5, z6⟩ := HX9.out.z.cells; obtain ⟨y0, y1, y2, y3, y4, y5, y6⟩ := HX9.out.z.frozen; obtain ⟨a0, a1, a2, a3, a4, a5, a6⟩ := HS9.out.cells; obtain ⟨fa0, fa1, fa2, fa3, fa4, fa5, fa6⟩ := HS9.out.frozen; clear hb4)
            all_goals
              obtain ⟨wg, hwg, hfin⟩ := HX9.out.fin 3 (.int .i64 kx) (.string nmx) (.int .i64 nux) (.bool shx) (.slice Ax nx mx) (.slice Bx px qx) (.slice Cx rx sx) (.int .i64 5) (.int .i64 (p : Int)) (by omega) (by omega) (by omega) (by omega) (by omega)
              rw [← hwg]
              clear hwg
              obtain ⟨hbf, hkf, u0, u1, u2, u3, u4, u5, u6, v0, v1⟩ := hfin
              have HBF := hide hbf
              have HKF := hide hkf
              clear hbf hkf
              go_wp2
              refine bodyPost_ret (v := .tuple #[.agg #[.int .i64 kx, .string nmx, .int .i64 nux, .bool shx, .slice Ax nx mx, .slice Bx px qx, .slice Cx rx sx], .int .i64 ((j : Int)), .agg #[.int .i64 5, .int .i64 (p : Int)]]) (by simp [results, Tryz.results48, go_sem, u0, u1, u2, u3, u4, u5, u6, v0, v1]) rfl ?_
              exact RefP.of _ _ _ _ _ _ _ _ _ _ _ _ _ 5 p j HBF.out (.inr ⟨HSL.out, by decide⟩)
          | succ f =>
            have HSM : Hid (r0 = (P (j + 1)).bind fun b j' => chainL X P isSumB f j' (.two (X.tx j) t b)) := by rw [Hid, hsl, chainL, if_pos hb]
            have hn64 : ¬ (64 : Int) < ((64 - f : Nat) : Int) := by omega
            clear hsl
            go_wp2_with (first
              | (go_at_call 24; refine (rText HX2.out.l (j)).mono ?_; rintro e w3 ⟨rfl, hb⟩; have HB3 := hide hb; have HX3 := hide (HX2.out.below hb); have HS3 := hide (HS2.out.below hb); have HF3 := hide (HF2.out.below hb); clear q0 q1 fq0 fq1 d0 d1 fd0 fd1 z0 z1 z2 z3 z4 z5 z6 y0 y1 y2 y3 y4 y5 y6; clear a0 a1 a2 a3 a4 a5 a6 fa0 fa1 fa2 fa3 fa4 fa5 fa6; clear g0 g1 fg0 fg1; obtain ⟨⟨q0, q1⟩, fq0, fq1⟩ := HX3.out.t.cells; obtain ⟨⟨d0, d1⟩, fd0, fd1⟩ := HX3.out.d.cells; obtain ⟨z0, z1, z2, z3, z4, z5, z6⟩ := HX3.out.z.cells; obtain ⟨y0, y1, y2, y3, y4, y5, y6⟩ := HX3.out.z.frozen; obtain ⟨a0, a1, a2, a3, a4, a5, a6⟩ := HS3.out.cells; obtain ⟨fa0, fa1, fa2, fa3, fa4, fa5, fa6⟩ := HS3.out.frozen; obtain ⟨⟨g0, g1⟩, fg0, fg1⟩ := HF3.out.cells; have HT3 := hide (TreeV.stays.keep HT2.out (Keep.of_below hb)); clear hb HX2)
              | (go_at_call 24; refine (rText HX3.out.l (j)).mono ?_; rintro e w4 ⟨rfl, hb⟩; have HB4 := hide hb; have HX4 := hide (HX3.out.below hb); have HS4 := hide (HS3.out.below hb); have HF4 := hide (HF3.out.below hb); clear q0 q1 fq0 fq1 d0 d1 fd0 fd1 z0 z1 z2 z3 z4 z5 z6 y0 y1 y2 y3 y4 y5 y6; clear a0 a1 a2 a3 a4 a5 a6 fa0 fa1 fa2 fa3 fa4 fa5 fa6; clear g0 g1 fg0 fg1; obtain ⟨⟨q0, q1⟩, fq0, fq1⟩ := HX4.out.t.cells; obtain ⟨⟨d0, d1⟩, fd0, fd1⟩ := HX4.out.d.cells; obtain ⟨z0, z1, z2, z3, z4, z5, z6⟩ := HX4.out.z.cells; obtain ⟨y0, y1, y2, y3, y4, y5, y6⟩ := HX4.out.z.frozen; obtain ⟨a0, a1, a2, a3, a4, a5, a6⟩ := HS4.out.cells; obtain ⟨fa0, fa1, fa2, fa3, fa4, fa5, fa6⟩ := HS4.out.frozen; obtain ⟨⟨g0, g1⟩, fg0, fg1⟩ := HF4.out.cells; have HT4 := hide (TreeV.stays.keep HT3.out (Keep.of_below hb)); clear hb HX3)
              | (go_at_call 24; refine (rText HX4.out.l (j)).mono ?_; rintro e w5 ⟨rfl, hb⟩; have HB5 := hide hb; have HX5 := hide (HX4.out.below hb); have HS5 := hide (HS4.out.below hb); have HF5 := hide (HF4.out.below hb); clear q0 q1 fq0 fq1 d0 d1 fd0 fd1 z0 z1 z2 z3 z4 z5 z6 y0 y1 y2 y3 y4 y5 y6; clear a0 a1 a2 a3 a4 a5 a6 fa0 fa1 fa2 fa3 fa4 fa5 fa6; clear g0 g1 fg0 fg1; obtain ⟨⟨q0, q1⟩, fq0, fq1⟩ := HX5.out.t.cells; obtain ⟨⟨d0, d1⟩, fd0, fd1⟩ := HX5.out.d.cells; obtain ⟨z0, z1, z2, z3, z4, z5, z6⟩ := HX5.out.z.cells; obtain ⟨y0, y1, y2, y3, y4, y5, y6⟩ := HX5.out.z.frozen; obtain ⟨a0, a1, a2, a3, a4, a5, a6⟩ := HS5.out.cells; obtain ⟨fa0, fa1, fa2, fa3, fa4, fa5, fa6⟩ := HS5.out.frozen; obtain ⟨⟨g0, g1⟩, fg0, fg1⟩ := HF5.out.cells; have HT5 := hide (TreeV.stays.weaken (S' := fun b => but (w.heap.size + 3) w1.heap.size (w1.heap.size + 1) b ∧ b < w5.heap.size) (TreeV.stays.keep HT4.out (Keep.of_below hb)) (fun b hb1 hb2 => ⟨hb2, hb1⟩)); obtain ⟨⟨q2, q3⟩, _, _⟩ := ((HX5.out.alloc (.cells #[.int .i64 4, .string (X.tx j), .int .i64 0, .bool false, .slice none 0 0, .slice none 0 0, .slice none 0 0] 47)).alloc (.cells z7 47)).t.cells; clear hb HX4)
              )
            (go_at_call 59; refine (HP.out _ (j + 1) ((HX5.out.alloc (.cells #[.int .i64 4, .string (X.tx j), .int .i64 0, .bool false, .slice none 0 0, .slice none 0 0, .slice none 0 0] 47)).alloc (.cells z7 47)).l (by omega)).mono ?_; intro e w15 hr; obtain ⟨hb5, ky, nmy, nuy, shy, Ay, ny, my, By, py, qy, Cy, ry, sy, E5, K5, J5, rfl, hst5⟩ := hr.any; have HST5 := hide hst5; have HX15 := hide (((HX5.out.alloc (.cells #[.int .i64 4, .string (X.tx j), .int .i64 0, .bool false, .slice none 0 0, .slice none 0 0, .slice none 0 0] 47)).alloc (.cells z7 47)).below hb5); have HS15 := hide (((HS5.out.alloc (.cells #[.int .i64 4, .string (X.tx j), .int .i64 0, .bool false, .slice none 0 0, .slice none 0 0, .slice none 0 0] 47)).alloc (.cells z7 47)).below hb5); have HF15 := hide (((HF5.out.alloc (.cells #[.int .i64 4, .string (X.tx j), .int .i64 0, .bool false, .slice none 0 0, .slice none 0 0, .slice none 0 0] 47)).alloc (.cells z7 47)).below hb5); have HT15 := hide (TreeV.stays.keep (TreeV.stays.keep (TreeV.stays.keep HT5.out (Keep.alloc w5 (.cells #[.int .i64 4, .string (X.tx j), .int .i64 0, .bool false, .slice none 0 0, .slice none 0 0, .slice none 0 0] 47))) (Keep.alloc _ (.cells z7 47))) (Keep.of_below hb5)); have HU15 := hide (((SevAt.new w5 (.int .i64 4) (.string (X.tx j)) (.int .i64 0) (.bool false) (.slice none 0 0) (.slice none 0 0) (.slice none 0 0)).alloc (.cells z7 47)).below hb5); have hzz : SevZ ((w5.alloc (.cells #[.int .i64 4, .string (X.tx j), .int .i64 0, .bool false, .slice none 0 0, .slice none 0 0, .slice none 0 0] 47)).alloc (.cells z7 47)) (w5.heap.size + 1) := (by have := SevAt.new (w5.alloc (.cells #[.int .i64 4, .string (X.tx j), .int .i64 0, .bool false, .slice none 0 0, .slice none 0 0, .slice none 0 0] 47)) (.int .i64 0) (.string ⟨#[]⟩) (.int .i64 0) (.bool false) (.slice none 0 0) (.slice none 0 0) (.slice none 0 0); simpa using this); have HZ15 := hide (hzz.below hb5); have hz5 : w5.heap.size + 2 ≤ w15.heap.size := (by have := hb5.size; simpa using this); have hz3 : w1.heap.size + 2 ≤ w5.heap.size := (by have := HF5.out.lt; have := HS5.out.lt; omega); clear q2 q3; clear q0 q1 fq0 fq1 d0 d1 fd0 fd1 z0 z1 z2 z3 z4 z5 z6 y0 y1 y2 y3 y4 y5 y6; clear a0 a1 a2 a3 a4 a5 a6 fa0 fa1 fa2 fa3 fa4 fa5 fa6; clear g0 g1 fg0 fg1; obtain ⟨⟨q0, q1⟩, fq0, fq1⟩ := HX15.out.t.cells; obtain ⟨⟨d0, d1⟩, fd0, fd1⟩ := HX15.out.d.cells; obtain ⟨z0, z1, z2, z3, z4, z5, z6⟩ := HX15.out.z.cells; obtain ⟨y0, y1, y2, y3, y4, y5, y6⟩ := HX15.out.z.frozen; obtain ⟨⟨g0, g1⟩, fg0, fg1⟩ := HF15.out.cells; obtain ⟨c0, c1, c2, c3, c4, c5, c6⟩ := HZ15.out.cells; obtain ⟨fc0, fc1, fc2, fc3, fc4, fc5, fc6⟩ := HZ15.out.frozen; have hzw := HB5.out.size; clear hb5 hr hst5 hzz)
            go_upto_region 10 with fail
            have hoB := SevAt.out w15 (w5.heap.size + 1) (.int .i64 ky) (.string nmy) (.int .i64 nuy) (.bool shy) (.slice Ay ny my) (.slice By py qy) (.slice Cy ry sy)
            have hoF := TwoAt.out (w := (((((((w15.setCell ⟨w5.heap.size + 1, 0, none⟩ (.int .i64 ky)).setCell ⟨w5.heap.size + 1, 1, none⟩ (.string nmy)).setCell ⟨w5.heap.size + 1, 2, none⟩ (.int .i64 nuy)).setCell ⟨w5.heap.size + 1, 3, none⟩ (.bool shy)).setCell ⟨w5.heap.size + 1, 4, none⟩ (.slice Ay ny my)).setCell ⟨w5.heap.size + 1, 5, none⟩ (.slice By py qy)).setCell ⟨w5.heap.size + 1, 6, none⟩ (.slice Cy ry sy))) (b := w1.heap.size + 1) (.int .i64 E5) (.int .i64 (K5 : Int))
            have HZ8 := hide ((HZ15.out.put (.int .i64 ky) (.string nmy) (.int .i64 nuy) (.bool shy) (.slice Ay ny my) (.slice By py qy) (.slice Cy ry sy)).grown hoF (by simp; omega))
            have HU8 := hide ((HU15.out.grown hoB (by simp)).grown hoF (by simp; omega))
            have HS8 := hide ((HS15.out.grown hoB (by simp; omega)).grown hoF (by simp))
            have HF8 := hide ((HF15.out.grown hoB (by simp; omega)).put (.int .i64 E5) (.int .i64 (K5 : Int)))
            have HX8 := hide ((HX15.out.grown hoB (by simp; omega) (by simp; omega) (by simp; omega) (fun g e => by cases e; omega)).grown hoF (by simp; omega) (by simp; omega) (by simp; omega) (fun g e => by cases e; omega))
            have HT8 := hide (TreeV.stays.weaken (TreeV.stays.keep (TreeV.stays.keep HT15.out (Keep.of_grown hoB (fun b hb _ => by have := hb.2; simp; omega))) (Keep.of_grown hoF (fun b hb _ => by have := hb.1.2.2; simp; omega))) (S' := fun b => but (w.heap.size + 3) w1.heap.size (w1.heap.size + 1) b ∧ b ≠ w5.heap.size) (fun b _ hb => ⟨hb.1, by have := hb.2; omega⟩))
            have HK8 : Hid (∀ t cs, TreeV w15 (from_ ((w5.alloc (.cells #[.int .i64 4, .string (X.tx j), .int .i64 0, .bool false, .slice none 0 0, .slice none 0 0, .slice none 0 0] 47)).alloc (.cells z7 47))) t cs → TreeV (((((((((w15.setCell ⟨w5.heap.size + 1, 0, none⟩ (.int .i64 ky)).setCell ⟨w5.heap.size + 1, 1, none⟩ (.string nmy)).setCell ⟨w5.heap.size + 1, 2, none⟩ (.int .i64 nuy)).setCell ⟨w5.heap.size + 1, 3, none⟩ (.bool shy)).setCell ⟨w5.heap.size + 1, 4, none⟩ (.slice Ay ny my)).setCell ⟨w5.heap.size + 1, 5, none⟩ (.slice By py qy)).setCell ⟨w5.heap.size + 1, 6, none⟩ (.slice Cy ry sy)).setCell ⟨w1.heap.size + 1, 0, none⟩ (.int .i64 E5)).setCell ⟨w1.heap.size + 1, 1, none⟩ (.int .i64 (K5 : Int))) (fun b => but (w.heap.size + 3) w1.heap.size (w1.heap.size + 1) b ∧ b ≠ w5.heap.size) t cs) := fun t cs h => TreeV.stays.weaken (TreeV.stays.keep (TreeV.stays.keep h (Keep.of_grown hoB (fun b hb _ => by have h9 : ((w5.alloc (.cells #[.int .i64 4, .string (X.tx j), .int .i64 0, .bool false, .slice none 0 0, .slice none 0 0, .slice none 0 0] 47)).alloc (.cells z7 47)).heap.size ≤ b := hb; simp at h9 ⊢; omega))) (Keep.of_grown hoF (fun b hb _ => by have h9 : ((w5.alloc (.cells #[.int .i64 4, .string (X.tx j), .int .i64 0, .bool false, .slice none 0 0, .slice none 0 0, .slice none 0 0] 47)).alloc (.cells z7 47)).heap.size ≤ b := hb; simp at h9 ⊢; omega))) (fun b _ hb => by have h9 : ((w5.alloc (.cells #[.int .i64 4, .string (X.tx j), .int .i64 0, .bool false, .slice none 0 0, .slice none 0 0, .slice none 0 0] 47)).alloc (.cells z7 47)).heap.size ≤ b := hb; simp at h9; exact ⟨⟨by omega, by omega, by omega⟩, by omega⟩)
            have hz8 : w15.heap.size ≤ (((((((((w15.setCell ⟨w5.heap.size + 1, 0, none⟩ (.int .i64 ky)).setCell ⟨w5.heap.size + 1, 1, none⟩ (.string nmy)).setCell ⟨w5.heap.size + 1, 2, none⟩ (.int .i64 nuy)).setCell ⟨w5.heap.size + 1, 3, none⟩ (.bool shy)).setCell ⟨w5.heap.size + 1, 4, none⟩ (.slice Ay ny my)).setCell ⟨w5.heap.size + 1, 5, none⟩ (.slice By py qy)).setCell ⟨w5.heap.size + 1, 6, none⟩ (.slice Cy ry sy)).setCell ⟨w1.heap.size + 1, 0, none⟩ (.int .i64 E5)).setCell ⟨w1.heap.size + 1, 1, none⟩ (.int .i64 (K5 : Int))).heap.size := Nat.le_trans hoB.size hoF.size
            clear hoB hoF
            obtain ⟨w8, hw8⟩ : ∃ w8, w8 = (((((((((w15.setCell ⟨w5.heap.size + 1, 0, none⟩ (.int .i64 ky)).setCell ⟨w5.heap.size + 1, 1, none⟩ (.string nmy)).setCell ⟨w5.heap.size + 1, 2, none⟩ (.int .i64 nuy)).setCell ⟨w5.heap.size + 1, 3, none⟩ (.bool shy)).setCell ⟨w5.heap.size + 1, 4, none⟩ (.slice Ay ny my)).setCell ⟨w5.heap.size + 1, 5, none⟩ (.slice By py qy)).setCell ⟨w5.heap.size + 1, 6, none⟩ (.slice Cy ry sy)).setCell ⟨w1.heap.size + 1, 0, none⟩ (.int .i64 E5)).setCell ⟨w1.heap.size + 1, 1, none⟩ (.int .i64 (K5 : Int))) := ⟨_, rfl⟩
            rw [← hw8] at HZ8 HU8 HS8 HF8 HX8 HT8 HK8 hz8 ⊢
            clear hw8 q0 q1 fq0 fq1 d0 d1 fd0 fd1 z0 z1 z2 z3 z4 z5 z6 y0 y1 y2 y3 y4 y5 y6 g0 g1 fg0 fg1 c0 c1 c2 c3 c4 c5 c6 fc0 fc1 fc2 fc3 fc4 fc5 fc6 HX15 HS15 HF15 HT15 HZ15 HU15
            obtain ⟨c0, c1, c2, c3, c4, c5, c6⟩ := HZ8.out.cells
            obtain ⟨a0, a1, a2, a3, a4, a5, a6⟩ := HS8.out.cells; obtain ⟨fa0, fa1, fa2, fa3, fa4, fa5, fa6⟩ := HS8.out.frozen
            obtain ⟨e0, e1, e2, e3, e4, e5, e6⟩ := (HU8.out.alloc (.cells #[.int .i64 kx, .string nmx, .int .i64 nux, .bool shx, .slice Ax nx mx, .slice Bx px qx, .slice Cx rx sx, .int .i64 ky, .string nmy, .int .i64 nuy, .bool shy, .slice Ay ny my, .slice By py qy, .slice Cy ry sy] 47)).cells; obtain ⟨fe0, fe1, fe2, fe3, fe4, fe5, fe6⟩ := (HU8.out.alloc (.cells #[.int .i64 kx, .string nmx, .int .i64 nux, .bool shx, .slice Ax nx mx, .slice Bx px qx, .slice Cx rx sx, .int .i64 ky, .string nmy, .int .i64 nuy, .bool shy, .slice Ay ny my, .slice By py qy, .slice Cy ry sy] 47)).frozen
            go_upto_region 11 with fail
            have hoU := set_out (w8.alloc (.cells #[.int .i64 kx, .string nmx, .int .i64 nux, .bool shx, .slice Ax nx mx, .slice Bx px qx, .slice Cx rx sx, .int .i64 ky, .string nmy, .int .i64 nuy, .bool shy, .slice Ay ny my, .slice By py qy, .slice Cy ry sy] 47)) w5.heap.size 6 (.slice (some ⟨w8.heap.size, 0, none⟩) 2 2)
            have HXU := hide ((HX8.out.alloc (.cells #[.int .i64 kx, .string nmx, .int .i64 nux, .bool shx, .slice Ax nx mx, .slice Bx px qx, .slice Cx rx sx, .int .i64 ky, .string nmy, .int .i64 nuy, .bool shy, .slice Ay ny my, .slice By py qy, .slice Cy ry sy] 47)).grown hoU (by simp; omega) (by simp; omega) (by simp; omega) (fun g e => by cases e; omega))
            have HUU := hide ((HU8.out.alloc (.cells #[.int .i64 kx, .string nmx, .int .i64 nux, .bool shx, .slice Ax nx mx, .slice Bx px qx, .slice Cx rx sx, .int .i64 ky, .string nmy, .int .i64 nuy, .bool shy, .slice Ay ny my, .slice By py qy, .slice Cy ry sy] 47)).set6 (.slice (some ⟨w8.heap.size, 0, none⟩) 2 2))
            have HSU := hide ((HS8.out.alloc (.cells #[.int .i64 kx, .string nmx, .int .i64 nux, .bool shx, .slice Ax nx mx, .slice Bx px qx, .slice Cx rx sx, .int .i64 ky, .string nmy, .int .i64 nuy, .bool shy, .slice Ay ny my, .slice By py qy, .slice Cy ry sy] 47)).grown hoU (by simp; omega))
            have HFU := hide ((HF8.out.alloc (.cells #[.int .i64 kx, .string nmx, .int .i64 nux, .bool shx, .slice Ax nx mx, .slice Bx px qx, .slice Cx rx sx, .int .i64 ky, .string nmy, .int .i64 nuy, .bool shy, .slice Ay ny my, .slice By py qy, .slice Cy ry sy] 47)).grown hoU (by simp; omega))
            have HBU : Hid (((w8.alloc (.cells #[.int .i64 kx, .string nmx, .int .i64 nux, .bool shx, .slice Ax nx mx, .slice Bx px qx, .slice Cx rx sx, .int .i64 ky, .string nmy, .int .i64 nuy, .bool shy, .slice Ay ny my, .slice By py qy, .slice Cy ry sy] 47)).setCell ⟨w5.heap.size, 6, none⟩ (.slice (some ⟨w8.heap.size, 0, none⟩) 2 2)).heap[w8.heap.size]? = some (.cells #[.int .i64 kx, .string nmx, .int .i64 nux, .bool shx, .slice Ax nx mx, .slice Bx px qx, .slice Cx rx sx, .int .i64 ky, .string nmy, .int .i64 nuy, .bool shy, .slice Ay ny my, .slice By py qy, .slice Cy ry sy] 47 (0, 0))) := (hoU.block w8.heap.size (by simp) (by simp; omega)).trans (World.alloc_heap_new w8 _)
            have HKU : Hid (Keep (fun b => but (w.heap.size + 3) w1.heap.size (w1.heap.size + 1) b ∧ b ≠ w5.heap.size) w8 ((w8.alloc (.cells #[.int .i64 kx, .string nmx, .int .i64 nux, .bool shx, .slice Ax nx mx, .slice Bx px qx, .slice Cx rx sx, .int .i64 ky, .string nmy, .int .i64 nuy, .bool shy, .slice Ay ny my, .slice By py qy, .slice Cy ry sy] 47)).setCell ⟨w5.heap.size, 6, none⟩ (.slice (some ⟨w8.heap.size, 0, none⟩) 2 2))) := (Keep.alloc _ _).trans (Keep.of_grown hoU (fun b hb _ => by have := hb.2; simp; omega))
            have hzU : ((w8.alloc (.cells #[.int .i64 kx, .string nmx, .int .i64 nux, .bool shx, .slice Ax nx mx, .slice Bx px qx, .slice Cx rx sx, .int .i64 ky, .string nmy, .int .i64 nuy, .bool shy, .slice Ay ny my, .slice By py qy, .slice Cy ry sy] 47)).setCell ⟨w5.heap.size, 6, none⟩ (.slice (some ⟨w8.heap.size, 0, none⟩) 2 2)).heap.size = w8.heap.size + 1 := by simp [World.setCell]
            obtain ⟨wu, hwu⟩ : ∃ wu, wu = ((w8.alloc (.cells #[.int .i64 kx, .string nmx, .int .i64 nux, .bool shx, .slice Ax nx mx, .slice Bx px qx, .slice Cx rx sx, .int .i64 ky, .string nmy, .int .i64 nuy, .bool shy, .slice Ay ny my, .slice By py qy, .slice Cy ry sy] 47)).setCell ⟨w5.heap.size, 6, none⟩ (.slice (some ⟨w8.heap.size, 0, none⟩) 2 2)) := ⟨_, rfl⟩
            rw [← hwu] at HXU HUU HSU HFU HBU HKU hzU ⊢
            clear hwu hoU c0 c1 c2 c3 c4 c5 c6 a0 a1 a2 a3 a4 a5 a6 fa0 fa1 fa2 fa3 fa4 fa5 fa6 e0 e1 e2 e3 e4 e5 e6 fe0 fe1 fe2 fe3 fe4 fe5 fe6
            obtain ⟨e0, e1, e2, e3, e4, e5, e6⟩ := HUU.out.cells
            obtain ⟨a0, a1, a2, a3, a4, a5, a6⟩ := HSU.out.cells; obtain ⟨fa0, fa1, fa2, fa3, fa4, fa5, fa6⟩ := HSU.out.frozen
            go_wp2
            have hoE := SevAt.out wu w1.heap.size (.int .i64 4) (.string (X.tx j)) (.int .i64 0) (.bool false) (.slice none 0 0) (.slice none 0 0) (.slice (some ⟨w8.heap.size, 0, none⟩) 2 2)
            have HXE := hide (HXU.out.grown hoE (by simp; omega) (by simp; omega) (by simp; omega) (fun g e => by cases e; omega))
            have HSE := hide (HSU.out.put (.int .i64 4) (.string (X.tx j)) (.int .i64 0) (.bool false) (.slice none 0 0) (.slice none 0 0) (.slice (some ⟨w8.heap.size, 0, none⟩) 2 2))
            have HFE := hide (HFU.out.grown hoE (by simp))
            have HKE : Hid (Keep (fun b => but (w.heap.size + 3) w1.heap.size (w1.heap.size + 1) b ∧ b ≠ w5.heap.size) w8 (((((((wu.setCell ⟨w1.heap.size, 0, none⟩ (.int .i64 4)).setCell ⟨w1.heap.size, 1, none⟩ (.string (X.tx j))).setCell ⟨w1.heap.size, 2, none⟩ (.int .i64 0)).setCell ⟨w1.heap.size, 3, none⟩ (.bool false)).setCell ⟨w1.heap.size, 4, none⟩ (.slice none 0 0)).setCell ⟨w1.heap.size, 5, none⟩ (.slice none 0 0)).setCell ⟨w1.heap.size, 6, none⟩ (.slice (some ⟨w8.heap.size, 0, none⟩) 2 2))) := HKU.out.trans (Keep.of_grown hoE (fun b hb _ => by have := hb.1.2.1; simp; omega))
            have hzE : (((((((wu.setCell ⟨w1.heap.size, 0, none⟩ (.int .i64 4)).setCell ⟨w1.heap.size, 1, none⟩ (.string (X.tx j))).setCell ⟨w1.heap.size, 2, none⟩ (.int .i64 0)).setCell ⟨w1.heap.size, 3, none⟩ (.bool false)).setCell ⟨w1.heap.size, 4, none⟩ (.slice none 0 0)).setCell ⟨w1.heap.size, 5, none⟩ (.slice none 0 0)).setCell ⟨w1.heap.size, 6, none⟩ (.slice (some ⟨w8.heap.size, 0, none⟩) 2 2)).heap.size = w8.heap.size + 1 := by simp [World.setCell]; omega
            have HBE : Hid ((((((((wu.setCell ⟨w1.heap.size, 0, none⟩ (.int .i64 4)).setCell ⟨w1.heap.size, 1, none⟩ (.string (X.tx j))).setCell ⟨w1.heap.size, 2, none⟩ (.int .i64 0)).setCell ⟨w1.heap.size, 3, none⟩ (.bool false)).setCell ⟨w1.heap.size, 4, none⟩ (.slice none 0 0)).setCell ⟨w1.heap.size, 5, none⟩ (.slice none 0 0)).setCell ⟨w1.heap.size, 6, none⟩ (.slice (some ⟨w8.heap.size, 0, none⟩) 2 2)).heap[w8.heap.size]? = some (.cells #[.int .i64 kx, .string nmx, .int .i64 nux, .bool shx, .slice Ax nx mx, .slice Bx px qx, .slice Cx rx sx, .int .i64 ky, .string nmy, .int .i64 nuy, .bool shy, .slice Ay ny my, .slice By py qy, .slice Cy ry sy] 47 (0, 0))) := (hoE.block w8.heap.size (by omega) (by simp; omega)).trans HBU.out
            obtain ⟨wE, hwE⟩ : ∃ wE, wE = (((((((wu.setCell ⟨w1.heap.size, 0, none⟩ (.int .i64 4)).setCell ⟨w1.heap.size, 1, none⟩ (.string (X.tx j))).setCell ⟨w1.heap.size, 2, none⟩ (.int .i64 0)).setCell ⟨w1.heap.size, 3, none⟩ (.bool false)).setCell ⟨w1.heap.size, 4, none⟩ (.slice none 0 0)).setCell ⟨w1.heap.size, 5, none⟩ (.slice none 0 0)).setCell ⟨w1.heap.size, 6, none⟩ (.slice (some ⟨w8.heap.size, 0, none⟩) 2 2)) := ⟨_, rfl⟩
            rw [← hwE] at HXE HSE HFE HKE HBE hzE ⊢
            clear hwE hoE a0 a1 a2 a3 a4 a5 a6 fa0 fa1 fa2 fa3 fa4 fa5 fa6 e0 e1 e2 e3 e4 e5 e6 HXU HUU HSU HFU HBU HKU
            go_roundw
            case rel =>
              refine ⟨HXE.out, by omega, ?_⟩
              have hz : ((64 - f : Nat) : Int) + 1 = ((65 - f : Nat) : Int) := by omega
              rw [hz]
              refine ChainSt.of f J5 E5 K5 _ _ _ _ _ _ _ _ _ _ _ _ _ (by omega) HSE.out HFE.out ?_
              exact chain_on2 HSM.out HPL.out HT8.out (HST5.out.imp (fun ⟨u, j, h1, h0, h2, h3, h4⟩ => ⟨u, j, h1, h0, h2, h3, HK8.out _ _ h4⟩) id) ⟨by omega, by omega, by omega⟩ (fun b h => h.1) HKE.out HBE.out
            case measure => simp [intOf]; omega
        | false =>
          have hb : isSumB (X.tx j) = false := by rw [hbd, hb1, hb2]; rfl
          have hsl' : r0 = .ok t j := by
            cases f with
            | zero => rw [hsl, chainL, if_neg (by rw [hb]; simp)]
            | succ f => rw [hsl, chainL, if_neg (by rw [hb]; simp)]
          have HSL := hide hsl'
          clear hsl hsl' hbd
          go_wp2_with (first
            | (go_at_call 24; refine (rText HX2.out.l (j)).mono ?_; rintro e w3 ⟨rfl, hb⟩; have HB3 := hide hb; have HX3 := hide (HX2.out.below hb); have HS3 := hide (HS2.out.below hb); have HF3 := hide (HF2.out.below hb); clear q0 q1 fq0 fq1 d0 d1 fd0 fd1 z0 z1 z2 z3 z4 z5 z6 y0 y1 y2 y3 y4 y5 y6; clear a0 a1 a2 a3 a4 a5 a6 fa0 fa1 fa2 fa3 fa4 fa5 fa6; clear g0 g1 fg0 fg1; obtain ⟨⟨q0, q1⟩, fq0, fq1⟩ := HX3.out.t.cells; obtain ⟨⟨d0, d1⟩, fd0, fd1⟩ := HX3.out.d.cells; obtain ⟨z0, z1, z2, z3, z4, z5, z6⟩ := HX3.out.z.cells; obtain ⟨y0, y1, y2, y3, y4, y5, y6⟩ := HX3.out.z.frozen; obtain ⟨a0, a1, a2, a3, a4, a5, a6⟩ := HS3.out.cells; obtain ⟨fa0, fa1, fa2, fa3, fa4, fa5, fa6⟩ := HS3.out.frozen; obtain ⟨⟨g0, g1⟩, fg0, fg1⟩ := HF3.out.cells; have HT3 := hide (TreeV.stays.keep HT2.out (Keep.of_below hb)); clear hb HX2)
            | (go_at_call 24; refine (rText HX3.out.l (j)).mono ?_; rintro e w4 ⟨rfl, hb⟩; have HB4 := hide hb; have HX4 := hide (HX3.out.below hb); have HS4 := hide (HS3.out.below hb); have HF4 := hide (HF3.out.below hb); clear q0 q1 fq0 fq1 d0 d1 fd0 fd1 z0 z1 z2 z3 z4 z5 z6 y0 y1 y2 y3 y4 y5 y6; clear a0 a1 a2 a3 a4 a5 a6 fa0 fa1 fa2 fa3 fa4 fa5 fa6; clear g0 g1 fg0 fg1; obtain ⟨⟨q0, q1⟩, fq0, fq1⟩ := HX4.out.t.cells; obtain ⟨⟨d0, d1⟩, fd0, fd1⟩ := HX4.out.d.cells; obtain ⟨z0, z1, z2, z3, z4, z5, z6⟩ := HX4.out.z.cells; obtain ⟨y0, y1, y2, y3, y4, y5, y6⟩ := HX4.out.z.frozen; obtain ⟨a0, a1, a2, a3, a4, a5, a6⟩ := HS4.out.cells; obtain ⟨fa0, fa1, fa2, fa3, fa4, fa5, fa6⟩ := HS4.out.frozen; obtain ⟨⟨g0, g1⟩, fg0, fg1⟩ := HF4.out.cells; have HT4 := hide (TreeV.stays.keep HT3.out (Keep.of_below hb)); clear hb HX3)
            )
          go_region
          obtain ⟨wg, hwg, hfin⟩ := HX4.out.fin 3 (.int .i64 kx) (.string nmx) (.int .i64 nux) (.bool shx) (.slice Ax nx mx) (.slice Bx px qx) (.slice Cx rx sx) (.int .i64 0) (.int .i64 0) (by omega) (by omega) (by omega) (by omega) (by omega)
          rw [← hwg]
          replace hfin := hfin.drew
          clear hwg
          obtain ⟨wf, hwf⟩ : ∃ wf, wf = wg.drew := ⟨_, rfl⟩
          rw [← hwf] at hfin ⊢
          clear hwf
          obtain ⟨hbf, hkf, u0, u1, u2, u3, u4, u5, u6, v0, v1⟩ := hfin
          have HBF := hide hbf
          have HKF := hide hkf
          clear hbf hkf
          go_wp2
          refine bodyPost_ret (v := .tuple #[.agg #[.int .i64 kx, .string nmx, .int .i64 nux, .bool shx, .slice Ax nx mx, .slice Bx px qx, .slice Cx rx sx], .int .i64 ((j : Int)), .agg #[.int .i64 0, .int .i64 0]]) (by simp [results, Tryz.results48, go_sem, u0, u1, u2, u3, u4, u5, u6, v0, v1]) rfl ?_
          exact RefP.of _ _ _ _ _ _ _ _ _ _ _ _ _ 0 0 j HBF.out (.inl ⟨t, HSL.out, rfl, rfl, TreeV.stays.weaken (TreeV.stays.keep (TreeV.stays.weaken (S' := far (w.heap.size + 3)) HT4.out (fun b _ hb => hb.1)) HKF.out) (fun b _ hb => by have h9 : w.heap.size + 3 ≤ b := hb; unfold from_; omega)⟩)
    · have HSL := hide hsl
      have hE0 : (Eb == 0) = false := by simpa using hne
      have HNE := hide hne
      clear hsl hne
      go_wp2
      go_region
      obtain ⟨wg, hwg, hfin⟩ := HX2.out.fin 3 (.int .i64 kx) (.string nmx) (.int .i64 nux) (.bool shx) (.slice Ax nx mx) (.slice Bx px qx) (.slice Cx rx sx) (.int .i64 Eb) (.int .i64 (kb : Int)) (by omega) (by omega) (by omega) (by omega) (by omega)
      rw [← hwg]
      replace hfin := hfin.drew
      clear hwg
      obtain ⟨wf, hwf⟩ : ∃ wf, wf = wg.drew := ⟨_, rfl⟩
      rw [← hwf] at hfin ⊢
      clear hwf
      obtain ⟨hbf, hkf, u0, u1, u2, u3, u4, u5, u6, v0, v1⟩ := hfin
      have HBF := hide hbf
      have HKF := hide hkf
      clear hbf hkf
      go_wp2
      refine bodyPost_ret (v := .tuple #[.agg #[.int .i64 kx, .string nmx, .int .i64 nux, .bool shx, .slice Ax nx mx, .slice Bx px qx, .slice Cx rx sx], .int .i64 (J), .agg #[.int .i64 Eb, .int .i64 (kb : Int)]]) (by simp [results, Tryz.results48, go_sem, u0, u1, u2, u3, u4, u5, u6, v0, v1]) rfl ?_
      exact RefP.ofJ _ _ _ _ _ _ _ _ _ _ _ _ _ _ _ J HBF.out (.inr ⟨HSL.out, HNE.out⟩)
end Go.Proofs.YtadhlnlcdljamaaGreatDoor.V
namespace Go.Proofs.YtadhlnlcdljamaaGreatDoor.V
set_option maxRecDepth 20000
open Go.RowKit
set_option linter.unusedVariables false

set_option maxRecDepth 100000 in
set_option maxHeartbeats 8000000 in
theorem rProduct {X : Tks} {A : Option Addr} {c L : Nat} {w : World} (P : Nat → Res Tr) (h : LsAt X A c w) (i : Nat) (hi : i ≤ X.ts.length) (hPl : ∀ j a j', P j = .ok a j' → j' ≤ X.ts.length)
    (hP : ∀ (W : World) (j : Nat), LsAt X A c W → j ≤ X.ts.length → Calls Tryz.prog 71 #[lsV X A c, .int .i64 (j : Int), .int .i64 (L : Int)] W (RefP isTr (repT W) (P j) W)) :
    Calls Tryz.prog 59 #[lsV X A c, .int .i64 (i : Int), .int .i64 (L : Int)] w (RefP isTr (repT w) (chainS X P isMulB i) w) := by
  have HX0 := hide (Bt.new h)
  have HP := hide hP
  have HPL := hide hPl
  have hxl := h.len
  obtain ⟨⟨q0, q1⟩, fq0, fq1⟩ := HX0.out.t.cells
  unfold lsV at *
  unfold chainS
  clear h hP hPl
  obtain ⟨r0, hr0⟩ : ∃ r0, r0 = (P i).bind fun t j => chainL X P isMulB 64 j t := ⟨_, rfl⟩
  rw [← hr0]
  have HR0 := hide hr0
  clear hr0
  go_enter Tryz.func59, Tryz.ntmps59
  go_wp2_with (first
    | (go_at_call 71; refine (HP.out _ i HX0.out.l hi).mono ?_; intro e w1 hr; obtain ⟨hb, ka, nma, nua, sha, Aa, na, ma, Ba, pa, qa, Ca, ra, sa, E, K, J1, rfl, hst⟩ := hr.any; have HX1 := hide (HX0.out.below hb); have hz1 := HX1.out.d.lt; have HST := hide hst; clear hb hst hr)
    )
  go_loopw [1, 11] (fun v1 v11 wr => Bt X A c w.heap.size (w.heap.size + 1) (w.heap.size + 1 + 1) w wr ∧ w1.heap.size + 2 ≤ wr.heap.size ∧ ChainSt X P isMulB r0 w1.heap.size (w1.heap.size + 1) (w.heap.size + 3) wr v1 v11) (fun _ v11 _ => 66 - (intOf v11).toNat)
  case atStart =>
    have hF : TwoAt 25 ((w1.alloc (.cells #[.int .i64 ka, .string nma, .int .i64 nua, .bool sha, .slice Aa na ma, .slice Ba pa qa, .slice Ca ra sa] 47)).alloc (.cells #[.int .i64 E, .int .i64 (K : Int)] 25)) (w1.heap.size + 1) (.int .i64 E) (.int .i64 (K : Int)) := by
      have := TwoAt.new 25 (w1.alloc (.cells #[.int .i64 ka, .string nma, .int .i64 nua, .bool sha, .slice Aa na ma, .slice Ba pa qa, .slice Ca ra sa] 47)) (.int .i64 E) (.int .i64 (K : Int)); simpa using this
    refine ⟨(HX1.out.alloc (.cells #[.int .i64 ka, .string nma, .int .i64 nua, .bool sha, .slice Aa na ma, .slice Ba pa qa, .slice Ca ra sa] 47)).alloc (.cells #[.int .i64 E, .int .i64 (K : Int)] 25), by simp, ?_⟩
    refine ChainSt.of 64 J1 E K _ _ _ _ _ _ _ _ _ _ _ _ _ (Nat.le_refl _) ((SevAt.new w1 _ _ _ _ _ _ _).alloc _) hF ?_
    rcases HST.out with ⟨t0, j1, e0, rfl, rfl, rfl, htr⟩ | ⟨e0, hne⟩
    · refine .inl ⟨t0, j1, rfl, rfl, rfl, HPL.out _ _ _ e0, by rw [HR0.out, e0]; rfl, ?_⟩
      refine TreeV.stays.keep (TreeV.stays.keep (TreeV.stays.weaken htr (fun b hb hf => ?_)) (Keep.alloc _ _)) (Keep.alloc _ _)
      have h9 : w.heap.size + 3 ≤ b := by simpa [from_] using hf
      exact ⟨h9, by omega, by omega⟩
    · exact .inr ⟨hne, by rw [HR0.out, e0]; rfl⟩
  case round =>
    obtain ⟨hX, hsz, f, J, Eb, kb, kx, nmx, nux, shx, Ax, nx, mx, Bx, px, qx, Cx, rx, sx, rfl, rfl, hf, hS, hF, hst⟩ := hrel
    have HX2 := hide hX
    have HS2 := hide hS
    have HF2 := hide hF
    obtain ⟨⟨q0, q1⟩, fq0, fq1⟩ := HX2.out.t.cells; obtain ⟨⟨d0, d1⟩, fd0, fd1⟩ := HX2.out.d.cells; obtain ⟨z0, z1, z2, z3, z4, z5, z6⟩ := HX2.out.z.cells; obtain ⟨y0, y1, y2, y3, y4, y5, y6⟩ := HX2.out.z.frozen
    obtain ⟨a0, a1, a2, a3, a4, a5, a6⟩ := HS2.out.cells; obtain ⟨fa0, fa1, fa2, fa3, fa4, fa5, fa6⟩ := HS2.out.frozen
    obtain ⟨⟨g0, g1⟩, fg0, fg1⟩ := HF2.out.cells
    clear hX HX1 HST HX0 hS hF
    rcases hst with ⟨t, j, rfl, rfl, rfl, hjl, hsl, hT⟩ | ⟨hne, hsl⟩
    · have HT2 := hide hT
      clear hT
      cases hb : isMulB (X.tx j) with
      | false =>
        have hsl' : r0 = .ok t j := by
          cases f with
          | zero => rw [hsl, chainL, if_neg (by rw [hb]; simp)]
          | succ f => rw [hsl, chainL, if_neg (by rw [hb]; simp)]
        have HSL := hide hsl'
        have hb' : ((X.tx j).toList == [42]) = false := hb
        clear hsl hsl'
        go_wp2_with (first
          | (go_at_call 24; refine (rText HX2.out.l (j)).mono ?_; rintro e w3 ⟨rfl, hb⟩; have HB3 := hide hb; have HX3 := hide (HX2.out.below hb); have HS3 := hide (HS2.out.below hb); have HF3 := hide (HF2.out.below hb); clear q0 q1 fq0 fq1 d0 d1 fd0 fd1 z0 z1 z2 z3 z4 z5 z6 y0 y1 y2 y3 y4 y5 y6; clear a0 a1 a2 a3 a4 a5 a6 fa0 fa1 fa2 fa3 fa4 fa5 fa6; clear g0 g1 fg0 fg1; obtain ⟨⟨q0, q1⟩, fq0, fq1⟩ := HX3.out.t.cells; obtain ⟨⟨d0, d1⟩, fd0, fd1⟩ := HX3.out.d.cells; obtain ⟨z0, z1, z2, z3, z4, z5, z6⟩ := HX3.out.z.cells; obtain ⟨y0, y1, y2, y3, y4, y5, y6⟩ := HX3.out.z.frozen; obtain ⟨a0, a1, a2, a3, a4, a5, a6⟩ := HS3.out.cells; obtain ⟨fa0, fa1, fa2, fa3, fa4, fa5, fa6⟩ := HS3.out.frozen; obtain ⟨⟨g0, g1⟩, fg0, fg1⟩ := HF3.out.cells; have HT3 := hide (TreeV.stays.keep HT2.out (Keep.of_below hb)); clear hb HX2)
          )
        go_region
        obtain ⟨wg, hwg, hfin⟩ := HX3.out.fin 3 (.int .i64 kx) (.string nmx) (.int .i64 nux) (.bool shx) (.slice Ax nx mx) (.slice Bx px qx) (.slice Cx rx sx) (.int .i64 0) (.int .i64 0) (by omega) (by omega) (by omega) (by omega) (by omega)
        rw [← hwg]
        replace hfin := hfin.drew
        clear hwg
        obtain ⟨wf, hwf⟩ : ∃ wf, wf = wg.drew := ⟨_, rfl⟩
        rw [← hwf] at hfin ⊢
        clear hwf
        obtain ⟨hbf, hkf, u0, u1, u2, u3, u4, u5, u6, v0, v1⟩ := hfin
        have HBF := hide hbf
        have HKF := hide hkf
        clear hbf hkf
        go_wp2
        refine bodyPost_ret (v := .tuple #[.agg #[.int .i64 kx, .string nmx, .int .i64 nux, .bool shx, .slice Ax nx mx, .slice Bx px qx, .slice Cx rx sx], .int .i64 ((j : Int)), .agg #[.int .i64 0, .int .i64 0]]) (by simp [results, Tryz.results59, go_sem, u0, u1, u2, u3, u4, u5, u6, v0, v1]) rfl ?_
        exact RefP.of _ _ _ _ _ _ _ _ _ _ _ _ _ 0 0 j HBF.out (.inl ⟨t, HSL.out, rfl, rfl, TreeV.stays.weaken (TreeV.stays.keep (TreeV.stays.weaken (S' := far (w.heap.size + 3)) HT3.out (fun b _ hb => hb.1)) HKF.out) (fun b _ hb => by have h9 : w.heap.size + 3 ≤ b := hb; unfold from_; omega)⟩)
      | true =>
        have hb' : ((X.tx j).toList == [42]) = true := hb
        have hjl2 := isMulB_lt hb
        cases f with
        | zero =>
          have HSL : Hid (r0 = .bad 5 (X.ps j)) := by rw [Hid, hsl, chainL, if_pos hb]
          clear hsl
          go_wp2_with (first
            | (go_at_call 24; refine (rText HX2.out.l (j)).mono ?_; rintro e w3 ⟨rfl, hb⟩; have HB3 := hide hb; have HX3 := hide (HX2.out.below hb); have HS3 := hide (HS2.out.below hb); have HF3 := hide (HF2.out.below hb); clear q0 q1 fq0 fq1 d0 d1 fd0 fd1 z0 z1 z2 z3 z4 z5 z6 y0 y1 y2 y3 y4 y5 y6; clear a0 a1 a2 a3 a4 a5 a6 fa0 fa1 fa2 fa3 fa4 fa5 fa6; clear g0 g1 fg0 fg1; obtain ⟨⟨q0, q1⟩, fq0, fq1⟩ := HX3.out.t.cells; obtain ⟨⟨d0, d1⟩, fd0, fd1⟩ := HX3.out.d.cells; obtain ⟨z0, z1, z2, z3, z4, z5, z6⟩ := HX3.out.z.cells; obtain ⟨y0, y1, y2, y3, y4, y5, y6⟩ := HX3.out.z.frozen; obtain ⟨a0, a1, a2, a3, a4, a5, a6⟩ := HS3.out.cells; obtain ⟨fa0, fa1, fa2, fa3, fa4, fa5, fa6⟩ := HS3.out.frozen; obtain ⟨⟨g0, g1⟩, fg0, fg1⟩ := HF3.out.cells; have HT3 := hide (TreeV.stays.keep HT2.out (Keep.of_below hb)); clear hb HX2)
            )
          obtain ⟨p, hp⟩ : ∃ p, p = X.ps j := ⟨_, rfl⟩
          have HMU := hide (rMuch (X := X) (A := A) (c := c) (w := w3.drew) HX3.out.drew.l j)
          rw [← hp] at HMU HSL
          clear hp
          go_region_with (go_at_call 45; refine HMU.out.mono ?_; rintro e w4 ⟨rfl, hb4⟩; have HX4 := hide (HX3.out.drew.below hb4); have HS4 := hide (HS3.out.drew.below hb4); clear q0 q1 fq0 fq1 d0 d1 fd0 fd1 z0 z1 z2 z3 z4 z5 z6 y0 y1 y2 y3 y4 y5 y6; clear a0 a1 a2 a3 a4 a5 a6 fa0 fa1 fa2 fa3 fa4 fa5 fa6; clear g0 g1 fg0 fg1; obtain ⟨⟨q0, q1⟩, fq0, fq1⟩ := HX4.out.t.cells; obtain ⟨⟨d0, d1⟩, fd0, fd1⟩ := HX4.out.d.cells; obtain ⟨z0, z1, z2, z3, z4, z5, z6⟩ := HX4.out.z.cells; obtain ⟨y0, y1, y2, y3, y4, y5, y6⟩ := HX4.out.z.frozen; obtain ⟨a0, a1, a2, a3, a4, a5, a6⟩ := HS4.out.cells; obtain ⟨fa0, fa1, fa2, fa3, fa4, fa5, fa6⟩ := HS4.out.frozen; clear hb4)
          all_goals
            obtain ⟨wg, hwg, hfin⟩ := HX4.out.fin 3 (.int .i64 kx) (.string nmx) (.int .i64 nux) (.bool shx) (.slice Ax nx mx) (.slice Bx px qx) (.slice Cx rx sx) (.int .i64 5) (.int .i64 (p : Int)) (by omega) (by omega) (by omega) (by omega) (by omega)
            rw [← hwg]
            clear hwg
            obtain ⟨hbf, hkf, u0, u1, u2, u3, u4, u5, u6, v0, v1⟩ := hfin
            have HBF := hide hbf
            have HKF := hide hkf
            clear hbf hkf
            go_wp2
            refine bodyPost_ret (v := .tuple #[.agg #[.int .i64 kx, .string nmx, .int .i64 nux, .bool shx, .slice Ax nx mx, .slice Bx px qx, .slice Cx rx sx], .int .i64 ((j : Int)), .agg #[.int .i64 5, .int .i64 (p : Int)]]) (by simp [results, Tryz.results59, go_sem, u0, u1, u2, u3, u4, u5, u6, v0, v1]) rfl ?_
            exact RefP.of _ _ _ _ _ _ _ _ _ _ _ _ _ 5 p j HBF.out (.inr ⟨HSL.out, by decide⟩)
        | succ f =>
          have HSL : Hid (r0 = (P (j + 1)).bind fun b j' => chainL X P isMulB f j' (.two (X.tx j) t b)) := by rw [Hid, hsl, chainL, if_pos hb]
          have hnm := tx_is hb'
          have HSM : Hid (r0 = (P (j + 1)).bind fun b j' => chainL X P isMulB f j' (.two ⟨#[42]⟩ t b)) := by rw [Hid, HSL.out, hnm]
          have hn64 : ¬ (64 : Int) < ((64 - f : Nat) : Int) := by omega
          clear hsl hnm HSL
          go_wp2_with (go_at_call 24; refine (rText HX2.out.l (j)).mono ?_; rintro e w3 ⟨rfl, hb⟩; have HB3 := hide hb; have HX3 := hide (HX2.out.below hb); have HS3 := hide (HS2.out.below hb); have HF3 := hide (HF2.out.below hb); clear q0 q1 fq0 fq1 d0 d1 fd0 fd1 z0 z1 z2 z3 z4 z5 z6 y0 y1 y2 y3 y4 y5 y6; clear a0 a1 a2 a3 a4 a5 a6 fa0 fa1 fa2 fa3 fa4 fa5 fa6; clear g0 g1 fg0 fg1; obtain ⟨⟨q0, q1⟩, fq0, fq1⟩ := HX3.out.t.cells; obtain ⟨⟨d0, d1⟩, fd0, fd1⟩ := HX3.out.d.cells; obtain ⟨z0, z1, z2, z3, z4, z5, z6⟩ := HX3.out.z.cells; obtain ⟨y0, y1, y2, y3, y4, y5, y6⟩ := HX3.out.z.frozen; obtain ⟨a0, a1, a2, a3, a4, a5, a6⟩ := HS3.out.cells; obtain ⟨fa0, fa1, fa2, fa3, fa4, fa5, fa6⟩ := HS3.out.frozen; obtain ⟨⟨g0, g1⟩, fg0, fg1⟩ := HF3.out.cells; have HT3 := hide (TreeV.stays.weaken (S' := fun b => but (w.heap.size + 3) w1.heap.size (w1.heap.size + 1) b ∧ b < w3.heap.size) (TreeV.stays.keep HT2.out (Keep.of_below hb)) (fun b hb1 hb2 => ⟨hb2, hb1⟩)); obtain ⟨⟨q2, q3⟩, _, _⟩ := (HX3.out.alloc (.cells z7 47)).t.cells; clear hb HX2)
          (go_at_call 71; refine (HP.out _ (j + 1) (HX3.out.l.alloc (.cells z7 47)) (by omega)).mono ?_; intro e w5 hr; obtain ⟨hb5, ky, nmy, nuy, shy, Ay, ny, my, By, py, qy, Cy, ry, sy, E5, K5, J5, rfl, hst5⟩ := hr.any; have HST5 := hide hst5; have HX5 := hide ((HX3.out.alloc (.cells z7 47)).below hb5); have HS5 := hide ((HS3.out.alloc (.cells z7 47)).below hb5); have HF5 := hide ((HF3.out.alloc (.cells z7 47)).below hb5); have HT5 := hide (TreeV.stays.keep (TreeV.stays.keep HT3.out (Keep.alloc w3 (.cells z7 47))) (Keep.of_below hb5)); have HZ5 : Hid (SevZ w5 w3.heap.size) := (SevAt.new w3 _ _ _ _ _ _ _).below hb5; have hz5 : w3.heap.size + 1 ≤ w5.heap.size := (by have := hb5.size; simpa using this); have hz3 : wr.heap.size ≤ w3.heap.size := HB3.out.size; clear q2 q3; clear q0 q1 fq0 fq1 d0 d1 fd0 fd1 z0 z1 z2 z3 z4 z5 z6 y0 y1 y2 y3 y4 y5 y6; clear a0 a1 a2 a3 a4 a5 a6 fa0 fa1 fa2 fa3 fa4 fa5 fa6; clear g0 g1 fg0 fg1; obtain ⟨⟨q0, q1⟩, fq0, fq1⟩ := HX5.out.t.cells; obtain ⟨⟨d0, d1⟩, fd0, fd1⟩ := HX5.out.d.cells; obtain ⟨z0, z1, z2, z3, z4, z5, z6⟩ := HX5.out.z.cells; obtain ⟨y0, y1, y2, y3, y4, y5, y6⟩ := HX5.out.z.frozen; obtain ⟨⟨g0, g1⟩, fg0, fg1⟩ := HF5.out.cells; obtain ⟨c0, c1, c2, c3, c4, c5, c6⟩ := HZ5.out.cells; obtain ⟨x0, x1, x2, x3, x4, x5, x6⟩ := HZ5.out.frozen; clear hb5 hr hst5 HX3)
          go_upto_region 9 with fail
          have hoB := SevAt.out w5 w3.heap.size (.int .i64 ky) (.string nmy) (.int .i64 nuy) (.bool shy) (.slice Ay ny my) (.slice By py qy) (.slice Cy ry sy)
          have hoF := TwoAt.out (w := (((((((w5.setCell ⟨w3.heap.size, 0, none⟩ (.int .i64 ky)).setCell ⟨w3.heap.size, 1, none⟩ (.string nmy)).setCell ⟨w3.heap.size, 2, none⟩ (.int .i64 nuy)).setCell ⟨w3.heap.size, 3, none⟩ (.bool shy)).setCell ⟨w3.heap.size, 4, none⟩ (.slice Ay ny my)).setCell ⟨w3.heap.size, 5, none⟩ (.slice By py qy)).setCell ⟨w3.heap.size, 6, none⟩ (.slice Cy ry sy))) (b := w1.heap.size + 1) (.int .i64 E5) (.int .i64 (K5 : Int))
          have HZ8 := hide ((HZ5.out.put (.int .i64 ky) (.string nmy) (.int .i64 nuy) (.bool shy) (.slice Ay ny my) (.slice By py qy) (.slice Cy ry sy)).grown hoF (by simp; omega))
          have HS8 := hide ((HS5.out.grown hoB (by simp; omega)).grown hoF (by simp))
          have HF8 := hide ((HF5.out.grown hoB (by simp; omega)).put (.int .i64 E5) (.int .i64 (K5 : Int)))
          have HX8 := hide ((HX5.out.grown hoB (by simp; omega) (by simp; omega) (by simp; omega) (fun g e => by cases e; omega)).grown hoF (by simp; omega) (by simp; omega) (by simp; omega) (fun g e => by cases e; omega))
          have HT8 := hide (TreeV.stays.keep (TreeV.stays.keep HT5.out (Keep.of_grown hoB (fun b hb _ => by have := hb.2; simp; omega))) (Keep.of_grown hoF (fun b hb _ => by have := hb.1.2.2; simp; omega)))
          have HK8 : Hid (∀ t cs, TreeV w5 (from_ (w3.alloc (.cells z7 47))) t cs → TreeV (((((((((w5.setCell ⟨w3.heap.size, 0, none⟩ (.int .i64 ky)).setCell ⟨w3.heap.size, 1, none⟩ (.string nmy)).setCell ⟨w3.heap.size, 2, none⟩ (.int .i64 nuy)).setCell ⟨w3.heap.size, 3, none⟩ (.bool shy)).setCell ⟨w3.heap.size, 4, none⟩ (.slice Ay ny my)).setCell ⟨w3.heap.size, 5, none⟩ (.slice By py qy)).setCell ⟨w3.heap.size, 6, none⟩ (.slice Cy ry sy)).setCell ⟨w1.heap.size + 1, 0, none⟩ (.int .i64 E5)).setCell ⟨w1.heap.size + 1, 1, none⟩ (.int .i64 (K5 : Int))) (but (w.heap.size + 3) w1.heap.size (w1.heap.size + 1)) t cs) := fun t cs h => TreeV.stays.weaken (TreeV.stays.keep (TreeV.stays.keep h (Keep.of_grown hoB (fun b hb _ => by have h9 : (w3.alloc (.cells z7 47)).heap.size ≤ b := hb; simp at h9 ⊢; omega))) (Keep.of_grown hoF (fun b hb _ => by have h9 : (w3.alloc (.cells z7 47)).heap.size ≤ b := hb; simp at h9 ⊢; omega))) (fun b _ hb => by have h9 : (w3.alloc (.cells z7 47)).heap.size ≤ b := hb; simp at h9; exact ⟨by omega, by omega, by omega⟩)
          have hz8 : w5.heap.size ≤ (((((((((w5.setCell ⟨w3.heap.size, 0, none⟩ (.int .i64 ky)).setCell ⟨w3.heap.size, 1, none⟩ (.string nmy)).setCell ⟨w3.heap.size, 2, none⟩ (.int .i64 nuy)).setCell ⟨w3.heap.size, 3, none⟩ (.bool shy)).setCell ⟨w3.heap.size, 4, none⟩ (.slice Ay ny my)).setCell ⟨w3.heap.size, 5, none⟩ (.slice By py qy)).setCell ⟨w3.heap.size, 6, none⟩ (.slice Cy ry sy)).setCell ⟨w1.heap.size + 1, 0, none⟩ (.int .i64 E5)).setCell ⟨w1.heap.size + 1, 1, none⟩ (.int .i64 (K5 : Int))).heap.size := Nat.le_trans hoB.size hoF.size
          clear hoB hoF
          obtain ⟨w8, hw8⟩ : ∃ w8, w8 = (((((((((w5.setCell ⟨w3.heap.size, 0, none⟩ (.int .i64 ky)).setCell ⟨w3.heap.size, 1, none⟩ (.string nmy)).setCell ⟨w3.heap.size, 2, none⟩ (.int .i64 nuy)).setCell ⟨w3.heap.size, 3, none⟩ (.bool shy)).setCell ⟨w3.heap.size, 4, none⟩ (.slice Ay ny my)).setCell ⟨w3.heap.size, 5, none⟩ (.slice By py qy)).setCell ⟨w3.heap.size, 6, none⟩ (.slice Cy ry sy)).setCell ⟨w1.heap.size + 1, 0, none⟩ (.int .i64 E5)).setCell ⟨w1.heap.size + 1, 1, none⟩ (.int .i64 (K5 : Int))) := ⟨_, rfl⟩
          rw [← hw8] at HZ8 HS8 HF8 HX8 HT8 HK8 hz8 ⊢
          clear hw8 q0 q1 fq0 fq1 d0 d1 fd0 fd1 z0 z1 z2 z3 z4 z5 z6 y0 y1 y2 y3 y4 y5 y6 g0 g1 fg0 fg1 c0 c1 c2 c3 c4 c5 c6 x0 x1 x2 x3 x4 x5 x6 HX5 HS5 HF5 HT5 HZ5 HS3 HF3 HT3 HB3
          obtain ⟨c0, c1, c2, c3, c4, c5, c6⟩ := HZ8.out.cells
          obtain ⟨a0, a1, a2, a3, a4, a5, a6⟩ := HS8.out.cells; obtain ⟨fa0, fa1, fa2, fa3, fa4, fa5, fa6⟩ := HS8.out.frozen
          obtain ⟨e0, e1, e2, e3, e4, e5, e6⟩ := (HS8.out.alloc (.cells #[.int .i64 kx, .string nmx, .int .i64 nux, .bool shx, .slice Ax nx mx, .slice Bx px qx, .slice Cx rx sx, .int .i64 ky, .string nmy, .int .i64 nuy, .bool shy, .slice Ay ny my, .slice By py qy, .slice Cy ry sy] 47)).cells; obtain ⟨fe0, fe1, fe2, fe3, fe4, fe5, fe6⟩ := (HS8.out.alloc (.cells #[.int .i64 kx, .string nmx, .int .i64 nux, .bool shx, .slice Ax nx mx, .slice Bx px qx, .slice Cx rx sx, .int .i64 ky, .string nmy, .int .i64 nuy, .bool shy, .slice Ay ny my, .slice By py qy, .slice Cy ry sy] 47)).frozen
          go_wp2
          have hoE := SevAt.out (w8.alloc (.cells #[.int .i64 kx, .string nmx, .int .i64 nux, .bool shx, .slice Ax nx mx, .slice Bx px qx, .slice Cx rx sx, .int .i64 ky, .string nmy, .int .i64 nuy, .bool shy, .slice Ay ny my, .slice By py qy, .slice Cy ry sy] 47)) w1.heap.size (.int .i64 4) (.string ⟨#[42]⟩) (.int .i64 0) (.bool false) (.slice none 0 0) (.slice none 0 0) (.slice (some ⟨w8.heap.size, 0, none⟩) 2 2)
          have HXE := hide ((HX8.out.alloc (.cells #[.int .i64 kx, .string nmx, .int .i64 nux, .bool shx, .slice Ax nx mx, .slice Bx px qx, .slice Cx rx sx, .int .i64 ky, .string nmy, .int .i64 nuy, .bool shy, .slice Ay ny my, .slice By py qy, .slice Cy ry sy] 47)).grown hoE (by simp; omega) (by simp; omega) (by simp; omega) (fun g e => by cases e; omega))
          have HSE := hide ((HS8.out.alloc (.cells #[.int .i64 kx, .string nmx, .int .i64 nux, .bool shx, .slice Ax nx mx, .slice Bx px qx, .slice Cx rx sx, .int .i64 ky, .string nmy, .int .i64 nuy, .bool shy, .slice Ay ny my, .slice By py qy, .slice Cy ry sy] 47)).put (.int .i64 4) (.string ⟨#[42]⟩) (.int .i64 0) (.bool false) (.slice none 0 0) (.slice none 0 0) (.slice (some ⟨w8.heap.size, 0, none⟩) 2 2))
          have HFE := hide ((HF8.out.alloc (.cells #[.int .i64 kx, .string nmx, .int .i64 nux, .bool shx, .slice Ax nx mx, .slice Bx px qx, .slice Cx rx sx, .int .i64 ky, .string nmy, .int .i64 nuy, .bool shy, .slice Ay ny my, .slice By py qy, .slice Cy ry sy] 47)).grown hoE (by simp))
          have HKE : Hid (Keep (but (w.heap.size + 3) w1.heap.size (w1.heap.size + 1)) w8 ((((((((w8.alloc (.cells #[.int .i64 kx, .string nmx, .int .i64 nux, .bool shx, .slice Ax nx mx, .slice Bx px qx, .slice Cx rx sx, .int .i64 ky, .string nmy, .int .i64 nuy, .bool shy, .slice Ay ny my, .slice By py qy, .slice Cy ry sy] 47)).setCell ⟨w1.heap.size, 0, none⟩ (.int .i64 4)).setCell ⟨w1.heap.size, 1, none⟩ (.string ⟨#[42]⟩)).setCell ⟨w1.heap.size, 2, none⟩ (.int .i64 0)).setCell ⟨w1.heap.size, 3, none⟩ (.bool false)).setCell ⟨w1.heap.size, 4, none⟩ (.slice none 0 0)).setCell ⟨w1.heap.size, 5, none⟩ (.slice none 0 0)).setCell ⟨w1.heap.size, 6, none⟩ (.slice (some ⟨w8.heap.size, 0, none⟩) 2 2))) := (Keep.alloc _ _).trans (Keep.of_grown hoE (fun b hb _ => by have := hb.2.1; simp; omega))
          have hzE : ((((((((w8.alloc (.cells #[.int .i64 kx, .string nmx, .int .i64 nux, .bool shx, .slice Ax nx mx, .slice Bx px qx, .slice Cx rx sx, .int .i64 ky, .string nmy, .int .i64 nuy, .bool shy, .slice Ay ny my, .slice By py qy, .slice Cy ry sy] 47)).setCell ⟨w1.heap.size, 0, none⟩ (.int .i64 4)).setCell ⟨w1.heap.size, 1, none⟩ (.string ⟨#[42]⟩)).setCell ⟨w1.heap.size, 2, none⟩ (.int .i64 0)).setCell ⟨w1.heap.size, 3, none⟩ (.bool false)).setCell ⟨w1.heap.size, 4, none⟩ (.slice none 0 0)).setCell ⟨w1.heap.size, 5, none⟩ (.slice none 0 0)).setCell ⟨w1.heap.size, 6, none⟩ (.slice (some ⟨w8.heap.size, 0, none⟩) 2 2)).heap.size = w8.heap.size + 1 := by simp [World.setCell]
          have HBE : Hid (((((((((w8.alloc (.cells #[.int .i64 kx, .string nmx, .int .i64 nux, .bool shx, .slice Ax nx mx, .slice Bx px qx, .slice Cx rx sx, .int .i64 ky, .string nmy, .int .i64 nuy, .bool shy, .slice Ay ny my, .slice By py qy, .slice Cy ry sy] 47)).setCell ⟨w1.heap.size, 0, none⟩ (.int .i64 4)).setCell ⟨w1.heap.size, 1, none⟩ (.string ⟨#[42]⟩)).setCell ⟨w1.heap.size, 2, none⟩ (.int .i64 0)).setCell ⟨w1.heap.size, 3, none⟩ (.bool false)).setCell ⟨w1.heap.size, 4, none⟩ (.slice none 0 0)).setCell ⟨w1.heap.size, 5, none⟩ (.slice none 0 0)).setCell ⟨w1.heap.size, 6, none⟩ (.slice (some ⟨w8.heap.size, 0, none⟩) 2 2)).heap[w8.heap.size]? = some (.cells #[.int .i64 kx, .string nmx, .int .i64 nux, .bool shx, .slice Ax nx mx, .slice Bx px qx, .slice Cx rx sx, .int .i64 ky, .string nmy, .int .i64 nuy, .bool shy, .slice Ay ny my, .slice By py qy, .slice Cy ry sy] 47 (0, 0))) := (hoE.block w8.heap.size (by simp) (by simp; omega)).trans (World.alloc_heap_new w8 _)
          obtain ⟨wE, hwE⟩ : ∃ wE, wE = ((((((((w8.alloc (.cells #[.int .i64 kx, .string nmx, .int .i64 nux, .bool shx, .slice Ax nx mx, .slice Bx px qx, .slice Cx rx sx, .int .i64 ky, .string nmy, .int .i64 nuy, .bool shy, .slice Ay ny my, .slice By py qy, .slice Cy ry sy] 47)).setCell ⟨w1.heap.size, 0, none⟩ (.int .i64 4)).setCell ⟨w1.heap.size, 1, none⟩ (.string ⟨#[42]⟩)).setCell ⟨w1.heap.size, 2, none⟩ (.int .i64 0)).setCell ⟨w1.heap.size, 3, none⟩ (.bool false)).setCell ⟨w1.heap.size, 4, none⟩ (.slice none 0 0)).setCell ⟨w1.heap.size, 5, none⟩ (.slice none 0 0)).setCell ⟨w1.heap.size, 6, none⟩ (.slice (some ⟨w8.heap.size, 0, none⟩) 2 2)) := ⟨_, rfl⟩
          rw [← hwE] at HXE HSE HFE HKE HBE hzE ⊢
          clear hwE hoE c0 c1 c2 c3 c4 c5 c6 a0 a1 a2 a3 a4 a5 a6 fa0 fa1 fa2 fa3 fa4 fa5 fa6 e0 e1 e2 e3 e4 e5 e6 fe0 fe1 fe2 fe3 fe4 fe5 fe6
          go_roundw
          case rel =>
            refine ⟨HXE.out, by omega, ?_⟩
            have hz : ((64 - f : Nat) : Int) + 1 = ((65 - f : Nat) : Int) := by omega
            rw [hz]
            refine ChainSt.of f J5 E5 K5 _ _ _ _ _ _ _ _ _ _ _ _ _ (by omega) HSE.out HFE.out ?_
            refine chain_on (B := w8.heap.size) (W := w8) HSM.out HPL.out (TreeV.stays.weaken HT8.out (fun b _ hb => hb.1)) ?_ ⟨by omega, by omega, by omega⟩ HKE.out HBE.out
            · exact HST5.out.imp (fun ⟨u, j, h1, h0, h2, h3, h4⟩ => ⟨u, j, h1, h0, h2, h3, HK8.out _ _ h4⟩) id
          case measure => simp [intOf]; omega
    · have HSL := hide hsl
      have hE0 : (Eb == 0) = false := by simpa using hne
      have HNE := hide hne
      clear hsl hne
      go_wp2
      go_region
      obtain ⟨wg, hwg, hfin⟩ := HX2.out.fin 3 (.int .i64 kx) (.string nmx) (.int .i64 nux) (.bool shx) (.slice Ax nx mx) (.slice Bx px qx) (.slice Cx rx sx) (.int .i64 Eb) (.int .i64 (kb : Int)) (by omega) (by omega) (by omega) (by omega) (by omega)
      rw [← hwg]
      replace hfin := hfin.drew
      clear hwg
      obtain ⟨wf, hwf⟩ : ∃ wf, wf = wg.drew := ⟨_, rfl⟩
      rw [← hwf] at hfin ⊢
      clear hwf
      obtain ⟨hbf, hkf, u0, u1, u2, u3, u4, u5, u6, v0, v1⟩ := hfin
      have HBF := hide hbf
      have HKF := hide hkf
      clear hbf hkf
      go_wp2
      refine bodyPost_ret (v := .tuple #[.agg #[.int .i64 kx, .string nmx, .int .i64 nux, .bool shx, .slice Ax nx mx, .slice Bx px qx, .slice Cx rx sx], .int .i64 (J), .agg #[.int .i64 Eb, .int .i64 (kb : Int)]]) (by simp [results, Tryz.results59, go_sem, u0, u1, u2, u3, u4, u5, u6, v0, v1]) rfl ?_
      exact RefP.ofJ _ _ _ _ _ _ _ _ _ _ _ _ _ _ _ J HBF.out (.inr ⟨HSL.out, HNE.out⟩)
end Go.Proofs.YtadhlnlcdljamaaGreatDoor.V
