/-
  Contract: adjointref3.SameProgram, of the same program.
-/
import Derived.Test.YtdpgbhenhealpaaDoorTxSameT
import Derived.Deep.RegionHeld3
namespace Go.Proofs.YtdpgbhenhealpaaDoor.V
set_option maxRecDepth 20000
open Go.RowKit
set_option linter.unusedVariables false

theorem drew_cell' {w : World} {p : Addr} {v : Value} (h : w.cell? p = some v) : w.drew.cell? p = some v := h
theorem cell_lt9 {w : World} {p : Addr} {v : Value} (h : w.cell? p = some v) : p.block < w.heap.size := by
  by_cases hl : p.block < w.heap.size
  · exact hl
  · have e : w.heap[p.block]? = none := by simp; omega
    simp [World.cell?, e] at h

theorem FuncV.len9 {w : World} {S : Nat → Prop} (f : FnT) (cs : List Value) (h : FuncV w S f cs) : cs.length = 9 := by
  obtain ⟨v, ct, rfl, _, ht⟩ := h
  have := TreeV.len _ _ ht
  simp [this]

set_option maxRecDepth 100000 in
set_option maxHeartbeats 4000000 in
theorem same_program (N : Nat) (hN : N < 9223372036854775807) (A1 A2 : Option Addr) (n1 n2 c1 c2 : Nat) (S1 S2 : Nat → Prop) (fs : List FnT) (w : World) (h1 : SliceV FuncV w S1 fs (.slice A1 n1 c1)) (h2 : SliceV FuncV w S2 fs (.slice A2 n2 c2)) (hn : fs.length ≤ N) (hf : ∀ f ∈ fs, FnOk N f) :
    Calls Tryd.prog 7 #[.slice A1 n1 c1, .slice A2 n2 c2] w fun e w' => e = .returned (.bool true) ∧ Below w.heap.size w w' := by
  have e1 : n1 = fs.length := by obtain ⟨_, _, e⟩ := h1.form; cases e; rfl
  have e2 : n2 = fs.length := by obtain ⟨_, _, e⟩ := h2.form; cases e; rfl
  subst e1
  subst e2
  have H1 := hide h1
  have H2 := hide h2
  have HF := hide hf
  obtain ⟨n, hnn⟩ : ∃ n, n = fs.length := ⟨_, rfl⟩
  have HN := hide hnn
  rw [← hnn] at hn H1 H2 ⊢
  clear h1 h2 hnn hf
  go_enter Tryd.func7, Tryd.ntmps7
  go_wp2_with fail
  go_loopw [14] (fun i wr => ∃ j : Nat, j ≤ n ∧ i = .int .i64 j ∧ Below w.heap.size w wr) (fun i _ => n - (intOf i).toNat)
  case atStart => exact ⟨0, Nat.zero_le _, rfl, Below.refl _ _⟩
  case round =>
    obtain ⟨j, j1, rfl, j2⟩ := hrel
    have J2 := hide j2
    by_cases hj : j < n
    · have hj' : j < fs.length := by have := HN.out; omega
      have t1 := FuncV.stays.slice H1.out (Keep.of_below j2)
      have t2 := FuncV.stays.slice H2.out (Keep.of_below j2)
      obtain ⟨hq1, g1, ks1, rfl, hg1, ht1, hc1⟩ := slice_at FuncV.len9 t1 j hj' (by decide)
      obtain ⟨hq2, g2, ks2, rfl, hg2, ht2, hc2⟩ := slice_at FuncV.len9 t2 j hj' (by decide)
      obtain ⟨k1, k2, k3⟩ := HF.out _ (List.getElem_mem hj')
      obtain ⟨F, hF⟩ : ∃ F, F = fs[j] := ⟨_, rfl⟩
      rw [← hF] at ht1 ht2 k1 k2 k3
      obtain ⟨nm, gv, bd⟩ := F
      obtain ⟨vg1, ct1, rfl, p1, p2⟩ := ht1
      obtain ⟨vg2, ct2, rfl, r1, r2⟩ := ht2
      simp only at p1 p2 r1 r2 k1 k2 k3
      obtain ⟨Ag1, cg1, rfl⟩ := p1.form
      obtain ⟨Ag2, cg2, rfl⟩ := r1.form
      obtain ⟨a0, a1, a2, a3, a4, a5, a6, rfl⟩ := len7 (TreeV.len _ _ p2)
      obtain ⟨b0, b1, b2, b3, b4, b5, b6, rfl⟩ := len7 (TreeV.len _ _ r2)
      have x0 := hc1 0 (by decide)
      have y0 := hc2 0 (by decide)
      have x1 := hc1 1 (by decide)
      have y1 := hc2 1 (by decide)
      have x2 := hc1 2 (by decide)
      have y2 := hc2 2 (by decide)
      have x3 := hc1 3 (by decide)
      have y3 := hc2 3 (by decide)
      have x4 := hc1 4 (by decide)
      have y4 := hc2 4 (by decide)
      have x5 := hc1 5 (by decide)
      have y5 := hc2 5 (by decide)
      have x6 := hc1 6 (by decide)
      have y6 := hc2 6 (by decide)
      have x7 := hc1 7 (by decide)
      have y7 := hc2 7 (by decide)
      have x8 := hc1 8 (by decide)
      have y8 := hc2 8 (by decide)
      simp only [Nat.add_zero, List.getElem?_cons_zero, List.getElem?_cons_succ] at x0 x1 x2 x3 x4 x5 x6 x7 x8 y0 y1 y2 y3 y4 y5 y6 y7 y8
      obtain ⟨ng, hng⟩ : ∃ ng, ng = gv.length := ⟨_, rfl⟩
      have HNG := hide hng
      rw [← hng] at x1 y1 k1 p1 r1
      have P1 := hide p1
      have P2 := hide p2
      have R1 := hide r1
      have R2 := hide r2
      have K2 := hide k2
      have HST : Hid (∀ W, Below wr.heap.size wr W → Calls Tryd.prog 13 #[.agg #[a0, a1, a2, a3, a4, a5, a6], .agg #[b0, b1, b2, b3, b4, b5, b6]] W fun e w' => e = .returned (.bool true) ∧ Below W.heap.size W w') := fun W hW => same_tree N hN _ bd _ _ S1 S2 W (Nat.le_refl _) k3 (TreeV.stays.keep p2 (Keep.of_below hW)) (TreeV.stays.keep r2 (Keep.of_below hW))
      have i1 : (0 : Int) ≤ (j : Int) := Int.natCast_nonneg _
      have i2 : (j : Int) < (n : Int) := by omega
      clear hq1 hq2 hc1 hc2 t1 t2 hng p1 p2 r1 r2 k2 k3 hF H1 H2 HF
      have HCELLS : Hid (∀ W, Below wr.heap.size wr W → (fun w' => w'.cell? ⟨g1, j * 9, none⟩ = some (.string nm) ∧ w'.cell? ⟨g1, j * 9 + 1, none⟩ = some (.slice Ag1 ng cg1) ∧ w'.cell? ⟨g1, j * 9 + 2, none⟩ = some a0 ∧ w'.cell? ⟨g1, j * 9 + 3, none⟩ = some a1 ∧ w'.cell? ⟨g1, j * 9 + 4, none⟩ = some a2 ∧ w'.cell? ⟨g1, j * 9 + 5, none⟩ = some a3 ∧ w'.cell? ⟨g1, j * 9 + 6, none⟩ = some a4 ∧ w'.cell? ⟨g1, j * 9 + 7, none⟩ = some a5 ∧ w'.cell? ⟨g1, j * 9 + 8, none⟩ = some a6 ∧ w'.cell? ⟨g2, j * 9, none⟩ = some (.string nm) ∧ w'.cell? ⟨g2, j * 9 + 1, none⟩ = some (.slice Ag2 ng cg2) ∧ w'.cell? ⟨g2, j * 9 + 2, none⟩ = some b0 ∧ w'.cell? ⟨g2, j * 9 + 3, none⟩ = some b1 ∧ w'.cell? ⟨g2, j * 9 + 4, none⟩ = some b2 ∧ w'.cell? ⟨g2, j * 9 + 5, none⟩ = some b3 ∧ w'.cell? ⟨g2, j * 9 + 6, none⟩ = some b4 ∧ w'.cell? ⟨g2, j * 9 + 7, none⟩ = some b5 ∧ w'.cell? ⟨g2, j * 9 + 8, none⟩ = some b6) W) := fun W hW => ⟨(hW.cell (p := ⟨g1, j * 9, none⟩) hg1).trans x0, (hW.cell (p := ⟨g1, j * 9 + 1, none⟩) hg1).trans x1, (hW.cell (p := ⟨g1, j * 9 + 2, none⟩) hg1).trans x2, (hW.cell (p := ⟨g1, j * 9 + 3, none⟩) hg1).trans x3, (hW.cell (p := ⟨g1, j * 9 + 4, none⟩) hg1).trans x4, (hW.cell (p := ⟨g1, j * 9 + 5, none⟩) hg1).trans x5, (hW.cell (p := ⟨g1, j * 9 + 6, none⟩) hg1).trans x6, (hW.cell (p := ⟨g1, j * 9 + 7, none⟩) hg1).trans x7, (hW.cell (p := ⟨g1, j * 9 + 8, none⟩) hg1).trans x8, (hW.cell (p := ⟨g2, j * 9, none⟩) hg2).trans y0, (hW.cell (p := ⟨g2, j * 9 + 1, none⟩) hg2).trans y1, (hW.cell (p := ⟨g2, j * 9 + 2, none⟩) hg2).trans y2, (hW.cell (p := ⟨g2, j * 9 + 3, none⟩) hg2).trans y3, (hW.cell (p := ⟨g2, j * 9 + 4, none⟩) hg2).trans y4, (hW.cell (p := ⟨g2, j * 9 + 5, none⟩) hg2).trans y5, (hW.cell (p := ⟨g2, j * 9 + 6, none⟩) hg2).trans y6, (hW.cell (p := ⟨g2, j * 9 + 7, none⟩) hg2).trans y7, (hW.cell (p := ⟨g2, j * 9 + 8, none⟩) hg2).trans y8⟩
      go_wp2_with fail
      go_region_held3 (fun w' => w'.cell? ⟨g1, j * 9, none⟩ = some (.string nm) ∧ w'.cell? ⟨g1, j * 9 + 1, none⟩ = some (.slice Ag1 ng cg1) ∧ w'.cell? ⟨g1, j * 9 + 2, none⟩ = some a0 ∧ w'.cell? ⟨g1, j * 9 + 3, none⟩ = some a1 ∧ w'.cell? ⟨g1, j * 9 + 4, none⟩ = some a2 ∧ w'.cell? ⟨g1, j * 9 + 5, none⟩ = some a3 ∧ w'.cell? ⟨g1, j * 9 + 6, none⟩ = some a4 ∧ w'.cell? ⟨g1, j * 9 + 7, none⟩ = some a5 ∧ w'.cell? ⟨g1, j * 9 + 8, none⟩ = some a6 ∧ w'.cell? ⟨g2, j * 9, none⟩ = some (.string nm) ∧ w'.cell? ⟨g2, j * 9 + 1, none⟩ = some (.slice Ag2 ng cg2) ∧ w'.cell? ⟨g2, j * 9 + 2, none⟩ = some b0 ∧ w'.cell? ⟨g2, j * 9 + 3, none⟩ = some b1 ∧ w'.cell? ⟨g2, j * 9 + 4, none⟩ = some b2 ∧ w'.cell? ⟨g2, j * 9 + 5, none⟩ = some b3 ∧ w'.cell? ⟨g2, j * 9 + 6, none⟩ = some b4 ∧ w'.cell? ⟨g2, j * 9 + 7, none⟩ = some b5 ∧ w'.cell? ⟨g2, j * 9 + 8, none⟩ = some b6) (refine ⟨?_, ?_, ?_, ?_, ?_, ?_, ?_, ?_, ?_, ?_, ?_, ?_, ?_, ?_, ?_, ?_, ?_, ?_⟩ <;> with_reducible (repeat (first | assumption | apply drew_cell'))) ((first | (go_at_call 13; refine (HST.out _ (Below.refl _ wr).drew).mono ?_; rintro e w3 ⟨rfl, q3⟩; have HB3 := hide (below_then (Below.refl _ wr).drew q3); obtain ⟨u0, u1, u2, u3, u4, u5, u6, u7, u8, u9, u10, u11, u12, u13, u14, u15, u16, u17⟩ := HCELLS.out w3 HB3.out; clear q3)))
      clear u0 u2 u3 u4 u5 u6 u7 u8 u9 u11 u12 u13 u14 u15 u16 u17 x0 x1 x2 x3 x4 x5 x6 x7 x8 y0 y1 y2 y3 y4 y5 y6 y7 y8 HCELLS HST P2 R2
      have zg1 := cell_lt9 u1
      have zg2 := cell_lt9 u10
      have HBT := hide (below_then J2.out HB3.out)
      have PP := hide (GivenV.stays.slice P1.out (Keep.of_below HB3.out))
      have RR := hide (GivenV.stays.slice R1.out (Keep.of_below HB3.out))
      clear P1 R1 HB3
      go_wp2_with fail
      go_loopw [63] (fun i wx => ∃ k : Nat, k ≤ ng ∧ i = .int .i64 k ∧ Below w3.heap.size w3 wx) (fun i _ => ng - (intOf i).toNat)
      case atStart => exact ⟨0, Nat.zero_le _, rfl, Below.refl _ _⟩
      case round =>
        obtain ⟨k, kk1, rfl, kk2⟩ := hrel
        have KB := hide kk2
        by_cases hk : k < ng
        · have hk' : k < gv.length := by have := HNG.out; omega
          have t1 := GivenV.stays.slice PP.out (Keep.of_below kk2)
          have t2 := GivenV.stays.slice RR.out (Keep.of_below kk2)
          obtain ⟨hq1, e1, ks1, rfl, hg3, ht1, hc1⟩ := slice_at GivenV.len t1 k hk' (by decide)
          obtain ⟨hq2, e2, ks2, rfl, hg4, ht2, hc2⟩ := slice_at GivenV.len t2 k hk' (by decide)
          have hdl := K2.out _ (List.getElem_mem hk')
          obtain ⟨G, hG⟩ : ∃ G, G = gv[k] := ⟨_, rfl⟩
          rw [← hG] at ht1 ht2 hdl
          obtain ⟨gn, gd⟩ := G
          obtain ⟨vd1, rfl, p1⟩ := ht1
          obtain ⟨vd2, rfl, r1⟩ := ht2
          simp only at p1 r1 hdl
          obtain ⟨Ad1, cd1, rfl⟩ := p1.form
          obtain ⟨Ad2, cd2, rfl⟩ := r1.form
          have m0 := hc1 0 (by decide)
          have m1 := hc1 1 (by decide)
          have q0 := hc2 0 (by decide)
          have q1 := hc2 1 (by decide)
          simp only [Nat.add_zero, List.getElem?_cons_zero, List.getElem?_cons_succ] at m0 m1 q0 q1
          have s1 := (kk2.cell (p := ⟨g1, j * 9 + 1, none⟩) zg1).trans u1
          have s2 := (kk2.cell (p := ⟨g2, j * 9 + 1, none⟩) zg2).trans u10
          obtain ⟨nd, hnd⟩ : ∃ nd, nd = gd.length := ⟨_, rfl⟩
          rw [← hnd] at m1 q1 p1 r1
          have HSD : Hid (∀ W, Below wr.heap.size wr W → Calls Tryd.prog 14 #[.slice Ad1 nd cd1, .slice Ad2 nd cd2] W fun e w' => e = .returned (.bool true) ∧ Below W.heap.size W w') := fun W hW => same_dims Ad1 Ad2 nd nd cd1 cd2 S1 S2 gd W (DimV.stays.slice p1 (Keep.of_below hW)) (DimV.stays.slice r1 (Keep.of_below hW)) (by omega)
          have HC2 : Hid (∀ W, Below wr.heap.size wr W → (fun w' => w'.cell? ⟨g1, j * 9 + 1, none⟩ = some (.slice (some ⟨e1, 0, none⟩) ng cg1) ∧ w'.cell? ⟨g2, j * 9 + 1, none⟩ = some (.slice (some ⟨e2, 0, none⟩) ng cg2) ∧ w'.cell? ⟨e1, k * 2, none⟩ = some (.string gn) ∧ w'.cell? ⟨e1, k * 2 + 1, none⟩ = some (.slice Ad1 nd cd1) ∧ w'.cell? ⟨e2, k * 2, none⟩ = some (.string gn) ∧ w'.cell? ⟨e2, k * 2 + 1, none⟩ = some (.slice Ad2 nd cd2)) W) := fun W hW => ⟨(hW.cell (p := ⟨g1, j * 9 + 1, none⟩) (cell_lt9 s1)).trans s1, (hW.cell (p := ⟨g2, j * 9 + 1, none⟩) (cell_lt9 s2)).trans s2, (hW.cell (p := ⟨e1, k * 2, none⟩) hg3).trans m0, (hW.cell (p := ⟨e1, k * 2 + 1, none⟩) hg3).trans m1, (hW.cell (p := ⟨e2, k * 2, none⟩) hg4).trans q0, (hW.cell (p := ⟨e2, k * 2 + 1, none⟩) hg4).trans q1⟩
          have l1 : (0 : Int) ≤ (k : Int) := Int.natCast_nonneg _
          have l2 : (k : Int) < (ng : Int) := by omega
          clear hq1 hq2 hc1 hc2 t1 t2 hG p1 r1 hdl hnd kk2 PP RR K2 u1 u10
          go_wp2_with fail
          go_region_held3 (fun w' => w'.cell? ⟨g1, j * 9 + 1, none⟩ = some (.slice (some ⟨e1, 0, none⟩) ng cg1) ∧ w'.cell? ⟨g2, j * 9 + 1, none⟩ = some (.slice (some ⟨e2, 0, none⟩) ng cg2) ∧ w'.cell? ⟨e1, k * 2, none⟩ = some (.string gn) ∧ w'.cell? ⟨e1, k * 2 + 1, none⟩ = some (.slice Ad1 nd cd1) ∧ w'.cell? ⟨e2, k * 2, none⟩ = some (.string gn) ∧ w'.cell? ⟨e2, k * 2 + 1, none⟩ = some (.slice Ad2 nd cd2)) (refine ⟨?_, ?_, ?_, ?_, ?_, ?_⟩ <;> with_reducible (repeat (first | assumption | apply drew_cell'))) ((first | (go_at_call 14; refine (HSD.out _ (Below.refl _ wr).drew).mono ?_; rintro e w4 ⟨rfl, q4⟩; have HB4 := hide (below_then (Below.refl _ wr).drew q4); obtain ⟨v0, v1, v2, v3, v4, v5⟩ := HC2.out w4 HB4.out; clear q4)))
          have HB5 := hide (below_then KB.out HB4.out)
          clear v0 v1 v2 v3 v4 v5
          go_wp2_with fail
          go_roundw
          case rel => exact ⟨k + 1, by omega, by go_num, HB5.out⟩
          case measure => simp [intOf]; omega
        · have HB5 := hide (below_then HBT.out KB.out)
          go_wp2_with fail
          go_roundw
          case rel => exact ⟨j + 1, by omega, by go_num, HB5.out⟩
          case measure => simp [intOf]; omega
    · go_wp2_with fail
      go_ret
      exact ⟨rfl, J2.out⟩
end Go.Proofs.YtdpgbhenhealpaaDoor.V
