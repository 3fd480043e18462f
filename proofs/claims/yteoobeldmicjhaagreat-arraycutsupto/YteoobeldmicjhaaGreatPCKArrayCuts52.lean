/-
  ArrayCuts: where no error is told. ArrayCuts: the law.
-/
import Derived.Test.YteoobeldmicjhaaGreatPCKArrayCuts51
import Derived.Test.YteoobeldmicjhaaGreatPCKArrayCuts36
namespace Go.Proofs.YteoobeldmicjhaaGreat.V
set_option maxRecDepth 20000
open Go.RowKit

set_option maxRecDepth 100000 in
set_option maxHeartbeats 2000000 in
theorem cuts_good (b off m cap : Nat) (v : Nat → ArrV) (X : Nat → List Int) (p : Nat) (w : World)
    (hA : ∀ j, j < m → w.cell? ⟨b, off + j * 2, none⟩ = some (v j).d ∧ w.cell? ⟨b, off + j * 2 + 1, none⟩ = some (v j).x ∧ Lst w (v j).da (v j).dl (v j).dc (v j).ds) (hX : ∀ j, j < m → Ints w (v j).xa (v j).xl (X j)) (hXc : ∀ j, j < m → (v j).xl ≤ (v j).xc) (hm : m ≤ 1048576) (hE : doE 17 [] [(p : Int)] [] [] [] m v = 0) {L f rs : List Int} {K : Nat → Nat} {fr B : Nat} (hL : L = (dimsP 17 [] [(p : Int)] [] [] [] (dimsOf m v)).1) (hJ : Joined v m p L f rs K fr B) :
    Calls Tryz.prog 4 #[.slice (some ⟨b, off, none⟩) m cap, .int .i64 (p : Int)] w fun e w' => e = .returned (.bool true) ∧ Below w.heap.size w w' := by
  have HA := hide hA
  have HX := hide hX
  have HXC := hide hXc
  have HE := hide hE
  have HL := hide hL
  have HJ := hide hJ
  have hpl : p < L.length := by have := hJ.len.1; omega
  have hl6 := (sizeE_ok hJ.size).1
  obtain ⟨N, hN⟩ : ∃ N, N = (prod L).toNat := ⟨_, rfl⟩
  obtain ⟨JL, hJL⟩ : ∃ JL, JL = joinL X K B m N := ⟨_, rfl⟩
  have HN := hide hN
  have HJL := hide hJL
  clear hA hX hXc hE hL hJ hN hJL
  go_enter Tryz.func4, Tryz.ntmps4
  go_wp2_with (first
    | (go_at_call 9; have hb4 := HB6.out.alloc HB6.out.size (.cells #[.int .i64 (p : Int)] 3); have h17 := do_17 0 none 0 0 [] (some ⟨w2.heap.size + 1, 0, none⟩) 1 1 [(p : Int)] none 0 0 [] none 0 0 [] none 0 0 [] b off m cap v X ((w2.alloc (.cells #[.slice Zr nr cr, .slice Gr N gr] 25)).alloc (.cells #[.int .i64 (p : Int)] 3)) (lst_none _) ⟨ints_one (p : Int) (by omega) _ (by simp), by omega, fun e => by cases e⟩ (lst_none _) (lst_none _) (lst_none _) (by omega) (by omega) (by omega) (by omega) (by omega) (fun j hj => ⟨(hb4.cell (p := ⟨b, off + j * 2, none⟩) (lt_of_cell (HA.out j hj).1)).trans (HA.out j hj).1, (hb4.cell (p := ⟨b, off + j * 2 + 1, none⟩) (lt_of_cell (HA.out j hj).2.1)).trans (HA.out j hj).2.1, (HA.out j hj).2.2.below hb4⟩) (fun j hj => (HX.out j hj).below hb4) HXC.out hm HE.out rfl HL.out HJ.out; rw [← HN.out, ← HJL.out] at h17; refine h17.mono ?_; clear h17; rintro e w3 ⟨⟨Z, nz, cz, G, rfl, ⟨hi1, hnc⟩, hi2, hg⟩, hb⟩; have hnz := hi1.1; have HI1 := hide hi1; have HI2 := hide hi2; have HNC := hide hnc; have HB7 := hide (Below.on hb4 hb); have HAJ := hide (ArrAt.new w3 (.slice Z nz cz) (.slice (some ⟨G, 0, none⟩) N N)); have hk1 : ¬ (nz : Int) ≤ (p : Int) := (by omega); clear hb4 hb hi1 hi2 hnc hg; obtain ⟨⟨a0, a1⟩, _⟩ := HAJ.out.cells)
    | (go_at_call 8; have hb4 := HB3.out.alloc HB3.out.size (.cells #[.int .i64 (p : Int)] 3); refine (rdo_17 0 none 0 0 [] (some ⟨w1.heap.size, 0, none⟩) 1 1 [(p : Int)] none 0 0 [] none 0 0 [] none 0 0 [] b off m cap v X _ (lst_none _) ⟨ints_one (p : Int) (by omega) _ rfl, by omega, fun e => by cases e⟩ (lst_none _) (lst_none _) (lst_none _) (by omega) (by omega) (by omega) (by omega) (by omega) (fun j hj => ⟨(hb4.cell (p := ⟨b, off + j * 2, none⟩) (lt_of_cell (HA.out j hj).1)).trans (HA.out j hj).1, (hb4.cell (p := ⟨b, off + j * 2 + 1, none⟩) (lt_of_cell (HA.out j hj).2.1)).trans (HA.out j hj).2.1, (HA.out j hj).2.2.below hb4⟩) (fun j hj => (HX.out j hj).below hb4) hm HE.out rfl HL.out HJ.out).mono ?_; rintro e w2 ⟨⟨Zr, nr, cr, Gr, gr, rfl, _, _⟩, hb⟩; rw [← HN.out]; have HB5 := hide (Below.on hb4 hb); have HB6 := hide (HB5.out.alloc HB5.out.size (.cells #[.slice Zr nr cr, .slice Gr N gr] 25)); clear hb4 hb)
    | (go_at_call 7; refine (alive2_any _).mono ?_; rintro e w1 ⟨rfl, hb⟩; have HB3 := hide hb; clear hb))
  have HB8 := hide (HB7.out.alloc HB7.out.size (.cells #[.slice Z nz cz, .slice (some ⟨G, 0, none⟩) N N] 25))
  obtain ⟨W4, hW4⟩ : ∃ W4, W4 = w3.alloc (.cells #[.slice Z nz cz, .slice (some ⟨G, 0, none⟩) N N] 25) := ⟨_, rfl⟩
  rw [← hW4] at HB8 HAJ ⊢
  have HI3 := hide (HI1.out.below (show Below w3.heap.size w3 W4 by rw [hW4]; exact (Below.refl _ _).alloc (Nat.le_refl _) _))
  have HI4 := hide (HI2.out.below (show Below w3.heap.size w3 W4 by rw [hW4]; exact (Below.refl _ _).alloc (Nat.le_refl _) _))
  have hs4 : W4.heap.size = w3.heap.size + 1 := by rw [hW4]; simp
  obtain ⟨zb, zo, rfl, _, hzc⟩ := HI3.out.at (by omega)
  have hzp := hzc p (by omega)
  rw [HJ.out.at] at hzp
  have HZP := hide hzp
  have HB37 := HB7
  have hw37 := HB7.out.size
  clear hW4 a0 a1 hzc hzp HI1 HI2 HB7 HB3 HB5 HB6
  have hdec : decide (nz ≤ p) = false := by simp; omega
  rw [hdec]
  clear hdec
  go_loopw [9, 49] (fun nv i wr => ∃ s : Nat, s ≤ m ∧ i = .int .i64 s ∧ nv = .int .i64 ((beg K s : Nat) : Int) ∧ Below W4.heap.size W4 wr) (fun _ i _ => m - (intOf i).toNat)
  case atStart => exact ⟨0, Nat.zero_le _, rfl, rfl, Below.refl _ _⟩
  case round =>
    obtain ⟨s, hs, rfl, rfl, hwr⟩ := hrel
    have HWR := hide hwr
    have HAR := hide (HAJ.out.below hwr)
    have hsz := hwr.size
    obtain ⟨⟨r0, r1⟩, _⟩ := HAR.out.cells
    clear hwr
    by_cases hlt : s < m
    · obtain ⟨c0, c1, hdi⟩ := HA.out s hlt
      have hxi := HX.out s hlt
      obtain ⟨⟨da, dl, dc, ds, xa, xl, xc⟩, hvs⟩ : ∃ u, u = v s := ⟨_, rfl⟩
      have HVS := hide hvs
      rw [← hvs] at c0 c1 hdi hxi
      simp only [ArrV.d, ArrV.x] at c0 c1 hdi hxi
      have HBW := hide (Below.on HB8.out HWR.out)
      have s0 := (HBW.out.cell (p := ⟨b, off + s * 2, none⟩) (lt_of_cell c0)).trans c0
      have s1 := (HBW.out.cell (p := ⟨b, off + s * 2 + 1, none⟩) (lt_of_cell c1)).trans c1
      have HDI := hide (hdi.below HBW.out)
      have HXI := hide (hxi.below HBW.out)
      have HNB := hide (ArrAt.new wr (.slice da dl dc) (.slice xa xl xc))
      have i3 : (0 : Int) ≤ (s : Int) := Int.natCast_nonneg _
      have i4 : (s : Int) < (m : Int) := by omega
      clear hdi hxi c0 c1 hvs
      have hb0 := (Below.refl wr.heap.size wr).alloc (Nat.le_refl _) (.cells #[.slice da dl dc, .slice xa xl xc] 25)
      have HAQ := hide (HAR.out.alloc (.cells #[.slice da dl dc, .slice xa xl xc] 25))
      go_wp2
      obtain ⟨W0, hW0⟩ : ∃ W0, W0 = wr.alloc (.cells #[.slice da dl dc, .slice xa xl xc] 25) := ⟨_, rfl⟩
      have HS0 : Hid (W0.heap.size = wr.heap.size + 1) := by rw [Hid, hW0]; simp
      rw [← hW0] at hb0 HNB HAQ ⊢
      have HB0 := hide hb0
      have HL5 := hide ((HI3.out.below HWR.out).below hb0)
      have HJ5 := hide ((HI4.out.below HWR.out).below hb0)
      have HD5 := hide (HDI.out.below hb0)
      have HX5 := hide (HXI.out.below hb0)
      clear hW0 hb0 r0 r1 s0 s1 HDI HXI
      have hmk := run_make_row' (P := Tryz.prog) 22 3 (.int .i64 0) 8 Tryz.underlying22 info_int rfl .i64 .i64 nz (by omega) (by omega)
      obtain ⟨⟨e0, e1⟩, _⟩ := HNB.out.cells
      obtain ⟨⟨r0, r1⟩, _⟩ := HAQ.out.cells
      refine region_copies 15 [fIs (.pointer (some ⟨w3.heap.size, 0, none⟩)), fIs (.slice (some ⟨zb, zo, none⟩) nz cz), fIs (.int .i64 (nz : Int)), fNewL W0.heap.size (List.replicate nz 0), fNo, fIs (.pointer (some ⟨w3.heap.size, 0, none⟩)), fIs (.slice (some ⟨zb, zo, none⟩) nz cz), fNewL W0.heap.size L, fIs (.pointer (some ⟨w3.heap.size, 0, none⟩)), fIs (.slice (some ⟨zb, zo, none⟩) nz cz), fIs (.int .i64 (nz : Int)), fNewL W0.heap.size (List.replicate nz 0), fTrue, fTrue, fTrue] [none, none, none, none, none, none, none, none, none, none, none, none, some 3, some 7, some 11] (by kernel_rfl) (by rfl) (by kernel_rfl) (by kernel_rfl) (by kernel_rfl) (fun _ ⟨_, _⟩ ⟨_, _⟩ _ e h => by cases e; exact h) ⟨fIs_good _, fIs_good _, fIs_good _, fNewL_good _ _, fNo_good, fIs_good _, fIs_good _, fNewL_good _ _, fIs_good _, fIs_good _, fIs_good _, fNewL_good _ _, fTrue_good, fTrue_good, fTrue_good, trivial⟩ ?mk ?rest
      case mk =>
        refine (madeC_new rfl (fun u wz hb hd => ?_) (madeC_new rfl (fun u wz hb hd => ?_) (madeC_new rfl (fun u wz hb hd => ?_) (madeC_new rfl (fun u wz hb hd => ?_) (madeC_new rfl (fun u wz hb hd => ?_) (madeC_new rfl (fun u wz hb hd => ?_) (madeC_new rfl (fun u wz hb hd => ?_) (madeC_new rfl (fun u wz hb hd => ?_) (madeC_new rfl (fun u wz hb hd => ?_) (madeC_new rfl (fun u wz hb hd => ?_) (madeC_new rfl (fun u wz hb hd => ?_) (madeC_new rfl (fun u wz hb hd => ?_) (madeC_copy 3 rfl rfl (fun u wz => ?_) (madeC_copy 7 rfl rfl (fun u wz => ?_) (madeC_copy 11 rfl rfl (fun u wz => ?_) trivial)))))))))))))))
        all_goals simp only [Act.put, List.setIfInBounds_toArray, List.set_cons_zero, List.set_cons_succ]
        · go_simp
          exact ⟨rfl, Below.refl _ _, fun h => by cases h⟩
        · have e0 : u 0 = .pointer (some ⟨w3.heap.size, 0, none⟩) := hd 0 (by omega) (by kernel_rfl)
          rw [e0]
          have r0' := (hb.cell (p := ⟨w3.heap.size, 0, none⟩) (lt_of_cell r0)).trans r0
          go_simp
          exact ⟨rfl, Below.refl _ _, fun h => by cases h⟩
        · have e1 : u 1 = .slice (some ⟨zb, zo, none⟩) nz cz := hd 1 (by omega) (by kernel_rfl)
          rw [e1]
          go_simp
          exact ⟨rfl, Below.refl _ _, fun h => by cases h⟩
        · have e2 : u 2 = .int .i64 (nz : Int) := hd 2 (by omega) (by kernel_rfl)
          rw [e2]
          go_simp
          exact ⟨newL_of_row (World.rowIs_made _ _ _ _) hb.size, (Below.refl _ _).alloc (Nat.le_refl _) _, fun _ b hb => by simp [blk] at hb; omega⟩
        · go_simp
          exact ⟨⟨_, rfl⟩, (Below.refl _ _).alloc (Nat.le_refl _) _, fun h => by cases h⟩
        · go_simp
          exact ⟨rfl, Below.refl _ _, fun h => by cases h⟩
        · have e5 : u 5 = .pointer (some ⟨w3.heap.size, 0, none⟩) := hd 5 (by omega) (by kernel_rfl)
          rw [e5]
          have r0' := (hb.cell (p := ⟨w3.heap.size, 0, none⟩) (lt_of_cell r0)).trans r0
          go_simp
          exact ⟨rfl, Below.refl _ _, fun h => by cases h⟩
        · obtain ⟨B4, e4⟩ := hd 4 (by omega) (by kernel_rfl)
          have e6 : u 6 = .slice (some ⟨zb, zo, none⟩) nz cz := hd 6 (by omega) (by kernel_rfl)
          rw [e4, e6]
          refine wp_append_fresh (.tmp 57) (.tmp 59) rfl W0.heap.size B4 nz cz (some ⟨zb, zo, none⟩) L rfl rfl (HL5.out.below hb) (by omega) (by omega) hb.size (fun v w2 h1 h2 h3 => ?_)
          exact ⟨_, rfl, h1, h2, fun _ => h3⟩
        · go_simp
          exact ⟨rfl, Below.refl _ _, fun h => by cases h⟩
        · have e8 : u 8 = .pointer (some ⟨w3.heap.size, 0, none⟩) := hd 8 (by omega) (by kernel_rfl)
          rw [e8]
          have r0' := (hb.cell (p := ⟨w3.heap.size, 0, none⟩) (lt_of_cell r0)).trans r0
          go_simp
          exact ⟨rfl, Below.refl _ _, fun h => by cases h⟩
        · have e9 : u 9 = .slice (some ⟨zb, zo, none⟩) nz cz := hd 9 (by omega) (by kernel_rfl)
          rw [e9]
          go_simp
          exact ⟨rfl, Below.refl _ _, fun h => by cases h⟩
        · have e10 : u 10 = .int .i64 (nz : Int) := hd 10 (by omega) (by kernel_rfl)
          rw [e10]
          go_simp
          exact ⟨newL_of_row (World.rowIs_made _ _ _ _) hb.size, (Below.refl _ _).alloc (Nat.le_refl _) _, fun _ b hb => by simp [blk] at hb; omega⟩
        · go_simp
        · go_simp
        · go_simp
      case rest =>
        intro u wz hb hf hp hc
        have f0 : u 0 = .pointer (some ⟨w3.heap.size, 0, none⟩) := hf 0 (by omega)
        have f1 : u 1 = .slice (some ⟨zb, zo, none⟩) nz cz := hf 1 (by omega)
        have f2 : u 2 = .int .i64 (nz : Int) := hf 2 (by omega)
        obtain ⟨G3, c3, F3, f3, l3, n3, g3, k3⟩ := hf 3 (by omega)
        obtain ⟨_, f4⟩ := hf 4 (by omega)
        have f5 : u 5 = .pointer (some ⟨w3.heap.size, 0, none⟩) := hf 5 (by omega)
        have f6 : u 6 = .slice (some ⟨zb, zo, none⟩) nz cz := hf 6 (by omega)
        obtain ⟨G7, c7, F7, f7, l7, n7, g7, k7⟩ := hf 7 (by omega)
        have f8 : u 8 = .pointer (some ⟨w3.heap.size, 0, none⟩) := hf 8 (by omega)
        have f9 : u 9 = .slice (some ⟨zb, zo, none⟩) nz cz := hf 9 (by omega)
        have f10 : u 10 = .int .i64 (nz : Int) := hf 10 (by omega)
        obtain ⟨G11, c11, F11, f11, l11, n11, g11, k11⟩ := hf 11 (by omega)
        have f12 : u 12 = u 3 := hc 12 3 (by omega) rfl
        have f13 : u 13 = u 7 := hc 13 7 (by omega) rfl
        have f14 : u 14 = u 11 := hc 14 11 (by omega) rfl

        rw [List.length_replicate] at f3 l3 k3 f11 l11 k11
        rw [hnz] at f7 l7 k7
        have hne1 : G3 ≠ G7 := fun e => hp 3 7 (by omega) (by omega) (by omega) rfl rfl G3 (by rw [f3]; rfl) (by rw [f7, e]; rfl)
        have hne2 : G3 ≠ G11 := fun e => hp 3 11 (by omega) (by omega) (by omega) rfl rfl G3 (by rw [f3]; rfl) (by rw [f11, e]; rfl)
        have hne3 : G7 ≠ G11 := fun e => hp 7 11 (by omega) (by omega) (by omega) rfl rfl G7 (by rw [f7]; rfl) (by rw [f11, e]; rfl)
        have HG3 := hide g3
        have HG7 := hide g7
        have HG11 := hide g11
        have HK3 := hide k3
        have HK7 := hide k7
        have HK11 := hide k11
        have HBZ := hide hb
        simp only [putOps, Act.put, List.setIfInBounds_toArray, List.set_cons_zero, List.set_cons_succ, Nat.reduceAdd, f12, f13, f14, f0, f1, f2, f3, f4, f5, f6, f7, f8, f9, f10, f11]
        clear f12 f13 f14 f0 f1 f2 f3 f4 f5 f6 f7 f8 f9 f10 f11 hf hp hc

        clear g3 g7 g11 k3 k7 k11 hb hmk r0 r1 e0 e1
        obtain ⟨Wr, hWr⟩ : ∃ Wr, Wr = wr := ⟨_, rfl⟩
        subst hWr
        go_wp2
        go_loopw [67] (fun i w5 => ∃ k : Nat, k ≤ nz ∧ i = .int .i64 k ∧ w5.rowIs G11 3 c11 (fun j => if j < k then .int .i64 1 else F11 j) ∧ But G11 wz w5 ∧ Below 0 wz w5) (fun i _ => nz - (intOf i).toNat)
        case atStart => exact ⟨0, Nat.zero_le _, rfl, HG11.out.congr (fun j _ => by simp), But.refl _ _, Below.refl _ _⟩
        case round =>
          obtain ⟨k, hk, rfl, hrow, hB, h0⟩ := hrel
          have HR := hide hrow
          have HB := hide hB
          have H0 := hide h0
          clear hrow hB h0
          by_cases hklt : k < nz
          · have hr := HR.out.cell (i := k) (by omega)
            have hfz := HR.out.frozen k
            have i5 : (0 : Int) ≤ (k : Int) := Int.natCast_nonneg _
            have i6 : (k : Int) < (nz : Int) := by omega
            go_wp2
            go_roundw
            case rel =>
              refine ⟨k + 1, by omega, by go_num, (HR.out.set k (.int .i64 1)).congr (fun j _ => ?_), HB.out.set k _, H0.out.setCell (p := ⟨G11, k, none⟩) (Nat.zero_le _) _⟩
              by_cases e1 : j = k
              · subst e1; simp
              · by_cases e2 : j < k
                · rw [if_neg e1, if_pos e2, if_pos (by omega)]
                · rw [if_neg e1, if_neg e2, if_neg (by omega)]
            case measure => simp [intOf]; omega
          · have hkn : k = nz := by omega
            have hs0 := HS0.out
            obtain ⟨W5, hW5⟩ : ∃ W5, W5 = wr := ⟨_, rfl⟩
            subst hW5
            have hb5 : Below W0.heap.size W0 W5 := HBZ.out.trans ⟨H0.out.os, H0.out.tape, H0.out.output, H0.out.size, fun i hi => HB.out.1 i (by omega)⟩
            have hr3 := HG3.out.of_block (HB.out.1 G3 hne2)
            have hr7 := HG7.out.of_block (HB.out.1 G7 hne3)
            obtain ⟨db, dof, hda, hdb, hdc⟩ := HD5.out.1.at (by have h1 := HJ.out.len.2 s hlt; rw [← HVS.out] at h1; have h2 := HD5.out.1.1; simp only at h1; omega)
            subst hda
            have hdl : dl = nz := by have h1 := HJ.out.len.2 s hlt; rw [← HVS.out] at h1; have h2 := HD5.out.1.1; simp only at h1; omega
            have hdim : ds[p]?.getD 0 = (K s : Int) := by have h1 := HJ.out.dim hlt hpl; rw [← HVS.out, if_pos rfl] at h1; exact h1
            have hbm := beg_mono K (s := s + 1) (t := m) (by omega)
            have hLp := HJ.out.at
            have hLb := HL5.out.bd p (by omega)
            rw [hLp] at hLb
            rw [show beg K (s + 1) = beg K s + K s from rfl] at hbm
            obtain ⟨N0, hN0⟩ : ∃ N0, N0 = beg K s := ⟨_, rfl⟩
            obtain ⟨K0, hK0⟩ : ∃ K0, K0 = K s := ⟨_, rfl⟩
            have cd0 := hdc p (by omega)
            rw [hdim, ← hK0] at cd0
            rw [← hN0, ← hK0] at hbm
            rw [← hN0]
            have hNK : N0 + K0 ≤ 9223372036854775807 := by omega
            have HCL := hide (cut_lists (p := p) (n0 := N0) (n1 := N0 + K0) (v0 := (N0 : Int)) (v1 := (N0 : Int) + (K0 : Int)) hr3 hr7 HR.out HK3.out HK7.out (fun j hj => by simp [hkn, hj]) hnz l3 l7 l11 hne1 hne2 hne3 HL5.out.2.2.1 rfl (by omega) hNK (by omega) (by omega))
            have w3a := hr3.cell (i := p) (by omega)
            have w3f := hr3.frozen p
            have ha6 := (HNB.out.below hb5).set (p := ⟨G3, p, none⟩) (by simp; omega) (.int .i64 (N0 : Int))
            have hlA := HAQ.out.lt
            have ha7 := ((HAQ.out.below hb5).set (p := ⟨G3, p, none⟩) (by simp; omega) (.int .i64 (N0 : Int))).set (p := ⟨G7, p, none⟩) (by simp; omega) (.int .i64 ((N0 : Int) + (K0 : Int)))
            have ha8 := ha6.set (p := ⟨G7, p, none⟩) (by simp; omega) (.int .i64 ((N0 : Int) + (K0 : Int)))
            have hb6 : Below W0.heap.size W0 (W5.setCell ⟨G3, p, none⟩ (.int .i64 (N0 : Int))) := hb5.setCell (p := ⟨G3, p, none⟩) n3 _
            have hb7 : Below W0.heap.size W0 ((W5.setCell ⟨G3, p, none⟩ (.int .i64 (N0 : Int))).setCell ⟨G7, p, none⟩ (.int .i64 ((N0 : Int) + (K0 : Int)))) := hb6.setCell (p := ⟨G7, p, none⟩) n7 _
            have cd := (hb6.cell (p := ⟨db, dof + p, none⟩) hdb).trans cd0
            have hr7' := hr7.setOther (a := ⟨G3, p, none⟩) (Ne.symm hne1) (.int .i64 (N0 : Int))
            have w7a := hr7'.cell (i := p) (by omega)
            have w7f := hr7'.frozen p
            obtain ⟨⟨e0, e1⟩, _⟩ := ha6.cells
            obtain ⟨⟨r0, r1⟩, _⟩ := ha7.cells
            obtain ⟨W7, hW7⟩ : ∃ W7, W7 = (W5.setCell ⟨G3, p, none⟩ (.int .i64 (N0 : Int))).setCell ⟨G7, p, none⟩ (.int .i64 ((N0 : Int) + (K0 : Int))) := ⟨_, rfl⟩
            have HB7 := hide hb7
            have HA7 := hide ha7
            have HA8 := hide ha8
            rw [← hW7] at HB7 HA7 HA8 HCL
            have hDE := cuts_doE HJ.out hlt
            rw [hnz, ← hN0, ← hK0, ← HN.out] at hDE
            obtain ⟨hd1, _, _⟩ := cuts_dims HJ.out hlt
            rw [hnz, ← hN0, ← hK0, ← HVS.out] at hd1
            have hd2 := cuts_back (X := X) HJ.out hlt (by rw [← HVS.out]; exact HX5.out.1)
            rw [hnz, ← hN0, ← hK0, ← HN.out, ← HJL.out] at hd2
            have hxl : (prod ds).toNat = xl := by have h1 := (arrE_ok (HJ.out.right s hlt)).2; rw [← HVS.out] at h1; simp only at h1; omega
            have HO := hide (one_gen 13 0 (.slice none 0 0) (.slice none 0 0) (.slice (some ⟨G3, 0, none⟩) nz c3) (.slice (some ⟨G7, 0, none⟩) nz c7) (.slice (some ⟨G11, 0, none⟩) nz c11) (some ⟨zb, zo, none⟩) nz cz (some ⟨G, 0, none⟩) N N ds (X s) xl W7 (fun W b hW hA => by
              have hx := do_13 0 none 0 0 [] none 0 0 [] (some ⟨G3, 0, none⟩) nz c3 (cutLo nz p N0) (some ⟨G7, 0, none⟩) nz c7 (cutHi L p (N0 + K0)) (some ⟨G11, 0, none⟩) nz c11 (List.replicate nz 1) L N W7 (lst_none _) (lst_none _) HCL.out.1 HCL.out.2.1 HCL.out.2.2 (by omega) (by omega) (by omega) (by omega) (by omega) hDE W b 0 1 (some ⟨zb, zo, none⟩) nz cz (some ⟨G, 0, none⟩) N JL hW hA.cells.1.1 hA.cells.1.2 ⟨(HL5.out.below HB7.out).below hW, HNC.out, fun e => by cases e⟩ ((HJ5.out.below HB7.out).below hW) (Nat.le_refl _)
              rw [hnz, hd2, hd1, hxl] at hx
              exact hx))
            have HN0 := hide hN0
            have HK0 := hide hK0
            have hw7 := hW7
            have i7 : (0 : Int) ≤ (p : Int) := Int.natCast_nonneg _
            have i8 : (p : Int) < (nz : Int) := by omega
            have i9 : (p : Int) < (dl : Int) := by omega
            clear hDE hd1 hd2 hxl ha6 ha7 ha8 hb5 hb6 hb7 hr3 hr7 hr7' hdc hdb cd0 hN0 hK0 hdim hLp hbm hkn hdl hs0
            go_wp2_with (first
              | (go_at_call 13; refine (sameArr_true Z2 nz2 cz2 (some ⟨db, dof, none⟩) dl dc ds xl (some ⟨G2, 0, none⟩) xl xa xc (X s) _ HS1.out HS2.out HS3.out HS4.out).mono ?_; rintro e w9 ⟨rfl, hb⟩; have HBE := hide (Below.on HB9.out hb); clear hb)
              | (go_at_call 12; rw [← hW7]; refine HO.out.mono ?_; rintro e w8 ⟨⟨Z2, nz2, cz2, G2, rfl, ⟨hi1, hnc2⟩, hi2⟩, hb⟩; have hal := (Below.refl w8.heap.size w8).alloc (Nat.le_refl _) (.cells #[.slice Z2 nz2 cz2, .slice (some ⟨G2, 0, none⟩) xl xl] 25); have HB9 := hide (Below.on hb hal); have HA9 := hide (HA8.out.below HB9.out); have HN9 := hide (ArrAt.new w8 (.slice Z2 nz2 cz2) (.slice (some ⟨G2, 0, none⟩) xl xl)); have HS1 := hide (hi1.below hal); have HS3 := hide (hi2.below hal); have HS2 := hide ((HD5.out.1.below HB7.out).below HB9.out); have HS4 := hide ((HX5.out.below HB7.out).below HB9.out); obtain ⟨⟨p0, p1⟩, _⟩ := HA9.out.cells; obtain ⟨⟨q0, q1⟩, _⟩ := HN9.out.cells; clear hb hal hi1 hi2 hW7))
            go_roundw
            case rel =>
              refine ⟨s + 1, by omega, by go_num, ?_, Below.on (Below.on (Below.on HWR.out HB0.out) HB7.out) HBE.out⟩
              rw [show beg K (s + 1) = beg K s + K s from rfl, ← HN0.out, ← HK0.out]
              push_cast
              rfl
            case measure => simp [intOf]; omega
    · have hsm : s = m := by omega
      subst hsm
      have z0 := (HWR.out.cell (p := ⟨zb, zo + p, none⟩) (lt_of_cell HZP.out)).trans HZP.out
      have i1 : (0 : Int) ≤ (p : Int) := Int.natCast_nonneg _
      have i2 : (p : Int) < (nz : Int) := by omega
      have q1 : (((beg K s : Nat) : Int) == ((beg K s : Nat) : Int)) = true := by simp
      go_wp2
      go_ret
      exact ⟨rfl, Below.on HB8.out HWR.out⟩
end Go.Proofs.YteoobeldmicjhaaGreat.V
namespace Go.Proofs.YteoobeldmicjhaaGreat.V
set_option maxRecDepth 20000
open Go.RowKit

theorem arrayCuts_walk (A : Option Addr) (m cap : Nat) (v : Nat → ArrV) (X : Nat → List Int) (at0 : Int) (w : World) (hat : -9223372036854775808 ≤ at0 ∧ at0 ≤ 9223372036854775807) (hA : Arrs w A m v) (hX : ∀ j, j < m → Ints w (v j).xa (v j).xl (X j)) (hXc : ∀ j, j < m → (v j).xl ≤ (v j).xc) (hm : m ≤ 1048576) :
    Calls Tryz.prog 4 #[.slice A m cap, .int .i64 at0] w fun e w' => e = .returned (.bool true) ∧ Below w.heap.size w w' := by
  by_cases hE : doE 17 [] [at0] [] [] [] m v = 0
  · obtain ⟨p, f, rs, K, fr, B, e, hJ⟩ := joined_of hE
    have e' : at0 = (p : Int) := by simpa using e
    subst e'
    have hpos := hJ.pos
    rcases hA with h0 | ⟨b, off, rfl, h⟩
    · omega
    · exact cuts_good b off m cap v X p w h hX hXc hm hE rfl hJ
  · exact cuts_err A m cap v at0 w hat hA hm hE
end Go.Proofs.YteoobeldmicjhaaGreat.V
